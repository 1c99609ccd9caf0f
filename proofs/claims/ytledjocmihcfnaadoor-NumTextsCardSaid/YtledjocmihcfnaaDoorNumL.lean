/- The walks of layer 2's statements. -/
import Derived.Test.YtledjocmihcfnaaDoorNumR
namespace Go.Proofs.YtledjocmihcfnaaDoor
open Go.RowKit Fl

theorem numWholes_walk (a b : Int) (w : World) (a1 : -9223372036854775808 ≤ a) (a2 : a ≤ 9223372036854775807) (b1 : -9223372036854775808 ≤ b) (b2 : b ≤ 9223372036854775807) (ht : Tab w) (hg : gtab < w.heap.size) :
    Calls Tryd.prog 3 #[.int .i64 a, .int .i64 b] w fun e w' => e = .returned (.bool true) ∧ Below w.heap.size w w' := by
  have HT := Lib.hid ht
  have HG := Lib.hid hg
  clear ht hg
  go_enter Tryd.func3, Tryd.ntmps3
  go_wp2_with fail
  refine (reckoned_any _ HT.out HG.out).mono ?_
  rintro e x1 ⟨rfl, q1⟩
  go_wp2_with fail
  refine (nadd_any a b _ (by omega) (by omega) (by omega) (by omega)).mono ?_
  rintro e w' ⟨rfl, rfl⟩
  go_wp2_with fail
  refine (radd_any a b _ (by omega) (by omega) (by omega) (by omega)).mono ?_
  rintro e w' ⟨rfl, rfl⟩
  go_wp2_with fail
  refine (nsub_any a b _ (by omega) (by omega) (by omega) (by omega)).mono ?_
  rintro e w' ⟨rfl, rfl⟩
  go_wp2_with fail
  refine (rsub_any a b _ (by omega) (by omega) (by omega) (by omega)).mono ?_
  rintro e w' ⟨rfl, rfl⟩
  go_wp2_with fail
  refine (nmul_any a b _ (by omega) (by omega) (by omega) (by omega)).mono ?_
  rintro e w' ⟨rfl, rfl⟩
  go_wp2_with fail
  refine (rmul_any a b _ (by omega) (by omega) (by omega) (by omega)).mono ?_
  rintro e w' ⟨rfl, rfl⟩
  go_wp2
  go_ret
  exact ⟨rbool (by simp), q1⟩

theorem numParts_walk (a b : Int) (w : World) (a1 : -9223372036854775808 ≤ a) (a2 : a ≤ 9223372036854775807) (b1 : -9223372036854775808 ≤ b) (b2 : b ≤ 9223372036854775807) (ht : Tab w) (hg : gtab < w.heap.size) :
    Calls Tryd.prog 4 #[.int .i64 a, .int .i64 b] w fun e w' => e = .returned (.bool true) ∧ Below w.heap.size w w' := by
  have HT := Lib.hid ht
  have HG := Lib.hid hg
  clear ht hg
  by_cases hb : b = 0
  · subst hb
    go_enter Tryd.func4, Tryd.ntmps4
    go_wp2_with fail
    refine (ndiv_zero a _).mono ?_
    rintro e w' ⟨rfl, rfl⟩
    go_wp2_with fail
    refine (rdiv_zero a _ (by omega) (by omega)).mono ?_
    rintro e w' ⟨rfl, rfl⟩
    go_wp2_with fail
    refine (nneg_any a _ (by omega) (by omega)).mono ?_
    rintro e w' ⟨rfl, rfl⟩
    go_wp2_with fail
    refine (rneg_any a _ (by omega) (by omega)).mono ?_
    rintro e w' ⟨rfl, rfl⟩
    go_wp2_with fail
    refine (reckoned_any _ HT.out HG.out).mono ?_
    rintro e x1 ⟨rfl, q1⟩
    go_wp2
    go_ret
    exact ⟨rbool (by simp), q1⟩
  · go_enter Tryd.func4, Tryd.ntmps4
    go_wp2_with fail
    refine (ndiv_any a b _ (by omega) (by omega) (by omega) (by omega) hb).mono ?_
    rintro e w' ⟨rfl, rfl⟩
    go_wp2_with fail
    refine (rdiv_any a b _ (by omega) (by omega) (by omega) (by omega) hb).mono ?_
    rintro e w' ⟨rfl, rfl⟩
    go_wp2_with fail
    refine (nneg_any a _ (by omega) (by omega)).mono ?_
    rintro e w' ⟨rfl, rfl⟩
    go_wp2_with fail
    refine (rneg_any a _ (by omega) (by omega)).mono ?_
    rintro e w' ⟨rfl, rfl⟩
    go_wp2_with fail
    refine (reckoned_any _ HT.out HG.out).mono ?_
    rintro e x1 ⟨rfl, q1⟩
    go_wp2
    go_ret
    exact ⟨rbool (by simp), q1⟩

theorem nadd_yes (a b : Int) (w : World) (a1 : -9223372036854775808 ≤ a) (a2 : a ≤ 9223372036854775807) (b1 : -9223372036854775808 ≤ b) (b2 : b ≤ 9223372036854775807) (h : -9223372036854775808 ≤ a + b ∧ a + b ≤ 9223372036854775807) :
    Calls Tryd.prog 11 #[.int .i64 a, .int .i64 b] w fun e w' => e = .returned (.tuple #[.int .i64 (a + b), .bool true]) ∧ w = w' := by
  have := nadd_any a b w a1 a2 b1 b2
  rw [fit_in h] at this
  exact this
theorem nadd_no (a b : Int) (w : World) (a1 : -9223372036854775808 ≤ a) (a2 : a ≤ 9223372036854775807) (b1 : -9223372036854775808 ≤ b) (b2 : b ≤ 9223372036854775807) (h : ¬ (-9223372036854775808 ≤ a + b ∧ a + b ≤ 9223372036854775807)) :
    Calls Tryd.prog 11 #[.int .i64 a, .int .i64 b] w fun e w' => e = .returned (.tuple #[.int .i64 0, .bool false]) ∧ w = w' := by
  have := nadd_any a b w a1 a2 b1 b2
  rw [fit_out (by omega)] at this
  exact this
theorem nsub_back (a b : Int) (w : World) (a1 : -9223372036854775808 ≤ a) (a2 : a ≤ 9223372036854775807) (b1 : -9223372036854775808 ≤ b) (b2 : b ≤ 9223372036854775807) (h : -9223372036854775808 ≤ a + b ∧ a + b ≤ 9223372036854775807) :
    Calls Tryd.prog 13 #[.int .i64 (a + b), .int .i64 b] w fun e w' => e = .returned (.tuple #[.int .i64 a, .bool true]) ∧ w = w' := by
  have := nsub_any (a + b) b w h.1 h.2 b1 b2
  rw [show a + b - b = a from by omega, fit_in ⟨a1, a2⟩] at this
  exact this
theorem nsub_none (a : Int) (w : World) (a1 : -9223372036854775808 ≤ a) (a2 : a ≤ 9223372036854775807) :
    Calls Tryd.prog 13 #[.int .i64 a, .int .i64 0] w fun e w' => e = .returned (.tuple #[.int .i64 a, .bool true]) ∧ w = w' := by
  have := nsub_any a 0 w a1 a2 (by omega) (by omega)
  rw [show a - 0 = a from by omega, fit_in ⟨a1, a2⟩] at this
  exact this
theorem nmul_yes (a b : Int) (w : World) (a1 : -9223372036854775808 ≤ a) (a2 : a ≤ 9223372036854775807) (b1 : -9223372036854775808 ≤ b) (b2 : b ≤ 9223372036854775807) (h : -9223372036854775808 ≤ a * b ∧ a * b ≤ 9223372036854775807) :
    Calls Tryd.prog 15 #[.int .i64 a, .int .i64 b] w fun e w' => e = .returned (.tuple #[.int .i64 (a * b), .bool true]) ∧ w = w' := by
  have := nmul_any a b w a1 a2 b1 b2
  rw [fit_in h] at this
  exact this
theorem nmul_no (a b : Int) (w : World) (a1 : -9223372036854775808 ≤ a) (a2 : a ≤ 9223372036854775807) (b1 : -9223372036854775808 ≤ b) (b2 : b ≤ 9223372036854775807) (h : ¬ (-9223372036854775808 ≤ a * b ∧ a * b ≤ 9223372036854775807)) :
    Calls Tryd.prog 15 #[.int .i64 a, .int .i64 b] w fun e w' => e = .returned (.tuple #[.int .i64 0, .bool false]) ∧ w = w' := by
  have := nmul_any a b w a1 a2 b1 b2
  rw [fit_out (by omega)] at this
  exact this
theorem ndiv_back (a b : Int) (w : World) (a1 : -9223372036854775808 ≤ a) (a2 : a ≤ 9223372036854775807) (b1 : -9223372036854775808 ≤ b) (b2 : b ≤ 9223372036854775807) (hb : b ≠ 0) (h : -9223372036854775808 ≤ a * b ∧ a * b ≤ 9223372036854775807) :
    Calls Tryd.prog 17 #[.int .i64 (a * b), .int .i64 b] w fun e w' => e = .returned (.tuple #[.int .i64 a, .bool true]) ∧ w = w' := by
  have := ndiv_any (a * b) b w h.1 h.2 b1 b2 hb
  rw [Int.mul_tdiv_cancel _ hb, fit_in ⟨a1, a2⟩] at this
  exact this

theorem numBack_walk (a b : Int) (w : World) (a1 : -9223372036854775808 ≤ a) (a2 : a ≤ 9223372036854775807) (b1 : -9223372036854775808 ≤ b) (b2 : b ≤ 9223372036854775807) (ht : Tab w) (hg : gtab < w.heap.size) :
    Calls Tryd.prog 5 #[.int .i64 a, .int .i64 b] w fun e w' => e = .returned (.bool true) ∧ Below w.heap.size w w' := by
  have HT := Lib.hid ht
  have HG := Lib.hid hg
  clear ht hg
  by_cases hs : -9223372036854775808 ≤ a + b ∧ a + b ≤ 9223372036854775807
  · have HS := Lib.hid hs
    clear hs
    by_cases hb : b = 0
    · subst hb
      go_enter Tryd.func5, Tryd.ntmps5
      go_wp2_with fail
      refine (nadd_yes a 0 _ (by omega) (by omega) (by omega) (by omega) (by simpa using HS.out)).mono ?_
      rintro e w' ⟨rfl, rfl⟩
      go_wp2_with fail
      refine (nsub_none a _ (by omega) (by omega)).mono ?_
      rintro e w' ⟨rfl, rfl⟩
      go_wp2_with fail
      refine (nmul_yes a 0 _ (by omega) (by omega) (by omega) (by omega) (by omega)).mono ?_
      rintro e w' ⟨rfl, rfl⟩
      go_wp2_with fail
      refine (reckoned_any _ HT.out HG.out).mono ?_
      rintro e x1 ⟨rfl, q1⟩
      go_wp2
      go_ret
      exact ⟨rfl, q1⟩
    · have hb0 : (b == 0) = false := by rw [beq_eq_false_iff_ne]; exact hb
      by_cases hm : -9223372036854775808 ≤ a * b ∧ a * b ≤ 9223372036854775807
      · have HM := Lib.hid hm
        clear hm
        go_enter Tryd.func5, Tryd.ntmps5
        go_wp2_with fail
        refine (nadd_yes a b _ (by omega) (by omega) (by omega) (by omega) (HS.out)).mono ?_
        rintro e w' ⟨rfl, rfl⟩
        go_wp2_with fail
        refine (nsub_back a b _ (by omega) (by omega) (by omega) (by omega) (HS.out)).mono ?_
        rintro e w' ⟨rfl, rfl⟩
        go_wp2_with fail
        refine (nmul_yes a b _ (by omega) (by omega) (by omega) (by omega) (HM.out)).mono ?_
        rintro e w' ⟨rfl, rfl⟩
        go_wp2_with fail
        refine (ndiv_back a b _ (by omega) (by omega) (by omega) (by omega) (by omega) (HM.out)).mono ?_
        rintro e w' ⟨rfl, rfl⟩
        go_wp2_with fail
        refine (reckoned_any _ HT.out HG.out).mono ?_
        rintro e x1 ⟨rfl, q1⟩
        go_wp2
        go_ret
        exact ⟨rfl, q1⟩
      · have HM := Lib.hid hm
        clear hm
        go_enter Tryd.func5, Tryd.ntmps5
        go_wp2_with fail
        refine (nadd_yes a b _ (by omega) (by omega) (by omega) (by omega) (HS.out)).mono ?_
        rintro e w' ⟨rfl, rfl⟩
        go_wp2_with fail
        refine (nsub_back a b _ (by omega) (by omega) (by omega) (by omega) (HS.out)).mono ?_
        rintro e w' ⟨rfl, rfl⟩
        go_wp2_with fail
        refine (nmul_no a b _ (by omega) (by omega) (by omega) (by omega) (HM.out)).mono ?_
        rintro e w' ⟨rfl, rfl⟩
        go_wp2_with fail
        refine (reckoned_any _ HT.out HG.out).mono ?_
        rintro e x1 ⟨rfl, q1⟩
        go_wp2
        go_ret
        exact ⟨rfl, q1⟩
  · have HS := Lib.hid hs
    clear hs
    by_cases hb : b = 0
    · subst hb
      go_enter Tryd.func5, Tryd.ntmps5
      go_wp2_with fail
      refine (nadd_no a 0 _ (by omega) (by omega) (by omega) (by omega) (by simpa using HS.out)).mono ?_
      rintro e w' ⟨rfl, rfl⟩
      go_wp2_with fail
      refine (nmul_yes a 0 _ (by omega) (by omega) (by omega) (by omega) (by omega)).mono ?_
      rintro e w' ⟨rfl, rfl⟩
      go_wp2_with fail
      refine (reckoned_any _ HT.out HG.out).mono ?_
      rintro e x1 ⟨rfl, q1⟩
      go_wp2
      go_ret
      exact ⟨rfl, q1⟩
    · have hb0 : (b == 0) = false := by rw [beq_eq_false_iff_ne]; exact hb
      by_cases hm : -9223372036854775808 ≤ a * b ∧ a * b ≤ 9223372036854775807
      · have HM := Lib.hid hm
        clear hm
        go_enter Tryd.func5, Tryd.ntmps5
        go_wp2_with fail
        refine (nadd_no a b _ (by omega) (by omega) (by omega) (by omega) (HS.out)).mono ?_
        rintro e w' ⟨rfl, rfl⟩
        go_wp2_with fail
        refine (nmul_yes a b _ (by omega) (by omega) (by omega) (by omega) (HM.out)).mono ?_
        rintro e w' ⟨rfl, rfl⟩
        go_wp2_with fail
        refine (ndiv_back a b _ (by omega) (by omega) (by omega) (by omega) (by omega) (HM.out)).mono ?_
        rintro e w' ⟨rfl, rfl⟩
        go_wp2_with fail
        refine (reckoned_any _ HT.out HG.out).mono ?_
        rintro e x1 ⟨rfl, q1⟩
        go_wp2
        go_ret
        exact ⟨rfl, q1⟩
      · have HM := Lib.hid hm
        clear hm
        go_enter Tryd.func5, Tryd.ntmps5
        go_wp2_with fail
        refine (nadd_no a b _ (by omega) (by omega) (by omega) (by omega) (HS.out)).mono ?_
        rintro e w' ⟨rfl, rfl⟩
        go_wp2_with fail
        refine (nmul_no a b _ (by omega) (by omega) (by omega) (by omega) (HM.out)).mono ?_
        rintro e w' ⟨rfl, rfl⟩
        go_wp2_with fail
        refine (reckoned_any _ HT.out HG.out).mono ?_
        rintro e x1 ⟨rfl, q1⟩
        go_wp2
        go_ret
        exact ⟨rfl, q1⟩

theorem numFloats_walk (a b : Nat) (w : World) (ha : a < 18446744073709551616) (hb : b < 18446744073709551616) (ht : Tab w) (hg : gtab < w.heap.size) :
    Calls Tryd.prog 6 #[.int .u64 a, .int .u64 b] w fun e w' => e = .returned (.bool true) ∧ Below w.heap.size w w' := by
  have HT := Lib.hid ht
  have HG := Lib.hid hg
  clear ht hg
  go_enter Tryd.func6, Tryd.ntmps6
  go_wp2_with fail
  refine (reckoned_any _ HT.out HG.out).mono ?_
  rintro e x1 ⟨rfl, q1⟩
  go_wp2_with fail
  refine ((nfadd_any a b _).mono fun e w' hh => And.intro hh.1 (below_or hh.2)).mono ?_
  rintro e x2 ⟨rfl, q2⟩
  go_wp2_with fail
  refine (rfadd_any a b _ ha hb).mono ?_
  rintro e w' ⟨rfl, rfl⟩
  go_wp2_with fail
  refine ((nfsub_any a b _).mono fun e w' hh => And.intro hh.1 (below_or hh.2)).mono ?_
  rintro e x3 ⟨rfl, q3⟩
  go_wp2_with fail
  refine (rfsub_any a b _ ha hb).mono ?_
  rintro e w' ⟨rfl, rfl⟩
  go_wp2_with fail
  refine ((nfmul_any a b _).mono fun e w' hh => And.intro hh.1 (below_or hh.2)).mono ?_
  rintro e x4 ⟨rfl, q4⟩
  go_wp2_with fail
  refine (rfmul_any a b _ ha hb).mono ?_
  rintro e w' ⟨rfl, rfl⟩
  go_wp2_with fail
  refine ((nfdiv_any a b _).mono fun e w' hh => And.intro hh.1 (below_or hh.2)).mono ?_
  rintro e x5 ⟨rfl, q5⟩
  go_wp2_with fail
  refine (rfdiv_any a b _ ha hb).mono ?_
  rintro e w' ⟨rfl, rfl⟩
  go_wp2_with fail
  refine (nfneg_any a ha _).mono ?_
  rintro e w' ⟨rfl, rfl⟩
  go_wp2_with fail
  refine (rfneg_any a ha _).mono ?_
  rintro e w' ⟨rfl, rfl⟩
  go_wp2_with fail
  refine (nplain_any a _).mono ?_
  rintro e w' ⟨rfl, rfl⟩
  go_wp2_with fail
  refine (rplain_any a ha _).mono ?_
  rintro e w' ⟨rfl, rfl⟩
  go_wp2
  go_ret
  exact ⟨rbool (by simp), ((((((((q1).trans ((q2).mono ((q1).size)))).trans ((q3).mono ((((q1).trans ((q2).mono ((q1).size)))).size)))).trans ((q4).mono ((((((q1).trans ((q2).mono ((q1).size)))).trans ((q3).mono ((((q1).trans ((q2).mono ((q1).size)))).size)))).size)))).trans ((q5).mono ((((((((q1).trans ((q2).mono ((q1).size)))).trans ((q3).mono ((((q1).trans ((q2).mono ((q1).size)))).size)))).trans ((q4).mono ((((((q1).trans ((q2).mono ((q1).size)))).trans ((q3).mono ((((q1).trans ((q2).mono ((q1).size)))).size)))).size)))).size)))⟩

theorem rless_any (a b : Nat) (w : World) (ha : a < 18446744073709551616) (hb : b < 18446744073709551616) :
    Calls Tryd.prog 34 #[.int .u64 a, .int .u64 b] w fun e w' => e = .returned (.bool (decide (rg a ≤ I ∧ rg b ≤ I ∧ row a < row b))) ∧ w = w' := by
  by_cases ca : I < rg a
  · have hk := kindN_nan ca
    rw [decide_eq_false (p := _) (fun h => absurd h.1 (by omega))]
    clear ca
    go_enter Tryd.func34, Tryd.ntmps34
    go_wp2_with fail
    refine (rkind_any a _ ha).mono ?_
    rintro e w' ⟨rfl, rfl⟩
    go_wp2
    go_ret
    exact ⟨rfl, rfl⟩
  · have ka : decide ((0 : Int) < kindN a) = true := by have := kindN_pos (a := a) (by omega); rw [decide_eq_true_eq]; omega
    by_cases cb : I < rg b
    · have hk := kindN_nan cb
      rw [decide_eq_false (p := _) (fun h => absurd h.2.1 (by omega))]
      clear ca cb
      go_enter Tryd.func34, Tryd.ntmps34
      go_wp2_with fail
      refine (rkind_any a _ ha).mono ?_
      rintro e w' ⟨rfl, rfl⟩
      go_wp2_with fail
      refine (rkind_any b _ hb).mono ?_
      rintro e w' ⟨rfl, rfl⟩
      go_wp2
      go_ret
      exact ⟨rfl, rfl⟩
    · have kb : decide ((0 : Int) < kindN b) = true := by have := kindN_pos (a := b) (by omega); rw [decide_eq_true_eq]; omega
      have he : decide (rg a ≤ I ∧ rg b ≤ I ∧ row a < row b) = decide (row a < row b) := by rw [decide_eq_decide]; exact ⟨fun h => h.2.2, fun h => ⟨by omega, by omega, h⟩⟩
      rw [he]
      clear ca cb he
      go_enter Tryd.func34, Tryd.ntmps34
      go_wp2_with fail
      refine (rkind_any a _ ha).mono ?_
      rintro e w' ⟨rfl, rfl⟩
      go_wp2_with fail
      refine (rkind_any b _ hb).mono ?_
      rintro e w' ⟨rfl, rfl⟩
      go_wp2_with fail
      refine (row_any a ha _).mono ?_
      rintro e w' ⟨rfl, rfl⟩
      go_wp2_with fail
      refine (row_any b hb _).mono ?_
      rintro e w' ⟨rfl, rfl⟩
      go_wp2
      go_ret
      exact ⟨rfl, rfl⟩
theorem rsame_any (a b : Nat) (w : World) (ha : a < 18446744073709551616) (hb : b < 18446744073709551616) :
    Calls Tryd.prog 36 #[.int .u64 a, .int .u64 b] w fun e w' => e = .returned (.bool (decide (rg a ≤ I ∧ rg b ≤ I ∧ row a = row b))) ∧ w = w' := by
  by_cases ca : I < rg a
  · have hk := kindN_nan ca
    rw [decide_eq_false (p := _) (fun h => absurd h.1 (by omega))]
    clear ca
    go_enter Tryd.func36, Tryd.ntmps36
    go_wp2_with fail
    refine (rkind_any a _ ha).mono ?_
    rintro e w' ⟨rfl, rfl⟩
    go_wp2
    go_ret
    exact ⟨rfl, rfl⟩
  · have ka : decide ((0 : Int) < kindN a) = true := by have := kindN_pos (a := a) (by omega); rw [decide_eq_true_eq]; omega
    by_cases cb : I < rg b
    · have hk := kindN_nan cb
      rw [decide_eq_false (p := _) (fun h => absurd h.2.1 (by omega))]
      clear ca cb
      go_enter Tryd.func36, Tryd.ntmps36
      go_wp2_with fail
      refine (rkind_any a _ ha).mono ?_
      rintro e w' ⟨rfl, rfl⟩
      go_wp2_with fail
      refine (rkind_any b _ hb).mono ?_
      rintro e w' ⟨rfl, rfl⟩
      go_wp2
      go_ret
      exact ⟨rfl, rfl⟩
    · have kb : decide ((0 : Int) < kindN b) = true := by have := kindN_pos (a := b) (by omega); rw [decide_eq_true_eq]; omega
      have he : decide (rg a ≤ I ∧ rg b ≤ I ∧ row a = row b) = decide (row a = row b) := by rw [decide_eq_decide]; exact ⟨fun h => h.2.2, fun h => ⟨by omega, by omega, h⟩⟩
      rw [he]
      clear ca cb he
      go_enter Tryd.func36, Tryd.ntmps36
      go_wp2_with fail
      refine (rkind_any a _ ha).mono ?_
      rintro e w' ⟨rfl, rfl⟩
      go_wp2_with fail
      refine (rkind_any b _ hb).mono ?_
      rintro e w' ⟨rfl, rfl⟩
      go_wp2_with fail
      refine (row_any a ha _).mono ?_
      rintro e w' ⟨rfl, rfl⟩
      go_wp2_with fail
      refine (row_any b hb _).mono ?_
      rintro e w' ⟨rfl, rfl⟩
      go_wp2
      go_ret
      exact ⟨rbool (by first | rfl | rw [Bool.eq_iff_iff, beq_iff_eq, decide_eq_true_iff]), rfl⟩

theorem numOrders_walk (a b : Nat) (w : World) (ha : a < 18446744073709551616) (hb : b < 18446744073709551616) (ht : Tab w) (hg : gtab < w.heap.size) :
    Calls Tryd.prog 7 #[.int .u64 a, .int .u64 b] w fun e w' => e = .returned (.bool true) ∧ Below w.heap.size w w' := by
  have HT := Lib.hid ht
  have HG := Lib.hid hg
  clear ht hg
  go_enter Tryd.func7, Tryd.ntmps7
  go_wp2_with fail
  refine (reckoned_any _ HT.out HG.out).mono ?_
  rintro e x1 ⟨rfl, q1⟩
  go_wp2_with fail
  refine (nless_any a b _).mono ?_
  rintro e w' ⟨rfl, rfl⟩
  go_wp2_with fail
  refine (rless_any a b _ ha hb).mono ?_
  rintro e w' ⟨rfl, rfl⟩
  go_wp2_with fail
  refine (nsame_any a b _).mono ?_
  rintro e w' ⟨rfl, rfl⟩
  go_wp2_with fail
  refine (rsame_any a b _ ha hb).mono ?_
  rintro e w' ⟨rfl, rfl⟩
  go_wp2_with fail
  refine (nkind_any a ha _).mono ?_
  rintro e w' ⟨rfl, rfl⟩
  go_wp2_with fail
  refine (rkind_any a _ ha).mono ?_
  rintro e w' ⟨rfl, rfl⟩
  go_wp2
  go_ret
  exact ⟨rbool (by simp), q1⟩

theorem nfadd_turn (a b : Nat) (w : World) : Calls Tryd.prog 21 #[.int .u64 b, .int .u64 a] w fun e w' => e = .returned (.int .u64 (fop (Ieee.double.add a b) : Nat)) ∧ (w' = w ∨ w' = w.drew) := by
  rw [add_comm]; exact nfadd_any b a w
theorem nfmul_turn (a b : Nat) (w : World) : Calls Tryd.prog 25 #[.int .u64 b, .int .u64 a] w fun e w' => e = .returned (.int .u64 (fop (Ieee.double.mul a b) : Nat)) ∧ (w' = w ∨ w' = w.drew) := by
  rw [mul_comm]; exact nfmul_any b a w
theorem nfneg_two (a : Nat) (w : World) (h : a < 18446744073709551616) : Calls Tryd.prog 29 #[.int .u64 (fneg a : Nat)] w fun e w' => e = .returned (.int .u64 (plainN a : Nat)) ∧ w = w' := by
  rw [← fneg_fneg h]; exact nfneg_any (fneg a) (plain_lt (flip_lt h)) w
theorem fsub_lt (a b : Nat) : fop (Ieee.double.sub a b) < 18446744073709551616 := fop_lt fun _ e => Ieee.double.sub_lt e
theorem same_t (x y : Nat) (w : World) (h : rg x ≤ I ∧ rg y ≤ I ∧ row x = row y) : Calls Tryd.prog 35 #[.int .u64 x, .int .u64 y] w fun e w' => e = .returned (.bool true) ∧ w = w' := by
  have := nsame_any x y w
  rw [decide_eq_true h] at this
  exact this
theorem same_n (w : World) : Calls Tryd.prog 35 #[.int .u64 (nanN : Nat), .int .u64 (nanN : Nat)] w fun e w' => e = .returned (.bool false) ∧ w = w' := by
  have := nsame_any nanN nanN w
  rw [decide_eq_false (by intro h; exact absurd h.1 (by decide))] at this
  exact this

theorem numTurns_walk (a b : Nat) (w : World) (ha : a < 18446744073709551616) (ht : Tab w) (hg : gtab < w.heap.size) :
    Calls Tryd.prog 8 #[.int .u64 a, .int .u64 b] w fun e w' => e = .returned (.bool true) ∧ Below w.heap.size w w' := by
  have HT := Lib.hid ht
  have HG := Lib.hid hg
  clear ht hg
  have hx := sub_turn a b
  have HF := Lib.hid (fsub_lt a b)
  rcases hx with hx | ⟨hx, hy⟩
  · have HX := Lib.hid hx
    clear hx
    go_enter Tryd.func8, Tryd.ntmps8
    go_wp2_with fail
    refine (reckoned_any _ HT.out HG.out).mono ?_
    rintro e x1 ⟨rfl, q1⟩
    go_wp2_with fail
    refine ((nfadd_any a b _).mono fun e w' hh => And.intro hh.1 (below_or hh.2)).mono ?_
    rintro e x2 ⟨rfl, q2⟩
    go_wp2_with fail
    refine ((nfadd_turn a b _).mono fun e w' hh => And.intro hh.1 (below_or hh.2)).mono ?_
    rintro e x3 ⟨rfl, q3⟩
    go_wp2_with fail
    refine ((nfmul_any a b _).mono fun e w' hh => And.intro hh.1 (below_or hh.2)).mono ?_
    rintro e x4 ⟨rfl, q4⟩
    go_wp2_with fail
    refine ((nfmul_turn a b _).mono fun e w' hh => And.intro hh.1 (below_or hh.2)).mono ?_
    rintro e x5 ⟨rfl, q5⟩
    go_wp2_with fail
    refine (nfneg_any a ha _).mono ?_
    rintro e w' ⟨rfl, rfl⟩
    go_wp2_with fail
    refine (nfneg_two a _ ha).mono ?_
    rintro e w' ⟨rfl, rfl⟩
    go_wp2_with fail
    refine (nplain_any a _).mono ?_
    rintro e w' ⟨rfl, rfl⟩
    go_wp2_with fail
    refine ((nfsub_any a b _).mono fun e w' hh => And.intro hh.1 (below_or hh.2)).mono ?_
    rintro e x6 ⟨rfl, q6⟩
    go_wp2_with fail
    refine (nfneg_any _ (fsub_lt a b) _).mono ?_
    rintro e w' ⟨rfl, rfl⟩
    go_wp2_with fail
    refine ((nfsub_any b a _).mono fun e w' hh => And.intro hh.1 (below_or hh.2)).mono ?_
    rintro e x7 ⟨rfl, q7⟩
    go_wp2_with fail
    refine (same_t _ _ _ HX.out).mono ?_
    rintro e w' ⟨rfl, rfl⟩
    go_wp2
    go_ret
    exact ⟨rfl, ((((((((((((q1).trans ((q2).mono ((q1).size)))).trans ((q3).mono ((((q1).trans ((q2).mono ((q1).size)))).size)))).trans ((q4).mono ((((((q1).trans ((q2).mono ((q1).size)))).trans ((q3).mono ((((q1).trans ((q2).mono ((q1).size)))).size)))).size)))).trans ((q5).mono ((((((((q1).trans ((q2).mono ((q1).size)))).trans ((q3).mono ((((q1).trans ((q2).mono ((q1).size)))).size)))).trans ((q4).mono ((((((q1).trans ((q2).mono ((q1).size)))).trans ((q3).mono ((((q1).trans ((q2).mono ((q1).size)))).size)))).size)))).size)))).trans ((q6).mono ((((((((((q1).trans ((q2).mono ((q1).size)))).trans ((q3).mono ((((q1).trans ((q2).mono ((q1).size)))).size)))).trans ((q4).mono ((((((q1).trans ((q2).mono ((q1).size)))).trans ((q3).mono ((((q1).trans ((q2).mono ((q1).size)))).size)))).size)))).trans ((q5).mono ((((((((q1).trans ((q2).mono ((q1).size)))).trans ((q3).mono ((((q1).trans ((q2).mono ((q1).size)))).size)))).trans ((q4).mono ((((((q1).trans ((q2).mono ((q1).size)))).trans ((q3).mono ((((q1).trans ((q2).mono ((q1).size)))).size)))).size)))).size)))).size)))).trans ((q7).mono ((((((((((((q1).trans ((q2).mono ((q1).size)))).trans ((q3).mono ((((q1).trans ((q2).mono ((q1).size)))).size)))).trans ((q4).mono ((((((q1).trans ((q2).mono ((q1).size)))).trans ((q3).mono ((((q1).trans ((q2).mono ((q1).size)))).size)))).size)))).trans ((q5).mono ((((((((q1).trans ((q2).mono ((q1).size)))).trans ((q3).mono ((((q1).trans ((q2).mono ((q1).size)))).size)))).trans ((q4).mono ((((((q1).trans ((q2).mono ((q1).size)))).trans ((q3).mono ((((q1).trans ((q2).mono ((q1).size)))).size)))).size)))).size)))).trans ((q6).mono ((((((((((q1).trans ((q2).mono ((q1).size)))).trans ((q3).mono ((((q1).trans ((q2).mono ((q1).size)))).size)))).trans ((q4).mono ((((((q1).trans ((q2).mono ((q1).size)))).trans ((q3).mono ((((q1).trans ((q2).mono ((q1).size)))).size)))).size)))).trans ((q5).mono ((((((((q1).trans ((q2).mono ((q1).size)))).trans ((q3).mono ((((q1).trans ((q2).mono ((q1).size)))).size)))).trans ((q4).mono ((((((q1).trans ((q2).mono ((q1).size)))).trans ((q3).mono ((((q1).trans ((q2).mono ((q1).size)))).size)))).size)))).size)))).size)))).size)))⟩
  · have e1 : ∀ w, Calls Tryd.prog 23 #[.int .u64 b, .int .u64 a] w fun e w' => e = .returned (.int .u64 9221120237041090561) ∧ Below w.heap.size w w' := fun w => by
      have := nfsub_any b a w
      rw [hy] at this
      exact this.mono fun e w' hh => ⟨hh.1, below_or hh.2⟩
    have e2 : ∀ w, Calls Tryd.prog 29 #[.int .u64 (fop (Ieee.double.sub a b) : Nat)] w fun e w' => e = .returned (.int .u64 9221120237041090561) ∧ w = w' := fun w => by
      have := nfneg_any (fop (Ieee.double.sub a b)) HF.out w
      rw [hx] at this
      exact this
    have E1 := Lib.hid e1
    have E2 := Lib.hid e2
    clear e1 e2 hx hy
    go_enter Tryd.func8, Tryd.ntmps8
    go_wp2_with fail
    refine (reckoned_any _ HT.out HG.out).mono ?_
    rintro e x1 ⟨rfl, q1⟩
    go_wp2_with fail
    refine ((nfadd_any a b _).mono fun e w' hh => And.intro hh.1 (below_or hh.2)).mono ?_
    rintro e x2 ⟨rfl, q2⟩
    go_wp2_with fail
    refine ((nfadd_turn a b _).mono fun e w' hh => And.intro hh.1 (below_or hh.2)).mono ?_
    rintro e x3 ⟨rfl, q3⟩
    go_wp2_with fail
    refine ((nfmul_any a b _).mono fun e w' hh => And.intro hh.1 (below_or hh.2)).mono ?_
    rintro e x4 ⟨rfl, q4⟩
    go_wp2_with fail
    refine ((nfmul_turn a b _).mono fun e w' hh => And.intro hh.1 (below_or hh.2)).mono ?_
    rintro e x5 ⟨rfl, q5⟩
    go_wp2_with fail
    refine (nfneg_any a ha _).mono ?_
    rintro e w' ⟨rfl, rfl⟩
    go_wp2_with fail
    refine (nfneg_two a _ ha).mono ?_
    rintro e w' ⟨rfl, rfl⟩
    go_wp2_with fail
    refine (nplain_any a _).mono ?_
    rintro e w' ⟨rfl, rfl⟩
    go_wp2_with fail
    refine ((nfsub_any a b _).mono fun e w' hh => And.intro hh.1 (below_or hh.2)).mono ?_
    rintro e x6 ⟨rfl, q6⟩
    go_wp2_with fail
    refine (E2.out _).mono ?_
    rintro e w' ⟨rfl, rfl⟩
    go_wp2_with fail
    refine (E1.out _).mono ?_
    rintro e x7 ⟨rfl, q7⟩
    go_wp2_with fail
    refine (same_n _).mono ?_
    rintro e w' ⟨rfl, rfl⟩
    go_wp2
    go_ret
    exact ⟨rfl, ((((((((((((q1).trans ((q2).mono ((q1).size)))).trans ((q3).mono ((((q1).trans ((q2).mono ((q1).size)))).size)))).trans ((q4).mono ((((((q1).trans ((q2).mono ((q1).size)))).trans ((q3).mono ((((q1).trans ((q2).mono ((q1).size)))).size)))).size)))).trans ((q5).mono ((((((((q1).trans ((q2).mono ((q1).size)))).trans ((q3).mono ((((q1).trans ((q2).mono ((q1).size)))).size)))).trans ((q4).mono ((((((q1).trans ((q2).mono ((q1).size)))).trans ((q3).mono ((((q1).trans ((q2).mono ((q1).size)))).size)))).size)))).size)))).trans ((q6).mono ((((((((((q1).trans ((q2).mono ((q1).size)))).trans ((q3).mono ((((q1).trans ((q2).mono ((q1).size)))).size)))).trans ((q4).mono ((((((q1).trans ((q2).mono ((q1).size)))).trans ((q3).mono ((((q1).trans ((q2).mono ((q1).size)))).size)))).size)))).trans ((q5).mono ((((((((q1).trans ((q2).mono ((q1).size)))).trans ((q3).mono ((((q1).trans ((q2).mono ((q1).size)))).size)))).trans ((q4).mono ((((((q1).trans ((q2).mono ((q1).size)))).trans ((q3).mono ((((q1).trans ((q2).mono ((q1).size)))).size)))).size)))).size)))).size)))).trans ((q7).mono ((((((((((((q1).trans ((q2).mono ((q1).size)))).trans ((q3).mono ((((q1).trans ((q2).mono ((q1).size)))).size)))).trans ((q4).mono ((((((q1).trans ((q2).mono ((q1).size)))).trans ((q3).mono ((((q1).trans ((q2).mono ((q1).size)))).size)))).size)))).trans ((q5).mono ((((((((q1).trans ((q2).mono ((q1).size)))).trans ((q3).mono ((((q1).trans ((q2).mono ((q1).size)))).size)))).trans ((q4).mono ((((((q1).trans ((q2).mono ((q1).size)))).trans ((q3).mono ((((q1).trans ((q2).mono ((q1).size)))).size)))).size)))).size)))).trans ((q6).mono ((((((((((q1).trans ((q2).mono ((q1).size)))).trans ((q3).mono ((((q1).trans ((q2).mono ((q1).size)))).size)))).trans ((q4).mono ((((((q1).trans ((q2).mono ((q1).size)))).trans ((q3).mono ((((q1).trans ((q2).mono ((q1).size)))).size)))).size)))).trans ((q5).mono ((((((((q1).trans ((q2).mono ((q1).size)))).trans ((q3).mono ((((q1).trans ((q2).mono ((q1).size)))).size)))).trans ((q4).mono ((((((q1).trans ((q2).mono ((q1).size)))).trans ((q3).mono ((((q1).trans ((q2).mono ((q1).size)))).size)))).size)))).size)))).size)))).size)))⟩
end Go.Proofs.YtledjocmihcfnaaDoor

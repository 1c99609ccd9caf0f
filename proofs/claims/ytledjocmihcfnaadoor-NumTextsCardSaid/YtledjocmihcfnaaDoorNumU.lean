/- The walks of layer 2's calls on floats: the program's kinds; reckoning. -/
import Derived.Test.YtledjocmihcfnaaDoorNumV
namespace Go.Proofs.YtledjocmihcfnaaDoor
open Go.RowKit Fl

theorem lt_zero (a : Nat) : (FloatKind.f64.format.order a 0 == some .lt) = decide (rg a ≤ I ∧ sg a = true ∧ rg a ≠ 0) := by
  refine (order_lt a 0).trans ?_
  rw [show rg 0 = 0 from rfl, row_zero, decide_eq_decide]
  have hI : 0 ≤ I := by decide
  cases e : sg a
  · rw [row_pos e]; simp <;> omega
  · rw [row_neg e]; simp <;> omega
theorem gt_zero (a : Nat) : (FloatKind.f64.format.order a 0 == some .gt) = decide (rg a ≤ I ∧ sg a = false ∧ rg a ≠ 0) := by
  refine (order_gt a 0).trans ?_
  rw [show rg 0 = 0 from rfl, row_zero, decide_eq_decide]
  have hI : 0 ≤ I := by decide
  cases e : sg a
  · rw [row_pos e]; simp <;> omega
  · rw [row_neg e]; simp <;> omega
theorem eq_zero (a : Nat) : (FloatKind.f64.format.order a 0 == some .eq) = decide (rg a = 0) := by
  refine (order_eql a 0).trans ?_
  rw [show rg 0 = 0 from rfl, row_zero, decide_eq_decide]
  have hI : 0 ≤ I := by decide
  cases e : sg a
  · rw [row_pos e]; simp <;> omega
  · rw [row_neg e]; simp <;> omega

theorem nkind_any (a : Nat) (h : a < 18446744073709551616) (w : World) :
    Calls Tryd.prog 37 #[.int .u64 a] w fun e w' => e = .returned (.int .i64 (kindN a)) ∧ w = w' := by
  have p0 : (0 : Nat) < I := by decide
  have hn := fun w => isinf_neg a h w
  have hp := fun w => isinf_pos a w
  have hs := fun w => sbit_any a h w
  have l1 := lt_zero a
  have l2 := eq_zero a
  have l3 := gt_zero a
  cases e : sg a
  · by_cases c0 : I < rg a
    · have d1 : decide (rg a = I ∧ sg a = true) = false := by rw [decide_eq_false_iff_not]; rintro ⟨q, r⟩; first | omega | (rw [e] at r; cases r)
      have d5 : decide (rg a = I ∧ sg a = false) = false := by rw [decide_eq_false_iff_not]; rintro ⟨q, r⟩; first | omega | (rw [e] at r; cases r)
      have d2 : decide (rg a ≤ I ∧ sg a = true ∧ rg a ≠ 0) = false := by rw [decide_eq_false_iff_not]; rintro ⟨q, r, s⟩; first | omega | (rw [e] at r; cases r)
      have d3 : decide (rg a = 0) = false := by rw [decide_eq_false_iff_not]; omega
      have d4 : decide (rg a ≤ I ∧ sg a = false ∧ rg a ≠ 0) = false := by rw [decide_eq_false_iff_not]; rintro ⟨q, r, s⟩; first | omega | (rw [e] at r; cases r)
      rw [d1] at hn; rw [d5] at hp; rw [d2] at l1; rw [d3] at l2; rw [d4] at l3; rw [e] at hs
      have hk : kindN a = 0 := by unfold kindN; rw [if_pos (by omega)]
      rw [hk]
      clear d1 d2 d3 d4 d5 hk
      have HN := Lib.hid hn
      have HP := Lib.hid hp
      have HS := Lib.hid hs
      clear hn hp hs e
      (try clear c0); (try clear c1); (try clear c2)
      go_enter Tryd.func37, Tryd.ntmps37
      go_wp2_with fail
      refine (float_any a _).mono ?_
      rintro e w' ⟨rfl, rfl⟩
      go_wp2_with fail
      refine (HN.out _).mono ?_
      rintro e w' ⟨rfl, rfl⟩
      go_wp2_with fail
      refine (HP.out _).mono ?_
      rintro e w' ⟨rfl, rfl⟩
      go_wp2
      go_ret
      exact ⟨rfl, rfl⟩
    · by_cases c1 : rg a = I
      · have d1 : decide (rg a = I ∧ sg a = true) = false := by rw [decide_eq_false_iff_not]; rintro ⟨q, r⟩; first | omega | (rw [e] at r; cases r)
        have d5 : decide (rg a = I ∧ sg a = false) = true := by rw [decide_eq_true_eq]; exact ⟨by omega, e⟩
        have d2 : decide (rg a ≤ I ∧ sg a = true ∧ rg a ≠ 0) = false := by rw [decide_eq_false_iff_not]; rintro ⟨q, r, s⟩; first | omega | (rw [e] at r; cases r)
        have d3 : decide (rg a = 0) = false := by rw [decide_eq_false_iff_not]; omega
        have d4 : decide (rg a ≤ I ∧ sg a = false ∧ rg a ≠ 0) = true := by rw [decide_eq_true_eq]; exact ⟨by omega, e, by omega⟩
        rw [d1] at hn; rw [d5] at hp; rw [d2] at l1; rw [d3] at l2; rw [d4] at l3; rw [e] at hs
        have hk : kindN a = 6 := by unfold kindN; rw [if_neg (by omega), if_pos (by omega), if_neg (by rw [e]; decide)]
        rw [hk]
        clear d1 d2 d3 d4 d5 hk
        have HN := Lib.hid hn
        have HP := Lib.hid hp
        have HS := Lib.hid hs
        clear hn hp hs e
        (try clear c0); (try clear c1); (try clear c2)
        go_enter Tryd.func37, Tryd.ntmps37
        go_wp2_with fail
        refine (float_any a _).mono ?_
        rintro e w' ⟨rfl, rfl⟩
        go_wp2_with fail
        refine (HN.out _).mono ?_
        rintro e w' ⟨rfl, rfl⟩
        go_wp2_with fail
        refine (HP.out _).mono ?_
        rintro e w' ⟨rfl, rfl⟩
        go_wp2
        go_ret
        exact ⟨rfl, rfl⟩
      · by_cases c2 : rg a = 0
        · have d1 : decide (rg a = I ∧ sg a = true) = false := by rw [decide_eq_false_iff_not]; rintro ⟨q, r⟩; first | omega | (rw [e] at r; cases r)
          have d5 : decide (rg a = I ∧ sg a = false) = false := by rw [decide_eq_false_iff_not]; rintro ⟨q, r⟩; first | omega | (rw [e] at r; cases r)
          have d2 : decide (rg a ≤ I ∧ sg a = true ∧ rg a ≠ 0) = false := by rw [decide_eq_false_iff_not]; rintro ⟨q, r, s⟩; first | omega | (rw [e] at r; cases r)
          have d3 : decide (rg a = 0) = true := by rw [decide_eq_true_eq]; omega
          have d4 : decide (rg a ≤ I ∧ sg a = false ∧ rg a ≠ 0) = false := by rw [decide_eq_false_iff_not]; rintro ⟨q, r, s⟩; first | omega | (rw [e] at r; cases r)
          rw [d1] at hn; rw [d5] at hp; rw [d2] at l1; rw [d3] at l2; rw [d4] at l3; rw [e] at hs
          have hk : kindN a = 4 := by unfold kindN; rw [if_neg (by omega), if_neg (by omega), if_pos (by omega), if_neg (by rw [e]; decide)]
          rw [hk]
          clear d1 d2 d3 d4 d5 hk
          have HN := Lib.hid hn
          have HP := Lib.hid hp
          have HS := Lib.hid hs
          clear hn hp hs e
          (try clear c0); (try clear c1); (try clear c2)
          go_enter Tryd.func37, Tryd.ntmps37
          go_wp2_with fail
          refine (float_any a _).mono ?_
          rintro e w' ⟨rfl, rfl⟩
          go_wp2_with fail
          refine (HN.out _).mono ?_
          rintro e w' ⟨rfl, rfl⟩
          go_wp2_with fail
          refine (HS.out _).mono ?_
          rintro e w' ⟨rfl, rfl⟩
          go_wp2
          go_ret
          exact ⟨rfl, rfl⟩
        · have d1 : decide (rg a = I ∧ sg a = true) = false := by rw [decide_eq_false_iff_not]; rintro ⟨q, r⟩; first | omega | (rw [e] at r; cases r)
          have d5 : decide (rg a = I ∧ sg a = false) = false := by rw [decide_eq_false_iff_not]; rintro ⟨q, r⟩; first | omega | (rw [e] at r; cases r)
          have d2 : decide (rg a ≤ I ∧ sg a = true ∧ rg a ≠ 0) = false := by rw [decide_eq_false_iff_not]; rintro ⟨q, r, s⟩; first | omega | (rw [e] at r; cases r)
          have d3 : decide (rg a = 0) = false := by rw [decide_eq_false_iff_not]; omega
          have d4 : decide (rg a ≤ I ∧ sg a = false ∧ rg a ≠ 0) = true := by rw [decide_eq_true_eq]; exact ⟨by omega, e, by omega⟩
          rw [d1] at hn; rw [d5] at hp; rw [d2] at l1; rw [d3] at l2; rw [d4] at l3; rw [e] at hs
          have hk : kindN a = 5 := by unfold kindN; rw [if_neg (by omega), if_neg (by omega), if_neg (by omega), if_neg (by rw [e]; decide)]
          rw [hk]
          clear d1 d2 d3 d4 d5 hk
          have HN := Lib.hid hn
          have HP := Lib.hid hp
          have HS := Lib.hid hs
          clear hn hp hs e
          (try clear c0); (try clear c1); (try clear c2)
          go_enter Tryd.func37, Tryd.ntmps37
          go_wp2_with fail
          refine (float_any a _).mono ?_
          rintro e w' ⟨rfl, rfl⟩
          go_wp2_with fail
          refine (HN.out _).mono ?_
          rintro e w' ⟨rfl, rfl⟩
          go_wp2_with fail
          refine (HP.out _).mono ?_
          rintro e w' ⟨rfl, rfl⟩
          go_wp2
          go_ret
          exact ⟨rfl, rfl⟩
  · by_cases c0 : I < rg a
    · have d1 : decide (rg a = I ∧ sg a = true) = false := by rw [decide_eq_false_iff_not]; rintro ⟨q, r⟩; first | omega | (rw [e] at r; cases r)
      have d5 : decide (rg a = I ∧ sg a = false) = false := by rw [decide_eq_false_iff_not]; rintro ⟨q, r⟩; first | omega | (rw [e] at r; cases r)
      have d2 : decide (rg a ≤ I ∧ sg a = true ∧ rg a ≠ 0) = false := by rw [decide_eq_false_iff_not]; rintro ⟨q, r, s⟩; first | omega | (rw [e] at r; cases r)
      have d3 : decide (rg a = 0) = false := by rw [decide_eq_false_iff_not]; omega
      have d4 : decide (rg a ≤ I ∧ sg a = false ∧ rg a ≠ 0) = false := by rw [decide_eq_false_iff_not]; rintro ⟨q, r, s⟩; first | omega | (rw [e] at r; cases r)
      rw [d1] at hn; rw [d5] at hp; rw [d2] at l1; rw [d3] at l2; rw [d4] at l3; rw [e] at hs
      have hk : kindN a = 0 := by unfold kindN; rw [if_pos (by omega)]
      rw [hk]
      clear d1 d2 d3 d4 d5 hk
      have HN := Lib.hid hn
      have HP := Lib.hid hp
      have HS := Lib.hid hs
      clear hn hp hs e
      (try clear c0); (try clear c1); (try clear c2)
      go_enter Tryd.func37, Tryd.ntmps37
      go_wp2_with fail
      refine (float_any a _).mono ?_
      rintro e w' ⟨rfl, rfl⟩
      go_wp2_with fail
      refine (HN.out _).mono ?_
      rintro e w' ⟨rfl, rfl⟩
      go_wp2_with fail
      refine (HP.out _).mono ?_
      rintro e w' ⟨rfl, rfl⟩
      go_wp2
      go_ret
      exact ⟨rfl, rfl⟩
    · by_cases c1 : rg a = I
      · have d1 : decide (rg a = I ∧ sg a = true) = true := by rw [decide_eq_true_eq]; exact ⟨by omega, e⟩
        have d5 : decide (rg a = I ∧ sg a = false) = false := by rw [decide_eq_false_iff_not]; rintro ⟨q, r⟩; first | omega | (rw [e] at r; cases r)
        have d2 : decide (rg a ≤ I ∧ sg a = true ∧ rg a ≠ 0) = true := by rw [decide_eq_true_eq]; exact ⟨by omega, e, by omega⟩
        have d3 : decide (rg a = 0) = false := by rw [decide_eq_false_iff_not]; omega
        have d4 : decide (rg a ≤ I ∧ sg a = false ∧ rg a ≠ 0) = false := by rw [decide_eq_false_iff_not]; rintro ⟨q, r, s⟩; first | omega | (rw [e] at r; cases r)
        rw [d1] at hn; rw [d5] at hp; rw [d2] at l1; rw [d3] at l2; rw [d4] at l3; rw [e] at hs
        have hk : kindN a = 1 := by unfold kindN; rw [if_neg (by omega), if_pos (by omega), if_pos e]
        rw [hk]
        clear d1 d2 d3 d4 d5 hk
        have HN := Lib.hid hn
        have HP := Lib.hid hp
        have HS := Lib.hid hs
        clear hn hp hs e
        (try clear c0); (try clear c1); (try clear c2)
        go_enter Tryd.func37, Tryd.ntmps37
        go_wp2_with fail
        refine (float_any a _).mono ?_
        rintro e w' ⟨rfl, rfl⟩
        go_wp2_with fail
        refine (HN.out _).mono ?_
        rintro e w' ⟨rfl, rfl⟩
        go_wp2
        go_ret
        exact ⟨rfl, rfl⟩
      · by_cases c2 : rg a = 0
        · have d1 : decide (rg a = I ∧ sg a = true) = false := by rw [decide_eq_false_iff_not]; rintro ⟨q, r⟩; first | omega | (rw [e] at r; cases r)
          have d5 : decide (rg a = I ∧ sg a = false) = false := by rw [decide_eq_false_iff_not]; rintro ⟨q, r⟩; first | omega | (rw [e] at r; cases r)
          have d2 : decide (rg a ≤ I ∧ sg a = true ∧ rg a ≠ 0) = false := by rw [decide_eq_false_iff_not]; rintro ⟨q, r, s⟩; first | omega | (rw [e] at r; cases r)
          have d3 : decide (rg a = 0) = true := by rw [decide_eq_true_eq]; omega
          have d4 : decide (rg a ≤ I ∧ sg a = false ∧ rg a ≠ 0) = false := by rw [decide_eq_false_iff_not]; rintro ⟨q, r, s⟩; first | omega | (rw [e] at r; cases r)
          rw [d1] at hn; rw [d5] at hp; rw [d2] at l1; rw [d3] at l2; rw [d4] at l3; rw [e] at hs
          have hk : kindN a = 3 := by unfold kindN; rw [if_neg (by omega), if_neg (by omega), if_pos (by omega), if_pos e]
          rw [hk]
          clear d1 d2 d3 d4 d5 hk
          have HN := Lib.hid hn
          have HP := Lib.hid hp
          have HS := Lib.hid hs
          clear hn hp hs e
          (try clear c0); (try clear c1); (try clear c2)
          go_enter Tryd.func37, Tryd.ntmps37
          go_wp2_with fail
          refine (float_any a _).mono ?_
          rintro e w' ⟨rfl, rfl⟩
          go_wp2_with fail
          refine (HN.out _).mono ?_
          rintro e w' ⟨rfl, rfl⟩
          go_wp2_with fail
          refine (HS.out _).mono ?_
          rintro e w' ⟨rfl, rfl⟩
          go_wp2
          go_ret
          exact ⟨rfl, rfl⟩
        · have d1 : decide (rg a = I ∧ sg a = true) = false := by rw [decide_eq_false_iff_not]; rintro ⟨q, r⟩; first | omega | (rw [e] at r; cases r)
          have d5 : decide (rg a = I ∧ sg a = false) = false := by rw [decide_eq_false_iff_not]; rintro ⟨q, r⟩; first | omega | (rw [e] at r; cases r)
          have d2 : decide (rg a ≤ I ∧ sg a = true ∧ rg a ≠ 0) = true := by rw [decide_eq_true_eq]; exact ⟨by omega, e, by omega⟩
          have d3 : decide (rg a = 0) = false := by rw [decide_eq_false_iff_not]; omega
          have d4 : decide (rg a ≤ I ∧ sg a = false ∧ rg a ≠ 0) = false := by rw [decide_eq_false_iff_not]; rintro ⟨q, r, s⟩; first | omega | (rw [e] at r; cases r)
          rw [d1] at hn; rw [d5] at hp; rw [d2] at l1; rw [d3] at l2; rw [d4] at l3; rw [e] at hs
          have hk : kindN a = 2 := by unfold kindN; rw [if_neg (by omega), if_neg (by omega), if_neg (by omega), if_pos e]
          rw [hk]
          clear d1 d2 d3 d4 d5 hk
          have HN := Lib.hid hn
          have HP := Lib.hid hp
          have HS := Lib.hid hs
          clear hn hp hs e
          (try clear c0); (try clear c1); (try clear c2)
          go_enter Tryd.func37, Tryd.ntmps37
          go_wp2_with fail
          refine (float_any a _).mono ?_
          rintro e w' ⟨rfl, rfl⟩
          go_wp2_with fail
          refine (HN.out _).mono ?_
          rintro e w' ⟨rfl, rfl⟩
          go_wp2
          go_ret
          exact ⟨rfl, rfl⟩

/-- What is asked where an operation is invalid: the bits of something that is no number. -/
theorem run_float_none (op : BinOp) (t : TypeId) (x y : Nat) (h : floatBits op .f64 x y = none) (ho : op = .add ∨ op = .sub ∨ op = .mul ∨ op = .quo) (P : Program) (w : World) :
    ∃ r, I < rg r ∧ (binOp op t (.float .f64 x) (.float .f64 y)).run P w = .ok (.float .f64 r) w.drew := by
  refine ⟨Question.cut (.nanBits .f64 x y) (w.tape w.drawn (.nanBits .f64 x y)), ?_, ?_⟩
  · simp only [Question.cut, rg]
    rw [W_eq, I_eq, show 2 ^ 63 = 9223372036854775808 from rfl, show 2 ^ 52 - 1 = 4503599627370495 from rfl]
    have hy := Nat.mod_lt (w.tape w.drawn (.nanBits .f64 x y) / 2) (y := 4503599627370495) (by decide)
    have ht : w.tape w.drawn (.nanBits .f64 x y) % 2 = 0 ∨ w.tape w.drawn (.nanBits .f64 x y) % 2 = 1 := by omega
    generalize w.tape w.drawn (.nanBits .f64 x y) / 2 % 4503599627370495 = u at hy
    rcases ht with ht | ht <;> rw [ht] <;> omega
  · unfold floatBits at h
    rcases ho with rfl | rfl | rfl | rfl <;> simp only at h <;> simp [binOp, Op.floatArith, h, Question.forced]
theorem fop_none {r : Nat} (h : I < rg r) : plainN r = fop none := by unfold plainN; rw [if_pos h]; rfl

theorem nfadd_any (a b : Nat) (w : World) :
    Calls Tryd.prog 21 #[.int .u64 a, .int .u64 b] w fun e w' => e = .returned (.int .u64 (fop (Ieee.double.add a b) : Nat)) ∧ (w' = w ∨ w' = w.drew) := by
  cases e : Ieee.double.add a b with
  | some r =>
    have hr : ∀ (P : Program) (t : TypeId) (w : World), (binOp .add t (.float .f64 a) (.float .f64 b)).run P w = .ok (.float .f64 r) w := fun P t w => run_float_arith w .add t .f64 a b r e
    clear e
    go_enter Tryd.func21, Tryd.ntmps21
    go_wp2_with fail
    refine (float_any a _).mono ?_
    rintro e w' ⟨rfl, rfl⟩
    go_wp2_with fail
    refine (float_any b _).mono ?_
    rintro e w' ⟨rfl, rfl⟩
    go_wp2_with fail
    refine (nbits_any r _).mono ?_
    rintro e w' ⟨rfl, rfl⟩
    go_wp2
    go_ret
    exact ⟨rfl, .inl rfl⟩
  | none =>
    obtain ⟨r, h1, hr⟩ := run_float_none .add 39 a b e (by simp) Tryd.prog w
    have hf := fop_none h1
    clear e h1
    have HF := Lib.hid hf
    clear hf
    go_enter Tryd.func21, Tryd.ntmps21
    go_wp2_with fail
    refine (float_any a _).mono ?_
    rintro e w' ⟨rfl, rfl⟩
    go_wp2_with fail
    refine (float_any b _).mono ?_
    rintro e w' ⟨rfl, rfl⟩
    go_wp2_with fail
    refine (nbits_any r _).mono ?_
    rintro e w' ⟨rfl, rfl⟩
    go_wp2
    go_ret
    exact ⟨rint (by rw [HF.out]), .inr rfl⟩

theorem nfsub_any (a b : Nat) (w : World) :
    Calls Tryd.prog 23 #[.int .u64 a, .int .u64 b] w fun e w' => e = .returned (.int .u64 (fop (Ieee.double.sub a b) : Nat)) ∧ (w' = w ∨ w' = w.drew) := by
  cases e : Ieee.double.sub a b with
  | some r =>
    have hr : ∀ (P : Program) (t : TypeId) (w : World), (binOp .sub t (.float .f64 a) (.float .f64 b)).run P w = .ok (.float .f64 r) w := fun P t w => run_float_arith w .sub t .f64 a b r e
    clear e
    go_enter Tryd.func23, Tryd.ntmps23
    go_wp2_with fail
    refine (float_any a _).mono ?_
    rintro e w' ⟨rfl, rfl⟩
    go_wp2_with fail
    refine (float_any b _).mono ?_
    rintro e w' ⟨rfl, rfl⟩
    go_wp2_with fail
    refine (nbits_any r _).mono ?_
    rintro e w' ⟨rfl, rfl⟩
    go_wp2
    go_ret
    exact ⟨rfl, .inl rfl⟩
  | none =>
    obtain ⟨r, h1, hr⟩ := run_float_none .sub 39 a b e (by simp) Tryd.prog w
    have hf := fop_none h1
    clear e h1
    have HF := Lib.hid hf
    clear hf
    go_enter Tryd.func23, Tryd.ntmps23
    go_wp2_with fail
    refine (float_any a _).mono ?_
    rintro e w' ⟨rfl, rfl⟩
    go_wp2_with fail
    refine (float_any b _).mono ?_
    rintro e w' ⟨rfl, rfl⟩
    go_wp2_with fail
    refine (nbits_any r _).mono ?_
    rintro e w' ⟨rfl, rfl⟩
    go_wp2
    go_ret
    exact ⟨rint (by rw [HF.out]), .inr rfl⟩

theorem nfmul_any (a b : Nat) (w : World) :
    Calls Tryd.prog 25 #[.int .u64 a, .int .u64 b] w fun e w' => e = .returned (.int .u64 (fop (Ieee.double.mul a b) : Nat)) ∧ (w' = w ∨ w' = w.drew) := by
  cases e : Ieee.double.mul a b with
  | some r =>
    have hr : ∀ (P : Program) (t : TypeId) (w : World), (binOp .mul t (.float .f64 a) (.float .f64 b)).run P w = .ok (.float .f64 r) w := fun P t w => run_float_arith w .mul t .f64 a b r e
    clear e
    go_enter Tryd.func25, Tryd.ntmps25
    go_wp2_with fail
    refine (float_any a _).mono ?_
    rintro e w' ⟨rfl, rfl⟩
    go_wp2_with fail
    refine (float_any b _).mono ?_
    rintro e w' ⟨rfl, rfl⟩
    go_wp2_with fail
    refine (nbits_any r _).mono ?_
    rintro e w' ⟨rfl, rfl⟩
    go_wp2
    go_ret
    exact ⟨rfl, .inl rfl⟩
  | none =>
    obtain ⟨r, h1, hr⟩ := run_float_none .mul 39 a b e (by simp) Tryd.prog w
    have hf := fop_none h1
    clear e h1
    have HF := Lib.hid hf
    clear hf
    go_enter Tryd.func25, Tryd.ntmps25
    go_wp2_with fail
    refine (float_any a _).mono ?_
    rintro e w' ⟨rfl, rfl⟩
    go_wp2_with fail
    refine (float_any b _).mono ?_
    rintro e w' ⟨rfl, rfl⟩
    go_wp2_with fail
    refine (nbits_any r _).mono ?_
    rintro e w' ⟨rfl, rfl⟩
    go_wp2
    go_ret
    exact ⟨rint (by rw [HF.out]), .inr rfl⟩

theorem nfdiv_any (a b : Nat) (w : World) :
    Calls Tryd.prog 27 #[.int .u64 a, .int .u64 b] w fun e w' => e = .returned (.int .u64 (fop (Ieee.double.div a b) : Nat)) ∧ (w' = w ∨ w' = w.drew) := by
  cases e : Ieee.double.div a b with
  | some r =>
    have hr : ∀ (P : Program) (t : TypeId) (w : World), (binOp .quo t (.float .f64 a) (.float .f64 b)).run P w = .ok (.float .f64 r) w := fun P t w => run_float_arith w .quo t .f64 a b r e
    clear e
    go_enter Tryd.func27, Tryd.ntmps27
    go_wp2_with fail
    refine (float_any a _).mono ?_
    rintro e w' ⟨rfl, rfl⟩
    go_wp2_with fail
    refine (float_any b _).mono ?_
    rintro e w' ⟨rfl, rfl⟩
    go_wp2_with fail
    refine (nbits_any r _).mono ?_
    rintro e w' ⟨rfl, rfl⟩
    go_wp2
    go_ret
    exact ⟨rfl, .inl rfl⟩
  | none =>
    obtain ⟨r, h1, hr⟩ := run_float_none .quo 39 a b e (by simp) Tryd.prog w
    have hf := fop_none h1
    clear e h1
    have HF := Lib.hid hf
    clear hf
    go_enter Tryd.func27, Tryd.ntmps27
    go_wp2_with fail
    refine (float_any a _).mono ?_
    rintro e w' ⟨rfl, rfl⟩
    go_wp2_with fail
    refine (float_any b _).mono ?_
    rintro e w' ⟨rfl, rfl⟩
    go_wp2_with fail
    refine (nbits_any r _).mono ?_
    rintro e w' ⟨rfl, rfl⟩
    go_wp2
    go_ret
    exact ⟨rint (by rw [HF.out]), .inr rfl⟩

theorem nfneg_any (a : Nat) (h : a < 18446744073709551616) (w : World) :
    Calls Tryd.prog 29 #[.int .u64 a] w fun e w' => e = .returned (.int .u64 (fneg a : Nat)) ∧ w = w' := by
  have hx : Op.negFloat .f64 a = flip a := xor_flip h
  go_enter Tryd.func29, Tryd.ntmps29
  go_wp2_with fail
  refine (float_any a _).mono ?_
  rintro e w' ⟨rfl, rfl⟩
  go_wp2_with fail
  refine (nbits_any (flip a) _).mono ?_
  rintro e w' ⟨rfl, rfl⟩
  go_wp2
  go_ret
  exact ⟨rfl, rfl⟩
end Go.Proofs.YtledjocmihcfnaaDoor

/- Layer 8: the laws VaryThrough and VaryOf. -/
import Derived.Test.YtelmdidgmpbnmaaVaryK
import Derived.Test.YtelmdidgmpbnmaaVaryC0
namespace Go.Proofs.Ytelmdidgmpbnmaa
open Go.RowKit Go.Deep Tr Mp
namespace Vy
theorem rthrough_any {w : World} {a b : Int} (ha : a = 0 ∨ a = 1 ∨ a = 2 ∨ a = 3) (hb : b = 0 ∨ b = 1 ∨ b = 2 ∨ b = 3) : Calls Try.prog 8 #[.int .i64 a, .int .i64 b] w fun e w' => e = .returned (.int .i64 (thr a.toNat b.toNat : Nat)) ∧ w = w' := by
  rcases ha with rfl | rfl | rfl | rfl <;> rcases hb with rfl | rfl | rfl | rfl
  all_goals
    go_enter Try.func8, Try.ntmps8
    go_wp2
    go_ret
    exact ⟨rfl, rfl⟩
theorem rthrough_nat {w : World} {a b : Nat} (ha : a < 4) (hb : b < 4) : Calls Try.prog 8 #[.int .i64 a, .int .i64 b] w fun e w' => e = .returned (.int .i64 (thr a b : Nat)) ∧ w = w' := by
  have := rthrough_any (w := w) (a := a) (b := b) (by omega) (by omega)
  simpa using this
theorem thr_comm : ∀ a b : Fin 4, thr a.1 b.1 = thr b.1 a.1 := by decide +kernel
theorem thr_assoc : ∀ a b c : Fin 4, thr (thr a.1 b.1) c.1 = thr a.1 (thr b.1 c.1) := by decide +kernel
theorem thr_one : ∀ a : Fin 4, thr 1 a.1 = a.1 := by decide +kernel
theorem wrap_rem (a : Int) : ∃ n : Nat, n < 4 ∧ IntKind.i64.wrap ((IntKind.u64.wrap a).tmod 4) = (n : Int) := by
  rw [IntKind.wrap_u64]
  refine ⟨(a % 4).toNat, by omega, ?_⟩
  rw [Int.tmod_eq_emod_of_nonneg (by omega), IntWalk.i64_in _ (by omega)]
  omega
set_option maxHeartbeats 4000000 in
set_option maxRecDepth 100000 in
theorem varyThrough_walk (a b c : Int) (w : World) : Calls Try.prog 3 #[.int .i64 a, .int .i64 b, .int .i64 c] w fun e w' => e = .returned (.bool true) ∧ Below w.heap.size w w' := by
  obtain ⟨x, hx, ea⟩ := wrap_rem a
  obtain ⟨y, hy, eb⟩ := wrap_rem b
  obtain ⟨z, hz, ec⟩ := wrap_rem c
  go_enter Try.func3, Try.ntmps3
  go_wp2_with fail
  refine (varied_any w).mono ?_
  rintro e w1 ⟨rfl, q1⟩
  have Q1 := Lib.hid q1
  clear q1 ea eb ec
  have e1 : thr y x = thr x y := thr_comm ⟨y, hy⟩ ⟨x, hx⟩
  have e2 : thr (thr x y) z = thr x (thr y z) := thr_assoc ⟨x, hx⟩ ⟨y, hy⟩ ⟨z, hz⟩
  have e3 : thr 1 x = x := thr_one ⟨x, hx⟩
  have hp : thr x y < 4 := thr_lt hy
  have hs : thr y z < 4 := thr_lt hz
  have HXY : Hid (∀ w, Calls Try.prog 7 #[.int .i64 ((x : Nat)), .int .i64 ((y : Nat))] w fun e w' => e = .returned (.int .i64 ((thr x y : Nat))) ∧ w = w') := fun w => through_any hx hy
  have HYX : Hid (∀ w, Calls Try.prog 7 #[.int .i64 ((y : Nat)), .int .i64 ((x : Nat))] w fun e w' => e = .returned (.int .i64 ((thr x y : Nat))) ∧ w = w') := fun w => by rw [← e1]; exact through_any hy hx
  have HR : Hid (∀ w, Calls Try.prog 8 #[.int .i64 ((x : Nat)), .int .i64 ((y : Nat))] w fun e w' => e = .returned (.int .i64 ((thr x y : Nat))) ∧ w = w') := fun w => rthrough_nat hx hy
  have HPZ : Hid (∀ w, Calls Try.prog 7 #[.int .i64 ((thr x y : Nat)), .int .i64 ((z : Nat))] w fun e w' => e = .returned (.int .i64 ((thr x (thr y z) : Nat))) ∧ w = w') := fun w => by rw [← e2]; exact through_any hp hz
  have HYZ : Hid (∀ w, Calls Try.prog 7 #[.int .i64 ((y : Nat)), .int .i64 ((z : Nat))] w fun e w' => e = .returned (.int .i64 ((thr y z : Nat))) ∧ w = w') := fun w => through_any hy hz
  have HXS : Hid (∀ w, Calls Try.prog 7 #[.int .i64 ((x : Nat)), .int .i64 ((thr y z : Nat))] w fun e w' => e = .returned (.int .i64 ((thr x (thr y z) : Nat))) ∧ w = w') := fun w => through_any hx hs
  have H1X : Hid (∀ w, Calls Try.prog 7 #[.int .i64 (1), .int .i64 ((x : Nat))] w fun e w' => e = .returned (.int .i64 ((x : Nat))) ∧ w = w') := fun w => by
    have := through_any (w := w) (a := 1) (b := x) (by decide) hx
    rw [e3] at this
    exact this
  obtain ⟨p, hpe⟩ : ∃ p, thr x y = p := ⟨_, rfl⟩
  obtain ⟨s, hse⟩ : ∃ p, thr y z = p := ⟨_, rfl⟩
  rw [hpe] at HXY HYX HR HPZ
  rw [hse] at HPZ HYZ HXS
  obtain ⟨r, hre⟩ : ∃ p, thr x s = p := ⟨_, rfl⟩
  rw [hre] at HPZ HXS
  clear e1 e2 e3 hp hs hpe hse hre
  go_wp2_with fail
  refine (HXY.out _).mono ?_
  rintro e w' ⟨rfl, rfl⟩
  go_wp2_with fail
  refine (HR.out _).mono ?_
  rintro e w' ⟨rfl, rfl⟩
  go_wp2_with fail
  refine (HXY.out _).mono ?_
  rintro e w' ⟨rfl, rfl⟩
  go_wp2_with fail
  refine (HYX.out _).mono ?_
  rintro e w' ⟨rfl, rfl⟩
  go_wp2_with fail
  refine (HXY.out _).mono ?_
  rintro e w' ⟨rfl, rfl⟩
  go_wp2_with fail
  refine (HPZ.out _).mono ?_
  rintro e w' ⟨rfl, rfl⟩
  go_wp2_with fail
  refine (HYZ.out _).mono ?_
  rintro e w' ⟨rfl, rfl⟩
  go_wp2_with fail
  refine (HXS.out _).mono ?_
  rintro e w' ⟨rfl, rfl⟩
  go_wp2_with fail
  refine (H1X.out _).mono ?_
  rintro e w' ⟨rfl, rfl⟩
  go_wp2
  go_ret
  exact ⟨rfl, Q1.out⟩
theorem ne_S {s : ByteArray} (h : s ≠ ⟨#[83]⟩) : (s.toList == [83]) = false := by
  rw [beq_eq_false_iff_ne, ByteArray.toList_eq]
  intro e
  apply h
  cases s
  congr
  exact Array.toList_inj.1 e
set_option maxHeartbeats 4000000 in
set_option maxRecDepth 100000 in
theorem varyOf_walk {w : World} {v : Value} {l : List Int} (hv : ∀ w', Below w.heap.size w w' → RowI w' v l) (slot : Int) {s : ByteArray} (hs : s.size ≤ maxLen) : Calls Try.prog 4 #[v, .int .i64 slot, .string s] w fun e w' => e = .returned (.bool true) ∧ Below w.heap.size w w' := by
  obtain ⟨A, c, rfl, _⟩ := hv w (Below.refl _ _)
  obtain ⟨n, hn⟩ : ∃ n, l.length = n := ⟨_, rfl⟩
  have HV := Lib.hid hv
  have HN := Lib.hid hn
  rw [hn]
  clear hv hn
  go_enter Try.func4, Try.ntmps4
  go_wp2_with fail
  refine (varied_any w).mono ?_
  rintro e w1 ⟨rfl, q1⟩
  have Q1 := Lib.hid q1
  clear q1
  by_cases hbig : 40 < n ∨ 60 < s.size
  · rcases hbig with h1 | h1
    · go_wp2_with fail
      refine (varied_any w1).mono ?_
      rintro e w2 ⟨rfl, q2⟩
      have Q2 := Lib.hid (Q1.out.trans (q2.mono Q1.out.size))
      clear q2
      go_wp2
      go_ret
      exact ⟨rfl, Q2.out⟩
    · by_cases h2 : 40 < n
      · go_wp2_with fail
        refine (varied_any w1).mono ?_
        rintro e w2 ⟨rfl, q2⟩
        have Q2 := Lib.hid (Q1.out.trans (q2.mono Q1.out.size))
        clear q2
        go_wp2
        go_ret
        exact ⟨rfl, Q2.out⟩
      · have h2 : n ≤ 40 := by omega
        go_wp2_with fail
        refine (varied_any w1).mono ?_
        rintro e w2 ⟨rfl, q2⟩
        have Q2 := Lib.hid (Q1.out.trans (q2.mono Q1.out.size))
        clear q2
        go_wp2
        go_ret
        exact ⟨rfl, Q2.out⟩
  · have h1 : n ≤ 40 := by omega
    have h2 : s.size ≤ 60 := by omega
    have hmm := @run_makeMap Try.prog
    clear hbig
    obtain ⟨b, hb⟩ : ∃ b, w1.heap.size = b := ⟨_, rfl⟩
    have m1 := MapAt.made w1 Try.prog 9
    rw [hb] at m1
    have hS1 : (⟨#[83]⟩ : ByteArray).size ≤ maxLen := by show (1 : Nat) ≤ maxLen; unfold maxLen; omega
    obtain ⟨w2, hput, m2, g2⟩ := put_at m1 Try.underlying9 Try.underlying28 (by unfold maxLen; omega) hS1 (.slice A n c)
    have hbw : w.heap.size ≤ b := by rw [← hb]; exact Q1.out.size
    have q2 : Below w.heap.size w w2 := (Q1.out.alloc Q1.out.size (.map #[] 0)).grown g2 (Nat.le_trans Q1.out.size (by simp)) (fun j hj => by cases hj; exact hbw)
    have hrow := HV.out w2 q2
    rw [HN.out] at hrow
    have hl1 : (Instr.lookup 28 (.map (some b)) (.string ⟨#[83]⟩) false).run Try.prog w2 = .ok (.slice A n c) w2 := by
      have := look_at m2 Try.underlying9 Try.underlying28 (zero_ints w2) hS1
      rw [this]
      simp [put]
    have hl2 : s ≠ ⟨#[83]⟩ → (Instr.lookup 28 (.map (some b)) (.string s) false).run Try.prog w2 = .ok (.slice none 0 0) w2 := fun h => by
      have := look_at m2 Try.underlying9 Try.underlying28 (zero_ints w2) hs
      rw [this]
      simp [put, h]
    have hl3 := look_nil_at w2 Try.underlying9 Try.underlying28 (zero_ints w2) hs
    have HN0 := Lib.hid (of_high (w := w2) s (l := []) (i := 0) (by simp) hl3 (RowI.nil w2))
    have HO2F : Hid (s ≠ ⟨#[83]⟩ → Calls Try.prog 9 #[.map (some b), .string s, .int .i64 slot] w2 fun e w' => e = .returned (.int .i64 3) ∧ w2 = w') := fun h => by
      by_cases h0 : slot < 0
      · exact of_low _ s h0 (hl2 h)
      · exact of_high s (l := []) (by simp; omega) (hl2 h) (RowI.nil w2)
    have Q2 := Lib.hid q2
    have hput' : (Instr.mapUpdate 28 (.map (some b)) (.string ⟨#[83]⟩) (.slice A n c)).run Try.prog (w1.alloc (.map #[] 0)) = .ok () w2 := hput
    by_cases h0 : slot < 0
    · have HO1 := Lib.hid (of_low (w := w2) _ ⟨#[83]⟩ h0 hl1)
      clear hput m1 m2 g2 hl1 hl2 hl3 hrow q2
      by_cases hss : s = ⟨#[83]⟩
      · subst hss
        go_wp2_with fail
        refine HO1.out.mono ?_
        rintro e w' ⟨rfl, rfl⟩
        go_wp2_with fail
        refine HN0.out.mono ?_
        rintro e w' ⟨rfl, rfl⟩
        go_wp2
        go_ret
        exact ⟨rfl, Q2.out⟩
      · have HSS : (s.toList == [83]) = false := ne_S hss
        have HO2 := Lib.hid (HO2F.out hss)
        clear hss
        go_wp2_with fail
        refine HO1.out.mono ?_
        rintro e w' ⟨rfl, rfl⟩
        go_wp2_with fail
        refine HO2.out.mono ?_
        rintro e w' ⟨rfl, rfl⟩
        go_wp2_with fail
        refine HN0.out.mono ?_
        rintro e w' ⟨rfl, rfl⟩
        go_wp2
        go_ret
        exact ⟨rfl, Q2.out⟩
    · have h0 : 0 ≤ slot := by omega
      by_cases h3 : slot < (n : Int)
      · obtain ⟨j, rfl⟩ : ∃ j : Nat, slot = j := ⟨slot.toNat, by omega⟩
        have hj : j < n := by omega
        have hjl : j < l.length := by rw [HN.out]; exact hj
        obtain ⟨A0, c0, he, hA⟩ := hrow
        injection he with e1 e2 e3
        subst e1
        have hrow : RowI w2 (.slice A n c) l := ⟨_, c, by rw [HN.out], hA⟩
        have HO1 := Lib.hid (of_in (w := w2) ⟨#[83]⟩ hjl hl1 hrow)
        obtain ⟨bk, o', rfl, _, hc⟩ := int_at hA hjl
        obtain ⟨x, hx⟩ : ∃ x, l[j] = x := ⟨_, rfl⟩
        rw [hx] at hc HO1
        clear hput m1 m2 g2 hl1 hl2 hl3 hrow q2 hA e2 e3 hx hjl
        by_cases hss : s = ⟨#[83]⟩
        · subst hss
          go_wp2_with fail
          refine HO1.out.mono ?_
          rintro e w' ⟨rfl, rfl⟩
          go_wp2_with fail
          refine HN0.out.mono ?_
          rintro e w' ⟨rfl, rfl⟩
          go_wp2
          go_ret
          exact ⟨rfl, Q2.out⟩
        · have HSS : (s.toList == [83]) = false := ne_S hss
          have HO2 := Lib.hid (HO2F.out hss)
          clear hss
          go_wp2_with fail
          refine HO1.out.mono ?_
          rintro e w' ⟨rfl, rfl⟩
          go_wp2_with fail
          refine HO2.out.mono ?_
          rintro e w' ⟨rfl, rfl⟩
          go_wp2_with fail
          refine HN0.out.mono ?_
          rintro e w' ⟨rfl, rfl⟩
          go_wp2
          go_ret
          exact ⟨rfl, Q2.out⟩
      · have h3 : (n : Int) ≤ slot := by omega
        have HO1 := Lib.hid (of_high (w := w2) ⟨#[83]⟩ (by rw [HN.out]; exact h3) hl1 (by rw [← HN.out] at hrow ⊢; exact hrow))
        clear hput m1 m2 g2 hl1 hl2 hl3 hrow q2
        by_cases hss : s = ⟨#[83]⟩
        · subst hss
          go_wp2_with fail
          refine HO1.out.mono ?_
          rintro e w' ⟨rfl, rfl⟩
          go_wp2_with fail
          refine HN0.out.mono ?_
          rintro e w' ⟨rfl, rfl⟩
          go_wp2
          go_ret
          exact ⟨rfl, Q2.out⟩
        · have HSS : (s.toList == [83]) = false := ne_S hss
          have HO2 := Lib.hid (HO2F.out hss)
          clear hss
          go_wp2_with fail
          refine HO1.out.mono ?_
          rintro e w' ⟨rfl, rfl⟩
          go_wp2_with fail
          refine HO2.out.mono ?_
          rintro e w' ⟨rfl, rfl⟩
          go_wp2_with fail
          refine HN0.out.mono ?_
          rintro e w' ⟨rfl, rfl⟩
          go_wp2
          go_ret
          exact ⟨rfl, Q2.out⟩
end Vy
end Go.Proofs.Ytelmdidgmpbnmaa

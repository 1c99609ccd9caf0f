/- The walk of layer 6's law LifeOrders. -/
import Derived.Test.YtfadojniihjneaaLifeK
namespace Go.Proofs.Ytfadojniihjneaa
open Go.RowKit Lf Go.Deep
theorem idx (x : Int) {m : Nat} (h0 : 0 < m) (h1 : m ≤ 1000000) : ∃ k : Nat, wrap64 ((IntKind.u64.wrap x).tmod m) = (k : Int) ∧ k < m := by
  obtain ⟨u, hu⟩ : ∃ u : Nat, IntKind.u64.wrap x = (u : Int) := ⟨(IntKind.u64.wrap x).toNat, by simp only [IntKind.wrap, IntKind.signed, IntKind.bits]; simp; omega⟩
  refine ⟨u % m, ?_, Nat.mod_lt _ h0⟩
  have hlt := Nat.mod_lt u h0
  rw [hu, show ((u : Int)).tmod (m : Int) = ((u % m : Nat) : Int) from rfl]
  unfold wrap64
  omega
set_option maxHeartbeats 2000000 in
set_option maxRecDepth 100000 in
theorem lifeOrders_walk (a : Int) (A : Option Addr) (L : List (Int × Int)) (cp : Nat) (x y z : Int) (w : World) (hL : PAt w A L) :
    Calls Try.prog 5 #[.int .i64 a, .slice A L.length cp, .agg #[.int .i64 x, .int .i64 y, .int .i64 z]] w fun e w' => e = .returned (.bool true) ∧ Below w.heap.size w w' := by
  have HL := Lib.hid hL
  obtain ⟨H, hH⟩ : ∃ x, w.heap.size = x := ⟨_, rfl⟩
  have HH := Lib.hid hH
  rw [hH]
  by_cases hout : a < 0 ∨ (0 ≤ a ∧ 60 < a) ∨ (0 ≤ a ∧ a ≤ 60 ∧ 100 < L.length)
  · clear hH hL
    rcases hout with h1 | ⟨h1, h2⟩ | ⟨h1, h2, h3⟩
    all_goals
      go_enter Try.func5, Try.ntmps5
      go_wp2_with fail
      refine (outlived_any _).mono ?_
      rintro e w1 ⟨rfl, q1⟩
      go_wp2_with fail
      refine (outlived_any _).mono ?_
      rintro e w2 ⟨rfl, q2⟩
      go_wp2
      go_ret
      have hs : (w.alloc (.cells #[.int .i64 x, .int .i64 y, .int .i64 z] 37)).heap.size = w.heap.size + 1 := by simp
      have q0 : Below H w (w.alloc (.cells #[.int .i64 x, .int .i64 y, .int .i64 z] 37)) := (Below.refl _ w).alloc (by rw [HH.out]; exact Nat.le_refl _) _
      exact ⟨rfl, (q0.trans (q1.mono (by rw [hs, HH.out]; omega))).trans (q2.mono (by have := q1.size; rw [hs, HH.out] at this; omega))⟩
  · have h0 : 0 ≤ a := by omega
    have h12 : a ≤ 60 := by omega
    have hn : L.length ≤ 100 := by omega
    obtain ⟨m, ham⟩ : ∃ m : Nat, a + 1 = m := ⟨(a + 1).toNat, by omega⟩
    have hmp : 0 < m := by omega
    have hm : m ≤ 61 := by omega
    clear hout hL
    have I0 := Lib.hid (Is.made w 37 #[.int .i64 x, .int .i64 y, .int .i64 z])
    have q0 : Below H w (w.alloc (.cells #[.int .i64 x, .int .i64 y, .int .i64 z] 37)) := (Below.refl _ w).alloc (by omega) _
    have s0 : (w.alloc (.cells #[.int .i64 x, .int .i64 y, .int .i64 z] 37)).heap.size = H + 1 := by simp [hH]
    rw [hH] at I0
    have Q0 := Lib.hid q0
    have S0 := Lib.hid s0
    clear q0 s0
    go_enter Try.func5, Try.ntmps5
    go_wp2_with fail
    refine (outlived_any _).mono ?_
    rintro e w1 ⟨rfl, q1⟩
    clear hH
    have I1 := Lib.hid (I0.out.below q1 (by rw [S0.out]; omega))
    have Q1 := Lib.hid (Q0.out.trans (q1.mono (by rw [S0.out]; omega)))
    have S1 := Lib.hid (show H + 1 ≤ w1.heap.size by have := q1.size; rw [S0.out] at this; exact this)
    clear q1
    go_wp2_with fail
    refine (both_any w1 A L cp h0 (by omega) ham (HL.out.below (by rw [HH.out]; exact Q1.out)) (by omega)).mono ?_
    rintro e w2 ⟨c, cap, ao, rfl, hb⟩
    have I2 := I1.out.below hb.since (by have := S1.out; omega)
    obtain ⟨H1, hH1⟩ : ∃ x, w1.heap.size = x := ⟨_, rfl⟩
    have hHH : H ≤ H1 := by have := S1.out; omega
    rw [hH1] at hb ⊢
    obtain ⟨P, hP⟩ : ∃ P, vp m L = P := ⟨_, rfl⟩
    rw [hP] at hb
    have R0 := Lib.hid hb.rel
    have Q2 := Lib.hid (Q1.out.trans (hb.since.mono hHH))
    clear hb hP hH1
    have c0 := I2.at_ 0
    have c1 := I2.at_ 1
    have c2 := I2.at_ 2
    simp only [List.getElem?_toArray, List.getElem?_cons_zero, List.getElem?_cons_succ] at c0 c1 c2
    clear I2
    go_wp2_with fail
    go_quiet (fail)
    go_wp2_with fail
    obtain ⟨i, hi, him⟩ := idx x hmp (by omega)
    obtain ⟨j, hj, hjm⟩ := idx y hmp (by omega)
    obtain ⟨k, hk, hkm⟩ := idx z hmp (by omega)
    rw [hi, hj, hk]
    clear hi hj hk c0 c1 c2
    have OK := Lib.hid (all_ok P stat_ok)
    have R1 := Lib.hid (R0.out.drewN nq)
    have Q3 := Lib.hid (below_drewN Q2.out nq)
    refine (has_in R1.out him him).mono ?_
    rw [OK.out.refl]
    rintro e w3 ⟨rfl, rfl⟩
    go_wp2_with fail
    refine (has_in R1.out (a := 0) hmp hjm).mono ?_
    rw [all_top]
    rintro e w3 ⟨rfl, rfl⟩
    cases hij : all stat P i j with
    | false =>
      have E1 := Lib.hid hij
      clear hij
      go_wp2_with fail
      refine (has_in R1.out him hjm).mono ?_
      rw [E1.out]
      rintro e w3 ⟨rfl, rfl⟩
      go_wp2
      go_ret
      exact ⟨rfl, Q3.out⟩
    | true =>
      have E1 := Lib.hid hij
      clear hij
      go_wp2_with fail
      refine (has_in R1.out him hjm).mono ?_
      rw [E1.out]
      rintro e w3 ⟨rfl, rfl⟩
      cases hjk : all stat P j k with
      | false =>
        have E2 := Lib.hid hjk
        clear hjk
        go_wp2_with fail
        refine (has_in R1.out hjm hkm).mono ?_
        rw [E2.out]
        rintro e w3 ⟨rfl, rfl⟩
        go_wp2
        go_ret
        exact ⟨rfl, Q3.out⟩
      | true =>
        have E2 := Lib.hid hjk
        clear hjk
        go_wp2_with fail
        refine (has_in R1.out hjm hkm).mono ?_
        rw [E2.out]
        rintro e w3 ⟨rfl, rfl⟩
        go_wp2_with fail
        refine (has_in R1.out him hkm).mono ?_
        rw [OK.out.trans _ _ _ E1.out E2.out]
        rintro e w3 ⟨rfl, rfl⟩
        go_wp2
        go_ret
        exact ⟨rfl, Q3.out⟩
end Go.Proofs.Ytfadojniihjneaa

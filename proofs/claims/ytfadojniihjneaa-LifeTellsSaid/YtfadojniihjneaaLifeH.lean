/- The walk of layer 6's law LifeTells. -/
import Derived.Test.YtfadojniihjneaaLifeS
namespace Go.Proofs.Ytfadojniihjneaa
open Go.RowKit Lf Go.Deep
theorem at1_none (w : World) (A : Option Addr) : At1 w A [] := fun h => absurd h (by simp)
set_option maxHeartbeats 2000000 in
set_option maxRecDepth 100000 in
theorem lifeTells_walk (a : Int) (A : Option Addr) (L : List (Int × Int)) (cp : Nat) (x : Int) (w : World) (hL : PAt w A L) :
    Calls Try.prog 4 #[.int .i64 a, .slice A L.length cp, .int .i64 x] w fun e w' => e = .returned (.bool true) ∧ Below w.heap.size w w' := by
  have HL := Lib.hid hL
  obtain ⟨H, hH⟩ : ∃ x, w.heap.size = x := ⟨_, rfl⟩
  have HH := Lib.hid hH
  rw [hH]
  clear hH hL
  by_cases hout : a < 0 ∨ (0 ≤ a ∧ 12 < a) ∨ (0 ≤ a ∧ a ≤ 12 ∧ 30 < L.length)
  · rcases hout with h1 | ⟨h1, h2⟩ | ⟨h1, h2, h3⟩
    all_goals
      go_enter Try.func4, Try.ntmps4
      go_wp2_with fail
      refine (outlived_any _).mono ?_
      rintro e w1 ⟨rfl, q1⟩
      go_wp2_with fail
      refine (outlived_any _).mono ?_
      rintro e w2 ⟨rfl, q2⟩
      go_wp2
      go_ret
      have := q1.trans (q2.mono q1.size)
      rw [HH.out] at this
      exact ⟨rfl, this⟩
  · have h0 : 0 ≤ a := by omega
    have h12 : a ≤ 12 := by omega
    have hn : L.length ≤ 30 := by omega
    obtain ⟨m, ham⟩ : ∃ m : Nat, a + 1 = m := ⟨(a + 1).toNat, by omega⟩
    have hmp : 0 < m := by omega
    have hm : m ≤ 13 := by omega
    clear hout
    go_enter Try.func4, Try.ntmps4
    go_wp2_with fail
    refine (outlived_any _).mono ?_
    rintro e w1 ⟨rfl, q1⟩
    rw [HH.out] at q1
    have Q1 := Lib.hid q1
    clear q1
    go_wp2_with fail
    refine (both_any w1 A L cp h0 (by omega) ham (HL.out.below (by rw [HH.out]; exact Q1.out)) (by omega)).mono ?_
    rintro e w2 ⟨c, cap, ao, rfl, hb⟩
    obtain ⟨H1, hH1⟩ : ∃ x, w1.heap.size = x := ⟨_, rfl⟩
    have hHH : H ≤ H1 := by have := Q1.out.size; have := HH.out; omega
    rw [hH1] at hb ⊢
    obtain ⟨P, hP⟩ : ∃ P, vp m L = P := ⟨_, rfl⟩
    have hlen : P.length ≤ 30 := by rw [← hP]; exact Nat.le_trans (vp_length _ _) hn
    rw [hP] at hb
    have R0 := Lib.hid hb.rel
    have S0 := Lib.hid (hb.rrel ham hmp (by omega) (by omega) (by rw [← hP]; exact vp_fits))
    have Q2 := Lib.hid (Q1.out.trans (hb.since.mono hHH))
    have L2 : Hid (H ≤ w2.heap.size) := by have := Q2.out.size; have := HH.out; show H ≤ w2.heap.size; omega
    have ALEN : Hid ((allP (all stat P) m (m - 1)).length ≤ 100000) := by have := allP_few (all stat P) (m := m) (i := m - 1) (by omega) (by omega); show _ ≤ _; omega
    have hmi : (m : Int) - 1 = a := by omega
    clear hb hP hH1
    by_cases hx : Bad m x
    · have hx' : x < 0 ∨ (0 ≤ x ∧ a < x) := by unfold Bad at hx; omega
      have HX := Lib.hid hx
      clear hx
      rcases hx' with g1 | ⟨g1, g2⟩
      all_goals
        go_wp2_with fail
        refine (len_any R0.out).mono ?_
        rw [hmi]
        rintro e w3 ⟨rfl, rfl⟩
        go_wp2_with fail
        refine (under_bad R0.out HX.out).mono ?_
        rintro e w3 ⟨rfl, rfl⟩
        go_wp2_with fail
        refine (ints_same (w := w2) [] (Nat.zero_le _) none none 0 0 (at1_none _ _) (at1_none _ _)).mono ?_
        rintro e w4 ⟨rfl, q, rfl⟩
        go_wp2_with fail
        refine (pairs_any (R0.out.drewN q)).mono ?_
        rintro e w6 ⟨v3, rfl, q1, q2⟩
        obtain ⟨A3, c3, rfl⟩ := own_slice q1
        have T3 := Lib.hid (own_at q1)
        have S6 := Lib.hid ((S0.out.below (below_drewN (Below.refl _ w2) q)).below q2)
        have Q6 := Lib.hid ((below_drewN Q2.out q).trans (q2.mono (show H ≤ w2.heap.size from L2.out)))
        have L6 : Hid (H ≤ w6.heap.size) := by have := q2.size; have h2 := L2.out; show H ≤ w6.heap.size; exact Nat.le_trans h2 this
        clear q1 q2
        go_wp2_with fail
        refine (known_any S6.out).mono ?_
        rintro e w7 ⟨v4, rfl, q1, q2⟩
        obtain ⟨A4, c4, rfl⟩ := own_slice q1
        have T4 := Lib.hid (own_at q1)
        have T3' := Lib.hid (T3.out.below q2)
        have Q7 := Lib.hid (Q6.out.trans (q2.mono L6.out))
        clear q1 q2
        go_wp2_with fail
        refine (same_pairs _ ALEN.out A3 A4 c3 c4 T3'.out T4.out).mono ?_
        rintro e w8 ⟨rfl, q8, rfl⟩
        go_wp2
        go_ret
        exact ⟨rfl, below_drewN Q7.out q8⟩
    · obtain ⟨k, hk, hkm⟩ := not_bad hx
      subst hk
      have hka : (k : Int) ≤ a := by omega
      have hlu : Hid ((underL (all stat P) k m).length ≤ 1000) := by have := underL_len (all stat P) k m; show _ ≤ _; omega
      clear hx
      go_wp2_with fail
      refine (runder_any S0.out hkm).mono ?_
      rintro e w3 ⟨v1, rfl, q1, q2⟩
      obtain ⟨A1, c1, rfl⟩ := own_slice q1
      have T1 := Lib.hid (own_at q1)
      have R3 := Lib.hid (R0.out.below q2)
      have S3 := Lib.hid (S0.out.below q2)
      have Q3 := Lib.hid (Q2.out.trans (q2.mono L2.out))
      have L3 : Hid (H ≤ w3.heap.size) := Nat.le_trans L2.out q2.size
      clear q1 q2
      go_wp2_with fail
      refine (len_any R3.out).mono ?_
      rw [hmi]
      rintro e w4 ⟨rfl, rfl⟩
      go_wp2_with fail
      refine (under_any R3.out hkm).mono ?_
      rintro e w4 ⟨v2, rfl, q1, q2⟩
      obtain ⟨A2, c2, rfl⟩ := own_slice q1
      have T2 := Lib.hid (own_at q1)
      have T1' := Lib.hid (T1.out.below q2)
      have R4 := Lib.hid (R3.out.below q2)
      have S4 := Lib.hid (S3.out.below q2)
      have Q4 := Lib.hid (Q3.out.trans (q2.mono L3.out))
      have L4 : Hid (H ≤ w4.heap.size) := Nat.le_trans L3.out q2.size
      clear q1 q2
      go_wp2_with fail
      refine (ints_same _ hlu.out A2 A1 c2 c1 T2.out T1'.out).mono ?_
      rintro e w5 ⟨rfl, q, rfl⟩
      go_wp2_with fail
      refine (pairs_any (R4.out.drewN q)).mono ?_
      rintro e w6 ⟨v3, rfl, q1, q2⟩
      obtain ⟨A3, c3, rfl⟩ := own_slice q1
      have T3 := Lib.hid (own_at q1)
      have S6 := Lib.hid ((S4.out.below (below_drewN (Below.refl _ w4) q)).below q2)
      have Q6 := Lib.hid ((below_drewN Q4.out q).trans (q2.mono (show H ≤ w4.heap.size from L4.out)))
      have L6 : Hid (H ≤ w6.heap.size) := Nat.le_trans L4.out q2.size
      clear q1 q2
      go_wp2_with fail
      refine (known_any S6.out).mono ?_
      rintro e w7 ⟨v4, rfl, q1, q2⟩
      obtain ⟨A4, c4, rfl⟩ := own_slice q1
      have T4 := Lib.hid (own_at q1)
      have T3' := Lib.hid (T3.out.below q2)
      have Q7 := Lib.hid (Q6.out.trans (q2.mono L6.out))
      clear q1 q2
      go_wp2_with fail
      refine (same_pairs _ ALEN.out A3 A4 c3 c4 T3'.out T4.out).mono ?_
      rintro e w8 ⟨rfl, q8, rfl⟩
      go_wp2
      go_ret
      exact ⟨rfl, below_drewN Q7.out q8⟩
end Go.Proofs.Ytfadojniihjneaa

/- The walks of layer 6's laws: outlived; LifeKnows. -/
import Derived.Test.YtfadojniihjneaaLifeD
namespace Go.Proofs.Ytfadojniihjneaa
open Go.RowKit Lf Go.Deep
theorem Below.to {B B' : Nat} {x y : World} (h : Below B x y) (hB : B' ≤ B) : Below B' x y := h.mono hB
theorem rows_below {H m : Nat} {w w' : World} (h : ButS (rowsOf (fun i => H + 2 + i) m) w w') : Below H w w' := h.below (by rintro k ⟨i, hi, rfl⟩; show H ≤ H + 2 + i; omega)
set_option maxHeartbeats 1000000 in
theorem outlived_any (w : World) : Calls Try.prog 9 #[] w fun e w' => e = .returned (.bool true) ∧ Below w.heap.size w w' := by
  obtain ⟨H, hH⟩ : ∃ x, w.heap.size = x := ⟨_, rfl⟩
  have HH := Lib.hid hH
  rw [hH]
  clear hH
  go_enter Try.func9, Try.ntmps9
  go_wp2_with fail
  refine (new_any w (a := 3) (m := 4) (by decide) (by decide) (by decide)).mono ?_
  rw [HH.out]
  rintro e w1 ⟨rfl, q1, q2⟩
  have R1 := Lib.hid q1
  have Q1 := Lib.hid q2
  clear q1 q2
  go_wp2_with fail
  refine (add_any R1.out stat_ok (a := 1) (d := 2) (by decide) (by decide)).mono ?_
  rintro e w2 ⟨rfl, q1, q2⟩
  have R2 := Lib.hid q1
  have Q2 := Lib.hid (rows_below q2)
  clear q1 q2
  go_wp2_with fail
  refine (add_any R2.out (stat_ok.plus 1 2) (a := 2) (d := 3) (by decide) (by decide)).mono ?_
  rintro e w3 ⟨rfl, q1, q2⟩
  have R3 := Lib.hid q1
  have Q3 := Lib.hid (rows_below q2)
  clear q1 q2
  go_wp2_with fail
  refine (has_in R3.out (a := 1) (c := 3) (by decide) (by decide)).mono ?_
  rw [show plus (plus stat 1 2) 2 3 1 3 = true from by decide]
  rintro e w4 ⟨rfl, rfl⟩
  go_wp2_with fail
  refine (has_in R3.out (a := 3) (c := 1) (by decide) (by decide)).mono ?_
  rw [show plus (plus stat 1 2) 2 3 3 1 = false from by decide]
  rintro e w4 ⟨rfl, rfl⟩
  go_wp2_with fail
  refine (has_in R3.out (a := 0) (c := 3) (by decide) (by decide)).mono ?_
  rw [show plus (plus stat 1 2) 2 3 0 3 = true from by decide]
  rintro e w4 ⟨rfl, rfl⟩
  go_wp2_with fail
  refine (len_any R3.out).mono ?_
  rintro e w4 ⟨rfl, rfl⟩
  go_wp2
  go_ret
  exact ⟨rfl, (Q1.out.trans Q2.out).trans Q3.out⟩
theorem rhas_any {w : World} {c : Nat} {N : Int} {m : Nat} {A : Option Addr} {cap : Nat} {L : List (Nat × Nat)} (h : RRel w c N m A cap L) (a b : Int) : Calls Try.prog 12 #[.pointer (some ⟨c, 0, none⟩), .int .i64 a, .int .i64 b] w fun e w' =>
    e = .returned (.bool (hasI m (all stat L) a b)) ∧ Below w.heap.size w w' := by
  have hlast := h.last
  by_cases h1 : a < 0 ∨ b < 0
  · have : hasI m (all stat L) a b = false := by
      rcases h1 with h1 | h1
      · exact hasI_bad1 (.inl h1)
      · exact hasI_bad2 (.inl h1)
    rw [this]
    exact (rhas_low _ h1 w).mono fun e w' ⟨he, hw⟩ => ⟨he, by subst hw; exact Below.refl _ _⟩
  · by_cases h2 : N < a ∨ N < b
    · have : hasI m (all stat L) a b = false := by
        rcases h2 with h2 | h2
        · exact hasI_bad1 (.inr (by omega))
        · exact hasI_bad2 (.inr (by omega))
      rw [this]
      exact (rhas_high h (by omega) (by omega) h2).mono fun e w' ⟨he, hw⟩ => ⟨he, by subst hw; exact Below.refl _ _⟩
    · obtain ⟨a', rfl⟩ : ∃ k : Nat, a = k := ⟨a.toNat, by omega⟩
      obtain ⟨b', rfl⟩ : ∃ k : Nat, b = k := ⟨b.toNat, by omega⟩
      have ha : a' < m := by omega
      have hb : b' < m := by omega
      rw [hasI_in ha hb]
      exact rhas_in h ha hb
set_option maxHeartbeats 2000000 in
set_option maxRecDepth 100000 in
theorem lifeKnows_walk (a : Int) (A : Option Addr) (L : List (Int × Int)) (cp : Nat) (w : World) (hL : PAt w A L) :
    Calls Try.prog 3 #[.int .i64 a, .slice A L.length cp] w fun e w' => e = .returned (.bool true) ∧ Below w.heap.size w w' := by
  have HL := Lib.hid hL
  obtain ⟨H, hH⟩ : ∃ x, w.heap.size = x := ⟨_, rfl⟩
  have HH := Lib.hid hH
  rw [hH]
  clear hH hL
  by_cases hout : a < 0 ∨ (0 ≤ a ∧ 12 < a) ∨ (0 ≤ a ∧ a ≤ 12 ∧ 30 < L.length)
  · rcases hout with h1 | ⟨h1, h2⟩ | ⟨h1, h2, h3⟩
    all_goals
      go_enter Try.func3, Try.ntmps3
      go_wp2_with fail
      refine (outlived_any _).mono ?_
      rintro e w1 ⟨rfl, q1⟩
      go_wp2_with fail
      refine (outlived_any _).mono ?_
      rintro e w2 ⟨rfl, q2⟩
      go_wp2
      go_ret
      have := q1.trans (q2.mono q1.size)
      rw [HH.out] at this
      exact ⟨rfl, this⟩
  · have h0 : 0 ≤ a := by omega
    have h12 : a ≤ 12 := by omega
    have hn : L.length ≤ 30 := by omega
    obtain ⟨m, ham⟩ : ∃ m : Nat, a + 1 = m := ⟨(a + 1).toNat, by omega⟩
    have hmp : 0 < m := by omega
    have hm : m ≤ 13 := by omega
    clear hout
    go_enter Try.func3, Try.ntmps3
    go_wp2_with fail
    refine (outlived_any _).mono ?_
    rintro e w1 ⟨rfl, q1⟩
    rw [HH.out] at q1
    have Q1 := Lib.hid q1
    clear q1
    go_wp2_with fail
    refine (both_any w1 A L cp h0 (by omega) ham (HL.out.below (by rw [HH.out]; exact Q1.out)) (by omega)).mono ?_
    rintro e w2 ⟨c, cap, ao, rfl, hb⟩
    obtain ⟨H1, hH1⟩ : ∃ x, w1.heap.size = x := ⟨_, rfl⟩
    have hHH : H ≤ H1 := by have := Q1.out.size; have := HH.out; omega
    rw [hH1] at hb ⊢
    obtain ⟨P, hP⟩ : ∃ P, vp m L = P := ⟨_, rfl⟩
    have hlen : P.length ≤ 30 := by rw [← hP]; exact Nat.le_trans (vp_length _ _) hn
    rw [hP] at hb
    have R0 := Lib.hid hb.rel
    have S0 := Lib.hid (hb.rrel ham hmp (by omega) (by omega) (by rw [← hP]; exact vp_fits))
    have Q2 := Lib.hid (Q1.out.trans (hb.since.mono hHH))
    clear hb hP
    go_wp2
    clear hH1
    go_loopw [8] (fun i wr => ∃ k : Nat, k ≤ m + 2 ∧ i = .int .i64 ((k : Int) - 1) ∧ Hid (LRel wr (H1 + 1) H1 (fun i => H1 + 2 + i) (fun _ => m) m (all stat P)) ∧ Hid (RRel wr c a m ao cap P) ∧ Hid (Below H w wr)) (fun i _ => m + 2 - (intOf i + 1).toNat)
    case atStart => exact ⟨0, Nat.zero_le _, by go_num, R0, S0, Q2⟩
    case round =>
      obtain ⟨k, hk, rfl, HR, HS, HB⟩ := hrel
      by_cases hlt : k < m + 2
      · have hkm : (k : Int) - 1 ≤ m := by omega
        go_wp2
        go_loopw [9] (fun i wr => ∃ q : Nat, q ≤ m + 2 ∧ i = .int .i64 ((q : Int) - 1) ∧ Hid (LRel wr (H1 + 1) H1 (fun i => H1 + 2 + i) (fun _ => m) m (all stat P)) ∧ Hid (RRel wr c a m ao cap P) ∧ Hid (Below H w wr)) (fun i _ => m + 2 - (intOf i + 1).toNat)
        case atStart => exact ⟨0, Nat.zero_le _, by go_num, HR, HS, HB⟩
        case round =>
          obtain ⟨q, hq, rfl, HR, HS, HB⟩ := hrel
          by_cases hqt : q < m + 2
          · have hqm : (q : Int) - 1 ≤ m := by omega
            go_wp2_with fail
            refine (has_any HR.out _ _).mono ?_
            rintro e w3 ⟨rfl, rfl⟩
            go_wp2_with fail
            refine (rhas_any HS.out _ _).mono ?_
            rintro e w4 ⟨rfl, q4⟩
            have HR4 := Lib.hid (HR.out.below q4)
            have HS4 := Lib.hid (HS.out.below q4)
            have HB4 := Lib.hid (HB.out.trans (q4.mono (by have := HB.out.size; have := HH.out; omega)))
            clear q4
            obtain ⟨x, hx⟩ : ∃ x, hasI m (all stat P) ((k : Int) - 1) ((q : Int) - 1) = x := ⟨_, rfl⟩
            rw [hx]
            clear hx
            cases x <;>
            · go_wp2
              go_roundw
              case rel => exact ⟨q + 1, by omega, by go_num, HR4, HS4, HB4⟩
              case measure => simp [intOf]; omega
          · have hqm : (m : Int) < (q : Int) - 1 := by omega
            go_wp2
            go_roundw
            case rel => exact ⟨k + 1, by omega, by go_num, HR, HS, HB⟩
            case measure => simp [intOf]; omega
      · have hkm : (m : Int) < (k : Int) - 1 := by omega
        go_wp2
        go_ret
        exact ⟨rfl, HB.out⟩
end Go.Proofs.Ytfadojniihjneaa

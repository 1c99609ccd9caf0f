/- The walks of layer 6: all pairs, by the program. -/
import Derived.Test.YtfadojniihjneaaLifeV
namespace Go.Proofs.Ytfadojniihjneaa
open Go.RowKit Lf Go.Deep
def rowP (M : R2) (a k : Nat) : List (Nat × Nat) := ((List.range k).filter fun b => a != b && M a b).map fun b => (a, b)
def allP (M : R2) (m i : Nat) : List (Nat × Nat) := (List.range i).flatMap fun j => rowP M (j + 1) m
theorem rowP_len (M : R2) (a k : Nat) : (rowP M a k).length ≤ k := by
  unfold rowP
  rw [List.length_map]
  exact Nat.le_trans (List.length_filter_le _ _) (by simp)
theorem allP_succ (M : R2) (m i : Nat) : allP M m (i + 1) = allP M m i ++ rowP M (i + 1) m := by
  unfold allP
  rw [List.range_succ, List.flatMap_append]
  simp
theorem allP_len (M : R2) (m : Nat) : ∀ i, (allP M m i).length ≤ i * m
  | 0 => by simp [allP]
  | i + 1 => by
    rw [allP_succ, List.length_append, Nat.succ_mul]
    have := allP_len M m i
    have := rowP_len M (i + 1) m
    omega
theorem allP_few (M : R2) {m i : Nat} (hm : m ≤ 301) (hi : i ≤ 301) : (allP M m i).length ≤ 90601 := by
  have h1 := allP_len M m i
  have h2 : i * m ≤ 301 * 301 := Nat.mul_le_mul hi hm
  omega
/-- The pairs of a with the first j of u. -/
def tookP (u : List Nat) (a j : Nat) : List (Nat × Nat) := ((u.take j).filter fun b => a != b).map fun b => (a, b)
theorem tookP_all (M : R2) (a m : Nat) : tookP (underL M a m) a (underL M a m).length = rowP M a m := by
  unfold tookP rowP underL
  rw [List.take_length, List.filter_filter]
theorem tookP_step {u : List Nat} {a j x : Nat} (h : j < u.length) (e : u[j] = x) : tookP u a (j + 1) = tookP u a j ++ if a = x then [] else [(a, x)] := by
  unfold tookP
  rw [List.take_succ_eq_append_getElem h, List.filter_append, List.map_append, e]
  by_cases hx : a = x <;> simp [hx]
theorem tookP_len (u : List Nat) (a j : Nat) : (tookP u a j).length ≤ u.length := by
  unfold tookP
  rw [List.length_map]
  refine Nat.le_trans (List.length_filter_le _ _) ?_
  rw [List.length_take]
  omega
set_option maxHeartbeats 2000000 in
theorem pairs_any {w : World} {b b1 : Nat} {B K : Nat → Nat} {m : Nat} {M : R2} (h : LRel w b b1 B K m M) : Calls Try.prog 18 #[.pointer (some ⟨b, 0, none⟩)] w fun e w' =>
    ∃ v, e = .returned v ∧ w'.ownsRow w.heap.size 40 2 v (allP M m (m - 1)).length (pairC (allP M m (m - 1))) ∧ Below w.heap.size w w' := by
  obtain ⟨i0, hi0, hz0, hz1, hz2⟩ := info_parts info_two
  have R := Lib.hid h
  have hm := h.few
  have hmp := h.pos
  have HI := Lib.hid hi0
  obtain ⟨H, hH⟩ : ∃ x, w.heap.size = x := ⟨_, rfl⟩
  have HH := Lib.hid hH
  rw [hH]
  clear hH h hi0
  go_enter Try.func18, Try.ntmps18
  go_wp2_with fail
  refine (len_any R.out).mono ?_
  rintro e w1 ⟨rfl, rfl⟩
  go_wp2
  go_loopw [2, 9] (fun v i wr => ∃ k : Nat, k ≤ m - 1 ∧ i = .int .i64 k ∧ Hid (wr.ownsRow H 40 2 v (allP M m k).length (pairC (allP M m k))) ∧ Hid (Below H w wr)) (fun _ i _ => m - 1 - (intOf i).toNat)
  case atStart => exact ⟨0, Nat.zero_le _, rfl, ⟨rfl, .inl ⟨rfl, rfl⟩⟩, by rw [← HH.out]; exact Below.refl _ _⟩
  case round =>
    obtain ⟨k, hk, rfl, HO, HB⟩ := hrel
    have RW := Lib.hid (R.out.below (by rw [HH.out]; exact HB.out))
    by_cases hlt : k < m - 1
    · obtain ⟨a, hka⟩ : ∃ a : Nat, (k : Int) + 1 = a := ⟨k + 1, by omega⟩
      have hake : a = k + 1 := by omega
      have ham : a < m := by omega
      have HAKE := Lib.hid hake
      clear hake
      have hsz0 : H ≤ wr.heap.size := by have := HB.out.size; have := HH.out; omega
      go_wp2_with fail
      refine (under_any RW.out ham).mono ?_
      rintro e w2 ⟨vu, rfl, q1, q2⟩
      obtain ⟨au, cu, rfl⟩ := own_slice q1
      obtain ⟨u, hu⟩ : ∃ u, underL M a m = u := ⟨_, rfl⟩
      obtain ⟨nu, hnu⟩ : ∃ n, u.length = n := ⟨_, rfl⟩
      have hule : nu ≤ 301 := by rw [← hnu, ← hu]; exact Nat.le_trans (underL_len _ _ _) hm
      rw [hu, hnu] at q1 ⊢
      have HU := Lib.hid hu
      have HNU := Lib.hid hnu
      have U0 := Lib.hid q1
      have O0 := Lib.hid (own_below HO.out q2)
      have B0 := Lib.hid (HB.out.trans (q2.mono hsz0))
      obtain ⟨HU0, hHU0⟩ : ∃ x, wr.heap.size = x := ⟨_, rfl⟩
      rw [hHU0] at U0
      have E0 : Hid (tookP u a 0 = []) := rfl
      clear q1 q2 hu hnu hHU0
      go_wp2
      go_loopw [2, 18] (fun v i wi => ∃ j : Nat, j ≤ nu ∧ i = .int .i64 j ∧ Hid (wi.ownsRow H 40 2 v (allP M m k ++ tookP u a j).length (pairC (allP M m k ++ tookP u a j))) ∧ Hid (wi.ownsRow HU0 3 1 (.slice au nu cu) nu (intsC u)) ∧ Hid (Below H w wi)) (fun _ i _ => nu - (intOf i).toNat)
      case atStart =>
        refine ⟨0, Nat.zero_le _, rfl, ?_, U0, B0⟩
        show World.ownsRow _ _ _ _ _ _ _
        rw [E0.out, List.append_nil]
        exact O0.out
      case round =>
        obtain ⟨j, hj, rfl, HO2, HU2, HB2⟩ := hrel
        by_cases hjt : j < nu
        · obtain ⟨bu, rfl, _, eu⟩ := own_at HU2.out (by rw [intsC_length, HNU.out]; omega)
          have hjl : j < u.length := by rw [HNU.out]; exact hjt
          have d1 := eu j _ (intsC_at hjl)
          obtain ⟨x, hx⟩ : ∃ x, u[j] = x := ⟨_, rfl⟩
          rw [hx] at d1
          have HST := Lib.hid (tookP_step (a := a) hjl hx)
          obtain ⟨ao, cp, rfl⟩ := own_slice HO2.out
          clear eu hx hjl
          by_cases hax : a = x
          · have f1 : ((a : Int) == (x : Int)) = true := by rw [beq_iff_eq]; omega
            have f2 : ((a : Int) != (x : Int)) = false := by rw [bne, f1]; rfl
            have HS : Hid (wr.ownsRow H 40 2 (.slice ao (allP M m k ++ tookP u a j).length cp) (allP M m k ++ tookP u a (j + 1)).length (pairC (allP M m k ++ tookP u a (j + 1)))) := by
              show World.ownsRow _ _ _ _ _ _ _
              rw [HST.out, if_pos hax, List.append_nil]
              exact HO2.out
            clear hax
            go_wp2
            go_roundw
            case rel => exact ⟨j + 1, by omega, by go_num, HS, HU2, HB2⟩
            case measure => simp [intOf]; omega
          · have f1 : ((a : Int) == (x : Int)) = false := by rw [beq_eq_false_iff_ne]; omega
            have f2 : ((a : Int) != (x : Int)) = true := by rw [bne, f1]; rfl
            have HAX := Lib.hid hax
            obtain ⟨n, hn⟩ : ∃ n, (allP M m k ++ tookP u a j).length = n := ⟨_, rfl⟩
            have hnk : n ≤ 100000 := by
              have h1 := allP_few M hm (show k ≤ 301 by omega)
              have h2 := tookP_len u a j
              have h3 := HNU.out
              rw [← hn, List.length_append]
              omega
            have hsz : H ≤ wr.heap.size := by have := HB2.out.size; have := HH.out; omega
            have HN := Lib.hid hn
            rw [hn] at HO2 ⊢
            clear hn hax
            go_wp2_with (at_builtin; refine wpList_append_own _ rfl (.tmp 25) (.tmp 29) 22 rfl H 40 i0 (.agg #[.int .i64 0, .int .i64 0]) 2 16 Try.underlying22 HI.out hz0 hz1 hz2 rfl (by decide) _ _ _ rfl (HO2.out.alloc _) ⟨wr.heap.size, 0, none⟩ 1 1 [.int .i64 a, .int .i64 x] rfl rfl ?c1 ?c2 ?c3 ?c4 ?c5 ?_)
            case c1 => exact cells_made _ _ _
            case c2 => intro u hu; simp at hu; rcases hu with rfl | rfl <;> rfl
            case c3 => unfold maxLen; omega
            case c4 => omega
            case c5 => simp; omega
            intro v2 w3 hown2 hgr _
            have HS : Hid (w3.ownsRow H 40 2 v2 (allP M m k ++ tookP u a (j + 1)).length (pairC (allP M m k ++ tookP u a (j + 1)))) := by
              show World.ownsRow _ _ _ _ _ _ _
              rw [HST.out, if_neg HAX.out, ← List.append_assoc, pairC_append, List.length_append, HN.out]
              exact hown2
            have HT : Hid (Below H w w3) := below_on HB2.out HO2.out (Nat.le_refl _) hsz hgr
            have HV : Hid (w3.ownsRow HU0 3 1 (.slice (some ⟨bu, 0, none⟩) nu cu) nu (intsC u)) := own_far HU2.out HO2.out (by decide) hgr
            clear hown2 hgr
            go_wp2
            go_roundw
            case rel => exact ⟨j + 1, by omega, by go_num, HS, HV, HT⟩
            case measure => simp [intOf]; omega
        · have hje : j = nu := by omega
          have h1 := HO2.out
          have h2 := tookP_all M a m
          rw [hje, ← HNU.out, ← HU.out, h2, show allP M m k ++ rowP M a m = allP M m (k + 1) by rw [allP_succ, ← HAKE.out]] at h1
          have HS := Lib.hid h1
          clear h1 h2
          go_wp2
          go_roundw
          case rel => exact ⟨k + 1, by omega, by go_num, HS, HB2⟩
          case measure => simp [intOf]; omega
    · have hkm : k = m - 1 := by omega
      subst hkm
      go_wp2
      go_ret
      exact ⟨_, rfl, HO.out, HB.out⟩
end Go.Proofs.Ytfadojniihjneaa

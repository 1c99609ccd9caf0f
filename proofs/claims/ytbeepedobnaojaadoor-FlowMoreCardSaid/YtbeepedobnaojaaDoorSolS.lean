/- Sets: New; Several. -/
import Derived.Test.YtbeepedobnaojaaDoorSolC
namespace Go.Proofs.YtbeepedobnaojaaDoor
open Go.RowKit Lf Go.Deep
namespace Sv
theorem info_set : (Tryd.prog.info? 52).map (fun i => (i.zero, i.size, i.bytes)) = some (some (.slice none 0 0), 1, 24) := by kernel_rfl
theorem info_u64 : (Tryd.prog.info? 40).map (fun i => (i.zero, i.size, i.bytes)) = some (some (.int .u64 0), 1, 8) := by kernel_rfl
/-- While newSets makes rows: k of them are made. -/
structure Part (w0 w : World) (H m k q : Nat) : Prop where
  size : w.heap.size = H + 1 + k
  outer : ∃ cs, Is w H 52 cs ∧ cs.size = m ∧ ∀ i, i < k → cs[i]? = some (.slice (some ⟨H + 1 + i, 0, none⟩) q q)
  row : ∀ i, i < k → Is w (H + 1 + i) 40 (madeCells #[.int .u64 0] q)
  since : Below H w0 w
section
variable {w0 w : World} {H m k q : Nat}
theorem part_start (w : World) (m q : Nat) : Part w (w.alloc (.cells (madeCells #[.slice none 0 0] m) 52)) w.heap.size m 0 q :=
  ⟨by simp, ⟨_, Is.made w _ _, by simp [madeCells], fun i hi => by omega⟩, fun i hi => by omega, (Below.refl _ w).alloc (Nat.le_refl _) _⟩
theorem Part.step (h : Part w0 w H m k q) (hk : k < m) :
    Part w0 ((w.alloc (.cells (madeCells #[.int .u64 0] q) 40)).setCell ⟨H, k, none⟩ (.slice (some ⟨w.heap.size, 0, none⟩) q q)) H m (k + 1) q := by
  have hs := h.size
  obtain ⟨cs, hc, hm, hr⟩ := h.outer
  refine ⟨by simp [World.setCell]; omega, ⟨_, (hc.alloc _).put k _, by simp [hm], fun i hi => ?_⟩, fun i hi => ?_, (h.since.alloc (by omega) _).setCell (Nat.le_refl _) _⟩
  · rw [Array.getElem?_setIfInBounds]
    by_cases hik : k = i
    · subst hik
      rw [if_pos rfl, if_pos (by omega), hs]
    · rw [if_neg hik]
      exact hr i (by omega)
  · by_cases hik : i = k
    · subst hik
      have := Is.made w 40 (madeCells #[.int .u64 0] q)
      rw [hs] at this
      exact this.aside (by show H + 1 + i ≠ H; omega) _
    · exact ((h.row i (by omega)).alloc _).aside (by show H + 1 + i ≠ H; omega) _
end
theorem set_new (w : World) {n q : Nat} (hn : n ≤ 64) (hq : (n + 63) / 64 = q) : Calls Tryd.prog 35 #[.int .i64 n] w fun e w' =>
    e = .returned (.slice (some ⟨w.heap.size, 0, none⟩) q q) ∧ w' = w.alloc (.cells (madeCells #[.int .u64 0] q) 40) := by
  have hq1 : q ≤ 1 := by omega
  have hmk := run_make_row' (P := Tryd.prog) 52 40 (.int .u64 0) 8 Tryd.underlying52 info_u64 rfl .i64 .i64 q (by omega) (by omega)
  have hdiv : ((n : Int) + 64 - 1) / 64 = (q : Int) := by omega
  go_enter Tryd.func35, Tryd.ntmps35
  go_wp2
  go_ret
  exact ⟨rfl, rfl⟩
set_option maxHeartbeats 2000000 in
theorem newSets_any (w : World) {m n q : Nat} (hm : m ≤ 4000) (hn : n ≤ 64) (hq : (n + 63) / 64 = q) : Calls Tryd.prog 22 #[.int .i64 m, .int .i64 n] w fun e w' =>
    e = .returned (.slice (some ⟨w.heap.size, 0, none⟩) m m) ∧ Part w w' w.heap.size m m q := by
  have hmk := run_make_row' (P := Tryd.prog) 45 52 (.slice none 0 0) 24 Tryd.underlying45 info_set rfl .i64 .i64 m (by omega) (by omega)
  obtain ⟨H, hH⟩ : ∃ x, w.heap.size = x := ⟨_, rfl⟩
  have p0 := part_start w m q
  rw [hH] at p0 ⊢
  have P0 := Lib.hid p0
  have hq1 : q ≤ 1 := by omega
  have HQ0 := Lib.hid hq
  clear p0 hq
  go_enter Tryd.func22, Tryd.ntmps22
  go_wp2
  clear hmk
  go_loopw [10] (fun i wr => ∃ k : Nat, k ≤ m ∧ i = .int .i64 k ∧ Hid (Part w wr H m k q)) (fun i _ => m - (intOf i).toNat)
  case atStart => exact ⟨0, Nat.zero_le _, rfl, P0⟩
  case round =>
    obtain ⟨k, hk, rfl, HL⟩ := hrel
    by_cases hlt : k < m
    · have HN := Lib.hid (set_new wr hn HQ0.out)
      obtain ⟨cs, hc, hcm, _⟩ := HL.out.outer
      have hf := fun o => (hc.alloc o).free k
      obtain ⟨v, hv⟩ : ∃ v, wr.cell? ⟨H, k, none⟩ = some v := ⟨cs[k], by rw [hc.at_, Array.getElem?_eq_getElem (by omega)]⟩
      have hs := HL.out.size
      have hvo : ∀ o, (wr.alloc o).cell? ⟨H, k, none⟩ = some v := fun o => by rw [World.cell?_alloc_old _ _ _ (by show H ≠ wr.heap.size; omega)]; exact hv
      have HQ := Lib.hid (HL.out.step hlt)
      clear hc hcm hs hv
      go_wp2_with fail
      refine HN.out.mono ?_
      rintro e w1 ⟨rfl, rfl⟩
      go_wp2
      go_roundw
      case rel => exact ⟨k + 1, by omega, by go_num, HQ⟩
      case measure => simp [intOf]; omega
    · have hkm : k = m := by omega
      subst hkm
      have HE := Lib.hid hH
      clear hH
      go_wp2
      go_ret
      exact ⟨rfl, HL.out⟩
end Sv
end Go.Proofs.YtbeepedobnaojaaDoor

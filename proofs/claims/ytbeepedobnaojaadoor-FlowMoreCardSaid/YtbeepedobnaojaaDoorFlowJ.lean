/- Forward and Backward of what is no problem, and of one without nodes; Has; List. -/
import Derived.Test.YtbeepedobnaojaaDoorFlowI
namespace Go.Proofs.YtbeepedobnaojaaDoor
open Go.RowKit Lf Go.Deep Sv Tr
namespace Fl
theorem bad_core (c : Int) (hc : c ≠ 0) : (c == 0) = false := by simp; exact hc
set_option maxHeartbeats 1000000 in
theorem forward_bad {w : World} {vs vg vk ve : Value} {p : Pb} (h : PbAt w vs vg vk ve p) (ho : codeP p ≠ 0) (hn : p.succ.length ≤ 64) :
    Calls Tryd.prog 11 #[pbV vs vg vk ve p.width] w fun e w' => e = .returned (.tuple #[.pointer none, .int .i64 (codeP p)]) ∧ Below w.heap.size w w' := by
  obtain ⟨V, hV⟩ : ∃ V, w.alloc (.cells #[vs, .int .i64 p.width, vg, vk, ve] 25) = V := ⟨_, rfl⟩
  have hB0 : Below w.heap.size w V := hV ▸ (Below.refl _ w).alloc (Nat.le_refl _) _
  have hC := check_any (h.below hB0) hn
  obtain ⟨c, hc⟩ : ∃ c, codeP p = c := ⟨_, rfl⟩
  rw [hc] at hC ho ⊢
  obtain ⟨wd, hwd⟩ : ∃ c, p.width = c := ⟨_, rfl⟩
  rw [hwd] at hC hV ⊢
  have hne := bad_core c ho
  have HV := Lib.hid hV
  have HB := Lib.hid hB0
  have HC := Lib.hid hC
  clear h hV hB0 hC hc ho hwd
  unfold pbV at HC ⊢
  go_enter Tryd.func11, Tryd.ntmps11
  go_wp2_with fail
  rw [HV.out]
  refine HC.out.mono ?_
  rintro e w1 ⟨rfl, q1⟩
  have HB1 := Lib.hid (HB.out.trans (q1.mono HB.out.size))
  clear q1
  go_wp2
  go_ret2
  exact ⟨rfl, HB1.out⟩
set_option maxHeartbeats 1000000 in
theorem backward_bad {w : World} {vs vg vk ve : Value} {p : Pb} (h : PbAt w vs vg vk ve p) (ho : codeP p ≠ 0) (hn : p.succ.length ≤ 64) :
    Calls Tryd.prog 16 #[pbV vs vg vk ve p.width] w fun e w' => e = .returned (.tuple #[.pointer none, .int .i64 (codeP p)]) ∧ Below w.heap.size w w' := by
  obtain ⟨V, hV⟩ : ∃ V, w.alloc (.cells #[vs, .int .i64 p.width, vg, vk, ve] 25) = V := ⟨_, rfl⟩
  have hB0 : Below w.heap.size w V := hV ▸ (Below.refl _ w).alloc (Nat.le_refl _) _
  have hC := check_any (h.below hB0) hn
  obtain ⟨c, hc⟩ : ∃ c, codeP p = c := ⟨_, rfl⟩
  rw [hc] at hC ho ⊢
  obtain ⟨wd, hwd⟩ : ∃ c, p.width = c := ⟨_, rfl⟩
  rw [hwd] at hC hV ⊢
  have hne := bad_core c ho
  have HV := Lib.hid hV
  have HB := Lib.hid hB0
  have HC := Lib.hid hC
  clear h hV hB0 hC hc ho hwd
  unfold pbV at HC ⊢
  go_enter Tryd.func16, Tryd.ntmps16
  go_wp2_with fail
  rw [HV.out]
  refine HC.out.mono ?_
  rintro e w1 ⟨rfl, q1⟩
  have HB1 := Lib.hid (HB.out.trans (q1.mono HB.out.size))
  clear q1
  go_wp2
  go_ret2
  exact ⟨rfl, HB1.out⟩
/-! No nodes. -/
theorem addNew_none (w : World) (a1 a2 : Option Addr) : Calls Tryd.prog 36 #[.slice a1 0 0, .slice a2 0 0, .slice none 0 0] w fun e w' => e = .returned (.slice none 0 0) ∧ w = w' := by
  go_enter Tryd.func36, Tryd.ntmps36
  go_wp2
  go_loopw [2, 11] (fun v' i wr => i = .int .i64 0 ∧ v' = .slice none 0 0 ∧ wr = w) (fun _ i _ => 1 - (intOf i).toNat)
  case atStart => exact ⟨rfl, rfl, rfl⟩
  case round =>
    obtain ⟨rfl, rfl, rfl⟩ := hrel
    go_wp2
    go_ret
    exact ⟨rfl, rfl⟩
theorem turned_none {w : World} {v : Value} (h : LsAt w v []) {m : Nat} (hm : m ≤ 4000) :
    Calls Tryd.prog 24 #[v, .int .i64 m, .int .i64 0] w fun e w' => e = .returned (.slice (some ⟨w.heap.size, 0, none⟩) m m) ∧ Part w w' w.heap.size m m 0 := by
  obtain ⟨A, c, rfl, _⟩ := h
  have HS := Lib.hid (newSets_any w (m := m) (n := 0) (q := 0) hm (by omega) (by omega))
  obtain ⟨H, hH⟩ : ∃ x, w.heap.size = x := ⟨_, rfl⟩
  rw [hH] at HS ⊢
  clear hH
  simp only [List.length_nil]
  go_enter Tryd.func24, Tryd.ntmps24
  go_wp2_with fail
  refine HS.out.mono ?_
  rintro e w1 ⟨rfl, q1⟩
  have Q := Lib.hid q1
  clear q1
  go_wp2
  go_loopw [17] (fun i wr => i = .int .i64 0 ∧ wr = w1) (fun i _ => 1 - (intOf i).toNat)
  case atStart => exact ⟨rfl, rfl⟩
  case round =>
    obtain ⟨rfl, rfl⟩ := hrel
    go_wp2
    go_ret
    exact ⟨rfl, Q.out⟩
theorem steps_none {w : World} {v : Value} (h : LsAt w v []) :
    Calls Tryd.prog 23 #[v] w fun e w' => e = .returned (.slice (some ⟨w.heap.size, 0, none⟩) 0 0) ∧ Part w w' w.heap.size 0 0 0 := by
  obtain ⟨A, c, rfl, _⟩ := h
  have HS := Lib.hid (newSets_any w (m := 0) (n := 0) (q := 0) (by omega) (by omega) (by omega))
  obtain ⟨H, hH⟩ : ∃ x, w.heap.size = x := ⟨_, rfl⟩
  rw [hH] at HS ⊢
  clear hH
  simp only [List.length_nil]
  go_enter Tryd.func23, Tryd.ntmps23
  go_wp2_with fail
  refine HS.out.mono ?_
  rintro e w1 ⟨rfl, q1⟩
  have Q := Lib.hid q1
  clear q1
  go_wp2
  go_loopw [15] (fun i wr => i = .int .i64 0 ∧ wr = w1) (fun i _ => 1 - (intOf i).toNat)
  case atStart => exact ⟨rfl, rfl⟩
  case round =>
    obtain ⟨rfl, rfl⟩ := hrel
    go_wp2
    go_ret
    exact ⟨rfl, Q.out⟩
theorem flood_none (w : World) (a1 a2 a3 : Option Addr) (n : Nat) :
    Calls Tryd.prog 27 #[.slice a1 0 0, .slice a2 0 0, .slice a3 n n] w fun e w' => e = .returned (.slice none 0 0) ∧ Below w.heap.size w w' := by
  have hmk : ∀ w : World, Sem.run Tryd.prog (Instr.makeSlice 52 (.int .i64 0) (.int .i64 0)) w = .ok (.slice (some ⟨w.heap.size, 0, none⟩) 0 0) (w.alloc (.cells (madeCells #[.int .u64 0] 0) 40)) := run_make_row' (P := Tryd.prog) 52 40 (.int .u64 0) 8 Tryd.underlying52 info_u64 rfl .i64 .i64 0 (by omega) (by omega)
  have HB : Hid (Below w.heap.size w ((w.alloc (.cells (madeCells #[.int .u64 0] 0) 40)).alloc (.cells (madeCells #[.int .u64 0] 0) 40))) := ((Below.refl _ w).alloc (Nat.le_refl _) _).alloc (by simp) _
  go_enter Tryd.func27, Tryd.ntmps27
  go_wp2_with fail
  refine (addNew_none _ _ _).mono ?_
  rintro e w1 ⟨rfl, rfl⟩
  go_wp2
  go_loopw [9, 10] (fun v i wr => i = .int .i64 0 ∧ v = .slice none 0 0 ∧ wr = ((w.alloc (.cells (madeCells #[.int .u64 0] 0) 40)).alloc (.cells (madeCells #[.int .u64 0] 0) 40))) (fun _ i _ => 1 - (intOf i).toNat)
  case atStart => exact ⟨rfl, rfl, rfl⟩
  case round =>
    obtain ⟨rfl, rfl, rfl⟩ := hrel
    go_wp2
    go_ret
    exact ⟨rfl, HB.out⟩
end Fl
end Go.Proofs.YtbeepedobnaojaaDoor

/- Layer 13: values of no parts, and of two: cloned, whole. -/
import Derived.Test.YtbhjdpaicfnfcaaHeapB
import Derived.Test.YtbhjdpaicfnfcaaTypesX
namespace Go.Proofs.Ytbhjdpaicfnfcaa
open Go.RowKit Go.Deep Tr
namespace Hp
theorem size_al (w : World) (o : Obj) : (w.alloc o).heap.size = w.heap.size + 1 := by simp
/-- A value of no parts. -/
def leafC (k n al : Int) : List Value := [.int .i64 k, .int .u64 n, .string ⟨#[]⟩, .slice none 0 0, .int .i64 al, .slice none 0 0, .int .i64 0]
/-- A struct of two parts, that lie in block q. -/
def twoC (q : Nat) : List Value := [.int .i64 5, .int .u64 0, .string ⟨#[83]⟩, .slice (some ⟨q, 0, none⟩) 2 2, .int .i64 0, .slice none 0 0, .int .i64 0]
/-- These parts. -/
def TwoIn (w : World) (q : Nat) (k n k' n' : Int) : Prop := Is w q 34 (leafC k n 0 ++ leafC k' n' 0).toArray
set_option maxHeartbeats 8000000
set_option maxRecDepth 100000
theorem clone_leaf (w : World) (k n al : Int) : Calls Try.prog 27 #[.agg (leafC k n al).toArray] w fun e w' => e = .returned (.agg (leafC k n al).toArray) ∧ Below w.heap.size w w' := by
  unfold leafC
  go_enter Try.func27, Try.ntmps27
  go_wp2_with fail
  refine (Ts.clone_nil 0 0 _).mono ?_
  rintro e w1 ⟨rfl, rfl⟩
  go_wp2
  refine bodyPost_ret (v := .agg (leafC k n al).toArray) (by simp [results, Try.results27, go_sem, leafC]) rfl ⟨rfl, ?_⟩
  exact ((Below.refl _ w).alloc (Nat.le_refl _) _).alloc (by simp) _
/-- While the parts are cloned. -/
def HalfAt (w : World) (q j : Nat) (k n k' n' : Int) : Prop := Is w q 34 ((if 0 < j then leafC k n 0 else leafC 0 0 0) ++ (if 1 < j then leafC k' n' 0 else leafC 0 0 0)).toArray
def zeroVal : Value := .agg #[.int .i64 0, .int .u64 0, .string ⟨#[]⟩, .slice none 0 0, .int .i64 0, .slice none 0 0, .int .i64 0]
theorem info_val : (Try.prog.info? 34).map (fun i => (i.zero, i.size, i.bytes)) = some (some zeroVal, 7, 96) := by kernel_rfl
theorem made14 : madeCells zeroVal.cells 14 = (leafC 0 0 0 ++ leafC 0 0 0).toArray := by kernel_rfl
theorem make_two (w : World) : (Instr.makeSlice 32 (.int .i64 2) (.int .i64 2)).run Try.prog w = .ok (.slice (some ⟨w.heap.size, 0, none⟩) 2 2) (w.alloc (.cells (leafC 0 0 0 ++ leafC 0 0 0).toArray 34)) := by
  obtain ⟨i, hi, hzz⟩ := Option.map_eq_some_iff.1 info_val
  simp only [Prod.mk.injEq] at hzz
  obtain ⟨hz, hs, hb⟩ := hzz
  have := run_make (P := Try.prog) w 32 34 i zeroVal Try.underlying32 hi hz .i64 .i64 2 2 (by decide) (by decide) (by rw [hb]; decide) (by decide)
  rw [hs] at this
  rw [this]
  show Result.ok _ (w.alloc (.cells (madeCells zeroVal.cells 14) _)) = _
  rw [made14]
  rfl
theorem clone_two {w : World} {q : Nat} {k n k' n' : Int} (h : TwoIn w q k n k' n') : Calls Try.prog 27 #[.agg (twoC q).toArray] w fun e w' => ∃ q', e = .returned (.agg (twoC q').toArray) ∧ TwoIn w' q' k n k' n' ∧ w.heap.size ≤ q' ∧ Below w.heap.size w w' := by
  have HT := Lib.hid h
  clear h
  unfold twoC
  have hmk := make_two
  go_enter Try.func27, Try.ntmps27
  go_wp2_with fail
  refine (Ts.clone_nil 0 0 _).mono ?_
  rintro e w1 ⟨rfl, rfl⟩
  go_wp2_with fail
  obtain ⟨N, hN⟩ : ∃ N, w.heap.size = N := ⟨_, rfl⟩
  have HN := Lib.hid hN
  obtain ⟨W3, hW3⟩ : ∃ W3, ((w.alloc (.cells #[.int .i64 5, .int .u64 0, .string ⟨#[83]⟩, .slice (some ⟨q, 0, none⟩) 2 2, .int .i64 0, .slice none 0 0, .int .i64 0] 34)).alloc (.cells #[.int .i64 0, .int .u64 0, .string ⟨#[]⟩, .slice none 0 0, .int .i64 0, .slice none 0 0, .int .i64 0] 34)).alloc (.cells (leafC 0 0 0 ++ leafC 0 0 0).toArray 34) = W3 := ⟨_, rfl⟩
  have HQ : Hid (HalfAt W3 (N + 1 + 1) 0 k n k' n' ∧ Is W3 N 34 #[.int .i64 5, .int .u64 0, .string ⟨#[83]⟩, .slice (some ⟨q, 0, none⟩) 2 2, .int .i64 0, .slice none 0 0, .int .i64 0] ∧ Is W3 (N + 1) 34 #[.int .i64 0, .int .u64 0, .string ⟨#[]⟩, .slice none 0 0, .int .i64 0, .slice none 0 0, .int .i64 0] ∧ Below N w W3 ∧ N + 1 + 1 + 1 ≤ W3.heap.size) := by
    subst hN
    rw [← hW3]
    refine ⟨?_, ((Is.made w _ _).alloc _).alloc _, ?_, (((Below.refl _ w).alloc (Nat.le_refl _) _).alloc (by simp) _).alloc (by simp; omega) _, by simp⟩
    · have := Is.made ((w.alloc (.cells #[.int .i64 5, .int .u64 0, .string ⟨#[83]⟩, .slice (some ⟨q, 0, none⟩) 2 2, .int .i64 0, .slice none 0 0, .int .i64 0] 34)).alloc (.cells #[.int .i64 0, .int .u64 0, .string ⟨#[]⟩, .slice none 0 0, .int .i64 0, .slice none 0 0, .int .i64 0] 34)) 34 (leafC 0 0 0 ++ leafC 0 0 0).toArray
      simp only [size_al] at this
      exact this
    · have := (Is.made (w.alloc (.cells #[.int .i64 5, .int .u64 0, .string ⟨#[83]⟩, .slice (some ⟨q, 0, none⟩) 2 2, .int .i64 0, .slice none 0 0, .int .i64 0] 34)) 34 #[.int .i64 0, .int .u64 0, .string ⟨#[]⟩, .slice none 0 0, .int .i64 0, .slice none 0 0, .int .i64 0]).alloc (.cells (leafC 0 0 0 ++ leafC 0 0 0).toArray 34)
      simp only [size_al] at this
      exact this
  rw [hW3, hN]
  clear hW3 hN hmk
  go_loopw [25] (fun i wr => ∃ j : Nat, j ≤ 2 ∧ i = .int .i64 j ∧ Hid (HalfAt wr (N + 1 + 1) j k n k' n' ∧ Is wr N 34 #[.int .i64 5, .int .u64 0, .string ⟨#[83]⟩, .slice (some ⟨q, 0, none⟩) 2 2, .int .i64 0, .slice none 0 0, .int .i64 0] ∧ Is wr (N + 1) 34 #[.int .i64 0, .int .u64 0, .string ⟨#[]⟩, .slice none 0 0, .int .i64 0, .slice none 0 0, .int .i64 0] ∧ Below N w wr ∧ N + 1 + 1 + 1 ≤ wr.heap.size)) (fun i _ => 2 - (intOf i).toNat)
  case atStart => exact ⟨0, Nat.zero_le _, rfl, HQ⟩
  case round =>
    obtain ⟨j, hj, rfl, HJ⟩ := hrel
    obtain ⟨hh, i1, i2, b1, hs⟩ := HJ.out
    have hT : TwoIn wr q k n k' n' := HT.out.below b1 (by have := HT.out.lt; rw [HN.out] at this; exact this)
    have hf : ∀ i, wr.frozen? ⟨N + 1 + 1, i, none⟩ = false := fun i => hh.free i
    rcases (show j = 0 ∨ j = 1 ∨ j = 2 by omega) with rfl | rfl | rfl
    · have x0 := hT.at_ 0
      have x1 := hT.at_ 1
      have x2 := hT.at_ 2
      have x3 := hT.at_ 3
      have x4 := hT.at_ 4
      have x5 := hT.at_ 5
      have x6 := hT.at_ 6
      simp [leafC] at x0 x1 x2 x3 x4 x5 x6
      have HW : Hid (Below wr.heap.size wr (wr.alloc (.cells #[.int .i64 k, .int .u64 n, .string ⟨#[]⟩, .slice none 0 0, .int .i64 0, .slice none 0 0, .int .i64 0] 34))) := (Below.refl _ wr).alloc (Nat.le_refl _) _
      clear hh i1 i2 b1 hs hT
      go_wp2_with fail
      refine (clone_leaf _ k n 0).mono ?_
      rintro e w2 ⟨rfl, q2⟩
      have B2 : Hid (Below wr.heap.size wr w2) := HW.out.trans (q2.mono HW.out.size)
      have hh2 : HalfAt w2 (N + 1 + 1) 0 k n k' n' := HJ.out.1.below B2.out HJ.out.1.lt
      unfold HalfAt at hh2
      simp [leafC] at hh2
      have y0 := hh2.at_ 0
      have y1 := hh2.at_ 1
      have y2 := hh2.at_ 2
      have y3 := hh2.at_ 3
      have y4 := hh2.at_ 4
      have y5 := hh2.at_ 5
      have y6 := hh2.at_ 6
      have yf : ∀ i, w2.frozen? ⟨N + 1 + 1, i, none⟩ = false := fun i => hh2.free i
      simp at y0 y1 y2 y3 y4 y5 y6
      have HS : Hid (HalfAt (((((((w2.setCell ⟨N + 1 + 1, 0, none⟩ (.int .i64 k)).setCell ⟨N + 1 + 1, 1, none⟩ (.int .u64 n)).setCell ⟨N + 1 + 1, 2, none⟩ (.string ⟨#[]⟩)).setCell ⟨N + 1 + 1, 3, none⟩ (.slice none 0 0)).setCell ⟨N + 1 + 1, 4, none⟩ (.int .i64 0)).setCell ⟨N + 1 + 1, 5, none⟩ (.slice none 0 0)).setCell ⟨N + 1 + 1, 6, none⟩ (.int .i64 0)) (N + 1 + 1) 1 k n k' n' ∧ Is (((((((w2.setCell ⟨N + 1 + 1, 0, none⟩ (.int .i64 k)).setCell ⟨N + 1 + 1, 1, none⟩ (.int .u64 n)).setCell ⟨N + 1 + 1, 2, none⟩ (.string ⟨#[]⟩)).setCell ⟨N + 1 + 1, 3, none⟩ (.slice none 0 0)).setCell ⟨N + 1 + 1, 4, none⟩ (.int .i64 0)).setCell ⟨N + 1 + 1, 5, none⟩ (.slice none 0 0)).setCell ⟨N + 1 + 1, 6, none⟩ (.int .i64 0)) N 34 #[.int .i64 5, .int .u64 0, .string ⟨#[83]⟩, .slice (some ⟨q, 0, none⟩) 2 2, .int .i64 0, .slice none 0 0, .int .i64 0] ∧ Is (((((((w2.setCell ⟨N + 1 + 1, 0, none⟩ (.int .i64 k)).setCell ⟨N + 1 + 1, 1, none⟩ (.int .u64 n)).setCell ⟨N + 1 + 1, 2, none⟩ (.string ⟨#[]⟩)).setCell ⟨N + 1 + 1, 3, none⟩ (.slice none 0 0)).setCell ⟨N + 1 + 1, 4, none⟩ (.int .i64 0)).setCell ⟨N + 1 + 1, 5, none⟩ (.slice none 0 0)).setCell ⟨N + 1 + 1, 6, none⟩ (.int .i64 0)) (N + 1) 34 #[.int .i64 0, .int .u64 0, .string ⟨#[]⟩, .slice none 0 0, .int .i64 0, .slice none 0 0, .int .i64 0] ∧ Below N w (((((((w2.setCell ⟨N + 1 + 1, 0, none⟩ (.int .i64 k)).setCell ⟨N + 1 + 1, 1, none⟩ (.int .u64 n)).setCell ⟨N + 1 + 1, 2, none⟩ (.string ⟨#[]⟩)).setCell ⟨N + 1 + 1, 3, none⟩ (.slice none 0 0)).setCell ⟨N + 1 + 1, 4, none⟩ (.int .i64 0)).setCell ⟨N + 1 + 1, 5, none⟩ (.slice none 0 0)).setCell ⟨N + 1 + 1, 6, none⟩ (.int .i64 0)) ∧ N + 1 + 1 + 1 ≤ (((((((w2.setCell ⟨N + 1 + 1, 0, none⟩ (.int .i64 k)).setCell ⟨N + 1 + 1, 1, none⟩ (.int .u64 n)).setCell ⟨N + 1 + 1, 2, none⟩ (.string ⟨#[]⟩)).setCell ⟨N + 1 + 1, 3, none⟩ (.slice none 0 0)).setCell ⟨N + 1 + 1, 4, none⟩ (.int .i64 0)).setCell ⟨N + 1 + 1, 5, none⟩ (.slice none 0 0)).setCell ⟨N + 1 + 1, 6, none⟩ (.int .i64 0)).heap.size) := by
        obtain ⟨_, i1, i2, b1, hs⟩ := HJ.out
        have hm : Mod (fun k => k = N + 1 + 1) w2 (((((((w2.setCell ⟨N + 1 + 1, 0, none⟩ (.int .i64 k)).setCell ⟨N + 1 + 1, 1, none⟩ (.int .u64 n)).setCell ⟨N + 1 + 1, 2, none⟩ (.string ⟨#[]⟩)).setCell ⟨N + 1 + 1, 3, none⟩ (.slice none 0 0)).setCell ⟨N + 1 + 1, 4, none⟩ (.int .i64 0)).setCell ⟨N + 1 + 1, 5, none⟩ (.slice none 0 0)).setCell ⟨N + 1 + 1, 6, none⟩ (.int .i64 0)) := ((((((((Mod.refl (fun k => k = N + 1 + 1) w2).put (fun _ => rfl) _ _).put (fun _ => rfl) _ _).put (fun _ => rfl) _ _).put (fun _ => rfl) _ _).put (fun _ => rfl) _ _).put (fun _ => rfl) _ _).put (fun _ => rfl) _ _)
        refine ⟨?_, hm.is (i1.below B2.out i1.lt) (by show N ≠ N + 1 + 1; omega), hm.is (i2.below B2.out i2.lt) (by show N + 1 ≠ N + 1 + 1; omega), ?_, Nat.le_trans (Nat.le_trans hs B2.out.size) hm.size⟩
        · have := (((((((hh2.put 0 (.int .i64 k)).put 1 (.int .u64 n)).put 2 (.string ⟨#[]⟩)).put 3 (.slice none 0 0)).put 4 (.int .i64 0)).put 5 (.slice none 0 0)).put 6 (.int .i64 0))
          unfold HalfAt
          simpa [leafC] using this
        · exact hm.below (b1.trans (B2.out.mono (by have := b1.size; rw [HN.out] at this; exact this))) (by have := B2.out.size; omega) (fun k hk => by subst hk; omega)
      unfold leafC
      clear HJ HW B2 hh2 q2 x0 x1 x2 x3 x4 x5 x6 hf
      go_wp2
      go_roundw
      case rel => exact ⟨1, by omega, by go_num, HS⟩
      case measure => simp [intOf]
    · have x0 := hT.at_ 7
      have x1 := hT.at_ 8
      have x2 := hT.at_ 9
      have x3 := hT.at_ 10
      have x4 := hT.at_ 11
      have x5 := hT.at_ 12
      have x6 := hT.at_ 13
      simp [leafC] at x0 x1 x2 x3 x4 x5 x6
      have HW : Hid (Below wr.heap.size wr (wr.alloc (.cells #[.int .i64 k', .int .u64 n', .string ⟨#[]⟩, .slice none 0 0, .int .i64 0, .slice none 0 0, .int .i64 0] 34))) := (Below.refl _ wr).alloc (Nat.le_refl _) _
      clear hh i1 i2 b1 hs hT
      go_wp2_with fail
      refine (clone_leaf _ k' n' 0).mono ?_
      rintro e w2 ⟨rfl, q2⟩
      have B2 : Hid (Below wr.heap.size wr w2) := HW.out.trans (q2.mono HW.out.size)
      have hh2 : HalfAt w2 (N + 1 + 1) 1 k n k' n' := HJ.out.1.below B2.out HJ.out.1.lt
      unfold HalfAt at hh2
      simp [leafC] at hh2
      have y0 := hh2.at_ 7
      have y1 := hh2.at_ 8
      have y2 := hh2.at_ 9
      have y3 := hh2.at_ 10
      have y4 := hh2.at_ 11
      have y5 := hh2.at_ 12
      have y6 := hh2.at_ 13
      have yf : ∀ i, w2.frozen? ⟨N + 1 + 1, i, none⟩ = false := fun i => hh2.free i
      simp at y0 y1 y2 y3 y4 y5 y6
      have HS : Hid (HalfAt (((((((w2.setCell ⟨N + 1 + 1, 7, none⟩ (.int .i64 k')).setCell ⟨N + 1 + 1, 8, none⟩ (.int .u64 n')).setCell ⟨N + 1 + 1, 9, none⟩ (.string ⟨#[]⟩)).setCell ⟨N + 1 + 1, 10, none⟩ (.slice none 0 0)).setCell ⟨N + 1 + 1, 11, none⟩ (.int .i64 0)).setCell ⟨N + 1 + 1, 12, none⟩ (.slice none 0 0)).setCell ⟨N + 1 + 1, 13, none⟩ (.int .i64 0)) (N + 1 + 1) 2 k n k' n' ∧ Is (((((((w2.setCell ⟨N + 1 + 1, 7, none⟩ (.int .i64 k')).setCell ⟨N + 1 + 1, 8, none⟩ (.int .u64 n')).setCell ⟨N + 1 + 1, 9, none⟩ (.string ⟨#[]⟩)).setCell ⟨N + 1 + 1, 10, none⟩ (.slice none 0 0)).setCell ⟨N + 1 + 1, 11, none⟩ (.int .i64 0)).setCell ⟨N + 1 + 1, 12, none⟩ (.slice none 0 0)).setCell ⟨N + 1 + 1, 13, none⟩ (.int .i64 0)) N 34 #[.int .i64 5, .int .u64 0, .string ⟨#[83]⟩, .slice (some ⟨q, 0, none⟩) 2 2, .int .i64 0, .slice none 0 0, .int .i64 0] ∧ Is (((((((w2.setCell ⟨N + 1 + 1, 7, none⟩ (.int .i64 k')).setCell ⟨N + 1 + 1, 8, none⟩ (.int .u64 n')).setCell ⟨N + 1 + 1, 9, none⟩ (.string ⟨#[]⟩)).setCell ⟨N + 1 + 1, 10, none⟩ (.slice none 0 0)).setCell ⟨N + 1 + 1, 11, none⟩ (.int .i64 0)).setCell ⟨N + 1 + 1, 12, none⟩ (.slice none 0 0)).setCell ⟨N + 1 + 1, 13, none⟩ (.int .i64 0)) (N + 1) 34 #[.int .i64 0, .int .u64 0, .string ⟨#[]⟩, .slice none 0 0, .int .i64 0, .slice none 0 0, .int .i64 0] ∧ Below N w (((((((w2.setCell ⟨N + 1 + 1, 7, none⟩ (.int .i64 k')).setCell ⟨N + 1 + 1, 8, none⟩ (.int .u64 n')).setCell ⟨N + 1 + 1, 9, none⟩ (.string ⟨#[]⟩)).setCell ⟨N + 1 + 1, 10, none⟩ (.slice none 0 0)).setCell ⟨N + 1 + 1, 11, none⟩ (.int .i64 0)).setCell ⟨N + 1 + 1, 12, none⟩ (.slice none 0 0)).setCell ⟨N + 1 + 1, 13, none⟩ (.int .i64 0)) ∧ N + 1 + 1 + 1 ≤ (((((((w2.setCell ⟨N + 1 + 1, 7, none⟩ (.int .i64 k')).setCell ⟨N + 1 + 1, 8, none⟩ (.int .u64 n')).setCell ⟨N + 1 + 1, 9, none⟩ (.string ⟨#[]⟩)).setCell ⟨N + 1 + 1, 10, none⟩ (.slice none 0 0)).setCell ⟨N + 1 + 1, 11, none⟩ (.int .i64 0)).setCell ⟨N + 1 + 1, 12, none⟩ (.slice none 0 0)).setCell ⟨N + 1 + 1, 13, none⟩ (.int .i64 0)).heap.size) := by
        obtain ⟨_, i1, i2, b1, hs⟩ := HJ.out
        have hm : Mod (fun k => k = N + 1 + 1) w2 (((((((w2.setCell ⟨N + 1 + 1, 7, none⟩ (.int .i64 k')).setCell ⟨N + 1 + 1, 8, none⟩ (.int .u64 n')).setCell ⟨N + 1 + 1, 9, none⟩ (.string ⟨#[]⟩)).setCell ⟨N + 1 + 1, 10, none⟩ (.slice none 0 0)).setCell ⟨N + 1 + 1, 11, none⟩ (.int .i64 0)).setCell ⟨N + 1 + 1, 12, none⟩ (.slice none 0 0)).setCell ⟨N + 1 + 1, 13, none⟩ (.int .i64 0)) := ((((((((Mod.refl (fun k => k = N + 1 + 1) w2).put (fun _ => rfl) _ _).put (fun _ => rfl) _ _).put (fun _ => rfl) _ _).put (fun _ => rfl) _ _).put (fun _ => rfl) _ _).put (fun _ => rfl) _ _).put (fun _ => rfl) _ _)
        refine ⟨?_, hm.is (i1.below B2.out i1.lt) (by show N ≠ N + 1 + 1; omega), hm.is (i2.below B2.out i2.lt) (by show N + 1 ≠ N + 1 + 1; omega), ?_, Nat.le_trans (Nat.le_trans hs B2.out.size) hm.size⟩
        · have := (((((((hh2.put 7 (.int .i64 k')).put 8 (.int .u64 n')).put 9 (.string ⟨#[]⟩)).put 10 (.slice none 0 0)).put 11 (.int .i64 0)).put 12 (.slice none 0 0)).put 13 (.int .i64 0))
          unfold HalfAt
          simpa [leafC] using this
        · exact hm.below (b1.trans (B2.out.mono (by have := b1.size; rw [HN.out] at this; exact this))) (by have := B2.out.size; omega) (fun k hk => by subst hk; omega)
      unfold leafC
      clear HJ HW B2 hh2 q2 x0 x1 x2 x3 x4 x5 x6 hf
      go_wp2
      go_roundw
      case rel => exact ⟨2, by omega, by go_num, HS⟩
      case measure => simp [intOf]
    · clear hf
      have n0 := i1.at_ 0
      have n1 := i1.at_ 1
      have n2 := i1.at_ 2
      have n3 := i1.at_ 3
      have n4 := i1.at_ 4
      have n5 := i1.at_ 5
      have n6 := i1.at_ 6
      have m0 := i2.at_ 0
      have m1 := i2.at_ 1
      have m2 := i2.at_ 2
      have m3 := i2.at_ 3
      have m4 := i2.at_ 4
      have m5 := i2.at_ 5
      have m6 := i2.at_ 6
      have nf : ∀ i, wr.frozen? ⟨N, i, none⟩ = false := fun i => i1.free i
      have mf : ∀ i, wr.frozen? ⟨N + 1, i, none⟩ = false := fun i => i2.free i
      simp at n0 n1 n2 n3 n4 n5 n6 m0 m1 m2 m3 m4 m5 m6
      clear hh i1 i2 b1 hs hT
      go_wp2
      refine bodyPost_ret (v := .agg (twoC (N + 1 + 1)).toArray) (by simp [results, Try.results27, go_sem, twoC, m0, m1, m2, m3, m4, m5, m6]) rfl ⟨N + 1 + 1, rfl, ?_, ?_, ?_⟩
      · refine Mod.is (S := fun k => k = N ∨ k = N + 1) (x := wr) ?_ (show Is wr (N + 1 + 1) _ _ by have := HJ.out.1; unfold HalfAt at this; simpa using this) (by show ¬(N + 1 + 1 = N ∨ N + 1 + 1 = N + 1); omega)
        repeat refine Mod.put ?_ (fun _ => by simp) _ _
        exact Mod.refl _ _
      · rw [HN.out]; omega
      · refine Mod.below (S := fun k => k = N ∨ k = N + 1) (y := wr) ?_ (by rw [HN.out]; exact HJ.out.2.2.2.1) (by rw [HN.out]; have := HJ.out.2.2.2.2; omega) (fun k hk => by rw [HN.out]; omega)
        repeat refine Mod.put ?_ (fun _ => by simp) _ _
        exact Mod.refl _ _
theorem index_nil (w : World) : Calls Try.prog 70 #[.slice none 0 0, .func (.func 60) #[] #[]] w fun e w' => e = .returned (.int .i64 (-1)) ∧ w = w' := by
  go_enter Try.func70, Try.ntmps70
  go_wp2
  go_loopw [8] (fun i wr => i = .int .i64 0 ∧ wr = w) (fun _ _ => 0)
  case atStart => exact ⟨rfl, rfl⟩
  case round =>
    obtain ⟨rfl, rfl⟩ := hrel
    go_wp2
    go_ret
    exact ⟨rfl, rfl⟩
theorem contains_nil (w : World) : Calls Try.prog 59 #[.slice none 0 0, .func (.func 60) #[] #[]] w fun e w' => e = .returned (.bool false) ∧ w = w' := by
  go_enter Try.func59, Try.ntmps59
  go_wp2_with fail
  refine (index_nil _).mono ?_
  rintro e w1 ⟨rfl, rfl⟩
  go_wp2
  go_ret
  exact ⟨rfl, rfl⟩
theorem whole_leaf (w : World) (k n al : Int) : Calls Try.prog 48 #[.agg (leafC k n al).toArray] w fun e w' => e = .returned (.bool (k != 0)) ∧ Below w.heap.size w w' := by
  unfold leafC
  by_cases hk : k = 0
  · subst hk
    go_enter Try.func48, Try.ntmps48
    go_wp2
    go_ret
    exact ⟨rfl, (Below.refl _ w).alloc (Nat.le_refl _) _⟩
  · have e1 : (k != 0) = true := by simp [hk]
    have e2 : (k == 0) = false := by simp [hk]
    rw [e1]
    clear hk
    go_enter Try.func48, Try.ntmps48
    go_wp2_with fail
    refine (contains_nil _).mono ?_
    rintro e w1 ⟨rfl, rfl⟩
    go_wp2
    go_ret
    exact ⟨rfl, (Below.refl _ w).alloc (Nat.le_refl _) _⟩
theorem whole1_leaf (w : World) (k n al : Int) : Calls Try.prog 60 #[.agg (leafC k n al).toArray] w fun e w' => e = .returned (.bool (!(k != 0))) ∧ Below w.heap.size w w' := by
  have HW := fun W => whole_leaf W k n al
  unfold leafC at HW ⊢
  go_enter Try.func60, Try.ntmps60
  go_wp2_with fail
  refine (HW _).mono ?_
  rintro e w1 ⟨rfl, q1⟩
  go_wp2
  go_ret
  exact ⟨rfl, ((Below.refl _ w).alloc (Nat.le_refl _) _).trans (q1.mono (by simp))⟩
end Hp
end Go.Proofs.Ytbhjdpaicfnfcaa

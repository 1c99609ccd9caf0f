/- Layer 13: whole structs of two parts; parts of values. -/
import Derived.Test.YtbhjdpaicfnfcaaHeapG
import Derived.Test.YtbhjdpaicfnfcaaHeapF
namespace Go.Proofs.Ytbhjdpaicfnfcaa
open Go.RowKit Go.Deep Tr
namespace Hp
set_option maxHeartbeats 8000000
set_option maxRecDepth 100000
theorem index_two {w : World} {q : Nat} {k n k' n' : Int} (h : TwoIn w q k n k' n') (h0 : k ≠ 0) (h1 : k' ≠ 0) : Calls Try.prog 70 #[.slice (some ⟨q, 0, none⟩) 2 2, .func (.func 60) #[] #[]] w fun e w' => e = .returned (.int .i64 (-1)) ∧ Below w.heap.size w w' := by
  have HT := Lib.hid h
  have h0 := Lib.hid h0
  have h1 := Lib.hid h1
  clear h
  go_enter Try.func70, Try.ntmps70
  go_wp2
  go_loopw [8] (fun i wr => ∃ j : Nat, j ≤ 2 ∧ i = .int .i64 j ∧ Hid (Below w.heap.size w wr)) (fun i _ => 2 - (intOf i).toNat)
  case atStart => exact ⟨0, Nat.zero_le _, rfl, Below.refl _ _⟩
  case round =>
    obtain ⟨j, hj, rfl, HB⟩ := hrel
    rcases (show j = 0 ∨ j = 1 ∨ j = 2 by omega) with rfl | rfl | rfl
    · have hT := HT.out.below HB.out HT.out.lt
      have x0 := hT.at_ 0
      have x1 := hT.at_ 1
      have x2 := hT.at_ 2
      have x3 := hT.at_ 3
      have x4 := hT.at_ 4
      have x5 := hT.at_ 5
      have x6 := hT.at_ 6
      simp [leafC] at x0 x1 x2 x3 x4 x5 x6
      have HW := Lib.hid (whole1_leaf wr k n 0)
      have e0 : (k != 0) = true := by simp [h0.out]
      rw [e0] at HW
      unfold leafC at HW
      clear hT e0
      go_wp2_with fail
      refine HW.out.mono ?_
      rintro e w2 ⟨rfl, q2⟩
      have HB2 := Lib.hid (HB.out.trans (q2.mono HB.out.size))
      clear HW HB q2 x0 x1 x2 x3 x4 x5 x6
      go_wp2
      go_roundw
      case rel => exact ⟨1, by omega, by go_num, HB2⟩
      case measure => simp [intOf]
    · have hT := HT.out.below HB.out HT.out.lt
      have x0 := hT.at_ 7
      have x1 := hT.at_ 8
      have x2 := hT.at_ 9
      have x3 := hT.at_ 10
      have x4 := hT.at_ 11
      have x5 := hT.at_ 12
      have x6 := hT.at_ 13
      simp [leafC] at x0 x1 x2 x3 x4 x5 x6
      have HW := Lib.hid (whole1_leaf wr k' n' 0)
      have e0 : (k' != 0) = true := by simp [h1.out]
      rw [e0] at HW
      unfold leafC at HW
      clear hT e0
      go_wp2_with fail
      refine HW.out.mono ?_
      rintro e w2 ⟨rfl, q2⟩
      have HB2 := Lib.hid (HB.out.trans (q2.mono HB.out.size))
      clear HW HB q2 x0 x1 x2 x3 x4 x5 x6
      go_wp2
      go_roundw
      case rel => exact ⟨2, by omega, by go_num, HB2⟩
      case measure => simp [intOf]
    · go_wp2
      go_ret
      exact ⟨rfl, HB.out⟩
theorem whole_two {w : World} {q : Nat} {k n k' n' : Int} (h : TwoIn w q k n k' n') (h0 : k ≠ 0) (h1 : k' ≠ 0) : Calls Try.prog 48 #[.agg (twoC q).toArray] w fun e w' => e = .returned (.bool true) ∧ Below w.heap.size w w' := by
  have HC : Hid (∀ X, Below w.heap.size w X → Calls Try.prog 59 #[.slice (some ⟨q, 0, none⟩) 2 2, .func (.func 60) #[] #[]] X fun e w' => e = .returned (.bool false) ∧ Below X.heap.size X w') := fun X hX => by
    have HX := Lib.hid (index_two (h.below hX h.lt : TwoIn X q k n k' n') h0 h1)
    clear h0 h1
    go_enter Try.func59, Try.ntmps59
    go_wp2_with fail
    refine HX.out.mono ?_
    rintro e w1 ⟨rfl, q1⟩
    go_wp2
    go_ret
    exact ⟨rfl, q1⟩
  clear h h0 h1
  unfold twoC
  go_enter Try.func48, Try.ntmps48
  go_wp2_with fail
  refine (HC.out _ ((Below.refl _ w).alloc (Nat.le_refl _) _)).mono ?_
  rintro e w1 ⟨rfl, q1⟩
  go_wp2
  go_ret
  exact ⟨rfl, ((Below.refl _ w).alloc (Nat.le_refl _) _).trans (q1.mono (by simp))⟩
theorem part_nil (w : World) (b o : Nat) (A : Option Addr) (c : Nat) : Calls Try.prog 32 #[.pointer (some ⟨b, o, none⟩), .slice A 0 c] w fun e w' => e = .returned (.tuple #[.pointer (some ⟨b, o, none⟩), .int .i64 0]) ∧ w = w' := by
  go_enter Try.func32, Try.ntmps32
  go_wp2
  go_loopw [0, 10] (fun v i wr => v = .pointer (some ⟨b, o, none⟩) ∧ i = .int .i64 0 ∧ wr = w) (fun _ _ _ => 0)
  case atStart => exact ⟨rfl, rfl, rfl⟩
  case round =>
    obtain ⟨rfl, rfl, rfl⟩ := hrel
    go_wp2
    refine bodyPost_ret (v := .tuple #[.pointer (some ⟨b, o, none⟩), .int .i64 0]) (by simp [results, Try.results32]) rfl ⟨rfl, rfl⟩
theorem part_one {w : World} {b o q : Nat} (h0 : w.cell? ⟨b, o, none⟩ = some (.int .i64 5)) (h3 : w.cell? ⟨b, o + 3, none⟩ = some (.slice (some ⟨q, 0, none⟩) 2 2)) {A : Option Addr} {c : Nat} {i : Nat} (hi : i < 2) (hp : PathAt w A [(i : Int)]) :
    Calls Try.prog 32 #[.pointer (some ⟨b, o, none⟩), .slice A 1 c] w fun e w' => e = .returned (.tuple #[.pointer (some ⟨q, i * 7, none⟩), .int .i64 0]) ∧ w = w' := by
  obtain ⟨bk, ok, rfl, _, hc⟩ := int_at hp.1 (i := 0) (by simp)
  simp at hc
  clear hp
  go_enter Try.func32, Try.ntmps32
  go_wp2
  go_loopw [0, 10] (fun v j wr => (v = .pointer (some ⟨b, o, none⟩) ∧ j = .int .i64 0 ∧ wr = w) ∨ (v = .pointer (some ⟨q, i * 7, none⟩) ∧ j = .int .i64 1 ∧ wr = w)) (fun _ j _ => 1 - (intOf j).toNat)
  case atStart => exact .inl ⟨rfl, rfl, rfl⟩
  case round =>
    rcases hrel with ⟨rfl, rfl, rfl⟩ | ⟨rfl, rfl, rfl⟩
    · go_wp2
      exact ⟨.inr ⟨rfl, rfl, trivial⟩, by decide⟩
    · go_wp2
      refine bodyPost_ret (v := .tuple #[.pointer (some ⟨q, i * 7, none⟩), .int .i64 0]) (by simp [results, Try.results32]) rfl ⟨rfl, rfl⟩
end Hp
end Go.Proofs.Ytbhjdpaicfnfcaa

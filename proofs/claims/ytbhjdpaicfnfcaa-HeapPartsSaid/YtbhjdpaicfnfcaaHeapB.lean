/- Layer 13: New, Live, find, num. -/
import Derived.Test.YtbhjdpaicfnfcaaChecked
import Derived.BigQuiet
import Derived.Deep.QuietTactic
import Derived.Deep.RegionLaw
import Derived.Test.YtbhjdpaicfnfcaaHeapA
import Derived.Test.YtbhjdpaicfnfcaaHold
namespace Go.Proofs.Ytbhjdpaicfnfcaa
open Go.RowKit Go.Deep Tr
namespace Hp
abbrev MapW (w : World) (b n m : Nat) (f : Int → Option Value) : Prop := MapIn w Try.prog 3 b n m f
/-- A heap: its five cells, and its map. -/
structure HpAt (w : World) (b mb : Nat) (most : Int) (watch : Bool) (made tags n m : Nat) (f : Int → Option Value) : Prop where
  head : Is w b 74 #[.int .i64 most, .bool watch, .int .i64 made, .int .i64 tags, .map (some mb)]
  map : MapW w mb n m f
section
variable {w w' : World} {b mb : Nat} {most : Int} {watch : Bool} {made tags n m : Nat} {f : Int → Option Value}
theorem HpAt.ne (h : HpAt w b mb most watch made tags n m f) : b ≠ mb := by
  rintro rfl
  have h1 : w.heap[b]? = _ := h.head
  obtain ⟨D, ⟨es, clock, h2, _⟩, _⟩ := h.map
  rw [h1] at h2
  cases h2
theorem HpAt.of (h : HpAt w b mb most watch made tags n m f) (h1 : w'.heap[b]? = w.heap[b]?) (h2 : w'.heap[mb]? = w.heap[mb]?) : HpAt w' b mb most watch made tags n m f := ⟨h.head.of h1, h.map.of h2⟩
theorem HpAt.mod {S : Nat → Prop} (h : HpAt w b mb most watch made tags n m f) (hm : Mod S w w') (h1 : ¬S b) (h2 : ¬S mb) : HpAt w' b mb most watch made tags n m f := h.of (hm.block b h.head.lt h1) (hm.block mb h.map.lt h2)
theorem HpAt.below (h : HpAt w b mb most watch made tags n m f) (hb : Below w.heap.size w w') : HpAt w' b mb most watch made tags n m f := h.of (hb.block b h.head.lt) (hb.block mb h.map.lt)
end
set_option maxRecDepth 100000 in
theorem zero_cell (w : World) : (zeroValue 75).run Try.prog w = .ok (.pointer none) w := by kernel_rfl
set_option maxHeartbeats 4000000
set_option maxRecDepth 100000
theorem new_any (w : World) (most : Int) (watch : Bool) : Calls Try.prog 8 #[.int .i64 most, .bool watch] w fun e w' => ∃ b mb, e = .returned (.pointer (some ⟨b, 0, none⟩)) ∧ HpAt w' b mb most watch 0 0 0 0 (fun _ => none) ∧ w.heap.size ≤ b ∧ w.heap.size ≤ mb ∧ Below w.heap.size w w' := by
  have hmm := @run_makeMap Try.prog
  go_enter Try.func8, Try.ntmps8
  go_wp2_with fail
  have hN : (w.alloc (.map #[] 0)).heap.size = w.heap.size + 1 := by simp
  refine bodyPost_ret (v := .pointer (some ⟨w.heap.size + 1, 0, none⟩)) (by simp [results, Try.results8]) rfl ⟨_, w.heap.size, rfl, ⟨hN ▸ Is.made (w.alloc (.map #[] 0)) _ _, (MapIn.made w _ _).alloc _⟩, by omega, Nat.le_refl _, ?_⟩
  exact (((Below.refl _ w).alloc (Nat.le_refl _) _).alloc (by omega) _)
theorem live_any {w : World} {b mb : Nat} {most : Int} {watch : Bool} {made tags n m : Nat} {f : Int → Option Value} (h : HpAt w b mb most watch made tags n m f) :
    Calls Try.prog 17 #[.pointer (some ⟨b, 0, none⟩)] w fun e w' => e = .returned (.int .i64 n) ∧ w = w' := by
  have H := Lib.hid h
  have n4 := h.head.at_ 4
  simp at n4
  clear h
  go_enter Try.func17, Try.ntmps17
  have hl : (Builtin.len_ #[72] 3 #[.map (some mb)]).run Try.prog w = .ok (.int .i64 n) w := by
    obtain ⟨D, h1, _, hsz, _⟩ := H.out.map
    have := h1.len (t := 72) (e := 75) Try.underlying72 3
    rw [hsz] at this
    exact this
  go_wp2
  go_ret
  exact ⟨rfl, rfl⟩
theorem live_nil (w : World) : Calls Try.prog 17 #[.pointer none] w fun e w' => e = .returned (.int .i64 0) ∧ w = w' := by
  go_enter Try.func17, Try.ntmps17
  go_wp2
  go_ret
  exact ⟨rfl, rfl⟩
theorem num_any (w : World) (n : Int) : Calls Try.prog 15 #[.int .u64 n] w fun e w' => e = .returned (.agg #[.int .i64 2, .int .u64 n, .string ⟨#[]⟩, .slice none 0 0, .int .i64 0, .slice none 0 0, .int .i64 0]) ∧ Below w.heap.size w w' := by
  go_enter Try.func15, Try.ntmps15
  go_wp2
  refine bodyPost_ret (v := .agg #[.int .i64 2, .int .u64 n, .string ⟨#[]⟩, .slice none 0 0, .int .i64 0, .slice none 0 0, .int .i64 0]) (by simp [results, Try.results15, go_sem]) rfl ⟨rfl, (Below.refl _ w).alloc (Nat.le_refl _) _⟩
theorem find_nil (w : World) (i : Int) : Calls Try.prog 33 #[.pointer none, .int .i64 i] w fun e w' => e = .returned (.tuple #[.pointer none, .int .i64 1]) ∧ w = w' := by
  go_enter Try.func33, Try.ntmps33
  go_wp2
  refine bodyPost_ret (v := .tuple #[.pointer none, .int .i64 1]) (by simp [results, Try.results33]) rfl ⟨rfl, rfl⟩
theorem find_any {w : World} {b mb : Nat} {most : Int} {watch : Bool} {made tags n m : Nat} {f : Int → Option Value} (h : HpAt w b mb most watch made tags n m f) (i : Int) (hi : (Lit.int .i64 i).wf = true) (c : Nat) (hf : f i = some (.pointer (some ⟨c, 0, none⟩))) :
    Calls Try.prog 33 #[.pointer (some ⟨b, 0, none⟩), .int .i64 i] w fun e w' => e = .returned (.tuple #[.pointer (some ⟨c, 0, none⟩), .int .i64 0]) ∧ w = w' := by
  have n4 := h.head.at_ 4
  simp at n4
  have HM := Lib.hid h.map
  have HI := Lib.hid hi
  have HF := Lib.hid hf
  have hl := lookI (t := 72) (e := 75) h.map Try.underlying3 Try.underlying72 (zero_cell w) hi
  rw [hf] at hl
  simp only [Option.getD_some] at hl
  clear h hi hf
  go_enter Try.func33, Try.ntmps33
  go_wp2
  refine bodyPost_ret (v := .tuple #[.pointer (some ⟨c, 0, none⟩), .int .i64 0]) (by simp [results, Try.results33]) rfl ⟨rfl, rfl⟩
theorem find_none {w : World} {b mb : Nat} {most : Int} {watch : Bool} {made tags n m : Nat} {f : Int → Option Value} (h : HpAt w b mb most watch made tags n m f) (i : Int) (hi : (Lit.int .i64 i).wf = true) (hf : f i = none) :
    Calls Try.prog 33 #[.pointer (some ⟨b, 0, none⟩), .int .i64 i] w fun e w' => e = .returned (.tuple #[.pointer none, .int .i64 1]) ∧ w = w' := by
  have n4 := h.head.at_ 4
  simp at n4
  have hl := lookI (t := 72) (e := 75) h.map Try.underlying3 Try.underlying72 (zero_cell w) hi
  rw [hf] at hl
  simp only [Option.getD_none] at hl
  clear h hi hf
  go_enter Try.func33, Try.ntmps33
  go_wp2
  refine bodyPost_ret (v := .tuple #[.pointer none, .int .i64 1]) (by simp [results, Try.results33]) rfl ⟨rfl, rfl⟩
end Hp
end Go.Proofs.Ytbhjdpaicfnfcaa

/- The statements of layer 13: a case of two numbers and two bools, opened. -/
import Derived.Test.YtbhjdpaicfnfcaaHeapC1
namespace Go.Proofs.Ytbhjdpaicfnfcaa
open Go.ChangeShapes Go.WideShapes Go.ChangeAt Go.ChangeMaps Go.RowKit Go.Deep Tr
set_option maxRecDepth 100000
theorem readable_pc : Try.prog.readableRec 45 = true ∧ 45 < Try.prog.types.size := ⟨by kernel_rfl, of_decide_eq_true (by kernel_rfl)⟩
theorem k_pcase : Try.prog.cellsOf 45 = 4 := by kernel_rfl
theorem k_pu64 : Try.prog.cellsOf 22 = 1 := by kernel_rfl
theorem k_pbool : Try.prog.cellsOf 4 = 1 := by kernel_rfl
section
variable {H : Type} {enc : TypeId × Value → H} {W : World} {base b0 : Nat} {spare : Nat → Bool} {held : Bool} {r : Reach} {v : Value} {d : DataW H} {p : List MemPlace}
theorem open_partsV (hv : Value.okWide Try.prog W r b0 45 v) (h : DataW.Trod enc Try.prog W base spare held 45 v d p) : ∃ a b u w, v = .agg #[.int .u64 a, .int .u64 b, .bool u, .bool w] := by
  obtain ⟨cv, rfl, _⟩ := okWide_struct Try.underlying45 hv
  obtain ⟨f, h⟩ := h
  have h : DataW.trod enc Try.prog W base spare held f 45 cv.toList = some (d, p) := h
  obtain ⟨xs, n, hn, _, hl, hxl, hf⟩ := DataW.trod_struct Try.underlying45 h
  rw [k_pcase] at hl
  obtain ⟨cs, hcs⟩ : ∃ cs, cv.toList = cs := ⟨_, rfl⟩
  have hcv : cv = cs.toArray := by rw [← hcs]
  rw [hcs] at hl hf
  subst hcv
  match cs, hl, xs, hxl with
  | [v0, v1, v2, v3], _, [y0, y1, y2, y3], _ =>
    have g0 := hf 0 _ rfl
    have g1 := hf 1 _ rfl
    have g2 := hf 2 _ rfl
    have g3 := hf 3 _ rfl
    simp [k_pu64, k_pbool] at g0 g1 g2 g3
    obtain ⟨a, e0, _, _⟩ := DataW.trod_int Try.underlying22 g0
    obtain ⟨b, e1, _, _⟩ := DataW.trod_int Try.underlying22 g1
    obtain ⟨u, e2, _⟩ := DataW.trod_bool Try.underlying4 g2
    obtain ⟨w, e3, _⟩ := DataW.trod_bool Try.underlying4 g3
    simp at e0 e1 e2 e3
    subst e0 e1 e2 e3
    exact ⟨a, b, u, w, rfl⟩
end
end Go.Proofs.Ytbhjdpaicfnfcaa

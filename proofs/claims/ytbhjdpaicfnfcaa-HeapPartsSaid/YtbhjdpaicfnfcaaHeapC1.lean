/- The statements of layer 13: a value, and a pointer, opened. -/
import Derived.Test.YtbhjdpaicfnfcaaHeapC0
import Derived.Test.YtbhjdpaicfnfcaaHeapW
namespace Go.Proofs.Ytbhjdpaicfnfcaa
open Go.ChangeShapes Go.WideShapes Go.ChangeAt Go.ChangeMaps Go.RowKit Go.Deep Tr
set_option maxRecDepth 100000
theorem readable_v : Try.prog.readableRec 34 = true ∧ 34 < Try.prog.types.size := ⟨by kernel_rfl, of_decide_eq_true (by kernel_rfl)⟩
theorem readable_p : Try.prog.readableRec 29 = true ∧ 29 < Try.prog.types.size := ⟨by kernel_rfl, of_decide_eq_true (by kernel_rfl)⟩
section
variable {H : Type} {enc : TypeId × Value → H} {W : World} {base b0 : Nat} {spare : Nat → Bool} {held : Bool} {r : Reach} {v : Value} {d : DataW H} {p : List MemPlace}
theorem open_valV (hv : Value.okWide Try.prog W r b0 34 v) (h : DataW.Trod enc Try.prog W base spare held 34 v d p) : ∃ n x cs, v = .agg (List.toArray cs) ∧ VaAt W n x cs := by
  obtain ⟨cs, rfl, _⟩ := okWide_struct Try.underlying34 hv
  obtain ⟨f, h⟩ := h
  obtain ⟨x, hx, _⟩ := open_val f _ _ _ h
  exact ⟨f, x, cs.toList, by simp, hx⟩
theorem open_ptrV (hv : Value.okWide Try.prog W r b0 29 v) (h : DataW.Trod enc Try.prog W base spare held 29 v d p) : ∃ al R l cr tg, v = .agg #[.int .i64 al, .slice R l cr, .int .i64 tg] := by
  obtain ⟨cs, rfl, _⟩ := okWide_struct Try.underlying29 hv
  obtain ⟨f, h⟩ := h
  obtain ⟨al, R, pa, cr, tg, e, _⟩ := open_ptr h
  have e' : cs.toList = _ := e
  refine ⟨al, R, pa.length, cr, tg, ?_⟩
  have : cs = cs.toList.toArray := by simp
  rw [this, e']
end
end Go.Proofs.Ytbhjdpaicfnfcaa

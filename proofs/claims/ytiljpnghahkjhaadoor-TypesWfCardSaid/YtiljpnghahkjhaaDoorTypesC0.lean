/- The statements of layer 7: what every card's proof takes. -/
import Derived.Test.YtiljpnghahkjhaaDoorCards
import Derived.Test.YtiljpnghahkjhaaDoorTie
import Derived.Test.YtiljpnghahkjhaaDoorClose
import Derived.Test.YtiljpnghahkjhaaDoorRowAt
import Derived.Test.YtiljpnghahkjhaaDoorTypeO
import Derived.Test.YtiljpnghahkjhaaDoorTypesC
import Derived.Deep.DeepHandedRow
import Derived.JoinedCond
namespace Go.Proofs.YtiljpnghahkjhaaDoor
open Go.ChangeShapes Go.WideShapes Go.ChangeAt Go.ChangeMaps Go.RowKit Go.Deep Tr Ts
theorem own : ownKnob Tryd.prog.godebug = none := by kernel_rfl
theorem laidOut : laidOutB Tryd.prog = true := by kernel_rfl
theorem readable_i : Tryd.prog.readableRec 3 = true ∧ 3 < Tryd.prog.types.size := ⟨by kernel_rfl, of_decide_eq_true (by kernel_rfl)⟩
theorem readable_s : Tryd.prog.readableRec 9 = true ∧ 9 < Tryd.prog.types.size := ⟨by kernel_rfl, of_decide_eq_true (by kernel_rfl)⟩
theorem readable_is : Tryd.prog.readableRec 22 = true ∧ 22 < Tryd.prog.types.size := ⟨by kernel_rfl, of_decide_eq_true (by kernel_rfl)⟩
theorem readable_t : Tryd.prog.readableRec 25 = true ∧ 25 < Tryd.prog.types.size := ⟨by kernel_rfl, of_decide_eq_true (by kernel_rfl)⟩
/-- A variable's numbers, as its cells. -/
def cellsIn : DataW Unit → Array Value
  | .agg l => (l.map fun | .lit (.int k n) => .int k n | _ => .bool false).toArray
  | _ => #[]
noncomputable def put (w : World) (g : Nat) (d : DataW Unit) : World :=
  { w with heap := w.heap.modify g fun | .cells _ t fr => .cells (cellsIn d) t fr | o => o }
/-- A world for the witness: the listed variables hold what their initialisers lay. -/
noncomputable def laidWorld (os : Os) : World :=
  put (put (put (World.holding Tryd.prog os ⟨#[], #[], []⟩) 1 Rows.laid_math_bits_deBruijn32tab) 2 Rows.laid_math_bits_deBruijn64tab) 0 Rows.laid_internal_strconv_uint64pow10
theorem readable_ts : Tryd.prog.readableRec 23 = true ∧ 23 < Tryd.prog.types.size := ⟨by kernel_rfl, of_decide_eq_true (by kernel_rfl)⟩
theorem readable_ps : Tryd.prog.readableRec 40 = true ∧ 40 < Tryd.prog.types.size := ⟨by kernel_rfl, of_decide_eq_true (by kernel_rfl)⟩
section
variable {H : Type} {enc : TypeId × Value → H} {W : World} {base b0 : Nat} {spare : Nat → Bool} {held : Bool} {r : Reach} {v : Value} {d : DataW H} {p : List MemPlace}
theorem open_strV (hv : Value.okWide Tryd.prog W r b0 9 v) (h : DataW.Trod enc Tryd.prog W base spare held 9 v d p) : ∃ s, v = .string s ∧ s.size ≤ maxLen := by
  obtain ⟨f, h⟩ := h
  obtain ⟨s, e, _, hs⟩ := DataW.trod_string Tryd.underlying9 h
  obtain ⟨s', rfl⟩ : ∃ s', v = .string s' := okWide_string Tryd.underlying9 hv
  have e' : [Value.string s'] = [.string s] := e
  injection e' with e'
  injection e' with e'
  subst e'
  exact ⟨_, rfl, hs⟩
theorem open_intsV (hv : Value.okWide Tryd.prog W r b0 22 v) (h : DataW.Trod enc Tryd.prog W base spare held 22 v d p) : ∃ l, RowI W v l := by
  obtain ⟨a, len, cap, rfl⟩ := okWide_slice Tryd.underlying22 hv
  obtain ⟨f, h⟩ := h
  obtain ⟨A, l, c, hcs, hl, _, _⟩ := open_listAt IntAt (fun _ => 0) Tryd.underlying22 k_int (by decide) (fun _ _ h => h.one.2) (fun _ _ _ h => Tr.open_int h) h
  have hcs' : [Value.slice a len cap] = [.slice A l.length c] := hcs
  injection hcs' with hcs'
  exact ⟨l, A, c, hcs', hl⟩
theorem open_tyV (hv : Value.okWide Tryd.prog W r b0 25 v) (h : DataW.Trod enc Tryd.prog W base spare held 25 v d p) : ∃ n x cs, v = .agg (List.toArray cs) ∧ TyAt W n x cs := by
  obtain ⟨cs, rfl, _⟩ := okWide_struct Tryd.underlying25 hv
  obtain ⟨f, h⟩ := h
  obtain ⟨x, hx, _⟩ := open_ty f _ _ _ h
  exact ⟨f, x, cs.toList, by simp, hx⟩
theorem open_tysV (hv : Value.okWide Tryd.prog W r b0 23 v) (h : DataW.Trod enc Tryd.prog W base spare held 23 v d p) : ∃ n A l c, v = .slice A (List.length l) c ∧ ListAt W 6 (TyAt W n) A l := by
  obtain ⟨a, len, cap, rfl⟩ := okWide_slice Tryd.underlying23 hv
  obtain ⟨f, h⟩ := h
  obtain ⟨A, l, c, hcs, hl, _, _⟩ := open_listAt (TyAt W f) (fun _ => 0) Tryd.underlying23 k_ty (by decide) (fun _ _ h => h.one.2) (open_ty f) h
  have hcs' : [Value.slice a len cap] = [.slice A l.length c] := hcs
  injection hcs' with hcs'
  exact ⟨f, A, l, c, hcs', hl⟩
end
end Go.Proofs.YtiljpnghahkjhaaDoor

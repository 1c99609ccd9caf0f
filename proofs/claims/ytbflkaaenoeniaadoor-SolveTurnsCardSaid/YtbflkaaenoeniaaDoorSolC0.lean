/- The statements of layer 12: what every card's proof takes. -/
import Derived.Test.YtbflkaaenoeniaaDoorCards
import Derived.Test.YtbflkaaenoeniaaDoorTie
import Derived.Test.YtbflkaaenoeniaaDoorClose
import Derived.Test.YtbflkaaenoeniaaDoorOpenL
import Derived.Test.YtbflkaaenoeniaaDoorSolK
import Derived.Deep.DeepHandedRow
import Derived.JoinedCond
import Derived.OpenShut
import Derived.LaidMore
namespace Go.Proofs.YtbflkaaenoeniaaDoor
open Go.ChangeShapes Go.WideShapes Go.ChangeAt Go.ChangeMaps Go.RowKit Go.Deep Tr Sv
theorem own : ownKnob Tryd.prog.godebug = none := by kernel_rfl
theorem laidOut : laidOutB Tryd.prog = true := by kernel_rfl
theorem readable_i : Tryd.prog.readableRec 3 = true ∧ 3 < Tryd.prog.types.size := ⟨by kernel_rfl, of_decide_eq_true (by kernel_rfl)⟩
theorem readable_o : Tryd.prog.readableRec 22 = true ∧ 22 < Tryd.prog.types.size := ⟨by kernel_rfl, of_decide_eq_true (by kernel_rfl)⟩
theorem readable_ps : Tryd.prog.readableRec 26 = true ∧ 26 < Tryd.prog.types.size := ⟨by kernel_rfl, of_decide_eq_true (by kernel_rfl)⟩
theorem readable_n : Tryd.prog.readableRec 44 = true ∧ 44 < Tryd.prog.types.size := ⟨by kernel_rfl, of_decide_eq_true (by kernel_rfl)⟩
/-- A variable's numbers, as its cells. -/
def cellsIn : DataW Unit → Array Value
  | .agg l => (l.map fun | .lit (.int k n) => .int k n | _ => .bool false).toArray
  | _ => #[]
noncomputable def put (w : World) (g : Nat) (d : DataW Unit) : World :=
  { w with heap := w.heap.modify g fun | .cells _ t fr => .cells (cellsIn d) t fr | o => o }
/-- A world for the witness: the listed variable holds what its initialiser lays. -/
noncomputable def laidWorld (os : Os) : World := put (World.holding Tryd.prog os ⟨#[], #[], []⟩) 0 Rows.laid_math_bits_deBruijn64tab
theorem tab_list : (Rows.laid_math_bits_deBruijn64tab : DataW Unit) = .agg (Lib.deBruijn64tab.map fun n => .lit (.int .u8 ((n : Nat) : Int))) := by kernel_rfl
theorem tab_of {W : World} (h : laidMetH Tryd.prog [("math/bits.deBruijn64tab", Rows.laid_math_bits_deBruijn64tab)] W) : TabAt W := by
  intro r hr
  rw [MakeChecks.laidMetH_plain _ _ _ (by kernel_rfl)] at h
  obtain ⟨ps, ⟨g, t, cs, fuel, p, q, hg, ht, hv, hd, _, _⟩, _, _⟩ := h
  obtain rfl := Option.some.inj ((show Tryd.prog.globalNamed "math/bits.deBruijn64tab" = some 0 by kernel_rfl).symm.trans hg)
  obtain rfl := Option.some.inj ((show (Tryd.prog.globals[0]?).map (·.type) = some 59 by kernel_rfl).symm.trans ht)
  obtain ⟨xs, m, _, ex, _, hl, hel⟩ := DataW.trod_array Tryd.underlying59 hd
  have c5 : Tryd.prog.cellsOf 5 = 1 := by kernel_rfl
  have hE := hel r hr
  rw [c5, Nat.mul_one, List.getElem?_eq_getElem (by omega)] at hE
  obtain ⟨z, e1, e2, _⟩ := DataW.trod_int Tryd.underlying5 hE
  have hlen : Lib.deBruijn64tab.length = 64 := by decide
  have ex2 := (Prod.mk.inj ex).1
  have ex3 : (Rows.laid_math_bits_deBruijn64tab : DataW Unit) = _ := ex2
  rw [tab_list] at ex3
  have e3 : (xs.map (·.1)) = Lib.deBruijn64tab.map fun n => .lit (.int .u8 ((n : Nat) : Int)) := (DataW.agg.inj ex3).symm
  have e4 : (xs.map (·.1))[r]? = (Lib.deBruijn64tab.map fun n => (DataW.lit (.int .u8 ((n : Nat) : Int)) : DataW Unit))[r]? := by rw [e3]
  rw [List.getElem?_map, List.getElem?_map, List.getElem?_eq_getElem (by omega : r < xs.length), List.getElem?_eq_getElem (by omega : r < Lib.deBruijn64tab.length), e2] at e4
  have hz : z = ((Lib.deBruijn64tab.getD r 0 : Nat) : Int) := by
    simp only [Option.map_some, Option.some.injEq, DataW.lit.injEq, Lit.int.injEq, true_and] at e4
    rw [e4, List.getD, List.getElem?_eq_getElem (by omega : r < Lib.deBruijn64tab.length)]; rfl
  rw [World.var?_cell hg hv r, ← hz]
  have : cs.toList[r]? = some (.int .u8 z) := by
    have h0 : ((cs.toList.drop r).take 1)[0]? = some (.int .u8 z) := by rw [e1]; rfl
    simpa using h0
  simpa using this
section
variable {H : Type} {enc : TypeId × Value → H} {W : World} {base b0 : Nat} {spare : Nat → Bool} {held : Bool} {r : Reach} {v : Value} {d : DataW H} {p : List MemPlace}
theorem k_op : Tryd.prog.cellsOf 35 = 3 := by kernel_rfl
theorem k_i : Tryd.prog.cellsOf 3 = 1 := by kernel_rfl
theorem k_b : Tryd.prog.cellsOf 4 = 1 := by kernel_rfl
theorem k_two : Tryd.prog.cellsOf 40 = 2 := by kernel_rfl
theorem k_nils : Tryd.prog.cellsOf 44 = 4 := by kernel_rfl
theorem op_one {o : Opn} {cs : List Value} (h : OpAt o cs) : ∀ u ∈ cs, u.oneCell' = true := by
  unfold OpAt at h
  subst h
  intro u hu
  simp at hu
  rcases hu with rfl | rfl | rfl <;> rfl
theorem open_op (f : Nat) (cs : List Value) (d : DataW H) (ps : List MemPlace) (h : DataW.trod enc Tryd.prog W base spare held f 35 cs = some (d, ps)) : ∃ x, OpAt x cs ∧ (fun _ : Opn => 0) x ≤ Rows.uptoBulk d := by
  obtain ⟨xs, n, hn, _, hl, hxl, hf⟩ := DataW.trod_struct Tryd.underlying35 h
  rw [k_op] at hl
  match cs, hl, xs, hxl with
  | [v0, v1, v2], _, [y0, y1, y2], _ =>
    have g0 := hf 0 _ rfl
    have g1 := hf 1 _ rfl
    have g2 := hf 2 _ rfl
    simp [k_i, k_b] at g0 g1 g2
    obtain ⟨n0, e0, _⟩ := DataW.trod_bool Tryd.underlying4 g0
    obtain ⟨n1, e1, _, _⟩ := DataW.trod_int Tryd.underlying3 g1
    obtain ⟨n2, e2, _, _⟩ := DataW.trod_int Tryd.underlying3 g2
    simp at e0 e1 e2
    subst e0 e1 e2
    exact ⟨(n0, n1, n2), rfl, Nat.zero_le _⟩
theorem open_opsV (hv : Value.okWide Tryd.prog W r b0 22 v) (h : DataW.Trod enc Tryd.prog W base spare held 22 v d p) : ∃ A l c, v = .slice A (List.length l) c ∧ ListAt W 3 OpAt A l ∧ l.length ≤ c := by
  obtain ⟨a, len, cap, rfl⟩ := okWide_slice Tryd.underlying22 hv
  obtain ⟨f, h⟩ := h
  obtain ⟨A, l, c, hcs, hl, hlc, _⟩ := open_listAt OpAt (fun _ => 0) Tryd.underlying22 k_op (by decide) (fun _ _ h => op_one h) (open_op f) h
  have hcs' : [Value.slice a len cap] = [.slice A l.length c] := hcs
  injection hcs' with hcs'
  exact ⟨A, l, c, hcs', hl, hlc⟩
theorem open_two (f : Nat) (cs : List Value) (d : DataW H) (ps : List MemPlace) (h : DataW.trod enc Tryd.prog W base spare held f 40 cs = some (d, ps)) : ∃ x, TwoAt x cs ∧ (fun _ : Int × Int => 0) x ≤ Rows.uptoBulk d := by
  obtain ⟨xs, k, _, _, hcl, hxl, hg⟩ := DataW.trod_array Tryd.underlying40 h
  rw [k_two] at hcl
  match cs, hcl, xs, hxl with
  | [v0, v1], _, [y0, y1], _ =>
    have g0 := hg 0 (by omega)
    have g1 := hg 1 (by omega)
    simp [k_i] at g0 g1
    obtain ⟨n0, e0, _, _⟩ := DataW.trod_int Tryd.underlying3 g0
    obtain ⟨n1, e1, _, _⟩ := DataW.trod_int Tryd.underlying3 g1
    simp at e0 e1
    subst e0 e1
    exact ⟨(n0, n1), rfl, Nat.zero_le _⟩
theorem two_one {o : Int × Int} {cs : List Value} (h : TwoAt o cs) : ∀ u ∈ cs, u.oneCell' = true := by
  unfold TwoAt at h
  subst h
  intro u hu
  simp at hu
  rcases hu with rfl | rfl <;> rfl
theorem open_pairsV (hv : Value.okWide Tryd.prog W r b0 26 v) (h : DataW.Trod enc Tryd.prog W base spare held 26 v d p) : ∃ A l c, v = .slice A (List.length l) c ∧ ListAt W 2 TwoAt A l := by
  obtain ⟨a, len, cap, rfl⟩ := okWide_slice Tryd.underlying26 hv
  obtain ⟨f, h⟩ := h
  obtain ⟨A, l, c, hcs, hl, _, _⟩ := open_listAt TwoAt (fun _ => 0) Tryd.underlying26 k_two (by decide) (fun _ _ h => two_one h) (open_two f) h
  have hcs' : [Value.slice a len cap] = [.slice A l.length c] := hcs
  injection hcs' with hcs'
  exact ⟨A, l, c, hcs', hl⟩
theorem open_nilsV (hv : Value.okWide Tryd.prog W r b0 44 v) (h : DataW.Trod enc Tryd.prog W base spare held 44 v d p) : ∃ x y z u : Int, v = .agg #[.int .i64 x, .int .i64 y, .int .i64 z, .int .i64 u] := by
  obtain ⟨cv, rfl, _⟩ := okWide_struct Tryd.underlying44 hv
  obtain ⟨f, h⟩ := h
  have h : DataW.trod enc Tryd.prog W base spare held f 44 cv.toList = some (d, p) := h
  obtain ⟨xs, n, hn, _, hl, hxl, hf⟩ := DataW.trod_struct Tryd.underlying44 h
  rw [k_nils] at hl
  obtain ⟨cs, hcs⟩ : ∃ cs, cv.toList = cs := ⟨_, rfl⟩
  have hcv : cv = cs.toArray := by rw [← hcs]
  rw [hcs] at hl hf
  subst hcv
  match cs, hl, xs, hxl with
  | [v0, v1, v2, v3], _, [y0, y1, y2, y3], _ =>
    have g0 := hf 0 _ rfl
    have g1 := hf 1 _ rfl
    have g2 := hf 2 _ rfl
    have g3 := hf 3 _ rfl
    simp [k_i] at g0 g1 g2 g3
    obtain ⟨n0, e0, _, _⟩ := DataW.trod_int Tryd.underlying3 g0
    obtain ⟨n1, e1, _, _⟩ := DataW.trod_int Tryd.underlying3 g1
    obtain ⟨n2, e2, _, _⟩ := DataW.trod_int Tryd.underlying3 g2
    obtain ⟨n3, e3, _, _⟩ := DataW.trod_int Tryd.underlying3 g3
    simp at e0 e1 e2 e3
    subst e0 e1 e2 e3
    exact ⟨n0, n1, n2, n3, rfl⟩
end
end Go.Proofs.YtbflkaaenoeniaaDoor

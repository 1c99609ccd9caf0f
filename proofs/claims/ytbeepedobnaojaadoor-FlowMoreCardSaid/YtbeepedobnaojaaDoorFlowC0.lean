/- The statements of layer 15: what every card's proof takes. -/
import Derived.Test.YtbeepedobnaojaaDoorCards
import Derived.Test.YtbeepedobnaojaaDoorTie
import Derived.Test.YtbeepedobnaojaaDoorClose
import Derived.Test.YtbeepedobnaojaaDoorOpenL
import Derived.Test.YtbeepedobnaojaaDoorFlowG
import Derived.Deep.DeepHandedRow
import Derived.JoinedCond
import Derived.OpenShut
import Derived.LaidMore
namespace Go.Proofs.YtbeepedobnaojaaDoor
open Go.ChangeShapes Go.WideShapes Go.ChangeAt Go.ChangeMaps Go.RowKit Go.Deep Tr Sv Fl
theorem own : ownKnob Tryd.prog.godebug = none := by kernel_rfl
theorem laidOut : laidOutB Tryd.prog = true := by kernel_rfl
theorem readable_i : Tryd.prog.readableRec 3 = true ∧ 3 < Tryd.prog.types.size := ⟨by kernel_rfl, of_decide_eq_true (by kernel_rfl)⟩
theorem readable_p : Tryd.prog.readableRec 25 = true ∧ 25 < Tryd.prog.types.size := ⟨by kernel_rfl, of_decide_eq_true (by kernel_rfl)⟩
theorem readable_ls : Tryd.prog.readableRec 22 = true ∧ 22 < Tryd.prog.types.size := ⟨by kernel_rfl, of_decide_eq_true (by kernel_rfl)⟩
/-- A variable's numbers, as its cells. -/
def cellsIn : DataW Unit → Array Value
  | .agg l => (l.map fun | .lit (.int k n) => .int k n | _ => .bool false).toArray
  | _ => #[]
noncomputable def layG (w : World) (g : Nat) (d : DataW Unit) : World :=
  { w with heap := w.heap.modify g fun | .cells _ t fr => .cells (cellsIn d) t fr | o => o }
/-- A world for the witness: the listed variable holds what its initialiser lays. -/
noncomputable def laidWorld (os : Os) : World := layG (World.holding Tryd.prog os ⟨#[], #[], []⟩) 0 Rows.laid_math_bits_deBruijn64tab
theorem tab_list : (Rows.laid_math_bits_deBruijn64tab : DataW Unit) = .agg (Lib.deBruijn64tab.map fun n => .lit (.int .u8 ((n : Nat) : Int))) := by kernel_rfl
theorem tab_of {W : World} (h : laidMetH Tryd.prog [("math/bits.deBruijn64tab", Rows.laid_math_bits_deBruijn64tab)] W) : TabAt W := by
  intro r hr
  rw [MakeChecks.laidMetH_plain _ _ _ (by kernel_rfl)] at h
  obtain ⟨ps, ⟨g, t, cs, fuel, p, q, hg, ht, hv, hd, _, _⟩, _, _⟩ := h
  obtain rfl := Option.some.inj ((show Tryd.prog.globalNamed "math/bits.deBruijn64tab" = some 0 by kernel_rfl).symm.trans hg)
  obtain rfl := Option.some.inj ((show (Tryd.prog.globals[0]?).map (·.type) = some 70 by kernel_rfl).symm.trans ht)
  obtain ⟨xs, m, _, ex, _, hl, hel⟩ := DataW.trod_array Tryd.underlying70 hd
  have c5 : Tryd.prog.cellsOf 5 = 1 := by kernel_rfl
  have hE := hel r hr
  rw [c5, Nat.mul_one, List.getElem?_eq_getElem (by omega)] at hE
  obtain ⟨z, e1, e2, _⟩ := DataW.trod_int Tryd.underlying5 hE
  have hlen : Lib.deBruijn64tab.length = 64 := by decide
  have ex2 := (Prod.mk.inj ex).1
  have ex3 : (Rows.laid_math_bits_deBruijn64tab : DataW Unit) = _ := ex2
  rw [tab_list] at ex3
  have e3 : (xs.map (·.1)) = Lib.deBruijn64tab.map fun n => .lit (.int .u8 ((n : Nat) : Int)) := (DataW.agg.inj ex3).symm
  have e4 : (xs.map (·.1))[r]? = (Lib.deBruijn64tab.map fun n => (DataW.lit (.int .u8 ((n : Nat) : Int)) : DataW Unit))[r]? := by rw [e3]
  rw [List.getElem?_map, List.getElem?_map, List.getElem?_eq_getElem (by omega : r < xs.length), List.getElem?_eq_getElem (by omega : r < Lib.deBruijn64tab.length), e2] at e4
  have hz : z = ((Lib.deBruijn64tab.getD r 0 : Nat) : Int) := by
    simp only [Option.map_some, Option.some.injEq, DataW.lit.injEq, Lit.int.injEq, true_and] at e4
    rw [e4, List.getD, List.getElem?_eq_getElem (by omega : r < Lib.deBruijn64tab.length)]; rfl
  rw [World.var?_cell hg hv r, ← hz]
  have : cs.toList[r]? = some (.int .u8 z) := by
    have h0 : ((cs.toList.drop r).take 1)[0]? = some (.int .u8 z) := by rw [e1]; rfl
    simpa using h0
  simpa using this
section
variable {H : Type} {enc : TypeId × Value → H} {W : World} {base b0 : Nat} {spare : Nat → Bool} {held : Bool} {r : Reach} {v : Value} {d : DataW H} {p : List MemPlace}
theorem k_i : Tryd.prog.cellsOf 3 = 1 := by kernel_rfl
theorem k_is : Tryd.prog.cellsOf 23 = 1 := by kernel_rfl
theorem k_ls : Tryd.prog.cellsOf 22 = 1 := by kernel_rfl
theorem k_pb : Tryd.prog.cellsOf 25 = 5 := by kernel_rfl
theorem open_in (f : Nat) (cs : List Value) (d : DataW H) (ps : List MemPlace) (h : DataW.trod enc Tryd.prog W base spare held f 3 cs = some (d, ps)) : ∃ x, IntAt x cs ∧ (fun _ : Int => 0) x ≤ Rows.uptoBulk d := by
  obtain ⟨n0, e0, _, _⟩ := DataW.trod_int Tryd.underlying3 h
  exact ⟨n0, e0, Nat.zero_le _⟩
theorem open_rw (f : Nat) (cs : List Value) (d : DataW H) (ps : List MemPlace) (h : DataW.trod enc Tryd.prog W base spare held f 23 cs = some (d, ps)) : ∃ x, RowC W x cs ∧ (fun _ : List Int => 0) x ≤ Rows.uptoBulk d := by
  obtain ⟨A, l, c, rfl, hl, _, _⟩ := open_listAt IntAt (fun _ => 0) Tryd.underlying23 k_i (by decide) (fun _ _ h => h.one.2) (open_in _) h
  exact ⟨l, ⟨_, rfl, A, c, rfl, hl⟩, Nat.zero_le _⟩
theorem row_one {x : List Int} {cs : List Value} (h : RowC W x cs) : ∀ u ∈ cs, u.oneCell' = true := by
  obtain ⟨v, rfl, A, c, rfl, _⟩ := h
  intro u hu
  simp at hu
  subst hu
  rfl
theorem open_ls (f : Nat) (cs : List Value) (d : DataW H) (ps : List MemPlace) (h : DataW.trod enc Tryd.prog W base spare held f 22 cs = some (d, ps)) : ∃ v l, cs = [v] ∧ LsAt W v l := by
  obtain ⟨A, l, c, rfl, hl, _, _⟩ := open_listAt (RowC W) (fun _ => 0) Tryd.underlying22 k_is (by decide) (fun _ _ h => row_one h) (open_rw _) h
  exact ⟨_, l, rfl, A, c, rfl, hl⟩
theorem open_lsV (hv : Value.okWide Tryd.prog W r b0 22 v) (h : DataW.Trod enc Tryd.prog W base spare held 22 v d p) : ∃ l, LsAt W v l := by
  obtain ⟨a, len, cap, rfl⟩ := okWide_slice Tryd.underlying22 hv
  obtain ⟨f, h⟩ := h
  obtain ⟨v', l, hcs, hl⟩ := open_ls f _ d p h
  have hcs' : [Value.slice a len cap] = [v'] := hcs
  injection hcs' with hcs'
  exact ⟨l, hcs' ▸ hl⟩
theorem open_pbV (hv : Value.okWide Tryd.prog W r b0 25 v) (h : DataW.Trod enc Tryd.prog W base spare held 25 v d p) : ∃ vs vg vk ve q, v = pbV vs vg vk ve (Pb.width q) ∧ PbAt W vs vg vk ve q := by
  obtain ⟨cv, rfl, _⟩ := okWide_struct Tryd.underlying25 hv
  obtain ⟨f, h⟩ := h
  have h : DataW.trod enc Tryd.prog W base spare held f 25 cv.toList = some (d, p) := h
  obtain ⟨xs, n, hn, _, hl, hxl, hf⟩ := DataW.trod_struct Tryd.underlying25 h
  rw [k_pb] at hl
  obtain ⟨cs, hcs⟩ : ∃ cs, cv.toList = cs := ⟨_, rfl⟩
  have hcv : cv = cs.toArray := by rw [← hcs]
  rw [hcs] at hl hf
  subst hcv
  match cs, hl, xs, hxl with
  | [v0, v1, v2, v3, v4], _, [y0, y1, y2, y3, y4], _ =>
    have g0 := hf 0 _ rfl
    have g1 := hf 1 _ rfl
    have g2 := hf 2 _ rfl
    have g3 := hf 3 _ rfl
    have g4 := hf 4 _ rfl
    simp [k_i, k_is, k_ls] at g0 g1 g2 g3 g4
    obtain ⟨u0, l0, e0, h0⟩ := open_ls _ _ _ _ g0
    obtain ⟨n1, e1, _, _⟩ := DataW.trod_int Tryd.underlying3 g1
    obtain ⟨u2, l2, e2, h2⟩ := open_ls _ _ _ _ g2
    obtain ⟨u3, l3, e3, h3⟩ := open_ls _ _ _ _ g3
    obtain ⟨l4, ⟨u4, e4, h4⟩, _⟩ := open_rw _ _ _ _ g4
    simp at e0 e1 e2 e3 e4
    subst e0 e1 e2 e3 e4
    exact ⟨_, _, _, _, ⟨l0, n1, l2, l3, l4⟩, rfl, h0, h2, h3, h4⟩
end
end Go.Proofs.YtbeepedobnaojaaDoor

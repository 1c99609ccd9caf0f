/- The statement TypesWf: pairs out of what is handed in. -/
import Derived.Test.YtiljpnghahkjhaaDoorTypesC0
import Derived.Test.YtiljpnghahkjhaaDoorTypesWH
namespace Go.Proofs.YtiljpnghahkjhaaDoor
open Go.ChangeShapes Go.WideShapes Go.ChangeAt Go.ChangeMaps Go.RowKit Go.Deep Tr Ts
theorem k_two : Tryd.prog.cellsOf 46 = 2 := by kernel_rfl
theorem k_i : Tryd.prog.cellsOf 3 = 1 := by kernel_rfl
section
variable {H : Type} {enc : TypeId × Value → H} {W : World} {base b0 : Nat} {spare : Nat → Bool} {held : Bool} {r : Reach} {v : Value} {d : DataW H} {p : List MemPlace}
theorem open_two (f : Nat) (cs : List Value) (d : DataW H) (ps : List MemPlace) (h : DataW.trod enc Tryd.prog W base spare held f 46 cs = some (d, ps)) : ∃ x, TwoAt x cs ∧ (fun _ : Int × Int => 0) x ≤ Rows.uptoBulk d := by
  obtain ⟨xs, k, _, _, hcl, hxl, hg⟩ := DataW.trod_array Tryd.underlying46 h
  rw [k_two] at hcl
  match cs, hcl, xs, hxl with
  | [v0, v1], _, [y0, y1], _ =>
    have g0 := hg 0 (by omega)
    have g1 := hg 1 (by omega)
    simp [k_i] at g0 g1
    obtain ⟨n0, e0, _, w0⟩ := DataW.trod_int Tryd.underlying3 g0
    obtain ⟨n1, e1, _, w1⟩ := DataW.trod_int Tryd.underlying3 g1
    simp at e0 e1
    subst e0 e1
    simp [Lit.wf] at w0 w1
    exact ⟨(n0, n1), ⟨rfl, w0.2, w1.2⟩, Nat.zero_le _⟩
theorem two_one {o : Int × Int} {cs : List Value} (h : TwoAt o cs) : ∀ u ∈ cs, u.oneCell' = true := by
  obtain ⟨rfl, -, -⟩ := h
  intro u hu
  simp at hu
  rcases hu with rfl | rfl <;> rfl
theorem open_pairsV (hv : Value.okWide Tryd.prog W r b0 40 v) (h : DataW.Trod enc Tryd.prog W base spare held 40 v d p) : ∃ A l c, v = .slice A (List.length l) c ∧ ListAt W 2 TwoAt A l := by
  obtain ⟨a, len, cap, rfl⟩ := okWide_slice Tryd.underlying40 hv
  obtain ⟨f, h⟩ := h
  obtain ⟨A, l, c, hcs, hl, _, _⟩ := open_listAt TwoAt (fun _ => 0) Tryd.underlying40 k_two (by decide) (fun _ _ h => two_one h) (open_two f) h
  have hcs' : [Value.slice a len cap] = [.slice A l.length c] := hcs
  injection hcs' with hcs'
  exact ⟨A, l, c, hcs', hl⟩
end
end Go.Proofs.YtiljpnghahkjhaaDoor

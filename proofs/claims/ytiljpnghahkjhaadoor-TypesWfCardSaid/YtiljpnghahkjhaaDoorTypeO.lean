/- Types with regions, opened out of an argument's reading. -/
import Derived.Test.YtiljpnghahkjhaaDoorChecked
import Derived.Test.YtiljpnghahkjhaaDoorOpenL
import Derived.Test.YtiljpnghahkjhaaDoorTypeA
namespace Go.Proofs.YtiljpnghahkjhaaDoor
open Go.ChangeShapes Go.WideShapes Go.ChangeAt Go.RowKit Go.Deep
namespace Tr
theorem k_int : Tryd.prog.cellsOf 3 = 1 := by kernel_rfl
theorem k_str : Tryd.prog.cellsOf 9 = 1 := by kernel_rfl
theorem k_bool : Tryd.prog.cellsOf 4 = 1 := by kernel_rfl
theorem k_ints : Tryd.prog.cellsOf 22 = 1 := by kernel_rfl
theorem k_tys : Tryd.prog.cellsOf 23 = 1 := by kernel_rfl
theorem k_ty : Tryd.prog.cellsOf 25 = 6 := by kernel_rfl
section
variable {H : Type} {enc : TypeId × Value → H} {w : World} {base : Nat} {spare : Nat → Bool} {held : Bool}
theorem open_str {f : Nat} {cs : List Value} {d : DataW H} {ps : List MemPlace} (h : DataW.trod enc Tryd.prog w base spare held f 9 cs = some (d, ps)) : ∃ s, StrAt s cs ∧ (fun _ : ByteArray => 0) s ≤ Rows.uptoBulk d := by
  obtain ⟨s, e, _, h2⟩ := DataW.trod_string Tryd.underlying9 h
  exact ⟨s, ⟨e, h2⟩, Nat.zero_le _⟩
theorem open_int {f : Nat} {cs : List Value} {d : DataW H} {ps : List MemPlace} (h : DataW.trod enc Tryd.prog w base spare held f 3 cs = some (d, ps)) : ∃ s, IntAt s cs ∧ (fun _ : Int => 0) s ≤ Rows.uptoBulk d := by
  obtain ⟨s, e, _, _⟩ := DataW.trod_int Tryd.underlying3 h
  exact ⟨s, e, Nat.zero_le _⟩
theorem open_ty : ∀ (f : Nat) (cs : List Value) (d : DataW H) (ps : List MemPlace), DataW.trod enc Tryd.prog w base spare held f 25 cs = some (d, ps) → ∃ x, TyAt w f x cs ∧ (fun _ : Ty => 0) x ≤ Rows.uptoBulk d
  | 0, _, _, _, h => by simp [DataW.trod] at h
  | f + 1, cs, d, ps, h => by
    obtain ⟨xs, n, hn, _, hl, hxl, hf⟩ := DataW.trod_struct Tryd.underlying25 h
    obtain rfl : f = n := by omega
    rw [k_ty] at hl
    match cs, hl, xs, hxl with
    | [v0, v1, v2, v3, v4, v5], _, [y0, y1, y2, y3, y4, y5], _ =>
      have g0 := hf 0 _ rfl
      have g1 := hf 1 _ rfl
      have g2 := hf 2 _ rfl
      have g3 := hf 3 _ rfl
      have g4 := hf 4 _ rfl
      have g5 := hf 5 _ rfl
      simp [k_int, k_str, k_bool, k_ints, k_tys] at g0 g1 g2 g3 g4 g5
      obtain ⟨n0, e0, _, _⟩ := DataW.trod_int Tryd.underlying3 g0
      obtain ⟨n1, e1, _, b1⟩ := DataW.trod_string Tryd.underlying9 g1
      obtain ⟨n2, e2, _⟩ := DataW.trod_bool Tryd.underlying4 g2
      obtain ⟨n3, e3, _, _⟩ := DataW.trod_int Tryd.underlying3 g3
      obtain ⟨A4, l4, c4, e4, h4, q4, _⟩ := open_listAt IntAt (fun _ => 0) Tryd.underlying22 k_int (by decide) (fun _ _ h => h.one.2) (fun _ _ _ h => open_int h) g4
      obtain ⟨A5, l5, c5, e5, h5, _, _⟩ := open_listAt (TyAt w f) (fun _ => 0) Tryd.underlying23 k_ty (by decide) (fun _ _ h => h.one.2) (open_ty f) g5
      simp at e0 e1 e2 e3 e4 e5
      subst e0 e1 e2 e3 e4 e5
      exact ⟨.mk n0 n1 n2 n3 l4 l5, ⟨A4, c4, A5, c5, rfl, ⟨⟨b1, q4⟩, h4⟩, h5⟩, Nat.zero_le _⟩
end
end Tr
end Go.Proofs.YtiljpnghahkjhaaDoor

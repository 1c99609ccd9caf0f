/- The statements of layer 8: what every row's proof takes. -/
import Derived.Test.YtelmdidgmpbnmaaRows
import Derived.Test.YtelmdidgmpbnmaaClose
import Derived.Test.YtelmdidgmpbnmaaVaryC
import Derived.JoinedCond
namespace Go.Proofs.Ytelmdidgmpbnmaa
open Go.ChangeShapes Go.WideShapes Go.ChangeAt Go.ChangeMaps Go.RowKit Go.Deep Tr Vy
theorem own : ownKnob Try.prog.godebug = none := by kernel_rfl
theorem laidOut : laidOutB Try.prog = true := by kernel_rfl
theorem readable_i : Try.prog.readableRec 3 = true ∧ 3 < Try.prog.types.size := ⟨by kernel_rfl, of_decide_eq_true (by kernel_rfl)⟩
theorem readable_s : Try.prog.readableRec 9 = true ∧ 9 < Try.prog.types.size := ⟨by kernel_rfl, of_decide_eq_true (by kernel_rfl)⟩
theorem readable_is : Try.prog.readableRec 26 = true ∧ 26 < Try.prog.types.size := ⟨by kernel_rfl, of_decide_eq_true (by kernel_rfl)⟩
theorem readable_t : Try.prog.readableRec 34 = true ∧ 34 < Try.prog.types.size := ⟨by kernel_rfl, of_decide_eq_true (by kernel_rfl)⟩
theorem readable_ds : Try.prog.readableRec 31 = true ∧ 31 < Try.prog.types.size := ⟨by kernel_rfl, of_decide_eq_true (by kernel_rfl)⟩
theorem k_def : Try.prog.cellsOf 39 = 4 := by kernel_rfl
theorem k_strs : Try.prog.cellsOf 37 = 1 := by kernel_rfl
section
variable {H : Type} {enc : TypeId × Value → H} {W : World} {base b0 : Nat} {spare : Nat → Bool} {held : Bool} {r : Reach} {v : Value} {d : DataW H} {p : List MemPlace}
theorem open_strV (hv : Value.okWide Try.prog W r b0 9 v) (h : DataW.Trod enc Try.prog W base spare held 9 v d p) : ∃ s, v = .string s ∧ s.size ≤ maxLen := by
  obtain ⟨f, h⟩ := h
  obtain ⟨s, e, _, hs⟩ := DataW.trod_string Try.underlying9 h
  obtain ⟨s', rfl⟩ : ∃ s', v = .string s' := okWide_string Try.underlying9 hv
  have e' : [Value.string s'] = [.string s] := e
  injection e' with e'
  injection e' with e'
  subst e'
  exact ⟨_, rfl, hs⟩
theorem open_intsV (hv : Value.okWide Try.prog W r b0 26 v) (h : DataW.Trod enc Try.prog W base spare held 26 v d p) : ∃ l, RowI W v l := by
  obtain ⟨a, len, cap, rfl⟩ := okWide_slice Try.underlying26 hv
  obtain ⟨f, h⟩ := h
  obtain ⟨A, l, c, hcs, hl, _, _⟩ := open_listAt IntAt (fun _ => 0) Try.underlying26 k_int (by decide) (fun _ _ h => h.one.2) (fun _ _ _ h => Tr.open_int h) h
  have hcs' : [Value.slice a len cap] = [.slice A l.length c] := hcs
  injection hcs' with hcs'
  exact ⟨l, A, c, hcs', hl⟩
theorem open_tyV (hv : Value.okWide Try.prog W r b0 34 v) (h : DataW.Trod enc Try.prog W base spare held 34 v d p) : ∃ n x cs, v = .agg (List.toArray cs) ∧ TyAt W n x cs := by
  obtain ⟨cs, rfl, _⟩ := okWide_struct Try.underlying34 hv
  obtain ⟨f, h⟩ := h
  obtain ⟨x, hx, _⟩ := open_ty f _ _ _ h
  exact ⟨f, x, cs.toList, by simp, hx⟩
theorem open_def : ∀ (f : Nat) (cs : List Value) (d : DataW H) (ps : List MemPlace), DataW.trod enc Try.prog W base spare held f 39 cs = some (d, ps) → ∃ x, DfAt W f x cs ∧ (fun _ : Df => 0) x ≤ Rows.uptoBulk d
  | 0, _, _, _, h => by simp [DataW.trod] at h
  | f + 1, cs, d, ps, h => by
    obtain ⟨xs, n, hn, _, hl, hxl, hf⟩ := DataW.trod_struct Try.underlying39 h
    obtain rfl : f = n := by omega
    rw [k_def] at hl
    match cs, hl, xs, hxl with
    | [v0, v1, v2, v3], _, [y0, y1, y2, y3], _ =>
      have g0 := hf 0 _ rfl
      have g1 := hf 1 _ rfl
      have g2 := hf 2 _ rfl
      have g3 := hf 3 _ rfl
      simp [k_int, k_str, k_strs, k_tys] at g0 g1 g2 g3
      obtain ⟨n0, e0, _, b0⟩ := DataW.trod_string Try.underlying9 g0
      obtain ⟨n1, e1, _, _⟩ := DataW.trod_int Try.underlying3 g1
      obtain ⟨A2, l2, c2, e2, h2, _, _⟩ := open_listAt StrAt (fun _ => 0) Try.underlying37 k_str (by decide) (fun _ _ h => h.one.2) (fun _ _ _ h => open_str h) g2
      obtain ⟨A3, l3, c3, e3, h3, _, _⟩ := open_listAt (TyAt W f) (fun _ => 0) Try.underlying32 k_ty (by decide) (fun _ _ h => h.one.2) (open_ty f) g3
      simp at e0 e1 e2 e3
      subst e0 e1 e2 e3
      exact ⟨⟨n0, n1, l2, l3⟩, ⟨A2, c2, A3, c3, rfl, ⟨b0, h2⟩, h3.mono fun x _ cs h => TyAt.up f x cs h⟩, Nat.zero_le _⟩
theorem open_defsV (hv : Value.okWide Try.prog W r b0 31 v) (h : DataW.Trod enc Try.prog W base spare held 31 v d p) : ∃ n A l c, v = .slice A (List.length l) c ∧ ListAt W 4 (DfAt W n) A l := by
  obtain ⟨a, len, cap, rfl⟩ := okWide_slice Try.underlying31 hv
  obtain ⟨f, h⟩ := h
  obtain ⟨A, l, c, hcs, hl, _, _⟩ := open_listAt (DfAt W f) (fun _ => 0) Try.underlying31 k_def (by decide) (fun _ _ h => h.one.2) (open_def f) h
  have hcs' : [Value.slice a len cap] = [.slice A l.length c] := hcs
  injection hcs' with hcs'
  exact ⟨f, A, l, c, hcs', hl⟩
end
end Go.Proofs.Ytelmdidgmpbnmaa

/- Trees as they lie in memory: this program's types, opened. -/
import Derived.Test.YthainjaefijidaaChecked
import Derived.Test.YthainjaefijidaaTreeO
namespace Go.Proofs.Ythainjaefijidaa
open Go.ChangeShapes Go.WideShapes Go.ChangeAt Go.RowKit Go.Deep
namespace Tr
theorem seenL_sum : ∀ l : List Ex, (l.map fun x => (seen x).length).sum = (seenL l).length
  | [] => rfl
  | x :: l => by simp only [List.map_cons, List.sum_cons, seenL, List.length_append, seenL_sum l]
theorem seenB_sum : ∀ l : List St, (l.map fun x => (seenS x).length).sum = (seenB l).length
  | [] => rfl
  | x :: l => by simp only [List.map_cons, List.sum_cons, seenB, List.length_append, seenB_sum l]
theorem k_int : Try.prog.cellsOf 3 = 1 := by kernel_rfl
theorem k_u64 : Try.prog.cellsOf 22 = 1 := by kernel_rfl
theorem k_str : Try.prog.cellsOf 9 = 1 := by kernel_rfl
theorem k_bool : Try.prog.cellsOf 4 = 1 := by kernel_rfl
theorem k_strs : Try.prog.cellsOf 24 = 1 := by kernel_rfl
theorem k_tys : Try.prog.cellsOf 41 = 1 := by kernel_rfl
theorem k_exs : Try.prog.cellsOf 23 = 1 := by kernel_rfl
theorem k_sts : Try.prog.cellsOf 25 = 1 := by kernel_rfl
theorem k_pos : Try.prog.cellsOf 27 = 2 := by kernel_rfl
theorem k_ty : Try.prog.cellsOf 43 = 8 := by kernel_rfl
theorem k_ex : Try.prog.cellsOf 29 = 9 := by kernel_rfl
theorem k_st : Try.prog.cellsOf 46 = 17 := by kernel_rfl
section
variable {H : Type} {enc : TypeId × Value → H} {w : World} {base : Nat} {spare : Nat → Bool} {held : Bool}
theorem open_pos {f : Nat} {cs : List Value} {x : DataW H × List MemPlace} (h : DataW.trod enc Try.prog w base spare held f 27 cs = some x) : ∃ l c : Int, cs = [.int .i64 l, .int .i64 c] := by
  obtain ⟨xs, n, _, _, hl, hxl, hf⟩ := DataW.trod_struct Try.underlying27 h
  rw [k_pos] at hl
  match cs, hl, xs, hxl with
  | [v0, v1], _, [y0, y1], _ =>
    have g0 := hf 0 _ rfl
    have g1 := hf 1 _ rfl
    simp [k_int] at g0 g1
    obtain ⟨n0, e0, _, _⟩ := DataW.trod_int Try.underlying3 g0
    obtain ⟨n1, e1, _, _⟩ := DataW.trod_int Try.underlying3 g1
    simp at e0 e1
    subst e0 e1
    exact ⟨n0, n1, rfl⟩
theorem open_str {f : Nat} {cs : List Value} {d : DataW H} {ps : List MemPlace} (h : DataW.trod enc Try.prog w base spare held f 9 cs = some (d, ps)) : ∃ s, StrAt s cs ∧ (fun _ : ByteArray => 0) s ≤ Rows.uptoBulk d := by
  obtain ⟨s, e, _, _⟩ := DataW.trod_string Try.underlying9 h
  exact ⟨s, e, Nat.zero_le _⟩
theorem open_ty : ∀ (f : Nat) (cs : List Value) (d : DataW H) (ps : List MemPlace), DataW.trod enc Try.prog w base spare held f 43 cs = some (d, ps) → ∃ x, TyAt w f x cs ∧ (fun _ : Ty => 0) x ≤ Rows.uptoBulk d
  | 0, _, _, _, h => by simp [DataW.trod] at h
  | f + 1, cs, d, ps, h => by
    obtain ⟨xs, n, hn, _, hl, hxl, hf⟩ := DataW.trod_struct Try.underlying43 h
    obtain rfl : f = n := by omega
    rw [k_ty] at hl
    match cs, hl, xs, hxl with
    | [v0, v1, v2, v3, v4, v5, v6, v7], _, [y0, y1, y2, y3, y4, y5, y6], _ =>
      have g0 := hf 0 _ rfl
      have g1 := hf 1 _ rfl
      have g2 := hf 2 _ rfl
      have g3 := hf 3 _ rfl
      have g4 := hf 4 _ rfl
      have g5 := hf 5 _ rfl
      have g6 := hf 6 _ rfl
      simp [k_int, k_str, k_bool, k_strs, k_tys, k_pos] at g0 g1 g2 g3 g4 g5 g6
      obtain ⟨n0, e0, _, _⟩ := DataW.trod_int Try.underlying3 g0
      obtain ⟨n1, e1, _, _⟩ := DataW.trod_string Try.underlying9 g1
      obtain ⟨n2, e2, _, _⟩ := DataW.trod_string Try.underlying9 g2
      obtain ⟨n3, e3, _⟩ := DataW.trod_bool Try.underlying4 g3
      obtain ⟨A4, l4, c4, e4, h4, _, _⟩ := open_listAt StrAt (fun _ => 0) Try.underlying24 k_str (by decide) (fun _ _ h => h.one.2) (fun _ _ _ h => open_str h) g4
      obtain ⟨A5, l5, c5, e5, h5, _, _⟩ := open_listAt (TyAt w f) (fun _ => 0) Try.underlying41 k_ty (by decide) (fun _ _ h => h.one.2) (open_ty f) g5
      obtain ⟨n6, n7, e6⟩ := open_pos g6
      simp at e0 e1 e2 e3 e4 e5 e6
      obtain ⟨e6, e7⟩ := e6
      subst e0 e1 e2 e3 e4 e5 e6 e7
      exact ⟨.mk n0 n1 n2 n3 l4 l5 n6 n7, ⟨A4, c4, A5, c5, rfl, h4, h5⟩, Nat.zero_le _⟩
theorem open_tree : ∀ (f : Nat), (∀ (cs : List Value) (d : DataW H) (ps : List MemPlace), DataW.trod enc Try.prog w base spare held f 29 cs = some (d, ps) → ∃ x, ExAt w f x cs ∧ (fun x => (seen x).length) x ≤ Rows.uptoBulk d) ∧
    (∀ (cs : List Value) (d : DataW H) (ps : List MemPlace), DataW.trod enc Try.prog w base spare held f 46 cs = some (d, ps) → ∃ x, StAt w f x cs ∧ (fun x => (seenS x).length) x ≤ Rows.uptoBulk d)
  | 0 => ⟨fun _ _ _ h => by simp [DataW.trod] at h, fun _ _ _ h => by simp [DataW.trod] at h⟩
  | f + 1 => by
    obtain ⟨ihE, ihS⟩ := open_tree f
    constructor
    · intro cs d ps h
      obtain ⟨xs, n, hn, hx, hl, hxl, hf⟩ := DataW.trod_struct Try.underlying29 h
      obtain rfl : f = n := by omega
      rw [k_ex] at hl
      match cs, hl, xs, hxl with
      | [v0, v1, v2, v3, v4, v5, v6, v7, v8], _, [y0, y1, y2, y3, y4, y5, y6, y7], _ =>
        have g0 := hf 0 _ rfl
        have g1 := hf 1 _ rfl
        have g2 := hf 2 _ rfl
        have g3 := hf 3 _ rfl
        have g4 := hf 4 _ rfl
        have g5 := hf 5 _ rfl
        have g6 := hf 6 _ rfl
        have g7 := hf 7 _ rfl
        simp [k_int, k_u64, k_str, k_bool, k_strs, k_exs, k_sts, k_pos] at g0 g1 g2 g3 g4 g5 g6 g7
        obtain ⟨n0, e0, _, _⟩ := DataW.trod_int Try.underlying3 g0
        obtain ⟨n1, e1, _, _⟩ := DataW.trod_string Try.underlying9 g1
        obtain ⟨n2, e2, _, _⟩ := DataW.trod_int Try.underlying22 g2
        obtain ⟨n3, e3, _⟩ := DataW.trod_bool Try.underlying4 g3
        obtain ⟨A4, l4, c4, e4, h4, _, b4⟩ := open_listAt (ExAt w f) (fun x => (seen x).length) Try.underlying23 k_ex (by decide) (fun _ _ h => h.one.2) ihE g4
        obtain ⟨A5, l5, c5, e5, h5, _, _⟩ := open_listAt StrAt (fun _ => 0) Try.underlying24 k_str (by decide) (fun _ _ h => h.one.2) (fun _ _ _ h => open_str h) g5
        obtain ⟨A6, l6, c6, e6, h6, _, b6⟩ := open_listAt (StAt w f) (fun x => (seenS x).length) Try.underlying25 k_st (by decide) (fun _ _ h => h.one.2) ihS g6
        obtain ⟨n7, n8, e7⟩ := open_pos g7
        simp at e0 e1 e2 e3 e4 e5 e6 e7
        obtain ⟨e7, e8⟩ := e7
        subst e0 e1 e2 e3 e4 e5 e6 e7 e8
        refine ⟨.mk n0 n1 n2 n3 l4 l5 l6 n7 n8, ⟨A4, c4, A5, c5, A6, c6, rfl, h4, h5, h6⟩, ?_⟩
        rw [seenL_sum] at b4
        rw [seenB_sum] at b6
        injection hx with hd _
        rw [hd]
        simp only [seen, List.length_append, List.length_cons, List.length_nil, List.map_cons, List.map_nil, Rows.uptoBulk, Rows.uptoBulkAll]
        omega
    · intro cs d ps h
      obtain ⟨xs, n, hn, hx, hl, hxl, hf⟩ := DataW.trod_struct Try.underlying46 h
      obtain rfl : f = n := by omega
      rw [k_st] at hl
      match cs, hl, xs, hxl with
      | [v0, v1, t0, t1, t2, t3, t4, t5, t6, t7, v3, v4, v5, v6, v7, v8, v9], _, [y0, y1, y2, y3, y4, y5, y6, y7, y8], _ =>
        have g0 := hf 0 _ rfl
        have g1 := hf 1 _ rfl
        have g2 := hf 2 _ rfl
        have g3 := hf 3 _ rfl
        have g4 := hf 4 _ rfl
        have g5 := hf 5 _ rfl
        have g6 := hf 6 _ rfl
        have g7 := hf 7 _ rfl
        have g8 := hf 8 _ rfl
        simp [k_int, k_str, k_bool, k_exs, k_sts, k_pos, k_ty] at g0 g1 g2 g3 g4 g5 g6 g7 g8
        obtain ⟨n0, e0, _, _⟩ := DataW.trod_int Try.underlying3 g0
        obtain ⟨n1, e1, _, _⟩ := DataW.trod_string Try.underlying9 g1
        obtain ⟨ty, h2, _⟩ := open_ty f _ _ _ g2
        obtain ⟨A3, l3, c3, e3, h3, _, b3⟩ := open_listAt (ExAt w f) (fun x => (seen x).length) Try.underlying23 k_ex (by decide) (fun _ _ h => h.one.2) ihE g3
        obtain ⟨A4, l4, c4, e4, h4, _, b4⟩ := open_listAt (ExAt w f) (fun x => (seen x).length) Try.underlying23 k_ex (by decide) (fun _ _ h => h.one.2) ihE g4
        obtain ⟨A5, l5, c5, e5, h5, _, b5⟩ := open_listAt (StAt w f) (fun x => (seenS x).length) Try.underlying25 k_st (by decide) (fun _ _ h => h.one.2) ihS g5
        obtain ⟨A6, l6, c6, e6, h6, _, b6⟩ := open_listAt (StAt w f) (fun x => (seenS x).length) Try.underlying25 k_st (by decide) (fun _ _ h => h.one.2) ihS g6
        obtain ⟨n7, e7, _⟩ := DataW.trod_bool Try.underlying4 g7
        obtain ⟨n8, n9, e8⟩ := open_pos g8
        simp at e0 e1 e3 e4 e5 e6 e7 e8
        obtain ⟨e8, e9⟩ := e8
        subst e0 e1 e3 e4 e5 e6 e7 e8 e9
        refine ⟨.mk n0 n1 ty l3 l4 l5 l6 n7 n8 n9, ⟨_, A3, c3, A4, c4, A5, c5, A6, c6, rfl, h2, h3, h4, h5, h6⟩, ?_⟩
        rw [seenL_sum] at b3 b4
        rw [seenB_sum] at b5 b6
        injection hx with hd _
        rw [hd]
        simp only [seenS, List.length_append, List.map_cons, List.map_nil, Rows.uptoBulk, Rows.uptoBulkAll]
        omega
end
end Tr
end Go.Proofs.Ythainjaefijidaa

/- Lists of lists that a law makes, one after another. -/
import Derived.Test.YtbeepedobnaojaaDoorFlowU
namespace Go.Proofs.YtbeepedobnaojaaDoor
open Go.RowKit Lf Go.Deep Sv Tr
namespace Fl
theorem info_ints : (Tryd.prog.info? 23).map (fun i => (i.zero, i.size, i.bytes)) = some (some (.slice none 0 0), 1, 24) := by kernel_rfl
/-- A row that was made, from block b on. -/
def IRow (w : World) (b : Nat) (v : Value) (l : List Int) : Prop := w.ownsRow b 3 1 v l.length (intsC l)
/-- k rows lie behind an owned slice of slices. -/
structure Rws (w : World) (B : Nat) (v : Value) (L : Ls) : Prop where
  rows : ∃ xs : List Value, w.ownsRow B 23 1 v L.length xs ∧ xs.length = L.length ∧ ∀ i, (hi : i < L.length) → ∃ u, xs[i]? = some u ∧ IRow w B u L[i]
section
variable {w w1 w2 : World} {B : Nat} {v u : Value} {L : Ls}
theorem Rws.none (w : World) (B : Nat) : Rws w B (.slice none 0 0) [] := ⟨[], ⟨rfl, .inl ⟨rfl, rfl⟩⟩, rfl, fun _ hi => absurd hi (Nat.not_lt_zero _)⟩
theorem Rws.below (h : Rws w B v L) (hb : Below w.heap.size w w1) : Rws w1 B v L := by
  obtain ⟨xs, h1, h2, h3⟩ := h.rows
  exact ⟨xs, own_below h1 hb, h2, fun i hi => by
    obtain ⟨u, hu, hr⟩ := h3 i hi
    exact ⟨u, hu, own_below hr hb⟩⟩
theorem own_isX {base size k g : Nat} {e : TypeId} {v : Value} {xs : List Value} (h : w.ownsRow base e size v k xs) (hg : v.ownBlock = some g) : ∃ cs, Is w g e cs := by
  rcases h.2 with ⟨rfl, _⟩ | ⟨g', cap, cur, rfl, _, hh, _⟩
  · cases hg
  · have e1 : g' = g := by simpa [Value.ownBlock] using hg
    subst e1
    exact ⟨cur, hh⟩
theorem irow_kept {b b' k : Nat} {o : Obj} {vv : Value} {ys : List Value} {l : List Int} (h : IRow w b u l) (ho : w.ownsRow b' 23 1 vv k ys) (hg : (w.alloc o).grownBy w2 vv.ownBlock) : IRow w2 b u l := by
  refine World.ownsRow.kept (w := w.alloc o) (World.ownsRow.alloc h o) hg ?_
  cases hv : vv.ownBlock with
  | none =>
    rcases h.2 with ⟨rfl, _⟩ | ⟨g, cap, cur, rfl, _⟩
    · exact .inl rfl
    · exact .inr (by simp [Value.ownBlock])
  | some g =>
    obtain ⟨cs, hi⟩ := own_isX ho hv
    have := own_ne h hi (by decide)
    exact .inr this
theorem Rws.push {o : Obj} {v2 : Value} {l : List Int} (hu : IRow w B u l) {xs : List Value} (hx : w.ownsRow B 23 1 v L.length xs ∧ xs.length = L.length ∧ ∀ i, (hi : i < L.length) → ∃ u, xs[i]? = some u ∧ IRow w B u L[i])
    (ho2 : w2.ownsRow B 23 1 v2 (L.length + 1) (xs ++ [u])) (hg : (w.alloc o).grownBy w2 v.ownBlock) : Rws w2 B v2 (L ++ [l]) := by
  refine ⟨xs ++ [u], by rw [List.length_append]; exact ho2, by simp [hx.2.1], fun i hi => ?_⟩
  by_cases hil : i < L.length
  · obtain ⟨u', h1, h2⟩ := hx.2.2 i hil
    refine ⟨u', by rw [List.getElem?_append_left (by omega)]; exact h1, ?_⟩
    rw [List.getElem_append_left hil]
    exact irow_kept h2 hx.1 hg
  · have hie : i = L.length := by simp at hi; omega
    subst hie
    refine ⟨u, by rw [List.getElem?_append_right (by omega), hx.2.1]; simp, ?_⟩
    rw [List.getElem_append_right (Nat.le_refl _)]
    simp only [Nat.sub_self, List.getElem_cons_zero]
    exact irow_kept hu hx.1 hg
theorem Rws.ls (h : Rws w B v L) : LsAt w v L := by
  obtain ⟨xs, h1, h2, h3⟩ := h.rows
  obtain ⟨A, c, rfl, _⟩ := own_slice h1
  have hmax : L.length ≤ maxLen := by
    rcases h1.2 with ⟨_, h0⟩ | ⟨_, _, _, _, _, _, h2, h3, _⟩
    · rw [h0]; exact Nat.zero_le _
    · omega
  refine ⟨A, c, rfl, xs, ⟨by omega, hmax⟩, ⟨own_row h1, fun u hu => ?_⟩, fun i hi => ?_⟩
  · obtain ⟨i, hi, rfl⟩ := List.getElem_of_mem hu
    obtain ⟨u', e, hr⟩ := h3 i (by omega)
    rw [List.getElem?_eq_getElem hi] at e
    injection e with e
    obtain ⟨A', c', e', _⟩ := own_slice hr
    rw [e, e']
    rfl
  · obtain ⟨u', e, hr⟩ := h3 i hi
    refine ⟨u', ?_, (rowI_own hr).1⟩
    rw [Nat.mul_one, List.drop_eq_getElem_cons (by omega : i < xs.length)]
    rw [List.getElem?_eq_getElem (by omega : i < xs.length)] at e
    injection e with e
    rw [e]
    rfl
end
theorem IRow.mono {w : World} {b b' : Nat} {u : Value} {l : List Int} (h : IRow w b u l) (hb : b' ≤ b) : IRow w b' u l :=
  ⟨h.1, h.2.imp id fun ⟨q, cap, cur, h1, h2, h3, h4, h5, h6⟩ => ⟨q, cap, cur, h1, by omega, h3, h4, h5, h6⟩⟩
theorem Rws.but {w w' : World} {B b : Nat} {v : Value} {L : Ls} {t : TypeId} {cs : Array Value} (h : Rws w B v L) (hb : But b w w') (hi : Is w b t cs) (h1 : 23 ≠ t) (h2 : 3 ≠ t) : Rws w' B v L := by
  obtain ⟨xs, a1, a2, a3⟩ := h.rows
  exact ⟨xs, own_but a1 hb hi h1, a2, fun i hi' => by
    obtain ⟨u, hu, hr⟩ := a3 i hi'
    exact ⟨u, hu, own_but hr hb hi h2⟩⟩
/-- A row more is laid behind the slice that a box holds. -/
theorem push_box {w0 w w6 : World} {QB n : Nat} {s wd v k e u v2 : Value} {L : Ls} {l : List Int} {o : Obj} {xs : List Value} (hb : Below QB w0 w) (hi : Is w QB 25 #[s, wd, v, k, e]) (hu : IRow w (QB + 1) u l) (hn : L.length = n)
    (hx : w.ownsRow (QB + 1) 23 1 v L.length xs ∧ xs.length = L.length ∧ ∀ i, (hi : i < L.length) → ∃ u, xs[i]? = some u ∧ IRow w (QB + 1) u L[i])
    (ho2 : w6.ownsRow (QB + 1) 23 1 v2 (n + 1) (xs ++ [u])) (hg : (w.alloc o).grownBy w6 v.ownBlock) :
    w6.cell? ⟨QB, 2, none⟩ = some v ∧ w6.frozen? ⟨QB, 2, none⟩ = false ∧ Below QB w0 (w6.setCell ⟨QB, 2, none⟩ v2) ∧ Is (w6.setCell ⟨QB, 2, none⟩ v2) QB 25 #[s, wd, v2, k, e] ∧ Rws (w6.setCell ⟨QB, 2, none⟩ v2) (QB + 1) v2 (L ++ [l]) := by
  have i6 : Is w6 QB 25 #[s, wd, v, k, e] := hi.on hx.1 (by decide) rfl hg
  have b6 : Below QB w0 w6 := below_on hb hx.1 (Nat.le_succ QB) (Nat.le_of_lt hi.lt) hg
  subst hn
  have r6 := Rws.push hu hx ho2 hg
  exact ⟨i6.at_ 2, i6.free 2, b6.setCell (Nat.le_refl _) _, i6.put 2 v2, r6.but ((But.refl QB w6).put 2 v2) i6 (by decide) (by decide)⟩
/-! More is made. -/
def cut8 (l : List Int) : List Int := l.take 8
def remW (wd : Int) (x : Int) : Int := IntKind.i64.wrap ((IntKind.u64.wrap x).tmod (IntKind.u64.wrap wd))
/-- What a node makes, with more. -/
def moreRow (p : Pb) (more : Ls) (i : Nat) : List Int := p.gen.getD i [] ++ (if 0 < p.width then (cut8 (more.getD i [])).map (remW p.width) else [])
def mrow (p : Pb) (more : Ls) (i : Nat) : List Int := if 0 < p.width then cut8 (more.getD i []) else []
theorem mrow_len (p : Pb) (more : Ls) (i : Nat) : (mrow p more i).length ≤ 8 := by
  unfold mrow cut8
  split
  · rw [List.length_take]; omega
  · exact Nat.zero_le _
theorem moreRow_eq (p : Pb) (more : Ls) (i : Nat) : moreRow p more i = p.gen.getD i [] ++ (mrow p more i).map (remW p.width) := by
  unfold moreRow mrow
  split <;> rfl
theorem mrow_out {p : Pb} {more : Ls} {i : Nat} (h : more.length ≤ i) : mrow p more i = [] := by
  unfold mrow cut8
  rw [List.getD_eq_getElem?_getD, List.getElem?_eq_none h]
  split <;> rfl
theorem mrow_no {p : Pb} {more : Ls} {i : Nat} (h : ¬0 < p.width) : mrow p more i = [] := by unfold mrow; rw [if_neg h]
theorem mrow_in {p : Pb} {more : Ls} {i : Nat} (h : 0 < p.width) (hi : i < more.length) : mrow p more i = (more[i]).take 8 := by
  unfold mrow cut8
  rw [if_pos h, getD_at hi]
def morePb (p : Pb) (more : Ls) : Pb := ⟨p.succ, p.width, (List.range p.succ.length).map (moreRow p more), p.kill, p.entry⟩
theorem remW_range {wd : Int} (h0 : 0 < wd) (h1 : wd ≤ 4000) (x : Int) : 0 ≤ remW wd x ∧ remW wd x < wd := by
  unfold remW
  have e1 : IntKind.u64.wrap wd = wd := by rw [IntKind.wrap_u64]; omega
  rw [e1]
  have hx : 0 ≤ IntKind.u64.wrap x := by rw [IntKind.wrap_u64]; omega
  have h2 : 0 ≤ (IntKind.u64.wrap x).tmod wd := Int.tmod_nonneg _ hx
  have h3 : (IntKind.u64.wrap x).tmod wd < wd := Int.tmod_lt_of_pos _ h0
  rw [IntWalk.i64_in _ (by omega)]
  exact ⟨h2, h3⟩
theorem more_has {p : Pb} {more : Ls} (hg : p.gen.length ≤ p.succ.length) {i : Nat} {e : Int} (h : hasL p.gen i e = true) : hasL (morePb p more).gen i e = true := by
  have hi := has_lt h
  rw [hasL_iff] at h ⊢
  show e ∈ ((List.range p.succ.length).map (moreRow p more)).getD i []
  rw [List.getD_eq_getElem?_getD, List.getElem?_map, List.getElem?_range (by omega)]
  show e ∈ moreRow p more i
  unfold moreRow
  exact List.mem_append_left _ h
theorem more_code {p : Pb} {more : Ls} (hn : p.succ.length ≤ 64) (h : codeP p = 0) : codeP (morePb p more) = 0 := by
  have hok := code_ok hn h
  unfold codeP
  rw [if_neg (by show ¬(p.width < 0 ∨ 4000 < p.width); have := hok.low; have := hok.high; omega), if_pos]
  unfold okB
  simp only [Bool.and_eq_true, decide_eq_true_eq]
  refine ⟨⟨⟨⟨⟨by show ((List.range p.succ.length).map (moreRow p more)).length ≤ p.succ.length; simp, hok.kill⟩, hok.s⟩, ?_⟩, hok.k⟩, hok.e⟩
  show lsOk p.width ((List.range p.succ.length).map (moreRow p more)) = true
  refine List.all_eq_true.2 fun l hl => ?_
  obtain ⟨i, hi, rfl⟩ := List.mem_map.1 hl
  refine List.all_eq_true.2 fun x hx => ?_
  unfold moreRow at hx
  rcases List.mem_append.1 hx with hx | hx
  · have hin : p.gen.getD i [] ∈ p.gen := by
      rw [List.getD_eq_getElem?_getD] at hx ⊢
      cases hq : p.gen[i]? with
      | none => rw [hq] at hx; cases hx
      | some l => exact List.mem_of_getElem? hq
    exact List.all_eq_true.1 (List.all_eq_true.1 hok.g _ hin) _ hx
  · split at hx
    · rename_i h0
      obtain ⟨y, _, rfl⟩ := List.mem_map.1 hx
      have := remW_range h0 hok.high y
      simp [this.1, this.2]
    · cases hx
end Fl
end Go.Proofs.YtbeepedobnaojaaDoor

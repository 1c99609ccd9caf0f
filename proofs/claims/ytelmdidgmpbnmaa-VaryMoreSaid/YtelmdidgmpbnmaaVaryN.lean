/- Layer 8: a struct with a field more, as it lies in memory. -/
import Derived.Test.YtelmdidgmpbnmaaAppL
import Derived.Test.YtelmdidgmpbnmaaVaryM
namespace Go.Proofs.Ytelmdidgmpbnmaa
open Go.RowKit Go.Deep Tr Mp
namespace Vy
def zeroDf : Value := .agg #[.string ⟨#[]⟩, .int .i64 0, .slice none 0 0, .slice none 0 0]
def zeroTy : Value := .agg #[.int .i64 0, .string ⟨#[]⟩, .bool false, .int .i64 0, .slice none 0 0, .slice none 0 0]
theorem info_df : (Try.prog.info? 39).map (fun i => (i.zero, i.size, i.bytes)) = some (some zeroDf, 4, 72) := by kernel_rfl
theorem info_ty : (Try.prog.info? 34).map (fun i => (i.zero, i.size, i.bytes)) = some (some zeroTy, 6, 88) := by kernel_rfl
theorem ty_le {w : World} {n m : Nat} (h : n ≤ m) (x : Ty) (cs : List Value) (hx : TyAt w n x cs) : TyAt w m x cs := by
  induction h with
  | refl => exact hx
  | step _ ih => exact TyAt.up _ _ _ ih
theorem df_le {w : World} {n m : Nat} (h : n ≤ m) {x : Df} {cs : List Value} (hx : DfAt w n x cs) : DfAt w m x cs := by
  obtain ⟨R, cr, A, ca, e, h1, h2⟩ := hx
  exact ⟨R, cr, A, ca, e, h1, h2.mono fun x _ cs hx => ty_le h x cs hx⟩
theorem chunk_set (xs : List Value) (k i sz j : Nat) (v : Value) (hj : j < sz) (hi : i ≠ k) : ((xs.set (k * sz + j) v).drop (i * sz)).take sz = (xs.drop (i * sz)).take sz := by
  apply List.ext_getElem?
  intro t
  rw [List.getElem?_take, List.getElem?_take]
  by_cases ht : t < sz
  · rw [if_pos ht, if_pos ht, List.getElem?_drop, List.getElem?_drop, List.getElem?_set_ne]
    intro e
    rcases Nat.lt_or_ge i k with h | h
    · have : (i + 1) * sz ≤ k * sz := Nat.mul_le_mul_right _ h
      rw [Nat.succ_mul] at this
      omega
    · have : (k + 1) * sz ≤ i * sz := Nat.mul_le_mul_right _ (by omega)
      rw [Nat.succ_mul] at this
      omega
  · rw [if_neg ht, if_neg ht]
theorem chunk_set_same (xs : List Value) (k sz j : Nat) (v : Value) (hj : j < sz) : ((xs.set (k * sz + j) v).drop (k * sz)).take sz = ((xs.drop (k * sz)).take sz).set j v := by
  apply List.ext_getElem?
  intro t
  rw [List.getElem?_take, List.getElem?_set, List.getElem?_drop, List.getElem?_set]
  simp only [List.length_take, List.length_drop]
  by_cases ht : t < sz
  · rw [if_pos ht]
    by_cases hjt : j = t
    · subst hjt
      rw [if_pos rfl, if_pos rfl]
      by_cases hl : k * sz + j < xs.length
      · rw [if_pos hl, if_pos (by omega)]
      · rw [if_neg hl, if_neg (by omega)]
    · rw [if_neg (by omega), if_neg hjt, List.getElem?_take, if_pos ht, List.getElem?_drop]
  · rw [if_neg ht]
    by_cases hjt : j = t
    · omega
    · rw [if_neg hjt, List.getElem?_take, if_neg ht]
/-- The list with another struct at k: the row with another slice of fields there. -/
theorem list_set {w w' : World} {n n' g : Nat} {l : List Df} {xs : List Value} {k : Nat} {ts : List Ty} {A2 : Option Addr} {c2 : Nat} (hk : k < l.length) (hl : xs.length = l.length * 4 ∧ l.length ≤ maxLen) (h1 : ∀ u ∈ xs, u.oneCell' = true)
    (hp : ∀ (i : Nat) (h : i < l.length), DfAt w n l[i] ((xs.drop (i * 4)).take 4)) (hb : Below w.heap.size w w') (hn : n ≤ n') (hg : g < w'.heap.size)
    (hc : ∀ (i : Nat) (u : Value), (xs.set (k * 4 + 3) (.slice A2 ts.length c2))[i]? = some u → w'.cell? ⟨g, i, none⟩ = some u) (h2 : ListAt w' 6 (TyAt w' n') A2 ts) :
    ListAt w' 4 (DfAt w' n') (some ⟨g, 0, none⟩) (l.set k { l[k] with fields := ts }) := by
  refine ⟨xs.set (k * 4 + 3) (.slice A2 ts.length c2), ⟨by rw [List.length_set, List.length_set]; exact hl.1, by rw [List.length_set]; exact hl.2⟩, ⟨fun _ => ⟨g, 0, rfl, hg, fun i u hu => by rw [Nat.zero_add]; exact hc i u hu⟩, fun u hu => ?_⟩, fun i hi => ?_⟩
  · rcases List.mem_or_eq_of_mem_set hu with h | rfl
    · exact h1 u h
    · rfl
  · have hi' : i < l.length := by simpa using hi
    by_cases hik : i = k
    · subst hik
      rw [chunk_set_same xs i 4 3 _ (by decide), List.getElem_set_self]
      obtain ⟨T, ct, A, ca, e, ⟨h3, h4⟩, _⟩ := hp i hi'
      rw [e]
      exact ⟨T, ct, A2, c2, rfl, ⟨h3, h4.below hb fun _ _ _ h => h⟩, h2⟩
    · rw [chunk_set xs k i 4 3 _ (by decide) hik, List.getElem_set_ne (fun e => hik e.symm)]
      exact df_le hn ((hp i hi').below hb)
theorem cell_set_other {w : World} {p a : Addr} {u v : Value} (h : w.cell? p = some u) (hne : p.block ≠ a.block) : (w.setCell a v).cell? p = some u := by
  rw [← h]
  unfold World.cell?
  rw [Below.heap_setCell w a v p.block hne]
theorem free_below {B : Nat} {w w' : World} {g i : Nat} (hb : Below B w w') (hg : g < B) (h : w.frozen? ⟨g, i, none⟩ = false) : w'.frozen? ⟨g, i, none⟩ = false := by
  rw [← h]
  unfold World.frozen?
  rw [hb.block g hg]
theorem own_cells {w : World} {base n sz g cap : Nat} {e : TypeId} {xs : List Value} (h : w.ownsRow base e sz (.slice (some ⟨g, 0, none⟩) n cap) n xs) {i : Nat} {u : Value} (hu : xs[i]? = some u) : w.cell? ⟨g, i, none⟩ = some u := by
  have := h.cells (g := g) rfl i u hu
  rwa [show (⟨g, 0, none⟩ : Addr).add i = ⟨g, i, none⟩ from by unfold Addr.add; split <;> simp_all] at this
/-- The row behind a store into one cell. -/
theorem own_stored {w w' : World} {base n sz g cap j : Nat} {e : TypeId} {xs : List Value} {v : Value} (h : w.ownsRow base e sz (.slice (some ⟨g, 0, none⟩) n cap) n xs) (hg : w'.heap[g]? = w.heap[g]?) (hj : j < xs.length) :
    ∀ (i : Nat) (u : Value), (xs.set j v)[i]? = some u → (w'.setCell ⟨g, j, none⟩ v).cell? ⟨g, i, none⟩ = some u := by
  intro i u hu
  rcases h.2 with ⟨e0, _⟩ | ⟨b, cp, cur, e0, _, hh, hr⟩
  · cases e0
  · injection e0 with e1 e2 e3
    injection e1 with e1
    injection e1 with e1 _ _
    subst e1
    rw [hh] at hg
    by_cases hij : i = j
    · subst hij
      rw [List.getElem?_set_self hj] at hu
      injection hu with hu
      subst hu
      have hsz : i < cur.size := by
        have := own_cells h (i := i) (u := xs[i]) (List.getElem?_eq_getElem hj)
        simp [World.cell?, hh] at this
        exact (Array.getElem?_eq_some_iff.1 this).1
      simp [World.cell?, World.setCell, Array.getElem?_modify, hg, hsz]
    · rw [List.getElem?_set_ne (fun e => hij e.symm)] at hu
      have := own_cells h hu
      simp [World.cell?, hh] at this
      simp [World.cell?, World.setCell, Array.getElem?_modify, hg, Array.getElem?_setIfInBounds]
      rw [if_neg (fun e => hij e.symm)]
      exact this
theorem row_beside {w w' : World} {tb nb : Nat} {xs : List Value} (h : RowAt w (some ⟨tb, 0, none⟩) xs) (hg : w.grownBy w' (Value.slice (some ⟨nb, 0, none⟩) 0 0).ownBlock) (hne : tb ≠ nb) : RowAt w' (some ⟨tb, 0, none⟩) xs :=
  row_kept h hg.size fun bk o e hl => hg.block bk hl (by
    injection e with e
    injection e with e1 _ _
    subst e1
    intro e2
    simp [Value.ownBlock] at e2
    exact hne e2)
theorem rel_set : ∀ (l : List Df) (k : Nat) (h : k < l.length) (d : Df), More l[k] d → Rel2 More l (l.set k d)
  | [], _, h, _, _ => by simp at h
  | x :: l, 0, _, d, hm => by
    rw [List.set_cons_zero]
    exact .cons hm (Rel2.refl More.refl l)
  | x :: l, k + 1, h, d, hm => by
    rw [List.set_cons_succ]
    exact .cons (More.refl x) (rel_set l k (by simpa using h) d (by simpa using hm))
theorem wrap_rem_n (a : Int) {n : Nat} (hn : 0 < n) (hm : n ≤ 6) : ∃ k : Nat, k < n ∧ IntKind.i64.wrap ((IntKind.u64.wrap a).tmod (n : Int)) = (k : Int) := by
  rw [IntKind.wrap_u64]
  have h1 : 0 ≤ a % 18446744073709551616 := by omega
  have h2 : (a % 18446744073709551616).tmod (n : Int) = (a % 18446744073709551616) % (n : Int) := Int.tmod_eq_emod_of_nonneg h1
  have h3 := Int.emod_nonneg (a % 18446744073709551616) (show (n : Int) ≠ 0 by omega)
  have h4 := Int.emod_lt_of_pos (a % 18446744073709551616) (show (0 : Int) < n by omega)
  rw [h2]
  refine ⟨((a % 18446744073709551616) % (n : Int)).toNat, by omega, ?_⟩
  rw [IntWalk.i64_in _ (by omega)]
  omega
/-- What both ways have of a struct's name. -/
theorem both_rows {l m : List Df} (h : Rel2 More l m) {W W' : Ws} (a : Held l W) (b : Held m W') {d : Df} (hd : d ∈ l) : ∃ x y, W d.name = some x ∧ W' d.name = some y ∧ SubL x y ∧ Few x ∧ Few y := by
  have hl := held_more h a b d.name
  obtain ⟨i, rfl, _⟩ := a
  obtain ⟨j, rfl, _⟩ := b
  obtain ⟨x, hx⟩ := it_has l hd i
  rw [hx] at hl
  cases hy : it m j d.name with
  | none => rw [hy] at hl; exact hl.elim
  | some y =>
    rw [hy] at hl
    exact ⟨x, y, hx, rfl, hl, it_low l i _ _ hx, it_low m j _ _ hy⟩
theorem WaysAt.drewN {w : World} {v : Value} {W : Ws} (h : WaysAt w v W) (q : Nat) : WaysAt (w.drewN q) v W := h.below (below_drewN w q)
theorem bel_drewN {B : Nat} {a w : World} (h : Below B a w) (q : Nat) : Below B a (w.drewN q) := ⟨h.os, h.tape, h.output, h.size, h.block⟩
theorem look_all {w : World} {o : Option Nat} {W : Ws} (h : WaysAt w (.map o) W) {s : ByteArray} (hs : s.size ≤ maxLen) : ∃ u, (∀ q, (Instr.lookup 28 (.map o) (.string s) false).run Try.prog (w.drewN q) = .ok u (w.drewN q)) ∧ RowI w u (ints ((W s).getD [])) := by
  rcases h with ⟨e, rfl⟩ | ⟨b, n, f, e, h1, h2⟩
  · injection e with e
    subst e
    exact ⟨_, fun q => look_nil_at (w.drewN q) Try.underlying9 Try.underlying28 (zero_ints _) hs, RowI.nil w⟩
  · injection e with e
    subst e
    refine ⟨_, fun q => look_at (h1.of (w' := w.drewN q) rfl) Try.underlying9 Try.underlying28 (zero_ints _) hs, ?_⟩
    have h3 := h2 s
    unfold OptR at h3
    split at h3
    · rename_i e1 e2
      rw [e1, e2]
      exact RowI.nil w
    · rename_i e1 e2
      rw [e1, e2]
      exact h3
    · exact h3.elim
end Vy
end Go.Proofs.Ytelmdidgmpbnmaa

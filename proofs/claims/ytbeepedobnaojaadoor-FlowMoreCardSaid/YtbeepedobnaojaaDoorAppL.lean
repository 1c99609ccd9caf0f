/- append of what lies behind any slice, to what the call owns: laws for the walk; lists of elements that are owned. -/
import Derived.Test.YtbeepedobnaojaaDoorBox
import Derived.Test.YtbeepedobnaojaaDoorRowAt
import Derived.Deep.AppendLies
import Derived.Deep.RegionLaw
import Derived.Laws.OwnMore
namespace Go.Proofs.YtbeepedobnaojaaDoor
open Go.RowKit
namespace Tr
theorem own_slice {w : World} {base : Nat} {e : TypeId} {size n : Nat} {v : Value} {xs : List Value} (h : w.ownsRow base e size v n xs) : ∃ A cap, v = .slice A n cap ∧ (A = none → n = 0 ∧ cap = 0) := by
  rcases h.2 with ⟨rfl, h0⟩ | ⟨g, cap, _, rfl, _⟩
  · exact ⟨none, 0, by rw [h0], fun _ => ⟨h0, rfl⟩⟩
  · exact ⟨_, cap, rfl, fun h => by cases h⟩
theorem run_append_nothing {P : Program} {w : World} (base : Nat) (t ty e : TypeId) (i : TypeInfo) (size : Nat) (ht : P.underlying t = some (.slice e)) (hi : P.info? e = some i)
    (v : Value) (n : Nat) (xs : List Value) (hown : w.ownsRow base e size v n xs) (c : Nat) : (Builtin.append_ #[t, t] ty #[v, .slice none 0 c]).run P w = .ok v w := by
  rcases hown.2 with ⟨rfl, rfl⟩ | ⟨g, cap, cur, rfl, _, _, hnc, _⟩
  · simp [Builtin.append_, run_underlying ht, sizeOf, typeInfo, hi, Builtin.lenOf, Builtin.firstCells]
  · simp [Builtin.append_, run_underlying ht, sizeOf, typeInfo, hi, Builtin.lenOf, Builtin.firstCells, hnc, storeCells]
theorem own_row {w : World} {base n cap size : Nat} {e : TypeId} {A : Option Addr} {xs : List Value} (h : w.ownsRow base e size (.slice A n cap) n xs) : RowAt w A xs := fun h0 => by
  have hn : 0 < n := by
    rcases Nat.eq_zero_or_pos n with h1 | h1
    · have := h.1
      rw [h1, Nat.zero_mul] at this
      omega
    · exact h1
  obtain ⟨g, cp, hv, _, hl⟩ := h.form hn
  injection hv with hA
  subst hA
  have hc := h.cells (g := g) rfl
  refine ⟨g, 0, rfl, hl, fun i u hu => ?_⟩
  have := hc i u hu
  rwa [show (⟨g, 0, none⟩ : Addr).add i = ⟨g, 0 + i, none⟩ from by unfold Addr.add; split <;> simp_all] at this
section
variable {P : Program} {w : World} (base : Nat) (t ty e : TypeId) (i : TypeInfo) (z : Value) (size bytes : Nat) (ht : P.underlying t = some (.slice e)) (hi : P.info? e = some i) (hz : i.zero = some z)
    (hsize : i.size = size) (hby : i.bytes = bytes) (hzs : z.cells.size = size) (hsz : 0 < size)
    (v : Value) (n : Nat) (xs : List Value) (hown : w.ownsRow base e size v n xs)
    (A : Option Addr) (m c : Nat) (hA : A = none → m = 0) (news : List Value) (hl : news.length = m * size) (hrow : RowAt w A news) (h1 : ∀ u ∈ news, u.oneCell' = true)
    (h63 : n + m ≤ maxLen) (hbytes : (n + m) * bytes ≤ 140737488355328) (hbase : base ≤ w.heap.size)
include ht hi hz hsize hby hzs hsz hown hA hl hrow h1 h63 hbytes hbase
theorem run_append_row : ∃ v' w', (Builtin.append_ #[t, t] ty #[v, .slice A m c]).run P w = .ok v' w' ∧ w'.ownsRow base e size v' (n + m) (xs ++ news) ∧ w.grownBy w' v.ownBlock := by
  cases A with
  | none =>
    obtain rfl := hA rfl
    have hnn : news = [] := List.eq_nil_of_length_eq_zero (by simpa using hl)
    subst hnn
    exact ⟨v, w, run_append_nothing (P := P) (w := w) base t ty e i size ht hi v n xs hown c, by simpa using hown, ⟨rfl, rfl, rfl, Nat.le_refl _, fun _ _ _ => rfl⟩⟩
  | some a =>
    obtain ⟨v', w', hr, h2, h3, _⟩ := run_append_own (P := P) w base t ty e i z size bytes ht hi hz hsize hby hzs hsz v n xs hown a m c news hl (fun j u hu => by
      have hpos : 0 < news.length := by
        have := (List.getElem?_eq_some_iff.1 hu).1
        omega
      obtain ⟨bk, o, ha, _, hc⟩ := hrow hpos
      injection ha with ha
      subst ha
      rw [show (⟨bk, o, none⟩ : Addr).add j = ⟨bk, o + j, none⟩ from by unfold Addr.add; split <;> simp_all]
      exact hc j u hu) h1 h63 hbytes hbase
    exact ⟨v', w', hr, h2, h3⟩
end
section
variable {P : Program} {w : World} {ops : Array Oper} {rest : List Oper} {o : Oper} {a : Act} {K : Act → World → Prop} {Q : Exit → Act → World → Prop} {E : Prop}
theorem wp_append_row (s x : Operand) (t : TypeId) (ho : o.op = .call { callee := .builtin .append, args := #[s, x], argTypes := #[t, t] })
    (base : Nat) (e : TypeId) (i : TypeInfo) (z : Value) (size bytes : Nat) (ht : P.underlying t = some (.slice e)) (hi : P.info? e = some i) (hz : i.zero = some z)
    (hsize : i.size = size) (hby : i.bytes = bytes) (hzs : z.cells.size = size) (hsz : 0 < size)
    (v : Value) (n : Nat) (xs : List Value) (hs : a.eval s = v) (hown : w.ownsRow base e size v n xs)
    (A : Option Addr) (m c : Nat) (hA : A = none → m = 0) (news : List Value) (hx : a.eval x = .slice A m c) (hl : news.length = m * size) (hrow : RowAt w A news) (h1 : ∀ u ∈ news, u.oneCell' = true)
    (h63 : n + m ≤ maxLen) (hbytes : (n + m) * bytes ≤ 140737488355328) (hbase : base ≤ w.heap.size)
    (h : ∀ v' w', w'.ownsRow base e size v' (n + m) (xs ++ news) → w.grownBy w' v.ownBlock → K (a.put o.dst v') w') : o.wp P a w K Q := by
  obtain ⟨v', w', hr, h2, h3⟩ := run_append_row (P := P) (w := w) base t o.type e i z size bytes ht hi hz hsize hby hzs hsz v n xs hown A m c hA news hl hrow h1 h63 hbytes hbase
  unfold Oper.wp execOp
  simp only [ho, resolve, invoke, builtin, Sem.run_bind, Sem.run_pure, Result.andThen_ok, List.map_toArray, List.map_cons, List.map_nil, hs, hx, hr]
  exact h v' w' h2 h3
theorem wpList_append_row (hgd : o.guard = none) (s x : Operand) (t : TypeId) (ho : o.op = .call { callee := .builtin .append, args := #[s, x], argTypes := #[t, t] })
    (base : Nat) (e : TypeId) (i : TypeInfo) (z : Value) (size bytes : Nat) (ht : P.underlying t = some (.slice e)) (hi : P.info? e = some i) (hz : i.zero = some z)
    (hsize : i.size = size) (hby : i.bytes = bytes) (hzs : z.cells.size = size) (hsz : 0 < size)
    (v : Value) (n : Nat) (xs : List Value) (hs : a.eval s = v) (hown : w.ownsRow base e size v n xs)
    (A : Option Addr) (m c : Nat) (hA : A = none → m = 0) (news : List Value) (hx : a.eval x = .slice A m c) (hl : news.length = m * size) (hrow : RowAt w A news) (h1 : ∀ u ∈ news, u.oneCell' = true)
    (h63 : n + m ≤ maxLen) (hbytes : (n + m) * bytes ≤ 140737488355328) (hbase : base ≤ w.heap.size)
    (h : ∀ v' w', w'.ownsRow base e size v' (n + m) (xs ++ news) → w.grownBy w' v.ownBlock → wpList P ops Q rest (a.put o.dst v') w') : wpList P ops Q (o :: rest) a w :=
  wpList_plain hgd fun _ hK => wp_append_row s x t ho base e i z size bytes ht hi hz hsize hby hzs hsz v n xs hs hown A m c hA news hx hl hrow h1 h63 hbytes hbase fun v' w' h2 h3 => hK _ _ (h v' w' h2 h3)
theorem step_append_row (hgd : o.guard = none) (s x : Operand) (t : TypeId) (ho : o.op = .call { callee := .builtin .append, args := #[s, x], argTypes := #[t, t] })
    (base : Nat) (e : TypeId) (i : TypeInfo) (z : Value) (size bytes : Nat) (ht : P.underlying t = some (.slice e)) (hi : P.info? e = some i) (hz : i.zero = some z)
    (hsize : i.size = size) (hby : i.bytes = bytes) (hzs : z.cells.size = size) (hsz : 0 < size)
    (v : Value) (n : Nat) (xs : List Value) (hs : a.eval s = v) (hown : w.ownsRow base e size v n xs)
    (A : Option Addr) (m c : Nat) (hA : A = none → m = 0) (news : List Value) (hx : a.eval x = .slice A m c) (hl : news.length = m * size) (hrow : RowAt w A news) (h1 : ∀ u ∈ news, u.oneCell' = true)
    (h63 : n + m ≤ maxLen) (hbytes : (n + m) * bytes ≤ 140737488355328) (hbase : base ≤ w.heap.size)
    (h : ∀ v' w', w'.ownsRow base e size v' (n + m) (xs ++ news) → w.grownBy w' v.ownBlock → K (a.put o.dst v') w') : if Region.wanted o (yielded ops a.tmps) = true then Oper.wp P o a w K Q else E := by
  have hw : Region.wanted o (yielded ops a.tmps) = true := by simp [Region.wanted, hgd]
  rw [if_pos hw]
  exact wp_append_row s x t ho base e i z size bytes ht hi hz hsize hby hzs hsz v n xs hs hown A m c hA news hx hl hrow h1 h63 hbytes hbase h
end
theorem RowAt.grown {w w' : World} {A : Option Addr} {xs : List Value} {base n size : Nat} {e : TypeId} {v : Value} {ys : List Value} (h : RowAt w A xs) (ho : w.ownsRow base e size v n ys) (hg : w.grownBy w' v.ownBlock) (hA : ∀ a, A = some a → a.block < base) : RowAt w' A xs := fun h0 => by
  obtain ⟨bk, o, rfl, hl, hc⟩ := h h0
  have hb := hA _ rfl
  refine ⟨bk, o, rfl, Nat.lt_of_lt_of_le hl hg.size, fun i u hu => ?_⟩
  rw [hg.cell_far ⟨bk, o + i, none⟩ hl (fun e => by have h1 : base ≤ bk := (ho.lt _ e.symm).1; have h2 : bk < base := hb; omega)]
  exact hc i u hu
theorem below_own {w w1 : World} {B base : Nat} {a : World} {e : TypeId} {v : Value} {size n : Nat} {xs : List Value} (h : Below B a w) (hown : w.ownsRow base e size v n xs) (hB : B ≤ base) (hs : B ≤ w.heap.size)
    (hg : w.grownBy w1 v.ownBlock) : Below B a w1 :=
  h.grown hg hs (fun k hk => Nat.le_trans hB (hown.lt k hk).1)
theorem chunks_append {α : Type} {sz : Nat} {P : α → List Value → Prop} {l m : List α} {xs ys : List Value} (hx : xs.length = l.length * sz) (px : ∀ (i : Nat) (h : i < l.length), P l[i] ((xs.drop (i * sz)).take sz)) (py : ∀ (i : Nat) (h : i < m.length), P m[i] ((ys.drop (i * sz)).take sz)) :
    ∀ (i : Nat) (h : i < (l ++ m).length), P (l ++ m)[i] (((xs ++ ys).drop (i * sz)).take sz) := by
  intro i h
  by_cases hi : i < l.length
  · have hle : i * sz + sz ≤ xs.length := by
      rw [hx]
      have : (i + 1) * sz ≤ l.length * sz := Nat.mul_le_mul_right _ hi
      rwa [Nat.succ_mul] at this
    rw [List.getElem_append_left hi, List.drop_append_of_le_length (by omega), List.take_append_of_le_length (by rw [List.length_drop]; omega)]
    exact px i hi
  · obtain ⟨j, rfl⟩ : ∃ j, i = l.length + j := ⟨i - l.length, by omega⟩
    rw [List.length_append] at h
    have hj : j < m.length := by omega
    rw [List.getElem_append_right (by omega), Nat.add_mul, ← hx, List.drop_append]
    have e1 : xs.drop (xs.length + j * sz) = [] := List.drop_of_length_le (by omega)
    rw [e1, List.nil_append, show xs.length + j * sz - xs.length = j * sz by omega]
    have := py j hj
    simpa [Nat.add_sub_cancel_left] using this
theorem own_list {α : Type} {w : World} {base n c sz : Nat} {e : TypeId} {A : Option Addr} {P : α → List Value → Prop} {l : List α} {xs : List Value} (ho : w.ownsRow base e sz (.slice A n c) n xs) (hn : l.length = n) (h1 : ∀ u ∈ xs, u.oneCell' = true)
    (hp : ∀ (i : Nat) (h : i < l.length), P l[i] ((xs.drop (i * sz)).take sz)) : ListAt w sz P A l :=
  ⟨xs, ⟨by rw [ho.1, hn], by
    rw [hn]
    rcases ho.2 with ⟨_, h0⟩ | ⟨_, _, _, _, _, _, h2, h3, _⟩
    · rw [h0]; exact Nat.zero_le _
    · omega⟩, ⟨own_row ho, h1⟩, hp⟩
theorem row_one {w : World} (t : TypeId) (cs : List Value) : RowAt (w.alloc (.cells cs.toArray t)) (some ⟨w.heap.size, 0, none⟩) cs := fun h0 => by
  have hi := Is.made w t cs.toArray
  refine ⟨_, 0, rfl, hi.lt, fun i u hu => ?_⟩
  rw [Nat.zero_add, hi.at_]
  simpa using hu
theorem row_kept {w w' : World} {A : Option Addr} {xs : List Value} (h : RowAt w A xs) (hs : w.heap.size ≤ w'.heap.size) (hb : ∀ bk o, A = some ⟨bk, o, none⟩ → bk < w.heap.size → w'.heap[bk]? = w.heap[bk]?) : RowAt w' A xs := fun h0 => by
  obtain ⟨bk, o, e, hl, hc⟩ := h h0
  refine ⟨bk, o, e, Nat.lt_of_lt_of_le hl hs, fun i u hu => ?_⟩
  rw [← hc i u hu]
  unfold World.cell?
  rw [hb bk o e hl]
theorem own_free {w : World} {base n sz g : Nat} {e : TypeId} {v : Value} {xs : List Value} (h : w.ownsRow base e sz v n xs) (hg : v.ownBlock = some g) (i : Nat) : w.frozen? ⟨g, i, none⟩ = false := by
  rcases h.2 with ⟨rfl, _⟩ | ⟨b, cap, cur, rfl, _, hh, _⟩
  · cases hg
  · have e1 : b = g := by simpa [Value.ownBlock] using hg
    subst e1
    simp [World.frozen?, hh]
end Tr
end Go.Proofs.YtbeepedobnaojaaDoor

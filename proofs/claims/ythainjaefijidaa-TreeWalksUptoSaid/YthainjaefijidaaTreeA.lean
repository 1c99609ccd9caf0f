/- Trees as they lie in memory: types as they are written, expressions, statements. -/
import Derived.WalkKit
import Derived.Deep.Slices
import Derived.Lib.Hide
namespace Go.Proofs.Ythainjaefijidaa
open Go.RowKit
namespace Tr
inductive Ty | mk (kind : Int) (name life : ByteArray) (uniq : Bool) (lifes : List ByteArray) (args : List Ty) (line col : Int)
mutual
inductive Ex | mk (kind : Int) (name : ByteArray) (val : Int) (uniq : Bool) (args : List Ex) (names : List ByteArray) (body : List St) (line col : Int)
inductive St | mk (kind : Int) (name : ByteArray) (type : Ty) (place e : List Ex) (body els : List St) (other : Bool) (line col : Int)
end
/-- Cells that lie behind a slice. -/
def RowAt (w : World) (A : Option Addr) (xs : List Value) : Prop := 0 < xs.length → ∃ bk o, A = some ⟨bk, o, none⟩ ∧ bk < w.heap.size ∧ ∀ (i : Nat) (u : Value), xs[i]? = some u → w.cell? ⟨bk, o + i, none⟩ = some u
/-- Elements of sz cells each that lie behind a slice. -/
def ListAt {α : Type} (w : World) (sz : Nat) (P : α → List Value → Prop) (A : Option Addr) (l : List α) : Prop :=
  ∃ xs : List Value, (xs.length = l.length * sz ∧ l.length ≤ maxLen) ∧ (RowAt w A xs ∧ ∀ u ∈ xs, u.oneCell' = true) ∧ ∀ (i : Nat) (h : i < l.length), P l[i] ((xs.drop (i * sz)).take sz)
def StrAt (s : ByteArray) (cs : List Value) : Prop := cs = [.string s]
def TyAt (w : World) : Nat → Ty → List Value → Prop
  | 0, _, _ => False
  | n + 1, .mk k nm lf u ls ar l c, cs => ∃ An cn A ca, cs = [.int .i64 k, .string nm, .string lf, .bool u, .slice An ls.length cn, .slice A ar.length ca, .int .i64 l, .int .i64 c] ∧ ListAt w 1 StrAt An ls ∧ ListAt w 8 (TyAt w n) A ar
mutual
def ExAt (w : World) : Nat → Ex → List Value → Prop
  | 0, _, _ => False
  | n + 1, .mk k nm v u ar ns b l c, cs => ∃ A ca An cn B cb, cs = [.int .i64 k, .string nm, .int .u64 v, .bool u, .slice A ar.length ca, .slice An ns.length cn, .slice B b.length cb, .int .i64 l, .int .i64 c] ∧
      ListAt w 9 (ExAt w n) A ar ∧ ListAt w 1 StrAt An ns ∧ ListAt w 17 (StAt w n) B b
def StAt (w : World) : Nat → St → List Value → Prop
  | 0, _, _ => False
  | n + 1, .mk k nm t p e b el o l c, cs => ∃ ts A ca E ce B cb L cl, cs = [.int .i64 k, .string nm] ++ ts ++ [.slice A p.length ca, .slice E e.length ce, .slice B b.length cb, .slice L el.length cl, .bool o, .int .i64 l, .int .i64 c] ∧
      TyAt w n t ts ∧ ListAt w 9 (ExAt w n) A p ∧ ListAt w 9 (ExAt w n) E e ∧ ListAt w 17 (StAt w n) B b ∧ ListAt w 17 (StAt w n) L el
end
section
variable {α : Type} {w w' : World} {sz : Nat} {P P' : α → List Value → Prop} {A : Option Addr} {l : List α} {xs : List Value}
theorem RowAt.below (h : RowAt w A xs) (hb : Below w.heap.size w w') : RowAt w' A xs := fun h0 => by
  obtain ⟨bk, o, e, hl, hc⟩ := h h0
  exact ⟨bk, o, e, Nat.lt_of_lt_of_le hl hb.size, fun i u hu => (hb.cell (p := ⟨bk, o + i, none⟩) hl).trans (hc i u hu)⟩
theorem ListAt.below (h : ListAt w sz P A l) (hb : Below w.heap.size w w') (hP : ∀ x ∈ l, ∀ cs, P x cs → P' x cs) : ListAt w' sz P' A l := by
  obtain ⟨xs, h1, h2, h3⟩ := h
  exact ⟨xs, h1, ⟨h2.1.below hb, h2.2⟩, fun i hi => hP _ (List.getElem_mem hi) _ (h3 i hi)⟩
theorem ListAt.mono (h : ListAt w sz P A l) (hP : ∀ x ∈ l, ∀ cs, P x cs → P' x cs) : ListAt w sz P' A l := by
  obtain ⟨xs, h1, h2, h3⟩ := h
  exact ⟨xs, h1, h2, fun i hi => hP _ (List.getElem_mem hi) _ (h3 i hi)⟩
theorem ListAt.get (h : ListAt w sz P A l) (hs : 0 < sz) {i : Nat} (hi : i < l.length) : ∃ bk o cs, A = some ⟨bk, o, none⟩ ∧ bk < w.heap.size ∧ cs.length = sz ∧ P l[i] cs ∧ ∀ (j : Nat) (u : Value), cs[j]? = some u → w.cell? ⟨bk, o + i * sz + j, none⟩ = some u := by
  obtain ⟨xs, h1, h2, h3⟩ := h
  have hle : i * sz + sz ≤ xs.length := by
    rw [h1.1]
    have : (i + 1) * sz ≤ l.length * sz := Nat.mul_le_mul_right _ hi
    rwa [Nat.succ_mul] at this
  obtain ⟨bk, o, e, hl, hc⟩ := h2.1 (by omega)
  refine ⟨bk, o, (xs.drop (i * sz)).take sz, e, hl, ?_, h3 i hi, fun j u hj => ?_⟩
  · rw [List.length_take, List.length_drop]; omega
  · have hjs : j < sz := by
      have := (List.getElem?_eq_some_iff.1 hj).1
      rw [List.length_take] at this
      omega
    rw [List.getElem?_take, if_pos hjs, List.getElem?_drop] at hj
    rw [Nat.add_assoc]
    exact hc _ _ hj
theorem ListAt.le (h : ListAt w sz P A l) : l.length ≤ maxLen := by
  obtain ⟨_, h1, _⟩ := h
  exact h1.2
theorem RowAt.nil (h : RowAt w none xs) : xs = [] := by
  rcases Nat.eq_zero_or_pos xs.length with h0 | h0
  · exact List.eq_nil_of_length_eq_zero h0
  · obtain ⟨_, _, e, _⟩ := h h0
    cases e
theorem ListAt.none (w : World) (sz : Nat) (P : α → List Value → Prop) (A : Option Addr) : ListAt w sz P A [] := ⟨[], ⟨by simp, Nat.zero_le _⟩, ⟨fun h => absurd h (by simp), fun u h => by cases h⟩, fun i h => by cases h⟩
end
theorem TyAt.below {w w' : World} (hb : Below w.heap.size w w') : ∀ (n : Nat) (x : Ty) (cs : List Value), TyAt w n x cs → TyAt w' n x cs
  | 0, _, _, h => h
  | n + 1, .mk _ _ _ _ _ _ _ _, cs, h => by
    obtain ⟨An, cn, A, ca, e, h1, h2⟩ := h
    exact ⟨An, cn, A, ca, e, h1.below hb fun _ _ _ h => h, h2.below hb fun x _ cs h => TyAt.below hb n x cs h⟩
mutual
theorem ExAt.below {w w' : World} (hb : Below w.heap.size w w') : ∀ (n : Nat) (x : Ex) (cs : List Value), ExAt w n x cs → ExAt w' n x cs
  | 0, _, _, h => h
  | n + 1, .mk _ _ _ _ _ _ _ _ _, cs, h => by
    obtain ⟨A, ca, An, cn, B, cb, e, h1, h2, h3⟩ := h
    exact ⟨A, ca, An, cn, B, cb, e, h1.below hb fun x _ cs h => ExAt.below hb n x cs h, h2.below hb fun _ _ _ h => h, h3.below hb fun x _ cs h => StAt.below hb n x cs h⟩
theorem StAt.below {w w' : World} (hb : Below w.heap.size w w') : ∀ (n : Nat) (x : St) (cs : List Value), StAt w n x cs → StAt w' n x cs
  | 0, _, _, h => h
  | n + 1, .mk _ _ _ _ _ _ _ _ _ _, cs, h => by
    obtain ⟨ts, A, ca, E, ce, B, cb, L, cl, e, h0, h1, h2, h3, h4⟩ := h
    exact ⟨ts, A, ca, E, ce, B, cb, L, cl, e, TyAt.below hb n _ _ h0, h1.below hb fun x _ cs h => ExAt.below hb n x cs h, h2.below hb fun x _ cs h => ExAt.below hb n x cs h,
      h3.below hb fun x _ cs h => StAt.below hb n x cs h, h4.below hb fun x _ cs h => StAt.below hb n x cs h⟩
end
theorem TyAt.one {w : World} : ∀ {n : Nat} {x : Ty} {cs : List Value}, TyAt w n x cs → cs.length = 8 ∧ ∀ u ∈ cs, u.oneCell' = true
  | 0, _, _, h => h.elim
  | n + 1, .mk _ _ _ _ _ _ _ _, cs, h => by
    obtain ⟨An, cn, A, ca, rfl, _⟩ := h
    exact ⟨rfl, fun u hu => by simp at hu; rcases hu with rfl | rfl | rfl | rfl | rfl | rfl | rfl | rfl <;> rfl⟩
theorem ExAt.one {w : World} : ∀ {n : Nat} {x : Ex} {cs : List Value}, ExAt w n x cs → cs.length = 9 ∧ ∀ u ∈ cs, u.oneCell' = true
  | 0, _, _, h => h.elim
  | n + 1, .mk _ _ _ _ _ _ _ _ _, cs, h => by
    obtain ⟨A, ca, An, cn, B, cb, rfl, _⟩ := h
    exact ⟨rfl, fun u hu => by simp at hu; rcases hu with rfl | rfl | rfl | rfl | rfl | rfl | rfl | rfl | rfl <;> rfl⟩
theorem StAt.one {w : World} : ∀ {n : Nat} {x : St} {cs : List Value}, StAt w n x cs → cs.length = 17 ∧ ∀ u ∈ cs, u.oneCell' = true
  | 0, _, _, h => h.elim
  | n + 1, .mk _ _ _ _ _ _ _ _ _ _, cs, h => by
    obtain ⟨ts, A, ca, E, ce, B, cb, L, cl, rfl, ht, _⟩ := h
    refine ⟨by simp [ht.one.1], fun u hu => ?_⟩
    simp at hu
    rcases hu with rfl | rfl | hu | rfl | rfl | rfl | rfl | rfl | rfl | rfl
    all_goals first | rfl | exact ht.one.2 u hu
theorem StrAt.one {s : ByteArray} {cs : List Value} (h : StrAt s cs) : cs.length = 1 ∧ ∀ u ∈ cs, u.oneCell' = true := by
  unfold StrAt at h
  subst h
  exact ⟨rfl, fun u hu => by simp at hu; subst hu; rfl⟩
/-! What is seen. -/
mutual
def seen : Ex → List Int
  | .mk k _ _ _ ar _ b _ _ => seenL ar ++ seenB b ++ [k]
def seenL : List Ex → List Int
  | [] => []
  | x :: l => seen x ++ seenL l
def seenS : St → List Int
  | .mk _ _ _ p e b el _ _ _ => seenL p ++ seenL e ++ seenB b ++ seenB el
def seenB : List St → List Int
  | [] => []
  | x :: l => seenS x ++ seenB l
end
theorem seenL_append : ∀ (l m : List Ex), seenL (l ++ m) = seenL l ++ seenL m
  | [], _ => rfl
  | x :: l, m => by simp only [List.cons_append, seenL, seenL_append l m, List.append_assoc]
theorem seenB_append : ∀ (l m : List St), seenB (l ++ m) = seenB l ++ seenB m
  | [], _ => rfl
  | x :: l, m => by simp only [List.cons_append, seenB, seenB_append l m, List.append_assoc]
end Tr
end Go.Proofs.Ythainjaefijidaa

/- What lies behind a slice: cells, and elements of more cells; strings, whole numbers. -/
import Derived.WalkKit
import Derived.Deep.Slices
import Derived.Lib.Hide
namespace Go.Proofs.YtbeepedobnaojaaDoor
open Go.RowKit
namespace Tr
/-- Cells that lie behind a slice. -/
def RowAt (w : World) (A : Option Addr) (xs : List Value) : Prop := 0 < xs.length → ∃ bk o, A = some ⟨bk, o, none⟩ ∧ bk < w.heap.size ∧ ∀ (i : Nat) (u : Value), xs[i]? = some u → w.cell? ⟨bk, o + i, none⟩ = some u
/-- Elements of sz cells each that lie behind a slice. -/
def ListAt {α : Type} (w : World) (sz : Nat) (P : α → List Value → Prop) (A : Option Addr) (l : List α) : Prop :=
  ∃ xs : List Value, (xs.length = l.length * sz ∧ l.length ≤ maxLen) ∧ (RowAt w A xs ∧ ∀ u ∈ xs, u.oneCell' = true) ∧ ∀ (i : Nat) (h : i < l.length), P l[i] ((xs.drop (i * sz)).take sz)
def StrAt (s : ByteArray) (cs : List Value) : Prop := cs = [.string s] ∧ s.size ≤ maxLen
def IntAt (a : Int) (cs : List Value) : Prop := cs = [.int .i64 a]
theorem StrAt.one {s : ByteArray} {cs : List Value} (h : StrAt s cs) : cs.length = 1 ∧ ∀ u ∈ cs, u.oneCell' = true := by
  obtain ⟨rfl, _⟩ := h
  exact ⟨rfl, fun u hu => by simp at hu; subst hu; rfl⟩
theorem IntAt.one {a : Int} {cs : List Value} (h : IntAt a cs) : cs.length = 1 ∧ ∀ u ∈ cs, u.oneCell' = true := by
  unfold IntAt at h
  subst h
  exact ⟨rfl, fun u hu => by simp at hu; subst hu; rfl⟩
section
variable {α : Type} {w w' : World} {sz : Nat} {P P' : α → List Value → Prop} {A : Option Addr} {l : List α} {xs : List Value}
theorem RowAt.below (h : RowAt w A xs) (hb : Below w.heap.size w w') : RowAt w' A xs := fun h0 => by
  obtain ⟨bk, o, e, hl, hc⟩ := h h0
  exact ⟨bk, o, e, Nat.lt_of_lt_of_le hl hb.size, fun i u hu => (hb.cell (p := ⟨bk, o + i, none⟩) hl).trans (hc i u hu)⟩
theorem ListAt.below (h : ListAt w sz P A l) (hb : Below w.heap.size w w') (hP : ∀ x ∈ l, ∀ cs, P x cs → P' x cs) : ListAt w' sz P' A l := by
  obtain ⟨xs, h1, h2, h3⟩ := h
  exact ⟨xs, h1, ⟨h2.1.below hb, h2.2⟩, fun i hi => hP _ (List.getElem_mem hi) _ (h3 i hi)⟩
theorem ListAt.mono (h : ListAt w sz P A l) (hP : ∀ x ∈ l, ∀ cs, P x cs → P' x cs) : ListAt w sz P' A l := by
  obtain ⟨xs, h1, h2, h3⟩ := h
  exact ⟨xs, h1, h2, fun i hi => hP _ (List.getElem_mem hi) _ (h3 i hi)⟩
theorem ListAt.get (h : ListAt w sz P A l) (hs : 0 < sz) {i : Nat} (hi : i < l.length) : ∃ bk o cs, A = some ⟨bk, o, none⟩ ∧ bk < w.heap.size ∧ cs.length = sz ∧ P l[i] cs ∧ ∀ (j : Nat) (u : Value), cs[j]? = some u → w.cell? ⟨bk, o + i * sz + j, none⟩ = some u := by
  obtain ⟨xs, h1, h2, h3⟩ := h
  have hle : i * sz + sz ≤ xs.length := by
    rw [h1.1]
    have : (i + 1) * sz ≤ l.length * sz := Nat.mul_le_mul_right _ hi
    rwa [Nat.succ_mul] at this
  obtain ⟨bk, o, e, hl, hc⟩ := h2.1 (by omega)
  refine ⟨bk, o, (xs.drop (i * sz)).take sz, e, hl, ?_, h3 i hi, fun j u hj => ?_⟩
  · rw [List.length_take, List.length_drop]; omega
  · have hjs : j < sz := by
      have := (List.getElem?_eq_some_iff.1 hj).1
      rw [List.length_take] at this
      omega
    rw [List.getElem?_take, if_pos hjs, List.getElem?_drop] at hj
    rw [Nat.add_assoc]
    exact hc _ _ hj
theorem ListAt.le (h : ListAt w sz P A l) : l.length ≤ maxLen := by
  obtain ⟨_, h1, _⟩ := h
  exact h1.2
theorem RowAt.nil (h : RowAt w none xs) : xs = [] := by
  rcases Nat.eq_zero_or_pos xs.length with h0 | h0
  · exact List.eq_nil_of_length_eq_zero h0
  · obtain ⟨_, _, e, _⟩ := h h0
    cases e
theorem ListAt.none (w : World) (sz : Nat) (P : α → List Value → Prop) (A : Option Addr) : ListAt w sz P A [] := ⟨[], ⟨by simp, Nat.zero_le _⟩, ⟨fun h => absurd h (by simp), fun u h => by cases h⟩, fun i h => by cases h⟩
end
theorem int_at {w : World} {A : Option Addr} {l : List Int} (h : ListAt w 1 IntAt A l) {i : Nat} (hi : i < l.length) : ∃ bk o, A = some ⟨bk, o, none⟩ ∧ bk < w.heap.size ∧ w.cell? ⟨bk, o + i, none⟩ = some (.int .i64 l[i]) := by
  obtain ⟨bk, o, cs, hA, hl, _, hs, hc⟩ := h.get (by decide) hi
  have := hc 0 (.int .i64 l[i]) (by rw [show cs = [.int .i64 l[i]] from hs]; rfl)
  simp only [Nat.mul_one, Nat.add_zero] at this
  exact ⟨bk, o, hA, hl, this⟩
theorem str_at {w : World} {A : Option Addr} {l : List ByteArray} (h : ListAt w 1 StrAt A l) {i : Nat} (hi : i < l.length) : ∃ bk o, A = some ⟨bk, o, none⟩ ∧ bk < w.heap.size ∧ l[i].size ≤ maxLen ∧ w.cell? ⟨bk, o + i, none⟩ = some (.string l[i]) := by
  obtain ⟨bk, o, cs, hA, hl, _, hs, hc⟩ := h.get (by decide) hi
  have := hc 0 (.string l[i]) (by rw [hs.1]; rfl)
  simp only [Nat.mul_one, Nat.add_zero] at this
  exact ⟨bk, o, hA, hl, hs.2, this⟩
/-- A slice of whole numbers. -/
def RowI (w : World) (v : Value) (l : List Int) : Prop := ∃ A c, v = .slice A l.length c ∧ ListAt w 1 IntAt A l
theorem RowI.below {w w' : World} {v : Value} {l : List Int} (h : RowI w v l) (hb : Below w.heap.size w w') : RowI w' v l := by
  obtain ⟨A, c, e, h1⟩ := h
  exact ⟨A, c, e, h1.below hb fun _ _ _ h => h⟩
theorem RowI.nil (w : World) : RowI w (.slice none 0 0) [] := ⟨none, 0, rfl, ListAt.none _ _ _ _⟩
end Tr
end Go.Proofs.YtbeepedobnaojaaDoor

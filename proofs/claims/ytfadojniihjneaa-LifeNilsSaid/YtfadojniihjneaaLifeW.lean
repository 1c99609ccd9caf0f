/- Lifetimes in memory: a block with rows of bools behind it; how it stands when one bool, or what lies elsewhere, turns. -/
import Derived.Test.YtfadojniihjneaaBox
import Derived.Test.YtfadojniihjneaaLifeM
import Derived.Lib.Hide
namespace Go.Proofs.Ytfadojniihjneaa
open Go.RowKit Lf
theorem Is.ne {w : World} {b b' : Nat} {t t' : TypeId} {cs cs' : Array Value} (h : Is w b t cs) (h' : Is w b' t' cs') (hn : t ≠ t') : b ≠ b' := by
  rintro rfl
  unfold Is at h h'
  rw [h] at h'
  injection h' with h'
  injection h' with _ e
  exact hn e
structure LRel (w : World) (b b1 : Nat) (B K : Nat → Nat) (m : Nat) (M : R2) : Prop where
  pos : 0 < m
  few : m ≤ 301
  head : Is w b 54 #[.slice (some ⟨b1, 0, none⟩) m m]
  outer : ∃ cs, Is w b1 51 cs ∧ ∀ i, i < m → cs[i]? = some (.slice (some ⟨B i, 0, none⟩) m (K i))
  row : ∀ i, i < m → m ≤ K i ∧ ∃ cs, Is w (B i) 4 cs ∧ ∀ j, j < m → cs[j]? = some (.bool (M i j))
  apart : ∀ i j, i < m → j < m → B i = B j → i = j
namespace LRel
section
variable {w w' : World} {b b1 : Nat} {B K : Nat → Nat} {m : Nat} {M : R2}
theorem c0 (h : LRel w b b1 B K m M) : w.cell? ⟨b, 0, none⟩ = some (.slice (some ⟨b1, 0, none⟩) m m) := by rw [h.head.at_]; rfl
theorem c1 (h : LRel w b b1 B K m M) {i : Nat} (hi : i < m) : w.cell? ⟨b1, i, none⟩ = some (.slice (some ⟨B i, 0, none⟩) m (K i)) := by
  obtain ⟨cs, hc, hr⟩ := h.outer
  rw [hc.at_, hr i hi]
theorem c2 (h : LRel w b b1 B K m M) {i j : Nat} (hi : i < m) (hj : j < m) : w.cell? ⟨B i, j, none⟩ = some (.bool (M i j)) := by
  obtain ⟨_, cs, hc, hr⟩ := h.row i hi
  rw [hc.at_, hr j hj]
theorem f2 (h : LRel w b b1 B K m M) {i : Nat} (hi : i < m) (j : Nat) : w.frozen? ⟨B i, j, none⟩ = false := by
  obtain ⟨_, cs, hc, _⟩ := h.row i hi
  exact hc.free j
theorem lt (h : LRel w b b1 B K m M) : b < w.heap.size := h.head.lt
theorem lt1 (h : LRel w b b1 B K m M) : b1 < w.heap.size := by obtain ⟨_, hc, _⟩ := h.outer; exact hc.lt
theorem lt2 (h : LRel w b b1 B K m M) {i : Nat} (hi : i < m) : B i < w.heap.size := by obtain ⟨_, _, hc, _⟩ := h.row i hi; exact hc.lt
theorem ne0 (h : LRel w b b1 B K m M) {i : Nat} (hi : i < m) : b ≠ B i := by
  obtain ⟨_, _, hc, _⟩ := h.row i hi
  exact h.head.ne hc (by decide)
theorem ne1 (h : LRel w b b1 B K m M) {i : Nat} (hi : i < m) : b1 ≠ B i := by
  obtain ⟨_, _, hc, _⟩ := h.row i hi
  obtain ⟨_, hd, _⟩ := h.outer
  exact hd.ne hc (by decide)
theorem of (h : LRel w b b1 B K m M) (h0 : w'.heap[b]? = w.heap[b]?) (h1 : w'.heap[b1]? = w.heap[b1]?) (h2 : ∀ i, i < m → w'.heap[B i]? = w.heap[B i]?) : LRel w' b b1 B K m M := by
  obtain ⟨cs, hc, hr⟩ := h.outer
  refine ⟨h.pos, h.few, h.head.of h0, ⟨cs, hc.of h1, hr⟩, fun i hi => ?_, h.apart⟩
  obtain ⟨hk, cs, hc, hr⟩ := h.row i hi
  exact ⟨hk, cs, hc.of (h2 i hi), hr⟩
theorem congr (h : LRel w b b1 B K m M) {M' : R2} (hM : ∀ i j, i < m → j < m → M i j = M' i j) : LRel w b b1 B K m M' := by
  refine ⟨h.pos, h.few, h.head, h.outer, fun i hi => ?_, h.apart⟩
  obtain ⟨hk, cs, hc, hr⟩ := h.row i hi
  exact ⟨hk, cs, hc, fun j hj => by rw [hr j hj, hM i j hi hj]⟩
theorem below (h : LRel w b b1 B K m M) (hb : Below w.heap.size w w') : LRel w' b b1 B K m M :=
  h.of (hb.block _ h.lt) (hb.block _ h.lt1) fun _ hi => hb.block _ (h.lt2 hi)
theorem drewN (h : LRel w b b1 B K m M) (k : Nat) : LRel (w.drewN k) b b1 B K m M := h.of rfl rfl fun _ _ => rfl
end
end LRel
def upd (M : R2) (a c : Nat) (v : Bool) : R2 := fun i j => if i = a ∧ j = c then v else M i j
theorem LRel.put {w : World} {b b1 : Nat} {B K : Nat → Nat} {m : Nat} {M : R2} (h : LRel w b b1 B K m M) {a c : Nat} (ha : a < m) (hc : c < m) (v : Bool) :
    LRel (w.setCell ⟨B a, c, none⟩ (.bool v)) b b1 B K m (upd M a c v) := by
  obtain ⟨cs, hcs, hr⟩ := h.outer
  refine ⟨h.pos, h.few, h.head.aside (h.ne0 ha) _, ⟨cs, hcs.aside (h.ne1 ha) _, hr⟩, fun i hi => ?_, h.apart⟩
  obtain ⟨hk, cs, hcs, hr⟩ := h.row i hi
  by_cases hia : i = a
  · subst hia
    refine ⟨hk, _, hcs.put c (.bool v), fun j hj => ?_⟩
    unfold upd
    by_cases hjc : j = c
    · subst hjc
      have : j < cs.size := by
        have := hr j hj
        rw [Array.getElem?_eq_some_iff] at this
        exact this.1
      simp [Array.getElem?_setIfInBounds, this]
    · rw [if_neg (fun e => hjc e.2), Array.getElem?_setIfInBounds, if_neg (fun e => hjc e.symm), hr j hj]
  · refine ⟨hk, cs, hcs.aside (fun e => hia (h.apart i a hi ha e)) _, fun j hj => ?_⟩
    unfold upd
    rw [if_neg (fun e => hia e.1), hr j hj]
/-- w' is w, but for the blocks S: no new block, no other one written. -/
structure ButS (S : Nat → Prop) (w w' : World) : Prop where
  os : w'.os = w.os
  tape : w'.tape = w.tape
  output : w'.output = w.output
  size : w'.heap.size = w.heap.size
  block : ∀ k, ¬S k → w'.heap[k]? = w.heap[k]?
theorem ButS.refl (S : Nat → Prop) (w : World) : ButS S w w := ⟨rfl, rfl, rfl, rfl, fun _ _ => rfl⟩
theorem ButS.trans {S : Nat → Prop} {x y z : World} (h : ButS S x y) (k : ButS S y z) : ButS S x z :=
  ⟨k.os.trans h.os, k.tape.trans h.tape, k.output.trans h.output, k.size.trans h.size, fun i hi => (k.block i hi).trans (h.block i hi)⟩
theorem But.toS {b : Nat} {x y : World} (h : But b x y) {S : Nat → Prop} (hS : S b) : ButS S x y := ⟨h.os, h.tape, h.output, h.size, fun k hk => h.block k fun e => hk (e ▸ hS)⟩
theorem ButS.below {S : Nat → Prop} {A : Nat} {x y : World} (h : ButS S x y) (hB : ∀ k, S k → A ≤ k) : Below A x y := ⟨h.os, h.tape, h.output, Nat.le_of_eq h.size.symm, fun k hk => h.block k (fun e => by have := hB k e; omega)⟩
theorem LRel.but {w w' : World} {b b1 : Nat} {B K : Nat → Nat} {m : Nat} {M : R2} {c : Nat} (h : LRel w b b1 B K m M) (hb : But c w w') (h0 : b ≠ c) (h1 : b1 ≠ c) (h2 : ∀ i, i < m → B i ≠ c) : LRel w' b b1 B K m M :=
  h.of (hb.block _ h0) (hb.block _ h1) fun i hi => hb.block _ (h2 i hi)
/-- The rows' blocks. -/
def rowsOf (B : Nat → Nat) (m : Nat) : Nat → Prop := fun k => ∃ i, i < m ∧ k = B i
end Go.Proofs.Ytfadojniihjneaa

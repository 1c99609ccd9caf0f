/- What stands while a row that the call owns is appended to, and a variable that holds it is written. -/
import Derived.Test.YtbeepedobnaojaaDoorBox
import Derived.Test.YtbeepedobnaojaaDoorAppL
namespace Go.Proofs.YtbeepedobnaojaaDoor
open Go.RowKit Go.Deep
namespace Tr
/-- Stands: all below B, and all that is no row of elements te, but for block c. -/
structure Kp (te : TypeId) (c : Option Nat) (B : Nat) (W W' : World) : Prop where
  os : W'.os = W.os
  tape : W'.tape = W.tape
  output : W'.output = W.output
  size : W.heap.size ≤ W'.heap.size
  low : ∀ b, b < B → b < W.heap.size → some b ≠ c → W'.heap[b]? = W.heap[b]?
  high : ∀ b, b < W.heap.size → some b ≠ c → (∀ cs f, W.heap[b]? ≠ some (.cells cs te f)) → W'.heap[b]? = W.heap[b]?
section
variable {te : TypeId} {c : Option Nat} {B : Nat} {W W1 W2 : World}
theorem Kp.refl (te : TypeId) (c : Option Nat) (B : Nat) (W : World) : Kp te c B W W := ⟨rfl, rfl, rfl, Nat.le_refl _, fun _ _ _ _ => rfl, fun _ _ _ _ => rfl⟩
theorem Kp.trans (h : Kp te c B W W1) (k : Kp te c B W1 W2) : Kp te c B W W2 := by
  refine ⟨k.os.trans h.os, k.tape.trans h.tape, k.output.trans h.output, Nat.le_trans h.size k.size, fun b hb hl hc => ?_, fun b hl hc hn => ?_⟩
  · exact (k.low b hb (Nat.lt_of_lt_of_le hl h.size) hc).trans (h.low b hb hl hc)
  · have h1 := h.high b hl hc hn
    exact (k.high b (Nat.lt_of_lt_of_le hl h.size) hc (fun cs f => by rw [h1]; exact hn cs f)).trans h1
theorem Kp.of (h : Below W.heap.size W W1) : Kp te c B W W1 := ⟨h.os, h.tape, h.output, h.size, fun b _ hl _ => h.block b hl, fun b hl _ _ => h.block b hl⟩
theorem Kp.alloc (h : Kp te c B W W1) (o : Obj) : Kp te c B W (W1.alloc o) := h.trans (.of ((Below.refl _ _).alloc (Nat.le_refl _) o))
theorem Kp.drew (h : Kp te c B W W1) : Kp te c B W W1.drew := ⟨h.os, h.tape, h.output, h.size, h.low, h.high⟩
theorem Kp.drewN (h : Kp te c B W W1) (q : Nat) : Kp te c B W (W1.drewN q) := ⟨h.os, h.tape, h.output, h.size, h.low, h.high⟩
theorem Kp.any (h : Kp te none B W W1) : Kp te c B W W1 := ⟨h.os, h.tape, h.output, h.size, fun b hb hl _ => h.low b hb hl (by simp), fun b hl _ hn => h.high b hl (by simp) hn⟩
theorem Kp.is (h : Kp te c B W W1) {b : Nat} {t : TypeId} {cs : Array Value} (hi : Is W b t cs) (ht : t ≠ te) (hc : some b ≠ c) : Is W1 b t cs := by
  refine hi.of (h.high b hi.lt hc fun cs' f e => ?_)
  have hi' : W.heap[b]? = some (.cells cs t (0, 0)) := hi
  rw [hi'] at e
  injection e with e
  injection e with _ e _
  exact ht e
theorem Kp.below (h : Kp te c B W W1) {A : Nat} {w0 : World} (hb : Below A w0 W) (hA : A ≤ B) (hs : A ≤ W.heap.size) (hc : ∀ k, c = some k → A ≤ k) : Below A w0 W1 :=
  ⟨h.os.trans hb.os, h.tape.trans hb.tape, h.output.trans hb.output, Nat.le_trans hb.size h.size, fun b hbA => (h.low b (by omega) (by omega) (fun e => by have := hc b e.symm; omega)).trans (hb.block b hbA)⟩
theorem Kp.own {sz n : Nat} {v : Value} {xs : List Value} (ho : W.ownsRow B te sz v n xs) (hg : W.grownBy W1 v.ownBlock) : Kp te c B W W1 := by
  refine ⟨hg.os, hg.tape, hg.output, hg.size, fun b hb hl _ => hg.block b hl (fun e => ?_), fun b hl _ hn => hg.block b hl (fun e => ?_)⟩
  · have := (ho.lt b e.symm).1
    omega
  · rcases ho.2 with ⟨rfl, _⟩ | ⟨g, cap, cur, rfl, _, hh, _⟩
    · cases e
    · have e1 : b = g := by simpa [Value.ownBlock] using e
      subst e1
      exact hn cur (0, 0) hh
theorem Kp.put (h : Kp te c B W W1) {k : Nat} (hc : c = some k) (i : Nat) (u : Value) : Kp te c B W (W1.setCell ⟨k, i, none⟩ u) := by
  refine h.trans ⟨rfl, rfl, rfl, by simp [World.setCell], fun b _ _ hb => Below.heap_setCell _ _ _ _ (fun e => hb (by rw [hc, e])), fun b _ hb _ => Below.heap_setCell _ _ _ _ (fun e => hb (by rw [hc, e]))⟩
end
/-- The variable at block c holds an owned row. -/
structure Acc (tv te sz : Nat) (W : World) (c B : Nat) (v : Value) (n : Nat) (xs : List Value) : Prop where
  cell : Is W c tv #[v]
  own : W.ownsRow B te sz v n xs
  lt : c < B
  le : B ≤ W.heap.size
  ne : te ≠ tv
section
variable {tv te sz : Nat} {c B n : Nat} {W W1 : World} {v : Value} {xs : List Value}
theorem Acc.alloc (h : Acc tv te sz W c B v n xs) (o : Obj) : Acc tv te sz (W.alloc o) c B v n xs := ⟨h.cell.alloc o, h.own.alloc o, h.lt, by have := h.le; simp; omega, h.ne⟩
theorem Acc.drew (h : Acc tv te sz W c B v n xs) : Acc tv te sz W.drew c B v n xs := ⟨h.cell.drew, h.own.drew, h.lt, h.le, h.ne⟩
theorem Acc.below (h : Acc tv te sz W c B v n xs) (hb : Below W.heap.size W W1) : Acc tv te sz W1 c B v n xs :=
  ⟨h.cell.below hb h.cell.lt, own_below h.own hb, h.lt, Nat.le_trans h.le hb.size, h.ne⟩
/-- The row has been appended to; the variable is written. -/
theorem Acc.done {W2 : World} {n' : Nat} {v' : Value} {ys : List Value} (h : Acc tv te sz W c B v n xs) (k : Kp te (some c) B W W2) (hc : Is W2 c tv #[v]) (ho : W2.ownsRow B te sz v' n' ys) :
    Acc tv te sz (W2.setCell ⟨c, 0, none⟩ v') c B v' n' ys ∧ Kp te (some c) B W (W2.setCell ⟨c, 0, none⟩ v') :=
  ⟨⟨hc.put 0 v', own_but ho ((But.refl c W2).put 0 v') hc h.ne, h.lt, by have := h.le; have := k.size; simp [World.setCell]; omega, h.ne⟩, k.put rfl 0 v'⟩
end
theorem cell_set_far {w : World} {p a : Addr} {u v : Value} (h : w.cell? p = some u) (hne : p.block ≠ a.block) : (w.setCell a v).cell? p = some u := by
  rw [← h]
  unfold World.cell?
  rw [Below.heap_setCell w a v p.block hne]
/-- What a row of whole numbers holds, as cells. -/
def intsC (l : List Int) : List Value := l.map (Value.int .i64)
theorem intsC_length (l : List Int) : (intsC l).length = l.length := by simp [intsC]
theorem intsC_append (l m : List Int) : intsC (l ++ m) = intsC l ++ intsC m := by simp [intsC]
theorem intsC_one (l : List Int) : ∀ u ∈ intsC l, u.oneCell' = true := by
  intro u hu
  obtain ⟨x, _, rfl⟩ := List.mem_map.1 hu
  rfl
theorem rowI_cells {w : World} {v : Value} {l : List Int} (h : RowI w v l) : ∃ A c, v = .slice A l.length c ∧ RowAt w A (intsC l) ∧ (A = none → l.length = 0) := by
  obtain ⟨A, c, e, hA⟩ := h
  have hr : RowAt w A (intsC l) := fun h0 => by
    rw [intsC_length] at h0
    obtain ⟨bk, o, rfl, hl, _⟩ := int_at hA h0
    refine ⟨bk, o, rfl, hl, fun i u hu => ?_⟩
    unfold intsC at hu
    rw [List.getElem?_map] at hu
    obtain ⟨x, hx, rfl⟩ := Option.map_eq_some_iff.1 hu
    obtain ⟨hi, rfl⟩ := List.getElem?_eq_some_iff.1 hx
    obtain ⟨bk', o', e', _, hc⟩ := int_at hA hi
    injection e' with e'
    injection e' with e1 e2
    subst e1 e2
    exact hc
  refine ⟨A, c, e, hr, fun e0 => ?_⟩
  subst e0
  have := hr.nil
  rw [← intsC_length, this]
  rfl
theorem rowI_mk {w : World} {A : Option Addr} {c : Nat} {l : List Int} (hr : RowAt w A (intsC l)) (hl : l.length ≤ maxLen) : RowI w (.slice A l.length c) l := by
  refine ⟨A, c, rfl, intsC l, ⟨by rw [intsC_length, Nat.mul_one], hl⟩, ⟨hr, intsC_one l⟩, fun i hi => ?_⟩
  unfold IntAt intsC
  rw [Nat.mul_one, ← List.map_drop, ← List.map_take, List.drop_eq_getElem_cons hi]
  rfl
theorem rowI_own {w : World} {base n : Nat} {v : Value} {l : List Int} {te : TypeId} (h : w.ownsRow base te 1 v n (intsC l)) : RowI w v l ∧ n = l.length := by
  have hn : n = l.length := by have := h.1; rw [intsC_length, Nat.mul_one] at this; exact this.symm
  subst hn
  obtain ⟨A, c, rfl, _⟩ := own_slice h
  refine ⟨rowI_mk (own_row h) ?_, rfl⟩
  rcases h.2 with ⟨_, h0⟩ | ⟨_, _, _, _, _, _, h2, h3, _⟩
  · rw [h0]; exact Nat.zero_le _
  · omega
end Tr
end Go.Proofs.YtbeepedobnaojaaDoor

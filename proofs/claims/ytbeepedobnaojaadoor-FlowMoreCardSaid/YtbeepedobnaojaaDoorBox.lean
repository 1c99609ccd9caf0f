/- A block that a call made, known whole; what stands elsewhere stays. -/
import Derived.WalkKit
import Derived.Deep.Draws
import Derived.Maps.AppendAt
namespace Go.Proofs.YtbeepedobnaojaaDoor
open Go.RowKit
/-- Block b is just these cells, of this type, none frozen. -/
def Is (w : World) (b : Nat) (t : TypeId) (cs : Array Value) : Prop := w.heap[b]? = some (.cells cs t (0, 0))
section
variable {w w' : World} {b : Nat} {t : TypeId} {cs : Array Value}
theorem Is.lt (h : Is w b t cs) : b < w.heap.size := lt_of_block h
theorem Is.at_ (h : Is w b t cs) (i : Nat) : w.cell? ⟨b, i, none⟩ = cs[i]? := by
  unfold Is at h
  simp [World.cell?, h]
theorem Is.free (h : Is w b t cs) (i : Nat) : w.frozen? ⟨b, i, none⟩ = false := by
  unfold Is at h
  simp [World.frozen?, h]
theorem Is.made (w : World) (t : TypeId) (cs : Array Value) : Is (w.alloc (.cells cs t)) w.heap.size t cs := heap_alloc_new w _
theorem Is.of (h : Is w b t cs) (he : w'.heap[b]? = w.heap[b]?) : Is w' b t cs := he.trans h
theorem Is.alloc (h : Is w b t cs) (o : Obj) : Is (w.alloc o) b t cs := h.of (Below.heap_alloc w o b h.lt)
theorem Is.drew (h : Is w b t cs) : Is w.drew b t cs := h
theorem Is.drewN (h : Is w b t cs) (k : Nat) : Is (w.drewN k) b t cs := h
theorem Is.put (h : Is w b t cs) (i : Nat) (u : Value) : Is (w.setCell ⟨b, i, none⟩ u) b t (cs.setIfInBounds i u) := by
  unfold Is at h ⊢
  simp [World.setCell, Array.getElem?_modify, h]
theorem Is.aside (h : Is w b t cs) {p : Addr} (hp : b ≠ p.block) (u : Value) : Is (w.setCell p u) b t cs := h.of (Below.heap_setCell w p u b hp)
theorem Is.below {B : Nat} (h : Is w b t cs) (hb : Below B w w') (hB : b < B) : Is w' b t cs := h.of (hb.block b hB)
end
/-- w' is w, but for block b: no new block, no other one written. -/
structure But (b : Nat) (w w' : World) : Prop where
  os : w'.os = w.os
  tape : w'.tape = w.tape
  output : w'.output = w.output
  size : w'.heap.size = w.heap.size
  block : ∀ k, k ≠ b → w'.heap[k]? = w.heap[k]?
theorem But.refl (b : Nat) (w : World) : But b w w := ⟨rfl, rfl, rfl, rfl, fun _ _ => rfl⟩
theorem But.trans {b : Nat} {x y z : World} (h : But b x y) (k : But b y z) : But b x z :=
  ⟨k.os.trans h.os, k.tape.trans h.tape, k.output.trans h.output, k.size.trans h.size, fun i hi => (k.block i hi).trans (h.block i hi)⟩
theorem But.put {b : Nat} {x y : World} (h : But b x y) (i : Nat) (u : Value) : But b x (y.setCell ⟨b, i, none⟩ u) :=
  h.trans ⟨rfl, rfl, rfl, by simp [World.setCell], fun k hk => Below.heap_setCell _ _ _ _ hk⟩
theorem But.drew {b : Nat} {x y : World} (h : But b x y) : But b x y.drew := ⟨h.os, h.tape, h.output, h.size, h.block⟩
theorem But.drewN {b : Nat} {x y : World} (h : But b x y) (k : Nat) : But b x (y.drewN k) := ⟨h.os, h.tape, h.output, h.size, h.block⟩
theorem But.below {b B : Nat} {x y : World} (h : But b x y) (hB : B ≤ b) : Below B x y := ⟨h.os, h.tape, h.output, Nat.le_of_eq h.size.symm, fun k hk => h.block k (by omega)⟩
theorem But.is {b c : Nat} {x y : World} {t : TypeId} {cs : Array Value} (h : But b x y) (hi : Is x c t cs) (hc : c ≠ b) : Is y c t cs := hi.of (h.block c hc)
theorem But.grown {b : Nat} {x y : World} (h : But b x y) : x.grownBy y (some b) :=
  ⟨h.os, h.tape, h.output, Nat.le_of_eq h.size.symm, fun k _ hk => h.block k (fun e => hk (by rw [e]))⟩
theorem own_ne {w : World} {base : Nat} {e t : TypeId} {size n b : Nat} {v : Value} {xs : List Value} {cs : Array Value} (h : w.ownsRow base e size v n xs) (hi : Is w b t cs) (hne : e ≠ t) : v.ownBlock ≠ some b := by
  rcases h.2 with ⟨rfl, _⟩ | ⟨g, cap, cur, rfl, _, hh, _⟩
  · simp [Value.ownBlock]
  · intro he
    have e1 : g = b := by simpa [Value.ownBlock] using he
    subst e1
    have hi' : w.heap[g]? = some (.cells cs t (0, 0)) := hi
    rw [hh] at hi'
    injection hi' with hi'
    injection hi' with _ ht
    exact hne ht
theorem Is.grown {w w' : World} {b : Nat} {t : TypeId} {cs : Array Value} {row : Option Nat} (h : Is w b t cs) (hg : w.grownBy w' row) (hr : some b ≠ row) : Is w' b t cs := h.of (hg.block b h.lt hr)
theorem own_but {w w' : World} {base b : Nat} {e t : TypeId} {size n : Nat} {v : Value} {xs : List Value} {cs : Array Value} (h : w.ownsRow base e size v n xs) (hb : But b w w') (hi : Is w b t cs) (hne : e ≠ t) : w'.ownsRow base e size v n xs :=
  h.kept hb.grown (.inr (own_ne h hi hne))
theorem own_below {w w' : World} {base : Nat} {e : TypeId} {size n : Nat} {v : Value} {xs : List Value} (h : w.ownsRow base e size v n xs) (hb : Below w.heap.size w w') : w'.ownsRow base e size v n xs :=
  h.kept ⟨hb.os, hb.tape, hb.output, hb.size, fun k hk _ => hb.block k hk⟩ (row := none) (by
    rcases h.2 with ⟨rfl, _⟩ | ⟨g, cap, cur, rfl, _⟩
    · exact .inl rfl
    · exact .inr (by simp [Value.ownBlock]))
theorem cells_made (w : World) (t : TypeId) (l : List Value) : ∀ (j : Nat) u, l[j]? = some u → (w.alloc (.cells l.toArray t)).cell? ((⟨w.heap.size, 0, none⟩ : Addr).add j) = some u := by
  intro j u h
  rw [show (⟨w.heap.size, 0, none⟩ : Addr).add j = ⟨w.heap.size, j, none⟩ from by unfold Addr.add; split <;> simp_all]
  rw [(Is.made w t l.toArray).at_ j, List.getElem?_toArray, h]
theorem Is.on {w w1 w2 : World} {b base : Nat} {t e : TypeId} {cs : Array Value} {o : Obj} {v : Value} {size n : Nat} {xs : List Value} (h : Is w b t cs) (hown : w.ownsRow base e size v n xs) (hne : e ≠ t)
    (hw : w.alloc o = w1) (hg : w1.grownBy w2 v.ownBlock) : Is w2 b t cs := by
  subst hw
  exact (h.alloc o).grown hg (fun e => own_ne hown h hne e.symm)
theorem below_on {w w1 : World} {B base : Nat} {a : World} {e : TypeId} {o : Obj} {v : Value} {size n : Nat} {xs : List Value} (h : Below B a w) (hown : w.ownsRow base e size v n xs) (hB : B ≤ base) (hs : B ≤ w.heap.size)
    (hg : (w.alloc o).grownBy w1 v.ownBlock) : Below B a w1 :=
  (h.alloc hs o).grown hg (by simp; omega) (fun k hk => Nat.le_trans hB (hown.lt k hk).1)
theorem cells_made2 (w : World) (o : Obj) (t : TypeId) (l : List Value) : ∀ (j : Nat) u, l[j]? = some u → ((w.alloc o).alloc (.cells l.toArray t)).cell? ((⟨w.heap.size + 1, 0, none⟩ : Addr).add j) = some u := by
  have h := cells_made (w.alloc o) t l
  rw [show (w.alloc o).heap.size = w.heap.size + 1 from by simp] at h
  exact h
theorem fresh_on {w2 w3 : World} {base : Nat} {t e : TypeId} {cs : Array Value} {o : Obj} {v : Value} {size n : Nat} {xs : List Value} (hown : w2.ownsRow base e size v n xs)
    (hg : ((w2.alloc (.cells cs t)).alloc o).grownBy w3 v.ownBlock) : Is w3 w2.heap.size t cs :=
  ((Is.made w2 t cs).alloc o).grown hg (fun h => by have := (hown.lt _ h.symm).2; omega)
end Go.Proofs.YtbeepedobnaojaaDoor

/- The law's own 'both': lifetimes with pairs, by the program and by the document: plain facts. -/
import Derived.Deep.AppendLies
import Derived.Test.YtfadojniihjneaaLifeN
import Derived.Test.YtfadojniihjneaaLifeR
namespace Go.Proofs.Ytfadojniihjneaa
open Go.RowKit Lf Go.Deep
theorem info_two : (Try.prog.info? 40).map (fun i => (i.zero, i.size, i.bytes)) = some (some (.agg #[.int .i64 0, .int .i64 0]), 2, 16) := by kernel_rfl
def okP (m : Nat) (p : Int × Int) : Bool := decide (0 ≤ p.1) && decide (p.1 < (m : Int)) && decide (0 ≤ p.2) && decide (p.2 < (m : Int))
def vp (m : Nat) (L : List (Int × Int)) : List (Nat × Nat) := (L.filter (okP m)).map fun p => (p.1.toNat, p.2.toNat)
theorem vp_bad {m : Nat} {L : List (Int × Int)} {x y : Int} (h : Bad m x ∨ Bad m y) : vp m (L ++ [(x, y)]) = vp m L := by
  unfold vp
  rw [List.filter_append]
  have : List.filter (okP m) [(x, y)] = [] := by
    unfold Bad at h
    simp [okP]
    omega
  rw [this, List.append_nil]
theorem vp_good {m : Nat} {L : List (Int × Int)} {x y : Nat} (hx : x < m) (hy : y < m) : vp m (L ++ [((x : Int), (y : Int))]) = vp m L ++ [(x, y)] := by
  unfold vp
  rw [List.filter_append]
  have : List.filter (okP m) [((x : Int), (y : Int))] = [((x : Int), (y : Int))] := by
    simp [okP, hx, hy]
  rw [this, List.map_append]
  rfl
theorem vp_fits {m : Nat} {L : List (Int × Int)} : ∀ p ∈ vp m L, p.1 < m ∧ p.2 < m := by
  intro p hp
  unfold vp at hp
  obtain ⟨q, hq, rfl⟩ := List.mem_map.1 hp
  have := (List.mem_filter.1 hq).2
  simp [okP] at this
  show q.1.toNat < m ∧ q.2.toNat < m
  omega
theorem vp_length (m : Nat) (L : List (Int × Int)) : (vp m L).length ≤ L.length := by
  unfold vp
  rw [List.length_map]
  exact List.length_filter_le _ _
def pairC : List (Nat × Nat) → List Value
  | [] => []
  | p :: P => .int .i64 (p.1 : Int) :: .int .i64 (p.2 : Int) :: pairC P
theorem pairC_append (P : List (Nat × Nat)) (x y : Nat) : pairC (P ++ [(x, y)]) = pairC P ++ [.int .i64 (x : Int), .int .i64 (y : Int)] := by
  induction P with
  | nil => rfl
  | cons p P ih => simp only [List.cons_append, pairC, ih]
theorem pairC_at : ∀ (P : List (Nat × Nat)) (i : Nat) (h : i < P.length), (pairC P)[i * 2]? = some (.int .i64 (P[i].1 : Int)) ∧ (pairC P)[i * 2 + 1]? = some (.int .i64 (P[i].2 : Int))
  | [], i, h => by cases h
  | p :: P, 0, _ => ⟨rfl, rfl⟩
  | p :: P, i + 1, h => by
    have := pairC_at P i (by simpa using h)
    rw [show (i + 1) * 2 = i * 2 + 1 + 1 by omega]
    simpa [pairC] using this
theorem own_slice {w : World} {base : Nat} {e : TypeId} {size n : Nat} {v : Value} {xs : List Value} (h : w.ownsRow base e size v n xs) : ∃ A cap, v = .slice A n cap := by
  rcases h.2 with ⟨rfl, h0⟩ | ⟨g, cap, _, rfl, _⟩
  · exact ⟨none, 0, by rw [h0]⟩
  · exact ⟨_, cap, rfl⟩
theorem own_of_block {w w' : World} {base : Nat} {e : TypeId} {size n : Nat} {v : Value} {xs : List Value} (h : w.ownsRow base e size v n xs) (hb : ∀ g, v.ownBlock = some g → w'.heap[g]? = w.heap[g]?) : w'.ownsRow base e size v n xs := by
  refine ⟨h.1, ?_⟩
  rcases h.2 with h0 | ⟨g, cap, cur, rfl, h1, h2, h3⟩
  · exact .inl h0
  · exact .inr ⟨g, cap, cur, rfl, h1, (hb g rfl).trans h2, h3⟩
theorem own_pairs {w : World} {base : Nat} {A : Option Addr} {n cap : Nat} {P : List (Nat × Nat)} (h : w.ownsRow base 40 2 (.slice A n cap) n (pairC P)) (hP : P.length = n) : PAt w A (ints P) := fun h0 => by
  rw [ints_length] at h0
  obtain ⟨g, cp, hv, _, hl⟩ := h.form (by omega)
  injection hv with hA
  subst hA
  have hc := h.cells (g := g) rfl
  refine ⟨g, 0, rfl, hl, fun i hi => ?_⟩
  have hi' : i < P.length := by rw [ints_length] at hi; exact hi
  obtain ⟨a, b⟩ := pairC_at P i hi'
  have e1 := hc _ _ a
  have e2 := hc _ _ b
  rw [show (⟨g, 0, none⟩ : Addr).add (i * 2) = ⟨g, 0 + i * 2, none⟩ from by unfold Addr.add; split <;> simp_all] at e1
  rw [show (⟨g, 0, none⟩ : Addr).add (i * 2 + 1) = ⟨g, 0 + i * 2 + 1, none⟩ from by unfold Addr.add; split <;> simp_all [Nat.add_assoc]] at e2
  exact ⟨by simpa [ints] using e1, by simpa [ints] using e2⟩
section
variable {w w2 w3 : World} {b b1 H c n n' : Nat} {B K : Nat → Nat} {m : Nat} {M : R2} {v v' N : Value} {xs ys : List Value} {o : Obj}
theorem own_blk {base : Nat} {e : TypeId} {size : Nat} (h : w.ownsRow base e size v n xs) {b : Nat} {t : TypeId} {cs : Array Value} (hi : Is w b t cs) (hne : e ≠ t) (hg : (w.alloc o).grownBy w3 v.ownBlock) : w3.heap[b]? = w.heap[b]? :=
  (hg.block b (by have := hi.lt; simp; omega) (fun e => own_ne h hi hne e.symm)).trans (Below.heap_alloc w o b hi.lt)
theorem LRel.grown (h : LRel w2 b b1 B K m M) (ho : w2.ownsRow H 40 2 v n xs) (hg : (w2.alloc o).grownBy w3 v.ownBlock) : LRel w3 b b1 B K m M := by
  refine h.of (own_blk ho h.head (by decide) hg) ?_ fun i hi => ?_
  · obtain ⟨_, hc, _⟩ := h.outer
    exact own_blk ho hc (by decide) hg
  · obtain ⟨_, _, hc, _⟩ := h.row i hi
    exact own_blk ho hc (by decide) hg
theorem LRel.aside (h : LRel w2 b b1 B K m M) {cs : Array Value} (hc : Is w2 c 49 cs) (i : Nat) (u : Value) : LRel (w2.setCell ⟨c, i, none⟩ u) b b1 B K m M := by
  refine h.but ((But.refl c w2).put i u) (h.head.ne hc (by decide)) ?_ fun i hi => ?_
  · obtain ⟨_, hd, _⟩ := h.outer
    exact hd.ne hc (by decide)
  · obtain ⟨_, _, hd, _⟩ := h.row i hi
    exact hd.ne hc (by decide)
/-- While 'both' adds. -/
structure Both (w0 w : World) (H c m : Nat) (N v : Value) (P : List (Nat × Nat)) : Prop where
  rel : LRel w (H + 1) H (fun i => H + 2 + i) (fun _ => m) m (all stat P)
  head : Is w c 49 #[N, v]
  own : w.ownsRow H 40 2 v P.length (pairC P)
  since : Below H w0 w
  fresh : H ≤ c
theorem Both.added {P : List (Nat × Nat)} {p : Nat × Nat} (h : Both w w2 H c m N v P) (hr : LRel w3 (H + 1) H (fun i => H + 2 + i) (fun _ => m) m (plus (all stat P) p.1 p.2)) (hb : ButS (rowsOf (fun i => H + 2 + i) m) w2 w3) :
    LRel w3 (H + 1) H (fun i => H + 2 + i) (fun _ => m) m (all stat (P ++ [p])) ∧ Is w3 c 49 #[N, v] ∧ w3.ownsRow H 40 2 v P.length (pairC P) ∧ Below H w w3 := by
  have hn : ∀ {k t cs}, Is w2 k t cs → 4 ≠ t → ¬rowsOf (fun i => H + 2 + i) m k := by
    rintro k t cs hk hne ⟨i, hi, rfl⟩
    obtain ⟨_, _, hc, _⟩ := h.rel.row i hi
    exact hc.ne hk hne rfl
  refine ⟨by rw [all_snoc]; exact hr, h.head.of (hb.block _ (hn h.head (by decide))), own_of_block h.own fun g hg => hb.block g ?_, h.since.trans (hb.below (by rintro k ⟨i, hi, rfl⟩; show H ≤ H + 2 + i; omega))⟩
  rcases h.own.2 with ⟨rfl, _⟩ | ⟨g', cap, cur, rfl, _, hh, _⟩
  · cases hg
  · have : g' = g := by simpa [Value.ownBlock] using hg
    subst this
    exact hn (t := 40) (cs := cur) hh (by decide)
theorem both_step {P : List (Nat × Nat)} (hr : LRel w2 (H + 1) H (fun i => H + 2 + i) (fun _ => m) m (all stat P)) (hi : Is w2 c 49 #[N, v]) (ho : w2.ownsRow H 40 2 v n xs) (hb : Below H w w2) (hc : H ≤ c) (hs : H ≤ w2.heap.size)
    (hg : (w2.alloc o).grownBy w3 v.ownBlock) (h1 : w3.ownsRow H 40 2 v' n' ys) (hP : P.length = n') (hy : ys = pairC P) : Both w (w3.setCell ⟨c, 1, none⟩ v') H c m N v' P := by
  have hi3 : Is w3 c 49 #[N, v] := hi.of (own_blk ho hi (by decide) hg)
  subst hP hy
  exact ⟨(hr.grown ho hg).aside hi3 1 v', hi3.put 1 v', own_but h1 ((But.refl c w3).put 1 v') hi3 (by decide), (below_on hb ho (Nat.le_refl _) hs hg).setCell hc _, hc⟩
theorem Both.rrel {P : List (Nat × Nat)} {A : Option Addr} {cap : Nat} {a : Int} (h : Both w w2 H c m (.int .i64 a) (.slice A P.length cap) P) (ha : a + 1 = (m : Int)) (hp : 0 < m) (hf : m ≤ 301) (hs : P.length ≤ 1000) (hfit : ∀ p ∈ P, p.1 < m ∧ p.2 < m) : RRel w2 c a m A cap P :=
  ⟨ha, hp, hf, hs, h.head, own_pairs h.own rfl, hfit⟩
end
end Go.Proofs.Ytfadojniihjneaa

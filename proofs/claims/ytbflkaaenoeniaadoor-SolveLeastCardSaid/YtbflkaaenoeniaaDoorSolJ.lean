/- What a solver was told: pairs that are owned beside it: plain facts and facts of memory. -/
import Derived.Deep.AppendLies
import Derived.Test.YtbflkaaenoeniaaDoorSolI
namespace Go.Proofs.YtbflkaaenoeniaaDoor
open Go.RowKit Lf Go.Deep
namespace Sv
abbrev Opn := Bool × Int × Int
/-- What one thing that is told adds to the pairs that outlive. -/
def out1 (n : Nat) (o : Opn) : List (Nat × Nat) := if !o.1 && inB n o.2.1 && inB n o.2.2 then [(o.2.1.toNat, o.2.2.toNat)] else []
/-- What one thing that is told adds to what was put. -/
def put1 (n m : Nat) (o : Opn) : List (Nat × Nat) := if o.1 && inB n o.2.1 && inB m o.2.2 then [(o.2.1.toNat, o.2.2.toNat)] else []
def outs (n : Nat) (L : List Opn) : List (Nat × Nat) := L.flatMap (out1 n)
def puts (n m : Nat) (L : List Opn) : List (Nat × Nat) := L.flatMap (put1 n m)
theorem outs_take {n : Nat} {L : List Opn} {k : Nat} (h : k < L.length) : outs n (L.take (k + 1)) = outs n (L.take k) ++ out1 n L[k] := by
  unfold outs
  rw [List.take_succ_eq_append_getElem h, List.flatMap_append]
  simp
theorem puts_take {n m : Nat} {L : List Opn} {k : Nat} (h : k < L.length) : puts n m (L.take (k + 1)) = puts n m (L.take k) ++ put1 n m L[k] := by
  unfold puts
  rw [List.take_succ_eq_append_getElem h, List.flatMap_append]
  simp
theorem outs_fit {n : Nat} {L : List Opn} : ∀ p ∈ outs n L, p.1 < n ∧ p.2 < n := by
  intro p hp
  obtain ⟨⟨q, x, y⟩, _, h⟩ := List.mem_flatMap.1 hp
  unfold out1 at h
  split at h
  · rename_i hc
    simp [inB] at hc h
    subst h
    show x.toNat < n ∧ y.toNat < n
    omega
  · cases h
theorem puts_fit {n m : Nat} {L : List Opn} : ∀ p ∈ puts n m L, p.1 < n := by
  intro p hp
  obtain ⟨⟨q, x, y⟩, _, h⟩ := List.mem_flatMap.1 hp
  unfold put1 at h
  split at h
  · rename_i hc
    simp [inB] at hc h
    subst h
    show x.toNat < n
    omega
  · cases h
theorem out1_len (n : Nat) (o : Opn) : (out1 n o).length ≤ 1 := by
  unfold out1; split <;> simp
theorem put1_len (n m : Nat) (o : Opn) : (put1 n m o).length ≤ 1 := by
  unfold put1; split <;> simp
theorem flat_len {α β : Type} (f : α → List β) (h : ∀ x, (f x).length ≤ 1) : ∀ L : List α, (L.flatMap f).length ≤ L.length
  | [] => Nat.le_refl _
  | x :: L => by
    rw [List.flatMap_cons, List.length_append, List.length_cons]
    have := h x
    have := flat_len f h L
    omega
theorem outs_len (n : Nat) (L : List Opn) : (outs n L).length ≤ L.length := flat_len _ (out1_len n) L
theorem puts_len (n m : Nat) (L : List Opn) : (puts n m L).length ≤ L.length := flat_len _ (put1_len n m) L
theorem inn_put (P : List (Nat × Nat)) (M : R2) (r e : Nat) : gput M (inn P M) r e = inn (P ++ [(r, e)]) M := by
  funext e' r'
  unfold gput inn
  rw [List.any_append]
  simp [Bool.beq_comm]
theorem inn_out : ∀ (P : List (Nat × Nat)) (M : R2) (a b : Nat), gout M (inn P M) a b = inn P (plus M a b)
  | [], M, a, b => by funext e r; simp [gout, inn]
  | p :: P, M, a, b => by
    funext e r
    have := congrFun (congrFun (inn_out P M a b) e) r
    unfold gout inn at this ⊢
    rw [List.any_cons, List.any_cons, List.any_cons, ← this]
    unfold plus
    cases p.2 == e <;> cases M r p.1 <;> cases M r a <;> cases M b p.1 <;> simp
def TwoAt (o : Int × Int) (cs : List Value) : Prop := cs = [.int .i64 o.1, .int .i64 o.2]
def OpAt (o : Opn) (cs : List Value) : Prop := cs = [.bool o.1, .int .i64 o.2.1, .int .i64 o.2.2]
section
variable {w w' : World} {b b1 b2 : Nat} {O I : Nat → Nat} {n m : Nat} {X Y : Nat → Nat} {M : R2} {G : Nat → Nat → Bool} {S : Nat → Prop}
theorem own_is {base size k g : Nat} {e : TypeId} {v : Value} {xs : List Value} (h : w.ownsRow base e size v k xs) (hg : v.ownBlock = some g) : ∃ cs, Is w g e cs := by
  rcases h.2 with ⟨rfl, _⟩ | ⟨g', cap, cur, rfl, _, hh, _⟩
  · cases hg
  · have e1 : g' = g := by simpa [Value.ownBlock] using hg
    subst e1
    exact ⟨cur, hh⟩
theorem Sol.mod (h : Sol w b b1 b2 O I n m X Y) (hm : Mod S w w') (h0 : ¬S 0) (hS : ∀ k, S k → ∃ cs, Is w k 40 cs) : Sol w' b b1 b2 O I n m X Y := by
  have key : ∀ {k : Nat} {t : TypeId} {cs : Array Value}, Is w k t cs → t ≠ 40 → w'.heap[k]? = w.heap[k]? := fun hi ht => hm.block _ hi.lt fun hs => by
    obtain ⟨cs', hi'⟩ := hS _ hs
    exact is_ne hi hi' ht rfl
  obtain ⟨c1, o1, _⟩ := h.over
  obtain ⟨c2, i1, _⟩ := h.inn
  exact h.of (h.tab.mod hm h0) (key h.head (by decide)) (key o1 (by decide)) (key i1 (by decide)) (fun i hi => key (h.orow i hi) (by decide)) (fun i hi => key (h.irow i hi) (by decide))
theorem Knows.mod (h : Knows w b b1 b2 O I n m M G) (hm : Mod S w w') (h0 : ¬S 0) (hS : ∀ k, S k → ∃ cs, Is w k 40 cs) : Knows w' b b1 b2 O I n m M G := by
  obtain ⟨X, Y, hs, h1, h2⟩ := h.sol
  exact ⟨⟨X, Y, hs.mod hm h0 hS, h1, h2⟩, h.closed⟩
theorem Knows.tab (h : Knows w b b1 b2 O I n m M G) : TabAt w := by
  obtain ⟨X, Y, hs, h1, h2⟩ := h.sol
  exact hs.tab
theorem Knows.word (h : Knows w b b1 b2 O I n m M G) {k : Nat} (hk : Rw O I n m k) : ∃ x : Int, Is w k 36 #[.int .u64 x] := by
  obtain ⟨X, Y, hs, _⟩ := h.sol
  rcases hk with ⟨i, hi, rfl⟩ | ⟨i, hi, rfl⟩
  · exact ⟨_, hs.orow i hi⟩
  · exact ⟨_, hs.irow i hi⟩
end
/-- A solver that was told some things, with the pairs that were laid beside it. -/
structure Td (w0 w : World) (b n m : Nat) (L : List Opn) (vo vp : Value) : Prop where
  head : Head w b n m
  high : w0.heap.size ≤ b
  since : Below w0.heap.size w0 w
  own1 : w.ownsRow w0.heap.size 40 2 vo (outs n L).length (pairC (outs n L))
  own2 : w.ownsRow w0.heap.size 40 2 vp (puts n m L).length (pairC (puts n m L))
  apart : ∀ g, vo.ownBlock = some g → vp.ownBlock ≠ some g
  knows : 0 < n → ∃ b1 b2 O I, Knows w b b1 b2 O I n m (all eqR (outs n L)) (inn (puts n m L) (all eqR (outs n L))) ∧ ∀ k, Rw O I n m k → w0.heap.size ≤ k
section
variable {w0 w w1 w2 w3 : World} {b n m : Nat} {L : List Opn} {vo vp : Value}
theorem Head.below {w w' : World} {b n m : Nat} (h : Head w b n m) (hb : Below w.heap.size w w') : Head w' b n m := by
  obtain ⟨A1, A2, h⟩ := h
  exact ⟨A1, A2, h.below hb h.lt⟩
theorem Td.alloc (h : Td w0 w b n m L vo vp) (o : Obj) : Td w0 (w.alloc o) b n m L vo vp := by
  have hb : Below w.heap.size w (w.alloc o) := (Below.refl _ _).alloc (Nat.le_refl _) _
  refine ⟨h.head.below hb, h.high, h.since.alloc h.since.size _, h.own1.alloc _, h.own2.alloc _, h.apart, fun h0 => ?_⟩
  obtain ⟨b1, b2, O, I, hk, hr⟩ := h.knows h0
  exact ⟨b1, b2, O, I, hk.below hb, hr⟩
theorem Td.start (hT : TabAt w0) (h : Made w0 w b n m) : Td w0 w b n m [] (.slice none 0 0) (.slice none 0 0) := by
  refine ⟨h.head, h.high, h.since, ⟨rfl, .inl ⟨rfl, rfl⟩⟩, ⟨rfl, .inl ⟨rfl, rfl⟩⟩, fun g hg => (by cases hg), fun h0 => ?_⟩
  obtain ⟨b1, b2, O, I, hk, hr⟩ := h.knows hT h0
  refine ⟨b1, b2, O, I, ?_, hr⟩
  have e : inn (puts n m []) (all eqR (outs n [])) = fun _ _ => false := by funext e r; rfl
  rw [e]
  exact hk
/-- What was told turned nothing. -/
theorem Td.same (h : Td w0 w b n m L vo vp) {o : Opn} (h1 : out1 n o = []) (h2 : put1 n m o = []) : Td w0 w b n m (L ++ [o]) vo vp := by
  have e1 : outs n (L ++ [o]) = outs n L := by unfold outs; rw [List.flatMap_append]; simp [h1]
  have e2 : puts n m (L ++ [o]) = puts n m L := by unfold puts; rw [List.flatMap_append]; simp [h2]
  exact ⟨h.head, h.high, h.since, by rw [e1]; exact h.own1, by rw [e2]; exact h.own2, h.apart, by rw [e1, e2]; exact h.knows⟩
theorem Td.rows (h : Td w0 w b n m L vo vp) {b1 b2 : Nat} {O I : Nat → Nat} {M : R2} {G : Nat → Nat → Bool} (hk : Knows w b b1 b2 O I n m M G) (hr : ∀ k, Rw O I n m k → w0.heap.size ≤ k) (hm : Mod (Rw O I n m) w w1) :
    Below w0.heap.size w0 w1 ∧ w1.ownsRow w0.heap.size 40 2 vo (outs n L).length (pairC (outs n L)) ∧ w1.ownsRow w0.heap.size 40 2 vp (puts n m L).length (pairC (puts n m L)) := by
  have key : ∀ {v : Value} {k : Nat} {xs : List Value}, w.ownsRow w0.heap.size 40 2 v k xs → w1.ownsRow w0.heap.size 40 2 v k xs := fun ho => own_of_block ho fun g hg => hm.block g (ho.lt g hg).2 fun hs => by
    obtain ⟨x, hi⟩ := hk.word hs
    exact own_ne ho hi (by decide) hg
  exact ⟨hm.below h.since h.since.size hr, key h.own1, key h.own2⟩
theorem grown_mod {w w' : World} {r : Option Nat} (h : w.grownBy w' r) : Mod (fun k => r = some k) w w' := ⟨h.os, h.tape, h.output, h.size, fun k hk hs => h.block k hk fun e => hs e.symm⟩
theorem own_kept {w w' : World} {base size k : Nat} {e : TypeId} {v v' : Value} {xs : List Value} {o : Obj} (h : w.ownsRow base e size v k xs) (hg : (w.alloc o).grownBy w' v'.ownBlock) (hne : ∀ g, v.ownBlock = some g → v'.ownBlock ≠ some g) : w'.ownsRow base e size v k xs :=
  own_of_block (h.alloc o) fun g hg' => hg.block g (Nat.lt_of_lt_of_le (h.lt g hg').2 (by simp)) fun e => hne g hg' e.symm
theorem Td.putted (h : Td w0 w b n m L vo vp) {b1 b2 x y : Nat} {O I : Nat → Nat} (hx : x < n) (hy : y < m) (hH0 : 0 < w0.heap.size)
    (hr : ∀ k, Rw O I n m k → w0.heap.size ≤ k) (hk : Knows w b b1 b2 O I n m (all eqR (outs n L)) (inn (puts n m L) (all eqR (outs n L))))
    (hk1 : Knows w1 b b1 b2 O I n m (all eqR (outs n L)) (gput (all eqR (outs n L)) (inn (puts n m L) (all eqR (outs n L))) x y)) (hm : Mod (Rw O I n m) w w1)
    {o : Obj} {g cap : Nat} (ho : w3.ownsRow w0.heap.size 40 2 (.slice (some ⟨g, 0, none⟩) ((puts n m L).length + 1) cap) ((puts n m L).length + 1) (pairC (puts n m L) ++ [.int .i64 (x : Int), .int .i64 (y : Int)]))
    (hg : (w1.alloc o).grownBy w3 vp.ownBlock) (hat : vp.ownBlock = some g ∨ g = (w1.alloc o).heap.size) :
    Td w0 w3 b n m (L ++ [(true, (x : Int), (y : Int))]) vo (.slice (some ⟨g, 0, none⟩) ((puts n m L).length + 1) cap) := by
  have e1 : outs n (L ++ [(true, (x : Int), (y : Int))]) = outs n L := by unfold outs; rw [List.flatMap_append]; simp [out1]
  have e2 : puts n m (L ++ [(true, (x : Int), (y : Int))]) = puts n m L ++ [(x, y)] := by unfold puts; rw [List.flatMap_append]; simp [put1, inB_nat hx, inB_nat hy]
  obtain ⟨h1, h2, h3⟩ := h.rows hk hr hm
  have h03 : ∀ k, vp.ownBlock = some k → w0.heap.size ≤ k := fun k hk => (h3.lt k hk).1
  have hk3 : Knows w3 b b1 b2 O I n m (all eqR (outs n L)) (gput (all eqR (outs n L)) (inn (puts n m L) (all eqR (outs n L))) x y) :=
    (hk1.below ((Below.refl _ _).alloc (Nat.le_refl _) o)).mod (grown_mod hg) (fun e => by have := h03 0 e; omega) fun k hk => by
      obtain ⟨cs, hi⟩ := own_is h3 hk
      exact ⟨cs, hi.alloc o⟩
  refine ⟨hk3.toHead, h.high, below_on h1 h3 (Nat.le_refl _) h1.size hg, by rw [e1]; exact own_kept h2 hg h.apart, by rw [e2, pairC_append, List.length_append]; exact ho, fun g' hg' e => ?_, fun _ => ⟨b1, b2, O, I, by rw [e1, e2, ← inn_put]; exact hk3, hr⟩⟩
  have e' : g = g' := by simpa [Value.ownBlock] using e
  subst e'
  rcases hat with hat | hat
  · exact h.apart _ hg' hat
  · have := (h2.lt _ hg').2
    rw [hat] at this
    simp at this
    omega
theorem Td.outed (h : Td w0 w b n m L vo vp) {b1 b2 x y : Nat} {O I : Nat → Nat} (hx : x < n) (hy : y < n) (hH0 : 0 < w0.heap.size)
    (hr : ∀ k, Rw O I n m k → w0.heap.size ≤ k) (hk : Knows w b b1 b2 O I n m (all eqR (outs n L)) (inn (puts n m L) (all eqR (outs n L))))
    (hk1 : Knows w1 b b1 b2 O I n m (plus (all eqR (outs n L)) x y) (gout (all eqR (outs n L)) (inn (puts n m L) (all eqR (outs n L))) x y)) (hm : Mod (Rw O I n m) w w1)
    {o : Obj} {g cap : Nat} (ho : w3.ownsRow w0.heap.size 40 2 (.slice (some ⟨g, 0, none⟩) ((outs n L).length + 1) cap) ((outs n L).length + 1) (pairC (outs n L) ++ [.int .i64 (x : Int), .int .i64 (y : Int)]))
    (hg : (w1.alloc o).grownBy w3 vo.ownBlock) (hat : vo.ownBlock = some g ∨ g = (w1.alloc o).heap.size) :
    Td w0 w3 b n m (L ++ [(false, (x : Int), (y : Int))]) (.slice (some ⟨g, 0, none⟩) ((outs n L).length + 1) cap) vp := by
  have e1 : outs n (L ++ [(false, (x : Int), (y : Int))]) = outs n L ++ [(x, y)] := by unfold outs; rw [List.flatMap_append]; simp [out1, inB_nat hx, inB_nat hy]
  have e2 : puts n m (L ++ [(false, (x : Int), (y : Int))]) = puts n m L := by unfold puts; rw [List.flatMap_append]; simp [put1]
  obtain ⟨h1, h2, h3⟩ := h.rows hk hr hm
  have h03 : ∀ k, vo.ownBlock = some k → w0.heap.size ≤ k := fun k hk => (h2.lt k hk).1
  have hk3 : Knows w3 b b1 b2 O I n m (plus (all eqR (outs n L)) x y) (gout (all eqR (outs n L)) (inn (puts n m L) (all eqR (outs n L))) x y) :=
    (hk1.below ((Below.refl _ _).alloc (Nat.le_refl _) o)).mod (grown_mod hg) (fun e => by have := h03 0 e; omega) fun k hk => by
      obtain ⟨cs, hi⟩ := own_is h2 hk
      exact ⟨cs, hi.alloc o⟩
  refine ⟨hk3.toHead, h.high, below_on h1 h2 (Nat.le_refl _) h1.size hg, by rw [e1, pairC_append, List.length_append]; exact ho, by rw [e2]; exact own_kept h3 hg (fun g h1 h2 => h.apart g h2 h1), fun g' hg' e => ?_, fun _ => ⟨b1, b2, O, I, by rw [e1, e2, all_snoc, ← inn_out]; exact hk3, hr⟩⟩
  have e' : g = g' := by simpa [Value.ownBlock] using hg'
  subst e'
  rcases hat with hat | hat
  · exact h.apart _ hat e
  · have := (h3.lt _ e).2
    rw [hat] at this
    simp at this
    omega
end
end Sv
end Go.Proofs.YtbflkaaenoeniaaDoor

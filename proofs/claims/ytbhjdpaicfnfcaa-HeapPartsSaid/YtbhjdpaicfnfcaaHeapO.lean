/- Layer 13: one allocation that is watched; what a law's calls leave of it. -/
import Derived.Test.YtbhjdpaicfnfcaaHeapM
namespace Go.Proofs.Ytbhjdpaicfnfcaa
open Go.RowKit Go.Deep Tr
namespace Hp
/-- What is no heap's, no cell's and no right's stays. -/
structure Keeps (w w' : World) : Prop where
  size : w.heap.size ≤ w'.heap.size
  block : ∀ (b : Nat) (cs : Array Value) (t : TypeId) (f : Nat × Nat), w.heap[b]? = some (Obj.cells cs t f) → t ≠ 74 → t ≠ 78 → t ≠ 96 → w'.heap[b]? = w.heap[b]?
theorem Keeps.trans {x y z : World} (h : Keeps x y) (k : Keeps y z) : Keeps x z :=
  ⟨Nat.le_trans h.size k.size, fun b cs t f hi h1 h2 h3 => by
    have e := h.block b cs t f hi h1 h2 h3
    exact (k.block b cs t f (e.trans hi) h1 h2 h3).trans e⟩
theorem Keeps.below {x y : World} (h : Below x.heap.size x y) : Keeps x y := ⟨h.size, fun b _ _ _ hi _ _ _ => h.block b (by
  rcases Nat.lt_or_ge b x.heap.size with h5 | h5
  · exact h5
  · rw [Array.getElem?_eq_none h5] at hi; cases hi)⟩
theorem Keeps.is {x y : World} (h : Keeps x y) {b : Nat} {t : TypeId} {cs : Array Value} (hi : Is x b t cs) (ht : t ≠ 74 ∧ t ≠ 78 ∧ t ≠ 96) : Is y b t cs := hi.of (h.block b cs t (0, 0) hi ht.1 ht.2.1 ht.2.2)
theorem Keeps.path {w w' : World} {A : Option Addr} {l : List Int} (h : Keeps w w') (hp : PathAt w A l) : PathAt w' A l := by
  obtain ⟨⟨xs, h1, h2, h3⟩, h4⟩ := hp
  have hlen : xs.length = l.length := by rw [h1.1, Nat.mul_one]
  refine ⟨⟨xs, h1, ⟨fun h0 => ?_, h2.2⟩, h3⟩, fun h0 => ?_⟩
  · obtain ⟨bk, o, e, hl, hc⟩ := h2.1 h0
    obtain ⟨a, ea, cs, f, hb⟩ := h4 (by omega)
    rw [e] at ea
    injection ea with ea
    subst ea
    have hk := h.block _ _ _ _ hb (by decide) (by decide) (by decide)
    refine ⟨bk, o, e, Nat.lt_of_lt_of_le hl h.size, fun i u hu => ?_⟩
    rw [← hc i u hu]
    unfold World.cell?
    rw [hk]
  · obtain ⟨a, ea, cs, f, hb⟩ := h4 h0
    exact ⟨a, ea, cs, f, (h.block _ _ _ _ hb (by decide) (by decide) (by decide)).trans hb⟩
theorem keeps_mod {S : Nat → Prop} {w w' : World} (h : Mod S w w') (hS : ∀ k, S k → (∃ cs, Is w k 74 cs) ∨ (∃ cs, Is w k 78 cs) ∨ (∃ cs, Is w k 96 cs) ∨ ∃ es c, w.heap[k]? = some (.map es c)) : Keeps w w' := ⟨h.size, fun b cs t f hi h1 h2 h3 => by
  have hlt : b < w.heap.size := by
    rcases Nat.lt_or_ge b w.heap.size with h5 | h5
    · exact h5
    · rw [Array.getElem?_eq_none h5] at hi; cases hi
  refine h.block b hlt fun hs => ?_
  rcases hS b hs with ⟨c, k⟩ | ⟨c, k⟩ | ⟨c, k⟩ | ⟨es, c, k⟩
  · have k' : w.heap[b]? = _ := k
    rw [hi] at k'
    injection k' with k'
    injection k' with _ e _
    exact h1 e
  · have k' : w.heap[b]? = _ := k
    rw [hi] at k'
    injection k' with k'
    injection k' with _ e _
    exact h2 e
  · have k' : w.heap[b]? = _ := k
    rw [hi] at k'
    injection k' with k'
    injection k' with _ e _
    exact h3 e
  · rw [hi] at k
    cases k⟩
/-- A heap that watches, and one of its allocations, made since w0. -/
structure Wt (w0 w : World) (hb mb : Nat) (made tags n m : Nat) (f : Int → Option Value) (al : Int) (cb g cap : Nat) (vs : List Value) (S : List Hd) : Prop where
  hp : ∃ most, HpAt w hb mb most true made tags n m f
  cell : Al w cb g cap vs S
  at_ : f al = some (.pointer (some ⟨cb, 0, none⟩))
  wf : (Lit.int .i64 al).wf = true
  low : w0.heap.size ≤ hb ∧ w0.heap.size ≤ mb ∧ w0.heap.size ≤ cb ∧ w0.heap.size ≤ g
  since : Below w0.heap.size w0 w
  few : tags ≤ 100 ∧ S.length ≤ 100
  le : ∀ x ∈ S, x.tag ≤ tags
section
variable {w0 w w' : World} {hb mb : Nat} {made tags n m : Nat} {f : Int → Option Value} {al : Int} {cb g cap : Nat} {vs : List Value} {S : List Hd}
theorem Wt.below (h : Wt w0 w hb mb made tags n m f al cb g cap vs S) (hb' : Below w.heap.size w w') : Wt w0 w' hb mb made tags n m f al cb g cap vs S := by
  obtain ⟨⟨most, h1⟩, h2, h3, h4, h5, h6, h7, h8⟩ := h
  exact ⟨⟨most, h1.below hb'⟩, h2.below hb', h3, h4, h5, h6.trans (hb'.mono h6.size), h7, h8⟩
theorem Wt.used (h : Wt w0 w hb mb made tags n m f al cb g cap vs S) {pa : List Int} {wt : Bool} {p : Nat} (hu : Used w w' cb g cap vs (left S pa wt p)) : Wt w0 w' hb mb made tags n m f al cb g cap vs (left S pa wt p) ∧ Keeps w w' := by
  obtain ⟨⟨most, h1⟩, h2, h3, h4, h5, h6, h7, h8⟩ := h
  obtain ⟨cur, k1, _⟩ := h2.stk.cells
  refine ⟨⟨⟨most, h1.mod hu.mod ?_ ?_⟩, ⟨hu.cell, hu.stk, h2.seven, Nat.le_trans (left_le ..) h2.few, left_rise h2.rise pa wt p⟩, h3, h4, h5, ?_, ⟨h7.1, Nat.le_trans (left_le ..) h7.2⟩, fun x hx => h8 x ((left_sub S pa wt p).subset hx)⟩, ?_⟩
  · rintro (e | e)
    · exact is_ne h1.head h2.cell (by decide) e
    · exact is_ne h1.head k1 (by decide) e
  · obtain ⟨D, ⟨es, clock, m2, _⟩, _⟩ := h1.map
    rintro (e | e)
    · have k := h2.cell
      unfold Is at k
      rw [← e, m2] at k
      cases k
    · unfold Is at k1
      rw [← e, m2] at k1
      cases k1
  · exact hu.mod.below h6 (h6.size) (fun k hk => by rcases hk with rfl | rfl; exact h5.2.2.1; exact h5.2.2.2)
  · exact keeps_mod hu.mod (fun k hk => by
      rcases hk with rfl | rfl
      · exact .inr (.inl ⟨_, h2.cell⟩)
      · exact .inr (.inr (.inl ⟨_, k1⟩)))
/-- What is told by a use. -/
def Told (w0 w w' : World) (hb mb : Nat) (made tags n m : Nat) (f : Int → Option Value) (al : Int) (cb g cap : Nat) (vs : List Value) (S : List Hd) (pa : List Int) (wt : Bool) (p : Nat) : Prop := Wt w0 w' hb mb made tags n m f al cb g cap vs (left S pa wt p) ∧ Keeps w w'
theorem wt_read (h : Wt w0 w hb mb made tags n m f al cb g cap vs S) (tg : Int) {A : Option Addr} {c : Nat} {pa : List Int} (hp : PathAt w A pa) (hcc : pa.length ≤ c) {ab ao : Nat} {cs : List Value} (hpl : Place w cb g vs A c pa ab ao cs) {Q : List Value → Prop} (hsh : ∀ rs, Q rs → (∃ k n al, rs = leafC k n al) ∨ ∃ q, rs = twoC q)
    (hcl : ∀ X n cap, Is X cb 78 (cellC vs g n cap) → Mod (fun k => k = cb ∨ k = g) w X → Calls Try.prog 27 #[.agg cs.toArray] X fun e w' => ∃ rs, e = .returned (.agg rs.toArray) ∧ rs.length = 7 ∧ Q rs ∧ Below X.heap.size X w') :
    Calls Try.prog 14 #[.pointer (some ⟨hb, 0, none⟩), .agg #[.int .i64 al, .slice A pa.length c, .int .i64 tg]] w fun e w' => ∃ p b, Srch S tg p b ∧
      ((useOk S pa false p b = false ∧ e = .returned (.tuple #[.agg (leafC 0 0 0).toArray, .int .i64 2]) ∧ Below w.heap.size w w') ∨
       (useOk S pa false p b = true ∧ (∃ rs, e = .returned (.tuple #[.agg rs.toArray, .int .i64 0]) ∧ rs.length = 7 ∧ Q rs) ∧ Told w0 w w' hb mb made tags n m f al cb g cap vs S pa false p)) := by
  obtain ⟨most, h1⟩ := h.hp
  refine (read_any h1 h.wf h.at_ h.cell tg hp hcc hpl hsh hcl).mono ?_
  rintro e w' ⟨p, b, hs, hc⟩
  refine ⟨p, b, hs, ?_⟩
  rcases hc with hc | ⟨h1, h2, h3⟩
  · exact .inl hc
  · exact .inr ⟨h1, h2, h.used h3⟩
theorem wt_borrow (h : Wt w0 w hb mb made tags n m f al cb g cap vs S) (ht : tags + 1 ≤ 100) (hS : S.length + 1 ≤ 100) (tg : Int) {A : Option Addr} {c : Nat} {pa : List Int} (hp : PathAt w A pa) (hcc : pa.length ≤ c) (hpl' : pa.length ≤ 100) {ab ao : Nat} {cs : List Value} (hpl : Place w cb g vs A c pa ab ao cs) (uq : Bool) :
    Calls Try.prog 12 #[.pointer (some ⟨hb, 0, none⟩), .agg #[.int .i64 al, .slice A pa.length c, .int .i64 tg], .bool uq] w fun e w' => ∃ p b, Srch S tg p b ∧
      ((useOk S pa uq p b = false ∧ e = .returned (.tuple #[.agg #[.int .i64 0, .slice none 0 0, .int .i64 0], .int .i64 2]) ∧ Below w.heap.size w w') ∨
       (useOk S pa uq p b = true ∧ ∃ A' c' g' cap', e = .returned (.tuple #[.agg #[.int .i64 al, .slice A' pa.length c', .int .i64 ((tags : Int) + 1)], .int .i64 0]) ∧ pa.length ≤ c' ∧ PathAt w' A' pa ∧
         Wt w0 w' hb mb made (tags + 1) n m f al cb g' cap' vs (left S pa uq p ++ [⟨(tags : Int) + 1, pa, uq⟩]) ∧ Keeps w w' ∧ Mod (fun k => k = hb ∨ k = cb ∨ k = g) w w')) := by
  obtain ⟨most, h1⟩ := h.hp
  refine (borrow_any h1 (by omega) h.wf h.at_ h.cell h.le (by omega) tg hp hcc hpl' hpl uq).mono ?_
  rintro e w' ⟨p, b, hs, hc⟩
  refine ⟨p, b, hs, ?_⟩
  rcases hc with hc | ⟨h2, A', c', g', cap', h3, h4, h5, h6, h7, h8, h9⟩
  · exact .inl hc
  refine .inr ⟨h2, A', c', g', cap', h3, h4, h5, ⟨⟨most, h6⟩, h7, h.at_, h.wf, ?_, ?_, ?_, ?_⟩, ?_, h8⟩
  · refine ⟨h.low.1, h.low.2.1, h.low.2.2.1, ?_⟩
    rcases h9 with rfl | h9
    · exact h.low.2.2.2
    · exact Nat.le_trans h.since.size h9
  · exact h8.below h.since h.since.size (fun k hk => by rcases hk with rfl | rfl | rfl; exact h.low.1; exact h.low.2.2.1; exact h.low.2.2.2)
  · refine ⟨ht, ?_⟩
    have := left_le S pa uq p
    rw [List.length_append, List.length_singleton]
    omega
  · intro x hx
    rcases List.mem_append.1 hx with hx | hx
    · have := h.le x ((left_sub S pa uq p).subset hx)
      omega
    · rw [List.mem_singleton.1 hx]; simp
  · obtain ⟨cur, k1, _⟩ := h.cell.stk.cells
    exact keeps_mod h8 (fun k hk => by
      rcases hk with rfl | rfl | rfl
      · exact .inl ⟨_, h1.head⟩
      · exact .inr (.inl ⟨_, h.cell.cell⟩)
      · exact .inr (.inr (.inl ⟨_, k1⟩)))
end
theorem srch_hit {S : List Hd} {t : Int} {p : Nat} {b : Bool} (h : Srch S t p b) (i : Nat) (hi : i < S.length) (ht : S[i].tag = t) (hlt : ∀ k (hk : k < i), (S[k]'(Nat.lt_trans hk hi)).tag < t) : p = i ∧ b = true := by
  obtain ⟨h1, h2, h3, h4⟩ := h
  have e : p = i := by
    rcases Nat.lt_trichotomy p i with g | g | g
    · have g1 := h3 p (by omega) (Nat.le_refl _)
      have g2 := hlt p g
      omega
    · exact g
    · have := h2 i hi g
      omega
  subst e
  exact ⟨rfl, h4.2 ⟨hi, ht⟩⟩
theorem srch_miss {S : List Hd} {t : Int} {p : Nat} {b : Bool} (h : Srch S t p b) (hn : ∀ k (hk : k < S.length), S[k].tag ≠ t) : b = false := by
  cases b with
  | false => rfl
  | true =>
    obtain ⟨hp, e⟩ := h.2.2.2.1 rfl
    exact absurd e (hn p hp)
theorem useOk_miss (S : List Hd) (pa : List Int) (wt : Bool) (p : Nat) : useOk S pa wt p false = false := rfl
/-- A value of no parts, at its cell. -/
theorem place_leaf {w : World} {cb g : Nat} {k n al : Int} (hk : k ≠ 0) (A : Option Addr) (c : Nat) : Place w cb g (leafC k n al) A c [] cb 0 (leafC k n al) where
  part X _ _ _ _ := part_nil X cb 0 A c
  cells X n' cap h _ j u hj := by
    have hj7 : j < 7 := by have := (List.getElem?_eq_some_iff.1 hj).1; simpa [leafC] using this
    rw [Nat.zero_add, h.at_]
    unfold cellC
    rw [List.getElem?_toArray, List.getElem?_append_left (by simpa [leafC] using hj7)]
    exact hj
  whole X _ _ _ _ := (whole_leaf X k n al).mono fun e w' ⟨h1, h2⟩ => ⟨by rw [h1]; simp [hk], h2⟩
  seven := rfl
end Hp
end Go.Proofs.Ytbhjdpaicfnfcaa

/- Forward: what is ahead of each node. -/
import Derived.Deep.RegionLaw
import Derived.Deep.RegionHeld3
import Derived.Test.YtbeepedobnaojaaDoorFlowG
namespace Go.Proofs.YtbeepedobnaojaaDoor
open Go.RowKit Lf Go.Deep Sv Tr
namespace Fl
/-- An answer: of each fact the nodes that it is at. -/
structure Ans (w : World) (a n m : Nat) (Y : Nat → Nat) : Prop where
  head : ∃ b, Is w a 48 #[.int .i64 n, .slice (some ⟨b, 0, none⟩) m m] ∧ (0 < n → Sw w b m Y)
  lw : Lw n m Y
theorem Ans.below {w w' : World} {a n m : Nat} {Y : Nat → Nat} (h : Ans w a n m Y) (hb : Below w.heap.size w w') : Ans w' a n m Y := by
  obtain ⟨b, h1, h2⟩ := h.head
  exact ⟨⟨b, h1.below hb h1.lt, fun h0 => (h2 h0).below hb⟩, h.lw⟩
/-- All that Forward and Backward have made: the answer, its sets, the next ones of nodes, who makes, who ends. -/
structure St (w V : World) (a b c d f n m : Nat) (Y X1 X2 X3 : Nat → Nat) : Prop where
  vb : Below V.heap.size V w
  o1 : V.heap.size ≤ b
  o2 : b + m < a
  o3 : a < c
  o4 : c + n < d
  o5 : d + m < f
  an : Is w a 48 #[.int .i64 n, .slice (some ⟨b, 0, none⟩) m m]
  s0 : Sw w b m Y
  s1 : Sw w c n X1
  s2 : Sw w d m X2
  s3 : Sw w f m X3
section
variable {w w' V : World} {a b c d f n m : Nat} {Y X1 X2 X3 : Nat → Nat}
theorem St.below (h : St w V a b c d f n m Y X1 X2 X3) (hb : Below w.heap.size w w') : St w' V a b c d f n m Y X1 X2 X3 :=
  ⟨h.vb.trans (hb.mono h.vb.size), h.o1, h.o2, h.o3, h.o4, h.o5, h.an.below hb h.an.lt, h.s0.below hb, h.s1.below hb, h.s2.below hb, h.s3.below hb⟩
theorem St.put0 (h : St w V a b c d f n m Y X1 X2 X3) {i y : Nat} (hi : i < m) (hb : But (b + 1 + i) w w') (hr : Is w' (b + 1 + i) 40 #[.int .u64 ((y : Nat) : Int)]) : St w' V a b c d f n m (put Y i y) X1 X2 X3 := by
  have o1 := h.o1; have o2 := h.o2; have o3 := h.o3; have o4 := h.o4; have o5 := h.o5
  exact ⟨h.vb.trans (hb.below (by omega)), h.o1, h.o2, h.o3, h.o4, h.o5, hb.is h.an (by omega), h.s0.but hi hb hr, h.s1.other (cnt' := m) hb hi (by omega), h.s2.other (cnt' := m) hb hi (by omega), h.s3.other (cnt' := m) hb hi (by omega)⟩
theorem St.put2 (h : St w V a b c d f n m Y X1 X2 X3) {i y : Nat} (hi : i < m) (hb : But (d + 1 + i) w w') (hr : Is w' (d + 1 + i) 40 #[.int .u64 ((y : Nat) : Int)]) : St w' V a b c d f n m Y X1 (put X2 i y) X3 := by
  have o1 := h.o1; have o2 := h.o2; have o3 := h.o3; have o4 := h.o4; have o5 := h.o5
  exact ⟨h.vb.trans (hb.below (by omega)), h.o1, h.o2, h.o3, h.o4, h.o5, hb.is h.an (by omega), h.s0.other (cnt' := m) hb hi (by omega), h.s1.other (cnt' := m) hb hi (by omega), h.s2.but hi hb hr, h.s3.other (cnt' := m) hb hi (by omega)⟩
theorem St.p1 (h : St w V a b c d f n m Y X1 X2 X3) : w.cell? ⟨a, 1, none⟩ = some (.slice (some ⟨b, 0, none⟩) m m) := by rw [h.an.at_]; rfl
theorem St.ans (h : St w V a b c d f n m Y X1 X2 X3) (hl : Lw n m Y) : Ans w a n m Y := ⟨⟨b, h.an, fun _ => h.s0⟩, hl⟩
end
/-- The first k entries are laid. -/
def R1 (p : Pb) (m k : Nat) (Y : Nat → Nat) : Prop := ∀ x j, x < m → ((Y x).testBit j = true ↔ j = 0 ∧ (x : Int) ∈ p.entry.take k)
theorem R1.start (p : Pb) (m : Nat) : R1 p m 0 fun _ => 0 := fun x j _ => by simp
theorem R1.step {p : Pb} {m k e : Nat} {Y : Nat → Nat} (h : R1 p m k Y) (hk : p.entry[k]? = some (e : Int)) : R1 p m (k + 1) (put Y e (Y e ||| 2 ^ 0)) := fun x j hx => by
  rw [List.take_add_one, hk]
  unfold put
  split
  · rename_i hxe
    subst hxe
    rw [or_bit, Bool.or_eq_true, h x j hx, beq_iff_eq]
    simp only [Option.toList, List.mem_append, List.mem_singleton]
    constructor
    · rintro (⟨h1, h2⟩ | h1)
      · exact ⟨h1, .inl h2⟩
      · exact ⟨h1, .inr trivial⟩
    · rintro ⟨h1, _⟩
      exact .inr h1
  · rename_i hxe
    rw [h x j hx]
    simp only [Option.toList, List.mem_append, List.mem_singleton]
    constructor
    · rintro ⟨h1, h2⟩
      exact ⟨h1, .inl h2⟩
    · rintro ⟨h1, h2 | h2⟩
      · exact ⟨h1, h2⟩
      · exact absurd (by omega) hxe
/-- The first e facts are done. -/
structure R2 (p : Pb) (F : Int → Nat → Prop) (S : Int → Nat → Prop) (n m e : Nat) (X2 Y X : Nat → Nat) : Prop where
  ly : Lw n m Y
  lx : Lw n m X
  done : ∀ x j, x < e → ((Y x).testBit j = true ↔ F (x : Int) j)
  todo : ∀ x j, e ≤ x → x < m → ((Y x).testBit j = true ↔ S (x : Int) j)
  same : ∀ x, e ≤ x → x < m → X x = X2 x
theorem put_self (Y : Nat → Nat) (e : Nat) : put Y e (Y e) = Y := by funext i; unfold put; split <;> simp_all
theorem put_here (Y : Nat → Nat) (e u : Nat) : put Y e u e = u := if_pos rfl
theorem put_twice (Y : Nat → Nat) (e u v : Nat) : put (put Y e u) e v = put Y e v := by funext i; unfold put; split <;> rfl
theorem R2.next {p : Pb} {F S : Int → Nat → Prop} {n m k : Nat} {X2 Y X : Nat → Nat} (h : R2 p F S n m k X2 Y X) {y z : Nat} (hz : z < 2 ^ n) (hy : y < 2 ^ n) (hF : ∀ j, y.testBit j = true ↔ F (k : Int) j) : R2 p F S n m (k + 1) X2 (put Y k y) (put X k z) := by
  refine ⟨h.ly.put hy, h.lx.put hz, fun x j hx => ?_, fun x j h1 h2 => ?_, fun x h1 h2 => ?_⟩
  · unfold put
    by_cases hxk : x = k
    · subst hxk; rw [if_pos rfl]; exact hF j
    · rw [if_neg hxk]; exact h.done x j (by omega)
  · unfold put
    rw [if_neg (by omega)]
    exact h.todo x j (by omega) h2
  · unfold put
    rw [if_neg (by omega)]
    exact h.same x (by omega) h2
/-- From whom a fact begins: by those who make it, and the entry. -/
def Zs (p : Pb) (n k z : Nat) : Prop := z < 2 ^ n ∧ ∀ i, z.testBit i = true ↔ hasL p.gen i (k : Int) = true ∨ (i = 0 ∧ (k : Int) ∈ p.entry ∧ 0 < p.succ.length ∧ hasL p.kill 0 (k : Int) = false)
/-- What has been laid for one fact, of the first q nodes that were come to. -/
def R3 (L : List Nat) (X1 : Nat → Nat) (n y0 q y : Nat) : Prop := y < 2 ^ n ∧ ∀ j, y.testBit j = true ↔ y0.testBit j = true ∨ ∃ r i, r < q ∧ L[r]? = some i ∧ (X1 i).testBit j = true
theorem R3.start {L : List Nat} {X1 : Nat → Nat} {n y0 : Nat} (h : y0 < 2 ^ n) : R3 L X1 n y0 0 y0 := ⟨h, fun j => ⟨.inl, fun h => by
  rcases h with h | ⟨r, i, h, _⟩
  · exact h
  · omega⟩⟩
theorem R3.step {L : List Nat} {X1 : Nat → Nat} {n y0 q y i : Nat} (h : R3 L X1 n y0 q y) (hi : L[q]? = some i) (hl : X1 i < 2 ^ n) : R3 L X1 n y0 (q + 1) (y ||| X1 i) := by
  refine ⟨or_lt h.1 hl, fun j => ?_⟩
  rw [Nat.testBit_or, Bool.or_eq_true, h.2 j]
  constructor
  · rintro ((h | ⟨r, i', h1, h2, h3⟩) | h)
    · exact .inl h
    · exact .inr ⟨r, i', by omega, h2, h3⟩
    · exact .inr ⟨q, i, by omega, hi, h⟩
  · rintro (h | ⟨r, i', h1, h2, h3⟩)
    · exact .inl (.inl h)
    · by_cases hr : r = q
      · subst hr
        rw [hi] at h2
        injection h2 with h2
        subst h2
        exact .inr h3
      · exact .inl (.inr ⟨r, i', by omega, h2, h3⟩)
theorem fwd_done {p : Pb} {n k z y y0 kw : Nat} {L : List Nat} {X1 : Nat → Nat} (hz : Zs p n k z) (hk : ∀ i, kw.testBit i = hasL p.kill i (k : Int)) (hX : ∀ i j, (X1 i).testBit j = true ↔ Nx p i j) (hL : ∀ i, i ∈ L ↔ Rc z kw X1 i)
    (h0 : ∀ j, y0.testBit j = true ↔ j = 0 ∧ (k : Int) ∈ p.entry) (hp : 0 < p.succ.length) {q : Nat} (hq : L.length ≤ q) (hy : R3 L X1 n y0 q y) (j : Nat) : y.testBit j = true ↔ Fwd p (k : Int) j := by
  rw [hy.2 j, fwd_iff (b := fun i => z.testBit i) (k := fun i => kw.testBit i) (X := fun i j => (X1 i).testBit j) hX hk hz.2 j, h0 j]
  constructor
  · rintro (⟨h1, h2⟩ | ⟨r, i, _, h2, h3⟩)
    · exact .inl ⟨h1, h2, hp⟩
    · exact .inr ⟨i, (hL i).1 (List.mem_of_getElem? h2), h3⟩
  · rintro (⟨h1, h2, _⟩ | ⟨i, h2, h3⟩)
    · exact .inl ⟨h1, h2⟩
    · obtain ⟨r, hr, e⟩ := List.getElem_of_mem ((hL i).2 h2)
      exact .inr ⟨r, i, by omega, by rw [List.getElem?_eq_getElem hr, e], h3⟩
theorem zs_no {p : Pb} {n m k : Nat} {X2 X3 Y X : Nat → Nat} {F : Int → Nat → Prop} (h : R2 p F (fun x j => j = 0 ∧ x ∈ p.entry) n m k X2 Y X) (hk : k < m) (h2 : ∀ x y, (X2 x).testBit y = true ↔ hasL p.gen y (x : Int) = true) (h3 : ∀ x y, (X3 x).testBit y = true ↔ hasL p.kill y (x : Int) = true)
    (hb : (Y k).testBit 0 = false ∨ (X3 k).testBit 0 = true) : Zs p n k (X k) := by
  refine ⟨h.lx k hk, fun i => ?_⟩
  rw [h.same k (Nat.le_refl _) hk, h2]
  refine ⟨.inl, fun hh => ?_⟩
  rcases hh with hh | ⟨_, h4, _, h5⟩
  · exact hh
  · rcases hb with hb | hb
    · have := (h.todo k 0 (Nat.le_refl _) hk).2 ⟨rfl, h4⟩
      rw [hb] at this
      cases this
    · rw [(h3 k 0).1 hb] at h5
      cases h5
theorem zs_yes {p : Pb} {n m k : Nat} {X2 X3 Y X : Nat → Nat} {F : Int → Nat → Prop} (h : R2 p F (fun x j => j = 0 ∧ x ∈ p.entry) n m k X2 Y X) (hk : k < m) (hn : n = p.succ.length) (h0 : 0 < n) (h2 : ∀ x y, (X2 x).testBit y = true ↔ hasL p.gen y (x : Int) = true) (h3 : ∀ x y, (X3 x).testBit y = true ↔ hasL p.kill y (x : Int) = true)
    (hb : (Y k).testBit 0 = true) (hb2 : (X3 k).testBit 0 = false) : Zs p n k (X k ||| 2 ^ 0) := by
  refine ⟨or_lt (h.lx k hk) (pow_lt h0), fun i => ?_⟩
  rw [or_bit, Bool.or_eq_true, h.same k (Nat.le_refl _) hk, h2, beq_iff_eq]
  have h4 := ((h.todo k 0 (Nat.le_refl _) hk).1 hb).2
  have h5 : hasL p.kill 0 (k : Int) = false := by
    cases hq : hasL p.kill 0 (k : Int) with
    | false => rfl
    | true => rw [(h3 k 0).2 hq] at hb2; cases hb2
  exact ⟨fun hh => hh.elim .inl fun e => .inr ⟨e, h4, by omega, h5⟩, fun hh => hh.elim .inl fun e => .inr e.1⟩
set_option maxHeartbeats 8000000 in
set_option maxRecDepth 100000 in
theorem forward_any {w : World} (hT : TabAt w) {vs vg vk ve : Value} {p : Pb} (h : PbAt w vs vg vk ve p) (ho : codeP p = 0) (h0 : 0 < p.succ.length) (hn : p.succ.length ≤ 64) {m : Nat} (hm : p.width = m) :
    Calls Tryd.prog 11 #[pbV vs vg vk ve p.width] w fun e w' =>
      ∃ a Y, e = .returned (.tuple #[.pointer (some ⟨a, 0, none⟩), .int .i64 0]) ∧ Ans w' a p.succ.length m Y ∧ Below w.heap.size w w' ∧ ∀ x j, x < m → ((Y x).testBit j = true ↔ Fwd p (x : Int) j) := by
  have hok := code_ok hn ho
  have hm4 : m ≤ 4000 := by have := hok.high; omega
  obtain ⟨V, hV⟩ : ∃ V, w.alloc (.cells #[vs, .int .i64 p.width, vg, vk, ve] 25) = V := ⟨_, rfl⟩
  have hB0 : Below w.heap.size w V := hV ▸ (Below.refl _ w).alloc (Nat.le_refl _) _
  have hI0 : Bx V w.heap.size vs vg vk ve p.width := hV ▸ Is.made w _ _
  have hP := h.below hB0
  have hC := check_any hP hn
  rw [ho] at hC
  obtain ⟨n, hn0⟩ : ∃ n, p.succ.length = n := ⟨_, rfl⟩
  obtain ⟨As, cs, rfl, _⟩ := h.s
  obtain ⟨Ae, ce, rfl, hmaxe, hgete⟩ := rowI_form hP.e
  obtain ⟨l, hl⟩ : ∃ n, p.entry.length = n := ⟨_, rfl⟩
  have HC := Lib.hid hC
  simp only [hn0, hl] at h0 hn hV hI0 HC hP ⊢
  obtain ⟨H, hH⟩ : ∃ x, w.heap.size = x := ⟨_, rfl⟩
  rw [hH] at hI0 hB0 ⊢
  have hHV : H < V.heap.size := hI0.lt
  have HTV := Lib.hid (hT.below (hH ▸ hB0) hT.pos)
  have HH := Lib.hid hH
  have HV := Lib.hid hV
  have HI := Lib.hid hI0
  have HB := Lib.hid hB0
  have HP := Lib.hid hP
  have HOK := Lib.hid hok
  have HN := Lib.hid hn0
  rw [hm] at HC HV HI ⊢
  have HM := Lib.hid hm
  clear hT h ho hV hB0 hI0 hP hC hn0 hH hok hm
  unfold pbV at HC ⊢
  go_enter Tryd.func11, Tryd.ntmps11
  go_wp2_with fail
  rw [HV.out, HH.out]
  refine HC.out.mono ?_
  rintro e w1 ⟨rfl, q1⟩
  have B1 := Lib.hid q1
  have I1 := (HI.out : Is _ _ _ _).below q1 hHV
  have d0 := I1.at_ 0
  have d1 := I1.at_ 1
  simp at d0 d1
  clear q1 I1
  have HS := Lib.hid (newSets_any w1 (m := m) (n := n) (q := 1) (by omega) hn (by omega))
  go_wp2_with fail
  refine HS.out.mono ?_
  rintro e w2 ⟨rfl, q2⟩
  obtain ⟨b, hb⟩ : ∃ b, w1.heap.size = b := ⟨_, rfl⟩
  have s0 := Sw.made q2
  have bb := q2.since
  rw [hb] at s0 bb ⊢
  have hVb : V.heap.size ≤ b := hb ▸ B1.out.size
  have B2 : Hid (Below V.heap.size V w2) := B1.out.trans (bb.mono (hb ▸ B1.out.size))
  clear q2 HS d0 d1 hb
  have I2 := (HI.out : Is _ _ _ _).below B2.out hHV
  have d0 := I2.at_ 0
  have d1 := I2.at_ 1
  simp at d0 d1
  obtain ⟨a, ha⟩ : ∃ a, w2.heap.size = a := ⟨_, rfl⟩
  obtain ⟨w3, hw3⟩ : ∃ w3, w2.alloc (.cells #[.int .i64 n, .slice (some ⟨b, 0, none⟩) m m] 48) = w3 := ⟨_, rfl⟩
  have b3 : Below a w2 w3 := hw3 ▸ (Below.refl a w2).alloc (by omega) _
  have an : Is w3 a 48 #[.int .i64 n, .slice (some ⟨b, 0, none⟩) m m] := by rw [← hw3, ← ha]; exact Is.made w2 _ _
  have s3 : Sw w3 b m fun _ => 0 := s0.below (ha.symm ▸ b3)
  have hba : b + m < a := ha ▸ s0.lt
  have B3 : Hid (Below V.heap.size V w3) := B2.out.trans (b3.mono (by omega))
  have HA := Lib.hid an
  have HS0 := Lib.hid s3
  have HW3 := Lib.hid hw3
  have HAA := Lib.hid ha
  clear bb s0 ha hw3 b3 an s3
  have box : ∀ X, Below w3.heap.size w3 X → X.cell? ⟨H, 0, none⟩ = some (.slice As n cs) ∧ X.cell? ⟨H, 1, none⟩ = some (.int .i64 m) ∧ X.cell? ⟨H, 2, none⟩ = some vg ∧ X.cell? ⟨H, 3, none⟩ = some vk := fun X hb => by
    have hI := (HI.out : Is _ _ _ _).below (B3.out.trans (hb.mono B3.out.size)) hHV
    exact ⟨hI.at_ 0, hI.at_ 1, hI.at_ 2, hI.at_ 3⟩
  have HBOX := Lib.hid box
  have HST : Hid (∀ X, Below w3.heap.size w3 X → Calls Tryd.prog 23 #[.slice As n cs] X fun e w' => ∃ c, e = .returned (.slice (some ⟨c, 0, none⟩) n n) ∧ Hid (∃ X1, c = X.heap.size ∧ Sw w' c n X1 ∧ Lw n n X1 ∧ Below X.heap.size X w' ∧ (∀ i j, (X1 i).testBit j = true ↔ Nx p i j))) := fun X hb =>
    (steps_any ((HP.out.below (B3.out.trans (hb.mono B3.out.size))).s) (by rw [← HN.out]; exact HOK.out.s) HN.out h0 hn).mono fun e w' ⟨h1, X1, h2, h3, h4, h5⟩ => ⟨_, h1, X1, rfl, h2, h3, h4, h5⟩
  have HTG : Hid (∀ X, Below w3.heap.size w3 X → Calls Tryd.prog 24 #[vg, .int .i64 m, .int .i64 n] X fun e w' => ∃ c, e = .returned (.slice (some ⟨c, 0, none⟩) m m) ∧ Hid (∃ X1, c = X.heap.size ∧ Sw w' c m X1 ∧ Lw n m X1 ∧ Below X.heap.size X w' ∧ (∀ x y, (X1 x).testBit y = true ↔ hasL p.gen y (x : Int) = true))) := fun X hb =>
    (turned_any ((HP.out.below (B3.out.trans (hb.mono B3.out.size))).g) (by rw [← HM.out]; exact HOK.out.g) (by rw [← HN.out]; exact HOK.out.gen) h0 hn hm4).mono fun e w' ⟨h1, X1, h2, h3, h4, h5⟩ => ⟨_, h1, X1, rfl, h2, h3, h4, h5⟩
  have HTK : Hid (∀ X, Below w3.heap.size w3 X → Calls Tryd.prog 24 #[vk, .int .i64 m, .int .i64 n] X fun e w' => ∃ c, e = .returned (.slice (some ⟨c, 0, none⟩) m m) ∧ Hid (∃ X1, c = X.heap.size ∧ Sw w' c m X1 ∧ Lw n m X1 ∧ Below X.heap.size X w' ∧ (∀ x y, (X1 x).testBit y = true ↔ hasL p.kill y (x : Int) = true))) := fun X hb =>
    (turned_any ((HP.out.below (B3.out.trans (hb.mono B3.out.size))).k) (by rw [← HM.out]; exact HOK.out.k) (by rw [← HN.out]; exact HOK.out.kill) h0 hn hm4).mono fun e w' ⟨h1, X1, h2, h3, h4, h5⟩ => ⟨_, h1, X1, rfl, h2, h3, h4, h5⟩
  have D3 : Hid (Below w3.heap.size w3 w3) := Below.refl _ _
  have DD : Hid (Below w3.heap.size w3 w3.drew) := D3.out.drew
  clear d0 d1 box
  have dd := HBOX.out _ D3.out
  obtain ⟨d0, d1, d2, d3⟩ := dd
  go_wp2_with fail
  rw [HW3.out, HAA.out]
  go_region_held3 (fun X => X.cell? ⟨H, 0, none⟩ = some (.slice As n cs) ∧ X.cell? ⟨H, 1, none⟩ = some (.int .i64 m) ∧ X.cell? ⟨H, 2, none⟩ = some vg ∧ X.cell? ⟨H, 3, none⟩ = some vk)
    (first
      | exact HBOX.out _ D6.out
      | exact HBOX.out _ D5.out
      | exact HBOX.out _ D4.out
      | exact HBOX.out _ DD.out
      | exact HBOX.out _ D3.out)
    (first
      | (go_at_call 24; refine (HTK.out _ D5.out).mono ?_; rintro e w6 ⟨f, rfl, Q6⟩; have D6 : Hid (Below w3.heap.size w3 w6) := (by obtain ⟨_, _, _, _, hb, _⟩ := Q6.out; exact D5.out.trans (hb.mono D5.out.size)))
      | (go_at_call 24; refine (HTG.out _ D4.out).mono ?_; rintro e w5 ⟨d, rfl, Q5⟩; have D5 : Hid (Below w3.heap.size w3 w5) := (by obtain ⟨_, _, _, _, hb, _⟩ := Q5.out; exact D4.out.trans (hb.mono D4.out.size)))
      | (go_at_call 23; refine (HST.out _ DD.out).mono ?_; rintro e w4 ⟨c, rfl, Q4⟩; have D4 : Hid (Below w3.heap.size w3 w4) := (by obtain ⟨_, _, _, _, hb, _⟩ := Q4.out; exact DD.out.trans (hb.mono DD.out.size))))
  obtain ⟨X1, hc, s1, l1, b4, e1⟩ := Q4.out
  obtain ⟨X2, hd, s2, l2, b5, e2⟩ := Q5.out
  obtain ⟨X3, hf, s3, l3, b6, e3⟩ := Q6.out
  have hac : a < c := by rw [hc]; exact HA.out.lt
  have hcd : c + n < d := by rw [hd]; exact s1.lt
  have hdf : d + m < f := by rw [hf]; exact s2.lt
  have hst : St w6 V a b c d f n m (fun _ => 0) X1 X2 X3 :=
    ⟨B3.out.trans (D6.out.mono B3.out.size), hVb, hba, hac, hcd, hdf, HA.out.below D6.out HA.out.lt, HS0.out.below D6.out, (s1.below b5).below b6, s2.below b6, s3⟩
  have HST0 := Lib.hid hst
  have E1 := Lib.hid e1
  have E2 := Lib.hid e2
  have E3 := Lib.hid e3
  have L1 := Lib.hid l1
  have L2 := Lib.hid l2
  have L3 := Lib.hid l3
  have dd := (HI.out : Is _ _ _ _).below (B3.out.trans (D6.out.mono B3.out.size)) hHV
  have d0 := dd.at_ 0
  have d1 := dd.at_ 1
  have d4 := dd.at_ 4
  simp at d0 d1 d4
  unfold maxLen at hmaxe
  rw [hl] at hmaxe
  have HGE := Lib.hid hgete
  have HLE := Lib.hid hl
  clear HBOX HST HTG HTK D3 DD Q4 Q5 Q6 D4 D5 D6 hc hd hf s1 s2 s3 b4 b5 b6 e1 e2 e3 l1 l2 l3 HA HS0 HW3 HAA B3 dd hst hgete hl
  go_wp2
  go_loopw [51] (fun i wr => ∃ k : Nat, k ≤ l ∧ i = .int .i64 k ∧ Hid (∃ Y, St wr V a b c d f n m Y X1 X2 X3 ∧ Lw n m Y ∧ R1 p m k Y)) (fun i _ => l - (intOf i).toNat)
  case atStart => exact ⟨0, Nat.zero_le _, rfl, _, HST0.out, fun _ _ => Nat.two_pow_pos _, R1.start p m⟩
  clear HST0
  case round =>
    obtain ⟨k, hk, rfl, HQ⟩ := hrel
    obtain ⟨Y, st, ly, r1⟩ := HQ.out
    have vb := st.vb
    have dd := (HI.out : Is _ _ _ _).below vb hHV
    have d0 := dd.at_ 0
    have d1 := dd.at_ 1
    simp at d0 d1
    by_cases hlt : k < l
    · obtain ⟨bk, o, rfl, hbk, hcell⟩ := HGE.out k (by rw [HLE.out]; exact hlt)
      have hx := List.all_eq_true.1 HOK.out.e _ (List.getElem_mem (show k < p.entry.length by rw [HLE.out]; exact hlt))
      simp only [Bool.and_eq_true, decide_eq_true_eq] at hx
      have hat := List.getElem?_eq_getElem (show k < p.entry.length by rw [HLE.out]; exact hlt)
      obtain ⟨e, he⟩ : ∃ e : Nat, (p.entry[k]'(by rw [HLE.out]; exact hlt)) = (e : Int) := ⟨_, (Int.toNat_of_nonneg hx.1).symm⟩
      rw [he] at hx hcell hat
      have hem : e < m := by have := hx.2; rw [HM.out] at this; omega
      have hcell := (vb.cell hbk).trans hcell
      have c1 := st.p1
      have c2 := st.s0.cell hem
      have HADD := Lib.hid (add_bit (st.s0.row e hem) (lw64 hn (ly e hem)) (show 0 < 64 by omega))
      have HN2 : Hid (∀ w', Is w' (b + 1 + e) 40 #[.int .u64 ((Y e ||| 2 ^ 0 : Nat) : Int)] → But (b + 1 + e) wr w' → ∃ Y, St w' V a b c d f n m Y X1 X2 X3 ∧ Lw n m Y ∧ R1 p m (k + 1) Y) := fun w' h1 h2 =>
        ⟨_, st.put0 hem h2 h1, ly.put (or_lt (ly e hem) (pow_lt h0)), r1.step hat⟩
      clear dd hx hat he st ly r1 HQ vb
      go_wp2_with fail
      refine HADD.out.mono ?_
      rintro e' w7 ⟨rfl, h1, h2⟩
      have HR := Lib.hid (HN2.out w7 h1 h2)
      clear h1 h2
      go_wp2
      go_roundw
      case rel => exact ⟨k + 1, by omega, by go_num, HR⟩
      case measure => simp [intOf]; omega
    · have hkl : k = l := by omega
      subst hkl
      have HR2 : Hid (∃ Y X, St wr V a b c d f n m Y X1 X X3 ∧ R2 p (Fwd p) (fun x j => j = 0 ∧ x ∈ p.entry) n m 0 X2 Y X) := by
        refine ⟨Y, X2, st, ly, L2.out, fun x j h => absurd h (Nat.not_lt_zero _), fun x j _ hx => ?_, fun _ _ _ => rfl⟩
        rw [r1 x j hx, ← HLE.out, List.take_length]
      have c1 := st.p1
      clear dd st ly r1 HQ vb HC
      go_wp2
      go_loopw [66] (fun i wr => ∃ k : Nat, k ≤ m ∧ i = .int .i64 k ∧ Hid (∃ Y X, St wr V a b c d f n m Y X1 X X3 ∧ R2 p (Fwd p) (fun x j => j = 0 ∧ x ∈ p.entry) n m k X2 Y X)) (fun i _ => m - (intOf i).toNat)
      case atStart => exact ⟨0, Nat.zero_le _, rfl, HR2⟩
      clear HR2 c1
      case round =>
        obtain ⟨g, hg, rfl, HQ⟩ := hrel
        by_cases hlg : g < m
        · obtain ⟨Y, X, st, r2⟩ := HQ.out
          have c1 := st.p1
          have c2 := st.s0.cell hlg
          have c3 := st.s2.cell hlg
          have c4 := st.s3.cell hlg
          have HH1 := Lib.hid (has_bit (st.s0.word hlg) (lw64 hn (r2.ly g hlg)) (show 0 < 64 by omega))
          have HH2 := Lib.hid (has_bit (st.s3.word hlg) (lw64 hn (L3.out g hlg)) (show 0 < 64 by omega))
          have HADD := Lib.hid (add_bit (st.s2.row g hlg) (lw64 hn (r2.lx g hlg)) (show 0 < 64 by omega))
          obtain ⟨bA, hbA⟩ : ∃ b, (Y g).testBit 0 = b := ⟨_, rfl⟩
          obtain ⟨bK, hbK⟩ : ∃ b, (X3 g).testBit 0 = b := ⟨_, rfl⟩
          rw [hbA] at HH1
          rw [hbK] at HH2
          have HNO : Hid (bA = false ∨ bK = true → ∃ Y X z, St wr V a b c d f n m Y X1 (put X g z) X3 ∧ R2 p (Fwd p) (fun x j => j = 0 ∧ x ∈ p.entry) n m g X2 Y X ∧ Zs p n g z) := fun hb =>
            ⟨Y, X, X g, by rw [put_self]; exact st, r2, zs_no r2 hlg E2.out E3.out (by rw [hbA, hbK]; exact hb)⟩
          have HYES : Hid (bA = true → bK = false → ∀ w', Is w' (d + 1 + g) 40 #[.int .u64 ((X g ||| 2 ^ 0 : Nat) : Int)] → But (d + 1 + g) wr w' → ∃ Y X z, St w' V a b c d f n m Y X1 (put X g z) X3 ∧ R2 p (Fwd p) (fun x j => j = 0 ∧ x ∈ p.entry) n m g X2 Y X ∧ Zs p n g z) := fun hb hb2 w' h1 h2 =>
            ⟨Y, X, _, st.put2 hlg h2 h1, r2, zs_yes r2 hlg HN.out.symm h0 E2.out E3.out (by rw [hbA]; exact hb) (by rw [hbK]; exact hb2)⟩
          clear hbA hbK st r2 HQ
          have HFL : Hid (∀ w7, (∃ Y X z, St w7 V a b c d f n m Y X1 (put X g z) X3 ∧ R2 p (Fwd p) (fun x j => j = 0 ∧ x ∈ p.entry) n m g X2 Y X ∧ Zs p n g z) →
              w7.cell? ⟨f, g, none⟩ = some (.slice (some ⟨f + 1 + g, 0, none⟩) 1 1) ∧
              Calls Tryd.prog 27 #[.slice (some ⟨d + 1 + g, 0, none⟩) 1 1, .slice (some ⟨f + 1 + g, 0, none⟩) 1 1, .slice (some ⟨c, 0, none⟩) n n] w7 fun e w' =>
                ∃ A lv cp, e = .returned (.slice A lv cp) ∧ lv ≤ 64 ∧ Hid (∃ Y X z L y0, L.length = lv ∧ St w' V a b c d f n m (put Y g y0) X1 (put X g z) X3 ∧ R2 p (Fwd p) (fun x j => j = 0 ∧ x ∈ p.entry) n m g X2 Y X ∧ Zs p n g z ∧ (∀ i, i ∈ L ↔ Rc z (X3 g) X1 i) ∧ (∀ i ∈ L, i < n) ∧ Y g = y0 ∧ Own w' (f + m) (.slice A lv cp) L)) := by
            rintro w7 ⟨Y, X, z, st, r2, hz⟩
            refine ⟨st.s3.cell hlg, ?_⟩
            have hrow := st.s2.row g hlg
            rw [put_here] at hrow
            refine (flood_any (HTV.out.below st.vb HTV.out.pos) hrow (st.s3.row g hlg) st.s1 L1.out hz.1 (L3.out g hlg) hn).mono ?_
            rintro e w' ⟨v, L, rfl, ho, hl64, hmem, hlt, hb⟩
            obtain ⟨A, cp, rfl, _⟩ := Tr.own_slice ho
            have hf := st.s3.lt
            exact ⟨A, _, cp, rfl, hl64, Y, X, z, L, Y g, rfl, by rw [put_self]; exact st.below hb, r2, hz, hmem, hlt, rfl, ⟨ho.1, ho.2.imp id fun ⟨q, cap, cur, h1, h2, h3, h4, h5, h6⟩ => ⟨q, cap, cur, h1, by omega, h3, h4, h5, h6⟩⟩⟩
          cases bA with
          | false =>
            have HM7 := Lib.hid (HNO.out (.inl rfl))
            clear HNO HYES HADD HH2
            go_wp2_with fail
            refine HH1.out.mono ?_
            rintro e w7 ⟨rfl, rfl⟩
            clear c1 c2 c4 HH1
            have HFW := HFL.out _ HM7.out
            obtain ⟨c5, HFW⟩ := HFW
            have HFW := Lib.hid HFW
            go_wp2_with fail
            refine HFW.out.mono ?_
            rintro e w8 ⟨A, lv, cp, rfl, hlv, HQ8⟩
            clear c5 HFW HM7 HFL
            have HQ9 : Hid (∃ Y X z L y0 y, L.length = lv ∧ St w8 V a b c d f n m (put Y g y) X1 (put X g z) X3 ∧ R2 p (Fwd p) (fun x j => j = 0 ∧ x ∈ p.entry) n m g X2 Y X ∧ Zs p n g z ∧ (∀ i, i ∈ L ↔ Rc z (X3 g) X1 i) ∧ (∀ i ∈ L, i < n) ∧ Y g = y0 ∧ Own w8 (f + m) (.slice A lv cp) L ∧ R3 L X1 n y0 0 y) := by
              obtain ⟨Y, X, z, L, y0, r0, r1, r2, r3, r4, r5, r6, r7⟩ := HQ8.out
              exact ⟨Y, X, z, L, y0, y0, r0, r1, r2, r3, r4, r5, r6, r7, R3.start (r6 ▸ r2.ly g hlg)⟩
            clear HQ8
            go_wp2
            go_loopw [103] (fun i wr => ∃ q : Nat, q ≤ lv ∧ i = .int .i64 q ∧ Hid (∃ Y X z L y0 y, L.length = lv ∧ St wr V a b c d f n m (put Y g y) X1 (put X g z) X3 ∧ R2 p (Fwd p) (fun x j => j = 0 ∧ x ∈ p.entry) n m g X2 Y X ∧ Zs p n g z ∧ (∀ i, i ∈ L ↔ Rc z (X3 g) X1 i) ∧ (∀ i ∈ L, i < n) ∧ Y g = y0 ∧ Own wr (f + m) (.slice A lv cp) L ∧ R3 L X1 n y0 q y)) (fun i _ => lv - (intOf i).toNat)
            case atStart => exact ⟨0, Nat.zero_le _, rfl, HQ9⟩
            clear HQ9
            case round =>
              obtain ⟨q, hq, rfl, HQ⟩ := hrel
              obtain ⟨Y, X, z, L, y0, y, r0, r1, r2, r3, r4, r5, r6, r7, r8⟩ := HQ.out
              by_cases hlq : q < lv
              · obtain ⟨i, hi⟩ : ∃ i, L[q]? = some i := ⟨_, List.getElem?_eq_getElem (by omega)⟩
                have hin : i < n := r5 i (List.mem_of_getElem? hi)
                obtain ⟨A0, rfl⟩ : ∃ g, A = some ⟨g, 0, none⟩ := by
                  rcases r7.2 with ⟨e, h0⟩ | ⟨g, cap, cur, e, _⟩
                  · omega
                  · injection e with e _ _
                    exact ⟨g, e⟩
                have r9 := r7
                unfold Own at r9
                rw [r0] at r9
                have k1 := r9.cellAt q (by omega)
                have e4 : (natsC L)[q]? = some (.int .i64 (i : Int)) := by unfold natsC; rw [List.getElem?_map, hi]; rfl
                rw [e4] at k1
                have k2 := r1.p1
                have k3 := r1.s0.cell hlg
                have k4 := r1.s1.cell hin
                have hrow := r1.s0.row g hlg
                rw [put_here] at hrow
                have HAA := Lib.hid (addAll_any (w := wr.drew) hrow.drew (r1.s1.row i hin).drew (lw64 hn r8.1) (lw64 hn (L1.out i hin)))
                have HN2 : Hid (∀ w', Is w' (b + 1 + g) 40 #[.int .u64 ((y ||| X1 i : Nat) : Int)] → But (b + 1 + g) wr.drew w' → ∃ Y X z L y0 y, L.length = lv ∧ St w' V a b c d f n m (put Y g y) X1 (put X g z) X3 ∧ R2 p (Fwd p) (fun x j => j = 0 ∧ x ∈ p.entry) n m g X2 Y X ∧ Zs p n g z ∧ (∀ i, i ∈ L ↔ Rc z (X3 g) X1 i) ∧ (∀ i ∈ L, i < n) ∧ Y g = y0 ∧ Own w' (f + m) (.slice (some ⟨A0, 0, none⟩) lv cp) L ∧ R3 L X1 n y0 (q + 1) y) := fun w' h1 h2 =>
                  ⟨Y, X, z, L, y0, _, r0, by have := r1.put0 hlg (((But.refl _ wr).drew).trans h2) h1; rw [put_twice] at this; exact this, r2, r3, r4, r5, r6, own_but r7 (((But.refl _ wr).drew).trans h2) hrow (by decide), r8.step hi (L1.out i hin)⟩
                clear hi e4 hrow r9 r0 r1 r2 r3 r4 r5 r6 r7 r8 HQ
                go_wp2_with fail
                go_region_law ((go_simp; go_at_call 28; refine HAA.out.mono ?_; rintro e w9 ⟨rfl, h1, h2⟩))
                all_goals
                  have HR := Lib.hid (HN2.out w9 h1 h2)
                  clear h1 h2
                  go_wp2
                  go_roundw
                  case rel => exact ⟨q + 1, by omega, by go_num, HR⟩
                  case measure => simp [intOf]; omega
              · have HR : Hid (∃ Y X, St wr V a b c d f n m Y X1 X X3 ∧ R2 p (Fwd p) (fun x j => j = 0 ∧ x ∈ p.entry) n m (g + 1) X2 Y X) := by
                  refine ⟨_, _, r1, r2.next r3.1 r8.1 (fwd_done r3 (fun i => ?_) E1.out r4 (fun j => ?_) (by have := HN.out; omega) (q := q) (by omega) r8)⟩
                  · rw [Bool.eq_iff_iff]; exact E3.out g i
                  · rw [← r6]; exact r2.todo g j (Nat.le_refl _) hlg
                clear r0 r1 r2 r3 r4 r5 r6 r7 r8 HQ
                go_wp2
                go_roundw
                case rel => exact ⟨g + 1, by omega, by go_num, HR⟩
                case measure => simp [intOf]; omega
          | true =>
            cases bK with
            | true =>
              have HM7 := Lib.hid (HNO.out (.inr rfl))
              clear HNO HYES HADD
              go_wp2_with fail
              refine HH1.out.mono ?_
              rintro e w7 ⟨rfl, rfl⟩
              go_wp2_with fail
              refine HH2.out.mono ?_
              rintro e w7 ⟨rfl, rfl⟩
              clear c1 c2 c4 HH1 HH2
              have HFW := HFL.out _ HM7.out
              obtain ⟨c5, HFW⟩ := HFW
              have HFW := Lib.hid HFW
              go_wp2_with fail
              refine HFW.out.mono ?_
              rintro e w8 ⟨A, lv, cp, rfl, hlv, HQ8⟩
              clear c5 HFW HM7 HFL
              have HQ9 : Hid (∃ Y X z L y0 y, L.length = lv ∧ St w8 V a b c d f n m (put Y g y) X1 (put X g z) X3 ∧ R2 p (Fwd p) (fun x j => j = 0 ∧ x ∈ p.entry) n m g X2 Y X ∧ Zs p n g z ∧ (∀ i, i ∈ L ↔ Rc z (X3 g) X1 i) ∧ (∀ i ∈ L, i < n) ∧ Y g = y0 ∧ Own w8 (f + m) (.slice A lv cp) L ∧ R3 L X1 n y0 0 y) := by
                obtain ⟨Y, X, z, L, y0, r0, r1, r2, r3, r4, r5, r6, r7⟩ := HQ8.out
                exact ⟨Y, X, z, L, y0, y0, r0, r1, r2, r3, r4, r5, r6, r7, R3.start (r6 ▸ r2.ly g hlg)⟩
              clear HQ8
              go_wp2
              go_loopw [103] (fun i wr => ∃ q : Nat, q ≤ lv ∧ i = .int .i64 q ∧ Hid (∃ Y X z L y0 y, L.length = lv ∧ St wr V a b c d f n m (put Y g y) X1 (put X g z) X3 ∧ R2 p (Fwd p) (fun x j => j = 0 ∧ x ∈ p.entry) n m g X2 Y X ∧ Zs p n g z ∧ (∀ i, i ∈ L ↔ Rc z (X3 g) X1 i) ∧ (∀ i ∈ L, i < n) ∧ Y g = y0 ∧ Own wr (f + m) (.slice A lv cp) L ∧ R3 L X1 n y0 q y)) (fun i _ => lv - (intOf i).toNat)
              case atStart => exact ⟨0, Nat.zero_le _, rfl, HQ9⟩
              clear HQ9
              case round =>
                obtain ⟨q, hq, rfl, HQ⟩ := hrel
                obtain ⟨Y, X, z, L, y0, y, r0, r1, r2, r3, r4, r5, r6, r7, r8⟩ := HQ.out
                by_cases hlq : q < lv
                · obtain ⟨i, hi⟩ : ∃ i, L[q]? = some i := ⟨_, List.getElem?_eq_getElem (by omega)⟩
                  have hin : i < n := r5 i (List.mem_of_getElem? hi)
                  obtain ⟨A0, rfl⟩ : ∃ g, A = some ⟨g, 0, none⟩ := by
                    rcases r7.2 with ⟨e, h0⟩ | ⟨g, cap, cur, e, _⟩
                    · omega
                    · injection e with e _ _
                      exact ⟨g, e⟩
                  have r9 := r7
                  unfold Own at r9
                  rw [r0] at r9
                  have k1 := r9.cellAt q (by omega)
                  have e4 : (natsC L)[q]? = some (.int .i64 (i : Int)) := by unfold natsC; rw [List.getElem?_map, hi]; rfl
                  rw [e4] at k1
                  have k2 := r1.p1
                  have k3 := r1.s0.cell hlg
                  have k4 := r1.s1.cell hin
                  have hrow := r1.s0.row g hlg
                  rw [put_here] at hrow
                  have HAA := Lib.hid (addAll_any (w := wr.drew) hrow.drew (r1.s1.row i hin).drew (lw64 hn r8.1) (lw64 hn (L1.out i hin)))
                  have HN2 : Hid (∀ w', Is w' (b + 1 + g) 40 #[.int .u64 ((y ||| X1 i : Nat) : Int)] → But (b + 1 + g) wr.drew w' → ∃ Y X z L y0 y, L.length = lv ∧ St w' V a b c d f n m (put Y g y) X1 (put X g z) X3 ∧ R2 p (Fwd p) (fun x j => j = 0 ∧ x ∈ p.entry) n m g X2 Y X ∧ Zs p n g z ∧ (∀ i, i ∈ L ↔ Rc z (X3 g) X1 i) ∧ (∀ i ∈ L, i < n) ∧ Y g = y0 ∧ Own w' (f + m) (.slice (some ⟨A0, 0, none⟩) lv cp) L ∧ R3 L X1 n y0 (q + 1) y) := fun w' h1 h2 =>
                    ⟨Y, X, z, L, y0, _, r0, by have := r1.put0 hlg (((But.refl _ wr).drew).trans h2) h1; rw [put_twice] at this; exact this, r2, r3, r4, r5, r6, own_but r7 (((But.refl _ wr).drew).trans h2) hrow (by decide), r8.step hi (L1.out i hin)⟩
                  clear hi e4 hrow r9 r0 r1 r2 r3 r4 r5 r6 r7 r8 HQ
                  go_wp2_with fail
                  go_region_law ((go_simp; go_at_call 28; refine HAA.out.mono ?_; rintro e w9 ⟨rfl, h1, h2⟩))
                  all_goals
                    have HR := Lib.hid (HN2.out w9 h1 h2)
                    clear h1 h2
                    go_wp2
                    go_roundw
                    case rel => exact ⟨q + 1, by omega, by go_num, HR⟩
                    case measure => simp [intOf]; omega
                · have HR : Hid (∃ Y X, St wr V a b c d f n m Y X1 X X3 ∧ R2 p (Fwd p) (fun x j => j = 0 ∧ x ∈ p.entry) n m (g + 1) X2 Y X) := by
                    refine ⟨_, _, r1, r2.next r3.1 r8.1 (fwd_done r3 (fun i => ?_) E1.out r4 (fun j => ?_) (by have := HN.out; omega) (q := q) (by omega) r8)⟩
                    · rw [Bool.eq_iff_iff]; exact E3.out g i
                    · rw [← r6]; exact r2.todo g j (Nat.le_refl _) hlg
                  clear r0 r1 r2 r3 r4 r5 r6 r7 r8 HQ
                  go_wp2
                  go_roundw
                  case rel => exact ⟨g + 1, by omega, by go_num, HR⟩
                  case measure => simp [intOf]; omega
            | false =>
              go_wp2_with fail
              refine HH1.out.mono ?_
              rintro e w7 ⟨rfl, rfl⟩
              go_wp2_with fail
              refine HH2.out.mono ?_
              rintro e w7 ⟨rfl, rfl⟩
              go_wp2_with fail
              refine HADD.out.mono ?_
              rintro e w7 ⟨rfl, h1, h2⟩
              have HM7 := Lib.hid (HYES.out trivial trivial w7 h1 h2)
              clear HNO HYES HADD c1 c2 c3 c4 HH1 HH2 h1 h2
              have HFW := HFL.out _ HM7.out
              obtain ⟨c5, HFW⟩ := HFW
              have HFW := Lib.hid HFW
              go_wp2_with fail
              refine HFW.out.mono ?_
              rintro e w8 ⟨A, lv, cp, rfl, hlv, HQ8⟩
              clear c5 HFW HM7 HFL
              have HQ9 : Hid (∃ Y X z L y0 y, L.length = lv ∧ St w8 V a b c d f n m (put Y g y) X1 (put X g z) X3 ∧ R2 p (Fwd p) (fun x j => j = 0 ∧ x ∈ p.entry) n m g X2 Y X ∧ Zs p n g z ∧ (∀ i, i ∈ L ↔ Rc z (X3 g) X1 i) ∧ (∀ i ∈ L, i < n) ∧ Y g = y0 ∧ Own w8 (f + m) (.slice A lv cp) L ∧ R3 L X1 n y0 0 y) := by
                obtain ⟨Y, X, z, L, y0, r0, r1, r2, r3, r4, r5, r6, r7⟩ := HQ8.out
                exact ⟨Y, X, z, L, y0, y0, r0, r1, r2, r3, r4, r5, r6, r7, R3.start (r6 ▸ r2.ly g hlg)⟩
              clear HQ8
              go_wp2
              go_loopw [103] (fun i wr => ∃ q : Nat, q ≤ lv ∧ i = .int .i64 q ∧ Hid (∃ Y X z L y0 y, L.length = lv ∧ St wr V a b c d f n m (put Y g y) X1 (put X g z) X3 ∧ R2 p (Fwd p) (fun x j => j = 0 ∧ x ∈ p.entry) n m g X2 Y X ∧ Zs p n g z ∧ (∀ i, i ∈ L ↔ Rc z (X3 g) X1 i) ∧ (∀ i ∈ L, i < n) ∧ Y g = y0 ∧ Own wr (f + m) (.slice A lv cp) L ∧ R3 L X1 n y0 q y)) (fun i _ => lv - (intOf i).toNat)
              case atStart => exact ⟨0, Nat.zero_le _, rfl, HQ9⟩
              clear HQ9
              case round =>
                obtain ⟨q, hq, rfl, HQ⟩ := hrel
                obtain ⟨Y, X, z, L, y0, y, r0, r1, r2, r3, r4, r5, r6, r7, r8⟩ := HQ.out
                by_cases hlq : q < lv
                · obtain ⟨i, hi⟩ : ∃ i, L[q]? = some i := ⟨_, List.getElem?_eq_getElem (by omega)⟩
                  have hin : i < n := r5 i (List.mem_of_getElem? hi)
                  obtain ⟨A0, rfl⟩ : ∃ g, A = some ⟨g, 0, none⟩ := by
                    rcases r7.2 with ⟨e, h0⟩ | ⟨g, cap, cur, e, _⟩
                    · omega
                    · injection e with e _ _
                      exact ⟨g, e⟩
                  have r9 := r7
                  unfold Own at r9
                  rw [r0] at r9
                  have k1 := r9.cellAt q (by omega)
                  have e4 : (natsC L)[q]? = some (.int .i64 (i : Int)) := by unfold natsC; rw [List.getElem?_map, hi]; rfl
                  rw [e4] at k1
                  have k2 := r1.p1
                  have k3 := r1.s0.cell hlg
                  have k4 := r1.s1.cell hin
                  have hrow := r1.s0.row g hlg
                  rw [put_here] at hrow
                  have HAA := Lib.hid (addAll_any (w := wr.drew) hrow.drew (r1.s1.row i hin).drew (lw64 hn r8.1) (lw64 hn (L1.out i hin)))
                  have HN2 : Hid (∀ w', Is w' (b + 1 + g) 40 #[.int .u64 ((y ||| X1 i : Nat) : Int)] → But (b + 1 + g) wr.drew w' → ∃ Y X z L y0 y, L.length = lv ∧ St w' V a b c d f n m (put Y g y) X1 (put X g z) X3 ∧ R2 p (Fwd p) (fun x j => j = 0 ∧ x ∈ p.entry) n m g X2 Y X ∧ Zs p n g z ∧ (∀ i, i ∈ L ↔ Rc z (X3 g) X1 i) ∧ (∀ i ∈ L, i < n) ∧ Y g = y0 ∧ Own w' (f + m) (.slice (some ⟨A0, 0, none⟩) lv cp) L ∧ R3 L X1 n y0 (q + 1) y) := fun w' h1 h2 =>
                    ⟨Y, X, z, L, y0, _, r0, by have := r1.put0 hlg (((But.refl _ wr).drew).trans h2) h1; rw [put_twice] at this; exact this, r2, r3, r4, r5, r6, own_but r7 (((But.refl _ wr).drew).trans h2) hrow (by decide), r8.step hi (L1.out i hin)⟩
                  clear hi e4 hrow r9 r0 r1 r2 r3 r4 r5 r6 r7 r8 HQ
                  go_wp2_with fail
                  go_region_law ((go_simp; go_at_call 28; refine HAA.out.mono ?_; rintro e w9 ⟨rfl, h1, h2⟩))
                  all_goals
                    have HR := Lib.hid (HN2.out w9 h1 h2)
                    clear h1 h2
                    go_wp2
                    go_roundw
                    case rel => exact ⟨q + 1, by omega, by go_num, HR⟩
                    case measure => simp [intOf]; omega
                · have HR : Hid (∃ Y X, St wr V a b c d f n m Y X1 X X3 ∧ R2 p (Fwd p) (fun x j => j = 0 ∧ x ∈ p.entry) n m (g + 1) X2 Y X) := by
                    refine ⟨_, _, r1, r2.next r3.1 r8.1 (fwd_done r3 (fun i => ?_) E1.out r4 (fun j => ?_) (by have := HN.out; omega) (q := q) (by omega) r8)⟩
                    · rw [Bool.eq_iff_iff]; exact E3.out g i
                    · rw [← r6]; exact r2.todo g j (Nat.le_refl _) hlg
                  clear r0 r1 r2 r3 r4 r5 r6 r7 r8 HQ
                  go_wp2
                  go_roundw
                  case rel => exact ⟨g + 1, by omega, by go_num, HR⟩
                  case measure => simp [intOf]; omega
        · have hge : g = m := by omega
          subst hge
          have HF : Hid (∃ Y, Ans wr a n g Y ∧ Below H w wr ∧ ∀ x j, x < g → ((Y x).testBit j = true ↔ Fwd p (x : Int) j)) := by
            obtain ⟨Y, X, st, r2⟩ := HQ.out
            exact ⟨Y, st.ans r2.ly, HB.out.trans (st.vb.mono (Nat.le_of_lt hHV)), fun x j hx => r2.done x j hx⟩
          clear HQ
          go_wp2
          go_ret2
          obtain ⟨Y, h1, h2, h3⟩ := HF.out
          exact ⟨a, Y, rfl, h1, h2, h3⟩
end Fl
end Go.Proofs.YtbeepedobnaojaaDoor

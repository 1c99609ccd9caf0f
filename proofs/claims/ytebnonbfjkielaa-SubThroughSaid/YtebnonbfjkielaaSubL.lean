/- Layer 10: a type with other regions: With. -/
import Derived.Deep.RegionLaw
import Derived.Laws.OwnMore
import Derived.Test.YtebnonbfjkielaaOnly
import Derived.Test.YtebnonbfjkielaaSubK
namespace Go.Proofs.Ytebnonbfjkielaa
open Go.RowKit Go.Deep Tr Ts Vy Mp
namespace Sb
/-- A slice of whole numbers that may be cut. -/
def RowS (w : World) (v : Value) (l : List Int) : Prop := (v = .slice none 0 0 ∧ l = []) ∨ ∃ bk o c, v = .slice (some ⟨bk, o, none⟩) l.length c ∧ l.length ≤ c ∧ c ≤ maxLen ∧ bk < w.heap.size ∧ ∀ (i : Nat) (h : i < l.length), w.cell? ⟨bk, o + i, none⟩ = some (.int .i64 l[i])
theorem RowS.below {w w' : World} {v : Value} {l : List Int} (h : RowS w v l) (hb : Below w.heap.size w w') : RowS w' v l := by
  rcases h with h | ⟨bk, o, c, e, h1, h2, h3, h4⟩
  · exact .inl h
  · exact .inr ⟨bk, o, c, e, h1, h2, Nat.lt_of_lt_of_le h3 hb.size, fun i hi => (hb.cell (p := ⟨bk, o + i, none⟩) h3).trans (h4 i hi)⟩
def qW (S0 S : Nat) (b : Nat) : Bool := decide (b < S0) || decide (S ≤ b)
/-- What is left of one slice, when so many are taken off it. -/
def Left (lv : Value) (l : List Int) (lw : Value) (q : Nat) : Prop := ∀ X, RowS X lv l → RowS X lw (l.drop q)
def WithOk (W0 : World) (n : Nat) : Prop := ∀ (x : Ty) (cs : List Value) (m : Nat) (l : List Int) (lv : Value) (W : World), TyAt W0 n x cs → Slim m x → Below W0.heap.size W0 W → RowS W lv l → (allP x).length ≤ l.length →
  Calls Try.prog 17 #[.agg cs.toArray, lv] W fun e W' => ∃ (ds : List Value) (lw : Value), e = .returned (.tuple #[.agg ds.toArray, lw]) ∧ TyAt (only (qW W0.heap.size W.heap.size) W') n (withP x l) ds ∧ Left lv l lw (allP x).length ∧ Below W.heap.size W W'
theorem boxes3 (w : World) (o0 o1 o2 : Obj) (t0 t1 t2 : Nat) (c0 c1 c2 : Array Value) (h0 : o0 = .cells c0 t0) (h1 : o1 = .cells c1 t1) (h2 : o2 = .cells c2 t2) :
    Is (((w.alloc o0).alloc o1).alloc o2) w.heap.size t0 c0 ∧ Is (((w.alloc o0).alloc o1).alloc o2) (w.heap.size + 1) t1 c1 ∧ Is (((w.alloc o0).alloc o1).alloc o2) (w.heap.size + 1 + 1) t2 c2 := by
  subst h0 h1 h2
  refine ⟨((Is.made w _ _).alloc _).alloc _, ?_, ?_⟩
  · have := Is.made (w.alloc (.cells c0 t0)) t1 c1
    rw [show (w.alloc (.cells c0 t0)).heap.size = w.heap.size + 1 by simp] at this
    exact this.alloc _
  · have := Is.made ((w.alloc (.cells c0 t0)).alloc (.cells c1 t1)) t2 c2
    rwa [show ((w.alloc (.cells c0 t0)).alloc (.cells c1 t1)).heap.size = w.heap.size + 1 + 1 by simp] at this
theorem withL_append : ∀ (a : List Ty) (x : Ty) (l : List Int), withL (a ++ [x]) l = withL a l ++ [withP x (l.drop (gathL ownP a).length)]
  | [], x, l => by rw [List.nil_append, withL, withL, withL, gathL]; rfl
  | y :: a, x, l => by rw [List.cons_append, withL, withL_append a x, withL, gathL_cons, List.length_append, List.drop_drop]; rfl
theorem Left.nil {lv : Value} {l : List Int} : Left lv l lv 0 := fun _ h => by rw [List.drop_zero]; exact h
theorem Left.trans {lv lw lz : Value} {l : List Int} {p q : Nat} (h : Left lv l lw p) (k : Left lw (l.drop p) lz q) : Left lv l lz (p + q) := fun X hX => by
  have := k X (h X hX)
  rwa [List.drop_drop] at this
theorem left_cut {lb lo lc no : Nat} {l : List Int} (_ : lc ≠ no) : Left (.slice (some ⟨lb, lo, none⟩) l.length lc) l (.slice (some ⟨lb, lo + no, none⟩) (l.length - no) (lc - no)) no := fun X hX => by
  rcases hX with ⟨e, _⟩ | ⟨bk, o, c, e, h1, h2, h3, h4⟩
  · injection e with e _ _
    cases e
  · injection e with e e2 e3
    injection e with e
    injection e with e4 e5
    subst e3 e4 e5
    refine .inr ⟨lb, lo + no, lc - no, by rw [List.length_drop], by rw [List.length_drop]; omega, by omega, h3, fun i hi => ?_⟩
    rw [List.length_drop] at hi
    rw [List.getElem_drop, Nat.add_assoc]
    exact h4 (no + i) (by omega)
theorem left_end {lb lo lc no : Nat} {l : List Int} (hn : no ≤ l.length) (hc : lc = no) : Left (.slice (some ⟨lb, lo, none⟩) l.length lc) l (.slice (some ⟨lb, lo, none⟩) (l.length - no) 0) no := fun X hX => by
  rcases hX with ⟨e, _⟩ | ⟨bk, o, c, e, h1, h2, h3, h4⟩
  · injection e with e _ _
    cases e
  · injection e with e e2 e3
    injection e with e
    injection e with e4 e5
    subst e3 e4 e5
    have h0 : l.length = no := by omega
    refine .inr ⟨lb, lo, 0, by rw [List.length_drop], by rw [List.length_drop]; omega, Nat.zero_le _, h3, fun i hi => ?_⟩
    rw [List.length_drop] at hi
    omega
def zeroTy : Value := .agg #[.int .i64 0, .string ⟨#[]⟩, .bool false, .int .i64 0, .slice none 0 0, .slice none 0 0]
theorem info_ty : (Try.prog.info? 25).map (fun i => (i.zero, i.size, i.bytes)) = some (some zeroTy, 6, 88) := by kernel_rfl
/-- The frame of the loop: what has been made so far, and all that stands. -/
def qR (S0 N : Nat) (av : Value) (b : Nat) : Bool := decide (b < S0) || (decide (N + 1 + 1 + 1 ≤ b) && !decide (av.ownBlock = some b))
structure WI (n N S0 : Nat) (V3 : World) (k : Int) (nm : ByteArray) (u : Bool) (r : Int) (Rv : Value) (ys : List Ty) (av : Value) (X : World) (xs : List Value) : Prop where
  own : X.ownsRow (N + 1 + 1 + 1) 25 6 av ys.length xs
  one : ∀ w ∈ xs, w.oneCell' = true
  tr : ∀ (i : Nat) (h : i < ys.length), TyAt (only (qR S0 N av) X) n ys[i] ((xs.drop (i * 6)).take 6)
  out : Is X (N + 1 + 1) 25 #[.int .i64 k, .string nm, .bool u, .int .i64 r, Rv, av]
  kp : Kp 25 (some (N + 1 + 1)) (N + 1 + 1 + 1) V3 X
  big : N + 1 + 1 + 1 ≤ X.heap.size
theorem wi_start (n N S0 : Nat) (V3 : World) (k : Int) (nm : ByteArray) (u : Bool) (r : Int) (Rv : Value) (h : Is V3 (N + 1 + 1) 25 #[.int .i64 k, .string nm, .bool u, .int .i64 r, Rv, .slice none 0 0]) (hs : N + 1 + 1 + 1 ≤ V3.heap.size) :
    WI n N S0 V3 k nm u r Rv [] (.slice none 0 0) V3 [] := ⟨World.ownsRow_nil _ _ _ _, fun _ h => (by cases h), fun _ h => absurd h (by simp), h, .refl _ _ _ _, hs⟩
theorem own_set' {w : World} {B te sz n : Nat} {v : Value} {xs : List Value} (h : w.ownsRow B te sz v n xs) {p : Addr} (hp : p.block < B) (u : Value) : (w.setCell p u).ownsRow B te sz v n xs :=
  h.kept (row := some p.block) ⟨rfl, rfl, rfl, by simp [World.setCell], fun b _ hb => Below.heap_setCell _ _ _ _ (fun e => hb (by rw [e]))⟩ (.inr fun e => by have := (h.lt _ e).1; omega)
/-- One part more. -/
theorem wi_step {n N S0 g cap : Nat} {V3 X W5 W6 : World} {k : Int} {nm : ByteArray} {u : Bool} {r : Int} {Rv : Value} {ys : List Ty} {av : Value} {xs ds : List Value} {y : Ty} (hw : WI n N S0 V3 k nm u r Rv ys av X xs) (hS : S0 ≤ N)
    (hd : TyAt (only (qW S0 X.heap.size) W5) n y ds) (hb : Below X.heap.size X W5) (o o' : Obj)
    (hown : W6.ownsRow (N + 1 + 1 + 1) 25 6 (.slice (some ⟨g, 0, none⟩) (ys.length + 1) cap) (ys.length + 1) (xs ++ ds)) (hg : ((W5.alloc o).alloc o').grownBy W6 av.ownBlock) (hgg : av.ownBlock = some g ∨ g = W5.heap.size + 1 + 1) :
    WI n N S0 V3 k nm u r Rv (ys ++ [y]) (.slice (some ⟨g, 0, none⟩) (ys.length + 1) cap) (W6.setCell ⟨N + 1 + 1, 5, none⟩ (.slice (some ⟨g, 0, none⟩) (ys.length + 1) cap)) (xs ++ ds) := by
  obtain ⟨ho, h1, ht, hi, hk, hs⟩ := hw
  have hX5 : Below X.heap.size X ((W5.alloc o).alloc o') := (hb.alloc hb.size o).alloc (Nat.le_trans hb.size (by simp)) o'
  have hsz : ((W5.alloc o).alloc o').heap.size = W5.heap.size + 1 + 1 := by simp
  have hlo : ∀ q, av.ownBlock = some q → N + 1 + 1 + 1 ≤ q ∧ q < X.heap.size := ho.lt
  have hk6 : Kp 25 (some (N + 1 + 1)) (N + 1 + 1 + 1) X W6 := (Kp.of hX5).trans (Kp.own (own_below ho hX5) hg)
  have hss : (W6.setCell ⟨N + 1 + 1, 5, none⟩ (.slice (some ⟨g, 0, none⟩) (ys.length + 1) cap)).heap.size = W6.heap.size := by simp [World.setCell]
  have hset : ∀ b, b ≠ N + 1 + 1 → (W6.setCell ⟨N + 1 + 1, 5, none⟩ (.slice (some ⟨g, 0, none⟩) (ys.length + 1) cap)).heap[b]? = W6.heap[b]? := fun b hb' => Below.heap_setCell _ _ _ _ hb'
  refine ⟨?_, ?_, ?_, ?_, ?_, ?_⟩
  · rw [List.length_append]
    exact own_set' hown (show N + 1 + 1 < N + 1 + 1 + 1 by omega) _
  · intro w hw
    rcases List.mem_append.1 hw with hw | hw
    · exact h1 w hw
    · exact hd.one.2 w hw
  · refine chunks_append (P := TyAt (only (qR S0 N (.slice (some ⟨g, 0, none⟩) (ys.length + 1) cap)) (W6.setCell ⟨N + 1 + 1, 5, none⟩ (.slice (some ⟨g, 0, none⟩) (ys.length + 1) cap))) n) ho.1 ?_ ?_
    · intro i hi'
      refine (ht i hi').kept (fun b hb' hq => ?_) (by rw [hss]; exact Nat.le_trans hX5.size hg.size) (fun b hb' hq => ?_)
      · simp only [qR, Bool.or_eq_true, Bool.and_eq_true, decide_eq_true_eq, Bool.not_eq_true', Value.ownBlock] at hq ⊢
        rcases hq with hq | hq
        · exact .inl hq
        · refine .inr ⟨hq.1, decide_eq_false fun e => ?_⟩
          have e1 : g = b := by simpa using e
          rcases hgg with e2 | e2
          · exact of_decide_eq_false hq.2 (e2.trans (by rw [e1]))
          · have := hb.size
            omega
      · simp only [qR, Bool.or_eq_true, Bool.and_eq_true, decide_eq_true_eq, Bool.not_eq_true', decide_eq_false_iff_not] at hq
        have hne : b ≠ N + 1 + 1 := by omega
        have hno : ¬ av.ownBlock = some b := fun e => by
          rcases hq with hq | hq
          · have := (hlo _ e).1
            omega
          · exact hq.2 e
        rw [hset b hne]
        exact (hg.block b (Nat.lt_of_lt_of_le hb' hX5.size) (fun e => hno e.symm)).trans (hX5.block b hb')
    · intro i hi'
      have h0 : i = 0 := by simp at hi'; exact hi'
      subst h0
      rw [Nat.zero_mul, List.drop_zero, List.take_of_length_le (Nat.le_of_eq hd.one.1)]
      refine hd.kept (fun b hb' hq => ?_) (by rw [hss]; exact Nat.le_trans (by rw [hsz]; omega) hg.size) (fun b hb' hq => ?_)
      · simp only [qW, qR, Bool.or_eq_true, Bool.and_eq_true, decide_eq_true_eq, Bool.not_eq_true', Value.ownBlock] at hq ⊢
        rcases hq with hq | hq
        · exact .inl hq
        · refine .inr ⟨by omega, decide_eq_false fun e => ?_⟩
          have e1 : g = b := by simpa using e
          rcases hgg with e2 | e2
          · have := (hlo _ e2).2
            omega
          · omega
      · simp only [qW, Bool.or_eq_true, decide_eq_true_eq] at hq
        have hne : b ≠ N + 1 + 1 := by omega
        have hno : ¬ av.ownBlock = some b := fun e => by
          have := hlo _ e
          rcases hq with hq | hq <;> omega
        rw [hset b hne]
        have hbl : b < ((W5.alloc o).alloc o').heap.size := by rw [hsz]; omega
        exact (hg.block b hbl (fun e => hno e.symm)).trans ((Below.heap_alloc _ o' b (by simp; omega)).trans (Below.heap_alloc W5 o b hb'))
  · have h6 : Is W6 (N + 1 + 1) 25 #[.int .i64 k, .string nm, .bool u, .int .i64 r, Rv, av] :=
      (hi.below hX5 hi.lt).grown hg (fun e => by have := (hlo _ e.symm).1; omega)
    exact h6.put 5 _
  · exact hk.trans (hk6.put rfl 5 _)
  · rw [hss]
    exact Nat.le_trans hs (Nat.le_trans hX5.size hg.size)
theorem own_type {w : World} {B e sz n g : Nat} {v : Value} {xs : List Value} (h : w.ownsRow B e sz v n xs) (hg : v.ownBlock = some g) : ∃ cur, w.heap[g]? = some (.cells cur e (0, 0)) := by
  rcases h.2 with ⟨rfl, _⟩ | ⟨b, cap, cur, rfl, _, hh, _⟩
  · cases hg
  · have e1 : b = g := by simpa [Value.ownBlock] using hg
    subst e1
    exact ⟨cur, hh⟩
theorem own_cap {w : World} {B e sz n c : Nat} {A : Option Addr} {xs : List Value} (h : w.ownsRow B e sz (.slice A n c) n xs) : n ≤ c := by
  rcases h.2 with ⟨e1, h0⟩ | ⟨b, cap, cur, e1, _, _, hnc, _⟩
  · rw [h0]; exact Nat.zero_le _
  · injection e1 with _ _ e1
    rw [e1]; exact hnc
theorem list_only {w X : World} {Q : Nat → Bool} {A : Option Addr} {l : List Int} (h : ListAt w 1 IntAt A l) (hb : ∀ bk o, A = some ⟨bk, o, none⟩ → bk < w.heap.size → Q bk = true ∧ X.heap[bk]? = w.heap[bk]?) (hs : w.heap.size ≤ X.heap.size) : ListAt (only Q X) 1 IntAt A l := by
  obtain ⟨xs, h1, h2, h3⟩ := h
  refine ⟨xs, h1, ⟨fun h0 => ?_, h2.2⟩, h3⟩
  obtain ⟨bk, o, e, hl, hc⟩ := h2.1 h0
  obtain ⟨e1, e2⟩ := hb bk o e hl
  refine ⟨bk, o, e, by rw [only_size]; omega, fun i u hu => ?_⟩
  rw [cell_block (w := X) (only_in e1), cell_block (w := w) e2]
  exact hc i u hu
theorem with_end {n N S0 : Nat} {V3 X W' : World} {k : Int} {nm : ByteArray} {u : Bool} {r : Int} {Pq Aa : Option Addr} {Pc ca : Nat} {ys : List Ty} {RS : List Int} {xs : List Value}
    (hw : WI n N S0 V3 k nm u r (.slice Pq RS.length Pc) ys (.slice Aa ys.length ca) X xs) (hnm : nm.size ≤ maxLen) (hc : RS.length ≤ Pc) (hr : ListAt (only (qW S0 N) X) 1 IntAt Pq RS) (hS : S0 ≤ N)
    (hs : W'.heap.size = X.heap.size) (hb : ∀ b, b ≠ N + 1 → W'.heap[b]? = X.heap[b]?) (hR : 0 < RS.length → ∀ bk o, Pq = some ⟨bk, o, none⟩ → bk < X.heap.size → bk ≠ N + 1) :
    TyAt (only (qW S0 N) W') (n + 1) (.mk k nm u r RS ys) [.int .i64 k, .string nm, .bool u, .int .i64 r, .slice Pq RS.length Pc, .slice Aa ys.length ca] := by
  refine ⟨Pq, Pc, Aa, ca, rfl, ⟨⟨hnm, hc⟩, ?_⟩, ?_⟩
  · obtain ⟨zs, h1, h2, h3⟩ := hr
    refine ⟨zs, h1, ⟨fun h0 => ?_, h2.2⟩, h3⟩
    obtain ⟨bk, o, e, hl, hcc⟩ := h2.1 h0
    rw [only_size] at hl
    refine ⟨bk, o, e, by rw [only_size, hs]; exact hl, fun i v hv => ?_⟩
    have hv' := hcc i v hv
    cases hq : qW S0 N bk with
    | false => rw [only_out (show qW S0 N (⟨bk, o + i, none⟩ : Addr).block = false from hq)] at hv'; cases hv'
    | true =>
      rw [cell_block (w := X) (only_in hq)] at hv'
      rw [cell_block (w := W') (only_in hq), cell_block (w := X) (hb bk (hR (by rw [h1.1, Nat.mul_one] at h0; exact h0) bk o e hl))]
      exact hv'
  · obtain ⟨ho, h1, ht, _, _, _⟩ := hw
    refine ⟨xs, ⟨by rw [ho.1], ?_⟩, ⟨fun h0 => ?_, h1⟩, fun i hi => (ht i hi).kept (fun b _ hq => ?_) (Nat.le_of_eq hs.symm) (fun b _ hq => hb b ?_)⟩
    · rcases ho.2 with ⟨_, h0⟩ | ⟨_, _, _, _, _, _, h2, h3, _⟩
      · rw [h0]; exact Nat.zero_le _
      · omega
    · obtain ⟨bk, o, e, hl, hcc⟩ := own_row ho h0
      have hbk : N + 1 + 1 + 1 ≤ bk := (ho.lt bk (by rw [e]; rfl)).1
      refine ⟨bk, o, e, by rw [only_size, hs]; exact hl, fun i v hv => ?_⟩
      rw [cell_block (w := W') (only_in (show qW S0 N bk = true by simp [qW]; omega)), cell_block (w := X) (hb bk (by omega))]
      exact hcc i v hv
    · simp only [qR, qW, Bool.or_eq_true, Bool.and_eq_true, decide_eq_true_eq] at hq ⊢
      rcases hq with hq | hq
      · exact .inl hq
      · exact .inr (by omega)
    · simp only [qR, Bool.or_eq_true, Bool.and_eq_true, decide_eq_true_eq] at hq
      rcases hq with hq | hq <;> omega
theorem rowS_own {N S0 n cp : Nat} {W3 V3 X : World} {Ar : Option Addr} {RS : List Int} (ho : W3.ownsRow (N + 1 + 1 + 1) 3 1 (.slice Ar n cp) n (intsC RS)) (hV : W3.setCell ⟨N + 1 + 1, 4, none⟩ (.slice Ar n cp) = V3) (hk : Kp 25 (some (N + 1 + 1)) (N + 1 + 1 + 1) V3 X) (_ : RS.length = n) :
    ListAt (only (qW S0 N) X) 1 IntAt Ar RS ∧ ∀ bk o, Ar = some ⟨bk, o, none⟩ → bk ≠ N + 1 := by
  obtain ⟨⟨A, c, e, h⟩, _⟩ := rowI_own ho
  injection e with e1 _ _
  subst e1
  have hlo : ∀ bk o, Ar = some ⟨bk, o, none⟩ → N + 1 + 1 + 1 ≤ bk ∧ bk < W3.heap.size := fun bk o e => ho.lt bk (by rw [e]; rfl)
  have hV3 : ∀ b, b ≠ N + 1 + 1 → V3.heap[b]? = W3.heap[b]? := fun b hb => by rw [← hV]; exact Below.heap_setCell _ _ _ _ hb
  have hVs : V3.heap.size = W3.heap.size := by rw [← hV]; simp [World.setCell]
  refine ⟨list_only h (fun bk o e hb => ?_) (by rw [← hVs]; exact hk.size), fun bk o e => by have := (hlo bk o e).1; omega⟩
  have h1 := hlo bk o e
  refine ⟨by simp [qW]; omega, ?_⟩
  obtain ⟨cur, hcur⟩ := own_type ho (show (Value.slice Ar n cp).ownBlock = some bk by rw [e]; rfl)
  have h2 := hV3 bk (by omega)
  rw [hcur] at h2
  rw [hcur, ← h2]
  refine hk.high bk (by rw [hVs]; omega) (not_some (by omega)) (fun cs f e => ?_)
  rw [h2] at e
  injection e with e
  injection e with _ e _
  exact absurd e (by decide)
set_option maxHeartbeats 16000000 in
set_option maxRecDepth 100000 in
theorem with_step (W0 : World) (n : Nat) (IH : Hid (WithOk W0 n)) : WithOk W0 (n + 1) := by
  rintro ⟨k, nm, u, r, rs, ar⟩ cs m l lv W h hs hb hl hlen
  have HH := Lib.hid h
  obtain ⟨i0, hi0, hz0, hz1, hz2⟩ := info_parts info_int
  have HI := Lib.hid hi0
  obtain ⟨t0, hti, ht0, ht1, ht2⟩ := info_parts info_ty
  have HTI := Lib.hid hti
  clear hi0 hti
  obtain ⟨R, cr, A, ca, rfl, ⟨h0, h1⟩, h2⟩ := h
  cases m with
  | zero => exact hs.elim
  | succ m =>
  obtain ⟨_, hrs6, har4, hsm⟩ := hs
  obtain ⟨ow, how⟩ : ∃ q, ownP (.mk k nm u r rs ar) = q := ⟨_, rfl⟩
  obtain ⟨lr, hlr⟩ : ∃ n, rs.length = n := ⟨_, rfl⟩
  obtain ⟨la, hla⟩ : ∃ n, ar.length = n := ⟨_, rfl⟩
  rw [hlr, hla] at HH ⊢
  rw [hlr] at h0 hrs6
  rw [hla] at har4
  rw [allP_mk, how, List.length_append] at hlen
  obtain ⟨o1, ho1⟩ : ∃ o, Obj.cells #[.int .i64 k, .string nm, .bool u, .int .i64 r, .slice R lr cr, .slice A la ca] 25 = o := ⟨_, rfl⟩
  obtain ⟨o2, ho2⟩ : ∃ o, Obj.cells #[.int .i64 0, .string ⟨#[]⟩, .bool false, .int .i64 0, .slice none 0 0, .slice none 0 0] 25 = o := ⟨_, rfl⟩
  obtain ⟨o3, ho3⟩ : ∃ o, Obj.cells #[.int .i64 k, .string nm, .bool u, .int .i64 r, .slice R lr cr, .slice none 0 0] 25 = o := ⟨_, rfl⟩
  obtain ⟨I0, I1, I2⟩ := boxes3 W o1 o2 o3 _ _ _ _ _ _ ho1.symm ho2.symm ho3.symm
  have hBV : Below W.heap.size W (((W.alloc o1).alloc o2).alloc o3) := (((Below.refl _ W).alloc (Nat.le_refl _) o1).alloc (by simp) o2).alloc (by simp; omega) o3
  have hsz : (((W.alloc o1).alloc o2).alloc o3).heap.size = W.heap.size + 1 + 1 + 1 := by simp
  obtain ⟨V, hV⟩ : ∃ V, ((W.alloc o1).alloc o2).alloc o3 = V := ⟨_, rfl⟩
  obtain ⟨N, hN⟩ : ∃ N, W.heap.size = N := ⟨_, rfl⟩
  rw [hV] at I0 I1 I2 hBV hsz
  rw [hN] at I0 I1 I2 hsz
  have HV : Hid (((W.alloc (.cells #[.int .i64 k, .string nm, .bool u, .int .i64 r, .slice R lr cr, .slice A la ca] 25)).alloc (.cells #[.int .i64 0, .string ⟨#[]⟩, .bool false, .int .i64 0, .slice none 0 0, .slice none 0 0] 25)).alloc (.cells #[.int .i64 k, .string nm, .bool u, .int .i64 r, .slice R lr cr, .slice none 0 0] 25) = V) := by rw [← hV, ← ho1, ← ho2, ← ho3]; exact rfl
  have hTV := TyAt.below (hb.trans (hBV.mono hb.size)) _ _ _ HH.out
  have HO := rown_any hTV
  rw [how] at HO
  have HO := Lib.hid HO
  have HN := Lib.hid hN
  have HSZ := Lib.hid hsz
  have J0 := Lib.hid I0
  have J1 := Lib.hid I1
  have J2 := Lib.hid I2
  have HBV := Lib.hid hBV
  have HB := Lib.hid hb
  have HL := Lib.hid hl
  have HLEN := Lib.hid hlen
  have H1 := Lib.hid h1
  have H2 := Lib.hid h2
  have H0 := Lib.hid h0
  have HLR := Lib.hid hlr
  have HLA := Lib.hid hla
  have HSM := Lib.hid hsm
  have HOW := Lib.hid how
  clear h0 h1 h2 hlr hla how hsm hl hb hBV hsz hTV I0 I1 I2 ho1 ho2 ho3 hV hN hlen
  go_enter Try.func17, Try.ntmps17
  go_wp2_with fail
  rw [HV.out]
  try rw [HN.out]
  refine HO.out.mono ?_
  rintro e W2 ⟨vo, rfl, r1, b1⟩
  obtain ⟨Ao, co, rfl, _⟩ := r1
  have B2 : Hid (Below W.heap.size W W2) := HBV.out.trans (b1.mono HBV.out.size)
  have hs2 : N + 1 + 1 + 1 ≤ W2.heap.size := by rw [← HSZ.out]; exact b1.size
  have I0 := J0.out.below b1 J0.out.lt
  have I1 := J1.out.below b1 J1.out.lt
  have I2 := J2.out.below b1 J2.out.lt
  have n0 := I0.at_ 0
  have n1 := I0.at_ 1
  have n2 := I0.at_ 2
  have n3 := I0.at_ 3
  have n4 := I0.at_ 4
  have n5 := I0.at_ 5
  have p0 := I2.at_ 0
  have p1 := I2.at_ 1
  have p2 := I2.at_ 2
  have p3 := I2.at_ 3
  have p4 := I2.at_ 4
  have p5 := I2.at_ 5
  have f3 := I2.free 3
  have f4 := I2.free 4
  simp only [List.getElem?_toArray, List.getElem?_cons_zero, List.getElem?_cons_succ] at n0 n1 n2 n3 n4 n5 p0 p1 p2 p3 p4 p5
  have HI0 := Lib.hid I0
  have HI1 := Lib.hid I1
  have HI2 := Lib.hid I2
  clear b1 HO HBV J0 J1 J2 I0 I1 I2 HV
  obtain ⟨no, hno⟩ : ∃ n, ow.length = n := ⟨_, rfl⟩
  rw [hno] at HLEN ⊢
  have HNO := Lib.hid hno
  clear hno
  have hll := HLEN.out
  by_cases h5 : k = 5
  · subst h5
    rcases HL.out with ⟨rfl, hl0⟩ | ⟨lb, lo, lc, rfl, hlc, hlcm, hlt, hcc⟩
    · have hn0 : no = 0 := by rw [hl0] at hll; simp at hll; omega
      subst hn0 hl0
      have oE := World.ownsRow_made (e := 3) (size := 1) (base := N + 1 + 1 + 1) W2 #[] 0 hs2 (Nat.zero_le _) rfl
      have LB3 : Hid (N + 1 + 1 + 1 ≤ (W2.alloc (.cells #[] 3)).heap.size) := by show _ ≤ _; simp; omega
      have OE := Lib.hid oE
      clear hll oE
      go_wp2_with (at_builtin; refine wpList_append_row rfl (.tmp 33) (.tmp 36) 22 rfl (N + 1 + 1 + 1) 3 i0 (.int .i64 0) 1 8 Try.underlying22 HI.out hz0 hz1 hz2 rfl (by decide) _ 0 [] rfl OE.out none 0 0 (fun _ => rfl) [] rfl rfl (fun h => absurd h (by decide)) (fun _ h => by cases h) (by unfold maxLen; decide) (by decide) LB3.out ?_)
      intro v3 W3 ho3 hg3
      have ho3 : W3.ownsRow (N + 1 + 1 + 1) 3 1 v3 0 (intsC (([] : List Int).take 0)) := ho3
      obtain ⟨Ar, cp3, rfl, _⟩ := own_slice ho3
      have K3 : Below W2.heap.size W2 W3 := ((Below.refl _ W2).alloc (Nat.le_refl _) _).grown hg3 (by simp) (fun q hq => by have e : W2.heap.size = q := (by simpa [Value.ownBlock] using hq); omega)
      have O3 := Lib.hid ho3
      clear ho3 hg3 n0 n1 n2 n3 n4 n5 p0 p1 p2 p3 p4 p5 f3 f4 OE LB3
      have I0 := HI0.out.below K3 HI0.out.lt
      have I2 := HI2.out.below K3 HI2.out.lt
      have n0 := I0.at_ 0
      have n5 := I0.at_ 5
      have p0 := I2.at_ 0
      have p1 := I2.at_ 1
      have p2 := I2.at_ 2
      have p3 := I2.at_ 3
      have p4 := I2.at_ 4
      have p5 := I2.at_ 5
      have f4 := I2.free 4
      simp only [List.getElem?_toArray, List.getElem?_cons_zero, List.getElem?_cons_succ] at n0 n5 p0 p1 p2 p3 p4 p5
      have HS2 : Is (W3.setCell ⟨N + 1 + 1, 4, none⟩ (.slice Ar 0 cp3)) (N + 1 + 1) 25 #[.int .i64 5, .string nm, .bool u, .int .i64 r, .slice Ar 0 cp3, .slice none 0 0] := I2.put 4 _
      have HS0 : Is (W3.setCell ⟨N + 1 + 1, 4, none⟩ (.slice Ar 0 cp3)) N 25 #[.int .i64 5, .string nm, .bool u, .int .i64 r, .slice R lr cr, .slice A la ca] := I0.aside (show N ≠ N + 1 + 1 by omega) _
      have HS1 : Is (W3.setCell ⟨N + 1 + 1, 4, none⟩ (.slice Ar 0 cp3)) (N + 1) 25 #[.int .i64 0, .string ⟨#[]⟩, .bool false, .int .i64 0, .slice none 0 0, .slice none 0 0] := (HI1.out.below K3 HI1.out.lt).aside (show N + 1 ≠ N + 1 + 1 by omega) _
      have HB3' : Below W.heap.size W (W3.setCell ⟨N + 1 + 1, 4, none⟩ (.slice Ar 0 cp3)) := ((B2.out.trans (K3.mono B2.out.size)).setCell (by rw [HN.out]; show N ≤ N + 1 + 1; omega) _)
      have hV3s : N + 1 + 1 + 1 ≤ ((W3.setCell ⟨N + 1 + 1, 4, none⟩ (.slice Ar 0 cp3))).heap.size := by simp [World.setCell]; exact Nat.le_trans hs2 K3.size
      obtain ⟨V3, hV3⟩ : ∃ V, (W3.setCell ⟨N + 1 + 1, 4, none⟩ (.slice Ar 0 cp3)) = V := ⟨_, rfl⟩
      rw [hV3] at HS2 HS0 HS1 HB3' hV3s
      have HWI := Lib.hid (wi_start n N W0.heap.size V3 5 nm u r (.slice Ar 0 cp3) HS2 hV3s)
      have HJ0 := Lib.hid HS0
      have HJ1 := Lib.hid HS1
      have HB3 := Lib.hid HB3'
      have HV3 := Lib.hid hV3
      clear HS2 HS0 HS1 HB3' hV3 hV3s
      have HLF : Hid (Left (.slice none 0 0) ([] : List Int) (.slice none 0 0) (0 + (gathL ownP (ar.take 0)).length)) := by
        show Left _ _ _ _
        rw [List.take_zero, gathL]
        exact Left.nil
      go_wp2_with fail
      try rw [HV3.out]
      go_loopw [1, 8] (fun lz i wr => ∃ (j : Nat) (lw : Value), j ≤ la ∧ i = .int .i64 j ∧ lw = lz ∧ Hid (∃ av xs, WI n N W0.heap.size V3 5 nm u r (.slice Ar 0 cp3) (withL (ar.take j) (([] : List Int).drop 0)) av wr xs ∧ Left (.slice none 0 0) ([] : List Int) lw (0 + (gathL ownP (ar.take j)).length))) (fun _ i _ => la - (intOf i).toNat)
      case atStart => exact ⟨0, _, Nat.zero_le _, rfl, rfl, _, _, HWI.out, HLF.out⟩
      clear HWI HLF
      case round =>
        obtain ⟨j, lw, hj, rfl, rfl, HQ⟩ := hrel
        obtain ⟨av, xs, q1, q2⟩ := HQ.out
        have HW := Lib.hid q1
        have HLF := Lib.hid q2
        obtain ⟨ao, cpa, hav, _⟩ := own_slice q1.own
        have hyl : (withL (ar.take j) (([] : List Int).drop 0)).length = j := by rw [withL_len, List.length_take, HLA.out]; omega
        rw [hyl] at hav
        subst hav
        have I0 := HJ0.out.of (q1.kp.low N (by omega) HJ0.out.lt (not_some (by omega)))
        have n5 := I0.at_ 5
        have I2 := q1.out
        have p0 := I2.at_ 0
        have p1 := I2.at_ 1
        have p2 := I2.at_ 2
        have p3 := I2.at_ 3
        have p4 := I2.at_ 4
        have p5 := I2.at_ 5
        simp only [List.getElem?_toArray, List.getElem?_cons_zero, List.getElem?_cons_succ] at n5 p0 p1 p2 p3 p4 p5
        have hBW : Below W.heap.size W wr := q1.kp.below HB3.out (by rw [HN.out]; omega) HB3.out.size (fun q e => by injection e with e; rw [HN.out]; omega)
        have HBW := Lib.hid hBW
        have HYL := Lib.hid hyl
        clear HQ I0 I2 q1 hyl
        by_cases hjl : j < la
        · have hjl' : j < ar.length := by rw [HLA.out]; exact hjl
          obtain ⟨bk, o', cs2, rfl, hlt, _, hs2, hc2⟩ := H2.out.get (by decide) hjl'
          obtain ⟨x, hx⟩ : ∃ x, ar[j] = x := ⟨_, rfl⟩
          rw [hx] at hs2
          have hmem : x ∈ ar := by rw [← hx]; exact List.getElem_mem _
          obtain ⟨k0, nm0, u0, r0, R0, lr0, cr0, A0, la0, ca0, rfl⟩ := hs2.shape
          have hB0 : Below W0.heap.size W0 wr := HB.out.trans (hBW.mono HB.out.size)
          have x0 := (hB0.cell (p := ⟨bk, o' + j * 6 + 0, none⟩) hlt).trans (hc2 0 _ rfl)
          rw [Nat.add_zero] at x0
          have x1 := (hB0.cell (p := ⟨bk, o' + j * 6 + 1, none⟩) hlt).trans (hc2 1 _ rfl)
          have x2 := (hB0.cell (p := ⟨bk, o' + j * 6 + 2, none⟩) hlt).trans (hc2 2 _ rfl)
          have x3 := (hB0.cell (p := ⟨bk, o' + j * 6 + 3, none⟩) hlt).trans (hc2 3 _ rfl)
          have x4 := (hB0.cell (p := ⟨bk, o' + j * 6 + 4, none⟩) hlt).trans (hc2 4 _ rfl)
          have x5 := (hB0.cell (p := ⟨bk, o' + j * 6 + 5, none⟩) hlt).trans (hc2 5 _ rfl)
          have htk : ar.take (j + 1) = ar.take j ++ [x] := by rw [List.take_succ_eq_append_getElem hjl', hx]
          have hgl : (gathL ownP (ar.take (j + 1))).length = (gathL ownP (ar.take j)).length + (allP x).length := by
            rw [htk, gathL_append, List.length_append, gathL_cons, gathL, List.append_nil]
          have hgle : (gathL ownP (ar.take (j + 1))).length ≤ (gathL ownP ar).length := by
            have : gathL ownP ar = gathL ownP (ar.take (j + 1)) ++ gathL ownP (ar.drop (j + 1)) := by rw [← gathL_append, List.take_append_drop]
            rw [this, List.length_append]
            omega
          have HLI := Lib.hid (IH.out x _ m (([] : List Int).drop (0 + (gathL ownP (ar.take j)).length)) lw wr hs2 (HSM.out x hmem) hB0 (q2 wr (HL.out.below hBW)) (by rw [List.length_drop]; have := HLEN.out; omega))
          have HTK := Lib.hid htk
          have HGL := Lib.hid hgl
          clear hx hmem hs2 hc2 hlt hB0 htk hgl hgle hBW q2
          go_wp2_with fail
          refine HLI.out.mono ?_
          rintro e W5 ⟨ds, lw', rfl, td, lf, b5⟩
          obtain ⟨k1, nm1, u1, r1, R1, lr1, cr1, A1, la1, ca1, rfl⟩ := td.shape
          obtain ⟨oX, hoX⟩ : ∃ o, Obj.cells #[.int .i64 k1, .string nm1, .bool u1, .int .i64 r1, .slice R1 lr1 cr1, .slice A1 la1 ca1] 25 = o := ⟨_, rfl⟩
          have c5 : ((W5.alloc oX).alloc oX).cell? ⟨N + 1 + 1, 5, none⟩ = some (.slice ao j cpa) := (((HW.out.out.below b5 HW.out.out.lt).alloc oX).alloc oX).at_ 5
          have c5' : (W5.alloc oX).cell? ⟨N + 1 + 1, 5, none⟩ = some (.slice ao j cpa) := ((HW.out.out.below b5 HW.out.out.lt).alloc oX).at_ 5
          have c5w : W5.cell? ⟨N + 1 + 1, 5, none⟩ = some (.slice ao j cpa) := (HW.out.out.below b5 HW.out.out.lt).at_ 5
          have HNE : N + 1 + 1 ≠ W5.heap.size := by have := HW.out.big; have := b5.size; omega
          have hX5 : Below wr.heap.size wr ((W5.alloc oX).alloc oX) := (b5.alloc b5.size oX).alloc (Nat.le_trans b5.size (by simp)) oX
          have O5 := Lib.hid (own_below HW.out.own hX5)
          rw [HYL.out] at O5
          have hnews : ∀ (q : Nat) (v : Value), [Value.int .i64 k1, .string nm1, .bool u1, .int .i64 r1, .slice R1 lr1 cr1, .slice A1 la1 ca1][q]? = some v → ((W5.alloc oX).alloc oX).cell? ((⟨W5.heap.size + 1, 0, none⟩ : Addr).add q) = some v := by
            intro q v hq
            have hadd : (⟨W5.heap.size + 1, 0, none⟩ : Addr).add q = ⟨W5.heap.size + 1, q, none⟩ := by unfold Addr.add; split <;> simp_all
            rw [hadd, ← hoX]
            have := Is.made (W5.alloc (.cells #[.int .i64 k1, .string nm1, .bool u1, .int .i64 r1, .slice R1 lr1 cr1, .slice A1 la1 ca1] 25)) 25 #[.int .i64 k1, .string nm1, .bool u1, .int .i64 r1, .slice R1 lr1 cr1, .slice A1 la1 ca1]
            rw [show (W5.alloc (.cells #[.int .i64 k1, .string nm1, .bool u1, .int .i64 r1, .slice R1 lr1 cr1, .slice A1 la1 ca1] 25)).heap.size = W5.heap.size + 1 by simp] at this
            rw [this.at_ q]
            simpa using hq
          have HTD := Lib.hid td
          have HB5 := Lib.hid b5
          have HLF2 := Lib.hid lf
          have HNW := Lib.hid hnews
          have HN1 := Lib.hid td.one.2
          have LE : Hid (N + 1 + 1 + 1 ≤ ((W5.alloc oX).alloc oX).heap.size) := Nat.le_trans HW.out.big hX5.size
          have LB1 : Hid (j + 1 ≤ maxLen) := by show _ ≤ maxLen; unfold maxLen; omega
          have LB2 : Hid ((j + 1) * 88 ≤ 140737488355328) := by show _ ≤ 140737488355328; omega
          have HOX := Lib.hid hoX
          rw [← hoX] at O5 HNW LE c5 c5'
          clear td lf b5 hnews hX5 hoX HLI x0 x1 x2 x3 x4 x5 n5 p0 p1 p2 p3 p4 p5
          go_wp2_with (at_builtin; refine wpList_append_lies _ rfl (.tmp 66) (.tmp 68) 23 rfl (N + 1 + 1 + 1) 25 t0 zeroTy 6 88 Try.underlying23 HTI.out ht0 ht1 ht2 rfl (by decide) _ j xs rfl O5.out ⟨W5.heap.size + 1, 0, none⟩ 1 1 [.int .i64 k1, .string nm1, .bool u1, .int .i64 r1, .slice R1 lr1 cr1, .slice A1 la1 ca1] rfl rfl HNW.out HN1.out (by decide) LB1.out LB2.out LE.out (W5.heap.size + 1 + 1) (by simp) ?_)
          intro g cap W6 hown6 hg6 hgg6 _
          rw [HOX.out] at hg6
          have hX5 : Below wr.heap.size wr ((W5.alloc oX).alloc oX) := (HB5.out.alloc HB5.out.size oX).alloc (Nat.le_trans HB5.out.size (by simp)) oX
          have I6 : Is W6 (N + 1 + 1) 25 #[.int .i64 5, .string nm, .bool u, .int .i64 r, .slice Ar 0 cp3, .slice ao j cpa] := (HW.out.out.below hX5 HW.out.out.lt).grown hg6 (fun e => by have := (HW.out.own.lt _ e.symm).1; omega)
          have c6 := I6.at_ 5
          have f6 := I6.free 5
          simp only [List.getElem?_toArray, List.getElem?_cons_zero, List.getElem?_cons_succ] at c6
          have HR : Hid (∃ av xs, WI n N W0.heap.size V3 5 nm u r (.slice Ar 0 cp3) (withL (ar.take (j + 1)) (([] : List Int).drop 0)) av (W6.setCell ⟨N + 1 + 1, 5, none⟩ (.slice (some ⟨g, 0, none⟩) (j + 1) cap)) xs ∧ Left (.slice none 0 0) ([] : List Int) lw' (0 + (gathL ownP (ar.take (j + 1))).length)) := by
            have hst := wi_step (g := g) (cap := cap) HW.out (by rw [← HN.out]; exact HB.out.size) (y := withP x (([] : List Int).drop (0 + (gathL ownP (ar.take j)).length))) HTD.out HB5.out oX oX (by rw [HYL.out]; exact hown6) hg6 hgg6
            rw [HYL.out] at hst
            refine ⟨.slice (some ⟨g, 0, none⟩) (j + 1) cap, xs ++ [.int .i64 k1, .string nm1, .bool u1, .int .i64 r1, .slice R1 lr1 cr1, .slice A1 la1 ca1], ?_, ?_⟩
            · rw [HTK.out, withL_append, List.drop_drop]
              exact hst
            · rw [HGL.out, ← Nat.add_assoc]
              exact HLF.out.trans HLF2.out
          clear hown6 hg6 hgg6 hX5 I6 O5 HNW HN1 LE LB1 LB2 HTD HB5 HLF2 HW HLF c5 c5' c5w HTK HGL
          go_wp2
          go_roundw
          case rel => exact ⟨j + 1, lw', by omega, by go_num, rfl, HR⟩
          case measure => simp [intOf]; omega
        · have hje : j = la := by omega
          subst hje
          have j1 := (HJ1.out.of (HW.out.kp.low (N + 1) (by omega) HJ1.out.lt (not_some (by omega))))
          have q0 := j1.at_ 0
          have q1 := j1.at_ 1
          have q2 := j1.at_ 2
          have q3 := j1.at_ 3
          have q4 := j1.at_ 4
          have q5 := j1.at_ 5
          have g0 : ∀ i, wr.frozen? ⟨N + 1, i, none⟩ = false := fun i => j1.free i
          simp only [List.getElem?_toArray, List.getElem?_cons_zero, List.getElem?_cons_succ] at q0 q1 q2 q3 q4 q5
          have HFIN : Hid (∀ W' : World, W'.heap.size = wr.heap.size → (∀ b, b ≠ N + 1 → W'.heap[b]? = wr.heap[b]?) → TyAt (only (qW W0.heap.size W.heap.size) W') (n + 1) (withP (.mk 5 nm u r rs ar) []) [.int .i64 5, .string nm, .bool u, .int .i64 r, .slice Ar 0 cp3, .slice ao j cpa] ∧ Left (.slice none 0 0) ([] : List Int) lw (allP (.mk 5 nm u r rs ar)).length) := fun W' h1 h2 => by
            have e1 : ar.take j = ar := List.take_of_length_le (Nat.le_of_eq HLA.out)
            have hw' := HW.out
            have hlf := HLF.out
            rw [e1] at hw' hlf
            have hyl := HYL.out
            rw [e1] at hyl
            rw [HN.out]
            have hrs : rs = ow := (own_5' rfl nm u r rs ar).symm.trans HOW.out
            have hno2 : rs.length = 0 := by rw [hrs]; exact HNO.out
            have htk : (([] : List Int).take 0).length = 0 := by rw [List.length_take]; have := HLEN.out; omega
            rw [withP, if_pos rfl, hno2, allP_mk, own_5' rfl, List.length_append, hno2]
            refine ⟨?_, hlf⟩
            have hrow := rowS_own (S0 := W0.heap.size) O3.out HV3.out hw'.kp (by rw [htk])
            have := with_end (RS := ([] : List Int).take 0) (Pq := Ar) (Pc := cp3) (Aa := ao) (ca := cpa) (W' := W') (by rw [htk, hyl]; exact hw') H0.out.1 (by rw [htk]; exact own_cap O3.out) hrow.1 (by rw [← HN.out]; exact HB.out.size) h1 h2 (fun _ bk o e _ => hrow.2 bk o e)
            rw [htk, hyl] at this
            exact this
          have HBF : Hid (∀ W' : World, But (N + 1) wr W' → Below W.heap.size W W') := fun W' h =>
            ⟨h.os.trans HBW.out.os, h.tape.trans HBW.out.tape, h.output.trans HBW.out.output, by rw [h.size]; exact HBW.out.size, fun b hb => (h.block b (by rw [HN.out] at hb; omega)).trans (HBW.out.block b hb)⟩
          have HSET : Hid (∀ (v0 v1 v2 v3 v4 v5 : Value), But (N + 1) wr ((((((wr.setCell ⟨N + 1, 0, none⟩ v0).setCell ⟨N + 1, 1, none⟩ v1).setCell ⟨N + 1, 2, none⟩ v2).setCell ⟨N + 1, 3, none⟩ v3).setCell ⟨N + 1, 4, none⟩ v4).setCell ⟨N + 1, 5, none⟩ v5)) := fun v0 v1 v2 v3 v4 v5 =>
            ((((((But.refl (N + 1) wr).put 0 v0).put 1 v1).put 2 v2).put 3 v3).put 4 v4).put 5 v5
          clear HW HLF HBW HYL
          go_wp2
          refine bodyPost_ret (v := .tuple #[.agg #[.int .i64 5, .string nm, .bool u, .int .i64 r, .slice Ar 0 cp3, .slice ao j cpa], lw]) ?hres rfl ?hend
          case hres => simp [results, Try.results17, go_sem, q0, q1, q2, q3, q4, q5]
          case hend =>
            have hbut := HSET.out (.int .i64 5) (.string nm) (.bool u) (.int .i64 r) (.slice Ar 0 cp3) (.slice ao j cpa)
            obtain ⟨e1, e2⟩ := HFIN.out _ hbut.size hbut.block
            exact ⟨[.int .i64 5, .string nm, .bool u, .int .i64 r, .slice Ar 0 cp3, .slice ao j cpa], lw, rfl, e1, e2, HBF.out _ hbut⟩
    · obtain ⟨ll, hll2⟩ : ∃ n, l.length = n := ⟨_, rfl⟩
      rw [hll2] at hll hlc ⊢
      have hno : no ≤ ll := by omega
      have hd : decide (ll < no) = false := decide_eq_false (by omega)
      have HCC := Lib.hid hcc
      have HLL := Lib.hid hll2
      have oE := World.ownsRow_made (e := 3) (size := 1) (base := N + 1 + 1 + 1) W2 #[] 0 hs2 (Nat.zero_le _) rfl
      have hRA : RowAt (W2.alloc (.cells #[] 3)) (some ⟨lb, lo, none⟩) (intsC (l.take no)) := fun h0 => by
        refine ⟨lb, lo, rfl, by have := B2.out.size; simp; omega, fun i v hv => ?_⟩
        unfold intsC at hv
        rw [List.getElem?_map] at hv
        obtain ⟨z, hz, rfl⟩ := Option.map_eq_some_iff.1 hv
        have hi : i < no := by
          have := (List.getElem?_eq_some_iff.1 hz).1
          rw [List.length_take] at this
          omega
        rw [List.getElem?_take, if_pos hi] at hz
        obtain ⟨hi2, rfl⟩ := List.getElem?_eq_some_iff.1 hz
        exact (((B2.out.alloc B2.out.size _).cell (p := ⟨lb, lo + i, none⟩) hlt)).trans (hcc i hi2)
      have LB1 : Hid (0 + no ≤ maxLen) := by show _ ≤ maxLen; omega
      have LB2 : Hid ((0 + no) * 8 ≤ 140737488355328) := by show _ ≤ 140737488355328; have h1 := HNO.out; have h2 := HOW.out; rw [own_5' rfl] at h2; rw [← h2, HLR.out] at h1; omega
      have LB3 : Hid (N + 1 + 1 + 1 ≤ (W2.alloc (.cells #[] 3)).heap.size) := by show _ ≤ _; simp; omega
      have LB4 : Hid ((intsC (l.take no)).length = no * 1) := by show _ = _; rw [intsC_length, List.length_take]; omega
      have OE := Lib.hid oE
      have HRA := Lib.hid hRA
      clear hll hcc hll2 oE hRA
      go_wp2_with (at_builtin; refine wpList_append_row rfl (.tmp 33) (.tmp 36) 22 rfl (N + 1 + 1 + 1) 3 i0 (.int .i64 0) 1 8 Try.underlying22 HI.out hz0 hz1 hz2 rfl (by decide) _ 0 [] rfl OE.out (some ⟨lb, lo, none⟩) no lc (fun e => by cases e) (intsC (l.take no)) rfl LB4.out HRA.out (intsC_one _) LB1.out LB2.out LB3.out ?_)
      intro v3 W3 ho3 hg3
      obtain ⟨Ar, cp3, rfl, _⟩ := own_slice ho3
      have K3 : Below W2.heap.size W2 W3 := ((Below.refl _ W2).alloc (Nat.le_refl _) _).grown hg3 (by simp) (fun q hq => by have e : W2.heap.size = q := (by simpa [Value.ownBlock] using hq); omega)
      have O3 := Lib.hid ho3
      clear ho3 hg3 n0 n1 n2 n3 n4 n5 p0 p1 p2 p3 p4 p5 f3 f4 OE HRA LB1 LB2 LB3 LB4
      have I0 := HI0.out.below K3 HI0.out.lt
      have I2 := HI2.out.below K3 HI2.out.lt
      have n0 := I0.at_ 0
      have n5 := I0.at_ 5
      have p0 := I2.at_ 0
      have p1 := I2.at_ 1
      have p2 := I2.at_ 2
      have p3 := I2.at_ 3
      have p4 := I2.at_ 4
      have p5 := I2.at_ 5
      have f4 := I2.free 4
      simp only [List.getElem?_toArray, List.getElem?_cons_zero, List.getElem?_cons_succ] at n0 n5 p0 p1 p2 p3 p4 p5
      have HS2 : Is (W3.setCell ⟨N + 1 + 1, 4, none⟩ (.slice Ar no cp3)) (N + 1 + 1) 25 #[.int .i64 5, .string nm, .bool u, .int .i64 r, .slice Ar no cp3, .slice none 0 0] := I2.put 4 _
      have HS0 : Is (W3.setCell ⟨N + 1 + 1, 4, none⟩ (.slice Ar no cp3)) N 25 #[.int .i64 5, .string nm, .bool u, .int .i64 r, .slice R lr cr, .slice A la ca] := I0.aside (show N ≠ N + 1 + 1 by omega) _
      have HS1 : Is (W3.setCell ⟨N + 1 + 1, 4, none⟩ (.slice Ar no cp3)) (N + 1) 25 #[.int .i64 0, .string ⟨#[]⟩, .bool false, .int .i64 0, .slice none 0 0, .slice none 0 0] := (HI1.out.below K3 HI1.out.lt).aside (show N + 1 ≠ N + 1 + 1 by omega) _
      have HB3' : Below W.heap.size W (W3.setCell ⟨N + 1 + 1, 4, none⟩ (.slice Ar no cp3)) := ((B2.out.trans (K3.mono B2.out.size)).setCell (by rw [HN.out]; show N ≤ N + 1 + 1; omega) _)
      have hV3s : N + 1 + 1 + 1 ≤ ((W3.setCell ⟨N + 1 + 1, 4, none⟩ (.slice Ar no cp3))).heap.size := by simp [World.setCell]; exact Nat.le_trans hs2 K3.size
      obtain ⟨V3, hV3⟩ : ∃ V, (W3.setCell ⟨N + 1 + 1, 4, none⟩ (.slice Ar no cp3)) = V := ⟨_, rfl⟩
      rw [hV3] at HS2 HS0 HS1 HB3' hV3s
      have HWI := Lib.hid (wi_start n N W0.heap.size V3 5 nm u r (.slice Ar no cp3) HS2 hV3s)
      have HJ0 := Lib.hid HS0
      have HJ1 := Lib.hid HS1
      have HB3 := Lib.hid HB3'
      have HV3 := Lib.hid hV3
      clear HS2 HS0 HS1 HB3' hV3 hV3s
      by_cases hcut : lc = no
      · have HLF : Hid (Left (.slice (some ⟨lb, lo, none⟩) l.length lc) l (.slice (some ⟨lb, lo, none⟩) (ll - no) 0) (no + (gathL ownP (ar.take 0)).length)) := by
          have := left_end (lb := lb) (lo := lo) (by rw [HLL.out]; exact hno) hcut
          rw [HLL.out] at this ⊢
          show Left _ _ _ _
          rw [List.take_zero, gathL]
          exact this
        go_wp2_with fail
        try rw [HV3.out]
        clear hcut
        go_loopw [1, 8] (fun lz i wr => ∃ (j : Nat) (lw : Value), j ≤ la ∧ i = .int .i64 j ∧ lw = lz ∧ Hid (∃ av xs, WI n N W0.heap.size V3 5 nm u r (.slice Ar no cp3) (withL (ar.take j) (l.drop no)) av wr xs ∧ Left (.slice (some ⟨lb, lo, none⟩) l.length lc) l lw (no + (gathL ownP (ar.take j)).length))) (fun _ i _ => la - (intOf i).toNat)
        case atStart => exact ⟨0, _, Nat.zero_le _, rfl, rfl, _, _, HWI.out, HLF.out⟩
        clear HWI HLF
        case round =>
          obtain ⟨j, lw, hj, rfl, rfl, HQ⟩ := hrel
          obtain ⟨av, xs, q1, q2⟩ := HQ.out
          have HW := Lib.hid q1
          have HLF := Lib.hid q2
          obtain ⟨ao, cpa, hav, _⟩ := own_slice q1.own
          have hyl : (withL (ar.take j) (l.drop no)).length = j := by rw [withL_len, List.length_take, HLA.out]; omega
          rw [hyl] at hav
          subst hav
          have I0 := HJ0.out.of (q1.kp.low N (by omega) HJ0.out.lt (not_some (by omega)))
          have n5 := I0.at_ 5
          have I2 := q1.out
          have p0 := I2.at_ 0
          have p1 := I2.at_ 1
          have p2 := I2.at_ 2
          have p3 := I2.at_ 3
          have p4 := I2.at_ 4
          have p5 := I2.at_ 5
          simp only [List.getElem?_toArray, List.getElem?_cons_zero, List.getElem?_cons_succ] at n5 p0 p1 p2 p3 p4 p5
          have hBW : Below W.heap.size W wr := q1.kp.below HB3.out (by rw [HN.out]; omega) HB3.out.size (fun q e => by injection e with e; rw [HN.out]; omega)
          have HBW := Lib.hid hBW
          have HYL := Lib.hid hyl
          clear HQ I0 I2 q1 hyl
          by_cases hjl : j < la
          · have hjl' : j < ar.length := by rw [HLA.out]; exact hjl
            obtain ⟨bk, o', cs2, rfl, hlt, _, hs2, hc2⟩ := H2.out.get (by decide) hjl'
            obtain ⟨x, hx⟩ : ∃ x, ar[j] = x := ⟨_, rfl⟩
            rw [hx] at hs2
            have hmem : x ∈ ar := by rw [← hx]; exact List.getElem_mem _
            obtain ⟨k0, nm0, u0, r0, R0, lr0, cr0, A0, la0, ca0, rfl⟩ := hs2.shape
            have hB0 : Below W0.heap.size W0 wr := HB.out.trans (hBW.mono HB.out.size)
            have x0 := (hB0.cell (p := ⟨bk, o' + j * 6 + 0, none⟩) hlt).trans (hc2 0 _ rfl)
            rw [Nat.add_zero] at x0
            have x1 := (hB0.cell (p := ⟨bk, o' + j * 6 + 1, none⟩) hlt).trans (hc2 1 _ rfl)
            have x2 := (hB0.cell (p := ⟨bk, o' + j * 6 + 2, none⟩) hlt).trans (hc2 2 _ rfl)
            have x3 := (hB0.cell (p := ⟨bk, o' + j * 6 + 3, none⟩) hlt).trans (hc2 3 _ rfl)
            have x4 := (hB0.cell (p := ⟨bk, o' + j * 6 + 4, none⟩) hlt).trans (hc2 4 _ rfl)
            have x5 := (hB0.cell (p := ⟨bk, o' + j * 6 + 5, none⟩) hlt).trans (hc2 5 _ rfl)
            have htk : ar.take (j + 1) = ar.take j ++ [x] := by rw [List.take_succ_eq_append_getElem hjl', hx]
            have hgl : (gathL ownP (ar.take (j + 1))).length = (gathL ownP (ar.take j)).length + (allP x).length := by
              rw [htk, gathL_append, List.length_append, gathL_cons, gathL, List.append_nil]
            have hgle : (gathL ownP (ar.take (j + 1))).length ≤ (gathL ownP ar).length := by
              have : gathL ownP ar = gathL ownP (ar.take (j + 1)) ++ gathL ownP (ar.drop (j + 1)) := by rw [← gathL_append, List.take_append_drop]
              rw [this, List.length_append]
              omega
            have HLI := Lib.hid (IH.out x _ m (l.drop (no + (gathL ownP (ar.take j)).length)) lw wr hs2 (HSM.out x hmem) hB0 (q2 wr (HL.out.below hBW)) (by rw [List.length_drop]; have := HLEN.out; omega))
            have HTK := Lib.hid htk
            have HGL := Lib.hid hgl
            clear hx hmem hs2 hc2 hlt hB0 htk hgl hgle hBW q2
            go_wp2_with fail
            refine HLI.out.mono ?_
            rintro e W5 ⟨ds, lw', rfl, td, lf, b5⟩
            obtain ⟨k1, nm1, u1, r1, R1, lr1, cr1, A1, la1, ca1, rfl⟩ := td.shape
            obtain ⟨oX, hoX⟩ : ∃ o, Obj.cells #[.int .i64 k1, .string nm1, .bool u1, .int .i64 r1, .slice R1 lr1 cr1, .slice A1 la1 ca1] 25 = o := ⟨_, rfl⟩
            have c5 : ((W5.alloc oX).alloc oX).cell? ⟨N + 1 + 1, 5, none⟩ = some (.slice ao j cpa) := (((HW.out.out.below b5 HW.out.out.lt).alloc oX).alloc oX).at_ 5
            have c5' : (W5.alloc oX).cell? ⟨N + 1 + 1, 5, none⟩ = some (.slice ao j cpa) := ((HW.out.out.below b5 HW.out.out.lt).alloc oX).at_ 5
            have c5w : W5.cell? ⟨N + 1 + 1, 5, none⟩ = some (.slice ao j cpa) := (HW.out.out.below b5 HW.out.out.lt).at_ 5
            have HNE : N + 1 + 1 ≠ W5.heap.size := by have := HW.out.big; have := b5.size; omega
            have hX5 : Below wr.heap.size wr ((W5.alloc oX).alloc oX) := (b5.alloc b5.size oX).alloc (Nat.le_trans b5.size (by simp)) oX
            have O5 := Lib.hid (own_below HW.out.own hX5)
            rw [HYL.out] at O5
            have hnews : ∀ (q : Nat) (v : Value), [Value.int .i64 k1, .string nm1, .bool u1, .int .i64 r1, .slice R1 lr1 cr1, .slice A1 la1 ca1][q]? = some v → ((W5.alloc oX).alloc oX).cell? ((⟨W5.heap.size + 1, 0, none⟩ : Addr).add q) = some v := by
              intro q v hq
              have hadd : (⟨W5.heap.size + 1, 0, none⟩ : Addr).add q = ⟨W5.heap.size + 1, q, none⟩ := by unfold Addr.add; split <;> simp_all
              rw [hadd, ← hoX]
              have := Is.made (W5.alloc (.cells #[.int .i64 k1, .string nm1, .bool u1, .int .i64 r1, .slice R1 lr1 cr1, .slice A1 la1 ca1] 25)) 25 #[.int .i64 k1, .string nm1, .bool u1, .int .i64 r1, .slice R1 lr1 cr1, .slice A1 la1 ca1]
              rw [show (W5.alloc (.cells #[.int .i64 k1, .string nm1, .bool u1, .int .i64 r1, .slice R1 lr1 cr1, .slice A1 la1 ca1] 25)).heap.size = W5.heap.size + 1 by simp] at this
              rw [this.at_ q]
              simpa using hq
            have HTD := Lib.hid td
            have HB5 := Lib.hid b5
            have HLF2 := Lib.hid lf
            have HNW := Lib.hid hnews
            have HN1 := Lib.hid td.one.2
            have LE : Hid (N + 1 + 1 + 1 ≤ ((W5.alloc oX).alloc oX).heap.size) := Nat.le_trans HW.out.big hX5.size
            have LB1 : Hid (j + 1 ≤ maxLen) := by show _ ≤ maxLen; unfold maxLen; omega
            have LB2 : Hid ((j + 1) * 88 ≤ 140737488355328) := by show _ ≤ 140737488355328; omega
            have HOX := Lib.hid hoX
            rw [← hoX] at O5 HNW LE c5 c5'
            clear td lf b5 hnews hX5 hoX HLI x0 x1 x2 x3 x4 x5 n5 p0 p1 p2 p3 p4 p5
            go_wp2_with (at_builtin; refine wpList_append_lies _ rfl (.tmp 66) (.tmp 68) 23 rfl (N + 1 + 1 + 1) 25 t0 zeroTy 6 88 Try.underlying23 HTI.out ht0 ht1 ht2 rfl (by decide) _ j xs rfl O5.out ⟨W5.heap.size + 1, 0, none⟩ 1 1 [.int .i64 k1, .string nm1, .bool u1, .int .i64 r1, .slice R1 lr1 cr1, .slice A1 la1 ca1] rfl rfl HNW.out HN1.out (by decide) LB1.out LB2.out LE.out (W5.heap.size + 1 + 1) (by simp) ?_)
            intro g cap W6 hown6 hg6 hgg6 _
            rw [HOX.out] at hg6
            have hX5 : Below wr.heap.size wr ((W5.alloc oX).alloc oX) := (HB5.out.alloc HB5.out.size oX).alloc (Nat.le_trans HB5.out.size (by simp)) oX
            have I6 : Is W6 (N + 1 + 1) 25 #[.int .i64 5, .string nm, .bool u, .int .i64 r, .slice Ar no cp3, .slice ao j cpa] := (HW.out.out.below hX5 HW.out.out.lt).grown hg6 (fun e => by have := (HW.out.own.lt _ e.symm).1; omega)
            have c6 := I6.at_ 5
            have f6 := I6.free 5
            simp only [List.getElem?_toArray, List.getElem?_cons_zero, List.getElem?_cons_succ] at c6
            have HR : Hid (∃ av xs, WI n N W0.heap.size V3 5 nm u r (.slice Ar no cp3) (withL (ar.take (j + 1)) (l.drop no)) av (W6.setCell ⟨N + 1 + 1, 5, none⟩ (.slice (some ⟨g, 0, none⟩) (j + 1) cap)) xs ∧ Left (.slice (some ⟨lb, lo, none⟩) l.length lc) l lw' (no + (gathL ownP (ar.take (j + 1))).length)) := by
              have hst := wi_step (g := g) (cap := cap) HW.out (by rw [← HN.out]; exact HB.out.size) (y := withP x (l.drop (no + (gathL ownP (ar.take j)).length))) HTD.out HB5.out oX oX (by rw [HYL.out]; exact hown6) hg6 hgg6
              rw [HYL.out] at hst
              refine ⟨.slice (some ⟨g, 0, none⟩) (j + 1) cap, xs ++ [.int .i64 k1, .string nm1, .bool u1, .int .i64 r1, .slice R1 lr1 cr1, .slice A1 la1 ca1], ?_, ?_⟩
              · rw [HTK.out, withL_append, List.drop_drop]
                exact hst
              · rw [HGL.out, ← Nat.add_assoc]
                exact HLF.out.trans HLF2.out
            clear hown6 hg6 hgg6 hX5 I6 O5 HNW HN1 LE LB1 LB2 HTD HB5 HLF2 HW HLF c5 c5' c5w HTK HGL
            go_wp2
            go_roundw
            case rel => exact ⟨j + 1, lw', by omega, by go_num, rfl, HR⟩
            case measure => simp [intOf]; omega
          · have hje : j = la := by omega
            subst hje
            have j1 := (HJ1.out.of (HW.out.kp.low (N + 1) (by omega) HJ1.out.lt (not_some (by omega))))
            have q0 := j1.at_ 0
            have q1 := j1.at_ 1
            have q2 := j1.at_ 2
            have q3 := j1.at_ 3
            have q4 := j1.at_ 4
            have q5 := j1.at_ 5
            have g0 : ∀ i, wr.frozen? ⟨N + 1, i, none⟩ = false := fun i => j1.free i
            simp only [List.getElem?_toArray, List.getElem?_cons_zero, List.getElem?_cons_succ] at q0 q1 q2 q3 q4 q5
            have HFIN : Hid (∀ W' : World, W'.heap.size = wr.heap.size → (∀ b, b ≠ N + 1 → W'.heap[b]? = wr.heap[b]?) → TyAt (only (qW W0.heap.size W.heap.size) W') (n + 1) (withP (.mk 5 nm u r rs ar) l) [.int .i64 5, .string nm, .bool u, .int .i64 r, .slice Ar no cp3, .slice ao j cpa] ∧ Left (.slice (some ⟨lb, lo, none⟩) l.length lc) l lw (allP (.mk 5 nm u r rs ar)).length) := fun W' h1 h2 => by
              have e1 : ar.take j = ar := List.take_of_length_le (Nat.le_of_eq HLA.out)
              have hw' := HW.out
              have hlf := HLF.out
              rw [e1] at hw' hlf
              have hyl := HYL.out
              rw [e1] at hyl
              rw [HN.out]
              have hrs : rs = ow := (own_5' rfl nm u r rs ar).symm.trans HOW.out
              have hno2 : rs.length = no := by rw [hrs]; exact HNO.out
              have htk : (l.take no).length = no := by rw [List.length_take]; have := HLEN.out; omega
              rw [withP, if_pos rfl, hno2, allP_mk, own_5' rfl, List.length_append, hno2]
              refine ⟨?_, hlf⟩
              have hrow := rowS_own (S0 := W0.heap.size) O3.out HV3.out hw'.kp (by rw [htk])
              have := with_end (RS := l.take no) (Pq := Ar) (Pc := cp3) (Aa := ao) (ca := cpa) (W' := W') (by rw [htk, hyl]; exact hw') H0.out.1 (by rw [htk]; exact own_cap O3.out) hrow.1 (by rw [← HN.out]; exact HB.out.size) h1 h2 (fun _ bk o e _ => hrow.2 bk o e)
              rw [htk, hyl] at this
              exact this
            have HBF : Hid (∀ W' : World, But (N + 1) wr W' → Below W.heap.size W W') := fun W' h =>
              ⟨h.os.trans HBW.out.os, h.tape.trans HBW.out.tape, h.output.trans HBW.out.output, by rw [h.size]; exact HBW.out.size, fun b hb => (h.block b (by rw [HN.out] at hb; omega)).trans (HBW.out.block b hb)⟩
            have HSET : Hid (∀ (v0 v1 v2 v3 v4 v5 : Value), But (N + 1) wr ((((((wr.setCell ⟨N + 1, 0, none⟩ v0).setCell ⟨N + 1, 1, none⟩ v1).setCell ⟨N + 1, 2, none⟩ v2).setCell ⟨N + 1, 3, none⟩ v3).setCell ⟨N + 1, 4, none⟩ v4).setCell ⟨N + 1, 5, none⟩ v5)) := fun v0 v1 v2 v3 v4 v5 =>
              ((((((But.refl (N + 1) wr).put 0 v0).put 1 v1).put 2 v2).put 3 v3).put 4 v4).put 5 v5
            clear HW HLF HBW HYL
            go_wp2
            refine bodyPost_ret (v := .tuple #[.agg #[.int .i64 5, .string nm, .bool u, .int .i64 r, .slice Ar no cp3, .slice ao j cpa], lw]) ?hres rfl ?hend
            case hres => simp [results, Try.results17, go_sem, q0, q1, q2, q3, q4, q5]
            case hend =>
              have hbut := HSET.out (.int .i64 5) (.string nm) (.bool u) (.int .i64 r) (.slice Ar no cp3) (.slice ao j cpa)
              obtain ⟨e1, e2⟩ := HFIN.out _ hbut.size hbut.block
              exact ⟨[.int .i64 5, .string nm, .bool u, .int .i64 r, .slice Ar no cp3, .slice ao j cpa], lw, rfl, e1, e2, HBF.out _ hbut⟩
      · have HLF : Hid (Left (.slice (some ⟨lb, lo, none⟩) l.length lc) l (.slice (some ⟨lb, lo + no, none⟩) (ll - no) (lc - no)) (no + (gathL ownP (ar.take 0)).length)) := by
          have := left_cut (lb := lb) (lo := lo) (l := l) hcut
          rw [HLL.out] at this ⊢
          show Left _ _ _ _
          rw [List.take_zero, gathL]
          exact this
        go_wp2_with fail
        try rw [HV3.out]
        clear hcut
        go_loopw [1, 8] (fun lz i wr => ∃ (j : Nat) (lw : Value), j ≤ la ∧ i = .int .i64 j ∧ lw = lz ∧ Hid (∃ av xs, WI n N W0.heap.size V3 5 nm u r (.slice Ar no cp3) (withL (ar.take j) (l.drop no)) av wr xs ∧ Left (.slice (some ⟨lb, lo, none⟩) l.length lc) l lw (no + (gathL ownP (ar.take j)).length))) (fun _ i _ => la - (intOf i).toNat)
        case atStart => exact ⟨0, _, Nat.zero_le _, rfl, rfl, _, _, HWI.out, HLF.out⟩
        clear HWI HLF
        case round =>
          obtain ⟨j, lw, hj, rfl, rfl, HQ⟩ := hrel
          obtain ⟨av, xs, q1, q2⟩ := HQ.out
          have HW := Lib.hid q1
          have HLF := Lib.hid q2
          obtain ⟨ao, cpa, hav, _⟩ := own_slice q1.own
          have hyl : (withL (ar.take j) (l.drop no)).length = j := by rw [withL_len, List.length_take, HLA.out]; omega
          rw [hyl] at hav
          subst hav
          have I0 := HJ0.out.of (q1.kp.low N (by omega) HJ0.out.lt (not_some (by omega)))
          have n5 := I0.at_ 5
          have I2 := q1.out
          have p0 := I2.at_ 0
          have p1 := I2.at_ 1
          have p2 := I2.at_ 2
          have p3 := I2.at_ 3
          have p4 := I2.at_ 4
          have p5 := I2.at_ 5
          simp only [List.getElem?_toArray, List.getElem?_cons_zero, List.getElem?_cons_succ] at n5 p0 p1 p2 p3 p4 p5
          have hBW : Below W.heap.size W wr := q1.kp.below HB3.out (by rw [HN.out]; omega) HB3.out.size (fun q e => by injection e with e; rw [HN.out]; omega)
          have HBW := Lib.hid hBW
          have HYL := Lib.hid hyl
          clear HQ I0 I2 q1 hyl
          by_cases hjl : j < la
          · have hjl' : j < ar.length := by rw [HLA.out]; exact hjl
            obtain ⟨bk, o', cs2, rfl, hlt, _, hs2, hc2⟩ := H2.out.get (by decide) hjl'
            obtain ⟨x, hx⟩ : ∃ x, ar[j] = x := ⟨_, rfl⟩
            rw [hx] at hs2
            have hmem : x ∈ ar := by rw [← hx]; exact List.getElem_mem _
            obtain ⟨k0, nm0, u0, r0, R0, lr0, cr0, A0, la0, ca0, rfl⟩ := hs2.shape
            have hB0 : Below W0.heap.size W0 wr := HB.out.trans (hBW.mono HB.out.size)
            have x0 := (hB0.cell (p := ⟨bk, o' + j * 6 + 0, none⟩) hlt).trans (hc2 0 _ rfl)
            rw [Nat.add_zero] at x0
            have x1 := (hB0.cell (p := ⟨bk, o' + j * 6 + 1, none⟩) hlt).trans (hc2 1 _ rfl)
            have x2 := (hB0.cell (p := ⟨bk, o' + j * 6 + 2, none⟩) hlt).trans (hc2 2 _ rfl)
            have x3 := (hB0.cell (p := ⟨bk, o' + j * 6 + 3, none⟩) hlt).trans (hc2 3 _ rfl)
            have x4 := (hB0.cell (p := ⟨bk, o' + j * 6 + 4, none⟩) hlt).trans (hc2 4 _ rfl)
            have x5 := (hB0.cell (p := ⟨bk, o' + j * 6 + 5, none⟩) hlt).trans (hc2 5 _ rfl)
            have htk : ar.take (j + 1) = ar.take j ++ [x] := by rw [List.take_succ_eq_append_getElem hjl', hx]
            have hgl : (gathL ownP (ar.take (j + 1))).length = (gathL ownP (ar.take j)).length + (allP x).length := by
              rw [htk, gathL_append, List.length_append, gathL_cons, gathL, List.append_nil]
            have hgle : (gathL ownP (ar.take (j + 1))).length ≤ (gathL ownP ar).length := by
              have : gathL ownP ar = gathL ownP (ar.take (j + 1)) ++ gathL ownP (ar.drop (j + 1)) := by rw [← gathL_append, List.take_append_drop]
              rw [this, List.length_append]
              omega
            have HLI := Lib.hid (IH.out x _ m (l.drop (no + (gathL ownP (ar.take j)).length)) lw wr hs2 (HSM.out x hmem) hB0 (q2 wr (HL.out.below hBW)) (by rw [List.length_drop]; have := HLEN.out; omega))
            have HTK := Lib.hid htk
            have HGL := Lib.hid hgl
            clear hx hmem hs2 hc2 hlt hB0 htk hgl hgle hBW q2
            go_wp2_with fail
            refine HLI.out.mono ?_
            rintro e W5 ⟨ds, lw', rfl, td, lf, b5⟩
            obtain ⟨k1, nm1, u1, r1, R1, lr1, cr1, A1, la1, ca1, rfl⟩ := td.shape
            obtain ⟨oX, hoX⟩ : ∃ o, Obj.cells #[.int .i64 k1, .string nm1, .bool u1, .int .i64 r1, .slice R1 lr1 cr1, .slice A1 la1 ca1] 25 = o := ⟨_, rfl⟩
            have c5 : ((W5.alloc oX).alloc oX).cell? ⟨N + 1 + 1, 5, none⟩ = some (.slice ao j cpa) := (((HW.out.out.below b5 HW.out.out.lt).alloc oX).alloc oX).at_ 5
            have c5' : (W5.alloc oX).cell? ⟨N + 1 + 1, 5, none⟩ = some (.slice ao j cpa) := ((HW.out.out.below b5 HW.out.out.lt).alloc oX).at_ 5
            have c5w : W5.cell? ⟨N + 1 + 1, 5, none⟩ = some (.slice ao j cpa) := (HW.out.out.below b5 HW.out.out.lt).at_ 5
            have HNE : N + 1 + 1 ≠ W5.heap.size := by have := HW.out.big; have := b5.size; omega
            have hX5 : Below wr.heap.size wr ((W5.alloc oX).alloc oX) := (b5.alloc b5.size oX).alloc (Nat.le_trans b5.size (by simp)) oX
            have O5 := Lib.hid (own_below HW.out.own hX5)
            rw [HYL.out] at O5
            have hnews : ∀ (q : Nat) (v : Value), [Value.int .i64 k1, .string nm1, .bool u1, .int .i64 r1, .slice R1 lr1 cr1, .slice A1 la1 ca1][q]? = some v → ((W5.alloc oX).alloc oX).cell? ((⟨W5.heap.size + 1, 0, none⟩ : Addr).add q) = some v := by
              intro q v hq
              have hadd : (⟨W5.heap.size + 1, 0, none⟩ : Addr).add q = ⟨W5.heap.size + 1, q, none⟩ := by unfold Addr.add; split <;> simp_all
              rw [hadd, ← hoX]
              have := Is.made (W5.alloc (.cells #[.int .i64 k1, .string nm1, .bool u1, .int .i64 r1, .slice R1 lr1 cr1, .slice A1 la1 ca1] 25)) 25 #[.int .i64 k1, .string nm1, .bool u1, .int .i64 r1, .slice R1 lr1 cr1, .slice A1 la1 ca1]
              rw [show (W5.alloc (.cells #[.int .i64 k1, .string nm1, .bool u1, .int .i64 r1, .slice R1 lr1 cr1, .slice A1 la1 ca1] 25)).heap.size = W5.heap.size + 1 by simp] at this
              rw [this.at_ q]
              simpa using hq
            have HTD := Lib.hid td
            have HB5 := Lib.hid b5
            have HLF2 := Lib.hid lf
            have HNW := Lib.hid hnews
            have HN1 := Lib.hid td.one.2
            have LE : Hid (N + 1 + 1 + 1 ≤ ((W5.alloc oX).alloc oX).heap.size) := Nat.le_trans HW.out.big hX5.size
            have LB1 : Hid (j + 1 ≤ maxLen) := by show _ ≤ maxLen; unfold maxLen; omega
            have LB2 : Hid ((j + 1) * 88 ≤ 140737488355328) := by show _ ≤ 140737488355328; omega
            have HOX := Lib.hid hoX
            rw [← hoX] at O5 HNW LE c5 c5'
            clear td lf b5 hnews hX5 hoX HLI x0 x1 x2 x3 x4 x5 n5 p0 p1 p2 p3 p4 p5
            go_wp2_with (at_builtin; refine wpList_append_lies _ rfl (.tmp 66) (.tmp 68) 23 rfl (N + 1 + 1 + 1) 25 t0 zeroTy 6 88 Try.underlying23 HTI.out ht0 ht1 ht2 rfl (by decide) _ j xs rfl O5.out ⟨W5.heap.size + 1, 0, none⟩ 1 1 [.int .i64 k1, .string nm1, .bool u1, .int .i64 r1, .slice R1 lr1 cr1, .slice A1 la1 ca1] rfl rfl HNW.out HN1.out (by decide) LB1.out LB2.out LE.out (W5.heap.size + 1 + 1) (by simp) ?_)
            intro g cap W6 hown6 hg6 hgg6 _
            rw [HOX.out] at hg6
            have hX5 : Below wr.heap.size wr ((W5.alloc oX).alloc oX) := (HB5.out.alloc HB5.out.size oX).alloc (Nat.le_trans HB5.out.size (by simp)) oX
            have I6 : Is W6 (N + 1 + 1) 25 #[.int .i64 5, .string nm, .bool u, .int .i64 r, .slice Ar no cp3, .slice ao j cpa] := (HW.out.out.below hX5 HW.out.out.lt).grown hg6 (fun e => by have := (HW.out.own.lt _ e.symm).1; omega)
            have c6 := I6.at_ 5
            have f6 := I6.free 5
            simp only [List.getElem?_toArray, List.getElem?_cons_zero, List.getElem?_cons_succ] at c6
            have HR : Hid (∃ av xs, WI n N W0.heap.size V3 5 nm u r (.slice Ar no cp3) (withL (ar.take (j + 1)) (l.drop no)) av (W6.setCell ⟨N + 1 + 1, 5, none⟩ (.slice (some ⟨g, 0, none⟩) (j + 1) cap)) xs ∧ Left (.slice (some ⟨lb, lo, none⟩) l.length lc) l lw' (no + (gathL ownP (ar.take (j + 1))).length)) := by
              have hst := wi_step (g := g) (cap := cap) HW.out (by rw [← HN.out]; exact HB.out.size) (y := withP x (l.drop (no + (gathL ownP (ar.take j)).length))) HTD.out HB5.out oX oX (by rw [HYL.out]; exact hown6) hg6 hgg6
              rw [HYL.out] at hst
              refine ⟨.slice (some ⟨g, 0, none⟩) (j + 1) cap, xs ++ [.int .i64 k1, .string nm1, .bool u1, .int .i64 r1, .slice R1 lr1 cr1, .slice A1 la1 ca1], ?_, ?_⟩
              · rw [HTK.out, withL_append, List.drop_drop]
                exact hst
              · rw [HGL.out, ← Nat.add_assoc]
                exact HLF.out.trans HLF2.out
            clear hown6 hg6 hgg6 hX5 I6 O5 HNW HN1 LE LB1 LB2 HTD HB5 HLF2 HW HLF c5 c5' c5w HTK HGL
            go_wp2
            go_roundw
            case rel => exact ⟨j + 1, lw', by omega, by go_num, rfl, HR⟩
            case measure => simp [intOf]; omega
          · have hje : j = la := by omega
            subst hje
            have j1 := (HJ1.out.of (HW.out.kp.low (N + 1) (by omega) HJ1.out.lt (not_some (by omega))))
            have q0 := j1.at_ 0
            have q1 := j1.at_ 1
            have q2 := j1.at_ 2
            have q3 := j1.at_ 3
            have q4 := j1.at_ 4
            have q5 := j1.at_ 5
            have g0 : ∀ i, wr.frozen? ⟨N + 1, i, none⟩ = false := fun i => j1.free i
            simp only [List.getElem?_toArray, List.getElem?_cons_zero, List.getElem?_cons_succ] at q0 q1 q2 q3 q4 q5
            have HFIN : Hid (∀ W' : World, W'.heap.size = wr.heap.size → (∀ b, b ≠ N + 1 → W'.heap[b]? = wr.heap[b]?) → TyAt (only (qW W0.heap.size W.heap.size) W') (n + 1) (withP (.mk 5 nm u r rs ar) l) [.int .i64 5, .string nm, .bool u, .int .i64 r, .slice Ar no cp3, .slice ao j cpa] ∧ Left (.slice (some ⟨lb, lo, none⟩) l.length lc) l lw (allP (.mk 5 nm u r rs ar)).length) := fun W' h1 h2 => by
              have e1 : ar.take j = ar := List.take_of_length_le (Nat.le_of_eq HLA.out)
              have hw' := HW.out
              have hlf := HLF.out
              rw [e1] at hw' hlf
              have hyl := HYL.out
              rw [e1] at hyl
              rw [HN.out]
              have hrs : rs = ow := (own_5' rfl nm u r rs ar).symm.trans HOW.out
              have hno2 : rs.length = no := by rw [hrs]; exact HNO.out
              have htk : (l.take no).length = no := by rw [List.length_take]; have := HLEN.out; omega
              rw [withP, if_pos rfl, hno2, allP_mk, own_5' rfl, List.length_append, hno2]
              refine ⟨?_, hlf⟩
              have hrow := rowS_own (S0 := W0.heap.size) O3.out HV3.out hw'.kp (by rw [htk])
              have := with_end (RS := l.take no) (Pq := Ar) (Pc := cp3) (Aa := ao) (ca := cpa) (W' := W') (by rw [htk, hyl]; exact hw') H0.out.1 (by rw [htk]; exact own_cap O3.out) hrow.1 (by rw [← HN.out]; exact HB.out.size) h1 h2 (fun _ bk o e _ => hrow.2 bk o e)
              rw [htk, hyl] at this
              exact this
            have HBF : Hid (∀ W' : World, But (N + 1) wr W' → Below W.heap.size W W') := fun W' h =>
              ⟨h.os.trans HBW.out.os, h.tape.trans HBW.out.tape, h.output.trans HBW.out.output, by rw [h.size]; exact HBW.out.size, fun b hb => (h.block b (by rw [HN.out] at hb; omega)).trans (HBW.out.block b hb)⟩
            have HSET : Hid (∀ (v0 v1 v2 v3 v4 v5 : Value), But (N + 1) wr ((((((wr.setCell ⟨N + 1, 0, none⟩ v0).setCell ⟨N + 1, 1, none⟩ v1).setCell ⟨N + 1, 2, none⟩ v2).setCell ⟨N + 1, 3, none⟩ v3).setCell ⟨N + 1, 4, none⟩ v4).setCell ⟨N + 1, 5, none⟩ v5)) := fun v0 v1 v2 v3 v4 v5 =>
              ((((((But.refl (N + 1) wr).put 0 v0).put 1 v1).put 2 v2).put 3 v3).put 4 v4).put 5 v5
            clear HW HLF HBW HYL
            go_wp2
            refine bodyPost_ret (v := .tuple #[.agg #[.int .i64 5, .string nm, .bool u, .int .i64 r, .slice Ar no cp3, .slice ao j cpa], lw]) ?hres rfl ?hend
            case hres => simp [results, Try.results17, go_sem, q0, q1, q2, q3, q4, q5]
            case hend =>
              have hbut := HSET.out (.int .i64 5) (.string nm) (.bool u) (.int .i64 r) (.slice Ar no cp3) (.slice ao j cpa)
              obtain ⟨e1, e2⟩ := HFIN.out _ hbut.size hbut.block
              exact ⟨[.int .i64 5, .string nm, .bool u, .int .i64 r, .slice Ar no cp3, .slice ao j cpa], lw, rfl, e1, e2, HBF.out _ hbut⟩
  · have e5 : (k == 5) = false := by rw [beq_eq_false_iff_ne]; exact h5
    have H5 : Hid (¬ k = 5) := h5
    by_cases h7 : k = 7 ∨ k = 8 ∨ k = 9
    · have H7 : Hid (k = 7 ∨ k = 8 ∨ k = 9) := h7
      have hn1 : no = 1 := by have h1 := HNO.out; have h2 := HOW.out; rw [own_7' h5 h7] at h2; rw [← h2] at h1; exact h1.symm
      subst hn1
      clear h5 h7
      rcases HL.out with ⟨rfl, hl0⟩ | ⟨lb, lo, lc, rfl, hlc, hlcm, hlt, hcc⟩
      · rw [hl0] at hll
        simp at hll
      · obtain ⟨ll, hll2⟩ : ∃ n, l.length = n := ⟨_, rfl⟩
        rw [hll2] at hll hlc ⊢
        have hno : 1 ≤ ll := by omega
        have hd : decide (ll < 1) = false := decide_eq_false (by omega)
        have HCC := Lib.hid hcc
        have HLL := Lib.hid hll2
        have hl0 : 0 < l.length := by rw [hll2]; omega
        obtain ⟨z, hz⟩ : ∃ z, l[0]'hl0 = z := ⟨_, rfl⟩
        have hzh : Hid (l.headD 0 = z) := by
          show _ = _
          rw [← hz]
          cases l with
          | nil => simp at hl0
          | cons a b => rfl
        have cz := hcc 0 hl0
        rw [hz] at cz
        have cz2 := (B2.out.cell (p := ⟨lb, lo + 0, none⟩) hlt).trans cz
        rw [Nat.add_zero] at cz2
        clear hll hcc hll2 cz hz hl0
        have HS2 : Is (W2.setCell ⟨N + 1 + 1, 3, none⟩ (.int .i64 z)) (N + 1 + 1) 25 #[.int .i64 k, .string nm, .bool u, .int .i64 z, .slice R lr cr, .slice none 0 0] := HI2.out.put 3 _
        have HS0 : Is (W2.setCell ⟨N + 1 + 1, 3, none⟩ (.int .i64 z)) N 25 #[.int .i64 k, .string nm, .bool u, .int .i64 r, .slice R lr cr, .slice A la ca] := HI0.out.aside (show N ≠ N + 1 + 1 by omega) _
        have HS1 : Is (W2.setCell ⟨N + 1 + 1, 3, none⟩ (.int .i64 z)) (N + 1) 25 #[.int .i64 0, .string ⟨#[]⟩, .bool false, .int .i64 0, .slice none 0 0, .slice none 0 0] := HI1.out.aside (show N + 1 ≠ N + 1 + 1 by omega) _
        have HB3' : Below W.heap.size W (W2.setCell ⟨N + 1 + 1, 3, none⟩ (.int .i64 z)) := B2.out.setCell (by rw [HN.out]; show N ≤ N + 1 + 1; omega) _
        have hV3s : N + 1 + 1 + 1 ≤ ((W2.setCell ⟨N + 1 + 1, 3, none⟩ (.int .i64 z))).heap.size := by simp [World.setCell]; exact hs2
        obtain ⟨V3, hV3⟩ : ∃ V, (W2.setCell ⟨N + 1 + 1, 3, none⟩ (.int .i64 z)) = V := ⟨_, rfl⟩
        rw [hV3] at HS2 HS0 HS1 HB3' hV3s
        have HWI := Lib.hid (wi_start n N W0.heap.size V3 k nm u z (.slice R lr cr) HS2 hV3s)
        have HJ0 := Lib.hid HS0
        have HJ1 := Lib.hid HS1
        have HB3 := Lib.hid HB3'
        have HV3 := Lib.hid hV3
        clear HS2 HS0 HS1 HB3' hV3 hV3s
        by_cases hcut : lc = 1
        · have HLF : Hid (Left (.slice (some ⟨lb, lo, none⟩) l.length lc) l (.slice (some ⟨lb, lo, none⟩) (ll - 1) 0) (1 + (gathL ownP (ar.take 0)).length)) := by
            have := left_end (lb := lb) (lo := lo) (by rw [HLL.out]; exact hno) hcut
            rw [HLL.out] at this ⊢
            show Left _ _ _ _
            rw [List.take_zero, gathL]
            exact this
          go_wp2_with fail
          try rw [HV3.out]
          clear hcut
          go_loopw [1, 8] (fun lz i wr => ∃ (j : Nat) (lw : Value), j ≤ la ∧ i = .int .i64 j ∧ lw = lz ∧ Hid (∃ av xs, WI n N W0.heap.size V3 k nm u z (.slice R lr cr) (withL (ar.take j) (l.drop 1)) av wr xs ∧ Left (.slice (some ⟨lb, lo, none⟩) l.length lc) l lw (1 + (gathL ownP (ar.take j)).length))) (fun _ i _ => la - (intOf i).toNat)
          case atStart => exact ⟨0, _, Nat.zero_le _, rfl, rfl, _, _, HWI.out, HLF.out⟩
          clear HWI HLF
          case round =>
            obtain ⟨j, lw, hj, rfl, rfl, HQ⟩ := hrel
            obtain ⟨av, xs, q1, q2⟩ := HQ.out
            have HW := Lib.hid q1
            have HLF := Lib.hid q2
            obtain ⟨ao, cpa, hav, _⟩ := own_slice q1.own
            have hyl : (withL (ar.take j) (l.drop 1)).length = j := by rw [withL_len, List.length_take, HLA.out]; omega
            rw [hyl] at hav
            subst hav
            have I0 := HJ0.out.of (q1.kp.low N (by omega) HJ0.out.lt (not_some (by omega)))
            have n5 := I0.at_ 5
            have I2 := q1.out
            have p0 := I2.at_ 0
            have p1 := I2.at_ 1
            have p2 := I2.at_ 2
            have p3 := I2.at_ 3
            have p4 := I2.at_ 4
            have p5 := I2.at_ 5
            simp only [List.getElem?_toArray, List.getElem?_cons_zero, List.getElem?_cons_succ] at n5 p0 p1 p2 p3 p4 p5
            have hBW : Below W.heap.size W wr := q1.kp.below HB3.out (by rw [HN.out]; omega) HB3.out.size (fun q e => by injection e with e; rw [HN.out]; omega)
            have HBW := Lib.hid hBW
            have HYL := Lib.hid hyl
            clear HQ I0 I2 q1 hyl
            by_cases hjl : j < la
            · have hjl' : j < ar.length := by rw [HLA.out]; exact hjl
              obtain ⟨bk, o', cs2, rfl, hlt, _, hs2, hc2⟩ := H2.out.get (by decide) hjl'
              obtain ⟨x, hx⟩ : ∃ x, ar[j] = x := ⟨_, rfl⟩
              rw [hx] at hs2
              have hmem : x ∈ ar := by rw [← hx]; exact List.getElem_mem _
              obtain ⟨k0, nm0, u0, r0, R0, lr0, cr0, A0, la0, ca0, rfl⟩ := hs2.shape
              have hB0 : Below W0.heap.size W0 wr := HB.out.trans (hBW.mono HB.out.size)
              have x0 := (hB0.cell (p := ⟨bk, o' + j * 6 + 0, none⟩) hlt).trans (hc2 0 _ rfl)
              rw [Nat.add_zero] at x0
              have x1 := (hB0.cell (p := ⟨bk, o' + j * 6 + 1, none⟩) hlt).trans (hc2 1 _ rfl)
              have x2 := (hB0.cell (p := ⟨bk, o' + j * 6 + 2, none⟩) hlt).trans (hc2 2 _ rfl)
              have x3 := (hB0.cell (p := ⟨bk, o' + j * 6 + 3, none⟩) hlt).trans (hc2 3 _ rfl)
              have x4 := (hB0.cell (p := ⟨bk, o' + j * 6 + 4, none⟩) hlt).trans (hc2 4 _ rfl)
              have x5 := (hB0.cell (p := ⟨bk, o' + j * 6 + 5, none⟩) hlt).trans (hc2 5 _ rfl)
              have htk : ar.take (j + 1) = ar.take j ++ [x] := by rw [List.take_succ_eq_append_getElem hjl', hx]
              have hgl : (gathL ownP (ar.take (j + 1))).length = (gathL ownP (ar.take j)).length + (allP x).length := by
                rw [htk, gathL_append, List.length_append, gathL_cons, gathL, List.append_nil]
              have hgle : (gathL ownP (ar.take (j + 1))).length ≤ (gathL ownP ar).length := by
                have : gathL ownP ar = gathL ownP (ar.take (j + 1)) ++ gathL ownP (ar.drop (j + 1)) := by rw [← gathL_append, List.take_append_drop]
                rw [this, List.length_append]
                omega
              have HLI := Lib.hid (IH.out x _ m (l.drop (1 + (gathL ownP (ar.take j)).length)) lw wr hs2 (HSM.out x hmem) hB0 (q2 wr (HL.out.below hBW)) (by rw [List.length_drop]; have := HLEN.out; omega))
              have HTK := Lib.hid htk
              have HGL := Lib.hid hgl
              clear hx hmem hs2 hc2 hlt hB0 htk hgl hgle hBW q2
              go_wp2_with fail
              refine HLI.out.mono ?_
              rintro e W5 ⟨ds, lw', rfl, td, lf, b5⟩
              obtain ⟨k1, nm1, u1, r1, R1, lr1, cr1, A1, la1, ca1, rfl⟩ := td.shape
              obtain ⟨oX, hoX⟩ : ∃ o, Obj.cells #[.int .i64 k1, .string nm1, .bool u1, .int .i64 r1, .slice R1 lr1 cr1, .slice A1 la1 ca1] 25 = o := ⟨_, rfl⟩
              have c5 : ((W5.alloc oX).alloc oX).cell? ⟨N + 1 + 1, 5, none⟩ = some (.slice ao j cpa) := (((HW.out.out.below b5 HW.out.out.lt).alloc oX).alloc oX).at_ 5
              have c5' : (W5.alloc oX).cell? ⟨N + 1 + 1, 5, none⟩ = some (.slice ao j cpa) := ((HW.out.out.below b5 HW.out.out.lt).alloc oX).at_ 5
              have c5w : W5.cell? ⟨N + 1 + 1, 5, none⟩ = some (.slice ao j cpa) := (HW.out.out.below b5 HW.out.out.lt).at_ 5
              have HNE : N + 1 + 1 ≠ W5.heap.size := by have := HW.out.big; have := b5.size; omega
              have hX5 : Below wr.heap.size wr ((W5.alloc oX).alloc oX) := (b5.alloc b5.size oX).alloc (Nat.le_trans b5.size (by simp)) oX
              have O5 := Lib.hid (own_below HW.out.own hX5)
              rw [HYL.out] at O5
              have hnews : ∀ (q : Nat) (v : Value), [Value.int .i64 k1, .string nm1, .bool u1, .int .i64 r1, .slice R1 lr1 cr1, .slice A1 la1 ca1][q]? = some v → ((W5.alloc oX).alloc oX).cell? ((⟨W5.heap.size + 1, 0, none⟩ : Addr).add q) = some v := by
                intro q v hq
                have hadd : (⟨W5.heap.size + 1, 0, none⟩ : Addr).add q = ⟨W5.heap.size + 1, q, none⟩ := by unfold Addr.add; split <;> simp_all
                rw [hadd, ← hoX]
                have := Is.made (W5.alloc (.cells #[.int .i64 k1, .string nm1, .bool u1, .int .i64 r1, .slice R1 lr1 cr1, .slice A1 la1 ca1] 25)) 25 #[.int .i64 k1, .string nm1, .bool u1, .int .i64 r1, .slice R1 lr1 cr1, .slice A1 la1 ca1]
                rw [show (W5.alloc (.cells #[.int .i64 k1, .string nm1, .bool u1, .int .i64 r1, .slice R1 lr1 cr1, .slice A1 la1 ca1] 25)).heap.size = W5.heap.size + 1 by simp] at this
                rw [this.at_ q]
                simpa using hq
              have HTD := Lib.hid td
              have HB5 := Lib.hid b5
              have HLF2 := Lib.hid lf
              have HNW := Lib.hid hnews
              have HN1 := Lib.hid td.one.2
              have LE : Hid (N + 1 + 1 + 1 ≤ ((W5.alloc oX).alloc oX).heap.size) := Nat.le_trans HW.out.big hX5.size
              have LB1 : Hid (j + 1 ≤ maxLen) := by show _ ≤ maxLen; unfold maxLen; omega
              have LB2 : Hid ((j + 1) * 88 ≤ 140737488355328) := by show _ ≤ 140737488355328; omega
              have HOX := Lib.hid hoX
              rw [← hoX] at O5 HNW LE c5 c5'
              clear td lf b5 hnews hX5 hoX HLI x0 x1 x2 x3 x4 x5 n5 p0 p1 p2 p3 p4 p5
              go_wp2_with (at_builtin; refine wpList_append_lies _ rfl (.tmp 66) (.tmp 68) 23 rfl (N + 1 + 1 + 1) 25 t0 zeroTy 6 88 Try.underlying23 HTI.out ht0 ht1 ht2 rfl (by decide) _ j xs rfl O5.out ⟨W5.heap.size + 1, 0, none⟩ 1 1 [.int .i64 k1, .string nm1, .bool u1, .int .i64 r1, .slice R1 lr1 cr1, .slice A1 la1 ca1] rfl rfl HNW.out HN1.out (by decide) LB1.out LB2.out LE.out (W5.heap.size + 1 + 1) (by simp) ?_)
              intro g cap W6 hown6 hg6 hgg6 _
              rw [HOX.out] at hg6
              have hX5 : Below wr.heap.size wr ((W5.alloc oX).alloc oX) := (HB5.out.alloc HB5.out.size oX).alloc (Nat.le_trans HB5.out.size (by simp)) oX
              have I6 : Is W6 (N + 1 + 1) 25 #[.int .i64 k, .string nm, .bool u, .int .i64 z, .slice R lr cr, .slice ao j cpa] := (HW.out.out.below hX5 HW.out.out.lt).grown hg6 (fun e => by have := (HW.out.own.lt _ e.symm).1; omega)
              have c6 := I6.at_ 5
              have f6 := I6.free 5
              simp only [List.getElem?_toArray, List.getElem?_cons_zero, List.getElem?_cons_succ] at c6
              have HR : Hid (∃ av xs, WI n N W0.heap.size V3 k nm u z (.slice R lr cr) (withL (ar.take (j + 1)) (l.drop 1)) av (W6.setCell ⟨N + 1 + 1, 5, none⟩ (.slice (some ⟨g, 0, none⟩) (j + 1) cap)) xs ∧ Left (.slice (some ⟨lb, lo, none⟩) l.length lc) l lw' (1 + (gathL ownP (ar.take (j + 1))).length)) := by
                have hst := wi_step (g := g) (cap := cap) HW.out (by rw [← HN.out]; exact HB.out.size) (y := withP x (l.drop (1 + (gathL ownP (ar.take j)).length))) HTD.out HB5.out oX oX (by rw [HYL.out]; exact hown6) hg6 hgg6
                rw [HYL.out] at hst
                refine ⟨.slice (some ⟨g, 0, none⟩) (j + 1) cap, xs ++ [.int .i64 k1, .string nm1, .bool u1, .int .i64 r1, .slice R1 lr1 cr1, .slice A1 la1 ca1], ?_, ?_⟩
                · rw [HTK.out, withL_append, List.drop_drop]
                  exact hst
                · rw [HGL.out, ← Nat.add_assoc]
                  exact HLF.out.trans HLF2.out
              clear hown6 hg6 hgg6 hX5 I6 O5 HNW HN1 LE LB1 LB2 HTD HB5 HLF2 HW HLF c5 c5' c5w HTK HGL
              go_wp2
              go_roundw
              case rel => exact ⟨j + 1, lw', by omega, by go_num, rfl, HR⟩
              case measure => simp [intOf]; omega
            · have hje : j = la := by omega
              subst hje
              have j1 := (HJ1.out.of (HW.out.kp.low (N + 1) (by omega) HJ1.out.lt (not_some (by omega))))
              have q0 := j1.at_ 0
              have q1 := j1.at_ 1
              have q2 := j1.at_ 2
              have q3 := j1.at_ 3
              have q4 := j1.at_ 4
              have q5 := j1.at_ 5
              have g0 : ∀ i, wr.frozen? ⟨N + 1, i, none⟩ = false := fun i => j1.free i
              simp only [List.getElem?_toArray, List.getElem?_cons_zero, List.getElem?_cons_succ] at q0 q1 q2 q3 q4 q5
              have HFIN : Hid (∀ W' : World, W'.heap.size = wr.heap.size → (∀ b, b ≠ N + 1 → W'.heap[b]? = wr.heap[b]?) → TyAt (only (qW W0.heap.size W.heap.size) W') (n + 1) (withP (.mk k nm u r rs ar) l) [.int .i64 k, .string nm, .bool u, .int .i64 z, .slice R lr cr, .slice ao j cpa] ∧ Left (.slice (some ⟨lb, lo, none⟩) l.length lc) l lw (allP (.mk k nm u r rs ar)).length) := fun W' h1 h2 => by
                have e1 : ar.take j = ar := List.take_of_length_le (Nat.le_of_eq HLA.out)
                have hw' := HW.out
                have hlf := HLF.out
                rw [e1] at hw' hlf
                have hyl := HYL.out
                rw [e1] at hyl
                rw [HN.out]
                have hB0 : Below W0.heap.size W0 wr := HB.out.trans (HBW.out.mono HB.out.size)
                have hrow : ListAt (only (qW W0.heap.size N) wr) 1 IntAt R rs := list_only H1.out (fun bk o e hb => ⟨by simp [qW, hb], hB0.block bk hb⟩) hB0.size
                rw [withP, if_neg H5.out, if_pos H7.out, allP_mk, own_7' H5.out H7.out, List.length_append]
                rw [show (l.headD 0) = z from hzh.out]
                refine ⟨?_, hlf⟩
                have := with_end (RS := rs) (Pq := R) (Pc := cr) (Aa := ao) (ca := cpa) (W' := W') (by rw [HLR.out, hyl]; exact hw') H0.out.1 (by rw [HLR.out]; exact H0.out.2) hrow (by rw [← HN.out]; exact HB.out.size) h1 h2 (fun h0 bk o e _ => by
                  obtain ⟨bk2, o2, e2, hl2, _⟩ := int_at H1.out h0
                  rw [e] at e2
                  injection e2 with e2
                  injection e2 with e2
                  have h3 := HB.out.size
                  rw [HN.out] at h3
                  omega)
                rw [HLR.out, hyl] at this
                exact this
              have HBF : Hid (∀ W' : World, But (N + 1) wr W' → Below W.heap.size W W') := fun W' h =>
                ⟨h.os.trans HBW.out.os, h.tape.trans HBW.out.tape, h.output.trans HBW.out.output, by rw [h.size]; exact HBW.out.size, fun b hb => (h.block b (by rw [HN.out] at hb; omega)).trans (HBW.out.block b hb)⟩
              have HSET : Hid (∀ (v0 v1 v2 v3 v4 v5 : Value), But (N + 1) wr ((((((wr.setCell ⟨N + 1, 0, none⟩ v0).setCell ⟨N + 1, 1, none⟩ v1).setCell ⟨N + 1, 2, none⟩ v2).setCell ⟨N + 1, 3, none⟩ v3).setCell ⟨N + 1, 4, none⟩ v4).setCell ⟨N + 1, 5, none⟩ v5)) := fun v0 v1 v2 v3 v4 v5 =>
                ((((((But.refl (N + 1) wr).put 0 v0).put 1 v1).put 2 v2).put 3 v3).put 4 v4).put 5 v5
              clear HW HLF HBW HYL
              go_wp2
              refine bodyPost_ret (v := .tuple #[.agg #[.int .i64 k, .string nm, .bool u, .int .i64 z, .slice R lr cr, .slice ao j cpa], lw]) ?hres rfl ?hend
              case hres => simp [results, Try.results17, go_sem, q0, q1, q2, q3, q4, q5]
              case hend =>
                have hbut := HSET.out (.int .i64 k) (.string nm) (.bool u) (.int .i64 z) (.slice R lr cr) (.slice ao j cpa)
                obtain ⟨e1, e2⟩ := HFIN.out _ hbut.size hbut.block
                exact ⟨[.int .i64 k, .string nm, .bool u, .int .i64 z, .slice R lr cr, .slice ao j cpa], lw, rfl, e1, e2, HBF.out _ hbut⟩
        · have HLF : Hid (Left (.slice (some ⟨lb, lo, none⟩) l.length lc) l (.slice (some ⟨lb, lo + 1, none⟩) (ll - 1) (lc - 1)) (1 + (gathL ownP (ar.take 0)).length)) := by
            have := left_cut (lb := lb) (lo := lo) (l := l) hcut
            rw [HLL.out] at this ⊢
            show Left _ _ _ _
            rw [List.take_zero, gathL]
            exact this
          go_wp2_with fail
          try rw [HV3.out]
          clear hcut
          go_loopw [1, 8] (fun lz i wr => ∃ (j : Nat) (lw : Value), j ≤ la ∧ i = .int .i64 j ∧ lw = lz ∧ Hid (∃ av xs, WI n N W0.heap.size V3 k nm u z (.slice R lr cr) (withL (ar.take j) (l.drop 1)) av wr xs ∧ Left (.slice (some ⟨lb, lo, none⟩) l.length lc) l lw (1 + (gathL ownP (ar.take j)).length))) (fun _ i _ => la - (intOf i).toNat)
          case atStart => exact ⟨0, _, Nat.zero_le _, rfl, rfl, _, _, HWI.out, HLF.out⟩
          clear HWI HLF
          case round =>
            obtain ⟨j, lw, hj, rfl, rfl, HQ⟩ := hrel
            obtain ⟨av, xs, q1, q2⟩ := HQ.out
            have HW := Lib.hid q1
            have HLF := Lib.hid q2
            obtain ⟨ao, cpa, hav, _⟩ := own_slice q1.own
            have hyl : (withL (ar.take j) (l.drop 1)).length = j := by rw [withL_len, List.length_take, HLA.out]; omega
            rw [hyl] at hav
            subst hav
            have I0 := HJ0.out.of (q1.kp.low N (by omega) HJ0.out.lt (not_some (by omega)))
            have n5 := I0.at_ 5
            have I2 := q1.out
            have p0 := I2.at_ 0
            have p1 := I2.at_ 1
            have p2 := I2.at_ 2
            have p3 := I2.at_ 3
            have p4 := I2.at_ 4
            have p5 := I2.at_ 5
            simp only [List.getElem?_toArray, List.getElem?_cons_zero, List.getElem?_cons_succ] at n5 p0 p1 p2 p3 p4 p5
            have hBW : Below W.heap.size W wr := q1.kp.below HB3.out (by rw [HN.out]; omega) HB3.out.size (fun q e => by injection e with e; rw [HN.out]; omega)
            have HBW := Lib.hid hBW
            have HYL := Lib.hid hyl
            clear HQ I0 I2 q1 hyl
            by_cases hjl : j < la
            · have hjl' : j < ar.length := by rw [HLA.out]; exact hjl
              obtain ⟨bk, o', cs2, rfl, hlt, _, hs2, hc2⟩ := H2.out.get (by decide) hjl'
              obtain ⟨x, hx⟩ : ∃ x, ar[j] = x := ⟨_, rfl⟩
              rw [hx] at hs2
              have hmem : x ∈ ar := by rw [← hx]; exact List.getElem_mem _
              obtain ⟨k0, nm0, u0, r0, R0, lr0, cr0, A0, la0, ca0, rfl⟩ := hs2.shape
              have hB0 : Below W0.heap.size W0 wr := HB.out.trans (hBW.mono HB.out.size)
              have x0 := (hB0.cell (p := ⟨bk, o' + j * 6 + 0, none⟩) hlt).trans (hc2 0 _ rfl)
              rw [Nat.add_zero] at x0
              have x1 := (hB0.cell (p := ⟨bk, o' + j * 6 + 1, none⟩) hlt).trans (hc2 1 _ rfl)
              have x2 := (hB0.cell (p := ⟨bk, o' + j * 6 + 2, none⟩) hlt).trans (hc2 2 _ rfl)
              have x3 := (hB0.cell (p := ⟨bk, o' + j * 6 + 3, none⟩) hlt).trans (hc2 3 _ rfl)
              have x4 := (hB0.cell (p := ⟨bk, o' + j * 6 + 4, none⟩) hlt).trans (hc2 4 _ rfl)
              have x5 := (hB0.cell (p := ⟨bk, o' + j * 6 + 5, none⟩) hlt).trans (hc2 5 _ rfl)
              have htk : ar.take (j + 1) = ar.take j ++ [x] := by rw [List.take_succ_eq_append_getElem hjl', hx]
              have hgl : (gathL ownP (ar.take (j + 1))).length = (gathL ownP (ar.take j)).length + (allP x).length := by
                rw [htk, gathL_append, List.length_append, gathL_cons, gathL, List.append_nil]
              have hgle : (gathL ownP (ar.take (j + 1))).length ≤ (gathL ownP ar).length := by
                have : gathL ownP ar = gathL ownP (ar.take (j + 1)) ++ gathL ownP (ar.drop (j + 1)) := by rw [← gathL_append, List.take_append_drop]
                rw [this, List.length_append]
                omega
              have HLI := Lib.hid (IH.out x _ m (l.drop (1 + (gathL ownP (ar.take j)).length)) lw wr hs2 (HSM.out x hmem) hB0 (q2 wr (HL.out.below hBW)) (by rw [List.length_drop]; have := HLEN.out; omega))
              have HTK := Lib.hid htk
              have HGL := Lib.hid hgl
              clear hx hmem hs2 hc2 hlt hB0 htk hgl hgle hBW q2
              go_wp2_with fail
              refine HLI.out.mono ?_
              rintro e W5 ⟨ds, lw', rfl, td, lf, b5⟩
              obtain ⟨k1, nm1, u1, r1, R1, lr1, cr1, A1, la1, ca1, rfl⟩ := td.shape
              obtain ⟨oX, hoX⟩ : ∃ o, Obj.cells #[.int .i64 k1, .string nm1, .bool u1, .int .i64 r1, .slice R1 lr1 cr1, .slice A1 la1 ca1] 25 = o := ⟨_, rfl⟩
              have c5 : ((W5.alloc oX).alloc oX).cell? ⟨N + 1 + 1, 5, none⟩ = some (.slice ao j cpa) := (((HW.out.out.below b5 HW.out.out.lt).alloc oX).alloc oX).at_ 5
              have c5' : (W5.alloc oX).cell? ⟨N + 1 + 1, 5, none⟩ = some (.slice ao j cpa) := ((HW.out.out.below b5 HW.out.out.lt).alloc oX).at_ 5
              have c5w : W5.cell? ⟨N + 1 + 1, 5, none⟩ = some (.slice ao j cpa) := (HW.out.out.below b5 HW.out.out.lt).at_ 5
              have HNE : N + 1 + 1 ≠ W5.heap.size := by have := HW.out.big; have := b5.size; omega
              have hX5 : Below wr.heap.size wr ((W5.alloc oX).alloc oX) := (b5.alloc b5.size oX).alloc (Nat.le_trans b5.size (by simp)) oX
              have O5 := Lib.hid (own_below HW.out.own hX5)
              rw [HYL.out] at O5
              have hnews : ∀ (q : Nat) (v : Value), [Value.int .i64 k1, .string nm1, .bool u1, .int .i64 r1, .slice R1 lr1 cr1, .slice A1 la1 ca1][q]? = some v → ((W5.alloc oX).alloc oX).cell? ((⟨W5.heap.size + 1, 0, none⟩ : Addr).add q) = some v := by
                intro q v hq
                have hadd : (⟨W5.heap.size + 1, 0, none⟩ : Addr).add q = ⟨W5.heap.size + 1, q, none⟩ := by unfold Addr.add; split <;> simp_all
                rw [hadd, ← hoX]
                have := Is.made (W5.alloc (.cells #[.int .i64 k1, .string nm1, .bool u1, .int .i64 r1, .slice R1 lr1 cr1, .slice A1 la1 ca1] 25)) 25 #[.int .i64 k1, .string nm1, .bool u1, .int .i64 r1, .slice R1 lr1 cr1, .slice A1 la1 ca1]
                rw [show (W5.alloc (.cells #[.int .i64 k1, .string nm1, .bool u1, .int .i64 r1, .slice R1 lr1 cr1, .slice A1 la1 ca1] 25)).heap.size = W5.heap.size + 1 by simp] at this
                rw [this.at_ q]
                simpa using hq
              have HTD := Lib.hid td
              have HB5 := Lib.hid b5
              have HLF2 := Lib.hid lf
              have HNW := Lib.hid hnews
              have HN1 := Lib.hid td.one.2
              have LE : Hid (N + 1 + 1 + 1 ≤ ((W5.alloc oX).alloc oX).heap.size) := Nat.le_trans HW.out.big hX5.size
              have LB1 : Hid (j + 1 ≤ maxLen) := by show _ ≤ maxLen; unfold maxLen; omega
              have LB2 : Hid ((j + 1) * 88 ≤ 140737488355328) := by show _ ≤ 140737488355328; omega
              have HOX := Lib.hid hoX
              rw [← hoX] at O5 HNW LE c5 c5'
              clear td lf b5 hnews hX5 hoX HLI x0 x1 x2 x3 x4 x5 n5 p0 p1 p2 p3 p4 p5
              go_wp2_with (at_builtin; refine wpList_append_lies _ rfl (.tmp 66) (.tmp 68) 23 rfl (N + 1 + 1 + 1) 25 t0 zeroTy 6 88 Try.underlying23 HTI.out ht0 ht1 ht2 rfl (by decide) _ j xs rfl O5.out ⟨W5.heap.size + 1, 0, none⟩ 1 1 [.int .i64 k1, .string nm1, .bool u1, .int .i64 r1, .slice R1 lr1 cr1, .slice A1 la1 ca1] rfl rfl HNW.out HN1.out (by decide) LB1.out LB2.out LE.out (W5.heap.size + 1 + 1) (by simp) ?_)
              intro g cap W6 hown6 hg6 hgg6 _
              rw [HOX.out] at hg6
              have hX5 : Below wr.heap.size wr ((W5.alloc oX).alloc oX) := (HB5.out.alloc HB5.out.size oX).alloc (Nat.le_trans HB5.out.size (by simp)) oX
              have I6 : Is W6 (N + 1 + 1) 25 #[.int .i64 k, .string nm, .bool u, .int .i64 z, .slice R lr cr, .slice ao j cpa] := (HW.out.out.below hX5 HW.out.out.lt).grown hg6 (fun e => by have := (HW.out.own.lt _ e.symm).1; omega)
              have c6 := I6.at_ 5
              have f6 := I6.free 5
              simp only [List.getElem?_toArray, List.getElem?_cons_zero, List.getElem?_cons_succ] at c6
              have HR : Hid (∃ av xs, WI n N W0.heap.size V3 k nm u z (.slice R lr cr) (withL (ar.take (j + 1)) (l.drop 1)) av (W6.setCell ⟨N + 1 + 1, 5, none⟩ (.slice (some ⟨g, 0, none⟩) (j + 1) cap)) xs ∧ Left (.slice (some ⟨lb, lo, none⟩) l.length lc) l lw' (1 + (gathL ownP (ar.take (j + 1))).length)) := by
                have hst := wi_step (g := g) (cap := cap) HW.out (by rw [← HN.out]; exact HB.out.size) (y := withP x (l.drop (1 + (gathL ownP (ar.take j)).length))) HTD.out HB5.out oX oX (by rw [HYL.out]; exact hown6) hg6 hgg6
                rw [HYL.out] at hst
                refine ⟨.slice (some ⟨g, 0, none⟩) (j + 1) cap, xs ++ [.int .i64 k1, .string nm1, .bool u1, .int .i64 r1, .slice R1 lr1 cr1, .slice A1 la1 ca1], ?_, ?_⟩
                · rw [HTK.out, withL_append, List.drop_drop]
                  exact hst
                · rw [HGL.out, ← Nat.add_assoc]
                  exact HLF.out.trans HLF2.out
              clear hown6 hg6 hgg6 hX5 I6 O5 HNW HN1 LE LB1 LB2 HTD HB5 HLF2 HW HLF c5 c5' c5w HTK HGL
              go_wp2
              go_roundw
              case rel => exact ⟨j + 1, lw', by omega, by go_num, rfl, HR⟩
              case measure => simp [intOf]; omega
            · have hje : j = la := by omega
              subst hje
              have j1 := (HJ1.out.of (HW.out.kp.low (N + 1) (by omega) HJ1.out.lt (not_some (by omega))))
              have q0 := j1.at_ 0
              have q1 := j1.at_ 1
              have q2 := j1.at_ 2
              have q3 := j1.at_ 3
              have q4 := j1.at_ 4
              have q5 := j1.at_ 5
              have g0 : ∀ i, wr.frozen? ⟨N + 1, i, none⟩ = false := fun i => j1.free i
              simp only [List.getElem?_toArray, List.getElem?_cons_zero, List.getElem?_cons_succ] at q0 q1 q2 q3 q4 q5
              have HFIN : Hid (∀ W' : World, W'.heap.size = wr.heap.size → (∀ b, b ≠ N + 1 → W'.heap[b]? = wr.heap[b]?) → TyAt (only (qW W0.heap.size W.heap.size) W') (n + 1) (withP (.mk k nm u r rs ar) l) [.int .i64 k, .string nm, .bool u, .int .i64 z, .slice R lr cr, .slice ao j cpa] ∧ Left (.slice (some ⟨lb, lo, none⟩) l.length lc) l lw (allP (.mk k nm u r rs ar)).length) := fun W' h1 h2 => by
                have e1 : ar.take j = ar := List.take_of_length_le (Nat.le_of_eq HLA.out)
                have hw' := HW.out
                have hlf := HLF.out
                rw [e1] at hw' hlf
                have hyl := HYL.out
                rw [e1] at hyl
                rw [HN.out]
                have hB0 : Below W0.heap.size W0 wr := HB.out.trans (HBW.out.mono HB.out.size)
                have hrow : ListAt (only (qW W0.heap.size N) wr) 1 IntAt R rs := list_only H1.out (fun bk o e hb => ⟨by simp [qW, hb], hB0.block bk hb⟩) hB0.size
                rw [withP, if_neg H5.out, if_pos H7.out, allP_mk, own_7' H5.out H7.out, List.length_append]
                rw [show (l.headD 0) = z from hzh.out]
                refine ⟨?_, hlf⟩
                have := with_end (RS := rs) (Pq := R) (Pc := cr) (Aa := ao) (ca := cpa) (W' := W') (by rw [HLR.out, hyl]; exact hw') H0.out.1 (by rw [HLR.out]; exact H0.out.2) hrow (by rw [← HN.out]; exact HB.out.size) h1 h2 (fun h0 bk o e _ => by
                  obtain ⟨bk2, o2, e2, hl2, _⟩ := int_at H1.out h0
                  rw [e] at e2
                  injection e2 with e2
                  injection e2 with e2
                  have h3 := HB.out.size
                  rw [HN.out] at h3
                  omega)
                rw [HLR.out, hyl] at this
                exact this
              have HBF : Hid (∀ W' : World, But (N + 1) wr W' → Below W.heap.size W W') := fun W' h =>
                ⟨h.os.trans HBW.out.os, h.tape.trans HBW.out.tape, h.output.trans HBW.out.output, by rw [h.size]; exact HBW.out.size, fun b hb => (h.block b (by rw [HN.out] at hb; omega)).trans (HBW.out.block b hb)⟩
              have HSET : Hid (∀ (v0 v1 v2 v3 v4 v5 : Value), But (N + 1) wr ((((((wr.setCell ⟨N + 1, 0, none⟩ v0).setCell ⟨N + 1, 1, none⟩ v1).setCell ⟨N + 1, 2, none⟩ v2).setCell ⟨N + 1, 3, none⟩ v3).setCell ⟨N + 1, 4, none⟩ v4).setCell ⟨N + 1, 5, none⟩ v5)) := fun v0 v1 v2 v3 v4 v5 =>
                ((((((But.refl (N + 1) wr).put 0 v0).put 1 v1).put 2 v2).put 3 v3).put 4 v4).put 5 v5
              clear HW HLF HBW HYL
              go_wp2
              refine bodyPost_ret (v := .tuple #[.agg #[.int .i64 k, .string nm, .bool u, .int .i64 z, .slice R lr cr, .slice ao j cpa], lw]) ?hres rfl ?hend
              case hres => simp [results, Try.results17, go_sem, q0, q1, q2, q3, q4, q5]
              case hend =>
                have hbut := HSET.out (.int .i64 k) (.string nm) (.bool u) (.int .i64 z) (.slice R lr cr) (.slice ao j cpa)
                obtain ⟨e1, e2⟩ := HFIN.out _ hbut.size hbut.block
                exact ⟨[.int .i64 k, .string nm, .bool u, .int .i64 z, .slice R lr cr, .slice ao j cpa], lw, rfl, e1, e2, HBF.out _ hbut⟩
    · have H7 : Hid (¬ (k = 7 ∨ k = 8 ∨ k = 9)) := h7
      have hn0 : no = 0 := by have h1 := HNO.out; have h2 := HOW.out; rw [own_0' h5 h7] at h2; rw [← h2] at h1; exact h1.symm
      subst hn0
      clear h5 h7
      rcases HL.out with ⟨rfl, hl0⟩ | ⟨lb, lo, lc, rfl, hlc, hlcm, hlt, hcc⟩
      · subst hl0
        clear hll
        have HS2 : Is W2 (N + 1 + 1) 25 #[.int .i64 k, .string nm, .bool u, .int .i64 r, .slice R lr cr, .slice none 0 0] := HI2.out
        have HS0 : Is W2 N 25 #[.int .i64 k, .string nm, .bool u, .int .i64 r, .slice R lr cr, .slice A la ca] := HI0.out
        have HS1 : Is W2 (N + 1) 25 #[.int .i64 0, .string ⟨#[]⟩, .bool false, .int .i64 0, .slice none 0 0, .slice none 0 0] := HI1.out
        have HB3' : Below W.heap.size W W2 := B2.out
        have hV3s : N + 1 + 1 + 1 ≤ (W2).heap.size := hs2
        obtain ⟨V3, hV3⟩ : ∃ V, W2 = V := ⟨_, rfl⟩
        rw [hV3] at HS2 HS0 HS1 HB3' hV3s
        have HWI := Lib.hid (wi_start n N W0.heap.size V3 k nm u r (.slice R lr cr) HS2 hV3s)
        have HJ0 := Lib.hid HS0
        have HJ1 := Lib.hid HS1
        have HB3 := Lib.hid HB3'
        have HV3 := Lib.hid hV3
        clear HS2 HS0 HS1 HB3' hV3 hV3s
        have HLF : Hid (Left (.slice none 0 0) ([] : List Int) (.slice none 0 0) (0 + (gathL ownP (ar.take 0)).length)) := by
          show Left _ _ _ _
          rw [List.take_zero, gathL]
          exact Left.nil
        go_wp2_with fail
        try rw [HV3.out]
        go_loopw [1, 8] (fun lz i wr => ∃ (j : Nat) (lw : Value), j ≤ la ∧ i = .int .i64 j ∧ lw = lz ∧ Hid (∃ av xs, WI n N W0.heap.size V3 k nm u r (.slice R lr cr) (withL (ar.take j) (([] : List Int).drop 0)) av wr xs ∧ Left (.slice none 0 0) ([] : List Int) lw (0 + (gathL ownP (ar.take j)).length))) (fun _ i _ => la - (intOf i).toNat)
        case atStart => exact ⟨0, _, Nat.zero_le _, rfl, rfl, _, _, HWI.out, HLF.out⟩
        clear HWI HLF
        case round =>
          obtain ⟨j, lw, hj, rfl, rfl, HQ⟩ := hrel
          obtain ⟨av, xs, q1, q2⟩ := HQ.out
          have HW := Lib.hid q1
          have HLF := Lib.hid q2
          obtain ⟨ao, cpa, hav, _⟩ := own_slice q1.own
          have hyl : (withL (ar.take j) (([] : List Int).drop 0)).length = j := by rw [withL_len, List.length_take, HLA.out]; omega
          rw [hyl] at hav
          subst hav
          have I0 := HJ0.out.of (q1.kp.low N (by omega) HJ0.out.lt (not_some (by omega)))
          have n5 := I0.at_ 5
          have I2 := q1.out
          have p0 := I2.at_ 0
          have p1 := I2.at_ 1
          have p2 := I2.at_ 2
          have p3 := I2.at_ 3
          have p4 := I2.at_ 4
          have p5 := I2.at_ 5
          simp only [List.getElem?_toArray, List.getElem?_cons_zero, List.getElem?_cons_succ] at n5 p0 p1 p2 p3 p4 p5
          have hBW : Below W.heap.size W wr := q1.kp.below HB3.out (by rw [HN.out]; omega) HB3.out.size (fun q e => by injection e with e; rw [HN.out]; omega)
          have HBW := Lib.hid hBW
          have HYL := Lib.hid hyl
          clear HQ I0 I2 q1 hyl
          by_cases hjl : j < la
          · have hjl' : j < ar.length := by rw [HLA.out]; exact hjl
            obtain ⟨bk, o', cs2, rfl, hlt, _, hs2, hc2⟩ := H2.out.get (by decide) hjl'
            obtain ⟨x, hx⟩ : ∃ x, ar[j] = x := ⟨_, rfl⟩
            rw [hx] at hs2
            have hmem : x ∈ ar := by rw [← hx]; exact List.getElem_mem _
            obtain ⟨k0, nm0, u0, r0, R0, lr0, cr0, A0, la0, ca0, rfl⟩ := hs2.shape
            have hB0 : Below W0.heap.size W0 wr := HB.out.trans (hBW.mono HB.out.size)
            have x0 := (hB0.cell (p := ⟨bk, o' + j * 6 + 0, none⟩) hlt).trans (hc2 0 _ rfl)
            rw [Nat.add_zero] at x0
            have x1 := (hB0.cell (p := ⟨bk, o' + j * 6 + 1, none⟩) hlt).trans (hc2 1 _ rfl)
            have x2 := (hB0.cell (p := ⟨bk, o' + j * 6 + 2, none⟩) hlt).trans (hc2 2 _ rfl)
            have x3 := (hB0.cell (p := ⟨bk, o' + j * 6 + 3, none⟩) hlt).trans (hc2 3 _ rfl)
            have x4 := (hB0.cell (p := ⟨bk, o' + j * 6 + 4, none⟩) hlt).trans (hc2 4 _ rfl)
            have x5 := (hB0.cell (p := ⟨bk, o' + j * 6 + 5, none⟩) hlt).trans (hc2 5 _ rfl)
            have htk : ar.take (j + 1) = ar.take j ++ [x] := by rw [List.take_succ_eq_append_getElem hjl', hx]
            have hgl : (gathL ownP (ar.take (j + 1))).length = (gathL ownP (ar.take j)).length + (allP x).length := by
              rw [htk, gathL_append, List.length_append, gathL_cons, gathL, List.append_nil]
            have hgle : (gathL ownP (ar.take (j + 1))).length ≤ (gathL ownP ar).length := by
              have : gathL ownP ar = gathL ownP (ar.take (j + 1)) ++ gathL ownP (ar.drop (j + 1)) := by rw [← gathL_append, List.take_append_drop]
              rw [this, List.length_append]
              omega
            have HLI := Lib.hid (IH.out x _ m (([] : List Int).drop (0 + (gathL ownP (ar.take j)).length)) lw wr hs2 (HSM.out x hmem) hB0 (q2 wr (HL.out.below hBW)) (by rw [List.length_drop]; have := HLEN.out; omega))
            have HTK := Lib.hid htk
            have HGL := Lib.hid hgl
            clear hx hmem hs2 hc2 hlt hB0 htk hgl hgle hBW q2
            go_wp2_with fail
            refine HLI.out.mono ?_
            rintro e W5 ⟨ds, lw', rfl, td, lf, b5⟩
            obtain ⟨k1, nm1, u1, r1, R1, lr1, cr1, A1, la1, ca1, rfl⟩ := td.shape
            obtain ⟨oX, hoX⟩ : ∃ o, Obj.cells #[.int .i64 k1, .string nm1, .bool u1, .int .i64 r1, .slice R1 lr1 cr1, .slice A1 la1 ca1] 25 = o := ⟨_, rfl⟩
            have c5 : ((W5.alloc oX).alloc oX).cell? ⟨N + 1 + 1, 5, none⟩ = some (.slice ao j cpa) := (((HW.out.out.below b5 HW.out.out.lt).alloc oX).alloc oX).at_ 5
            have c5' : (W5.alloc oX).cell? ⟨N + 1 + 1, 5, none⟩ = some (.slice ao j cpa) := ((HW.out.out.below b5 HW.out.out.lt).alloc oX).at_ 5
            have c5w : W5.cell? ⟨N + 1 + 1, 5, none⟩ = some (.slice ao j cpa) := (HW.out.out.below b5 HW.out.out.lt).at_ 5
            have HNE : N + 1 + 1 ≠ W5.heap.size := by have := HW.out.big; have := b5.size; omega
            have hX5 : Below wr.heap.size wr ((W5.alloc oX).alloc oX) := (b5.alloc b5.size oX).alloc (Nat.le_trans b5.size (by simp)) oX
            have O5 := Lib.hid (own_below HW.out.own hX5)
            rw [HYL.out] at O5
            have hnews : ∀ (q : Nat) (v : Value), [Value.int .i64 k1, .string nm1, .bool u1, .int .i64 r1, .slice R1 lr1 cr1, .slice A1 la1 ca1][q]? = some v → ((W5.alloc oX).alloc oX).cell? ((⟨W5.heap.size + 1, 0, none⟩ : Addr).add q) = some v := by
              intro q v hq
              have hadd : (⟨W5.heap.size + 1, 0, none⟩ : Addr).add q = ⟨W5.heap.size + 1, q, none⟩ := by unfold Addr.add; split <;> simp_all
              rw [hadd, ← hoX]
              have := Is.made (W5.alloc (.cells #[.int .i64 k1, .string nm1, .bool u1, .int .i64 r1, .slice R1 lr1 cr1, .slice A1 la1 ca1] 25)) 25 #[.int .i64 k1, .string nm1, .bool u1, .int .i64 r1, .slice R1 lr1 cr1, .slice A1 la1 ca1]
              rw [show (W5.alloc (.cells #[.int .i64 k1, .string nm1, .bool u1, .int .i64 r1, .slice R1 lr1 cr1, .slice A1 la1 ca1] 25)).heap.size = W5.heap.size + 1 by simp] at this
              rw [this.at_ q]
              simpa using hq
            have HTD := Lib.hid td
            have HB5 := Lib.hid b5
            have HLF2 := Lib.hid lf
            have HNW := Lib.hid hnews
            have HN1 := Lib.hid td.one.2
            have LE : Hid (N + 1 + 1 + 1 ≤ ((W5.alloc oX).alloc oX).heap.size) := Nat.le_trans HW.out.big hX5.size
            have LB1 : Hid (j + 1 ≤ maxLen) := by show _ ≤ maxLen; unfold maxLen; omega
            have LB2 : Hid ((j + 1) * 88 ≤ 140737488355328) := by show _ ≤ 140737488355328; omega
            have HOX := Lib.hid hoX
            rw [← hoX] at O5 HNW LE c5 c5'
            clear td lf b5 hnews hX5 hoX HLI x0 x1 x2 x3 x4 x5 n5 p0 p1 p2 p3 p4 p5
            go_wp2_with (at_builtin; refine wpList_append_lies _ rfl (.tmp 66) (.tmp 68) 23 rfl (N + 1 + 1 + 1) 25 t0 zeroTy 6 88 Try.underlying23 HTI.out ht0 ht1 ht2 rfl (by decide) _ j xs rfl O5.out ⟨W5.heap.size + 1, 0, none⟩ 1 1 [.int .i64 k1, .string nm1, .bool u1, .int .i64 r1, .slice R1 lr1 cr1, .slice A1 la1 ca1] rfl rfl HNW.out HN1.out (by decide) LB1.out LB2.out LE.out (W5.heap.size + 1 + 1) (by simp) ?_)
            intro g cap W6 hown6 hg6 hgg6 _
            rw [HOX.out] at hg6
            have hX5 : Below wr.heap.size wr ((W5.alloc oX).alloc oX) := (HB5.out.alloc HB5.out.size oX).alloc (Nat.le_trans HB5.out.size (by simp)) oX
            have I6 : Is W6 (N + 1 + 1) 25 #[.int .i64 k, .string nm, .bool u, .int .i64 r, .slice R lr cr, .slice ao j cpa] := (HW.out.out.below hX5 HW.out.out.lt).grown hg6 (fun e => by have := (HW.out.own.lt _ e.symm).1; omega)
            have c6 := I6.at_ 5
            have f6 := I6.free 5
            simp only [List.getElem?_toArray, List.getElem?_cons_zero, List.getElem?_cons_succ] at c6
            have HR : Hid (∃ av xs, WI n N W0.heap.size V3 k nm u r (.slice R lr cr) (withL (ar.take (j + 1)) (([] : List Int).drop 0)) av (W6.setCell ⟨N + 1 + 1, 5, none⟩ (.slice (some ⟨g, 0, none⟩) (j + 1) cap)) xs ∧ Left (.slice none 0 0) ([] : List Int) lw' (0 + (gathL ownP (ar.take (j + 1))).length)) := by
              have hst := wi_step (g := g) (cap := cap) HW.out (by rw [← HN.out]; exact HB.out.size) (y := withP x (([] : List Int).drop (0 + (gathL ownP (ar.take j)).length))) HTD.out HB5.out oX oX (by rw [HYL.out]; exact hown6) hg6 hgg6
              rw [HYL.out] at hst
              refine ⟨.slice (some ⟨g, 0, none⟩) (j + 1) cap, xs ++ [.int .i64 k1, .string nm1, .bool u1, .int .i64 r1, .slice R1 lr1 cr1, .slice A1 la1 ca1], ?_, ?_⟩
              · rw [HTK.out, withL_append, List.drop_drop]
                exact hst
              · rw [HGL.out, ← Nat.add_assoc]
                exact HLF.out.trans HLF2.out
            clear hown6 hg6 hgg6 hX5 I6 O5 HNW HN1 LE LB1 LB2 HTD HB5 HLF2 HW HLF c5 c5' c5w HTK HGL
            go_wp2
            go_roundw
            case rel => exact ⟨j + 1, lw', by omega, by go_num, rfl, HR⟩
            case measure => simp [intOf]; omega
          · have hje : j = la := by omega
            subst hje
            have j1 := (HJ1.out.of (HW.out.kp.low (N + 1) (by omega) HJ1.out.lt (not_some (by omega))))
            have q0 := j1.at_ 0
            have q1 := j1.at_ 1
            have q2 := j1.at_ 2
            have q3 := j1.at_ 3
            have q4 := j1.at_ 4
            have q5 := j1.at_ 5
            have g0 : ∀ i, wr.frozen? ⟨N + 1, i, none⟩ = false := fun i => j1.free i
            simp only [List.getElem?_toArray, List.getElem?_cons_zero, List.getElem?_cons_succ] at q0 q1 q2 q3 q4 q5
            have HFIN : Hid (∀ W' : World, W'.heap.size = wr.heap.size → (∀ b, b ≠ N + 1 → W'.heap[b]? = wr.heap[b]?) → TyAt (only (qW W0.heap.size W.heap.size) W') (n + 1) (withP (.mk k nm u r rs ar) []) [.int .i64 k, .string nm, .bool u, .int .i64 r, .slice R lr cr, .slice ao j cpa] ∧ Left (.slice none 0 0) ([] : List Int) lw (allP (.mk k nm u r rs ar)).length) := fun W' h1 h2 => by
              have e1 : ar.take j = ar := List.take_of_length_le (Nat.le_of_eq HLA.out)
              have hw' := HW.out
              have hlf := HLF.out
              rw [e1] at hw' hlf
              have hyl := HYL.out
              rw [e1] at hyl
              rw [HN.out]
              have hB0 : Below W0.heap.size W0 wr := HB.out.trans (HBW.out.mono HB.out.size)
              have hrow : ListAt (only (qW W0.heap.size N) wr) 1 IntAt R rs := list_only H1.out (fun bk o e hb => ⟨by simp [qW, hb], hB0.block bk hb⟩) hB0.size
              rw [withP, if_neg H5.out, if_neg H7.out, allP_mk, own_0' H5.out H7.out, List.length_append]
              refine ⟨?_, hlf⟩
              have := with_end (RS := rs) (Pq := R) (Pc := cr) (Aa := ao) (ca := cpa) (W' := W') (by rw [HLR.out, hyl]; exact hw') H0.out.1 (by rw [HLR.out]; exact H0.out.2) hrow (by rw [← HN.out]; exact HB.out.size) h1 h2 (fun h0 bk o e _ => by
                obtain ⟨bk2, o2, e2, hl2, _⟩ := int_at H1.out h0
                rw [e] at e2
                injection e2 with e2
                injection e2 with e2
                have h3 := HB.out.size
                rw [HN.out] at h3
                omega)
              rw [HLR.out, hyl] at this
              exact this
            have HBF : Hid (∀ W' : World, But (N + 1) wr W' → Below W.heap.size W W') := fun W' h =>
              ⟨h.os.trans HBW.out.os, h.tape.trans HBW.out.tape, h.output.trans HBW.out.output, by rw [h.size]; exact HBW.out.size, fun b hb => (h.block b (by rw [HN.out] at hb; omega)).trans (HBW.out.block b hb)⟩
            have HSET : Hid (∀ (v0 v1 v2 v3 v4 v5 : Value), But (N + 1) wr ((((((wr.setCell ⟨N + 1, 0, none⟩ v0).setCell ⟨N + 1, 1, none⟩ v1).setCell ⟨N + 1, 2, none⟩ v2).setCell ⟨N + 1, 3, none⟩ v3).setCell ⟨N + 1, 4, none⟩ v4).setCell ⟨N + 1, 5, none⟩ v5)) := fun v0 v1 v2 v3 v4 v5 =>
              ((((((But.refl (N + 1) wr).put 0 v0).put 1 v1).put 2 v2).put 3 v3).put 4 v4).put 5 v5
            clear HW HLF HBW HYL
            go_wp2
            refine bodyPost_ret (v := .tuple #[.agg #[.int .i64 k, .string nm, .bool u, .int .i64 r, .slice R lr cr, .slice ao j cpa], lw]) ?hres rfl ?hend
            case hres => simp [results, Try.results17, go_sem, q0, q1, q2, q3, q4, q5]
            case hend =>
              have hbut := HSET.out (.int .i64 k) (.string nm) (.bool u) (.int .i64 r) (.slice R lr cr) (.slice ao j cpa)
              obtain ⟨e1, e2⟩ := HFIN.out _ hbut.size hbut.block
              exact ⟨[.int .i64 k, .string nm, .bool u, .int .i64 r, .slice R lr cr, .slice ao j cpa], lw, rfl, e1, e2, HBF.out _ hbut⟩
      · obtain ⟨ll, hll2⟩ : ∃ n, l.length = n := ⟨_, rfl⟩
        rw [hll2] at hll hlc ⊢
        have hno : 0 ≤ ll := by omega
        have hd : decide (ll < 0) = false := decide_eq_false (by omega)
        have HCC := Lib.hid hcc
        have HLL := Lib.hid hll2
        clear hll hcc hll2
        have HS2 : Is W2 (N + 1 + 1) 25 #[.int .i64 k, .string nm, .bool u, .int .i64 r, .slice R lr cr, .slice none 0 0] := HI2.out
        have HS0 : Is W2 N 25 #[.int .i64 k, .string nm, .bool u, .int .i64 r, .slice R lr cr, .slice A la ca] := HI0.out
        have HS1 : Is W2 (N + 1) 25 #[.int .i64 0, .string ⟨#[]⟩, .bool false, .int .i64 0, .slice none 0 0, .slice none 0 0] := HI1.out
        have HB3' : Below W.heap.size W W2 := B2.out
        have hV3s : N + 1 + 1 + 1 ≤ (W2).heap.size := hs2
        obtain ⟨V3, hV3⟩ : ∃ V, W2 = V := ⟨_, rfl⟩
        rw [hV3] at HS2 HS0 HS1 HB3' hV3s
        have HWI := Lib.hid (wi_start n N W0.heap.size V3 k nm u r (.slice R lr cr) HS2 hV3s)
        have HJ0 := Lib.hid HS0
        have HJ1 := Lib.hid HS1
        have HB3 := Lib.hid HB3'
        have HV3 := Lib.hid hV3
        clear HS2 HS0 HS1 HB3' hV3 hV3s
        by_cases hcut : lc = 0
        · have HLF : Hid (Left (.slice (some ⟨lb, lo, none⟩) l.length lc) l (.slice (some ⟨lb, lo, none⟩) (ll - 0) 0) (0 + (gathL ownP (ar.take 0)).length)) := by
            have := left_end (lb := lb) (lo := lo) (by rw [HLL.out]; exact hno) hcut
            rw [HLL.out] at this ⊢
            show Left _ _ _ _
            rw [List.take_zero, gathL]
            exact this
          go_wp2_with fail
          try rw [HV3.out]
          clear hcut
          go_loopw [1, 8] (fun lz i wr => ∃ (j : Nat) (lw : Value), j ≤ la ∧ i = .int .i64 j ∧ lw = lz ∧ Hid (∃ av xs, WI n N W0.heap.size V3 k nm u r (.slice R lr cr) (withL (ar.take j) (l.drop 0)) av wr xs ∧ Left (.slice (some ⟨lb, lo, none⟩) l.length lc) l lw (0 + (gathL ownP (ar.take j)).length))) (fun _ i _ => la - (intOf i).toNat)
          case atStart => exact ⟨0, _, Nat.zero_le _, rfl, rfl, _, _, HWI.out, HLF.out⟩
          clear HWI HLF
          case round =>
            obtain ⟨j, lw, hj, rfl, rfl, HQ⟩ := hrel
            obtain ⟨av, xs, q1, q2⟩ := HQ.out
            have HW := Lib.hid q1
            have HLF := Lib.hid q2
            obtain ⟨ao, cpa, hav, _⟩ := own_slice q1.own
            have hyl : (withL (ar.take j) (l.drop 0)).length = j := by rw [withL_len, List.length_take, HLA.out]; omega
            rw [hyl] at hav
            subst hav
            have I0 := HJ0.out.of (q1.kp.low N (by omega) HJ0.out.lt (not_some (by omega)))
            have n5 := I0.at_ 5
            have I2 := q1.out
            have p0 := I2.at_ 0
            have p1 := I2.at_ 1
            have p2 := I2.at_ 2
            have p3 := I2.at_ 3
            have p4 := I2.at_ 4
            have p5 := I2.at_ 5
            simp only [List.getElem?_toArray, List.getElem?_cons_zero, List.getElem?_cons_succ] at n5 p0 p1 p2 p3 p4 p5
            have hBW : Below W.heap.size W wr := q1.kp.below HB3.out (by rw [HN.out]; omega) HB3.out.size (fun q e => by injection e with e; rw [HN.out]; omega)
            have HBW := Lib.hid hBW
            have HYL := Lib.hid hyl
            clear HQ I0 I2 q1 hyl
            by_cases hjl : j < la
            · have hjl' : j < ar.length := by rw [HLA.out]; exact hjl
              obtain ⟨bk, o', cs2, rfl, hlt, _, hs2, hc2⟩ := H2.out.get (by decide) hjl'
              obtain ⟨x, hx⟩ : ∃ x, ar[j] = x := ⟨_, rfl⟩
              rw [hx] at hs2
              have hmem : x ∈ ar := by rw [← hx]; exact List.getElem_mem _
              obtain ⟨k0, nm0, u0, r0, R0, lr0, cr0, A0, la0, ca0, rfl⟩ := hs2.shape
              have hB0 : Below W0.heap.size W0 wr := HB.out.trans (hBW.mono HB.out.size)
              have x0 := (hB0.cell (p := ⟨bk, o' + j * 6 + 0, none⟩) hlt).trans (hc2 0 _ rfl)
              rw [Nat.add_zero] at x0
              have x1 := (hB0.cell (p := ⟨bk, o' + j * 6 + 1, none⟩) hlt).trans (hc2 1 _ rfl)
              have x2 := (hB0.cell (p := ⟨bk, o' + j * 6 + 2, none⟩) hlt).trans (hc2 2 _ rfl)
              have x3 := (hB0.cell (p := ⟨bk, o' + j * 6 + 3, none⟩) hlt).trans (hc2 3 _ rfl)
              have x4 := (hB0.cell (p := ⟨bk, o' + j * 6 + 4, none⟩) hlt).trans (hc2 4 _ rfl)
              have x5 := (hB0.cell (p := ⟨bk, o' + j * 6 + 5, none⟩) hlt).trans (hc2 5 _ rfl)
              have htk : ar.take (j + 1) = ar.take j ++ [x] := by rw [List.take_succ_eq_append_getElem hjl', hx]
              have hgl : (gathL ownP (ar.take (j + 1))).length = (gathL ownP (ar.take j)).length + (allP x).length := by
                rw [htk, gathL_append, List.length_append, gathL_cons, gathL, List.append_nil]
              have hgle : (gathL ownP (ar.take (j + 1))).length ≤ (gathL ownP ar).length := by
                have : gathL ownP ar = gathL ownP (ar.take (j + 1)) ++ gathL ownP (ar.drop (j + 1)) := by rw [← gathL_append, List.take_append_drop]
                rw [this, List.length_append]
                omega
              have HLI := Lib.hid (IH.out x _ m (l.drop (0 + (gathL ownP (ar.take j)).length)) lw wr hs2 (HSM.out x hmem) hB0 (q2 wr (HL.out.below hBW)) (by rw [List.length_drop]; have := HLEN.out; omega))
              have HTK := Lib.hid htk
              have HGL := Lib.hid hgl
              clear hx hmem hs2 hc2 hlt hB0 htk hgl hgle hBW q2
              go_wp2_with fail
              refine HLI.out.mono ?_
              rintro e W5 ⟨ds, lw', rfl, td, lf, b5⟩
              obtain ⟨k1, nm1, u1, r1, R1, lr1, cr1, A1, la1, ca1, rfl⟩ := td.shape
              obtain ⟨oX, hoX⟩ : ∃ o, Obj.cells #[.int .i64 k1, .string nm1, .bool u1, .int .i64 r1, .slice R1 lr1 cr1, .slice A1 la1 ca1] 25 = o := ⟨_, rfl⟩
              have c5 : ((W5.alloc oX).alloc oX).cell? ⟨N + 1 + 1, 5, none⟩ = some (.slice ao j cpa) := (((HW.out.out.below b5 HW.out.out.lt).alloc oX).alloc oX).at_ 5
              have c5' : (W5.alloc oX).cell? ⟨N + 1 + 1, 5, none⟩ = some (.slice ao j cpa) := ((HW.out.out.below b5 HW.out.out.lt).alloc oX).at_ 5
              have c5w : W5.cell? ⟨N + 1 + 1, 5, none⟩ = some (.slice ao j cpa) := (HW.out.out.below b5 HW.out.out.lt).at_ 5
              have HNE : N + 1 + 1 ≠ W5.heap.size := by have := HW.out.big; have := b5.size; omega
              have hX5 : Below wr.heap.size wr ((W5.alloc oX).alloc oX) := (b5.alloc b5.size oX).alloc (Nat.le_trans b5.size (by simp)) oX
              have O5 := Lib.hid (own_below HW.out.own hX5)
              rw [HYL.out] at O5
              have hnews : ∀ (q : Nat) (v : Value), [Value.int .i64 k1, .string nm1, .bool u1, .int .i64 r1, .slice R1 lr1 cr1, .slice A1 la1 ca1][q]? = some v → ((W5.alloc oX).alloc oX).cell? ((⟨W5.heap.size + 1, 0, none⟩ : Addr).add q) = some v := by
                intro q v hq
                have hadd : (⟨W5.heap.size + 1, 0, none⟩ : Addr).add q = ⟨W5.heap.size + 1, q, none⟩ := by unfold Addr.add; split <;> simp_all
                rw [hadd, ← hoX]
                have := Is.made (W5.alloc (.cells #[.int .i64 k1, .string nm1, .bool u1, .int .i64 r1, .slice R1 lr1 cr1, .slice A1 la1 ca1] 25)) 25 #[.int .i64 k1, .string nm1, .bool u1, .int .i64 r1, .slice R1 lr1 cr1, .slice A1 la1 ca1]
                rw [show (W5.alloc (.cells #[.int .i64 k1, .string nm1, .bool u1, .int .i64 r1, .slice R1 lr1 cr1, .slice A1 la1 ca1] 25)).heap.size = W5.heap.size + 1 by simp] at this
                rw [this.at_ q]
                simpa using hq
              have HTD := Lib.hid td
              have HB5 := Lib.hid b5
              have HLF2 := Lib.hid lf
              have HNW := Lib.hid hnews
              have HN1 := Lib.hid td.one.2
              have LE : Hid (N + 1 + 1 + 1 ≤ ((W5.alloc oX).alloc oX).heap.size) := Nat.le_trans HW.out.big hX5.size
              have LB1 : Hid (j + 1 ≤ maxLen) := by show _ ≤ maxLen; unfold maxLen; omega
              have LB2 : Hid ((j + 1) * 88 ≤ 140737488355328) := by show _ ≤ 140737488355328; omega
              have HOX := Lib.hid hoX
              rw [← hoX] at O5 HNW LE c5 c5'
              clear td lf b5 hnews hX5 hoX HLI x0 x1 x2 x3 x4 x5 n5 p0 p1 p2 p3 p4 p5
              go_wp2_with (at_builtin; refine wpList_append_lies _ rfl (.tmp 66) (.tmp 68) 23 rfl (N + 1 + 1 + 1) 25 t0 zeroTy 6 88 Try.underlying23 HTI.out ht0 ht1 ht2 rfl (by decide) _ j xs rfl O5.out ⟨W5.heap.size + 1, 0, none⟩ 1 1 [.int .i64 k1, .string nm1, .bool u1, .int .i64 r1, .slice R1 lr1 cr1, .slice A1 la1 ca1] rfl rfl HNW.out HN1.out (by decide) LB1.out LB2.out LE.out (W5.heap.size + 1 + 1) (by simp) ?_)
              intro g cap W6 hown6 hg6 hgg6 _
              rw [HOX.out] at hg6
              have hX5 : Below wr.heap.size wr ((W5.alloc oX).alloc oX) := (HB5.out.alloc HB5.out.size oX).alloc (Nat.le_trans HB5.out.size (by simp)) oX
              have I6 : Is W6 (N + 1 + 1) 25 #[.int .i64 k, .string nm, .bool u, .int .i64 r, .slice R lr cr, .slice ao j cpa] := (HW.out.out.below hX5 HW.out.out.lt).grown hg6 (fun e => by have := (HW.out.own.lt _ e.symm).1; omega)
              have c6 := I6.at_ 5
              have f6 := I6.free 5
              simp only [List.getElem?_toArray, List.getElem?_cons_zero, List.getElem?_cons_succ] at c6
              have HR : Hid (∃ av xs, WI n N W0.heap.size V3 k nm u r (.slice R lr cr) (withL (ar.take (j + 1)) (l.drop 0)) av (W6.setCell ⟨N + 1 + 1, 5, none⟩ (.slice (some ⟨g, 0, none⟩) (j + 1) cap)) xs ∧ Left (.slice (some ⟨lb, lo, none⟩) l.length lc) l lw' (0 + (gathL ownP (ar.take (j + 1))).length)) := by
                have hst := wi_step (g := g) (cap := cap) HW.out (by rw [← HN.out]; exact HB.out.size) (y := withP x (l.drop (0 + (gathL ownP (ar.take j)).length))) HTD.out HB5.out oX oX (by rw [HYL.out]; exact hown6) hg6 hgg6
                rw [HYL.out] at hst
                refine ⟨.slice (some ⟨g, 0, none⟩) (j + 1) cap, xs ++ [.int .i64 k1, .string nm1, .bool u1, .int .i64 r1, .slice R1 lr1 cr1, .slice A1 la1 ca1], ?_, ?_⟩
                · rw [HTK.out, withL_append, List.drop_drop]
                  exact hst
                · rw [HGL.out, ← Nat.add_assoc]
                  exact HLF.out.trans HLF2.out
              clear hown6 hg6 hgg6 hX5 I6 O5 HNW HN1 LE LB1 LB2 HTD HB5 HLF2 HW HLF c5 c5' c5w HTK HGL
              go_wp2
              go_roundw
              case rel => exact ⟨j + 1, lw', by omega, by go_num, rfl, HR⟩
              case measure => simp [intOf]; omega
            · have hje : j = la := by omega
              subst hje
              have j1 := (HJ1.out.of (HW.out.kp.low (N + 1) (by omega) HJ1.out.lt (not_some (by omega))))
              have q0 := j1.at_ 0
              have q1 := j1.at_ 1
              have q2 := j1.at_ 2
              have q3 := j1.at_ 3
              have q4 := j1.at_ 4
              have q5 := j1.at_ 5
              have g0 : ∀ i, wr.frozen? ⟨N + 1, i, none⟩ = false := fun i => j1.free i
              simp only [List.getElem?_toArray, List.getElem?_cons_zero, List.getElem?_cons_succ] at q0 q1 q2 q3 q4 q5
              have HFIN : Hid (∀ W' : World, W'.heap.size = wr.heap.size → (∀ b, b ≠ N + 1 → W'.heap[b]? = wr.heap[b]?) → TyAt (only (qW W0.heap.size W.heap.size) W') (n + 1) (withP (.mk k nm u r rs ar) l) [.int .i64 k, .string nm, .bool u, .int .i64 r, .slice R lr cr, .slice ao j cpa] ∧ Left (.slice (some ⟨lb, lo, none⟩) l.length lc) l lw (allP (.mk k nm u r rs ar)).length) := fun W' h1 h2 => by
                have e1 : ar.take j = ar := List.take_of_length_le (Nat.le_of_eq HLA.out)
                have hw' := HW.out
                have hlf := HLF.out
                rw [e1] at hw' hlf
                have hyl := HYL.out
                rw [e1] at hyl
                rw [HN.out]
                have hB0 : Below W0.heap.size W0 wr := HB.out.trans (HBW.out.mono HB.out.size)
                have hrow : ListAt (only (qW W0.heap.size N) wr) 1 IntAt R rs := list_only H1.out (fun bk o e hb => ⟨by simp [qW, hb], hB0.block bk hb⟩) hB0.size
                rw [withP, if_neg H5.out, if_neg H7.out, allP_mk, own_0' H5.out H7.out, List.length_append]
                refine ⟨?_, hlf⟩
                have := with_end (RS := rs) (Pq := R) (Pc := cr) (Aa := ao) (ca := cpa) (W' := W') (by rw [HLR.out, hyl]; exact hw') H0.out.1 (by rw [HLR.out]; exact H0.out.2) hrow (by rw [← HN.out]; exact HB.out.size) h1 h2 (fun h0 bk o e _ => by
                  obtain ⟨bk2, o2, e2, hl2, _⟩ := int_at H1.out h0
                  rw [e] at e2
                  injection e2 with e2
                  injection e2 with e2
                  have h3 := HB.out.size
                  rw [HN.out] at h3
                  omega)
                rw [HLR.out, hyl] at this
                exact this
              have HBF : Hid (∀ W' : World, But (N + 1) wr W' → Below W.heap.size W W') := fun W' h =>
                ⟨h.os.trans HBW.out.os, h.tape.trans HBW.out.tape, h.output.trans HBW.out.output, by rw [h.size]; exact HBW.out.size, fun b hb => (h.block b (by rw [HN.out] at hb; omega)).trans (HBW.out.block b hb)⟩
              have HSET : Hid (∀ (v0 v1 v2 v3 v4 v5 : Value), But (N + 1) wr ((((((wr.setCell ⟨N + 1, 0, none⟩ v0).setCell ⟨N + 1, 1, none⟩ v1).setCell ⟨N + 1, 2, none⟩ v2).setCell ⟨N + 1, 3, none⟩ v3).setCell ⟨N + 1, 4, none⟩ v4).setCell ⟨N + 1, 5, none⟩ v5)) := fun v0 v1 v2 v3 v4 v5 =>
                ((((((But.refl (N + 1) wr).put 0 v0).put 1 v1).put 2 v2).put 3 v3).put 4 v4).put 5 v5
              clear HW HLF HBW HYL
              go_wp2
              refine bodyPost_ret (v := .tuple #[.agg #[.int .i64 k, .string nm, .bool u, .int .i64 r, .slice R lr cr, .slice ao j cpa], lw]) ?hres rfl ?hend
              case hres => simp [results, Try.results17, go_sem, q0, q1, q2, q3, q4, q5]
              case hend =>
                have hbut := HSET.out (.int .i64 k) (.string nm) (.bool u) (.int .i64 r) (.slice R lr cr) (.slice ao j cpa)
                obtain ⟨e1, e2⟩ := HFIN.out _ hbut.size hbut.block
                exact ⟨[.int .i64 k, .string nm, .bool u, .int .i64 r, .slice R lr cr, .slice ao j cpa], lw, rfl, e1, e2, HBF.out _ hbut⟩
        · have HLF : Hid (Left (.slice (some ⟨lb, lo, none⟩) l.length lc) l (.slice (some ⟨lb, lo + 0, none⟩) (ll - 0) (lc - 0)) (0 + (gathL ownP (ar.take 0)).length)) := by
            have := left_cut (lb := lb) (lo := lo) (l := l) hcut
            rw [HLL.out] at this ⊢
            show Left _ _ _ _
            rw [List.take_zero, gathL]
            exact this
          go_wp2_with fail
          try rw [HV3.out]
          clear hcut
          go_loopw [1, 8] (fun lz i wr => ∃ (j : Nat) (lw : Value), j ≤ la ∧ i = .int .i64 j ∧ lw = lz ∧ Hid (∃ av xs, WI n N W0.heap.size V3 k nm u r (.slice R lr cr) (withL (ar.take j) (l.drop 0)) av wr xs ∧ Left (.slice (some ⟨lb, lo, none⟩) l.length lc) l lw (0 + (gathL ownP (ar.take j)).length))) (fun _ i _ => la - (intOf i).toNat)
          case atStart => exact ⟨0, _, Nat.zero_le _, rfl, rfl, _, _, HWI.out, HLF.out⟩
          clear HWI HLF
          case round =>
            obtain ⟨j, lw, hj, rfl, rfl, HQ⟩ := hrel
            obtain ⟨av, xs, q1, q2⟩ := HQ.out
            have HW := Lib.hid q1
            have HLF := Lib.hid q2
            obtain ⟨ao, cpa, hav, _⟩ := own_slice q1.own
            have hyl : (withL (ar.take j) (l.drop 0)).length = j := by rw [withL_len, List.length_take, HLA.out]; omega
            rw [hyl] at hav
            subst hav
            have I0 := HJ0.out.of (q1.kp.low N (by omega) HJ0.out.lt (not_some (by omega)))
            have n5 := I0.at_ 5
            have I2 := q1.out
            have p0 := I2.at_ 0
            have p1 := I2.at_ 1
            have p2 := I2.at_ 2
            have p3 := I2.at_ 3
            have p4 := I2.at_ 4
            have p5 := I2.at_ 5
            simp only [List.getElem?_toArray, List.getElem?_cons_zero, List.getElem?_cons_succ] at n5 p0 p1 p2 p3 p4 p5
            have hBW : Below W.heap.size W wr := q1.kp.below HB3.out (by rw [HN.out]; omega) HB3.out.size (fun q e => by injection e with e; rw [HN.out]; omega)
            have HBW := Lib.hid hBW
            have HYL := Lib.hid hyl
            clear HQ I0 I2 q1 hyl
            by_cases hjl : j < la
            · have hjl' : j < ar.length := by rw [HLA.out]; exact hjl
              obtain ⟨bk, o', cs2, rfl, hlt, _, hs2, hc2⟩ := H2.out.get (by decide) hjl'
              obtain ⟨x, hx⟩ : ∃ x, ar[j] = x := ⟨_, rfl⟩
              rw [hx] at hs2
              have hmem : x ∈ ar := by rw [← hx]; exact List.getElem_mem _
              obtain ⟨k0, nm0, u0, r0, R0, lr0, cr0, A0, la0, ca0, rfl⟩ := hs2.shape
              have hB0 : Below W0.heap.size W0 wr := HB.out.trans (hBW.mono HB.out.size)
              have x0 := (hB0.cell (p := ⟨bk, o' + j * 6 + 0, none⟩) hlt).trans (hc2 0 _ rfl)
              rw [Nat.add_zero] at x0
              have x1 := (hB0.cell (p := ⟨bk, o' + j * 6 + 1, none⟩) hlt).trans (hc2 1 _ rfl)
              have x2 := (hB0.cell (p := ⟨bk, o' + j * 6 + 2, none⟩) hlt).trans (hc2 2 _ rfl)
              have x3 := (hB0.cell (p := ⟨bk, o' + j * 6 + 3, none⟩) hlt).trans (hc2 3 _ rfl)
              have x4 := (hB0.cell (p := ⟨bk, o' + j * 6 + 4, none⟩) hlt).trans (hc2 4 _ rfl)
              have x5 := (hB0.cell (p := ⟨bk, o' + j * 6 + 5, none⟩) hlt).trans (hc2 5 _ rfl)
              have htk : ar.take (j + 1) = ar.take j ++ [x] := by rw [List.take_succ_eq_append_getElem hjl', hx]
              have hgl : (gathL ownP (ar.take (j + 1))).length = (gathL ownP (ar.take j)).length + (allP x).length := by
                rw [htk, gathL_append, List.length_append, gathL_cons, gathL, List.append_nil]
              have hgle : (gathL ownP (ar.take (j + 1))).length ≤ (gathL ownP ar).length := by
                have : gathL ownP ar = gathL ownP (ar.take (j + 1)) ++ gathL ownP (ar.drop (j + 1)) := by rw [← gathL_append, List.take_append_drop]
                rw [this, List.length_append]
                omega
              have HLI := Lib.hid (IH.out x _ m (l.drop (0 + (gathL ownP (ar.take j)).length)) lw wr hs2 (HSM.out x hmem) hB0 (q2 wr (HL.out.below hBW)) (by rw [List.length_drop]; have := HLEN.out; omega))
              have HTK := Lib.hid htk
              have HGL := Lib.hid hgl
              clear hx hmem hs2 hc2 hlt hB0 htk hgl hgle hBW q2
              go_wp2_with fail
              refine HLI.out.mono ?_
              rintro e W5 ⟨ds, lw', rfl, td, lf, b5⟩
              obtain ⟨k1, nm1, u1, r1, R1, lr1, cr1, A1, la1, ca1, rfl⟩ := td.shape
              obtain ⟨oX, hoX⟩ : ∃ o, Obj.cells #[.int .i64 k1, .string nm1, .bool u1, .int .i64 r1, .slice R1 lr1 cr1, .slice A1 la1 ca1] 25 = o := ⟨_, rfl⟩
              have c5 : ((W5.alloc oX).alloc oX).cell? ⟨N + 1 + 1, 5, none⟩ = some (.slice ao j cpa) := (((HW.out.out.below b5 HW.out.out.lt).alloc oX).alloc oX).at_ 5
              have c5' : (W5.alloc oX).cell? ⟨N + 1 + 1, 5, none⟩ = some (.slice ao j cpa) := ((HW.out.out.below b5 HW.out.out.lt).alloc oX).at_ 5
              have c5w : W5.cell? ⟨N + 1 + 1, 5, none⟩ = some (.slice ao j cpa) := (HW.out.out.below b5 HW.out.out.lt).at_ 5
              have HNE : N + 1 + 1 ≠ W5.heap.size := by have := HW.out.big; have := b5.size; omega
              have hX5 : Below wr.heap.size wr ((W5.alloc oX).alloc oX) := (b5.alloc b5.size oX).alloc (Nat.le_trans b5.size (by simp)) oX
              have O5 := Lib.hid (own_below HW.out.own hX5)
              rw [HYL.out] at O5
              have hnews : ∀ (q : Nat) (v : Value), [Value.int .i64 k1, .string nm1, .bool u1, .int .i64 r1, .slice R1 lr1 cr1, .slice A1 la1 ca1][q]? = some v → ((W5.alloc oX).alloc oX).cell? ((⟨W5.heap.size + 1, 0, none⟩ : Addr).add q) = some v := by
                intro q v hq
                have hadd : (⟨W5.heap.size + 1, 0, none⟩ : Addr).add q = ⟨W5.heap.size + 1, q, none⟩ := by unfold Addr.add; split <;> simp_all
                rw [hadd, ← hoX]
                have := Is.made (W5.alloc (.cells #[.int .i64 k1, .string nm1, .bool u1, .int .i64 r1, .slice R1 lr1 cr1, .slice A1 la1 ca1] 25)) 25 #[.int .i64 k1, .string nm1, .bool u1, .int .i64 r1, .slice R1 lr1 cr1, .slice A1 la1 ca1]
                rw [show (W5.alloc (.cells #[.int .i64 k1, .string nm1, .bool u1, .int .i64 r1, .slice R1 lr1 cr1, .slice A1 la1 ca1] 25)).heap.size = W5.heap.size + 1 by simp] at this
                rw [this.at_ q]
                simpa using hq
              have HTD := Lib.hid td
              have HB5 := Lib.hid b5
              have HLF2 := Lib.hid lf
              have HNW := Lib.hid hnews
              have HN1 := Lib.hid td.one.2
              have LE : Hid (N + 1 + 1 + 1 ≤ ((W5.alloc oX).alloc oX).heap.size) := Nat.le_trans HW.out.big hX5.size
              have LB1 : Hid (j + 1 ≤ maxLen) := by show _ ≤ maxLen; unfold maxLen; omega
              have LB2 : Hid ((j + 1) * 88 ≤ 140737488355328) := by show _ ≤ 140737488355328; omega
              have HOX := Lib.hid hoX
              rw [← hoX] at O5 HNW LE c5 c5'
              clear td lf b5 hnews hX5 hoX HLI x0 x1 x2 x3 x4 x5 n5 p0 p1 p2 p3 p4 p5
              go_wp2_with (at_builtin; refine wpList_append_lies _ rfl (.tmp 66) (.tmp 68) 23 rfl (N + 1 + 1 + 1) 25 t0 zeroTy 6 88 Try.underlying23 HTI.out ht0 ht1 ht2 rfl (by decide) _ j xs rfl O5.out ⟨W5.heap.size + 1, 0, none⟩ 1 1 [.int .i64 k1, .string nm1, .bool u1, .int .i64 r1, .slice R1 lr1 cr1, .slice A1 la1 ca1] rfl rfl HNW.out HN1.out (by decide) LB1.out LB2.out LE.out (W5.heap.size + 1 + 1) (by simp) ?_)
              intro g cap W6 hown6 hg6 hgg6 _
              rw [HOX.out] at hg6
              have hX5 : Below wr.heap.size wr ((W5.alloc oX).alloc oX) := (HB5.out.alloc HB5.out.size oX).alloc (Nat.le_trans HB5.out.size (by simp)) oX
              have I6 : Is W6 (N + 1 + 1) 25 #[.int .i64 k, .string nm, .bool u, .int .i64 r, .slice R lr cr, .slice ao j cpa] := (HW.out.out.below hX5 HW.out.out.lt).grown hg6 (fun e => by have := (HW.out.own.lt _ e.symm).1; omega)
              have c6 := I6.at_ 5
              have f6 := I6.free 5
              simp only [List.getElem?_toArray, List.getElem?_cons_zero, List.getElem?_cons_succ] at c6
              have HR : Hid (∃ av xs, WI n N W0.heap.size V3 k nm u r (.slice R lr cr) (withL (ar.take (j + 1)) (l.drop 0)) av (W6.setCell ⟨N + 1 + 1, 5, none⟩ (.slice (some ⟨g, 0, none⟩) (j + 1) cap)) xs ∧ Left (.slice (some ⟨lb, lo, none⟩) l.length lc) l lw' (0 + (gathL ownP (ar.take (j + 1))).length)) := by
                have hst := wi_step (g := g) (cap := cap) HW.out (by rw [← HN.out]; exact HB.out.size) (y := withP x (l.drop (0 + (gathL ownP (ar.take j)).length))) HTD.out HB5.out oX oX (by rw [HYL.out]; exact hown6) hg6 hgg6
                rw [HYL.out] at hst
                refine ⟨.slice (some ⟨g, 0, none⟩) (j + 1) cap, xs ++ [.int .i64 k1, .string nm1, .bool u1, .int .i64 r1, .slice R1 lr1 cr1, .slice A1 la1 ca1], ?_, ?_⟩
                · rw [HTK.out, withL_append, List.drop_drop]
                  exact hst
                · rw [HGL.out, ← Nat.add_assoc]
                  exact HLF.out.trans HLF2.out
              clear hown6 hg6 hgg6 hX5 I6 O5 HNW HN1 LE LB1 LB2 HTD HB5 HLF2 HW HLF c5 c5' c5w HTK HGL
              go_wp2
              go_roundw
              case rel => exact ⟨j + 1, lw', by omega, by go_num, rfl, HR⟩
              case measure => simp [intOf]; omega
            · have hje : j = la := by omega
              subst hje
              have j1 := (HJ1.out.of (HW.out.kp.low (N + 1) (by omega) HJ1.out.lt (not_some (by omega))))
              have q0 := j1.at_ 0
              have q1 := j1.at_ 1
              have q2 := j1.at_ 2
              have q3 := j1.at_ 3
              have q4 := j1.at_ 4
              have q5 := j1.at_ 5
              have g0 : ∀ i, wr.frozen? ⟨N + 1, i, none⟩ = false := fun i => j1.free i
              simp only [List.getElem?_toArray, List.getElem?_cons_zero, List.getElem?_cons_succ] at q0 q1 q2 q3 q4 q5
              have HFIN : Hid (∀ W' : World, W'.heap.size = wr.heap.size → (∀ b, b ≠ N + 1 → W'.heap[b]? = wr.heap[b]?) → TyAt (only (qW W0.heap.size W.heap.size) W') (n + 1) (withP (.mk k nm u r rs ar) l) [.int .i64 k, .string nm, .bool u, .int .i64 r, .slice R lr cr, .slice ao j cpa] ∧ Left (.slice (some ⟨lb, lo, none⟩) l.length lc) l lw (allP (.mk k nm u r rs ar)).length) := fun W' h1 h2 => by
                have e1 : ar.take j = ar := List.take_of_length_le (Nat.le_of_eq HLA.out)
                have hw' := HW.out
                have hlf := HLF.out
                rw [e1] at hw' hlf
                have hyl := HYL.out
                rw [e1] at hyl
                rw [HN.out]
                have hB0 : Below W0.heap.size W0 wr := HB.out.trans (HBW.out.mono HB.out.size)
                have hrow : ListAt (only (qW W0.heap.size N) wr) 1 IntAt R rs := list_only H1.out (fun bk o e hb => ⟨by simp [qW, hb], hB0.block bk hb⟩) hB0.size
                rw [withP, if_neg H5.out, if_neg H7.out, allP_mk, own_0' H5.out H7.out, List.length_append]
                refine ⟨?_, hlf⟩
                have := with_end (RS := rs) (Pq := R) (Pc := cr) (Aa := ao) (ca := cpa) (W' := W') (by rw [HLR.out, hyl]; exact hw') H0.out.1 (by rw [HLR.out]; exact H0.out.2) hrow (by rw [← HN.out]; exact HB.out.size) h1 h2 (fun h0 bk o e _ => by
                  obtain ⟨bk2, o2, e2, hl2, _⟩ := int_at H1.out h0
                  rw [e] at e2
                  injection e2 with e2
                  injection e2 with e2
                  have h3 := HB.out.size
                  rw [HN.out] at h3
                  omega)
                rw [HLR.out, hyl] at this
                exact this
              have HBF : Hid (∀ W' : World, But (N + 1) wr W' → Below W.heap.size W W') := fun W' h =>
                ⟨h.os.trans HBW.out.os, h.tape.trans HBW.out.tape, h.output.trans HBW.out.output, by rw [h.size]; exact HBW.out.size, fun b hb => (h.block b (by rw [HN.out] at hb; omega)).trans (HBW.out.block b hb)⟩
              have HSET : Hid (∀ (v0 v1 v2 v3 v4 v5 : Value), But (N + 1) wr ((((((wr.setCell ⟨N + 1, 0, none⟩ v0).setCell ⟨N + 1, 1, none⟩ v1).setCell ⟨N + 1, 2, none⟩ v2).setCell ⟨N + 1, 3, none⟩ v3).setCell ⟨N + 1, 4, none⟩ v4).setCell ⟨N + 1, 5, none⟩ v5)) := fun v0 v1 v2 v3 v4 v5 =>
                ((((((But.refl (N + 1) wr).put 0 v0).put 1 v1).put 2 v2).put 3 v3).put 4 v4).put 5 v5
              clear HW HLF HBW HYL
              go_wp2
              refine bodyPost_ret (v := .tuple #[.agg #[.int .i64 k, .string nm, .bool u, .int .i64 r, .slice R lr cr, .slice ao j cpa], lw]) ?hres rfl ?hend
              case hres => simp [results, Try.results17, go_sem, q0, q1, q2, q3, q4, q5]
              case hend =>
                have hbut := HSET.out (.int .i64 k) (.string nm) (.bool u) (.int .i64 r) (.slice R lr cr) (.slice ao j cpa)
                obtain ⟨e1, e2⟩ := HFIN.out _ hbut.size hbut.block
                exact ⟨[.int .i64 k, .string nm, .bool u, .int .i64 r, .slice R lr cr, .slice ao j cpa], lw, rfl, e1, e2, HBF.out _ hbut⟩
theorem with_all_ok (W0 : World) : ∀ n, WithOk W0 n
  | 0 => fun _ _ _ _ _ _ h _ _ _ _ => h.elim
  | n + 1 => with_step W0 n (Lib.hid (with_all_ok W0 n))
end Sb
end Go.Proofs.Ytebnonbfjkielaa

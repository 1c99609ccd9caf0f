/- A solver in memory; which regions and elements are there; has one it. -/
import Derived.Test.YtbflkaaenoeniaaDoorSolC
namespace Go.Proofs.YtbflkaaenoeniaaDoor
open Go.RowKit Lf Go.Deep
namespace Sv
/-- A solver's two slices. -/
def Head (w : World) (b n m : Nat) : Prop := ∃ A1 A2, Is w b 49 #[.slice A1 n n, .slice A2 m m]
structure Sol (w : World) (b b1 b2 : Nat) (O I : Nat → Nat) (n m : Nat) (X Y : Nat → Nat) : Prop where
  few : n ≤ 64
  most : m ≤ 2700
  tab : TabAt w
  head : Is w b 49 #[.slice (some ⟨b1, 0, none⟩) n n, .slice (some ⟨b2, 0, none⟩) m m]
  over : ∃ cs, Is w b1 51 cs ∧ ∀ i, i < n → cs[i]? = some (.slice (some ⟨O i, 0, none⟩) 1 1)
  inn : ∃ cs, Is w b2 51 cs ∧ ∀ i, i < m → cs[i]? = some (.slice (some ⟨I i, 0, none⟩) 1 1)
  orow : ∀ i, i < n → Is w (O i) 36 #[.int .u64 (X i)]
  irow : ∀ i, i < m → Is w (I i) 36 #[.int .u64 (Y i)]
  oap : ∀ i j, i < n → j < n → O i = O j → i = j
  iap : ∀ i j, i < m → j < m → I i = I j → i = j
  both : ∀ i j, i < n → j < m → O i ≠ I j
  xlt : ∀ i, i < n → X i < 2 ^ n
  ylt : ∀ i, i < m → Y i < 2 ^ n
section
variable {w w' : World} {b b1 b2 : Nat} {O I : Nat → Nat} {n m : Nat} {X Y : Nat → Nat}
theorem Sol.toHead (h : Sol w b b1 b2 O I n m X Y) : Head w b n m := ⟨_, _, h.head⟩
theorem Sol.c0 (h : Sol w b b1 b2 O I n m X Y) : w.cell? ⟨b, 0, none⟩ = some (.slice (some ⟨b1, 0, none⟩) n n) := by rw [h.head.at_]; rfl
theorem Sol.c1 (h : Sol w b b1 b2 O I n m X Y) : w.cell? ⟨b, 1, none⟩ = some (.slice (some ⟨b2, 0, none⟩) m m) := by rw [h.head.at_]; rfl
theorem Sol.co (h : Sol w b b1 b2 O I n m X Y) {i : Nat} (hi : i < n) : w.cell? ⟨b1, i, none⟩ = some (.slice (some ⟨O i, 0, none⟩) 1 1) := by
  obtain ⟨cs, hc, hr⟩ := h.over
  rw [hc.at_, hr i hi]
theorem Sol.ci (h : Sol w b b1 b2 O I n m X Y) {i : Nat} (hi : i < m) : w.cell? ⟨b2, i, none⟩ = some (.slice (some ⟨I i, 0, none⟩) 1 1) := by
  obtain ⟨cs, hc, hr⟩ := h.inn
  rw [hc.at_, hr i hi]
theorem Sol.xo (h : Sol w b b1 b2 O I n m X Y) {i : Nat} (hi : i < n) : w.cell? ⟨O i, 0, none⟩ = some (.int .u64 (X i)) := by rw [(h.orow i hi).at_]; rfl
theorem Sol.yi (h : Sol w b b1 b2 O I n m X Y) {i : Nat} (hi : i < m) : w.cell? ⟨I i, 0, none⟩ = some (.int .u64 (Y i)) := by rw [(h.irow i hi).at_]; rfl
theorem Sol.x64 (h : Sol w b b1 b2 O I n m X Y) {i : Nat} (hi : i < n) : X i < 2 ^ 64 := Nat.lt_of_lt_of_le (h.xlt i hi) (Nat.pow_le_pow_right (by decide) h.few)
theorem Sol.y64 (h : Sol w b b1 b2 O I n m X Y) {i : Nat} (hi : i < m) : Y i < 2 ^ 64 := Nat.lt_of_lt_of_le (h.ylt i hi) (Nat.pow_le_pow_right (by decide) h.few)
theorem Sol.of (h : Sol w b b1 b2 O I n m X Y) (ht : TabAt w') (h0 : w'.heap[b]? = w.heap[b]?) (h1 : w'.heap[b1]? = w.heap[b1]?) (h2 : w'.heap[b2]? = w.heap[b2]?) (h3 : ∀ i, i < n → w'.heap[O i]? = w.heap[O i]?) (h4 : ∀ i, i < m → w'.heap[I i]? = w.heap[I i]?) : Sol w' b b1 b2 O I n m X Y := by
  obtain ⟨c1, o1, o2⟩ := h.over
  obtain ⟨c2, i1, i2⟩ := h.inn
  exact ⟨h.few, h.most, ht, h.head.of h0, ⟨c1, o1.of h1, o2⟩, ⟨c2, i1.of h2, i2⟩, fun i hi => (h.orow i hi).of (h3 i hi), fun i hi => (h.irow i hi).of (h4 i hi), h.oap, h.iap, h.both, h.xlt, h.ylt⟩
theorem Sol.lt (h : Sol w b b1 b2 O I n m X Y) : b < w.heap.size ∧ b1 < w.heap.size ∧ b2 < w.heap.size := by
  obtain ⟨_, o1, _⟩ := h.over
  obtain ⟨_, i1, _⟩ := h.inn
  exact ⟨h.head.lt, o1.lt, i1.lt⟩
theorem Sol.below (h : Sol w b b1 b2 O I n m X Y) (hb : Below w.heap.size w w') : Sol w' b b1 b2 O I n m X Y :=
  h.of (h.tab.below hb h.tab.pos) (hb.block _ h.lt.1) (hb.block _ h.lt.2.1) (hb.block _ h.lt.2.2) (fun i hi => hb.block _ (h.orow i hi).lt) (fun i hi => hb.block _ (h.irow i hi).lt)
theorem Sol.drew (h : Sol w b b1 b2 O I n m X Y) : Sol w.drew b b1 b2 O I n m X Y := h.of (fun j hj => h.tab j hj) rfl rfl rfl (fun _ _ => rfl) (fun _ _ => rfl)
theorem Sol.drewN (h : Sol w b b1 b2 O I n m X Y) (q : Nat) : Sol (w.drewN q) b b1 b2 O I n m X Y := h.of (fun j hj => h.tab j hj) rfl rfl rfl (fun _ _ => rfl) (fun _ _ => rfl)
theorem is_ne {b b' : Nat} {t t' : TypeId} {cs cs' : Array Value} (h : Is w b t cs) (h' : Is w b' t' cs') (hn : t ≠ t') : b ≠ b' := by
  rintro rfl
  unfold Is at h h'
  rw [h] at h'
  injection h' with h'
  injection h' with _ e
  exact hn e
/-- An element's word is written. -/
theorem Sol.inn_put (h : Sol w b b1 b2 O I n m X Y) {e y : Nat} (he : e < m) (hm : Mod (fun k => k = I e) w w') (hi : Is w' (I e) 36 #[.int .u64 (y : Nat)]) (hy : y < 2 ^ n) : Sol w' b b1 b2 O I n m X (put Y e y) := by
  obtain ⟨c1, o1, o2⟩ := h.over
  obtain ⟨c2, i1, i2⟩ := h.inn
  have hr := h.irow e he
  have h0 := h.tab.ne hr
  refine ⟨h.few, h.most, h.tab.mod hm (fun e => h0 e.symm), hm.is h.head (is_ne h.head hr (by decide)), ⟨c1, hm.is o1 (is_ne o1 hr (by decide)), o2⟩, ⟨c2, hm.is i1 (is_ne i1 hr (by decide)), i2⟩,
    fun i hi => hm.is (h.orow i hi) (h.both i e hi he), fun i hi' => ?_, h.oap, h.iap, h.both, h.xlt, fun i hi => ?_⟩
  · unfold put
    by_cases hie : i = e
    · subst hie; rw [if_pos rfl]; exact hi
    · rw [if_neg hie]; exact hm.is (h.irow i hi') fun e' => hie (h.iap i e hi' he e')
  · unfold put
    split
    · exact hy
    · exact h.ylt i hi
/-- A region's word is written. -/
theorem Sol.over_put (h : Sol w b b1 b2 O I n m X Y) {a x : Nat} (ha : a < n) (hm : Mod (fun k => k = O a) w w') (hi : Is w' (O a) 36 #[.int .u64 (x : Nat)]) (hx : x < 2 ^ n) : Sol w' b b1 b2 O I n m (put X a x) Y := by
  obtain ⟨c1, o1, o2⟩ := h.over
  obtain ⟨c2, i1, i2⟩ := h.inn
  have hr := h.orow a ha
  have h0 := h.tab.ne hr
  refine ⟨h.few, h.most, h.tab.mod hm (fun e => h0 e.symm), hm.is h.head (is_ne h.head hr (by decide)), ⟨c1, hm.is o1 (is_ne o1 hr (by decide)), o2⟩, ⟨c2, hm.is i1 (is_ne i1 hr (by decide)), i2⟩,
    fun i hi' => ?_, fun i hi => hm.is (h.irow i hi) (fun e => h.both a i ha hi e.symm), h.oap, h.iap, h.both, fun i hi => ?_, h.ylt⟩
  · unfold put
    by_cases hie : i = a
    · subst hie; rw [if_pos rfl]; exact hi
    · rw [if_neg hie]; exact hm.is (h.orow i hi') fun e' => hie (h.oap i a hi' ha e')
  · unfold put
    split
    · exact hx
    · exact h.xlt i hi
theorem regions_any (h : Head w b n m) : Calls Tryd.prog 24 #[.pointer (some ⟨b, 0, none⟩)] w fun e w' => e = .returned (.int .i64 n) ∧ w = w' := by
  obtain ⟨A1, A2, h⟩ := h
  have c0 := h.at_ 0
  simp only [List.getElem?_toArray, List.getElem?_cons_zero] at c0
  clear h
  go_enter Tryd.func24, Tryd.ntmps24
  go_wp2
  go_ret
  exact ⟨rfl, rfl⟩
theorem regions_nil (w : World) : Calls Tryd.prog 24 #[.pointer none] w fun e w' => e = .returned (.int .i64 0) ∧ w = w' := by
  go_enter Tryd.func24, Tryd.ntmps24
  go_wp2
  go_ret
  exact ⟨rfl, rfl⟩
/-- Is it a number below n? -/
def inB (n : Nat) (a : Int) : Bool := decide (0 ≤ a) && decide (a < (n : Int))
theorem inB_iff {n : Nat} {a : Int} : inB n a = true ↔ 0 ≤ a ∧ a < n := by simp [inB]
theorem inB_nat {n k : Nat} (h : k < n) : inB n k = true := inB_iff.2 (by omega)
theorem inB_get {n : Nat} {a : Int} (h : inB n a = true) : ∃ k : Nat, a = k ∧ k < n := by
  rw [inB_iff] at h
  exact ⟨a.toNat, by omega, by omega⟩
theorem hasRegion_any (h : Head w b n m) (a : Int) : Calls Tryd.prog 18 #[.pointer (some ⟨b, 0, none⟩), .int .i64 a] w fun e w' => e = .returned (.bool (inB n a)) ∧ w = w' := by
  have H := Lib.hid h
  clear h
  by_cases h0 : 0 ≤ a
  · have e : inB n a = decide (a < (n : Int)) := by unfold inB; rw [decide_eq_true h0, Bool.true_and]
    rw [e]
    go_enter Tryd.func18, Tryd.ntmps18
    go_wp2_with fail
    refine (regions_any H.out).mono ?_
    rintro e w1 ⟨rfl, rfl⟩
    go_wp2
    go_ret
    exact ⟨rfl, rfl⟩
  · have e : inB n a = false := by unfold inB; rw [decide_eq_false h0, Bool.false_and]
    have hd : decide (0 ≤ a) = false := decide_eq_false h0
    rw [e]
    go_enter Tryd.func18, Tryd.ntmps18
    go_wp2
    go_ret
    exact ⟨rfl, rfl⟩
theorem hasRegion_nil (a : Int) (w : World) : Calls Tryd.prog 18 #[.pointer none, .int .i64 a] w fun e w' => e = .returned (.bool false) ∧ w = w' := by
  by_cases h0 : 0 ≤ a
  · have hd : decide (a < 0) = false := decide_eq_false (by omega)
    go_enter Tryd.func18, Tryd.ntmps18
    go_wp2_with fail
    refine (regions_nil _).mono ?_
    rintro e w1 ⟨rfl, rfl⟩
    go_wp2
    go_ret
    exact ⟨rfl, rfl⟩
  · have hd : decide (0 ≤ a) = false := decide_eq_false h0
    go_enter Tryd.func18, Tryd.ntmps18
    go_wp2
    go_ret
    exact ⟨rfl, rfl⟩
theorem hasBoth_any (h : Head w b n m) (r e : Int) : Calls Tryd.prog 20 #[.pointer (some ⟨b, 0, none⟩), .int .i64 r, .int .i64 e] w fun x w' => x = .returned (.bool (inB n r && inB m e)) ∧ w = w' := by
  have H := Lib.hid h
  obtain ⟨A1, A2, h⟩ := h
  have c1 := h.at_ 1
  simp only [List.getElem?_toArray, List.getElem?_cons_zero, List.getElem?_cons_succ] at c1
  have hr := hasRegion_any H.out r
  clear h
  cases hx : inB n r with
  | false =>
    rw [hx] at hr
    have HR := Lib.hid hr
    clear hr hx
    go_enter Tryd.func20, Tryd.ntmps20
    go_wp2_with fail
    refine HR.out.mono ?_
    rintro e w1 ⟨rfl, rfl⟩
    go_wp2
    go_ret
    exact ⟨rfl, rfl⟩
  | true =>
    rw [hx] at hr
    have HR := Lib.hid hr
    clear hr hx
    by_cases h0 : 0 ≤ e
    · have e' : inB m e = decide (e < (m : Int)) := by unfold inB; rw [decide_eq_true h0, Bool.true_and]
      rw [e', Bool.true_and]
      go_enter Tryd.func20, Tryd.ntmps20
      go_wp2_with fail
      refine HR.out.mono ?_
      rintro e w1 ⟨rfl, rfl⟩
      go_wp2
      go_ret
      exact ⟨rfl, rfl⟩
    · have e' : inB m e = false := by unfold inB; rw [decide_eq_false h0, Bool.false_and]
      have hd : decide (0 ≤ e) = false := decide_eq_false h0
      rw [e', Bool.true_and]
      go_enter Tryd.func20, Tryd.ntmps20
      go_wp2_with fail
      refine HR.out.mono ?_
      rintro e w1 ⟨rfl, rfl⟩
      go_wp2
      go_ret
      exact ⟨rfl, rfl⟩
theorem hasBoth_nil (r e : Int) (w : World) : Calls Tryd.prog 20 #[.pointer none, .int .i64 r, .int .i64 e] w fun x w' => x = .returned (.bool false) ∧ w = w' := by
  go_enter Tryd.func20, Tryd.ntmps20
  go_wp2_with fail
  refine (hasRegion_nil _ _).mono ?_
  rintro e w1 ⟨rfl, rfl⟩
  go_wp2
  go_ret
  exact ⟨rfl, rfl⟩
end
end Sv
end Go.Proofs.YtbflkaaenoeniaaDoor

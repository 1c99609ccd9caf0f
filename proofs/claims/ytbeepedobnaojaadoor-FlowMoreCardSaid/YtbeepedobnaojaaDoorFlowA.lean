/- Facts that go along a graph: which are ahead of a node, forward and backward; what is come to from some nodes; plain facts. -/
import Derived.WalkKit
namespace Go.Proofs.YtbeepedobnaojaaDoor
namespace Fl
abbrev Ls := List (List Int)
/-- Is a number in a node's list? -/
def hasL (l : Ls) (i : Nat) (e : Int) : Bool := (l.getD i []).contains e
structure Pb where
  succ : Ls
  width : Int
  gen : Ls
  kill : Ls
  entry : List Int
def rowOk (most : Int) (l : List Int) : Bool := l.all fun y => decide (0 ≤ y) && decide (y < most)
def lsOk (most : Int) (l : Ls) : Bool := l.all (rowOk most)
structure Pb.Ok (p : Pb) : Prop where
  nodes : p.succ.length ≤ 1201
  low : 0 ≤ p.width
  high : p.width ≤ 4000
  gen : p.gen.length ≤ p.succ.length
  kill : p.kill.length ≤ p.succ.length
  s : lsOk p.succ.length p.succ = true
  g : lsOk p.width p.gen = true
  k : lsOk p.width p.kill = true
  e : rowOk p.width p.entry = true
/-- From node to node. -/
def Nx (p : Pb) (i j : Nat) : Prop := hasL p.succ i (j : Int) = true
inductive Fwd (p : Pb) (e : Int) : Nat → Prop
  | entry : e ∈ p.entry → 0 < p.succ.length → Fwd p e 0
  | gen (i j : Nat) : hasL p.gen i e = true → Nx p i j → Fwd p e j
  | pass (i j : Nat) : Fwd p e i → hasL p.kill i e = false → Nx p i j → Fwd p e j
inductive Bwd (p : Pb) (e : Int) : Nat → Prop
  | gen (i : Nat) : hasL p.gen i e = true → Bwd p e i
  | pass (i j : Nat) : Nx p i j → Bwd p e j → hasL p.kill i e = false → Bwd p e i
/-- What is come to from some nodes, by steps, without those that end it. -/
inductive Rch (b k : Nat → Bool) (X : Nat → Nat → Bool) : Nat → Prop
  | base (i : Nat) : b i = true → Rch b k X i
  | step (i j : Nat) : Rch b k X i → X i j = true → k j = false → Rch b k X j
theorem fwd_iff {p : Pb} {e : Int} {b k : Nat → Bool} {X : Nat → Nat → Bool} (hX : ∀ i j, X i j = true ↔ Nx p i j) (hk : ∀ i, k i = hasL p.kill i e)
    (hb : ∀ i, b i = true ↔ hasL p.gen i e = true ∨ (i = 0 ∧ e ∈ p.entry ∧ 0 < p.succ.length ∧ hasL p.kill 0 e = false)) (j : Nat) :
    Fwd p e j ↔ (j = 0 ∧ e ∈ p.entry ∧ 0 < p.succ.length) ∨ ∃ i, Rch b k X i ∧ X i j = true := by
  constructor
  · intro h
    induction h with
    | entry h1 h2 => exact .inl ⟨rfl, h1, h2⟩
    | gen i j h1 h2 => exact .inr ⟨i, .base i ((hb i).2 (.inl h1)), (hX i j).2 h2⟩
    | pass i j h1 h2 h3 ih =>
      rcases ih with ⟨rfl, he, h0⟩ | ⟨i', hr, hx⟩
      · exact .inr ⟨0, .base 0 ((hb 0).2 (.inr ⟨rfl, he, h0, h2⟩)), (hX _ _).2 h3⟩
      · exact .inr ⟨i, .step i' i hr hx (by rw [hk]; exact h2), (hX _ _).2 h3⟩
  · have leaves : ∀ i, Rch b k X i → hasL p.gen i e = true ∨ (Fwd p e i ∧ hasL p.kill i e = false) := by
      intro i h
      induction h with
      | base i h =>
        rcases (hb i).1 h with h | ⟨rfl, h1, h2, h3⟩
        · exact .inl h
        · exact .inr ⟨.entry h1 h2, h3⟩
      | step i j _ h2 h3 ih =>
        rw [hk] at h3
        refine .inr ⟨?_, h3⟩
        rcases ih with ih | ⟨ih1, ih2⟩
        · exact .gen i j ih ((hX _ _).1 h2)
        · exact .pass i j ih1 ih2 ((hX _ _).1 h2)
    rintro (⟨rfl, h1, h2⟩ | ⟨i, hr, hx⟩)
    · exact .entry h1 h2
    · rcases leaves i hr with h | ⟨h, h'⟩
      · exact .gen i j h ((hX _ _).1 hx)
      · exact .pass i j h h' ((hX _ _).1 hx)
theorem bwd_iff {p : Pb} {e : Int} {b k : Nat → Bool} {X : Nat → Nat → Bool} (hX : ∀ i j, X i j = true ↔ Nx p j i) (hk : ∀ i, k i = hasL p.kill i e)
    (hb : ∀ i, b i = hasL p.gen i e) (j : Nat) : Bwd p e j ↔ Rch b k X j := by
  constructor
  · intro h
    induction h with
    | gen i h => exact .base i (by rw [hb]; exact h)
    | pass i j h1 _ h3 ih => exact .step j i ih ((hX j i).2 h1) (by rw [hk]; exact h3)
  · intro h
    induction h with
    | base i h => exact .gen i (by rw [← hb]; exact h)
    | step i j _ h2 h3 ih => exact .pass j i ((hX _ _).1 h2) ih (by rw [← hk]; exact h3)
/-! Rounds until nothing changes. -/
def cntB (n : Nat) (C : Nat → Bool) : Nat := (List.range n).countP C
theorem cnt_le (n : Nat) (C : Nat → Bool) : cntB n C ≤ n := by
  have : cntB n C ≤ (List.range n).length := List.countP_le_length
  simpa using this
theorem cnt_lt {n : Nat} {C D : Nat → Bool} (h : ∀ j, C j = true → D j = true) {x : Nat} (hx : x < n) (hc : C x = false) (hd : D x = true) : cntB n C < cntB n D := by
  have : ∀ l : List Nat, x ∈ l → l.countP C < l.countP D := by
    intro l
    induction l with
    | nil => intro h; cases h
    | cons y l ih =>
      intro hx
      have hm : l.countP C ≤ l.countP D := List.countP_mono_left fun j _ hj => h j hj
      rw [List.countP_cons, List.countP_cons]
      rcases List.mem_cons.1 hx with rfl | hx
      · rw [hc, hd]; simp; omega
      · have := ih hx
        have hy := h y
        cases h1 : C y <;> cases h2 : D y <;> simp <;> simp_all <;> omega
  exact this _ (List.mem_range.2 hx)
/-- What grows, and stands once it stands, stands after as many steps as there are places. -/
theorem stands {n : Nat} (T : Nat → Nat → Bool) (c : Nat) (h0 : c ≤ cntB n (T 0)) (up : ∀ m j, T m j = true → T (m + 1) j = true) (inn : ∀ m j, T (m + 1) j = true → T m j = true ∨ j < n)
    (next : ∀ m, T (m + 1) = T m → T (m + 2) = T (m + 1)) {m : Nat} (hm : n < m + c + 1) : T (m + 1) = T m := by
  have key : ∀ m, T (m + 1) = T m ∨ m + c + 1 ≤ cntB n (T (m + 1)) := by
    intro m
    induction m with
    | zero =>
      by_cases h : T (0 + 1) = T 0
      · exact .inl h
      · right
        obtain ⟨x, hx⟩ : ∃ x, T (0 + 1) x ≠ T 0 x := Classical.not_forall.1 fun q => h (funext q)
        have h1 : T 0 x = false := by
          cases h1 : T 0 x with
          | false => rfl
          | true => exact absurd ((up 0 x h1).trans h1.symm) hx
        have h2 : T (0 + 1) x = true := by rw [h1] at hx; exact eq_true_of_ne_false hx
        have hn : x < n := by
          rcases inn 0 x h2 with h3 | h3
          · rw [h1] at h3; cases h3
          · exact h3
        have := cnt_lt (up 0) hn h1 h2
        omega
    | succ m ih =>
      by_cases h : T (m + 1 + 1) = T (m + 1)
      · exact .inl h
      · right
        rcases ih with ih | ih
        · exact absurd (next m ih) h
        obtain ⟨x, hx⟩ : ∃ x, T (m + 1 + 1) x ≠ T (m + 1) x := Classical.not_forall.1 fun q => h (funext q)
        have h1 : T (m + 1) x = false := by
          cases h1 : T (m + 1) x with
          | false => rfl
          | true => exact absurd ((up (m + 1) x h1).trans h1.symm) hx
        have h2 : T (m + 1 + 1) x = true := by rw [h1] at hx; exact eq_true_of_ne_false hx
        have hn : x < n := by
          rcases inn (m + 1) x h2 with h3 | h3
          · rw [h1] at h3; cases h3
          · exact h3
        have := cnt_lt (up (m + 1)) hn h1 h2
        omega
  rcases key m with h | h
  · exact h
  · have := cnt_le n (T (m + 1))
    omega
/-! The reference's rounds: forward. -/
def leavesB (p : Pb) (e : Int) (i : Nat) (ahead : Bool) : Bool := hasL p.gen i e || (ahead && !hasL p.kill i e)
/-- All of a node's next ones are set. -/
def setAll (l : List Int) (C : Nat → Bool) : Nat → Bool := fun j => C j || l.contains (j : Int)
def fstep (p : Pb) (e : Int) (C : Nat → Bool) (i : Nat) : Nat → Bool := if leavesB p e i (C i) then setAll (p.succ.getD i []) C else C
def fpass (p : Pb) (e : Int) (m : Nat) (C : Nat → Bool) : Nat → Bool := (List.range m).foldl (fstep p e) C
theorem fpass_succ (p : Pb) (e : Int) (m : Nat) (C : Nat → Bool) : fpass p e (m + 1) C = fstep p e (fpass p e m C) m := by
  unfold fpass; rw [List.range_succ, List.foldl_append]; rfl
def fstart (p : Pb) (e : Int) : Nat → Bool := fun j => j == 0 && (decide (0 < p.succ.length) && p.entry.contains e)
def frounds (p : Pb) (e : Int) : Nat → Nat → Bool
  | 0 => fstart p e
  | r + 1 => fpass p e p.succ.length (frounds p e r)
theorem fstep_up {p : Pb} {e : Int} {C : Nat → Bool} {i j : Nat} (h : C j = true) : fstep p e C i j = true := by
  unfold fstep
  split
  · unfold setAll; rw [h]; rfl
  · exact h
theorem fpass_up {p : Pb} {e : Int} {C : Nat → Bool} {j : Nat} (h : C j = true) : ∀ m, fpass p e m C j = true
  | 0 => h
  | m + 1 => by rw [fpass_succ]; exact fstep_up (fpass_up h m)
theorem fstep_in {p : Pb} {e : Int} (hp : lsOk p.succ.length p.succ = true) {C : Nat → Bool} {i j : Nat} (h : fstep p e C i j = true) : C j = true ∨ j < p.succ.length := by
  unfold fstep at h
  split at h
  · unfold setAll at h
    rw [Bool.or_eq_true] at h
    rcases h with h | h
    · exact .inl h
    · right
      have hm : (j : Int) ∈ p.succ.getD i [] := by simpa using h
      have hl : p.succ.getD i [] ∈ p.succ := by
        rw [List.getD_eq_getElem?_getD] at hm ⊢
        cases hq : p.succ[i]? with
        | none => rw [hq] at hm; cases hm
        | some l => exact List.mem_of_getElem? hq
      have := List.all_eq_true.1 (List.all_eq_true.1 hp _ hl) _ hm
      simp at this
      exact this
  · exact .inl h
theorem fpass_in {p : Pb} {e : Int} (hp : lsOk p.succ.length p.succ = true) {C : Nat → Bool} {j : Nat} : ∀ m, fpass p e m C j = true → C j = true ∨ j < p.succ.length
  | 0, h => .inl h
  | m + 1, h => by
    rw [fpass_succ] at h
    rcases fstep_in hp h with h | h
    · exact fpass_in hp m h
    · exact .inr h
theorem fstep_sound {p : Pb} {e : Int} {C : Nat → Bool} (h : ∀ j, C j = true → Fwd p e j) {i j : Nat} (hj : fstep p e C i j = true) : Fwd p e j := by
  unfold fstep at hj
  split at hj
  · rename_i hl
    unfold setAll at hj
    rw [Bool.or_eq_true] at hj
    rcases hj with hj | hj
    · exact h j hj
    · unfold leavesB at hl
      simp only [Bool.or_eq_true, Bool.and_eq_true, Bool.not_eq_true'] at hl
      rcases hl with hl | ⟨h1, h2⟩
      · exact .gen i j hl hj
      · exact .pass i j (h i h1) h2 hj
  · exact h j hj
theorem fpass_sound {p : Pb} {e : Int} {C : Nat → Bool} (h : ∀ j, C j = true → Fwd p e j) : ∀ m j, fpass p e m C j = true → Fwd p e j
  | 0, j, hj => h j hj
  | m + 1, j, hj => by
    rw [fpass_succ] at hj
    exact fstep_sound (fpass_sound h m) hj
theorem frounds_sound (p : Pb) (e : Int) : ∀ r j, frounds p e r j = true → Fwd p e j
  | 0, j, h => by
    simp only [frounds, fstart, Bool.and_eq_true, beq_iff_eq, decide_eq_true_eq] at h
    obtain ⟨rfl, h1, h2⟩ := h
    exact .entry (by simpa using h2) h1
  | r + 1, j, h => fpass_sound (frounds_sound p e r) _ j h
theorem fpass_fix {p : Pb} {e : Int} {C : Nat → Bool} : ∀ m, fpass p e m C = C → ∀ i, i < m → fstep p e C i = C
  | 0, _, i, hi => by omega
  | m + 1, h, i, hi => by
    have h1 : fpass p e m C = C := by
      funext j
      cases hc : C j with
      | true => exact fpass_up hc m
      | false =>
        cases hq : fpass p e m C j with
        | false => rfl
        | true =>
          have := fstep_up (p := p) (e := e) (i := m) hq
          rw [← fpass_succ, h, hc] at this
          cases this
    by_cases him : i = m
    · subst him
      rw [fpass_succ, h1] at h
      exact h
    · exact fpass_fix m h1 i (by omega)
theorem frounds_end {p : Pb} (hp : lsOk p.succ.length p.succ = true) (e : Int) (j : Nat) : frounds p e (p.succ.length + 1) j = true ↔ Fwd p e j := by
  refine ⟨frounds_sound p e _ j, fun h => ?_⟩
  obtain ⟨n, hn⟩ : ∃ n, p.succ.length = n := ⟨_, rfl⟩
  have hst := stands (n := n) (frounds p e) 0 (Nat.zero_le _) (fun m j h => fpass_up h _) (fun m j h => by rw [← hn]; exact fpass_in hp _ h)
    (fun m h => by show fpass _ _ _ (frounds p e (m + 1)) = _; rw [h]; exact h) (m := n + 1) (by omega)
  rw [hn]
  have fx : ∀ i, i < n → fstep p e (frounds p e (n + 1)) i = frounds p e (n + 1) := fpass_fix n (by rw [← hn]; rw [← hn] at hst; exact hst)
  have sub : ∀ m j, frounds p e 0 j = true → frounds p e m j = true := by
    intro m
    induction m with
    | zero => intro j h; exact h
    | succ m ih => intro j h; exact fpass_up (ih j h) _
  have one : ∀ i j, leavesB p e i (frounds p e (n + 1) i) = true → Nx p i j → frounds p e (n + 1) j = true := by
    intro i j hl hx
    have hi : i < n := by
      rw [← hn]
      apply Nat.lt_of_not_le
      intro hle
      unfold Nx hasL at hx
      rw [List.getD_eq_getElem?_getD, List.getElem?_eq_none hle] at hx
      cases hx
    have := congrFun (fx i hi) j
    rw [← this]
    unfold fstep
    rw [if_pos hl]
    unfold setAll
    rw [Bool.or_eq_true]
    exact .inr hx
  induction h with
  | entry h1 h2 => exact sub _ _ (by simp [frounds, fstart, h1, h2])
  | gen i j h1 h2 => exact one i j (by unfold leavesB; rw [h1]; rfl) h2
  | pass i j _ h2 h3 ih => exact one i j (by unfold leavesB; rw [ih, h2]; simp) h3
/-! Backward. -/
def anyB (l : List Int) (C : Nat → Bool) : Bool := l.any fun x => C x.toNat
def bstep (p : Pb) (e : Int) (C : Nat → Bool) (i : Nat) : Nat → Bool := fun j => if j = i then leavesB p e i (anyB (p.succ.getD i []) C) else C j
def bpass (p : Pb) (e : Int) (m : Nat) (C : Nat → Bool) : Nat → Bool := (List.range m).foldl (bstep p e) C
theorem bpass_succ (p : Pb) (e : Int) (m : Nat) (C : Nat → Bool) : bpass p e (m + 1) C = bstep p e (bpass p e m C) m := by
  unfold bpass; rw [List.range_succ, List.foldl_append]; rfl
def brounds (p : Pb) (e : Int) : Nat → Nat → Bool
  | 0 => fun _ => false
  | r + 1 => bpass p e p.succ.length (brounds p e r)
end Fl
end Go.Proofs.YtbeepedobnaojaaDoor

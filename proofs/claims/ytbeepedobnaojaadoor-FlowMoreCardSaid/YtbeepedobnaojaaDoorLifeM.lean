/- Which outlives which: the least closed relation of some pairs; and what is come to, round by round. -/
import Derived.WalkKit
namespace Go.Proofs.YtbeepedobnaojaaDoor
namespace Lf
abbrev R2 := Nat → Nat → Bool
def stat : R2 := fun c d => c == 0 || c == d
def eqR : R2 := fun c d => c == d
def plus (M : R2) (a b : Nat) : R2 := fun c d => M c d || (M c a && M b d)
def all (M : R2) (l : List (Nat × Nat)) : R2 := l.foldl (fun M p => plus M p.1 p.2) M
structure Ok (M : R2) : Prop where
  refl : ∀ c, M c c = true
  trans : ∀ c d e, M c d = true → M d e = true → M c e = true
theorem eqR_ok : Ok eqR := ⟨fun c => by simp [eqR], fun c d e h k => by simp [eqR] at *; omega⟩
theorem stat_ok : Ok stat := ⟨fun c => by simp [stat], fun c d e h k => by simp [stat] at *; omega⟩
theorem plus_iff {M : R2} {a b c d : Nat} : plus M a b c d = true ↔ M c d = true ∨ (M c a = true ∧ M b d = true) := by simp [plus]
theorem Ok.plus {M : R2} (h : Ok M) (a b : Nat) : Ok (plus M a b) := by
  refine ⟨fun c => plus_iff.2 (.inl (h.refl c)), fun c d e h1 h2 => ?_⟩
  rw [plus_iff] at *
  rcases h1 with h1 | ⟨h1, h1'⟩
  · rcases h2 with h2 | ⟨h2, h2'⟩
    · exact .inl (h.trans _ _ _ h1 h2)
    · exact .inr ⟨h.trans _ _ _ h1 h2, h2'⟩
  · rcases h2 with h2 | ⟨h2, h2'⟩
    · exact .inr ⟨h1, h.trans _ _ _ h1' h2⟩
    · exact .inr ⟨h1, h2'⟩
theorem plus_le {M : R2} {a b c d : Nat} (h : M c d = true) : plus M a b c d = true := plus_iff.2 (.inl h)
theorem plus_has {M : R2} (h : Ok M) (a b : Nat) : plus M a b a b = true := plus_iff.2 (.inr ⟨h.refl a, h.refl b⟩)
theorem plus_least {M Q : R2} {a b : Nat} (hQ : Ok Q) (h : ∀ c d, M c d = true → Q c d = true) (k : Q a b = true) : ∀ c d, plus M a b c d = true → Q c d = true := by
  intro c d hc
  rw [plus_iff] at hc
  rcases hc with hc | ⟨h1, h2⟩
  · exact h _ _ hc
  · exact hQ.trans _ _ _ (h _ _ h1) (hQ.trans _ _ _ k (h _ _ h2))
theorem plus_known {M : R2} (h : Ok M) {a b : Nat} (k : M a b = true) : plus M a b = M := by
  funext c d
  rw [Bool.eq_iff_iff]
  exact ⟨plus_least h (fun _ _ h => h) k c d, plus_le⟩
/-- what the program lays into a row -/
def turn (M : R2) (a b : Nat) : R2 := fun c d => if M c a && !M c b then M c d || M b d else M c d
theorem turn_eq {M : R2} (h : Ok M) (a b : Nat) : turn M a b = plus M a b := by
  funext c d
  unfold turn Lf.plus
  cases h1 : M c a <;> cases h2 : M c b <;> simp
  cases h3 : M b d <;> simp
  exact h.trans _ _ _ h2 h3
theorem all_ok : ∀ (l : List (Nat × Nat)) {M : R2}, Ok M → Ok (all M l)
  | [], _, h => h
  | p :: l, _, h => all_ok l (h.plus p.1 p.2)
theorem all_le : ∀ (l : List (Nat × Nat)) {M : R2} {c d : Nat}, M c d = true → all M l c d = true
  | [], _, _, _, h => h
  | _ :: l, _, _, _, h => all_le l (plus_le h)
theorem all_has : ∀ (l : List (Nat × Nat)) {M : R2}, Ok M → ∀ p ∈ l, all M l p.1 p.2 = true
  | [], _, _, _, h => by cases h
  | q :: l, M, hM, p, h => by
    rcases List.mem_cons.1 h with rfl | h
    · exact all_le l (plus_has hM _ _)
    · exact all_has l (hM.plus _ _) p h
theorem all_least : ∀ (l : List (Nat × Nat)) {M Q : R2}, Ok Q → (∀ c d, M c d = true → Q c d = true) → (∀ p ∈ l, Q p.1 p.2 = true) → ∀ c d, all M l c d = true → Q c d = true
  | [], _, _, _, h, _ => h
  | p :: l, _, _, hQ, h, k => all_least l hQ (plus_least hQ h (k p List.mem_cons_self)) fun q hq => k q (List.mem_cons_of_mem _ hq)
theorem all_snoc (M : R2) (l : List (Nat × Nat)) (p : Nat × Nat) : all M (l ++ [p]) = plus (all M l) p.1 p.2 := by
  unfold all; rw [List.foldl_append]; rfl
theorem all_congr {M : R2} (hM : Ok M) {l m : List (Nat × Nat)} (h : ∀ p, p ∈ l ↔ p ∈ m) : all M l = all M m := by
  funext c d
  rw [Bool.eq_iff_iff]
  exact ⟨all_least l (all_ok m hM) (fun _ _ h => all_le m h) (fun p hp => all_has m hM p ((h p).1 hp)) c d,
    all_least m (all_ok l hM) (fun _ _ h => all_le l h) (fun p hp => all_has l hM p ((h p).2 hp)) c d⟩
theorem all_eq : ∀ (l : List (Nat × Nat)) (M S : R2), (∀ c d, S c d = (M c 0 || M c d)) → ∀ c d, all S l c d = (all M l c 0 || all M l c d)
  | [], _, _, h, c, d => h c d
  | p :: l, M, S, h, c, d => by
    refine all_eq l (plus M p.1 p.2) (plus S p.1 p.2) (fun c d => ?_) c d
    unfold plus
    rw [h, h, h]
    cases M c 0 <;> cases M c d <;> cases M c p.1 <;> cases M p.2 0 <;> cases M p.2 d <;> rfl
theorem all_stat (l : List (Nat × Nat)) (c d : Nat) : all stat l c d = (all eqR l c 0 || all eqR l c d) := all_eq l eqR stat (fun _ _ => rfl) c d
theorem all_top (l : List (Nat × Nat)) (d : Nat) : all stat l 0 d = true := all_le l (by simp [stat])
/-! What is come to. -/
abbrev Come := Nat → Bool
def hop (C : Come) (p : Nat × Nat) : Come := fun j => C j || (C p.1 && j == p.2)
def pass (l : List (Nat × Nat)) (C : Come) : Come := l.foldl hop C
def rounds (l : List (Nat × Nat)) (a : Nat) : Nat → Come
  | 0 => fun j => j == a
  | k + 1 => pass l (rounds l a k)
def closed (l : List (Nat × Nat)) (C : Come) : Prop := ∀ p ∈ l, C p.1 = true → C p.2 = true
theorem hop_le {C : Come} {p : Nat × Nat} {j : Nat} (h : C j = true) : hop C p j = true := by simp [hop, h]
theorem pass_le : ∀ (l : List (Nat × Nat)) {C : Come} {j : Nat}, C j = true → pass l C j = true
  | [], _, _, h => h
  | _ :: l, _, _, h => pass_le l (hop_le h)
theorem pass_has : ∀ (l : List (Nat × Nat)) {C : Come}, ∀ p ∈ l, C p.1 = true → pass l C p.2 = true
  | [], _, _, h, _ => by cases h
  | q :: l, C, p, h, k => by
    rcases List.mem_cons.1 h with rfl | h
    · exact pass_le l (by simp [hop, k])
    · exact pass_has l p h (hop_le k)
theorem pass_closed : ∀ (l m : List (Nat × Nat)) {C : Come}, closed m C → (∀ p ∈ l, p ∈ m) → pass l C = C
  | [], _, _, _, _ => rfl
  | p :: l, m, C, h, k => by
    have e : hop C p = C := by
      funext j
      unfold hop
      cases hj : C j
      · cases hp : C p.1
        · rfl
        · have := h p (k p List.mem_cons_self) hp
          by_cases hjp : j = p.2
          · subst hjp; rw [hj] at this; cases this
          · simp [hjp]
      · rfl
    show pass l (hop C p) = C
    rw [e]
    exact pass_closed l m h fun q hq => k q (List.mem_cons_of_mem _ hq)
theorem pass_sound {S : R2} (hS : Ok S) {a : Nat} : ∀ (l : List (Nat × Nat)) {C : Come}, (∀ p ∈ l, S p.1 p.2 = true) → (∀ j, C j = true → S a j = true) → ∀ j, pass l C j = true → S a j = true
  | [], _, _, h => h
  | p :: l, C, k, h => pass_sound hS l (fun q hq => k q (List.mem_cons_of_mem _ hq)) fun j hj => by
    simp only [hop, Bool.or_eq_true, Bool.and_eq_true, beq_iff_eq] at hj
    rcases hj with hj | ⟨h1, rfl⟩
    · exact h j hj
    · exact hS.trans _ _ _ (h _ h1) (k p List.mem_cons_self)
theorem rounds_sound (l : List (Nat × Nat)) (a : Nat) : ∀ (k j : Nat), rounds l a k j = true → all eqR l a j = true
  | 0, j, h => by
    simp only [rounds, beq_iff_eq] at h
    subst h
    exact (all_ok l eqR_ok).refl _
  | k + 1, j, h => pass_sound (all_ok l eqR_ok) l (all_has l eqR_ok) (rounds_sound l a k) j h
theorem rounds_start (l : List (Nat × Nat)) (a : Nat) : ∀ k, rounds l a k a = true
  | 0 => by simp [rounds]
  | k + 1 => pass_le l (rounds_start l a k)
theorem closed_all {l : List (Nat × Nat)} {C : Come} (h : closed l C) {a d : Nat} (ha : C a = true) (k : all eqR l a d = true) : C d = true := by
  have := all_least l (M := eqR) (Q := fun c d => !C c || C d) ⟨fun c => by cases C c <;> rfl, fun c d e h1 h2 => by cases hc : C c <;> cases hd : C d <;> simp_all⟩
    (fun c d h => by simp [eqR] at h; subst h; cases C c <;> rfl) (fun p hp => by cases hc : C p.1 <;> simp; exact h p hp hc) a d k
  rw [ha] at this
  exact this
def cnt (n : Nat) (C : Come) : Nat := (List.range (n + 1)).countP C
theorem countP_lt {C D : Come} {x : Nat} : ∀ (l : List Nat), (∀ j, C j = true → D j = true) → x ∈ l → C x = false → D x = true → l.countP C < l.countP D
  | [], _, h, _, _ => by cases h
  | y :: l, h, hx, hc, hd => by
    have hm : l.countP C ≤ l.countP D := List.countP_mono_left fun j _ hj => h j hj
    rw [List.countP_cons, List.countP_cons]
    rcases List.mem_cons.1 hx with rfl | hx
    · rw [hc, hd]; simp; omega
    · have := countP_lt l h hx hc hd
      have hy := h y
      cases h1 : C y <;> cases h2 : D y <;> simp <;> simp_all <;> omega
theorem rounds_count (l : List (Nat × Nat)) (a n : Nat) (ha : a ≤ n) (hl : ∀ p ∈ l, p.2 ≤ n) : ∀ k, closed l (rounds l a k) ∨ k + 1 ≤ cnt n (rounds l a k)
  | 0 => by
    right
    have := countP_lt (C := fun _ => false) (D := fun j => j == a) (x := a) (List.range (n + 1)) (fun _ h => by cases h) (by simp; omega) rfl (by simp)
    show 0 + 1 ≤ (List.range (n + 1)).countP fun j => j == a
    omega
  | k + 1 => by
    rcases rounds_count l a n ha hl k with h | h
    · left
      show closed l (pass l (rounds l a k))
      rw [pass_closed l l h fun _ h => h]
      exact h
    · by_cases hc : closed l (rounds l a k)
      · left
        show closed l (pass l (rounds l a k))
        rw [pass_closed l l hc fun _ h => h]
        exact hc
      · right
        simp only [closed, Classical.not_forall] at hc
        obtain ⟨p, hp, h1, h2⟩ := hc
        have := countP_lt (C := rounds l a k) (D := pass l (rounds l a k)) (x := p.2) (List.range (n + 1)) (fun _ h => pass_le l h) (by have := hl p hp; simp; omega) (eq_false_of_ne_true h2) (pass_has l p hp h1)
        show k + 1 + 1 ≤ (List.range (n + 1)).countP (pass l (rounds l a k))
        have h' : k + 1 ≤ (List.range (n + 1)).countP (rounds l a k) := h
        omega
theorem rounds_end (l : List (Nat × Nat)) (a n : Nat) (ha : a ≤ n) (hl : ∀ p ∈ l, p.2 ≤ n) : closed l (rounds l a (n + 1)) := by
  rcases rounds_count l a n ha hl (n + 1) with h | h
  · exact h
  · have : cnt n (rounds l a (n + 1)) ≤ (List.range (n + 1)).length := List.countP_le_length
    rw [List.length_range] at this
    omega
theorem come_end (l : List (Nat × Nat)) (a n : Nat) (ha : a ≤ n) (hl : ∀ p ∈ l, p.2 ≤ n) (j : Nat) : rounds l a (n + 1) j = all eqR l a j := by
  rw [Bool.eq_iff_iff]
  exact ⟨rounds_sound l a _ j, closed_all (rounds_end l a n ha hl) (rounds_start l a _)⟩
theorem come_zero {l : List (Nat × Nat)} {a k : Nat} (h : rounds l a k 0 = true) (b : Nat) : all stat l a b = true := by
  rw [all_stat, rounds_sound l a k 0 h]; rfl
theorem come_last {l : List (Nat × Nat)} {a n : Nat} (ha : a ≤ n) (hl : ∀ p ∈ l, p.2 ≤ n) (h : rounds l a (n + 1) 0 = false) (b : Nat) : all stat l a b = rounds l a (n + 1) b := by
  rw [all_stat, come_end l a n ha hl b, ← come_end l a n ha hl 0, h]; rfl
end Lf
end Go.Proofs.YtbeepedobnaojaaDoor

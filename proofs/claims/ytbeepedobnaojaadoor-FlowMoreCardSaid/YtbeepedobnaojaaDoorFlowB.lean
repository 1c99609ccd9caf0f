/- Backward, round by round; ways of a bounded length; plain facts. -/
import Derived.Test.YtbeepedobnaojaaDoorFlowA
namespace Go.Proofs.YtbeepedobnaojaaDoor
namespace Fl
theorem row_ok {p : Pb} (hp : lsOk p.succ.length p.succ = true) {i : Nat} {x : Int} (h : x ∈ p.succ.getD i []) : 0 ≤ x ∧ x < p.succ.length := by
  have hl : p.succ.getD i [] ∈ p.succ := by
    rw [List.getD_eq_getElem?_getD] at h ⊢
    cases hq : p.succ[i]? with
    | none => rw [hq] at h; cases h
    | some l => exact List.mem_of_getElem? hq
  have := List.all_eq_true.1 (List.all_eq_true.1 hp _ hl) _ h
  simp at this
  exact this
theorem has_lt {l : Ls} {i : Nat} {e : Int} (h : hasL l i e = true) : i < l.length := by
  apply Nat.lt_of_not_le
  intro hle
  unfold hasL at h
  rw [List.getD_eq_getElem?_getD, List.getElem?_eq_none hle] at h
  cases h
theorem anyB_iff {p : Pb} (hp : lsOk p.succ.length p.succ = true) {i : Nat} {C : Nat → Bool} : anyB (p.succ.getD i []) C = true ↔ ∃ j, Nx p i j ∧ C j = true := by
  unfold anyB
  rw [List.any_eq_true]
  constructor
  · rintro ⟨x, hx, hc⟩
    have := row_ok hp hx
    refine ⟨x.toNat, ?_, hc⟩
    unfold Nx hasL
    rw [show ((x.toNat : Nat) : Int) = x by omega]
    simpa using hx
  · rintro ⟨j, hj, hc⟩
    unfold Nx hasL at hj
    exact ⟨(j : Int), by simpa using hj, by simpa using hc⟩
theorem anyB_mono {l : List Int} {C D : Nat → Bool} (h : ∀ j, C j = true → D j = true) (ha : anyB l C = true) : anyB l D = true := by
  unfold anyB at *
  rw [List.any_eq_true] at *
  obtain ⟨x, hx, hc⟩ := ha
  exact ⟨x, hx, h _ hc⟩
theorem leaves_mono {p : Pb} {e : Int} {i : Nat} {a b : Bool} (h : a = true → b = true) (hl : leavesB p e i a = true) : leavesB p e i b = true := by
  unfold leavesB at *
  cases a <;> cases b <;> simp_all
/-- What is there is made, or comes from behind. -/
def Pre (p : Pb) (e : Int) (C : Nat → Bool) : Prop := ∀ j, C j = true → leavesB p e j (anyB (p.succ.getD j []) C) = true
theorem bstep_up {p : Pb} {e : Int} {C : Nat → Bool} (h : Pre p e C) {i j : Nat} (hj : C j = true) : bstep p e C i j = true := by
  unfold bstep
  split
  · rename_i hji
    subst hji
    exact h _ hj
  · exact hj
theorem bstep_pre {p : Pb} {e : Int} {C : Nat → Bool} (h : Pre p e C) (i : Nat) : Pre p e (bstep p e C i) := by
  intro j hj
  have hup : ∀ j, C j = true → bstep p e C i j = true := fun j => bstep_up h
  by_cases hji : j = i
  · subst hji
    unfold bstep at hj
    rw [if_pos rfl] at hj
    exact leaves_mono (anyB_mono hup) hj
  · have hc : C j = true := by
      unfold bstep at hj
      rw [if_neg hji] at hj
      exact hj
    exact leaves_mono (anyB_mono hup) (h j hc)
theorem bpass_pre {p : Pb} {e : Int} {C : Nat → Bool} (h : Pre p e C) : ∀ m, Pre p e (bpass p e m C) ∧ ∀ j, C j = true → bpass p e m C j = true
  | 0 => ⟨h, fun _ h => h⟩
  | m + 1 => by
    rw [bpass_succ]
    exact ⟨bstep_pre (bpass_pre h m).1 m, fun j hj => bstep_up (bpass_pre h m).1 ((bpass_pre h m).2 j hj)⟩
theorem brounds_pre (p : Pb) (e : Int) : ∀ r, Pre p e (brounds p e r)
  | 0 => fun j h => by cases h
  | r + 1 => (bpass_pre (brounds_pre p e r) _).1
theorem bpass_in {p : Pb} {e : Int} {C : Nat → Bool} {j : Nat} : ∀ m, bpass p e m C j = true → C j = true ∨ j < m
  | 0, h => .inl h
  | m + 1, h => by
    rw [bpass_succ] at h
    unfold bstep at h
    split at h
    · right; omega
    · rcases bpass_in m h with h | h
      · exact .inl h
      · right; omega
theorem bpass_fix {p : Pb} {e : Int} {C : Nat → Bool} (hP : Pre p e C) : ∀ m, bpass p e m C = C → ∀ i, i < m → bstep p e C i = C
  | 0, _, i, hi => by omega
  | m + 1, h, i, hi => by
    have h1 : bpass p e m C = C := by
      funext j
      cases hc : C j with
      | true => exact (bpass_pre hP m).2 j hc
      | false =>
        cases hq : bpass p e m C j with
        | false => rfl
        | true =>
          have := bstep_up (bpass_pre hP m).1 (i := m) hq
          rw [← bpass_succ, h, hc] at this
          cases this
    by_cases him : i = m
    · subst him
      rw [bpass_succ, h1] at h
      exact h
    · exact bpass_fix hP m h1 i (by omega)
theorem bstep_sound {p : Pb} (hp : lsOk p.succ.length p.succ = true) {e : Int} {C : Nat → Bool} (h : ∀ j, C j = true → Bwd p e j) {i j : Nat} (hj : bstep p e C i j = true) : Bwd p e j := by
  unfold bstep at hj
  split at hj
  · rename_i hji
    subst hji
    unfold leavesB at hj
    simp only [Bool.or_eq_true, Bool.and_eq_true, Bool.not_eq_true'] at hj
    rcases hj with hj | ⟨h1, h2⟩
    · exact .gen _ hj
    · obtain ⟨x, hx, hc⟩ := (anyB_iff hp).1 h1
      exact .pass _ x hx (h x hc) h2
  · exact h j hj
theorem bpass_sound {p : Pb} (hp : lsOk p.succ.length p.succ = true) {e : Int} {C : Nat → Bool} (h : ∀ j, C j = true → Bwd p e j) : ∀ m j, bpass p e m C j = true → Bwd p e j
  | 0, j, hj => h j hj
  | m + 1, j, hj => by
    rw [bpass_succ] at hj
    exact bstep_sound hp (bpass_sound hp h m) hj
theorem brounds_sound {p : Pb} (hp : lsOk p.succ.length p.succ = true) (e : Int) : ∀ r j, brounds p e r j = true → Bwd p e j
  | 0, j, h => by cases h
  | r + 1, j, h => bpass_sound hp (brounds_sound hp e r) _ j h
theorem brounds_end {p : Pb} (hp : lsOk p.succ.length p.succ = true) (hg : p.gen.length ≤ p.succ.length) (e : Int) (j : Nat) : brounds p e (p.succ.length + 1) j = true ↔ Bwd p e j := by
  refine ⟨brounds_sound hp e _ j, fun h => ?_⟩
  obtain ⟨n, hn⟩ : ∃ n, p.succ.length = n := ⟨_, rfl⟩
  have hst := stands (n := n) (brounds p e) 0 (Nat.zero_le _) (fun m j h => (bpass_pre (brounds_pre p e m) _).2 j h) (fun m j h => by rw [← hn]; exact bpass_in _ h)
    (fun m h => by show bpass _ _ _ (brounds p e (m + 1)) = _; rw [h]; exact h) (m := n + 1) (by omega)
  rw [hn]
  have fx : ∀ i, i < n → bstep p e (brounds p e (n + 1)) i = brounds p e (n + 1) := bpass_fix (brounds_pre p e _) n (by rw [← hn]; rw [← hn] at hst; exact hst)
  have one : ∀ i, i < n → leavesB p e i (anyB (p.succ.getD i []) (brounds p e (n + 1))) = true → brounds p e (n + 1) i = true := by
    intro i hi hl
    rw [← congrFun (fx i hi) i]
    unfold bstep
    rw [if_pos rfl]
    exact hl
  induction h with
  | gen i h1 => exact one i (by have := has_lt h1; omega) (by unfold leavesB; rw [h1]; rfl)
  | pass i j h1 _ h3 ih => exact one i (by have := has_lt h1; omega) (by unfold leavesB; rw [(anyB_iff hp).2 ⟨j, h1, ih⟩, h3]; simp)
/-! Ways. -/
def way (p : Pb) (e : Int) : Nat → Nat → Nat → Bool
  | 0, f, t => f == t
  | s + 1, f, t => f == t || (!(hasL p.kill f e && !hasL p.gen f e) && anyB (p.succ.getD f []) fun x => way p e s x t)
theorem way_succ (p : Pb) (e : Int) (s f t : Nat) : way p e (s + 1) f t = (f == t || (!(hasL p.kill f e && !hasL p.gen f e) && anyB (p.succ.getD f []) fun x => way p e s x t)) := rfl
theorem way_self (p : Pb) (e : Int) (s t : Nat) : way p e s t t = true := by
  cases s <;> simp [way]
theorem way_up (p : Pb) (e : Int) (t : Nat) : ∀ s f, way p e s f t = true → way p e (s + 1) f t = true
  | 0, f, h => by simp only [way, beq_iff_eq] at h; subst h; exact way_self _ _ _ _
  | s + 1, f, h => by
    rw [way_succ] at h ⊢
    simp only [Bool.or_eq_true, Bool.and_eq_true] at h ⊢
    rcases h with h | ⟨h1, h2⟩
    · exact .inl h
    · exact .inr ⟨h1, anyB_mono (fun x hx => way_up p e t s x hx) h2⟩
theorem way_end {p : Pb} (e : Int) {t : Nat} (ht : t < p.succ.length) {m : Nat} (hm : p.succ.length ≤ m + 1) : (fun f => way p e (m + 1) f t) = fun f => way p e m f t := by
  refine stands (n := p.succ.length) (fun s f => way p e s f t) 1 ?_ (fun s f h => way_up p e t s f h) (fun s f h => ?_) (fun s h => ?_) (by omega)
  · have := cnt_lt (n := p.succ.length) (C := fun _ => false) (D := fun f => way p e 0 f t) (fun _ h => by cases h) ht rfl (way_self p e 0 t)
    omega
  · have h : way p e (s + 1) f t = true := h
    rw [way_succ] at h
    simp only [Bool.or_eq_true, Bool.and_eq_true, beq_iff_eq] at h
    rcases h with rfl | ⟨_, h2⟩
    · exact .inl (way_self _ _ _ _)
    · right
      unfold anyB at h2
      rw [List.any_eq_true] at h2
      obtain ⟨x, hx, _⟩ := h2
      apply Nat.lt_of_not_le
      intro hle
      rw [List.getD_eq_getElem?_getD, List.getElem?_eq_none hle] at hx
      cases hx
  · funext f
    show way p e (s + 1 + 1) f t = way p e (s + 1) f t
    rw [way_succ, way_succ]
    have : (fun x => way p e (s + 1) x t) = fun x => way p e s x t := h
    rw [this]
theorem way_more {p : Pb} (e : Int) {t : Nat} (ht : t < p.succ.length) {m : Nat} (hm : p.succ.length ≤ m + 1) : ∀ s f, way p e s f t = true → way p e m f t = true
  | 0, f, h => by simp only [way, beq_iff_eq] at h; subst h; exact way_self _ _ _ _
  | s + 1, f, h => by
    rw [← congrFun (way_end e ht hm) f]
    show way p e (m + 1) f t = true
    rw [way_succ] at h ⊢
    simp only [Bool.or_eq_true, Bool.and_eq_true] at h ⊢
    rcases h with h | ⟨h1, h2⟩
    · exact .inl h
    · exact .inr ⟨h1, anyB_mono (fun x hx => way_more e ht hm s x hx) h2⟩
theorem way_fwd {p : Pb} (hp : lsOk p.succ.length p.succ = true) {e : Int} {t : Nat} : ∀ s f, Fwd p e f → way p e s f t = true → Fwd p e t
  | 0, f, hf, h => by simp only [way, beq_iff_eq] at h; subst h; exact hf
  | s + 1, f, hf, h => by
    rw [way_succ] at h
    simp only [Bool.or_eq_true, Bool.and_eq_true, beq_iff_eq, Bool.not_eq_true', Bool.and_eq_false_iff] at h
    rcases h with rfl | ⟨h1, h2⟩
    · exact hf
    · obtain ⟨x, hx, hw⟩ := (anyB_iff hp).1 h2
      refine way_fwd hp s x ?_ hw
      rcases h1 with h1 | h1
      · exact .pass f x hf h1 hx
      · exact .gen f x (by simpa using h1) hx
theorem way_snoc {p : Pb} (hp : lsOk p.succ.length p.succ = true) {e : Int} {u t : Nat} (hu : hasL p.kill u e = false ∨ hasL p.gen u e = true) (hx : Nx p u t) : ∀ s f, way p e s f u = true → way p e (s + 1) f t = true
  | 0, f, h => by
    simp only [way, beq_iff_eq] at h
    subst h
    rw [way_succ]
    simp only [Bool.or_eq_true, Bool.and_eq_true]
    refine .inr ⟨?_, (anyB_iff hp).2 ⟨t, hx, way_self _ _ _ _⟩⟩
    rcases hu with h | h <;> simp [h]
  | s + 1, f, h => by
    rw [way_succ] at h
    simp only [Bool.or_eq_true, Bool.and_eq_true, beq_iff_eq] at h
    rw [way_succ]
    simp only [Bool.or_eq_true, Bool.and_eq_true]
    rcases h with rfl | ⟨h1, h2⟩
    · refine .inr ⟨?_, (anyB_iff hp).2 ⟨t, hx, way_self _ _ _ _⟩⟩
      rcases hu with h | h <;> simp [h]
    · exact .inr ⟨h1, anyB_mono (fun x hw => way_snoc hp hu hx s x hw) h2⟩
/-- From where a fact starts. -/
def Src (p : Pb) (e : Int) (f : Nat) : Prop := (f = 0 ∧ e ∈ p.entry) ∨ ∃ i, hasL p.gen i e = true ∧ Nx p i f
theorem fwd_way {p : Pb} (hp : lsOk p.succ.length p.succ = true) {e : Int} {m : Nat} (hm : p.succ.length ≤ m + 1) {t : Nat} (ht : t < p.succ.length) : Fwd p e t ↔ ∃ f, Src p e f ∧ way p e m f t = true := by
  constructor
  · intro h
    have : ∃ f, Src p e f ∧ ∃ s, way p e s f t = true := by
      clear ht
      induction h with
      | entry h1 _ => exact ⟨0, .inl ⟨rfl, h1⟩, 0, way_self _ _ _ _⟩
      | gen i j h1 h2 => exact ⟨j, .inr ⟨i, h1, h2⟩, 0, way_self _ _ _ _⟩
      | pass i j _ h2 h3 ih =>
        obtain ⟨f, hf, s, hs⟩ := ih
        exact ⟨f, hf, s + 1, way_snoc hp (.inl h2) h3 s f hs⟩
    obtain ⟨f, hf, s, hs⟩ := this
    exact ⟨f, hf, way_more e ht hm s f hs⟩
  · rintro ⟨f, hf, hw⟩
    refine way_fwd hp m f ?_ hw
    rcases hf with ⟨rfl, h⟩ | ⟨i, h1, h2⟩
    · exact .entry h (by omega)
    · exact .gen i f h1 h2
/-! More is made; one fact alone. -/
theorem fwd_mono {p q : Pb} {e : Int} (hs : q.succ = p.succ) (hk : q.kill = p.kill) (he : q.entry = p.entry) (hg : ∀ i, hasL p.gen i e = true → hasL q.gen i e = true) {j : Nat} (h : Fwd p e j) : Fwd q e j := by
  induction h with
  | entry h1 h2 => exact .entry (by rw [he]; exact h1) (by rw [hs]; exact h2)
  | gen i j h1 h2 => exact .gen i j (hg i h1) (by unfold Nx; rw [hs]; exact h2)
  | pass i j _ h2 h3 ih => exact .pass i j ih (by rw [hk]; exact h2) (by unfold Nx; rw [hs]; exact h3)
theorem fwd_same {p q : Pb} {e d : Int} (hs : q.succ = p.succ) (hg : ∀ i, hasL p.gen i e = hasL q.gen i d) (hk : ∀ i, hasL p.kill i e = hasL q.kill i d) (he : e ∈ p.entry → d ∈ q.entry) {j : Nat} (h : Fwd p e j) : Fwd q d j := by
  induction h with
  | entry h1 h2 => exact .entry (he h1) (by rw [hs]; exact h2)
  | gen i j h1 h2 => exact .gen i j (by rw [← hg]; exact h1) (by unfold Nx; rw [hs]; exact h2)
  | pass i j _ h2 h3 ih => exact .pass i j ih (by rw [← hk]; exact h2) (by unfold Nx; rw [hs]; exact h3)
theorem bwd_same {p q : Pb} {e d : Int} (hs : q.succ = p.succ) (hg : ∀ i, hasL p.gen i e = hasL q.gen i d) (hk : ∀ i, hasL p.kill i e = hasL q.kill i d) {j : Nat} (h : Bwd p e j) : Bwd q d j := by
  induction h with
  | gen i h1 => exact .gen i (by rw [← hg]; exact h1)
  | pass i j h1 _ h3 ih => exact .pass i j (by unfold Nx; rw [hs]; exact h1) ih (by rw [← hk]; exact h3)
end Fl
end Go.Proofs.YtbeepedobnaojaaDoor

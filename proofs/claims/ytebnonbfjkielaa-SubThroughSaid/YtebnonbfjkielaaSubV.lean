/- A region that draws its order: three calls, one after another, and three variables made whenever; then what waits for all of it. -/
import Derived.Test.YtebnonbfjkielaaRegT
namespace Go.Proofs.Ytebnonbfjkielaa
section
def AT (a0 : Act) (v1 v2 v3 v4 v5 v6 : Value) : Act := (((((a0.put (some 43) v1).put (some 48) v2).put (some 53) v3).put (some 4) v4).put (some 5) v5).put (some 6) v6
/-- What has come up: j calls, and those variables. -/
def lstB (j : Nat) (b4 b5 b6 : Bool) : Array Bool := #[true, true, true, true, decide (0 < j), true, true, true, true, decide (1 < j), true, true, true, true, decide (2 < j), b4, b5, b6, false, false, false]
def nextC : Nat → List Nat
  | 0 => [4]
  | 1 => [9]
  | 2 => [14]
  | _ => []
def opn (b : Bool) (i : Nat) : List Nat := if b then [] else [i]
def gridB (ops : Array Oper) : Bool := [0, 1, 2, 3].all fun j => [true, false].all fun b4 => [true, false].all fun b5 => [true, false].all fun b6 => (decide (j = 3) && b4 && b5 && b6) || (Region.ready .any ops (lstB j b4 b5 b6) == nextC j ++ (opn b4 15 ++ (opn b5 16 ++ opn b6 17)))
variable {P : Program} {ops : Array Oper} {Q : Exit → Act → World → Prop} {S : World → Prop} {t : Nat}
theorem grid_ready (hg : gridB ops = true) {j : Nat} {b4 b5 b6 : Bool} (hj : j ≤ 3) (hm : ¬ (j = 3 ∧ b4 = true ∧ b5 = true ∧ b6 = true)) : Region.ready .any ops (lstB j b4 b5 b6) = nextC j ++ (opn b4 15 ++ (opn b5 16 ++ opn b6 17)) := by
  unfold gridB at hg
  rw [List.all_eq_true] at hg
  have h1 := hg j (by simp; omega)
  rw [List.all_eq_true] at h1
  have h2 := h1 b4 (by cases b4 <;> simp)
  rw [List.all_eq_true] at h2
  have h3 := h2 b5 (by cases b5 <;> simp)
  rw [List.all_eq_true] at h3
  have h4 := h3 b6 (by cases b6 <;> simp)
  rw [Bool.or_eq_true] at h4
  rcases h4 with h4 | h4
  · exact absurd (by simpa [and_assoc] using h4) hm
  · exact beq_iff_eq.1 h4
/-- One operation, from state to state. -/
def StepT (P : Program) (ops : Array Oper) (Q : Exit → Act → World → Prop) (o : Oper) (a : Act) (w : World) (J : Act → World → Prop) : Prop :=
  ∀ K' : Act → World → Prop, Shut (∀ a' w', J a' w' → K' a' w') → if Region.wanted o (yielded ops a.tmps) = true then Oper.wp P o a w K' Q else K' (a.put o.dst undef) w
theorem wpAnyT_grid {a0 : Act} {f0 : Nat} {o1 o2 o3 o4 o5 o6 : Oper} (I : Nat → Bool → Bool → Bool → Value → Value → Value → Value → Value → Value → World → Prop)
    (hg : gridB ops = true) (e1 : ops[4]? = some o1) (e2 : ops[9]? = some o2) (e3 : ops[14]? = some o3) (e4 : ops[15]? = some o4) (e5 : ops[16]? = some o5) (e6 : ops[17]? = some o6)
    (h1 : ∀ b4 b5 b6 v1 v2 v3 v4 v5 v6 w, I 0 b4 b5 b6 v1 v2 v3 v4 v5 v6 w → StepT P ops Q o1 (AT a0 v1 v2 v3 v4 v5 v6) w fun a' w' => S w' ∧ ∃ v, a' = AT a0 v v2 v3 v4 v5 v6 ∧ I 1 b4 b5 b6 v v2 v3 v4 v5 v6 w')
    (h2 : ∀ b4 b5 b6 v1 v2 v3 v4 v5 v6 w, I 1 b4 b5 b6 v1 v2 v3 v4 v5 v6 w → StepT P ops Q o2 (AT a0 v1 v2 v3 v4 v5 v6) w fun a' w' => S w' ∧ ∃ v, a' = AT a0 v1 v v3 v4 v5 v6 ∧ I 2 b4 b5 b6 v1 v v3 v4 v5 v6 w')
    (h3 : ∀ b4 b5 b6 v1 v2 v3 v4 v5 v6 w, I 2 b4 b5 b6 v1 v2 v3 v4 v5 v6 w → StepT P ops Q o3 (AT a0 v1 v2 v3 v4 v5 v6) w fun a' w' => S w' ∧ ∃ v, a' = AT a0 v1 v2 v v4 v5 v6 ∧ I 3 b4 b5 b6 v1 v2 v v4 v5 v6 w')
    (h4 : ∀ j b5 b6 v1 v2 v3 v4 v5 v6 w, I j false b5 b6 v1 v2 v3 v4 v5 v6 w → StepT P ops Q o4 (AT a0 v1 v2 v3 v4 v5 v6) w fun a' w' => S w' ∧ ∃ v, a' = AT a0 v1 v2 v3 v v5 v6 ∧ I j true b5 b6 v1 v2 v3 v v5 v6 w')
    (h5 : ∀ j b4 b6 v1 v2 v3 v4 v5 v6 w, I j b4 false b6 v1 v2 v3 v4 v5 v6 w → StepT P ops Q o5 (AT a0 v1 v2 v3 v4 v5 v6) w fun a' w' => S w' ∧ ∃ v, a' = AT a0 v1 v2 v3 v4 v v6 ∧ I j b4 true b6 v1 v2 v3 v4 v v6 w')
    (h6 : ∀ j b4 b5 v1 v2 v3 v4 v5 v6 w, I j b4 b5 false v1 v2 v3 v4 v5 v6 w → StepT P ops Q o6 (AT a0 v1 v2 v3 v4 v5 v6) w fun a' w' => S w' ∧ ∃ v, a' = AT a0 v1 v2 v3 v4 v5 v ∧ I j b4 b5 true v1 v2 v3 v4 v5 v w')
    (hend : ∀ v1 v2 v3 v4 v5 v6 w, I 3 true true true v1 v2 v3 v4 v5 v6 w → wpAnyT P .any ops Q S t f0 (lstB 3 true true true) (AT a0 v1 v2 v3 v4 v5 v6) w) :
    ∀ m j b4 b5 b6, j ≤ 3 → (3 - j) + (!b4).toNat + (!b5).toNat + (!b6).toNat = m → ∀ v1 v2 v3 v4 v5 v6 w, I j b4 b5 b6 v1 v2 v3 v4 v5 v6 w → wpAnyT P .any ops Q S t (f0 + m) (lstB j b4 b5 b6) (AT a0 v1 v2 v3 v4 v5 v6) w := by
  intro m
  induction m with
  | zero =>
    intro j b4 b5 b6 hj hm v1 v2 v3 v4 v5 v6 w hI
    have hj3 : j = 3 := by omega
    subst hj3
    cases b4 <;> cases b5 <;> cases b6 <;> simp at hm
    exact hend _ _ _ _ _ _ _ hI
  | succ m ih =>
    intro j b4 b5 b6 hj hm v1 v2 v3 v4 v5 v6 w hI
    have hr := grid_ready hg (b4 := b4) (b5 := b5) (b6 := b6) hj (by
      rintro ⟨rfl, rfl, rfl, rfl⟩
      simp at hm)
    refine ⟨fun h => ?_, fun i hi => ?_⟩
    · rw [hr] at h
      exfalso
      have hjc : j = 0 ∨ j = 1 ∨ j = 2 ∨ j = 3 := by omega
      rcases hjc with rfl | rfl | rfl | rfl
      · simp [nextC] at h
      · simp [nextC] at h
      · simp [nextC] at h
      · cases b4 <;> cases b5 <;> cases b6 <;> simp [nextC, opn] at h hm
    · rw [hr, List.mem_append, List.mem_append, List.mem_append] at hi
      rcases hi with hi | hi | hi | hi
      · have hjc : j = 0 ∨ j = 1 ∨ j = 2 ∨ j = 3 := by omega
        rcases hjc with rfl | rfl | rfl | rfl
        · obtain rfl := List.mem_singleton.1 hi
          exact wpOp_step e1 fun K' hK => h1 _ _ _ _ _ _ _ _ _ _ hI K' fun a' w' ⟨hS, v, ea, hI'⟩ => hK a' w' ⟨fun _ => hS, ea ▸ ih 1 b4 b5 b6 (by omega) (by omega) _ _ _ _ _ _ _ hI'⟩
        · obtain rfl := List.mem_singleton.1 hi
          exact wpOp_step e2 fun K' hK => h2 _ _ _ _ _ _ _ _ _ _ hI K' fun a' w' ⟨hS, v, ea, hI'⟩ => hK a' w' ⟨fun _ => hS, ea ▸ ih 2 b4 b5 b6 (by omega) (by omega) _ _ _ _ _ _ _ hI'⟩
        · obtain rfl := List.mem_singleton.1 hi
          exact wpOp_step e3 fun K' hK => h3 _ _ _ _ _ _ _ _ _ _ hI K' fun a' w' ⟨hS, v, ea, hI'⟩ => hK a' w' ⟨fun _ => hS, ea ▸ ih 3 b4 b5 b6 (by omega) (by omega) _ _ _ _ _ _ _ hI'⟩
        · cases hi
      · cases b4 with
        | true => cases hi
        | false =>
          obtain rfl := List.mem_singleton.1 hi
          exact wpOp_step e4 fun K' hK => h4 _ _ _ _ _ _ _ _ _ _ hI K' fun a' w' ⟨hS, v, ea, hI'⟩ => hK a' w' ⟨fun _ => hS, ea ▸ ih j true b5 b6 hj (by simp at hm ⊢; omega) _ _ _ _ _ _ _ hI'⟩
      · cases b5 with
        | true => cases hi
        | false =>
          obtain rfl := List.mem_singleton.1 hi
          exact wpOp_step e5 fun K' hK => h5 _ _ _ _ _ _ _ _ _ _ hI K' fun a' w' ⟨hS, v, ea, hI'⟩ => hK a' w' ⟨fun _ => hS, ea ▸ ih j b4 true b6 hj (by simp at hm ⊢; omega) _ _ _ _ _ _ _ hI'⟩
      · cases b6 with
        | true => cases hi
        | false =>
          obtain rfl := List.mem_singleton.1 hi
          exact wpOp_step e6 fun K' hK => h6 _ _ _ _ _ _ _ _ _ _ hI K' fun a' w' ⟨hS, v, ea, hI'⟩ => hK a' w' ⟨fun _ => hS, ea ▸ ih j b4 b5 true hj (by simp at hm ⊢; omega) _ _ _ _ _ _ _ hI'⟩
theorem wpAnyT_grid0 {a0 : Act} {f0 fuel : Nat} {listed : Array Bool} {w0 : World} {o1 o2 o3 o4 o5 o6 : Oper} (I : Nat → Bool → Bool → Bool → Value → Value → Value → Value → Value → Value → World → Prop)
    (u1 u2 u3 u4 u5 u6 : Value) (hf : fuel = f0 + 6) (hl : listed = lstB 0 false false false) (ha : AT a0 u1 u2 u3 u4 u5 u6 = a0) (hI : I 0 false false false u1 u2 u3 u4 u5 u6 w0)
    (hg : gridB ops = true) (e1 : ops[4]? = some o1) (e2 : ops[9]? = some o2) (e3 : ops[14]? = some o3) (e4 : ops[15]? = some o4) (e5 : ops[16]? = some o5) (e6 : ops[17]? = some o6)
    (h1 : ∀ b4 b5 b6 v1 v2 v3 v4 v5 v6 w, I 0 b4 b5 b6 v1 v2 v3 v4 v5 v6 w → StepT P ops Q o1 (AT a0 v1 v2 v3 v4 v5 v6) w fun a' w' => S w' ∧ ∃ v, a' = AT a0 v v2 v3 v4 v5 v6 ∧ I 1 b4 b5 b6 v v2 v3 v4 v5 v6 w')
    (h2 : ∀ b4 b5 b6 v1 v2 v3 v4 v5 v6 w, I 1 b4 b5 b6 v1 v2 v3 v4 v5 v6 w → StepT P ops Q o2 (AT a0 v1 v2 v3 v4 v5 v6) w fun a' w' => S w' ∧ ∃ v, a' = AT a0 v1 v v3 v4 v5 v6 ∧ I 2 b4 b5 b6 v1 v v3 v4 v5 v6 w')
    (h3 : ∀ b4 b5 b6 v1 v2 v3 v4 v5 v6 w, I 2 b4 b5 b6 v1 v2 v3 v4 v5 v6 w → StepT P ops Q o3 (AT a0 v1 v2 v3 v4 v5 v6) w fun a' w' => S w' ∧ ∃ v, a' = AT a0 v1 v2 v v4 v5 v6 ∧ I 3 b4 b5 b6 v1 v2 v v4 v5 v6 w')
    (h4 : ∀ j b5 b6 v1 v2 v3 v4 v5 v6 w, I j false b5 b6 v1 v2 v3 v4 v5 v6 w → StepT P ops Q o4 (AT a0 v1 v2 v3 v4 v5 v6) w fun a' w' => S w' ∧ ∃ v, a' = AT a0 v1 v2 v3 v v5 v6 ∧ I j true b5 b6 v1 v2 v3 v v5 v6 w')
    (h5 : ∀ j b4 b6 v1 v2 v3 v4 v5 v6 w, I j b4 false b6 v1 v2 v3 v4 v5 v6 w → StepT P ops Q o5 (AT a0 v1 v2 v3 v4 v5 v6) w fun a' w' => S w' ∧ ∃ v, a' = AT a0 v1 v2 v3 v4 v v6 ∧ I j b4 true b6 v1 v2 v3 v4 v v6 w')
    (h6 : ∀ j b4 b5 v1 v2 v3 v4 v5 v6 w, I j b4 b5 false v1 v2 v3 v4 v5 v6 w → StepT P ops Q o6 (AT a0 v1 v2 v3 v4 v5 v6) w fun a' w' => S w' ∧ ∃ v, a' = AT a0 v1 v2 v3 v4 v5 v ∧ I j b4 b5 true v1 v2 v3 v4 v5 v w')
    (hend : ∀ v1 v2 v3 v4 v5 v6 w, I 3 true true true v1 v2 v3 v4 v5 v6 w → wpAnyT P .any ops Q S t f0 (lstB 3 true true true) (AT a0 v1 v2 v3 v4 v5 v6) w) : wpAnyT P .any ops Q S t fuel listed a0 w0 := by
  have h := wpAnyT_grid I hg e1 e2 e3 e4 e5 e6 h1 h2 h3 h4 h5 h6 hend 6 0 false false false (by decide) (by decide) _ _ _ _ _ _ _ hI
  rw [ha] at h
  rw [hf, hl]
  exact h
end
end Go.Proofs.Ytebnonbfjkielaa

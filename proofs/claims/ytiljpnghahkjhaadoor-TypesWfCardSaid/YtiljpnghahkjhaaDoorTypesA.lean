/- Layer 7, plain: regions; which must outlive which. -/
import Derived.Test.YtiljpnghahkjhaaDoorTypeA
import Derived.Test.YtiljpnghahkjhaaDoorSmallT
namespace Go.Proofs.YtiljpnghahkjhaaDoor
namespace Ts
open Tr
def ownP : Ty → List Int
  | .mk k _ _ r rs _ => if k = 5 then rs else if k = 7 ∨ k = 8 ∨ k = 9 then [r] else []
section
variable {α : Type}
mutual
/-- What a function says of a type, then of all that are in it, in order. -/
def gath (f : Ty → List α) : Ty → List α
  | .mk k nm u r rs ar => f (.mk k nm u r rs ar) ++ gathL f ar
def gathL (f : Ty → List α) : List Ty → List α
  | [] => []
  | x :: l => gath f x ++ gathL f l
end
end
def allP : Ty → List Int := gath ownP
def partsP : Ty → List Int
  | .mk _ _ _ _ _ ar => gathL ownP ar
def crossP (a b : List Int) : List (Int × Int) := a.flatMap fun x => b.map fun y => (x, y)
def slotP : Ty → Int → List Int
  | .mk _ _ _ _ rs ar, n => if n = 0 then [0] else if 1 ≤ n ∧ n ≤ rs.length then [rs.getD (n - 1).toNat 0] else if (rs.length : Int) < n ∧ n - rs.length ≤ ar.length then (match ar[(n - rs.length - 1).toNat]? with | some x => allP x | none => []) else []
abbrev Nds := ByteArray → List (Int × Int)
def wf1 (nd : Nds) : Ty → List (Int × Int)
  | .mk k nm u r rs ar => if k = 7 then crossP (gathL ownP ar) [r] else if k = 5 then (nd nm).flatMap fun p => crossP (slotP (.mk k nm u r rs ar) p.1) (slotP (.mk k nm u r rs ar) p.2) else []
def wfP (nd : Nds) : Ty → List (Int × Int) := gath (wf1 nd)
theorem crossP_append (a b c : List Int) : crossP (a ++ b) c = crossP a c ++ crossP b c := by simp [crossP]
theorem crossP_cons (x : Int) (a c : List Int) : crossP (x :: a) c = (c.map fun y => (x, y)) ++ crossP a c := by simp [crossP]
theorem crossP_length (a b : List Int) : (crossP a b).length = a.length * b.length := by
  induction a with
  | nil => simp [crossP]
  | cons x a ih => rw [crossP_cons, List.length_append, ih, List.length_map, List.length_cons, Nat.succ_mul, Nat.add_comm]
/-! How much there may be. -/
def most : Nat → Nat
  | 0 => 0
  | n + 1 => 7 + 4 * most n
theorem gathL_le {α : Type} (f : Ty → List α) (m : Nat) : ∀ l : List Ty, (∀ x ∈ l, (gath f x).length ≤ m) → (gathL f l).length ≤ l.length * m
  | [], _ => by simp [gathL]
  | x :: l, h => by
    have h1 := h x List.mem_cons_self
    have h2 := gathL_le f m l fun y hy => h y (List.mem_cons_of_mem _ hy)
    rw [gathL, List.length_append, List.length_cons, Nat.succ_mul]
    omega
theorem own_le {n : Nat} {x : Ty} (h : Slim n x) : (ownP x).length ≤ 7 := by
  cases n with
  | zero => exact h.elim
  | succ n =>
    obtain ⟨k, nm, u, r, rs, ar⟩ := x
    obtain ⟨_, h2, _⟩ := h
    rw [ownP]
    split
    · omega
    · split <;> simp
theorem all_le : ∀ (n : Nat) (x : Ty), Slim n x → (allP x).length ≤ most n
  | 0, _, h => h.elim
  | n + 1, .mk k nm u r rs ar, h => by
    have h1 := own_le h
    obtain ⟨_, _, h3, h4⟩ := h
    have h5 := gathL_le ownP (most n) ar fun y hy => all_le n y (h4 y hy)
    have h6 : ar.length * most n ≤ 4 * most n := Nat.mul_le_mul_right _ h3
    show (gath ownP (.mk k nm u r rs ar)).length ≤ 7 + 4 * most n
    rw [gath, List.length_append]
    omega
theorem most_mono : ∀ n, most n ≤ most (n + 1)
  | 0 => Nat.zero_le _
  | n + 1 => by
    have := most_mono n
    show 7 + 4 * most n ≤ 7 + 4 * most (n + 1)
    omega
theorem slot_le {n : Nat} {x : Ty} (h : Slim n x) (i : Int) : (slotP x i).length ≤ most n := by
  cases n with
  | zero => exact h.elim
  | succ n =>
    obtain ⟨k, nm, u, r, rs, ar⟩ := x
    obtain ⟨_, _, _, h4⟩ := h
    have h7 : 7 ≤ most (n + 1) := by show 7 ≤ 7 + 4 * most n; omega
    rw [slotP]
    split
    · simp; omega
    · split
      · simp; omega
      · split
        · split
          · rename_i y hy
            have := all_le n y (h4 y (List.mem_of_getElem? hy))
            exact Nat.le_trans this (most_mono n)
          · simp
        · simp
theorem flat_le {α β : Type} (f : α → List β) (m : Nat) : ∀ l : List α, (∀ x ∈ l, (f x).length ≤ m) → (l.flatMap f).length ≤ l.length * m
  | [], _ => by simp
  | x :: l, h => by
    have h1 := h x List.mem_cons_self
    have h2 := flat_le f m l fun y hy => h y (List.mem_cons_of_mem _ hy)
    rw [List.flatMap_cons, List.length_append, List.length_cons, Nat.succ_mul]
    omega
/-- Of all needs there are few. -/
def FewN (nd : Nds) : Prop := ∀ s, (nd s).length ≤ 10
def most2 : Nat → Nat
  | 0 => 0
  | n + 1 => 10 * (most (n + 1) * most (n + 1)) + most (n + 1) + 4 * most2 n
theorem wf1_le {nd : Nds} (hn : FewN nd) {n : Nat} {x : Ty} (h : Slim (n + 1) x) : (wf1 nd x).length ≤ 10 * (most (n + 1) * most (n + 1)) + most (n + 1) := by
  have hs := fun i => slot_le h i
  obtain ⟨k, nm, u, r, rs, ar⟩ := x
  have ha := all_le _ _ h
  rw [wf1]
  split
  · rw [crossP_length]
    have : (gathL ownP ar).length ≤ most (n + 1) := by
      have e : (allP (.mk k nm u r rs ar)).length = (ownP (.mk k nm u r rs ar)).length + (gathL ownP ar).length := by
        show (gath ownP (.mk k nm u r rs ar)).length = _
        rw [gath, List.length_append]
      omega
    simp
    omega
  · split
    · have h1 := flat_le (fun p : Int × Int => crossP (slotP (.mk k nm u r rs ar) p.1) (slotP (.mk k nm u r rs ar) p.2)) (most (n + 1) * most (n + 1)) (nd nm) fun p _ => by
        rw [crossP_length]
        exact Nat.mul_le_mul (hs _) (hs _)
      have h2 : (nd nm).length * (most (n + 1) * most (n + 1)) ≤ 10 * (most (n + 1) * most (n + 1)) := Nat.mul_le_mul_right _ (hn nm)
      omega
    · simp
theorem wf_le {nd : Nds} (hn : FewN nd) : ∀ (n : Nat) (x : Ty), Slim n x → (wfP nd x).length ≤ most2 n
  | 0, _, h => h.elim
  | n + 1, .mk k nm u r rs ar, h => by
    have h1 := wf1_le hn h
    obtain ⟨_, _, h3, h4⟩ := h
    have h5 := gathL_le (wf1 nd) (most2 n) ar fun y hy => wf_le hn n y (h4 y hy)
    have h6 : ar.length * most2 n ≤ 4 * most2 n := Nat.mul_le_mul_right _ h3
    show (gath (wf1 nd) (.mk k nm u r rs ar)).length ≤ 10 * (most (n + 1) * most (n + 1)) + most (n + 1) + 4 * most2 n
    rw [gath, List.length_append]
    omega
theorem most6 : most 6 ≤ 10000 := by decide
theorem most26 : most2 6 ≤ 10000000000 := by decide
/-- Of a type that is small: no list is longer than memory bears. -/
def Big : Nat := 1099511627776
theorem gathL_append {α : Type} (f : Ty → List α) : ∀ (l m : List Ty), gathL f (l ++ m) = gathL f l ++ gathL f m
  | [], _ => by rw [List.nil_append, gathL, List.nil_append]
  | x :: l, m => by rw [List.cons_append, gathL, gathL, gathL_append f l m, List.append_assoc]
theorem gathL_mem {α : Type} (f : Ty → List α) {x : Ty} : ∀ {l : List Ty}, x ∈ l → (gath f x).length ≤ (gathL f l).length
  | y :: l, h => by
    rw [gathL, List.length_append]
    rcases List.mem_cons.1 h with rfl | h
    · omega
    · have := gathL_mem f h
      omega
end Ts
end Go.Proofs.YtiljpnghahkjhaaDoor

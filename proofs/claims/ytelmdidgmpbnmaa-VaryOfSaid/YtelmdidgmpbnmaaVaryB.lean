/- Layer 8, plain: what structs' fields say, once and again, till it holds; with a field more. -/
import Derived.Test.YtelmdidgmpbnmaaVaryA
namespace Go.Proofs.Ytelmdidgmpbnmaa
namespace Vy
open Tr (Ty)
structure Df where
  name : ByteArray
  lifes : Int
  types : List ByteArray
  fields : List Ty
instance : Inhabited Df := ⟨⟨⟨#[]⟩, 0, [], []⟩⟩
/-- How many lifetimes have slots. -/
def lifesP (n : Int) : Nat := (min (max n 0) 100).toNat
def upd {α : Type} (g : ByteArray → Option α) (s : ByteArray) (x : α) : ByteArray → Option α := fun t => if t = s then some x else g t
def parP : Nat → List ByteArray → (ByteArray → Option Nat) → ByteArray → Option Nat
  | _, [], g => g
  | i, s :: l, g => parP (i + 1) l (if (g s).isSome then g else upd g s i)
theorem parP_lt : ∀ (l : List ByteArray) (i N : Nat) (g : ByteArray → Option Nat), (∀ s x, g s = some x → x < N) → i + l.length ≤ N → ∀ s x, parP i l g s = some x → x < N
  | [], _, _, _, h, _, s, x, e => h s x e
  | t :: l, i, N, g, h, hl, s, x, e => by
    rw [List.length_cons] at hl
    refine parP_lt l (i + 1) N _ (fun s x e => ?_) (by omega) s x e
    split at e
    · exact h s x e
    · unfold upd at e
      split at e
      · injection e with e
        omega
      · exact h s x e
def slots (d : Df) : Nat := lifesP d.lifes + d.types.length
def parsP (d : Df) : ByteArray → Option Nat := parP (lifesP d.lifes) d.types (fun _ => none)
def said (d : Df) (W : Ws) : List Nat := lookL W (lifesP d.lifes) (parsP d) d.fields 1 (List.replicate (slots d) 0)
/-- Rows told of structs, one by one. -/
def told (φ : Df → List Nat) : List Df → Ws → Ws
  | [], g => g
  | d :: l, g => told φ l (upd g d.name (φ d))
def once (l : List Df) (W : Ws) : Ws := told (fun d => said d W) l (fun _ => none)
def start (l : List Df) : Ws := told (fun d => List.replicate (slots d) 0) l (fun _ => none)
def it (l : List Df) : Nat → Ws
  | 0 => start l
  | i + 1 => once l (it l i)
def OptP (p : List Nat → List Nat → Prop) : Option (List Nat) → Option (List Nat) → Prop
  | none, none => True
  | some a, some b => p a b
  | _, _ => False
def Leq (W W' : Ws) : Prop := ∀ s, OptP SubL (W s) (W' s)
def Low (W : Ws) : Prop := ∀ s a, W s = some a → Few a
inductive Rel2 (p : Df → Df → Prop) : List Df → List Df → Prop
  | nil : Rel2 p [] []
  | cons {a b : Df} {l m : List Df} : p a b → Rel2 p l m → Rel2 p (a :: l) (b :: m)
theorem Rel2.refl {p : Df → Df → Prop} (h : ∀ d, p d d) : ∀ l, Rel2 p l l
  | [] => .nil
  | d :: l => .cons (h d) (Rel2.refl h l)
theorem told_leq {φ φ' : Df → List Nat} {p : Df → Df → Prop} (hp : ∀ d e, p d e → d.name = e.name ∧ SubL (φ d) (φ' e)) : ∀ {l m : List Df}, Rel2 p l m → ∀ {g g' : Ws}, Leq g g' → Leq (told φ l g) (told φ' m g')
  | _, _, .nil, _, _, h => h
  | _, _, .cons (a := a) (b := b) hab hlm, g, g', h => by
    obtain ⟨h1, h2⟩ := hp _ _ hab
    refine told_leq hp hlm fun s => ?_
    unfold upd
    rw [h1]
    by_cases hs : s = b.name
    · rw [if_pos hs, if_pos hs]; exact h2
    · rw [if_neg hs, if_neg hs]; exact h s
theorem told_low {φ : Df → List Nat} (hp : ∀ d, Few (φ d)) : ∀ {l : List Df} {g : Ws}, Low g → Low (told φ l g)
  | [], _, h => h
  | d :: l, g, h => told_low hp (g := upd g d.name (φ d)) (fun s a e => by
    unfold upd at e
    split at e
    · injection e with e; rw [← e]; exact hp d
    · exact h s a e)
theorem leq_none : Leq (fun _ => none) (fun _ => none) := fun _ => trivial
theorem low_none : Low (fun _ => none) := fun _ _ h => by cases h
theorem Leq.wsub {W W' : Ws} (h : Leq W W') (a : Low W) (b : Low W') : WSub W W' := by
  have few : ∀ {W : Ws}, Low W → ∀ nm i, wayOf W nm i < 4 := fun {W} hW nm i => by
    unfold wayOf
    split
    · decide
    · rename_i l hl
      by_cases hi : i < l.length
      · have := hW nm l hl i
        rwa [show l.getD i 3 = l.getD i 0 by simp [List.getD_eq_getElem?_getD, hi]]
      · rw [List.getD_eq_getElem?_getD, List.getElem?_eq_none (by omega)]; decide
  refine ⟨few a, few b, fun nm i => ?_⟩
  have h1 := h nm
  unfold wayOf
  split
  · rename_i e
    rw [e] at h1
    split
    · exact .refl _
    · rename_i e'
      rw [e'] at h1
      exact h1.elim
  · rename_i l e
    rw [e] at h1
    split
    · rename_i e'
      rw [e'] at h1
      exact h1.elim
    · rename_i m e'
      rw [e'] at h1
      obtain ⟨h2, h3⟩ := h1
      by_cases hi : i < l.length
      · have := h3 i
        rwa [show l.getD i 3 = l.getD i 0 by simp [List.getD_eq_getElem?_getD, hi], show m.getD i 3 = m.getD i 0 by rw [h2] at hi; simp [List.getD_eq_getElem?_getD, hi]]
      · rw [List.getD_eq_getElem?_getD, List.getElem?_eq_none (by omega), List.getD_eq_getElem?_getD, List.getElem?_eq_none (by omega)]; exact .refl _
theorem few_zeros (n : Nat) : Few (List.replicate n 0) := fun i => by
  rw [List.getD_eq_getElem?_getD, List.getElem?_replicate]
  split <;> simp
/-- The fields of the second one are those of the first one, and maybe some more. -/
structure More (d e : Df) : Prop where
  name : d.name = e.name
  lifes : d.lifes = e.lifes
  types : d.types = e.types
  fields : ∃ m, e.fields = d.fields ++ m
theorem More.refl (d : Df) : More d d := ⟨rfl, rfl, rfl, [], by simp⟩
theorem said_low {W : Ws} (hW : WSub W W) (d : Df) : Few (said d W) := (step_lookL hW _ _ d.fields (by decide) (by decide) (.refl _)).few _ (few_zeros _)
theorem said_length {W : Ws} (hW : WSub W W) (d : Df) : (said d W).length = slots d := by
  unfold said
  rw [(step_lookL hW _ _ d.fields (v := 1) (u := 1) (by decide) (by decide) (.refl _)).len, List.length_replicate]
theorem said_sub {W W' : Ws} (hW : WSub W W') (hW' : WSub W' W') {d e : Df} (h : More d e) : SubL (said d W) (said e W') := by
  obtain ⟨m, hm⟩ := h.fields
  have h1 := (step_lookL hW (lifesP d.lifes) (parsP d) d.fields (v := 1) (u := 1) (by decide) (by decide) (.refl _)).sub (List.replicate (slots d) 0) (List.replicate (slots d) 0) (.refl _)
  have h2 := (step_lookL hW' (lifesP d.lifes) (parsP d) m (v := 1) (u := 1) (by decide) (by decide) (.refl _)).more (lookL W' (lifesP d.lifes) (parsP d) d.fields 1 (List.replicate (slots d) 0))
  have e1 : slots e = slots d := by unfold slots; rw [h.lifes, h.types]
  have e2 : parsP e = parsP d := by unfold parsP; rw [h.lifes, h.types]
  unfold said
  rw [hm, e1, e2, ← h.lifes, lookL_append]
  exact h1.trans h2
theorem it_low (l : List Df) : ∀ i, Low (it l i)
  | 0 => told_low (fun d => few_zeros _) low_none
  | i + 1 => told_low (fun d => said_low (Leq.wsub (fun s => by unfold OptP; split; trivial; (rename_i a b e1 e2; rw [e1] at e2; injection e2 with e2; rw [e2]; exact .refl _); rename_i h1 h2; cases hs : it l i s with | none => exact h1 hs hs | some a => exact h2 a a hs hs) (it_low l i) (it_low l i)) d) low_none
theorem Leq.refl (W : Ws) : Leq W W := fun s => by
  cases W s with
  | none => trivial
  | some a => exact SubL.refl a
theorem it_wsub (l : List Df) (i : Nat) : WSub (it l i) (it l i) := (Leq.refl _).wsub (it_low l i) (it_low l i)
theorem start_leq (l : List Df) (W : Ws) (hW : WSub W W) : Leq (start l) (once l W) := told_leq (p := fun d e => d = e) (fun d e h => by
  subst h
  refine ⟨rfl, by rw [List.length_replicate, said_length hW], fun i => ?_⟩
  rw [List.getD_eq_getElem?_getD, List.getElem?_replicate]
  split <;> exact .zero _) (Rel2.refl (fun _ => rfl) l) leq_none
theorem it_more {l m : List Df} (h : Rel2 More l m) : ∀ i, Leq (it l i) (it m i)
  | 0 => told_leq (p := More) (fun d e h => ⟨h.name, by rw [show slots d = slots e by unfold slots; rw [h.lifes, h.types]]; exact .refl _⟩) h leq_none
  | i + 1 => told_leq (p := More) (fun d e k => ⟨k.name, said_sub ((it_more h i).wsub (it_low l i) (it_low m i)) (it_wsub m i) k⟩) h leq_none
theorem it_up (l : List Df) : ∀ i, Leq (it l i) (it l (i + 1))
  | 0 => start_leq l _ (it_wsub l 0)
  | i + 1 => told_leq (p := More) (fun d e k => ⟨k.name, said_sub ((it_up l i).wsub (it_low l i) (it_low l (i + 1))) (it_wsub l (i + 1)) k⟩) (Rel2.refl More.refl l) leq_none
theorem it_still {l : List Df} {i : Nat} (h : it l (i + 1) = it l i) : ∀ k, it l (i + k) = it l i
  | 0 => rfl
  | k + 1 => by
    show once l (it l (i + k)) = it l i
    rw [it_still h k]
    exact h
/-- The ways that hold, come to from nothing. -/
def Held (l : List Df) (W : Ws) : Prop := ∃ i, W = it l i ∧ it l (i + 1) = it l i
theorem held_more {l m : List Df} (h : Rel2 More l m) {W W' : Ws} (a : Held l W) (b : Held m W') : Leq W W' := by
  obtain ⟨i, rfl, hi⟩ := a
  obtain ⟨j, rfl, hj⟩ := b
  have h1 := it_still hi j
  have h2 := it_still hj i
  rw [← h1, ← h2, Nat.add_comm j i]
  exact it_more h _
/-! Till it holds. -/
def left : List Nat → Nat
  | [] => 0
  | x :: l => (3 - x) + left l
def leftAll (W : Ws) : List Df → Nat
  | [] => 0
  | d :: l => (match W d.name with | none => 0 | some a => left a) + leftAll W l
theorem left_le : ∀ {a b : List Nat}, SubL a b → left b ≤ left a
  | [], [], _ => Nat.le_refl _
  | [], _ :: _, h => by have := h.1; simp at this
  | _ :: _, [], h => by have := h.1; simp at this
  | x :: a, y :: b, h => by
    have h0 := (h.2 0).le
    have h1 := left_le (a := a) (b := b) ⟨by simpa using h.1, fun i => by simpa using h.2 (i + 1)⟩
    simp only [List.getD_cons_zero] at h0
    simp only [left]
    omega
theorem left_lt : ∀ {a b : List Nat}, SubL a b → Few b → a ≠ b → left b < left a
  | [], [], _, _, h => absurd rfl h
  | [], _ :: _, h, _, _ => by have := h.1; simp at this
  | _ :: _, [], h, _, _ => by have := h.1; simp at this
  | x :: a, y :: b, h, hf, hne => by
    have h0 := (h.2 0).le
    have hs : SubL a b := ⟨by simpa using h.1, fun i => by simpa using h.2 (i + 1)⟩
    have hy := hf 0
    simp only [List.getD_cons_zero] at h0 hy
    simp only [left]
    have h1 := left_le hs
    by_cases hxy : x = y
    · have := left_lt hs (fun i => by simpa using hf (i + 1)) (fun e => hne (by rw [hxy, e]))
      omega
    · omega
theorem leftAll_le {W W' : Ws} (h : Leq W W') : ∀ l, leftAll W' l ≤ leftAll W l
  | [] => Nat.le_refl _
  | d :: l => by
    have h1 := h d.name
    have h2 := leftAll_le h l
    simp only [leftAll]
    cases ha : W d.name with
    | none =>
      cases hb : W' d.name with
      | none => simpa using h2
      | some b => rw [ha, hb] at h1; exact h1.elim
    | some a =>
      cases hb : W' d.name with
      | none => rw [ha, hb] at h1; exact h1.elim
      | some b =>
        rw [ha, hb] at h1
        have := left_le h1
        simp only []
        omega
theorem leftAll_lt {W W' : Ws} (h : Leq W W') (hf : Low W') {l : List Df} {d : Df} (hd : d ∈ l) (hne : W d.name ≠ W' d.name) : leftAll W' l < leftAll W l := by
  induction l with
  | nil => cases hd
  | cons e l ih =>
    have h1 := h e.name
    have h2 := leftAll_le h l
    simp only [leftAll]
    rcases List.mem_cons.1 hd with rfl | hd
    · cases ha : W d.name with
      | none =>
        cases hb : W' d.name with
        | none => exact absurd (by rw [ha, hb]) hne
        | some b => rw [ha, hb] at h1; exact h1.elim
      | some a =>
        cases hb : W' d.name with
        | none => rw [ha, hb] at h1; exact h1.elim
        | some b =>
          rw [ha, hb] at h1 hne
          have := left_lt h1 (hf _ _ hb) (fun e => hne (by rw [e]))
          simp only []
          omega
    · have h3 := ih hd
      cases ha : W e.name with
      | none =>
        cases hb : W' e.name with
        | none => simpa using h3
        | some b => rw [ha, hb] at h1; exact h1.elim
      | some a =>
        cases hb : W' e.name with
        | none => rw [ha, hb] at h1; exact h1.elim
        | some b =>
          rw [ha, hb] at h1
          have := left_le h1
          simp only []
          omega
/-- Names that no struct of the list has. -/
theorem told_other {φ : Df → List Nat} {s : ByteArray} : ∀ {l : List Df} {g : Ws}, (∀ d ∈ l, d.name ≠ s) → told φ l g s = g s
  | [], _, _ => rfl
  | d :: l, g, h => by
    rw [told, told_other fun e he => h e (List.mem_cons_of_mem _ he)]
    unfold upd
    rw [if_neg fun e => h d List.mem_cons_self e.symm]
theorem told_has {φ : Df → List Nat} : ∀ {l : List Df} {g : Ws} {d : Df}, d ∈ l → ∃ a, told φ l g d.name = some a
  | e :: l, g, d, h => by
    rw [told]
    by_cases hl : ∃ c ∈ l, c.name = d.name
    · obtain ⟨c, hc, he⟩ := hl
      rw [← he]
      exact told_has hc
    · rcases List.mem_cons.1 h with rfl | h
      · rw [told_other fun c hc hn => hl ⟨c, hc, hn⟩]
        unfold upd
        rw [if_pos rfl]
        exact ⟨_, rfl⟩
      · exact absurd ⟨d, h, rfl⟩ hl
theorem it_has (l : List Df) {d : Df} (h : d ∈ l) : ∀ i, ∃ a, it l i d.name = some a
  | 0 => told_has h
  | _ + 1 => told_has h
theorem it_other (l : List Df) {s : ByteArray} (h : ∀ d ∈ l, d.name ≠ s) : ∀ i, it l i s = none
  | 0 => told_other h
  | _ + 1 => told_other h
theorem it_same {l : List Df} {i j : Nat} (h : ∀ d ∈ l, it l i d.name = it l j d.name) : it l i = it l j := by
  funext s
  by_cases hs : ∃ d ∈ l, d.name = s
  · obtain ⟨d, hd, rfl⟩ := hs
    exact h d hd
  · rw [it_other l fun d hd e => hs ⟨d, hd, e⟩, it_other l fun d hd e => hs ⟨d, hd, e⟩]
end Vy
end Go.Proofs.Ytelmdidgmpbnmaa

/- Bits of a word; regions that outlive others, and what must be in them: plain facts. -/
import Derived.Test.YtbeepedobnaojaaDoorLifeM
import Derived.Lib.TrailingZeros
import Derived.Laws.Bits64b
namespace Go.Proofs.YtbeepedobnaojaaDoor
open Lf
namespace Sv
/-- The bits of y that x has not. -/
def fresh (y x : Nat) : Nat := y ^^^ (y &&& x)
theorem fresh_bit (y x k : Nat) : (fresh y x).testBit k = (y.testBit k && !x.testBit k) := by
  unfold fresh
  rw [Nat.testBit_xor, Nat.testBit_and]
  cases y.testBit k <;> cases x.testBit k <;> rfl
theorem fresh_lt {y x n : Nat} (h : y < 2 ^ n) : fresh y x < 2 ^ n := Nat.xor_lt_two_pow h (by rw [Nat.and_comm]; exact Nat.and_lt_two_pow _ h)
theorem bit_lt {z n k : Nat} (h : z < 2 ^ n) (hk : z.testBit k = true) : k < n := by
  apply Nat.lt_of_not_le
  intro hle
  have : z < 2 ^ k := Nat.lt_of_lt_of_le h (Nat.pow_le_pow_right (by decide) hle)
  rw [Nat.testBit_lt_two_pow this] at hk
  cases hk
/-- A word without its lowest bit. -/
def cut (z : Nat) : Nat := z &&& (z - 1)
theorem low_bit {z : Nat} (h0 : z ≠ 0) (h : z < 2 ^ 64) :
    ∃ k, Lib.ctz 64 z = k ∧ k < 64 ∧ z.testBit k = true ∧ (∀ j, j < k → z.testBit j = false) ∧ (∀ j, (cut z).testBit j = (z.testBit j && j != k)) ∧ z &&& (2 ^ 64 - z) = 2 ^ k := by
  obtain ⟨m, hm, hk⟩ := Lib.ctzFrom_spec 64 z (by omega) h
  have hc : Lib.ctz 64 z = Lib.ctzFrom 64 z := if_neg h0
  rw [hc]
  obtain ⟨k, hkk⟩ : ∃ k, Lib.ctzFrom 64 z = k := ⟨_, rfl⟩
  rw [hkk] at hm hk ⊢
  have hp : 0 < 2 ^ k := Nat.two_pow_pos k
  have e1 : z - 1 = 2 ^ k * (2 * m) + (2 ^ k - 1) := by
    rw [hm, Nat.mul_add]
    omega
  have tz : ∀ j, z.testBit j = (decide (k ≤ j) && (2 * m + 1).testBit (j - k)) := fun j => by
    rw [hm, Nat.mul_comm, Nat.testBit_mul_two_pow]
  have t1 : ∀ j, (z - 1).testBit j = if j < k then (2 ^ k - 1).testBit j else (2 * m).testBit (j - k) := fun j => by
    rw [e1, Nat.testBit_two_pow_mul_add _ (by omega)]
  refine ⟨k, rfl, hk, ?_, fun j hj => ?_, fun j => ?_, ?_⟩
  · rw [tz, Nat.sub_self]
    simp
  · rw [tz]
    simp [Nat.not_le.2 hj]
  · unfold cut
    rw [Nat.testBit_and, t1, tz]
    by_cases hj : j < k
    · simp [Nat.not_le.2 hj]
    · rw [if_neg hj]
      by_cases hjk : j = k
      · subst hjk
        simp
      · obtain ⟨i, rfl⟩ : ∃ i, j = k + (i + 1) := ⟨j - k - 1, by omega⟩
        rw [show k + (i + 1) - k = i + 1 by omega, Nat.testBit_succ, Nat.testBit_succ, show (2 * m + 1) / 2 = m by omega, show 2 * m / 2 = m by omega]
        simp
  · conv => lhs; rw [hm]
    exact Lib.and_neg 64 k m (by rw [← hm]; exact h)
theorem filter_low {p q : Nat → Bool} {k : Nat} (h1 : ∀ j, j < k → p j = false) (h2 : p k = true) (h3 : ∀ j, q j = (p j && j != k)) : ∀ n, k < n → (List.range n).filter p = k :: (List.range n).filter q
  | 0, h => by omega
  | n + 1, h => by
    rw [List.range_succ, List.filter_append, List.filter_append]
    by_cases hk : k = n
    · subst hk
      have e1 : (List.range k).filter p = [] := List.filter_eq_nil_iff.2 fun j hj => by rw [h1 j (List.mem_range.1 hj)]; exact Bool.false_ne_true
      have e2 : (List.range k).filter q = [] := List.filter_eq_nil_iff.2 fun j hj => by rw [h3, h1 j (List.mem_range.1 hj)]; exact Bool.false_ne_true
      have e3 : q k = false := by rw [h3]; simp
      simp [e1, e2, h2, e3]
    · rw [filter_low h1 h2 h3 n (by omega)]
      have : q n = p n := by rw [h3]; have : (n != k) = true := by simp; omega
                             rw [this, Bool.and_true]
      have e : List.filter p [n] = List.filter q [n] := by simp [List.filter, this]
      rw [e]
      rfl
/-- The bits of a word, rising. -/
def bl (z : Nat) : List Nat := (List.range 64).filter fun k => z.testBit k
theorem bl_zero : bl 0 = [] := List.filter_eq_nil_iff.2 fun j _ => by simp
theorem mem_bl {z k : Nat} : k ∈ bl z ↔ k < 64 ∧ z.testBit k = true := by simp [bl]
theorem bl_low {z k : Nat} (hk : k < 64) (h1 : ∀ j, j < k → z.testBit j = false) (h2 : z.testBit k = true) (h3 : ∀ j, (cut z).testBit j = (z.testBit j && j != k)) : bl z = k :: bl (cut z) :=
  filter_low h1 h2 h3 64 hk
theorem cut_lt {z : Nat} (h : z ≠ 0) : cut z < z := by
  have : cut z ≤ z - 1 := by unfold cut; exact Nat.and_le_right
  omega
def card (z : Nat) : Nat := (bl z).length
theorem card_le (z : Nat) : card z ≤ 64 := by
  unfold card bl
  exact Nat.le_trans (List.length_filter_le _ _) (by simp)
theorem countP_or (p q : Nat → Bool) : ∀ l : List Nat, l.countP (fun j => p j || q j) = l.countP p + l.countP (fun j => q j && !p j)
  | [] => rfl
  | x :: l => by
    rw [List.countP_cons, List.countP_cons, List.countP_cons, countP_or p q l]
    cases p x <;> cases q x <;> simp <;> omega
theorem card_or (x y : Nat) : card (x ||| y) = card x + card (fresh y x) := by
  unfold card bl
  rw [← List.countP_eq_length_filter, ← List.countP_eq_length_filter, ← List.countP_eq_length_filter]
  have := countP_or (fun k => x.testBit k) (fun k => y.testBit k) (List.range 64)
  rw [show (fun k => (x ||| y).testBit k) = fun k => x.testBit k || y.testBit k from funext fun k => Nat.testBit_or x y k, this]
  rw [show (fun k => (fresh y x).testBit k) = fun k => y.testBit k && !x.testBit k from funext fun k => fresh_bit y x k]
theorem or_bit {x k : Nat} (j : Nat) : (x ||| 2 ^ k).testBit j = (x.testBit j || j == k) := by
  rw [Nat.testBit_or, Nat.testBit_two_pow]
  by_cases h : k = j
  · subst h; simp
  · rw [show decide (k = j) = false from decide_eq_false h, show (j == k) = false by simp; omega]
theorem or_lt {x y n : Nat} (hx : x < 2 ^ n) (hy : y < 2 ^ n) : x ||| y < 2 ^ n := Nat.or_lt_two_pow hx hy
theorem pow_lt {k n : Nat} (h : k < n) : 2 ^ k < 2 ^ n := Nat.pow_lt_pow_right (by decide) h
theorem bits_andNot (a b : Nat) (ha : a < 2 ^ 64) (hb : b < 2 ^ 64) : bits .andNot .u64 (a : Int) (b : Int) = ((fresh a b : Nat) : Int) := by
  have hx : fresh a b < 2 ^ 64 := fresh_lt ha
  have h1 : (BitVec.ofInt 64 (a : Int)).toNat = a := by
    rw [BitVec.ofInt_natCast, BitVec.toNat_ofNat]; exact Nat.mod_eq_of_lt ha
  have h2 : (BitVec.ofInt 64 (b : Int)).toNat = b := by
    rw [BitVec.ofInt_natCast, BitVec.toNat_ofNat]; exact Nat.mod_eq_of_lt hb
  show IntKind.u64.wrap ((BitVec.ofInt 64 (a : Int) &&& ~~~BitVec.ofInt 64 (b : Int)).toNat : Int) = _
  have e : (BitVec.ofInt 64 (a : Int) &&& ~~~BitVec.ofInt 64 (b : Int)).toNat = fresh a b := by
    apply Nat.eq_of_testBit_eq
    intro j
    rw [fresh_bit, BitVec.testBit_toNat, BitVec.getLsbD_and, BitVec.getLsbD_not, ← BitVec.testBit_toNat, ← BitVec.testBit_toNat, h1, h2]
    by_cases hj : j < 64
    · simp [hj]
    · cases h : a.testBit j
      · rfl
      · exact absurd (bit_lt ha h) hj
  rw [e, IntKind.wrap_u64]
  have : (2 : Nat) ^ 64 = 18446744073709551616 := by decide
  omega
/-! Regions. -/
/-- M is the least closed relation that has of each region below n those that were said to outlive it. -/
structure Cl (X : Nat → Nat) (n : Nat) (M : R2) : Prop where
  ok : Ok M
  has : ∀ i j, i < n → (X i).testBit j = true → M j i = true
  least : ∀ Q, Ok Q → (∀ i j, i < n → (X i).testBit j = true → Q j i = true) → ∀ c d, M c d = true → Q c d = true
def put (X : Nat → Nat) (a v : Nat) : Nat → Nat := fun i => if i = a then v else X i
theorem cl_none (n : Nat) : Cl (fun _ => 0) n eqR := ⟨eqR_ok, fun i j _ h => by simp at h, fun Q hQ _ c d h => by simp [eqR] at h; subst h; exact hQ.refl c⟩
theorem Cl.add {X : Nat → Nat} {n : Nat} {M : R2} (h : Cl X n M) {a b : Nat} (hb : b < n) : Cl (put X b (X b ||| 2 ^ a)) n (plus M a b) := by
  refine ⟨h.ok.plus a b, fun i j hi hj => ?_, fun Q hQ hX c d hc => ?_⟩
  · unfold put at hj
    by_cases hib : i = b
    · subst hib
      rw [if_pos rfl, or_bit, Bool.or_eq_true, beq_iff_eq] at hj
      rcases hj with hj | rfl
      · exact plus_le (h.has _ _ hi hj)
      · exact plus_has h.ok _ _
    · rw [if_neg hib] at hj
      exact plus_le (h.has _ _ hi hj)
  · refine plus_least hQ (h.least Q hQ fun i j hi hj => hX i j hi ?_) (hX b a hb ?_) c d hc
    · unfold put
      by_cases hib : i = b
      · subst hib; rw [if_pos rfl, or_bit, hj]; rfl
      · rw [if_neg hib]; exact hj
    · unfold put
      rw [if_pos rfl, or_bit]
      simp
/-- While an element is spread: S0 what had it at first, S what has it, l what is still to be looked at. -/
structure Sp (X : Nat → Nat) (n : Nat) (M : R2) (r S0 S : Nat) (l : List Nat) : Prop where
  lt : S < 2 ^ n
  old : ∀ y, S0.testBit y = true → S.testBit y = true
  one : S.testBit r = true
  only : ∀ y, S.testBit y = true → S0.testBit y = true ∨ M y r = true
  todo : ∀ y ∈ l, y < n ∧ M y r = true
  next : ∀ x y, S.testBit x = true → (X x).testBit y = true → S.testBit y = true ∨ x ∈ l
theorem sp_start {X : Nat → Nat} {n : Nat} {M : R2} (h : Cl X n M) {r S0 : Nat} (hr : r < n) (hS : S0 < 2 ^ n) (hc : ∀ x y, S0.testBit x = true → (X x).testBit y = true → S0.testBit y = true ∨ y = r) :
    Sp X n M r S0 (S0 ||| 2 ^ r) [r] := by
  refine ⟨or_lt hS (pow_lt hr), fun y hy => by rw [or_bit, hy]; rfl, by rw [or_bit]; simp, fun y hy => ?_, fun y hy => ?_, fun x y hx hy => ?_⟩
  · rw [or_bit, Bool.or_eq_true, beq_iff_eq] at hy
    rcases hy with hy | rfl
    · exact .inl hy
    · exact .inr (h.ok.refl _)
  · simp at hy; subst hy; exact ⟨hr, h.ok.refl _⟩
  · rw [or_bit, Bool.or_eq_true, beq_iff_eq] at hx
    rcases hx with hx | rfl
    · left
      rcases hc x y hx hy with h1 | rfl
      · rw [or_bit, h1]; rfl
      · rw [or_bit]; simp
    · right; simp
theorem Sp.step {X : Nat → Nat} {n : Nat} {M : R2} (hn : n ≤ 64) (h : Cl X n M) (hX : ∀ i, i < n → X i < 2 ^ n) {r S0 S x : Nat} {l : List Nat} (hs : Sp X n M r S0 S (l ++ [x])) :
    Sp X n M r S0 (S ||| X x) (l ++ bl (fresh (X x) S)) ∧ x < n := by
  obtain ⟨hx, hxr⟩ := hs.todo x (by simp)
  refine ⟨⟨or_lt hs.lt (hX x hx), fun y hy => by rw [Nat.testBit_or, hs.old y hy]; rfl, by rw [Nat.testBit_or, hs.one]; rfl, fun y hy => ?_, fun y hy => ?_, fun u y hu hy => ?_⟩, hx⟩
  · rw [Nat.testBit_or, Bool.or_eq_true] at hy
    rcases hy with hy | hy
    · exact hs.only y hy
    · exact .inr (h.ok.trans _ _ _ (h.has _ _ hx hy) hxr)
  · rcases List.mem_append.1 hy with hy | hy
    · exact hs.todo y (List.mem_append_left _ hy)
    · have h1 := (mem_bl.1 hy).2
      rw [fresh_bit, Bool.and_eq_true] at h1
      exact ⟨bit_lt (hX x hx) h1.1, h.ok.trans _ _ _ (h.has _ _ hx h1.1) hxr⟩
  · rw [Nat.testBit_or, Bool.or_eq_true] at hu
    by_cases hSu : S.testBit u = true
    · rcases hs.next u y hSu hy with h1 | h1
      · exact .inl (by rw [Nat.testBit_or, h1]; rfl)
      · rcases List.mem_append.1 h1 with h1 | h1
        · exact .inr (List.mem_append_left _ h1)
        · simp at h1
          subst h1
          exact .inl (by rw [Nat.testBit_or, hy, Bool.or_true])
    · have hu' : (X x).testBit u = true := by
        rcases hu with hu | hu
        · exact absurd hu hSu
        · exact hu
      have hu64 : u < 64 := Nat.lt_of_lt_of_le (bit_lt (hX x hx) hu') hn
      exact .inr (List.mem_append_right _ (mem_bl.2 ⟨hu64, by rw [fresh_bit, hu']; cases hq : S.testBit u with
          | false => rfl
          | true => exact absurd hq hSu⟩))
theorem Sp.done {X : Nat → Nat} {n : Nat} {M : R2} (h : Cl X n M) {r S0 S : Nat} (hs : Sp X n M r S0 S []) (y : Nat) : S.testBit y = (S0.testBit y || M y r) := by
  rw [Bool.eq_iff_iff, Bool.or_eq_true]
  refine ⟨hs.only y, fun hy => ?_⟩
  rcases hy with hy | hy
  · exact hs.old y hy
  · have := h.least (fun c d => !S.testBit d || S.testBit c) ⟨fun c => by cases S.testBit c <;> rfl, fun c d e h1 h2 => by cases hc : S.testBit c <;> cases he : S.testBit e <;> simp_all⟩
      (fun i j hi hj => by
        cases hq : S.testBit i with
        | false => rfl
        | true =>
          rcases hs.next i j hq hj with h1 | h1
          · simp [h1]
          · cases h1) y r hy
    simpa [hs.one] using this
end Sv
end Go.Proofs.YtbeepedobnaojaaDoor

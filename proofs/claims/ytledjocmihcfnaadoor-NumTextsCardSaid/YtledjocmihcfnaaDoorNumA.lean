/- Plain arithmetic for the statements of layer 2: what fits an int64. -/
import Derived.RowKit
namespace Go.Proofs.YtledjocmihcfnaaDoor
open Go.RowKit

/-- A whole number, if it is an int64. -/
def fit (n : Int) : Int × Bool := if -9223372036854775808 ≤ n ∧ n ≤ 9223372036854775807 then (n, true) else (0, false)

theorem fit_in {n : Int} (h : -9223372036854775808 ≤ n ∧ n ≤ 9223372036854775807) : fit n = (n, true) := by unfold fit; rw [if_pos h]
theorem fit_out {n : Int} (h : n < -9223372036854775808 ∨ 9223372036854775807 < n) : fit n = (0, false) := by unfold fit; rw [if_neg (by omega)]

theorem tmod_small (c b : Int) (h : b ≠ 0) : -(b.natAbs : Int) < c.tmod b ∧ c.tmod b < b.natAbs := by
  have h1 := Int.natAbs_tmod c b
  have h2 := Nat.mod_lt c.natAbs (y := b.natAbs) (by omega)
  omega

/-- A product that wraps isn't got back by the quotient. -/
theorem mul_back (a b : Int) (b1 : -9223372036854775808 ≤ b) (b2 : b ≤ 9223372036854775807) (hb : b ≠ 0) (hm : b ≠ -1)
    (h : ¬ (-9223372036854775808 ≤ a * b ∧ a * b ≤ 9223372036854775807)) : wrap64 ((wrap64 (a * b)).tdiv b) ≠ a := by
  intro e
  have hc : -9223372036854775808 ≤ wrap64 (a * b) ∧ wrap64 (a * b) ≤ 9223372036854775807 := by unfold wrap64; omega
  obtain ⟨k, hk⟩ : ∃ k : Int, wrap64 (a * b) = a * b + 18446744073709551616 * k := ⟨-((a * b + 9223372036854775808) / 18446744073709551616), by unfold wrap64; omega⟩
  generalize wrap64 (a * b) = c at *
  have hq := Int.mul_tdiv_add_tmod c b
  have hr := tmod_small c b hb
  have hn := Int.natAbs_tdiv c b
  have hle : c.natAbs.div b.natAbs ≤ c.natAbs := Nat.div_le_self _ _
  have hone : b = 1 ∨ 2 ≤ b.natAbs := by omega
  have hw : wrap64 (c.tdiv b) = c.tdiv b := by
    rcases hone with h1 | h1
    · subst h1; rw [Int.tdiv_one]; unfold wrap64; omega
    · have : c.natAbs.div b.natAbs ≤ c.natAbs / 2 := Nat.div_le_div_left h1 (by omega)
      unfold wrap64; omega
  rw [hw] at e
  rw [e, Int.mul_comm] at hq
  have : k = 0 := by omega
  subst this
  omega

theorem tdiv_pp {a b : Int} (ha : 0 ≤ a) : a.tdiv b = a / b := Int.tdiv_eq_ediv_of_nonneg ha
theorem tdiv_np {a b : Int} (ha : a ≤ 0) : a.tdiv b = -(-a / b) := by
  rw [← Int.tdiv_eq_ediv_of_nonneg (by omega), Int.neg_tdiv, Int.neg_neg]
theorem tdiv_pn {a b : Int} (ha : 0 ≤ a) : a.tdiv b = -(a / -b) := by
  rw [← Int.tdiv_eq_ediv_of_nonneg ha, Int.tdiv_neg, Int.neg_neg]
theorem tdiv_nn {a b : Int} (ha : a ≤ 0) : a.tdiv b = -a / -b := by
  rw [← Int.tdiv_eq_ediv_of_nonneg (by omega), Int.tdiv_neg, Int.neg_tdiv, Int.neg_neg]
theorem div_small {m n : Int} (hm : 0 ≤ m) (hn : 1 ≤ n) : 0 ≤ m / n ∧ m / n ≤ m := ⟨Int.ediv_nonneg hm (by omega), Int.ediv_le_self _ hm⟩

theorem tdiv_le (a b : Int) (hb : b ≠ 0) (hm : b ≠ -1) (a1 : -9223372036854775808 ≤ a) (a2 : a ≤ 9223372036854775807) : -9223372036854775808 ≤ a.tdiv b ∧ a.tdiv b ≤ 9223372036854775807 := by
  have hn := Int.natAbs_tdiv a b
  have hle : a.natAbs.div b.natAbs ≤ a.natAbs := Nat.div_le_self _ _
  have hone : b = 1 ∨ 2 ≤ b.natAbs := by omega
  rcases hone with h1 | h1
  · subst h1; rw [Int.tdiv_one]; omega
  · have : a.natAbs.div b.natAbs ≤ a.natAbs / 2 := Nat.div_le_div_left h1 (by omega)
    omega
theorem mul_room (m n : Int) (h1 : 0 ≤ m) (h3 : 1 ≤ n) : (m ≤ 9223372036854775808 / n → 0 ≤ m * n ∧ m * n ≤ 9223372036854775808) ∧ (¬ m ≤ 9223372036854775808 / n → 9223372036854775808 < m * n) := by
  have h := Int.le_ediv_iff_mul_le (a := m) (b := 9223372036854775808) (c := n) (by omega)
  refine ⟨fun h2 => ⟨Int.mul_nonneg h1 (by omega), h.1 h2⟩, fun h2 => ?_⟩
  have := fun h4 => h2 (h.2 h4)
  omega

end Go.Proofs.YtledjocmihcfnaaDoor

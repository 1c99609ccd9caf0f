/- Floats by their bits: sums, differences, products, quotients at their edges; plain mathematics. -/
import Derived.Test.YtledjocmihcfnaaDoorNumF
namespace Go.Proofs.YtledjocmihcfnaaDoor.Fl
open Ieee

theorem sum_comm (d e : Datum) : d.sum e = e.sum d := by
  cases d with
  | nan s t => cases e <;> rfl
  | infinity s =>
    cases e with
    | nan => rfl
    | number => rfl
    | infinity t =>
      by_cases h : s = t
      · rw [h]
      · unfold Datum.sum; dsimp only; rw [if_neg h, if_neg (Ne.symm h)]
  | number s m i =>
    cases e with
    | nan => rfl
    | infinity => rfl
    | number t n j =>
      unfold Datum.sum
      simp only [Int.min_comm i j, Int.add_comm (signed s m _), Bool.and_comm s t]
theorem add_comm (a b : Nat) : double.add a b = double.add b a := by unfold Format.add; rw [sum_comm]
theorem product_comm (d e : Datum) : d.product e = e.product d := by
  cases d <;> cases e <;> simp [Datum.product, Bool.xor_comm, Nat.mul_comm, Int.add_comm]
theorem mul_comm (a b : Nat) : double.mul a b = double.mul b a := by unfold Format.mul; rw [product_comm]

theorem sub_eq {a b : Nat} (h : b < 18446744073709551616) : double.sub a b = double.add a (flip b) := by
  unfold Format.sub Format.add; rw [read_flip h]

/-- A word of a sign and a rung. -/
def wd (s : Bool) (r : Nat) : Nat := (if s then W else 0) + r
theorem rg_wd {s : Bool} {r : Nat} (h : r < W) : rg (wd s r) = r := by
  unfold wd
  split
  · exact rg_high h
  · rw [Nat.zero_add]; exact rg_low h
theorem sg_wd {s : Bool} {r : Nat} (h : r < W) : sg (wd s r) = s := by
  unfold wd
  split
  · rename_i e; rw [e]; exact sg_high h
  · rename_i e; rw [Nat.zero_add, sg_low h]; simp at e; exact e.symm
theorem wd_self {a : Nat} (h : a < 18446744073709551616) : wd (sg a) (rg a) = a := (split h).symm
theorem fop_wd {s : Bool} {r : Nat} (h : r ≤ I) : fop (some (wd s r)) = wd s r :=
  fop_plain (by rw [rg_wd (by rw [I_eq] at h; rw [W_eq]; omega)]; exact h)
theorem write_inf' (s : Bool) : double.write (.infinity s) = wd s I := write_inf s
theorem write_zero' (s : Bool) (p : Int) : double.write (.number s 0 p) = wd s 0 := write_zero s p

theorem mg_zero {r : Nat} : mg r = 0 ↔ r = 0 := by
  unfold mg
  split
  · exact Iff.rfl
  · have : 0 < B := by decide
    constructor
    · intro h; omega
    · intro h; omega

theorem add_nan {a b : Nat} (h : I < rg a ∨ I < rg b) : double.add a b = none := by
  unfold Format.add
  rcases h with h | h
  · rw [read_nan h]; rfl
  · rw [read_nan h]; cases double.read a <;> rfl
theorem mul_nan {a b : Nat} (h : I < rg a ∨ I < rg b) : double.mul a b = none := by
  unfold Format.mul
  rcases h with h | h
  · rw [read_nan h]; rfl
  · rw [read_nan h]; cases double.read a <;> rfl
theorem div_nan {a b : Nat} (h : I < rg a ∨ I < rg b) : double.div a b = none := by
  unfold Format.div
  rcases h with h | h
  · rw [read_nan h]; rfl
  · rw [read_nan h]; cases double.read a <;> rfl

theorem add_inf_ne {a b : Nat} (ha : a < 18446744073709551616) (hb : b < 18446744073709551616) (h1 : rg a = I) (h2 : rg b = I) (h : a ≠ b) : double.add a b = none := by
  unfold Format.add
  rw [read_inf h1, read_inf h2]
  have hs : sg a ≠ sg b := fun e => h (by rw [← wd_self ha, ← wd_self hb, h1, h2, e])
  show Option.map _ (if sg a = sg b then _ else _) = _
  rw [if_neg hs]; rfl
theorem add_inf_l {a b : Nat} (ha : a < 18446744073709551616) (h1 : rg a = I) (h : rg b < I ∨ a = b) : fop (double.add a b) = a := by
  have e : double.add a b = some (wd (sg a) I) := by
    unfold Format.add
    rcases h with h | h
    · rw [read_inf h1, read_fin h]
      show some (double.write (.infinity (sg a))) = _
      rw [write_inf']
    · rw [← h, read_inf h1]
      show Option.map _ (if sg a = sg a then _ else _) = _
      rw [if_pos rfl]
      show some (double.write (.infinity (sg a))) = _
      rw [write_inf']
  rw [e, fop_wd (Nat.le_refl _), ← h1, wd_self ha]
theorem add_inf_r {a b : Nat} (hb : b < 18446744073709551616) (h1 : rg a < I) (h2 : rg b = I) : fop (double.add a b) = b := by
  rw [add_comm]; exact add_inf_l hb h2 (.inl h1)
theorem and_zero {a b : Nat} (ha : a < 18446744073709551616) (hb : b < 18446744073709551616) (h1 : rg a = 0) (h2 : rg b = 0) : a &&& b = wd (sg a && sg b) 0 := by
  rw [← wd_self ha, ← wd_self hb, h1, h2, sg_wd (by decide), sg_wd (by decide)]
  cases sg a <;> cases sg b <;> decide
theorem add_zero {a b : Nat} (ha : a < 18446744073709551616) (hb : b < 18446744073709551616) (h1 : rg a = 0) (h2 : rg b = 0) : fop (double.add a b) = a &&& b := by
  rw [and_zero ha hb h1 h2]
  have e : double.add a b = some (wd (sg a && sg b) 0) := by
    unfold Format.add
    rw [read_fin (a := a) (by rw [h1]; decide), read_fin (a := b) (by rw [h2]; decide), h1, h2]
    show some (double.write (.number _ _ _)) = _
    have z : ∀ s k, signed s (mg 0) k = 0 := fun s k => by
      rw [signed_eq, show mg 0 = 0 from rfl, Nat.zero_mul]; cases s <;> rfl
    simp only [z]
    show some (double.write (.number (sg a && sg b) 0 _)) = _
    rw [write_zero']
  rw [e, fop_wd (Nat.zero_le _)]

theorem mul_edge {a b : Nat} (h : rg a = I ∧ rg b = 0 ∨ rg a = 0 ∧ rg b = I) : double.mul a b = none := by
  have key : ∀ a b : Nat, rg a = I → rg b = 0 → double.mul a b = none := fun a b h1 h2 => by
    unfold Format.mul
    rw [read_inf h1, read_fin (a := b) (by rw [h2]; decide), h2]
    rfl
  rcases h with ⟨h1, h2⟩ | ⟨h1, h2⟩
  · exact key a b h1 h2
  · rw [mul_comm]; exact key b a h2 h1
theorem mul_inf {a b : Nat} (h : rg a = I ∧ rg b ≠ 0 ∧ rg b ≤ I ∨ rg b = I ∧ rg a ≠ 0 ∧ rg a ≤ I) : fop (double.mul a b) = wd (sg a ^^ sg b) I := by
  have key : ∀ a b : Nat, rg a = I → rg b ≠ 0 → rg b ≤ I → double.mul a b = some (wd (sg a ^^ sg b) I) := fun a b h1 h2 h3 => by
    unfold Format.mul
    rw [read_inf h1]
    by_cases h4 : rg b = I
    · rw [read_inf h4]
      show some (double.write (.infinity _)) = _
      rw [write_inf']
    · rw [read_fin (a := b) (by omega)]
      show Option.map _ (if mg (rg b) = 0 then _ else _) = _
      rw [if_neg (by rw [mg_zero]; exact h2)]
      show some (double.write (.infinity _)) = _
      rw [write_inf']
  rcases h with ⟨h1, h2, h3⟩ | ⟨h1, h2, h3⟩
  · rw [key a b h1 h2 h3, fop_wd (Nat.le_refl _)]
  · rw [mul_comm, key b a h1 h2 h3, fop_wd (Nat.le_refl _), Bool.xor_comm]
theorem mul_zero {a b : Nat} (h : rg a = 0 ∧ rg b < I ∨ rg b = 0 ∧ rg a < I) : fop (double.mul a b) = wd (sg a ^^ sg b) 0 := by
  have key : ∀ a b : Nat, rg a = 0 → rg b < I → double.mul a b = some (wd (sg a ^^ sg b) 0) := fun a b h1 h2 => by
    unfold Format.mul
    rw [read_fin (a := a) (by rw [h1]; decide), read_fin h2, h1]
    show some (double.write (.number _ (mg 0 * _) _)) = _
    rw [show mg 0 = 0 from rfl, Nat.zero_mul, write_zero']
  rcases h with ⟨h1, h2⟩ | ⟨h1, h2⟩
  · rw [key a b h1 h2, fop_wd (Nat.zero_le _)]
  · rw [mul_comm, key b a h1 h2, fop_wd (Nat.zero_le _), Bool.xor_comm]

theorem div_edge {a b : Nat} (h : rg a = I ∧ rg b = I ∨ rg a = 0 ∧ rg b = 0) : double.div a b = none := by
  unfold Format.div
  rcases h with ⟨h1, h2⟩ | ⟨h1, h2⟩
  · rw [read_inf h1, read_inf h2]; rfl
  · rw [read_fin (a := a) (by rw [h1]; decide), read_fin (a := b) (by rw [h2]; decide), h1, h2]; rfl
theorem div_inf {a b : Nat} (h : rg a = I ∧ rg b < I ∨ rg b = 0 ∧ rg a ≠ 0 ∧ rg a < I) : fop (double.div a b) = wd (sg a ^^ sg b) I := by
  have e : double.div a b = some (wd (sg a ^^ sg b) I) := by
    unfold Format.div
    rcases h with ⟨h1, h2⟩ | ⟨h1, h2, h3⟩
    · rw [read_inf h1, read_fin h2]
      show some (double.write (.infinity _)) = _
      rw [write_inf']
    · rw [read_fin h3, read_fin (a := b) (by rw [h1]; decide), h1]
      unfold Datum.quotient
      dsimp only
      rw [if_pos (by rfl), if_neg (by rw [mg_zero]; exact h2)]
      show some (double.write (.infinity _)) = _
      rw [write_inf']
  rw [e, fop_wd (Nat.le_refl _)]
theorem div_zero {a b : Nat} (h : rg a = 0 ∧ rg b ≠ 0 ∧ rg b ≤ I ∨ rg b = I ∧ rg a < I) : fop (double.div a b) = wd (sg a ^^ sg b) 0 := by
  have k1 : rg b = I → rg a < I → double.div a b = some (wd (sg a ^^ sg b) 0) := fun h1 h2 => by
    unfold Format.div
    rw [read_fin h2, read_inf h1]
    show some (double.write (.number _ 0 _)) = _
    rw [write_zero']
  have e : double.div a b = some (wd (sg a ^^ sg b) 0) := by
    rcases h with ⟨h1, h2, h3⟩ | ⟨h1, h2⟩
    · by_cases h4 : rg b = I
      · exact k1 h4 (by rw [h1]; decide)
      · unfold Format.div
        rw [read_fin (a := a) (by rw [h1]; decide), read_fin (a := b) (by omega), h1]
        show Option.map _ (if mg (rg b) = 0 then _ else _) = _
        rw [if_neg (by rw [mg_zero]; exact h2), show mg 0 = 0 from rfl]
        simp only [Nat.zero_shiftLeft, Nat.zero_div, Nat.zero_mod]
        show some (double.write (.number _ 0 _)) = _
        rw [write_zero']
    · exact k1 h1 h2
  rw [e, fop_wd (Nat.zero_le _)]

/-! ### The contrary of a difference -/
def fneg (a : Nat) : Nat := plainN (flip a)
theorem plain_lt {a : Nat} (h : a < 18446744073709551616) : plainN a < 18446744073709551616 := by
  unfold plainN; split
  · decide
  · exact h
theorem fneg_fneg {a : Nat} (h : a < 18446744073709551616) : fneg (fneg a) = plainN a := by
  unfold fneg plainN
  rw [rg_flip h]
  by_cases h1 : I < rg a
  · rw [if_pos h1, if_pos h1, if_pos (by decide)]
  · rw [if_neg h1, if_neg h1, rg_flip (flip_lt h), rg_flip h, if_neg h1, flip_flip h]
theorem wd_lt {s : Bool} {r : Nat} (h : r < W) : wd s r < 18446744073709551616 := by
  unfold wd; rw [W_eq] at *; split <;> omega
theorem flip_wd {s : Bool} {r : Nat} (h : r < W) : flip (wd s r) = wd (!s) r := by
  rw [flip_eq (wd_lt h), sg_wd h, rg_wd h]
  cases s <;> rfl
theorem row_wd {s : Bool} {r : Nat} (h : r < W) : row (wd s r) = sn s r := by
  unfold row; rw [sg_wd h, rg_wd h]
theorem fop_lt {r : Option Nat} (h : ∀ x, r = some x → x < 18446744073709551616) : fop r < 18446744073709551616 := by
  cases r with
  | none => decide
  | some x => exact plain_lt (h x rfl)

/-- Same, or none is one. -/
def Alike (x y : Nat) : Prop := (rg x ≤ I ∧ rg y ≤ I ∧ row x = row y) ∨ x = nanN ∧ y = nanN
theorem alike_wd {s t : Bool} {r : Nat} (hr : r ≤ I) (h : r = 0 ∨ t = !s) : Alike (fneg (fop (some (wd s r)))) (fop (some (wd t r))) := by
  have hw : r < W := by rw [I_eq] at hr; rw [W_eq]; omega
  left
  have e : fneg (wd s r) = wd (!s) r := by
    unfold fneg plainN
    rw [flip_wd hw, rg_wd hw, if_neg (by omega)]
  rw [fop_wd hr, fop_wd hr, e, rg_wd hw, rg_wd hw, row_wd hw, row_wd hw]
  refine ⟨hr, hr, ?_⟩
  rcases h with h | h
  · subst h; cases s <;> cases t <;> rfl
  · rw [h]
theorem alike_none : Alike (fneg (fop none)) (fop none) := by
  right; exact ⟨by decide, rfl⟩
theorem signed_neg (s : Bool) (m k : Nat) : signed (!s) m k = -signed s m k := by
  rw [signed_eq, signed_eq]; cases s <;> simp [sn]
theorem sub_turn (a b : Nat) : Alike (fneg (fop (double.sub a b))) (fop (double.sub b a)) := by
  unfold Format.sub
  generalize double.read a = d
  generalize double.read b = e
  cases d with
  | nan s t => cases e <;> exact alike_none
  | infinity s =>
    cases e with
    | nan => exact alike_none
    | number t n j =>
      show Alike (fneg (fop (some (double.write (.infinity s))))) (fop (some (double.write (.infinity (!s)))))
      rw [write_inf', write_inf']
      exact alike_wd (Nat.le_refl _) (.inr rfl)
    | infinity t =>
      show Alike (fneg (fop (Option.map _ (if s = !t then _ else _)))) (fop (Option.map _ (if t = !s then _ else _)))
      cases s <;> cases t
      · exact alike_none
      · show Alike (fneg (fop (some (double.write (.infinity false))))) (fop (some (double.write (.infinity true))))
        rw [write_inf', write_inf']
        exact alike_wd (Nat.le_refl _) (.inr rfl)
      · show Alike (fneg (fop (some (double.write (.infinity true))))) (fop (some (double.write (.infinity false))))
        rw [write_inf', write_inf']
        exact alike_wd (Nat.le_refl _) (.inr rfl)
      · exact alike_none
  | number s m i =>
    cases e with
    | nan => exact alike_none
    | infinity t =>
      show Alike (fneg (fop (some (double.write (.infinity (!t)))))) (fop (some (double.write (.infinity t))))
      rw [write_inf', write_inf']
      exact alike_wd (Nat.le_refl _) (.inr (by simp))
    | number t n j =>
      show Alike (fneg (fop (some (double.write (.number _ _ _))))) (fop (some (double.write (.number _ _ _))))
      rw [Int.min_comm j i]
      rw [signed_neg, signed_neg]
      generalize min i j = base
      generalize signed s m (i - base).toNat = x
      generalize signed t n (j - base).toNat = y
      have e1 : (x + -y).natAbs = (y + -x).natAbs := by omega
      rw [e1]
      obtain ⟨r, h1, h2, h3⟩ := near_sign (y + -x).natAbs base
      show Alike (fneg (fop (some (double.nearest _ _ _)))) (fop (some (double.nearest _ _ _)))
      rw [h3, h3]
      refine alike_wd h1 ?_
      by_cases h : x = y
      · left; exact h2 (by omega)
      · right
        rw [if_neg (by omega), if_neg (by omega)]
        by_cases hl : x < y
        · simp [show x + -y < 0 from by omega, show ¬ (y + -x < 0) from by omega]
        · simp [show ¬ (x + -y < 0) from by omega, show y + -x < 0 from by omega]
end Go.Proofs.YtledjocmihcfnaaDoor.Fl

/- Floats by their bits: reading a word, its order, its sign; plain mathematics. -/
import Ieee.Arith
namespace Go.Proofs.YtledjocmihcfnaaDoor.Fl
open Ieee

/-- 2 ^ 63, 2 ^ 52, the rung of infinity. -/
def W : Nat := 9223372036854775808
def B : Nat := 4503599627370496
def I : Nat := 9218868437227405312
theorem W_eq : W = 9223372036854775808 := rfl
theorem B_eq : B = 4503599627370496 := rfl
theorem I_eq : I = 9218868437227405312 := rfl
theorem sw_eq : double.signWeight = W := by decide
theorem bi_eq : double.binade = B := by decide
theorem ir_eq : double.infRung = I := by decide

/-- The sign and the rung of a word. -/
def sg (a : Nat) : Bool := a / W % 2 == 1
def rg (a : Nat) : Nat := a % W
/-- The digits of a finite rung, and how far its place is from the least. -/
def mg (r : Nat) : Nat := if r < B then r else B + r % B
def pl (r : Nat) : Nat := r / B - 1

theorem read_fin {a : Nat} (h : rg a < I) : double.read a = .number (sg a) (mg (rg a)) (double.leastPlace + (pl (rg a) : Nat)) := by
  unfold Format.read
  rw [sw_eq, bi_eq, ir_eq]
  show (if rg a < B then _ else _) = _
  unfold mg pl
  by_cases hb : rg a < B
  · rw [if_pos hb, if_pos hb, Nat.div_eq_of_lt hb]
    simp [sg]
    rfl
  · rw [if_neg hb, if_neg hb]
    show (if rg a < I then _ else _) = _
    rw [if_pos h]
    rfl
theorem read_inf {a : Nat} (h : rg a = I) : double.read a = .infinity (sg a) := by
  unfold Format.read
  rw [sw_eq, bi_eq, ir_eq]
  show (if rg a < B then _ else if rg a < I then _ else if rg a = I then _ else _) = _
  rw [if_neg (by rw [h]; decide), if_neg (by omega), if_pos h]
  rfl
theorem read_nan {a : Nat} (h : I < rg a) : double.read a = .nan (sg a) (rg a - I) := by
  unfold Format.read
  rw [sw_eq, bi_eq, ir_eq]
  show (if rg a < B then _ else if rg a < I then _ else if rg a = I then _ else _) = _
  rw [if_neg (by rw [B_eq]; rw [I_eq] at h; omega), if_neg (by omega), if_neg (by omega)]
  rfl

/-- A finite rung's magnitude, in units of the least place. -/
def val (r : Nat) : Nat := mg r * 2 ^ pl r
theorem val_low {r : Nat} (h : r / B ≤ 1) : val r = r := by
  unfold val mg pl
  rw [show r / B - 1 = 0 from by omega, Nat.pow_zero, Nat.mul_one]
  split
  · rfl
  · rename_i hb
    rw [B_eq] at *
    omega
theorem val_high {r : Nat} (h : 1 ≤ r / B) : val r = (B + r % B) * 2 ^ (r / B - 1) := by
  unfold val mg pl
  rw [if_neg (by rw [B_eq] at *; omega)]
theorem mod_lt (r : Nat) : r % B < B := Nat.mod_lt _ (by decide)
theorem val_lt {r s : Nat} (h : r < s) : val r < val s := by
  have hq : r / B ≤ s / B := Nat.div_le_div_right (Nat.le_of_lt h)
  by_cases h1 : s / B ≤ 1
  · rw [val_low h1, val_low (Nat.le_trans hq h1)]; exact h
  · rw [val_high (r := s) (by omega)]
    by_cases h0 : r / B ≤ 1
    · rw [val_low h0]
      have h2 : 2 ^ 1 ≤ 2 ^ (s / B - 1) := Nat.pow_le_pow_right (by decide) (by omega)
      have h3 : B * 2 ≤ (B + s % B) * 2 ^ (s / B - 1) := Nat.mul_le_mul (by omega) (by omega)
      have : r < B * 2 := by rw [B_eq] at *; omega
      omega
    · rw [val_high (r := r) (by omega)]
      rcases Nat.lt_or_eq_of_le hq with h2 | h2
      · have h3 : 2 ^ (r / B - 1) * 2 ≤ 2 ^ (s / B - 1) := by rw [← Nat.pow_succ]; exact Nat.pow_le_pow_right (by decide) (by omega)
        have h4 := mod_lt r
        have h5 : B * (2 ^ (r / B - 1) * 2) ≤ (B + s % B) * 2 ^ (s / B - 1) := Nat.mul_le_mul (by omega) h3
        have h6 : (B + r % B) * 2 ^ (r / B - 1) < (B * 2) * 2 ^ (r / B - 1) := Nat.mul_lt_mul_of_pos_right (by omega) (Nat.two_pow_pos _)
        have h7 : B * (2 ^ (r / B - 1) * 2) = (B * 2) * 2 ^ (r / B - 1) := by rw [Nat.mul_comm (2 ^ _) 2, Nat.mul_assoc]
        omega
      · rw [h2]
        refine Nat.mul_lt_mul_of_pos_right ?_ (Nat.two_pow_pos _)
        rw [B_eq] at *
        omega
theorem val_le {r s : Nat} (h : r ≤ s) : val r ≤ val s := by
  rcases Nat.lt_or_eq_of_le h with h | h
  · exact Nat.le_of_lt (val_lt h)
  · rw [h]; exact Nat.le_refl _

/-- A number with its sign. -/
def sn (s : Bool) (n : Nat) : Int := if s then -(n : Int) else n
/-- Where a word stands among all. -/
def row (a : Nat) : Int := sn (sg a) (rg a)

theorem cmp_of {a b c d : Int} (h1 : a < b ↔ c < d) (h2 : a = b ↔ c = d) : compare a b = compare c d := by
  simp only [compare, compareOfLessAndEq, h1, h2]
theorem signed_eq (s : Bool) (m k : Nat) : signed s m k = sn s (m * 2 ^ k) := by
  unfold signed sn
  rw [Nat.shiftLeft_eq]
theorem sn_mul (s : Bool) (m k : Nat) : sn s (m * k) = sn s m * k := by
  unfold sn; split
  · rw [Int.natCast_mul, Int.neg_mul]
  · rw [Int.natCast_mul]
theorem sn_lt {s t : Bool} {m n : Nat} : sn s (val m) < sn t (val n) ↔ sn s m < sn t n := by
  have h0 : val 0 = 0 := rfl
  have l1 : m < n → val m < val n := val_lt
  have l2 : n < m → val n < val m := val_lt
  have l3 : m = n → val m = val n := fun h => by rw [h]
  have p1 : 0 < m → val 0 < val m := val_lt
  have p2 : 0 < n → val 0 < val n := val_lt
  have p3 : m = 0 → val m = 0 := fun h => by rw [h, h0]
  have p4 : n = 0 → val n = 0 := fun h => by rw [h, h0]
  unfold sn
  cases s <;> cases t <;> simp <;> omega
theorem sn_eq {s t : Bool} {m n : Nat} : sn s (val m) = sn t (val n) ↔ sn s m = sn t n := by
  have a := @sn_lt s t m n
  have b := @sn_lt t s n m
  omega

/-- The order of two finite words. -/
theorem order_fin {a b : Nat} (ha : rg a < I) (hb : rg b < I) : double.order a b = some (compare (row a) (row b)) := by
  unfold Format.order
  rw [read_fin ha, read_fin hb]
  show some (compare (signed _ _ _) (signed _ _ _)) = _
  congr 1
  have e1 : (double.leastPlace + (pl (rg a) : Nat) - min (double.leastPlace + (pl (rg a) : Nat)) (double.leastPlace + (pl (rg b) : Nat))).toNat = pl (rg a) - min (pl (rg a)) (pl (rg b)) := by omega
  have e2 : (double.leastPlace + (pl (rg b) : Nat) - min (double.leastPlace + (pl (rg a) : Nat)) (double.leastPlace + (pl (rg b) : Nat))).toNat = pl (rg b) - min (pl (rg a)) (pl (rg b)) := by omega
  rw [e1, e2, signed_eq, signed_eq]
  have hp : (0 : Int) < ((2 ^ min (pl (rg a)) (pl (rg b)) : Nat) : Int) := by exact_mod_cast Nat.two_pow_pos _
  have v1 : sn (sg a) (val (rg a)) = sn (sg a) (mg (rg a) * 2 ^ (pl (rg a) - min (pl (rg a)) (pl (rg b)))) * ((2 ^ min (pl (rg a)) (pl (rg b)) : Nat) : Int) := by
    rw [← sn_mul, Nat.mul_assoc, ← Nat.pow_add, show pl (rg a) - min (pl (rg a)) (pl (rg b)) + min (pl (rg a)) (pl (rg b)) = pl (rg a) from by omega]; rfl
  have v2 : sn (sg b) (val (rg b)) = sn (sg b) (mg (rg b) * 2 ^ (pl (rg b) - min (pl (rg a)) (pl (rg b)))) * ((2 ^ min (pl (rg a)) (pl (rg b)) : Nat) : Int) := by
    rw [← sn_mul, Nat.mul_assoc, ← Nat.pow_add, show pl (rg b) - min (pl (rg a)) (pl (rg b)) + min (pl (rg a)) (pl (rg b)) = pl (rg b) from by omega]; rfl
  have l := @sn_lt (sg a) (sg b) (rg a) (rg b)
  have q := @sn_eq (sg a) (sg b) (rg a) (rg b)
  rw [v1, v2] at l q
  refine cmp_of ?_ ?_
  · rw [← Int.mul_lt_mul_right hp]; exact l
  · rw [← Int.mul_eq_mul_right_iff (Int.ne_of_gt hp)]; exact q

theorem rg_lt (a : Nat) : rg a < W := Nat.mod_lt _ (by decide)
theorem order_nan {a b : Nat} (h : I < rg a ∨ I < rg b) : double.order a b = none := by
  unfold Format.order
  rcases h with h | h
  · rw [read_nan h]; rfl
  · rw [read_nan h]; cases double.read a <;> rfl
/-- The order of two words neither of which is no number. -/
theorem order_eq {a b : Nat} (ha : rg a ≤ I) (hb : rg b ≤ I) : double.order a b = some (compare (row a) (row b)) := by
  by_cases h1 : rg a < I
  · by_cases h2 : rg b < I
    · exact order_fin h1 h2
    · have h2 : rg b = I := by omega
      unfold Format.order
      rw [read_fin h1, read_inf h2]
      show some (if sg b then _ else _) = _
      congr 1
      unfold row sn
      rw [h2]
      cases sg b
      · refine Eq.symm ?_
        show compare _ ((I : Nat) : Int) = _
        simp only [compare, compareOfLessAndEq]
        rw [if_pos (by split <;> omega)]
        rfl
      · refine Eq.symm ?_
        show compare _ (-((I : Nat) : Int)) = _
        simp only [compare, compareOfLessAndEq]
        rw [if_neg (by split <;> omega), if_neg (by split <;> omega)]
        rfl
  · have h1 : rg a = I := by omega
    by_cases h2 : rg b < I
    · unfold Format.order
      rw [read_fin h2, read_inf h1]
      show some (if sg a then _ else _) = _
      congr 1
      unfold row sn
      rw [h1]
      cases sg a
      · refine Eq.symm ?_
        show compare ((I : Nat) : Int) _ = _
        simp only [compare, compareOfLessAndEq]
        rw [if_neg (by split <;> omega), if_neg (by split <;> omega)]
        rfl
      · refine Eq.symm ?_
        show compare (-((I : Nat) : Int)) _ = _
        simp only [compare, compareOfLessAndEq]
        rw [if_pos (by split <;> omega)]
        rfl
    · have h2 : rg b = I := by omega
      unfold Format.order
      rw [read_inf h1, read_inf h2]
      show some (compare _ _) = _
      congr 1
      unfold row sn
      rw [h1, h2]
      cases sg a <;> cases sg b <;> decide

theorem order_lt (a b : Nat) : (double.order a b == some .lt) = decide (rg a ≤ I ∧ rg b ≤ I ∧ row a < row b) := by
  by_cases h : rg a ≤ I ∧ rg b ≤ I
  · rw [order_eq h.1 h.2]
    by_cases hl : row a < row b
    · simp [compare, compareOfLessAndEq, hl, h.1, h.2]
    · simp [compare, compareOfLessAndEq, hl, h.1, h.2]
      split <;> simp
  · rw [order_nan (by omega)]
    simp
    omega
theorem order_eql (a b : Nat) : (double.order a b == some .eq) = decide (rg a ≤ I ∧ rg b ≤ I ∧ row a = row b) := by
  by_cases h : rg a ≤ I ∧ rg b ≤ I
  · rw [order_eq h.1 h.2]
    by_cases hl : row a = row b
    · simp [compare, compareOfLessAndEq, hl, h.1, h.2]
    · simp [compare, compareOfLessAndEq, hl, h.1, h.2]
      split <;> simp
  · rw [order_nan (by omega)]
    simp
    omega
theorem order_gt (a b : Nat) : (double.order a b == some .gt) = decide (rg a ≤ I ∧ rg b ≤ I ∧ row b < row a) := by
  by_cases h : rg a ≤ I ∧ rg b ≤ I
  · rw [order_eq h.1 h.2]
    by_cases hl : row b < row a
    · simp [compare, compareOfLessAndEq, hl, h.1, h.2, show ¬ row a < row b from by omega, show ¬ row a = row b from by omega]
    · by_cases he : row a = row b
      · simp [compare, compareOfLessAndEq, he, h.1, h.2]
      · simp [compare, compareOfLessAndEq, h.1, h.2, show row a < row b from by omega]
        omega
  · rw [order_nan (by omega)]
    simp
    omega
theorem nan_test (a : Nat) : (double.order a a != some .eq) = decide (I < rg a) := by
  have h := order_eql a a
  rw [bne, h]
  by_cases hl : rg a ≤ I
  · simp [hl]
  · simp [hl]; omega

/-! ### The other sign -/
def flip (a : Nat) : Nat := if sg a then a - W else a + W
theorem sg_true {a : Nat} (h : a < 18446744073709551616) : sg a = true ↔ W ≤ a := by
  unfold sg; rw [W_eq]; simp; omega
theorem sg_false {a : Nat} (h : a < 18446744073709551616) : sg a = false ↔ a < W := by
  unfold sg; rw [W_eq]; simp; omega
theorem split {a : Nat} (h : a < 18446744073709551616) : a = (if sg a then W else 0) + rg a := by
  unfold rg sg; rw [W_eq]; split <;> simp at * <;> omega
theorem sg_low {r : Nat} (h : r < W) : sg r = false := by unfold sg; rw [Nat.div_eq_of_lt h]; rfl
theorem sg_high {r : Nat} (h : r < W) : sg (W + r) = true := by unfold sg; rw [W_eq] at *; simp; omega
theorem rg_low {r : Nat} (h : r < W) : rg r = r := Nat.mod_eq_of_lt h
theorem rg_high {r : Nat} (h : r < W) : rg (W + r) = r := by unfold rg; rw [Nat.add_mod_left]; exact Nat.mod_eq_of_lt h
theorem flip_eq {a : Nat} (h : a < 18446744073709551616) : flip a = (if sg a then 0 else W) + rg a := by
  have := split h
  unfold flip
  cases e : sg a
  · rw [e, if_neg (by decide)] at this; rw [if_neg (by decide), if_neg (by decide)]; omega
  · rw [e, if_pos rfl] at this; rw [if_pos rfl, if_pos rfl]; omega
theorem flip_lt {a : Nat} (h : a < 18446744073709551616) : flip a < 18446744073709551616 := by
  have := rg_lt a
  rw [flip_eq h]
  rw [W_eq] at *
  split <;> omega
theorem sg_flip {a : Nat} (h : a < 18446744073709551616) : sg (flip a) = !sg a := by
  have := rg_lt a
  rw [flip_eq h]
  split <;> rename_i e
  · rw [e, Nat.zero_add, sg_low this]; rfl
  · rw [sg_high this]; simp [e]
theorem rg_flip {a : Nat} (h : a < 18446744073709551616) : rg (flip a) = rg a := by
  have := rg_lt a
  rw [flip_eq h]
  split <;> rename_i e
  · rw [Nat.zero_add, rg_low this]
  · rw [rg_high this]
theorem flip_flip {a : Nat} (h : a < 18446744073709551616) : flip (flip a) = a := by
  rw [flip_eq (flip_lt h), sg_flip h, rg_flip h]
  have := split h
  cases e : sg a <;> simp [e] at this ⊢ <;> omega
theorem xor_flip {a : Nat} (h : a < 18446744073709551616) : a ^^^ 9223372036854775808 = flip a := by
  have h1 : (a ^^^ 9223372036854775808) % 2 ^ 63 = a % 2 ^ 63 := by
    rw [Nat.xor_mod_two_pow, show 9223372036854775808 % 2 ^ 63 = 0 from by decide, Nat.xor_zero]
  have h2 : (a ^^^ 9223372036854775808) / 2 ^ 63 = (a / 2 ^ 63) ^^^ 1 := by
    rw [← Nat.shiftRight_eq_div_pow, Nat.shiftRight_xor_distrib, Nat.shiftRight_eq_div_pow, Nat.shiftRight_eq_div_pow]
  have h3 : a / 2 ^ 63 = 0 ∨ a / 2 ^ 63 = 1 := by omega
  rw [flip_eq h]
  unfold rg sg
  rw [W_eq]
  rcases h3 with h3 | h3
  · rw [h3, show 0 ^^^ 1 = 1 from rfl] at h2
    have : a / 9223372036854775808 = 0 := h3
    simp [this]
    omega
  · rw [h3, show 1 ^^^ 1 = 0 from rfl] at h2
    have : a / 9223372036854775808 = 1 := h3
    simp [this]
    omega
theorem read_flip {a : Nat} (h : a < 18446744073709551616) : double.read (flip a) = (double.read a).opposite := by
  by_cases h1 : rg a < I
  · rw [read_fin h1, read_fin (by rw [rg_flip h]; exact h1), rg_flip h, sg_flip h]; rfl
  · by_cases h2 : rg a = I
    · rw [read_inf h2, read_inf (by rw [rg_flip h]; exact h2), sg_flip h]; rfl
    · have h3 : I < rg a := by omega
      rw [read_nan h3, read_nan (a := flip a) (by rw [rg_flip h]; exact h3), rg_flip h, sg_flip h]; rfl

/-! ### Kinds -/
def kindN (a : Nat) : Int :=
  if I < rg a then 0 else if rg a = I then (if sg a then 1 else 6) else if rg a = 0 then (if sg a then 3 else 4) else if sg a then 2 else 5
def nanN : Nat := 9221120237041090561
def plainN (a : Nat) : Nat := if I < rg a then nanN else a
def fop (r : Option Nat) : Nat := match r with | none => nanN | some r => plainN r
theorem nan_rg : I < rg nanN := by decide
theorem row_zero : row 0 = 0 := by decide
theorem row_pos {a : Nat} (h : sg a = false) : row a = rg a := by unfold row sn; rw [h]; rfl
theorem row_neg {a : Nat} (h : sg a = true) : row a = -(rg a : Int) := by unfold row sn; rw [h]; rfl

/-! ### Writing -/
theorem word_eq (s : Bool) (r : Nat) : double.word s r = (if s then W else 0) + r := by
  unfold Format.word; rw [sw_eq]; split <;> simp
theorem near_sign (m : Nat) (p : Int) : ∃ r, r ≤ I ∧ (m = 0 → r = 0) ∧ ∀ s, double.nearest s m p = (if s then W else 0) + r := by
  by_cases h : m = 0
  · exact ⟨0, by decide, fun _ => rfl, fun s => by unfold Format.nearest; rw [if_pos h, word_eq]⟩
  · refine ⟨min ((max (p + m.log2 - double.fractionBits) double.leastPlace - double.leastPlace).toNat * double.binade + Toward.even.cut true (m <<< (p - max (p + m.log2 - double.fractionBits) double.leastPlace).toNat) (max (p + m.log2 - double.fractionBits) double.leastPlace - p).toNat) double.infRung, by rw [ir_eq]; exact Nat.min_le_right _ _, fun h' => absurd h' h, fun s => ?_⟩
    unfold Format.nearest
    rw [if_neg h, word_eq]
    rfl
theorem write_inf (s : Bool) : double.write (.infinity s) = (if s then W else 0) + I := by
  show double.word s double.infRung = _
  rw [word_eq, ir_eq]
theorem write_zero (s : Bool) (p : Int) : double.write (.number s 0 p) = if s then W else 0 := by
  show double.nearest s 0 p = _
  unfold Format.nearest
  rw [if_pos rfl, word_eq]; rfl
theorem inf_word {a : Nat} (h : a < 18446744073709551616) (hr : rg a = I) : double.write (.infinity (sg a)) = a := by
  rw [write_inf, ← hr]; exact (split h).symm
theorem fop_plain {r : Nat} (h : rg r ≤ I) : fop (some r) = r := by
  show plainN r = r
  unfold plainN; rw [if_neg (by omega)]
theorem rg_write {d : Datum} (h : d.isNaN = false) : rg (double.write d) ≤ I := by
  cases d with
  | number s m p =>
    obtain ⟨r, h1, _, h3⟩ := near_sign m p
    show rg (double.nearest s m p) ≤ I
    rw [h3]
    have : r < W := by rw [I_eq] at h1; rw [W_eq]; omega
    split
    · rw [rg_high this]; exact h1
    · rw [Nat.zero_add, rg_low this]; exact h1
  | infinity s =>
    rw [write_inf]
    have : I < W := by decide
    split
    · rw [rg_high this]; exact Nat.le_refl _
    · rw [Nat.zero_add, rg_low this]; exact Nat.le_refl _
  | nan s t => cases h
end Go.Proofs.YtledjocmihcfnaaDoor.Fl

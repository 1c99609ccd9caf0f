/- The walks of layer 2's calls on whole numbers: differences, products and quotients. -/
import Derived.Test.YtledjocmihcfnaaDoorNumC
namespace Go.Proofs.YtledjocmihcfnaaDoor
open Go.RowKit

theorem rsub_any (a b : Int) (w : World) (a1 : -9223372036854775808 ≤ a) (a2 : a ≤ 9223372036854775807) (b1 : -9223372036854775808 ≤ b) (b2 : b ≤ 9223372036854775807) :
    Calls Tryd.prog 14 #[.int .i64 a, .int .i64 b] w fun e w' => e = .returned (.tuple #[.int .i64 (fit (a - b)).1, .bool (fit (a - b)).2]) ∧ w = w' := by
  by_cases ha : 0 ≤ a <;> by_cases hb : 0 ≤ b
  · by_cases hc : b ≤ a
    · go_enter Tryd.func14, Tryd.ntmps14
      go_wp2_with fail
      refine (half_pos a _ (by omega) (by omega)).mono ?_
      rintro e w' ⟨rfl, rfl⟩
      go_wp2_with fail
      refine (half_pos b _ (by omega) (by omega)).mono ?_
      rintro e w' ⟨rfl, rfl⟩
      go_wp2_with fail
      refine (made_pos _ _ (by omega) (by omega)).mono ?_
      rintro e w' ⟨rfl, rfl⟩
      go_wp2
      go_ret2
      refine ⟨vfit ?_, rfl⟩; (try congr 1); try omega
    · go_enter Tryd.func14, Tryd.ntmps14
      go_wp2_with fail
      refine (half_pos a _ (by omega) (by omega)).mono ?_
      rintro e w' ⟨rfl, rfl⟩
      go_wp2_with fail
      refine (half_pos b _ (by omega) (by omega)).mono ?_
      rintro e w' ⟨rfl, rfl⟩
      go_wp2_with fail
      refine (made_neg _ _ (by omega) (by omega)).mono ?_
      rintro e w' ⟨rfl, rfl⟩
      go_wp2
      go_ret2
      refine ⟨vfit ?_, rfl⟩; (try congr 1); try omega
  · by_cases hc : a ≤ 9223372036854775808 + b
    · have hg : ((-b == 9223372036854775808) && decide (0 < a)) = false := by
        by_cases hx : b = -9223372036854775808 <;> simp <;> omega
      by_cases hx : b = -9223372036854775808
      · subst hx
        obtain rfl : a = 0 := by omega
        go_enter Tryd.func14, Tryd.ntmps14
        go_wp2_with fail
        refine (half_pos 0 _ (by omega) (by omega)).mono ?_
        rintro e w' ⟨rfl, rfl⟩
        go_wp2_with fail
        refine (half_neg (-9223372036854775808) _ (by omega) (by omega)).mono ?_
        rintro e w' ⟨rfl, rfl⟩
        go_wp2_with fail
        refine (made_pos _ _ (by omega) (by omega)).mono ?_
        rintro e w' ⟨rfl, rfl⟩
        go_wp2
        go_ret2
        refine ⟨vfit ?_, rfl⟩; (try congr 1); try omega
      · clear hg
        have hy : (-b == 9223372036854775808) = false := by simp; omega
        go_enter Tryd.func14, Tryd.ntmps14
        go_wp2_with fail
        refine (half_pos a _ (by omega) (by omega)).mono ?_
        rintro e w' ⟨rfl, rfl⟩
        go_wp2_with fail
        refine (half_neg b _ (by omega) (by omega)).mono ?_
        rintro e w' ⟨rfl, rfl⟩
        go_wp2_with fail
        refine (made_pos _ _ (by omega) (by omega)).mono ?_
        rintro e w' ⟨rfl, rfl⟩
        go_wp2
        go_ret2
        refine ⟨vfit ?_, rfl⟩; (try congr 1); try omega
    · go_enter Tryd.func14, Tryd.ntmps14
      go_wp2_with fail
      refine (half_pos a _ (by omega) (by omega)).mono ?_
      rintro e w' ⟨rfl, rfl⟩
      go_wp2_with fail
      refine (half_neg b _ (by omega) (by omega)).mono ?_
      rintro e w' ⟨rfl, rfl⟩
      go_wp2
      go_ret2
      refine ⟨vfit (c := (0, false)) (fit_eq0 ?_), rfl⟩; omega
  · by_cases hc : -a ≤ 9223372036854775808 - b
    · have hy : (b == 9223372036854775808) = false := by simp; omega
      go_enter Tryd.func14, Tryd.ntmps14
      go_wp2_with fail
      refine (half_neg a _ (by omega) (by omega)).mono ?_
      rintro e w' ⟨rfl, rfl⟩
      go_wp2_with fail
      refine (half_pos b _ (by omega) (by omega)).mono ?_
      rintro e w' ⟨rfl, rfl⟩
      go_wp2_with fail
      refine (made_neg _ _ (by omega) (by omega)).mono ?_
      rintro e w' ⟨rfl, rfl⟩
      go_wp2
      go_ret2
      refine ⟨vfit ?_, rfl⟩; (try congr 1); try omega
    · go_enter Tryd.func14, Tryd.ntmps14
      go_wp2_with fail
      refine (half_neg a _ (by omega) (by omega)).mono ?_
      rintro e w' ⟨rfl, rfl⟩
      go_wp2_with fail
      refine (half_pos b _ (by omega) (by omega)).mono ?_
      rintro e w' ⟨rfl, rfl⟩
      go_wp2
      go_ret2
      refine ⟨vfit (c := (0, false)) (fit_eq0 ?_), rfl⟩; omega
  · by_cases hc : b ≥ a
    · go_enter Tryd.func14, Tryd.ntmps14
      go_wp2_with fail
      refine (half_neg a _ (by omega) (by omega)).mono ?_
      rintro e w' ⟨rfl, rfl⟩
      go_wp2_with fail
      refine (half_neg b _ (by omega) (by omega)).mono ?_
      rintro e w' ⟨rfl, rfl⟩
      go_wp2_with fail
      refine (made_neg _ _ (by omega) (by omega)).mono ?_
      rintro e w' ⟨rfl, rfl⟩
      go_wp2
      go_ret2
      refine ⟨vfit ?_, rfl⟩; (try congr 1); try omega
    · go_enter Tryd.func14, Tryd.ntmps14
      go_wp2_with fail
      refine (half_neg a _ (by omega) (by omega)).mono ?_
      rintro e w' ⟨rfl, rfl⟩
      go_wp2_with fail
      refine (half_neg b _ (by omega) (by omega)).mono ?_
      rintro e w' ⟨rfl, rfl⟩
      go_wp2_with fail
      refine (made_pos _ _ (by omega) (by omega)).mono ?_
      rintro e w' ⟨rfl, rfl⟩
      go_wp2
      go_ret2
      refine ⟨vfit ?_, rfl⟩; (try congr 1); try omega

theorem nmul_any (a b : Int) (w : World) (a1 : -9223372036854775808 ≤ a) (a2 : a ≤ 9223372036854775807) (b1 : -9223372036854775808 ≤ b) (b2 : b ≤ 9223372036854775807) :
    Calls Tryd.prog 15 #[.int .i64 a, .int .i64 b] w fun e w' => e = .returned (.tuple #[.int .i64 (fit (a * b)).1, .bool (fit (a * b)).2]) ∧ w = w' := by
  by_cases ha : a = 0
  · subst ha
    go_enter Tryd.func15, Tryd.ntmps15
    go_wp2
    go_ret2
    exact ⟨vfit (c := (0, true)) (by rw [Int.zero_mul]; exact fit_eq1 rfl (by omega)), rfl⟩
  by_cases hb : b = 0
  · subst hb
    go_enter Tryd.func15, Tryd.ntmps15
    go_wp2
    go_ret2
    exact ⟨vfit (c := (0, true)) (by rw [Int.mul_zero]; exact fit_eq1 rfl (by omega)), rfl⟩
  have ha0 : (a == 0) = false := by simp; omega
  have hb0 : (b == 0) = false := by simp; omega
  by_cases h0 : -9223372036854775808 ≤ a * b ∧ a * b ≤ 9223372036854775807
  · obtain ⟨h1, h2⟩ := h0
    by_cases hm : b = -1
    · subst hm
      have : (a == -9223372036854775808) = false := by simp; omega
      go_enter Tryd.func15, Tryd.ntmps15
      go_wp2
      go_ret2
      refine ⟨vfit (c := (_, true)) (fit_eq1 ?_ ?_), rfl⟩ <;> omega
    · have : (b == -1) = false := by simp; omega
      go_enter Tryd.func15, Tryd.ntmps15
      go_wp2
      go_ret2
      refine ⟨vfit (c := (_, true)) (fit_eq1 ?_ ?_), rfl⟩ <;> omega
  · by_cases hm : b = -1
    · subst hm
      obtain rfl : a = -9223372036854775808 := by omega
      go_enter Tryd.func15, Tryd.ntmps15
      go_wp2
      go_ret2
      refine ⟨vfit (c := (0, false)) (fit_eq0 ?_), rfl⟩; omega
    · have : (b == -1) = false := by simp; omega
      have hd : (wrap64 ((wrap64 (a * b)).tdiv b) == a) = false := by rw [beq_eq_false_iff_ne]; exact mul_back a b b1 b2 hb hm h0
      go_enter Tryd.func15, Tryd.ntmps15
      go_wp2
      go_ret2
      refine ⟨vfit (c := (0, false)) (fit_eq0 ?_), rfl⟩; omega

theorem ndiv_zero (a : Int) (w : World) :
    Calls Tryd.prog 17 #[.int .i64 a, .int .i64 0] w fun e w' => e = .returned (.tuple #[.int .i64 0, .bool false]) ∧ w = w' := by
  go_enter Tryd.func17, Tryd.ntmps17
  go_wp2
  go_ret2
  exact ⟨rfl, rfl⟩

theorem rdiv_zero (a : Int) (w : World) (a1 : -9223372036854775808 ≤ a) (a2 : a ≤ 9223372036854775807) :
    Calls Tryd.prog 18 #[.int .i64 a, .int .i64 0] w fun e w' => e = .returned (.tuple #[.int .i64 0, .bool false]) ∧ w = w' := by
  by_cases ha : 0 ≤ a
  · go_enter Tryd.func18, Tryd.ntmps18
    go_wp2_with fail
    refine (half_pos a _ (by omega) (by omega)).mono ?_
    rintro e w' ⟨rfl, rfl⟩
    go_wp2_with fail
    refine (half_pos 0 _ (by omega) (by omega)).mono ?_
    rintro e w' ⟨rfl, rfl⟩
    go_wp2
    go_ret2
    exact ⟨rfl, rfl⟩
  · go_enter Tryd.func18, Tryd.ntmps18
    go_wp2_with fail
    refine (half_neg a _ (by omega) (by omega)).mono ?_
    rintro e w' ⟨rfl, rfl⟩
    go_wp2_with fail
    refine (half_pos 0 _ (by omega) (by omega)).mono ?_
    rintro e w' ⟨rfl, rfl⟩
    go_wp2
    go_ret2
    exact ⟨rfl, rfl⟩

theorem ndiv_any (a b : Int) (w : World) (a1 : -9223372036854775808 ≤ a) (a2 : a ≤ 9223372036854775807) (b1 : -9223372036854775808 ≤ b) (b2 : b ≤ 9223372036854775807) (hb : b ≠ 0) :
    Calls Tryd.prog 17 #[.int .i64 a, .int .i64 b] w fun e w' => e = .returned (.tuple #[.int .i64 (fit (a.tdiv b)).1, .bool (fit (a.tdiv b)).2]) ∧ w = w' := by
  have hb0 : (b == 0) = false := by simp; omega
  have hq := fun hm => tdiv_le a b hb hm a1 a2
  by_cases hm : b = -1
  · subst hm
    by_cases ha : a = -9223372036854775808
    · subst ha
      go_enter Tryd.func17, Tryd.ntmps17
      go_wp2
      go_ret2
      refine ⟨vfit (c := (0, false)) (fit_eq0 ?_), rfl⟩; simp [Int.tdiv_neg]
    · have ha0 : (a == -9223372036854775808) = false := by simp; omega
      have hx : a.tdiv (-1) = -a := by simp [Int.tdiv_neg]
      go_enter Tryd.func17, Tryd.ntmps17
      go_wp2
      go_ret2
      refine ⟨vfit (c := (_, true)) (fit_eq1 ?_ ?_), rfl⟩ <;> omega
  · have hb1 : (b == -1) = false := by simp; omega
    obtain ⟨q1, q2⟩ := hq hm
    clear hq
    go_enter Tryd.func17, Tryd.ntmps17
    go_wp2
    go_ret2
    exact ⟨vfit (c := (a.tdiv b, true)) (fit_eq1 rfl ⟨q1, q2⟩), rfl⟩

theorem half_neg' (n : Int) (w : World) (h1 : 0 < n) (h2 : n ≤ 9223372036854775808) :
    Calls Tryd.prog 43 #[.int .i64 (-n)] w fun e w' => e = .returned (.tuple #[.bool true, .int .u64 n]) ∧ w = w' := by
  have h := half_neg (-n) w (by omega) (by omega)
  rw [Int.neg_neg] at h
  exact h

theorem rmul_any (a b : Int) (w : World) (a1 : -9223372036854775808 ≤ a) (a2 : a ≤ 9223372036854775807) (b1 : -9223372036854775808 ≤ b) (b2 : b ≤ 9223372036854775807) :
    Calls Tryd.prog 16 #[.int .i64 a, .int .i64 b] w fun e w' => e = .returned (.tuple #[.int .i64 (fit (a * b)).1, .bool (fit (a * b)).2]) ∧ w = w' := by
  by_cases ha : 0 ≤ a <;> by_cases hb : 0 ≤ b
  · by_cases hz : b = 0
    · subst hz
      go_enter Tryd.func16, Tryd.ntmps16
      go_wp2_with fail
      refine (half_pos a _ (by omega) (by omega)).mono ?_
      rintro e w' ⟨rfl, rfl⟩
      go_wp2_with fail
      refine (half_pos 0 _ (by omega) (by omega)).mono ?_
      rintro e w' ⟨rfl, rfl⟩
      go_wp2_with fail
      refine (made_pos 0 _ (by omega) (by omega)).mono ?_
      rintro e w' ⟨rfl, rfl⟩
      go_wp2
      go_ret2
      refine ⟨vfit ?_, rfl⟩; simp
    have hk := mul_room a b (by omega) (by omega)
    have he : a * b = a * b := rfl
    by_cases hc : a ≤ 9223372036854775808 / b
    · obtain ⟨k1, k2⟩ := hk.1 hc
      clear hk
      have hd : decide (9223372036854775808 / b < a) = false := by simp; omega
      rw [he]; clear he
      go_enter Tryd.func16, Tryd.ntmps16
      go_wp2_with fail
      refine (half_pos a _ (by omega) (by omega)).mono ?_
      rintro e w' ⟨rfl, rfl⟩
      go_wp2_with fail
      refine (half_pos b _ (by omega) (by omega)).mono ?_
      rintro e w' ⟨rfl, rfl⟩
      go_wp2_with fail
      refine (made_pos _ _ (by omega) (by omega)).mono ?_
      rintro e w' ⟨rfl, rfl⟩
      go_wp2
      go_ret2
      exact ⟨rfl, rfl⟩
    · have k2 := hk.2 hc
      clear hk
      have hd : decide (9223372036854775808 / b < a) = true := by simp; omega
      rw [he]; clear he
      go_enter Tryd.func16, Tryd.ntmps16
      go_wp2_with fail
      refine (half_pos a _ (by omega) (by omega)).mono ?_
      rintro e w' ⟨rfl, rfl⟩
      go_wp2_with fail
      refine (half_pos b _ (by omega) (by omega)).mono ?_
      rintro e w' ⟨rfl, rfl⟩
      go_wp2
      go_ret2
      refine ⟨vfit (c := (0, false)) (fit_eq0 ?_), rfl⟩; omega
  · obtain ⟨n, rfl⟩ : ∃ n, b = -n := ⟨-b, by omega⟩
    have hk := mul_room a n (by omega) (by omega)
    have he : a * -n = -(a * n) := Int.mul_neg _ _
    by_cases hc : a ≤ 9223372036854775808 / n
    · obtain ⟨k1, k2⟩ := hk.1 hc
      clear hk
      have hd : decide (9223372036854775808 / n < a) = false := by simp; omega
      rw [he]; clear he
      go_enter Tryd.func16, Tryd.ntmps16
      go_wp2_with fail
      refine (half_pos a _ (by omega) (by omega)).mono ?_
      rintro e w' ⟨rfl, rfl⟩
      go_wp2_with fail
      refine (half_neg' n _ (by omega) (by omega)).mono ?_
      rintro e w' ⟨rfl, rfl⟩
      go_wp2_with fail
      refine (made_neg _ _ (by omega) (by omega)).mono ?_
      rintro e w' ⟨rfl, rfl⟩
      go_wp2
      go_ret2
      exact ⟨rfl, rfl⟩
    · have k2 := hk.2 hc
      clear hk
      have hd : decide (9223372036854775808 / n < a) = true := by simp; omega
      rw [he]; clear he
      go_enter Tryd.func16, Tryd.ntmps16
      go_wp2_with fail
      refine (half_pos a _ (by omega) (by omega)).mono ?_
      rintro e w' ⟨rfl, rfl⟩
      go_wp2_with fail
      refine (half_neg' n _ (by omega) (by omega)).mono ?_
      rintro e w' ⟨rfl, rfl⟩
      go_wp2
      go_ret2
      refine ⟨vfit (c := (0, false)) (fit_eq0 ?_), rfl⟩; omega
  · obtain ⟨m, rfl⟩ : ∃ m, a = -m := ⟨-a, by omega⟩
    by_cases hz : b = 0
    · subst hz
      go_enter Tryd.func16, Tryd.ntmps16
      go_wp2_with fail
      refine (half_neg' m _ (by omega) (by omega)).mono ?_
      rintro e w' ⟨rfl, rfl⟩
      go_wp2_with fail
      refine (half_pos 0 _ (by omega) (by omega)).mono ?_
      rintro e w' ⟨rfl, rfl⟩
      go_wp2_with fail
      refine (made_neg 0 _ (by omega) (by omega)).mono ?_
      rintro e w' ⟨rfl, rfl⟩
      go_wp2
      go_ret2
      refine ⟨vfit ?_, rfl⟩; simp
    have hk := mul_room m b (by omega) (by omega)
    have he : -m * b = -(m * b) := Int.neg_mul _ _
    by_cases hc : m ≤ 9223372036854775808 / b
    · obtain ⟨k1, k2⟩ := hk.1 hc
      clear hk
      have hd : decide (9223372036854775808 / b < m) = false := by simp; omega
      rw [he]; clear he
      go_enter Tryd.func16, Tryd.ntmps16
      go_wp2_with fail
      refine (half_neg' m _ (by omega) (by omega)).mono ?_
      rintro e w' ⟨rfl, rfl⟩
      go_wp2_with fail
      refine (half_pos b _ (by omega) (by omega)).mono ?_
      rintro e w' ⟨rfl, rfl⟩
      go_wp2_with fail
      refine (made_neg _ _ (by omega) (by omega)).mono ?_
      rintro e w' ⟨rfl, rfl⟩
      go_wp2
      go_ret2
      exact ⟨rfl, rfl⟩
    · have k2 := hk.2 hc
      clear hk
      have hd : decide (9223372036854775808 / b < m) = true := by simp; omega
      rw [he]; clear he
      go_enter Tryd.func16, Tryd.ntmps16
      go_wp2_with fail
      refine (half_neg' m _ (by omega) (by omega)).mono ?_
      rintro e w' ⟨rfl, rfl⟩
      go_wp2_with fail
      refine (half_pos b _ (by omega) (by omega)).mono ?_
      rintro e w' ⟨rfl, rfl⟩
      go_wp2
      go_ret2
      refine ⟨vfit (c := (0, false)) (fit_eq0 ?_), rfl⟩; omega
  · obtain ⟨m, rfl⟩ : ∃ m, a = -m := ⟨-a, by omega⟩
    obtain ⟨n, rfl⟩ : ∃ n, b = -n := ⟨-b, by omega⟩
    have hk := mul_room m n (by omega) (by omega)
    have he : -m * -n = m * n := by rw [Int.neg_mul, Int.mul_neg, Int.neg_neg]
    by_cases hc : m ≤ 9223372036854775808 / n
    · obtain ⟨k1, k2⟩ := hk.1 hc
      clear hk
      have hd : decide (9223372036854775808 / n < m) = false := by simp; omega
      rw [he]; clear he
      go_enter Tryd.func16, Tryd.ntmps16
      go_wp2_with fail
      refine (half_neg' m _ (by omega) (by omega)).mono ?_
      rintro e w' ⟨rfl, rfl⟩
      go_wp2_with fail
      refine (half_neg' n _ (by omega) (by omega)).mono ?_
      rintro e w' ⟨rfl, rfl⟩
      go_wp2_with fail
      refine (made_pos _ _ (by omega) (by omega)).mono ?_
      rintro e w' ⟨rfl, rfl⟩
      go_wp2
      go_ret2
      exact ⟨rfl, rfl⟩
    · have k2 := hk.2 hc
      clear hk
      have hd : decide (9223372036854775808 / n < m) = true := by simp; omega
      rw [he]; clear he
      go_enter Tryd.func16, Tryd.ntmps16
      go_wp2_with fail
      refine (half_neg' m _ (by omega) (by omega)).mono ?_
      rintro e w' ⟨rfl, rfl⟩
      go_wp2_with fail
      refine (half_neg' n _ (by omega) (by omega)).mono ?_
      rintro e w' ⟨rfl, rfl⟩
      go_wp2
      go_ret2
      refine ⟨vfit (c := (0, false)) (fit_eq0 ?_), rfl⟩; omega

theorem rdiv_any (a b : Int) (w : World) (a1 : -9223372036854775808 ≤ a) (a2 : a ≤ 9223372036854775807) (b1 : -9223372036854775808 ≤ b) (b2 : b ≤ 9223372036854775807) (hb : b ≠ 0) :
    Calls Tryd.prog 18 #[.int .i64 a, .int .i64 b] w fun e w' => e = .returned (.tuple #[.int .i64 (fit (a.tdiv b)).1, .bool (fit (a.tdiv b)).2]) ∧ w = w' := by
  by_cases ha : 0 ≤ a <;> by_cases hn : 0 ≤ b
  · obtain ⟨d1, d2⟩ := div_small (m := a) (n := b) (by omega) (by omega)
    have hz : (b == 0) = false := by simp; omega
    rw [show a.tdiv b = a / b from tdiv_pp (by omega)]
    go_enter Tryd.func18, Tryd.ntmps18
    go_wp2_with fail
    refine (half_pos a _ (by omega) (by omega)).mono ?_
    rintro e w' ⟨rfl, rfl⟩
    go_wp2_with fail
    refine (half_pos b _ (by omega) (by omega)).mono ?_
    rintro e w' ⟨rfl, rfl⟩
    go_wp2_with fail
    refine (made_pos _ _ (by omega) (by omega)).mono ?_
    rintro e w' ⟨rfl, rfl⟩
    go_wp2
    go_ret2
    exact ⟨rfl, rfl⟩
  · obtain ⟨n, rfl⟩ : ∃ n, b = -n := ⟨-b, by omega⟩
    obtain ⟨d1, d2⟩ := div_small (m := a) (n := n) (by omega) (by omega)
    have hz : (n == 0) = false := by simp; omega
    rw [show a.tdiv (-n) = -(a / n) from by rw [tdiv_pn (by omega), Int.neg_neg]]
    go_enter Tryd.func18, Tryd.ntmps18
    go_wp2_with fail
    refine (half_pos a _ (by omega) (by omega)).mono ?_
    rintro e w' ⟨rfl, rfl⟩
    go_wp2_with fail
    refine (half_neg' n _ (by omega) (by omega)).mono ?_
    rintro e w' ⟨rfl, rfl⟩
    go_wp2_with fail
    refine (made_neg _ _ (by omega) (by omega)).mono ?_
    rintro e w' ⟨rfl, rfl⟩
    go_wp2
    go_ret2
    exact ⟨rfl, rfl⟩
  · obtain ⟨m, rfl⟩ : ∃ m, a = -m := ⟨-a, by omega⟩
    obtain ⟨d1, d2⟩ := div_small (m := m) (n := b) (by omega) (by omega)
    have hz : (b == 0) = false := by simp; omega
    rw [show (-m).tdiv b = -(m / b) from by rw [tdiv_np (by omega), Int.neg_neg]]
    go_enter Tryd.func18, Tryd.ntmps18
    go_wp2_with fail
    refine (half_neg' m _ (by omega) (by omega)).mono ?_
    rintro e w' ⟨rfl, rfl⟩
    go_wp2_with fail
    refine (half_pos b _ (by omega) (by omega)).mono ?_
    rintro e w' ⟨rfl, rfl⟩
    go_wp2_with fail
    refine (made_neg _ _ (by omega) (by omega)).mono ?_
    rintro e w' ⟨rfl, rfl⟩
    go_wp2
    go_ret2
    exact ⟨rfl, rfl⟩
  · obtain ⟨m, rfl⟩ : ∃ m, a = -m := ⟨-a, by omega⟩
    obtain ⟨n, rfl⟩ : ∃ n, b = -n := ⟨-b, by omega⟩
    obtain ⟨d1, d2⟩ := div_small (m := m) (n := n) (by omega) (by omega)
    have hz : (n == 0) = false := by simp; omega
    rw [show (-m).tdiv (-n) = m / n from by rw [tdiv_nn (by omega), Int.neg_neg, Int.neg_neg]]
    go_enter Tryd.func18, Tryd.ntmps18
    go_wp2_with fail
    refine (half_neg' m _ (by omega) (by omega)).mono ?_
    rintro e w' ⟨rfl, rfl⟩
    go_wp2_with fail
    refine (half_neg' n _ (by omega) (by omega)).mono ?_
    rintro e w' ⟨rfl, rfl⟩
    go_wp2_with fail
    refine (made_pos _ _ (by omega) (by omega)).mono ?_
    rintro e w' ⟨rfl, rfl⟩
    go_wp2
    go_ret2
    exact ⟨rfl, rfl⟩
end Go.Proofs.YtledjocmihcfnaaDoor

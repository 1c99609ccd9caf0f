/- The walks of layer 2's calls on whole numbers: sums and differences. -/
import Derived.Test.YtledjocmihcfnaaDoorNumB
namespace Go.Proofs.YtledjocmihcfnaaDoor
open Go.RowKit

theorem nadd_any (a b : Int) (w : World) (a1 : -9223372036854775808 ≤ a) (a2 : a ≤ 9223372036854775807) (b1 : -9223372036854775808 ≤ b) (b2 : b ≤ 9223372036854775807) :
    Calls Tryd.prog 11 #[.int .i64 a, .int .i64 b] w fun e w' => e = .returned (.tuple #[.int .i64 (fit (a + b)).1, .bool (fit (a + b)).2]) ∧ w = w' := by
  by_cases h0 : -9223372036854775808 ≤ a + b ∧ a + b ≤ 9223372036854775807
  · obtain ⟨h1, h2⟩ := h0
    by_cases hb : 0 < b
    · have hd : decide (a < a + b) = true := by simp; omega
      go_enter Tryd.func11, Tryd.ntmps11
      go_wp2
      go_ret2
      refine ⟨vfit (c := (_, true)) (fit_eq1 ?_ ?_), rfl⟩ <;> omega
    · have hd : decide (a < a + b) = false := by simp; omega
      go_enter Tryd.func11, Tryd.ntmps11
      go_wp2
      go_ret2
      refine ⟨vfit (c := (_, true)) (fit_eq1 ?_ ?_), rfl⟩ <;> omega
  · by_cases hb : 0 < b
    · have hd : decide (a < wrap64 (a + b)) = false := by simp [wrap64]; omega
      go_enter Tryd.func11, Tryd.ntmps11
      go_wp2
      go_ret2
      refine ⟨vfit (c := (0, false)) (fit_eq0 ?_), rfl⟩
      omega
    · have hd : decide (a < wrap64 (a + b)) = true := by simp [wrap64]; omega
      go_enter Tryd.func11, Tryd.ntmps11
      go_wp2
      go_ret2
      refine ⟨vfit (c := (0, false)) (fit_eq0 ?_), rfl⟩
      omega

theorem nsub_any (a b : Int) (w : World) (a1 : -9223372036854775808 ≤ a) (a2 : a ≤ 9223372036854775807) (b1 : -9223372036854775808 ≤ b) (b2 : b ≤ 9223372036854775807) :
    Calls Tryd.prog 13 #[.int .i64 a, .int .i64 b] w fun e w' => e = .returned (.tuple #[.int .i64 (fit (a - b)).1, .bool (fit (a - b)).2]) ∧ w = w' := by
  by_cases h0 : -9223372036854775808 ≤ a - b ∧ a - b ≤ 9223372036854775807
  · obtain ⟨h1, h2⟩ := h0
    by_cases hb : 0 < b
    · have hd : decide (a - b < a) = true := by simp; omega
      go_enter Tryd.func13, Tryd.ntmps13
      go_wp2
      go_ret2
      refine ⟨vfit (c := (_, true)) (fit_eq1 ?_ ?_), rfl⟩ <;> omega
    · have hd : decide (a - b < a) = false := by simp; omega
      go_enter Tryd.func13, Tryd.ntmps13
      go_wp2
      go_ret2
      refine ⟨vfit (c := (_, true)) (fit_eq1 ?_ ?_), rfl⟩ <;> omega
  · by_cases hb : 0 < b
    · have hd : decide (wrap64 (a - b) < a) = false := by simp [wrap64]; omega
      go_enter Tryd.func13, Tryd.ntmps13
      go_wp2
      go_ret2
      refine ⟨vfit (c := (0, false)) (fit_eq0 ?_), rfl⟩
      omega
    · have hd : decide (wrap64 (a - b) < a) = true := by simp [wrap64]; omega
      go_enter Tryd.func13, Tryd.ntmps13
      go_wp2
      go_ret2
      refine ⟨vfit (c := (0, false)) (fit_eq0 ?_), rfl⟩
      omega

theorem nneg_any (a : Int) (w : World) (a1 : -9223372036854775808 ≤ a) (a2 : a ≤ 9223372036854775807) :
    Calls Tryd.prog 19 #[.int .i64 a] w fun e w' => e = .returned (.tuple #[.int .i64 (fit (-a)).1, .bool (fit (-a)).2]) ∧ w = w' := by
  go_enter Tryd.func19, Tryd.ntmps19
  go_wp2_with fail
  refine (nsub_any 0 a _ (by omega) (by omega) (by omega) (by omega)).mono ?_
  rintro e w' ⟨rfl, rfl⟩
  go_wp2
  go_ret2
  exact ⟨rfl, rfl⟩

theorem rneg_any (a : Int) (w : World) (a1 : -9223372036854775808 ≤ a) (a2 : a ≤ 9223372036854775807) :
    Calls Tryd.prog 20 #[.int .i64 a] w fun e w' => e = .returned (.tuple #[.int .i64 (fit (-a)).1, .bool (fit (-a)).2]) ∧ w = w' := by
  by_cases h : 0 ≤ a
  · go_enter Tryd.func20, Tryd.ntmps20
    go_wp2_with fail
    refine (half_pos a _ (by omega) (by omega)).mono ?_
    rintro e w' ⟨rfl, rfl⟩
    go_wp2_with fail
    refine (made_neg _ _ (by omega) (by omega)).mono ?_
    rintro e w' ⟨rfl, rfl⟩
    go_wp2
    go_ret2
    exact ⟨rfl, rfl⟩
  · go_enter Tryd.func20, Tryd.ntmps20
    go_wp2_with fail
    refine (half_neg a _ (by omega) (by omega)).mono ?_
    rintro e w' ⟨rfl, rfl⟩
    go_wp2_with fail
    refine (made_pos _ _ (by omega) (by omega)).mono ?_
    rintro e w' ⟨rfl, rfl⟩
    go_wp2
    go_ret2
    exact ⟨rfl, rfl⟩

theorem radd_any (a b : Int) (w : World) (a1 : -9223372036854775808 ≤ a) (a2 : a ≤ 9223372036854775807) (b1 : -9223372036854775808 ≤ b) (b2 : b ≤ 9223372036854775807) :
    Calls Tryd.prog 12 #[.int .i64 a, .int .i64 b] w fun e w' => e = .returned (.tuple #[.int .i64 (fit (a + b)).1, .bool (fit (a + b)).2]) ∧ w = w' := by
  by_cases ha : 0 ≤ a <;> by_cases hb : 0 ≤ b
  · by_cases hc : a ≤ 9223372036854775808 - b
    · go_enter Tryd.func12, Tryd.ntmps12
      go_wp2_with fail
      refine (half_pos a _ (by omega) (by omega)).mono ?_
      rintro e w' ⟨rfl, rfl⟩
      go_wp2_with fail
      refine (half_pos b _ (by omega) (by omega)).mono ?_
      rintro e w' ⟨rfl, rfl⟩
      go_wp2_with fail
      refine (made_pos _ _ (by omega) (by omega)).mono ?_
      rintro e w' ⟨rfl, rfl⟩
      go_wp2
      go_ret2
      exact ⟨rfl, rfl⟩
    · go_enter Tryd.func12, Tryd.ntmps12
      go_wp2_with fail
      refine (half_pos a _ (by omega) (by omega)).mono ?_
      rintro e w' ⟨rfl, rfl⟩
      go_wp2_with fail
      refine (half_pos b _ (by omega) (by omega)).mono ?_
      rintro e w' ⟨rfl, rfl⟩
      go_wp2
      go_ret2
      refine ⟨vfit (c := (0, false)) (fit_eq0 ?_), rfl⟩; omega
  · by_cases hc : -b ≤ a
    · go_enter Tryd.func12, Tryd.ntmps12
      go_wp2_with fail
      refine (half_pos a _ (by omega) (by omega)).mono ?_
      rintro e w' ⟨rfl, rfl⟩
      go_wp2_with fail
      refine (half_neg b _ (by omega) (by omega)).mono ?_
      rintro e w' ⟨rfl, rfl⟩
      go_wp2_with fail
      refine (made_pos _ _ (by omega) (by omega)).mono ?_
      rintro e w' ⟨rfl, rfl⟩
      go_wp2
      go_ret2
      refine ⟨vfit ?_, rfl⟩; (try congr 1); try omega
    · go_enter Tryd.func12, Tryd.ntmps12
      go_wp2_with fail
      refine (half_pos a _ (by omega) (by omega)).mono ?_
      rintro e w' ⟨rfl, rfl⟩
      go_wp2_with fail
      refine (half_neg b _ (by omega) (by omega)).mono ?_
      rintro e w' ⟨rfl, rfl⟩
      go_wp2_with fail
      refine (made_neg _ _ (by omega) (by omega)).mono ?_
      rintro e w' ⟨rfl, rfl⟩
      go_wp2
      go_ret2
      refine ⟨vfit ?_, rfl⟩; (try congr 1); try omega
  · by_cases hc : b ≤ -a
    · go_enter Tryd.func12, Tryd.ntmps12
      go_wp2_with fail
      refine (half_neg a _ (by omega) (by omega)).mono ?_
      rintro e w' ⟨rfl, rfl⟩
      go_wp2_with fail
      refine (half_pos b _ (by omega) (by omega)).mono ?_
      rintro e w' ⟨rfl, rfl⟩
      go_wp2_with fail
      refine (made_neg _ _ (by omega) (by omega)).mono ?_
      rintro e w' ⟨rfl, rfl⟩
      go_wp2
      go_ret2
      refine ⟨vfit ?_, rfl⟩; (try congr 1); try omega
    · go_enter Tryd.func12, Tryd.ntmps12
      go_wp2_with fail
      refine (half_neg a _ (by omega) (by omega)).mono ?_
      rintro e w' ⟨rfl, rfl⟩
      go_wp2_with fail
      refine (half_pos b _ (by omega) (by omega)).mono ?_
      rintro e w' ⟨rfl, rfl⟩
      go_wp2_with fail
      refine (made_pos _ _ (by omega) (by omega)).mono ?_
      rintro e w' ⟨rfl, rfl⟩
      go_wp2
      go_ret2
      refine ⟨vfit ?_, rfl⟩; (try congr 1); try omega
  · by_cases hc : -a ≤ 9223372036854775808 + b
    · go_enter Tryd.func12, Tryd.ntmps12
      go_wp2_with fail
      refine (half_neg a _ (by omega) (by omega)).mono ?_
      rintro e w' ⟨rfl, rfl⟩
      go_wp2_with fail
      refine (half_neg b _ (by omega) (by omega)).mono ?_
      rintro e w' ⟨rfl, rfl⟩
      go_wp2_with fail
      refine (made_neg _ _ (by omega) (by omega)).mono ?_
      rintro e w' ⟨rfl, rfl⟩
      go_wp2
      go_ret2
      refine ⟨vfit ?_, rfl⟩; (try congr 1); try omega
    · go_enter Tryd.func12, Tryd.ntmps12
      go_wp2_with fail
      refine (half_neg a _ (by omega) (by omega)).mono ?_
      rintro e w' ⟨rfl, rfl⟩
      go_wp2_with fail
      refine (half_neg b _ (by omega) (by omega)).mono ?_
      rintro e w' ⟨rfl, rfl⟩
      go_wp2
      go_ret2
      refine ⟨vfit (c := (0, false)) (fit_eq0 ?_), rfl⟩; omega
end Go.Proofs.YtledjocmihcfnaaDoor

/- The walks of layer 2's calls on whole numbers. -/
import Derived.Test.YtledjocmihcfnaaDoorRows
import Derived.Test.YtledjocmihcfnaaDoorNumA
import Derived.WalkKit
import Derived.WalkLawsBesides
import Derived.WalkSpells
namespace Go.Proofs.YtledjocmihcfnaaDoor
open Go.RowKit

theorem ret2 {a b c d : Value} (h1 : a = c) (h2 : b = d) : Ending.returned (.tuple #[a, b]) = .returned (.tuple #[c, d]) := by rw [h1, h2]
theorem vint {k : IntKind} {a b : Int} (h : a = b) : Value.int k a = .int k b := by rw [h]
theorem vbool {a b : Bool} (h : a = b) : Value.bool a = .bool b := by rw [h]
theorem vfit {n : Int} {c : Int × Bool} (h : c = fit n) : Ending.returned (.tuple #[.int .i64 c.1, .bool c.2]) = .returned (.tuple #[.int .i64 (fit n).1, .bool (fit n).2]) := by rw [h]
theorem bool_dec {p : Prop} [Decidable p] (h : p) : true = decide p := by simp [h]
theorem bool_ndec {p : Prop} [Decidable p] (h : ¬ p) : false = decide p := by simp [h]
theorem fit_eq1 {n m : Int} (h : m = n) (h1 : -9223372036854775808 ≤ n ∧ n ≤ 9223372036854775807) : (m, true) = fit n := by rw [fit_in h1, h]
theorem fit_eq0 {n : Int} (h1 : n < -9223372036854775808 ∨ 9223372036854775807 < n) : (0, false) = fit n := by rw [fit_out h1]

theorem half_pos (a : Int) (w : World) (h1 : 0 ≤ a) (h2 : a ≤ 9223372036854775807) :
    Calls Tryd.prog 43 #[.int .i64 a] w fun e w' => e = .returned (.tuple #[.bool false, .int .u64 a]) ∧ w = w' := by
  go_enter Tryd.func43, Tryd.ntmps43
  go_wp2
  go_ret2
  exact ⟨rfl, rfl⟩
theorem half_neg (a : Int) (w : World) (h1 : -9223372036854775808 ≤ a) (h2 : a < 0) :
    Calls Tryd.prog 43 #[.int .i64 a] w fun e w' => e = .returned (.tuple #[.bool true, .int .u64 (-a)]) ∧ w = w' := by
  go_enter Tryd.func43, Tryd.ntmps43
  go_wp2
  go_ret2
  exact ⟨ret2 (vbool rfl) (vint (by omega)), rfl⟩

theorem made_any (s : Bool) (n : Int) (w : World) (h1 : 0 ≤ n) (h2 : n ≤ 18446744073709551615) :
    Calls Tryd.prog 44 #[.bool s, .int .u64 n] w fun e w' => e = .returned (.tuple #[.int .i64 (fit (if s then -n else n)).1, .bool (fit (if s then -n else n)).2]) ∧ w = w' := by
  cases s
  · by_cases h3 : n ≤ 9223372036854775807
    · go_enter Tryd.func44, Tryd.ntmps44
      go_wp2
      go_ret2
      refine ⟨vfit (c := (n, true)) (fit_eq1 ?_ ?_), rfl⟩ <;> (first | omega | (simp <;> omega))
    · go_enter Tryd.func44, Tryd.ntmps44
      go_wp2
      go_ret2
      refine ⟨vfit (c := (0, false)) (fit_eq0 ?_), rfl⟩; omega

  · by_cases h3 : n ≤ 9223372036854775808
    · by_cases h4 : n = 0
      · subst h4
        go_enter Tryd.func44, Tryd.ntmps44
        go_wp2
        go_ret2
        exact ⟨vfit (c := (0, true)) (fit_eq1 (by simp) (by simp)), rfl⟩
      · go_enter Tryd.func44, Tryd.ntmps44
        go_wp2
        go_ret2
        refine ⟨vfit (c := (_, true)) (fit_eq1 ?_ ?_), rfl⟩ <;> (first | omega | (simp <;> omega))
    · go_enter Tryd.func44, Tryd.ntmps44
      go_wp2
      go_ret2
      refine ⟨vfit (c := (0, false)) (fit_eq0 ?_), rfl⟩; omega

theorem made_pos (n : Int) (w : World) (h1 : 0 ≤ n) (h2 : n ≤ 18446744073709551615) :
    Calls Tryd.prog 44 #[.bool false, .int .u64 n] w fun e w' => e = .returned (.tuple #[.int .i64 (fit n).1, .bool (fit n).2]) ∧ w = w' := made_any false n w h1 h2
theorem made_neg (n : Int) (w : World) (h1 : 0 ≤ n) (h2 : n ≤ 18446744073709551615) :
    Calls Tryd.prog 44 #[.bool true, .int .u64 n] w fun e w' => e = .returned (.tuple #[.int .i64 (fit (-n)).1, .bool (fit (-n)).2]) ∧ w = w' := made_any true n w h1 h2
end Go.Proofs.YtledjocmihcfnaaDoor

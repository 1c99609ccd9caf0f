/- The walks of layer 2's calls on floats: kinds, orders. -/
import Derived.Test.YtledjocmihcfnaaDoorNumB
import Derived.Test.YtledjocmihcfnaaDoorNumG
import Derived.Laws.BitsAllLaws
import Derived.Laws.FloatArith
import Derived.Lib.Hide
namespace Go.Proofs.YtledjocmihcfnaaDoor
open Go.RowKit Fl

theorem rint {k : IntKind} {a b : Int} (h : a = b) : Ending.returned (.int k a) = .returned (.int k b) := by rw [h]
theorem rbool {a b : Bool} (h : a = b) : Ending.returned (.bool a) = .returned (.bool b) := by rw [h]

@[go_sem] theorem xbits (b : Nat) (w : World) : (callFunc 62 #[.float .f64 b]).run Tryd.prog w = .ok (.value (.int .u64 b)) w := by
  rw [run_callFunc_extern Tryd.func62 (e := Extern.MathFloatBits.float64bits) (by kernel_rfl) (by kernel_rfl) (by kernel_rfl) (by kernel_rfl)]
  rfl
@[go_sem] theorem xfrom (b : Nat) (w : World) : (callFunc 50 #[.int .u64 b]).run Tryd.prog w = .ok (.value (.float .f64 b)) w := by
  rw [run_callFunc_extern Tryd.func50 (e := Extern.MathFloatBits.float64frombits) (by kernel_rfl) (by kernel_rfl) (by kernel_rfl) (by kernel_rfl)]
  rfl

/-- The three parts of a word. -/
theorem parts_any (a : Nat) (w : World) (h : a < 18446744073709551616) :
    Calls Tryd.prog 58 #[.int .u64 a] w fun e w' => e = .returned (.tuple #[.int .u64 (a / 9223372036854775808 : Nat), .int .u64 (a / 4503599627370496 % 2048 : Nat), .int .u64 (a % 4503599627370496 : Nat)]) ∧ w = w' := by
  have e1 : Go.bits .and .u64 ((a : Int) / 4503599627370496) 2047 = ((a / 4503599627370496 % 2048 : Nat) : Int) := by
    have := u64_and_nat (a / 4503599627370496) 2047 (by omega) (by decide)
    rw [show 2047 = 2 ^ 11 - 1 from rfl, Nat.and_two_pow_sub_one_eq_mod] at this
    exact this
  have e2 : Go.bits .and .u64 (a : Int) 4503599627370495 = ((a % 4503599627370496 : Nat) : Int) := by
    have := u64_and_nat a 4503599627370495 (by omega) (by decide)
    rw [show 4503599627370495 = 2 ^ 52 - 1 from rfl, Nat.and_two_pow_sub_one_eq_mod] at this
    exact this
  go_enter Tryd.func58, Tryd.ntmps58
  go_wp2
  go_ret3
  refine ⟨?_, rfl⟩
  simp

theorem kindN_parts (a s e m : Nat) (h : a < 18446744073709551616) (hs : a / 9223372036854775808 = s) (he : a / 4503599627370496 % 2048 = e) (hm : a % 4503599627370496 = m) :
    kindN a = if e = 2047 ∧ 0 < m then 0 else if e = 2047 then (if 0 < s then 1 else 6) else if e = 0 ∧ m = 0 then (if 0 < s then 3 else 4) else if 0 < s then 2 else 5 := by
  have hr : rg a = e * 4503599627370496 + m := by unfold rg; rw [W_eq]; omega
  have h1 : I < rg a ↔ e = 2047 ∧ 0 < m := by rw [hr, I_eq]; omega
  have h2 : e ≠ 2047 ∨ m = 0 → (rg a = I ↔ e = 2047) := by rw [hr, I_eq]; omega
  have h3 : rg a = 0 ↔ e = 0 ∧ m = 0 := by rw [hr]; omega
  have h4 : sg a = true ↔ 0 < s := by unfold sg; rw [W_eq, beq_iff_eq]; omega
  unfold kindN
  simp only [h1, h3, h4]
  by_cases c1 : e = 2047 ∧ 0 < m
  · rw [if_pos c1, if_pos c1]
  · rw [if_neg c1, if_neg c1]
    simp only [h2 (by omega)]

/-- The kind of a word, off its parts. -/
theorem rkind_any (a : Nat) (w : World) (h : a < 18446744073709551616) :
    Calls Tryd.prog 38 #[.int .u64 a] w fun e w' => e = .returned (.int .i64 (kindN a)) ∧ w = w' := by
  have hp := fun w => parts_any a w h
  obtain ⟨s, hs⟩ : ∃ s, a / 9223372036854775808 = s := ⟨_, rfl⟩
  obtain ⟨e, he⟩ : ∃ e, a / 4503599627370496 % 2048 = e := ⟨_, rfl⟩
  obtain ⟨m, hm⟩ : ∃ m, a % 4503599627370496 = m := ⟨_, rfl⟩
  have hk := kindN_parts a s e m h hs he hm
  rw [hs, he, hm] at hp
  generalize kindN a = k at hk
  clear hs he hm
  have HK := Lib.hid hk
  have HP := Lib.hid hp
  clear hk hp
  by_cases c1 : e = 2047
  · by_cases c2 : 0 < m
    · have f1 : ((e : Int) == 2047) = true := by rw [beq_iff_eq]; omega
      have f4 : decide ((0 : Int) < (m : Int)) = true := by simp; omega
      go_enter Tryd.func38, Tryd.ntmps38
      go_wp2_with fail
      refine (HP.out _).mono ?_
      rintro e w' ⟨rfl, rfl⟩
      go_wp2
      go_ret
      refine ⟨rint ?_, rfl⟩
      rw [HK.out]
      rw [if_pos (by omega)]
    · by_cases c3 : 0 < s
      · have f1 : ((e : Int) == 2047) = true := by rw [beq_iff_eq]; omega
        have f4 : decide ((0 : Int) < (m : Int)) = false := by simp; omega
        have f5 : decide ((0 : Int) < (s : Int)) = true := by simp; omega
        go_enter Tryd.func38, Tryd.ntmps38
        go_wp2_with fail
        refine (HP.out _).mono ?_
        rintro e w' ⟨rfl, rfl⟩
        go_wp2
        go_ret
        refine ⟨rint ?_, rfl⟩
        rw [HK.out]
        rw [if_neg (by omega), if_pos (by omega), if_pos (by omega)]
      · have f1 : ((e : Int) == 2047) = true := by rw [beq_iff_eq]; omega
        have f4 : decide ((0 : Int) < (m : Int)) = false := by simp; omega
        have f5 : decide ((0 : Int) < (s : Int)) = false := by simp; omega
        go_enter Tryd.func38, Tryd.ntmps38
        go_wp2_with fail
        refine (HP.out _).mono ?_
        rintro e w' ⟨rfl, rfl⟩
        go_wp2
        go_ret
        refine ⟨rint ?_, rfl⟩
        rw [HK.out]
        rw [if_neg (by omega), if_pos (by omega), if_neg (by omega)]
  · by_cases c2 : e = 0 ∧ m = 0
    · by_cases c3 : 0 < s
      · have f1 : ((e : Int) == 2047) = false := by rw [beq_eq_false_iff_ne]; omega
        have f2 : ((e : Int) == 0) = true := by rw [beq_iff_eq]; omega
        have f3 : ((m : Int) == 0) = true := by rw [beq_iff_eq]; omega
        have f5 : decide ((0 : Int) < (s : Int)) = true := by simp; omega
        go_enter Tryd.func38, Tryd.ntmps38
        go_wp2_with fail
        refine (HP.out _).mono ?_
        rintro e w' ⟨rfl, rfl⟩
        go_wp2
        go_ret
        refine ⟨rint ?_, rfl⟩
        rw [HK.out]
        rw [if_neg (by omega), if_neg (by omega), if_pos (by omega), if_pos (by omega)]
      · have f1 : ((e : Int) == 2047) = false := by rw [beq_eq_false_iff_ne]; omega
        have f2 : ((e : Int) == 0) = true := by rw [beq_iff_eq]; omega
        have f3 : ((m : Int) == 0) = true := by rw [beq_iff_eq]; omega
        have f5 : decide ((0 : Int) < (s : Int)) = false := by simp; omega
        go_enter Tryd.func38, Tryd.ntmps38
        go_wp2_with fail
        refine (HP.out _).mono ?_
        rintro e w' ⟨rfl, rfl⟩
        go_wp2
        go_ret
        refine ⟨rint ?_, rfl⟩
        rw [HK.out]
        rw [if_neg (by omega), if_neg (by omega), if_pos (by omega), if_neg (by omega)]
    · by_cases c4 : e = 0
      · by_cases c3 : 0 < s
        · have f1 : ((e : Int) == 2047) = false := by rw [beq_eq_false_iff_ne]; omega
          have f2 : ((e : Int) == 0) = true := by rw [beq_iff_eq]; omega
          have f3 : ((m : Int) == 0) = false := by rw [beq_eq_false_iff_ne]; omega
          have f5 : decide ((0 : Int) < (s : Int)) = true := by simp; omega
          go_enter Tryd.func38, Tryd.ntmps38
          go_wp2_with fail
          refine (HP.out _).mono ?_
          rintro e w' ⟨rfl, rfl⟩
          go_wp2
          go_ret
          refine ⟨rint ?_, rfl⟩
          rw [HK.out]
          rw [if_neg (by omega), if_neg (by omega), if_neg (by omega), if_pos (by omega)]
        · have f1 : ((e : Int) == 2047) = false := by rw [beq_eq_false_iff_ne]; omega
          have f2 : ((e : Int) == 0) = true := by rw [beq_iff_eq]; omega
          have f3 : ((m : Int) == 0) = false := by rw [beq_eq_false_iff_ne]; omega
          have f5 : decide ((0 : Int) < (s : Int)) = false := by simp; omega
          go_enter Tryd.func38, Tryd.ntmps38
          go_wp2_with fail
          refine (HP.out _).mono ?_
          rintro e w' ⟨rfl, rfl⟩
          go_wp2
          go_ret
          refine ⟨rint ?_, rfl⟩
          rw [HK.out]
          rw [if_neg (by omega), if_neg (by omega), if_neg (by omega), if_neg (by omega)]
      · by_cases c3 : 0 < s
        · have f1 : ((e : Int) == 2047) = false := by rw [beq_eq_false_iff_ne]; omega
          have f2 : ((e : Int) == 0) = false := by rw [beq_eq_false_iff_ne]; omega
          have f5 : decide ((0 : Int) < (s : Int)) = true := by simp; omega
          go_enter Tryd.func38, Tryd.ntmps38
          go_wp2_with fail
          refine (HP.out _).mono ?_
          rintro e w' ⟨rfl, rfl⟩
          go_wp2
          go_ret
          refine ⟨rint ?_, rfl⟩
          rw [HK.out]
          rw [if_neg (by omega), if_neg (by omega), if_neg (by omega), if_pos (by omega)]
        · have f1 : ((e : Int) == 2047) = false := by rw [beq_eq_false_iff_ne]; omega
          have f2 : ((e : Int) == 0) = false := by rw [beq_eq_false_iff_ne]; omega
          have f5 : decide ((0 : Int) < (s : Int)) = false := by simp; omega
          go_enter Tryd.func38, Tryd.ntmps38
          go_wp2_with fail
          refine (HP.out _).mono ?_
          rintro e w' ⟨rfl, rfl⟩
          go_wp2
          go_ret
          refine ⟨rint ?_, rfl⟩
          rw [HK.out]
          rw [if_neg (by omega), if_neg (by omega), if_neg (by omega), if_neg (by omega)]
end Go.Proofs.YtledjocmihcfnaaDoor

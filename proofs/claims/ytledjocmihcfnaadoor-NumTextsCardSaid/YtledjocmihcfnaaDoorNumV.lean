/- The walks of layer 2's calls on floats: kinds, orders, signs. -/
import Derived.Test.YtledjocmihcfnaaDoorNumW
namespace Go.Proofs.YtledjocmihcfnaaDoor
open Go.RowKit Fl

theorem kindN_nan {a : Nat} (h : I < rg a) : kindN a = 0 := by unfold kindN; rw [if_pos h]
theorem kindN_pos {a : Nat} (h : rg a ≤ I) : 1 ≤ kindN a ∧ kindN a ≤ 6 := by
  unfold kindN; rw [if_neg (by omega)]
  repeat' split
  all_goals omega
theorem kindN_inf {a : Nat} (h : rg a = I) : kindN a = 1 ∨ kindN a = 6 := by
  unfold kindN; rw [if_neg (by omega), if_pos h]; split <;> simp
theorem kindN_zero {a : Nat} (h : rg a = 0) : kindN a = 3 ∨ kindN a = 4 := by
  have : I ≠ 0 := by decide
  unfold kindN; rw [if_neg (by omega), if_neg (by omega), if_pos h]; split <;> simp
theorem kindN_some {a : Nat} (h : rg a < I) (h0 : rg a ≠ 0) : kindN a = 2 ∨ kindN a = 5 := by
  unfold kindN; rw [if_neg (by omega), if_neg (by omega), if_neg h0]; split <;> simp

@[go_sem] theorem run_neg_float (a : Nat) (P : Program) (w : World) : (Op.unary .neg (.float .f64 a)).run P w = .ok (.float .f64 (Op.negFloat .f64 a)) w := rfl

theorem fin_t (a : Nat) (h : a < 18446744073709551616) (c : rg a < I) (w : World) :
    Calls Tryd.prog 47 #[.int .u64 a] w fun e w' => e = .returned (.bool true) ∧ w = w' := by
  by_cases h0 : rg a = 0
  · rcases kindN_zero h0 with hk | hk
    · go_enter Tryd.func47, Tryd.ntmps47
      go_wp2_with fail
      refine (rkind_any a _ h).mono ?_
      rintro e w' ⟨rfl, rfl⟩
      go_wp2_with fail
      refine (rkind_any a _ h).mono ?_
      rintro e w' ⟨rfl, rfl⟩
      go_wp2
      go_ret
      exact ⟨rfl, rfl⟩
    · go_enter Tryd.func47, Tryd.ntmps47
      go_wp2_with fail
      refine (rkind_any a _ h).mono ?_
      rintro e w' ⟨rfl, rfl⟩
      go_wp2_with fail
      refine (rkind_any a _ h).mono ?_
      rintro e w' ⟨rfl, rfl⟩
      go_wp2
      go_ret
      exact ⟨rfl, rfl⟩
  · rcases kindN_some c h0 with hk | hk
    · go_enter Tryd.func47, Tryd.ntmps47
      go_wp2_with fail
      refine (rkind_any a _ h).mono ?_
      rintro e w' ⟨rfl, rfl⟩
      go_wp2_with fail
      refine (rkind_any a _ h).mono ?_
      rintro e w' ⟨rfl, rfl⟩
      go_wp2
      go_ret
      exact ⟨rfl, rfl⟩
    · go_enter Tryd.func47, Tryd.ntmps47
      go_wp2_with fail
      refine (rkind_any a _ h).mono ?_
      rintro e w' ⟨rfl, rfl⟩
      go_wp2_with fail
      refine (rkind_any a _ h).mono ?_
      rintro e w' ⟨rfl, rfl⟩
      go_wp2
      go_ret
      exact ⟨rfl, rfl⟩

theorem fin_f (a : Nat) (h : a < 18446744073709551616) (c : ¬ rg a < I) (w : World) :
    Calls Tryd.prog 47 #[.int .u64 a] w fun e w' => e = .returned (.bool false) ∧ w = w' := by
  by_cases h0 : rg a = I
  · rcases kindN_inf h0 with hk | hk
    · go_enter Tryd.func47, Tryd.ntmps47
      go_wp2_with fail
      refine (rkind_any a _ h).mono ?_
      rintro e w' ⟨rfl, rfl⟩
      go_wp2
      go_ret
      exact ⟨rfl, rfl⟩
    · go_enter Tryd.func47, Tryd.ntmps47
      go_wp2_with fail
      refine (rkind_any a _ h).mono ?_
      rintro e w' ⟨rfl, rfl⟩
      go_wp2_with fail
      refine (rkind_any a _ h).mono ?_
      rintro e w' ⟨rfl, rfl⟩
      go_wp2
      go_ret
      exact ⟨rfl, rfl⟩
  · have hk := kindN_nan (a := a) (by omega)
    go_enter Tryd.func47, Tryd.ntmps47
    go_wp2_with fail
    refine (rkind_any a _ h).mono ?_
    rintro e w' ⟨rfl, rfl⟩
    go_wp2
    go_ret
    exact ⟨rfl, rfl⟩

theorem zero_t (a : Nat) (h : a < 18446744073709551616) (c : rg a = 0) (w : World) :
    Calls Tryd.prog 48 #[.int .u64 a] w fun e w' => e = .returned (.bool true) ∧ w = w' := by
  rcases kindN_zero c with hk | hk
  · go_enter Tryd.func48, Tryd.ntmps48
    go_wp2_with fail
    refine (rkind_any a _ h).mono ?_
    rintro e w' ⟨rfl, rfl⟩
    go_wp2
    go_ret
    exact ⟨rfl, rfl⟩
  · go_enter Tryd.func48, Tryd.ntmps48
    go_wp2_with fail
    refine (rkind_any a _ h).mono ?_
    rintro e w' ⟨rfl, rfl⟩
    go_wp2_with fail
    refine (rkind_any a _ h).mono ?_
    rintro e w' ⟨rfl, rfl⟩
    go_wp2
    go_ret
    exact ⟨rfl, rfl⟩

theorem zero_f (a : Nat) (h : a < 18446744073709551616) (c : rg a ≠ 0) (w : World) :
    Calls Tryd.prog 48 #[.int .u64 a] w fun e w' => e = .returned (.bool false) ∧ w = w' := by
  have h3 : (kindN a == 3) = false ∧ (kindN a == 4) = false := by
    have : kindN a = 0 ∨ kindN a = 1 ∨ kindN a = 6 ∨ kindN a = 2 ∨ kindN a = 5 := by
      by_cases c1 : I < rg a
      · exact .inl (kindN_nan c1)
      · by_cases c2 : rg a = I
        · rcases kindN_inf c2 with h | h <;> simp [h]
        · rcases kindN_some (a := a) (by omega) c with h | h <;> simp [h]
    rcases this with h | h | h | h | h <;> rw [h] <;> decide
  obtain ⟨k1, k2⟩ := h3
  go_enter Tryd.func48, Tryd.ntmps48
  go_wp2_with fail
  refine (rkind_any a _ h).mono ?_
  rintro e w' ⟨rfl, rfl⟩
  go_wp2_with fail
  refine (rkind_any a _ h).mono ?_
  rintro e w' ⟨rfl, rfl⟩
  go_wp2
  go_ret
  exact ⟨rfl, rfl⟩

theorem plain_any (a : Nat) (h : a < 18446744073709551616) (w : World) :
    Calls Tryd.prog 53 #[.int .u64 a] w fun e w' => e = .returned (.int .u64 (plainN a : Nat)) ∧ w = w' := by
  by_cases c : I < rg a
  · have hk := kindN_nan c
    have hp : plainN a = nanN := by unfold plainN; rw [if_pos c]
    rw [hp]
    go_enter Tryd.func53, Tryd.ntmps53
    go_wp2_with fail
    refine (rkind_any a _ h).mono ?_
    rintro e w' ⟨rfl, rfl⟩
    go_wp2
    go_ret
    exact ⟨rfl, rfl⟩
  · have hk : (kindN a == 0) = false := by have := kindN_pos (a := a) (by omega); rw [beq_eq_false_iff_ne]; omega
    have hp : plainN a = a := by unfold plainN; rw [if_neg c]
    rw [hp]
    go_enter Tryd.func53, Tryd.ntmps53
    go_wp2_with fail
    refine (rkind_any a _ h).mono ?_
    rintro e w' ⟨rfl, rfl⟩
    go_wp2
    go_ret
    exact ⟨rfl, rfl⟩

theorem rplain_any (a : Nat) (h : a < 18446744073709551616) (w : World) :
    Calls Tryd.prog 32 #[.int .u64 a] w fun e w' => e = .returned (.int .u64 (plainN a : Nat)) ∧ w = w' := by
  go_enter Tryd.func32, Tryd.ntmps32
  go_wp2_with fail
  refine (plain_any a h _).mono ?_
  rintro e w' ⟨rfl, rfl⟩
  go_wp2
  go_ret
  exact ⟨rfl, rfl⟩

theorem of_any (a : Nat) (h : a < 18446744073709551616) (w : World) :
    Calls Tryd.prog 49 #[.float .f64 a] w fun e w' => e = .returned (.int .u64 (plainN a : Nat)) ∧ w = w' := by
  go_enter Tryd.func49, Tryd.ntmps49
  go_wp2_with fail
  refine (plain_any a h _).mono ?_
  rintro e w' ⟨rfl, rfl⟩
  go_wp2
  go_ret
  exact ⟨rfl, rfl⟩

theorem rfneg_any (a : Nat) (h : a < 18446744073709551616) (w : World) :
    Calls Tryd.prog 30 #[.int .u64 a] w fun e w' => e = .returned (.int .u64 (fneg a : Nat)) ∧ w = w' := by
  have hx : Go.bits .xor .u64 (a : Int) 9223372036854775808 = ((flip a : Nat) : Int) := by rw [← xor_flip h]; exact u64_xor_nat a 9223372036854775808 h (by decide)
  go_enter Tryd.func30, Tryd.ntmps30
  go_wp2_with fail
  refine (plain_any (flip a) (flip_lt h) _).mono ?_
  rintro e w' ⟨rfl, rfl⟩
  go_wp2
  go_ret
  exact ⟨rfl, rfl⟩

theorem inf_any (s : Bool) (w : World) :
    Calls Tryd.prog 51 #[.int .u64 (s.toNat : Nat)] w fun e w' => e = .returned (.int .u64 (wd s I : Nat)) ∧ w = w' := by
  have hx : ∀ t : Bool, Go.bits .or .u64 ((t.toNat : Int) * 9223372036854775808) 9218868437227405312 = ((wd t I : Nat) : Int) := fun t => by
    have := u64_or_nat (t.toNat * 9223372036854775808) 9218868437227405312 (by cases t <;> decide) (by decide)
    refine Eq.trans (by rw [Int.natCast_mul]; rfl) (this.trans ?_)
    cases t <;> decide
  have hx1 := hx s
  have hs : 0 ≤ (s.toNat : Int) ∧ (s.toNat : Int) ≤ 1 := by cases s <;> decide
  obtain ⟨hs1, hs2⟩ := hs
  clear hx
  go_enter Tryd.func51, Tryd.ntmps51
  go_wp2
  go_ret
  exact ⟨rfl, rfl⟩

theorem nul_any (s : Bool) (w : World) :
    Calls Tryd.prog 52 #[.int .u64 (s.toNat : Nat)] w fun e w' => e = .returned (.int .u64 (wd s 0 : Nat)) ∧ w = w' := by
  have hs : 0 ≤ (s.toNat : Int) ∧ (s.toNat : Int) ≤ 1 := by cases s <;> decide
  obtain ⟨hs1, hs2⟩ := hs
  go_enter Tryd.func52, Tryd.ntmps52
  go_wp2
  go_ret
  refine ⟨rint ?_, rfl⟩
  cases s <;> rfl

theorem row_any (a : Nat) (h : a < 18446744073709551616) (w : World) :
    Calls Tryd.prog 55 #[.int .u64 a] w fun e w' => e = .returned (.int .i64 (row a)) ∧ w = w' := by
  have hr : rg a < 9223372036854775808 := rg_lt a
  by_cases c : rg a = 0
  · have e : row a = 0 := by unfold row; rw [c]; cases sg a <;> rfl
    rw [e]
    go_enter Tryd.func55, Tryd.ntmps55
    go_wp2_with fail
    refine (zero_t a h c _).mono ?_
    rintro e w' ⟨rfl, rfl⟩
    go_wp2
    go_ret
    exact ⟨rfl, rfl⟩
  · cases e : sg a
    · rw [row_pos e]
      have e2 := (sg_false h).1 e
      rw [W_eq] at e2
      rw [show rg a = a from rg_low e2]
      have f : decide ((0 : Int) < (a : Int) / 9223372036854775808) = false := by simp; omega
      go_enter Tryd.func55, Tryd.ntmps55
      go_wp2_with fail
      refine (zero_f a h c _).mono ?_
      rintro e w' ⟨rfl, rfl⟩
      go_wp2
      go_ret
      exact ⟨rfl, rfl⟩
    · rw [row_neg e]
      have e2 := (sg_true h).1 e
      rw [W_eq] at e2
      have f : decide ((0 : Int) < (a : Int) / 9223372036854775808) = true := by simp; omega
      have m : Go.bits .and .u64 (a : Int) 9223372036854775807 = ((rg a : Nat) : Int) := by
        have := u64_and_nat a 9223372036854775807 h (by decide)
        rw [show 9223372036854775807 = 2 ^ 63 - 1 from rfl, Nat.and_two_pow_sub_one_eq_mod] at this
        exact this
      go_enter Tryd.func55, Tryd.ntmps55
      go_wp2_with fail
      refine (zero_f a h c _).mono ?_
      rintro e w' ⟨rfl, rfl⟩
      go_wp2
      go_ret
      exact ⟨rfl, rfl⟩

theorem isnan_t (a : Nat) (c : I < rg a) (w : World) :
    Calls Tryd.prog 54 #[.float .f64 a] w fun e w' => e = .returned (.bool true) ∧ w = w' := by
  have f := nan_test a
  simp only [c, decide_true] at f
  go_enter Tryd.func54, Tryd.ntmps54
  go_wp2
  go_ret
  exact ⟨rbool f, rfl⟩

theorem isnan_f (a : Nat) (c : ¬ I < rg a) (w : World) :
    Calls Tryd.prog 54 #[.float .f64 a] w fun e w' => e = .returned (.bool false) ∧ w = w' := by
  have f := nan_test a
  simp only [c, decide_false] at f
  go_enter Tryd.func54, Tryd.ntmps54
  go_wp2
  go_ret
  exact ⟨rbool f, rfl⟩

theorem float_any (a : Nat) (w : World) :
    Calls Tryd.prog 46 #[.int .u64 a] w fun e w' => e = .returned (.float .f64 a) ∧ w = w' := by
  go_enter Tryd.func46, Tryd.ntmps46
  go_wp2
  go_ret
  exact ⟨rfl, rfl⟩

theorem nplain_any (a : Nat) (w : World) :
    Calls Tryd.prog 31 #[.int .u64 a] w fun e w' => e = .returned (.int .u64 (plainN a : Nat)) ∧ w = w' := by
  by_cases c : I < rg a
  · have hp : plainN a = nanN := by unfold plainN; rw [if_pos c]
    rw [hp]
    go_enter Tryd.func31, Tryd.ntmps31
    go_wp2_with fail
    refine (float_any a _).mono ?_
    rintro e w' ⟨rfl, rfl⟩
    go_wp2_with fail
    refine (isnan_t a c _).mono ?_
    rintro e w' ⟨rfl, rfl⟩
    go_wp2
    go_ret
    exact ⟨rfl, rfl⟩
  · have hp : plainN a = a := by unfold plainN; rw [if_neg c]
    rw [hp]
    go_enter Tryd.func31, Tryd.ntmps31
    go_wp2_with fail
    refine (float_any a _).mono ?_
    rintro e w' ⟨rfl, rfl⟩
    go_wp2_with fail
    refine (isnan_f a c _).mono ?_
    rintro e w' ⟨rfl, rfl⟩
    go_wp2
    go_ret
    exact ⟨rfl, rfl⟩

theorem nbits_any (a : Nat) (w : World) :
    Calls Tryd.prog 45 #[.float .f64 a] w fun e w' => e = .returned (.int .u64 (plainN a : Nat)) ∧ w = w' := by
  go_enter Tryd.func45, Tryd.ntmps45
  go_wp2_with fail
  refine (nplain_any a _).mono ?_
  rintro e w' ⟨rfl, rfl⟩
  go_wp2
  go_ret
  exact ⟨rfl, rfl⟩

theorem nless_any (a b : Nat) (w : World) :
    Calls Tryd.prog 33 #[.int .u64 a, .int .u64 b] w fun e w' => e = .returned (.bool (decide (rg a ≤ I ∧ rg b ≤ I ∧ row a < row b))) ∧ w = w' := by
  have f := order_lt a b
  go_enter Tryd.func33, Tryd.ntmps33
  go_wp2_with fail
  refine (float_any a _).mono ?_
  rintro e w' ⟨rfl, rfl⟩
  go_wp2_with fail
  refine (float_any b _).mono ?_
  rintro e w' ⟨rfl, rfl⟩
  go_wp2
  go_ret
  exact ⟨rbool f, rfl⟩

theorem nsame_any (a b : Nat) (w : World) :
    Calls Tryd.prog 35 #[.int .u64 a, .int .u64 b] w fun e w' => e = .returned (.bool (decide (rg a ≤ I ∧ rg b ≤ I ∧ row a = row b))) ∧ w = w' := by
  have f := order_eql a b
  go_enter Tryd.func35, Tryd.ntmps35
  go_wp2_with fail
  refine (float_any a _).mono ?_
  rintro e w' ⟨rfl, rfl⟩
  go_wp2_with fail
  refine (float_any b _).mono ?_
  rintro e w' ⟨rfl, rfl⟩
  go_wp2
  go_ret
  exact ⟨rbool f, rfl⟩

theorem sbit_any (a : Nat) (h : a < 18446744073709551616) (w : World) :
    Calls Tryd.prog 57 #[.float .f64 a] w fun e w' => e = .returned (.bool (sg a)) ∧ w = w' := by
  go_enter Tryd.func57, Tryd.ntmps57
  go_wp2
  go_ret
  refine ⟨rbool ?_, rfl⟩
  cases e : sg a
  · have := (sg_false h).1 e; rw [W_eq] at this; unfold wrap64; simp; omega
  · have := (sg_true h).1 e; rw [W_eq] at this; unfold wrap64; simp; omega

theorem isinf_neg (a : Nat) (h : a < 18446744073709551616) (w : World) :
    Calls Tryd.prog 56 #[.float .f64 a, .int .i64 (-1)] w fun e w' => e = .returned (.bool (decide (rg a = I ∧ sg a = true))) ∧ w = w' := by
  have f := order_gt (flip a) 9218868437227405311
  have e : (decide (rg (flip a) ≤ I ∧ rg 9218868437227405311 ≤ I ∧ row 9218868437227405311 < row (flip a))) = decide (rg a = I ∧ sg a = true) := by
    have k1 : rg 9218868437227405311 = 9218868437227405311 := by decide
    have k2 : row 9218868437227405311 = 9218868437227405311 := by decide
    have k3 : row (flip a) = if sg a then (rg a : Int) else -(rg a : Int) := by unfold row sn; rw [sg_flip h, rg_flip h]; cases sg a <;> rfl
    rw [k1, k2, k3, rg_flip h, I_eq, decide_eq_decide]
    cases sg a
    · show _ ∧ _ ∧ _ < -((rg a : Nat) : Int) ↔ _
      simp <;> omega
    · show _ ∧ _ ∧ _ < ((rg a : Nat) : Int) ↔ _
      simp <;> omega
  rw [e] at f
  have hx : Op.negFloat .f64 a = flip a := xor_flip h
  go_enter Tryd.func56, Tryd.ntmps56
  go_wp2
  go_ret
  exact ⟨rbool f, rfl⟩

theorem isinf_pos (a : Nat) (w : World) :
    Calls Tryd.prog 56 #[.float .f64 a, .int .i64 1] w fun e w' => e = .returned (.bool (decide (rg a = I ∧ sg a = false))) ∧ w = w' := by
  have f := order_gt a 9218868437227405311
  have e : (decide (rg a ≤ I ∧ rg 9218868437227405311 ≤ I ∧ row 9218868437227405311 < row a)) = decide (rg a = I ∧ sg a = false) := by
    have k1 : rg 9218868437227405311 = 9218868437227405311 := by decide
    have k2 : row 9218868437227405311 = 9218868437227405311 := by decide
    have k3 : row a = if sg a then -(rg a : Int) else (rg a : Int) := rfl
    rw [k1, k2, k3, I_eq, decide_eq_decide]
    cases sg a
    · show _ ∧ _ ∧ _ < ((rg a : Nat) : Int) ↔ _
      simp <;> omega
    · show _ ∧ _ ∧ _ < -((rg a : Nat) : Int) ↔ _
      simp <;> omega
  rw [e] at f
  go_enter Tryd.func56, Tryd.ntmps56
  go_wp2
  go_ret
  exact ⟨rbool f, rfl⟩
end Go.Proofs.YtledjocmihcfnaaDoor

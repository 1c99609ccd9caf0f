/- The walks of the reference's reckoning with floats. -/
import Derived.Test.YtledjocmihcfnaaDoorNumU
namespace Go.Proofs.YtledjocmihcfnaaDoor
open Go.RowKit Fl

theorem add_fin_some {a b : Nat} (h1 : rg a < I) (h2 : rg b < I) : ∃ r, Ieee.double.add a b = some r ∧ r < 18446744073709551616 ∧ plainN r = fop (some r) := by
  cases e : Ieee.double.add a b with
  | none =>
    exfalso
    unfold Ieee.Format.add at e
    rw [read_fin h1, read_fin h2] at e
    cases e
  | some r => exact ⟨r, rfl, Ieee.double.add_lt e, rfl⟩
theorem mul_fin_some {a b : Nat} (h1 : rg a < I) (h2 : rg b < I) : ∃ r, Ieee.double.mul a b = some r ∧ r < 18446744073709551616 ∧ plainN r = fop (some r) := by
  cases e : Ieee.double.mul a b with
  | none =>
    exfalso
    unfold Ieee.Format.mul at e
    rw [read_fin h1, read_fin h2] at e
    cases e
  | some r => exact ⟨r, rfl, Ieee.double.mul_lt e, rfl⟩
theorem div_fin_some {a b : Nat} (h1 : rg a < I) (h2 : rg b < I) (h0 : rg b ≠ 0) : ∃ r, Ieee.double.div a b = some r ∧ r < 18446744073709551616 ∧ plainN r = fop (some r) := by
  cases e : Ieee.double.div a b with
  | none =>
    exfalso
    unfold Ieee.Format.div at e
    rw [read_fin h1, read_fin h2] at e
    unfold Ieee.Datum.quotient at e
    dsimp only at e
    rw [if_neg (by rw [mg_zero]; exact h0)] at e
    cases e
  | some r => exact ⟨r, rfl, Ieee.double.div_lt e, rfl⟩
theorem sg_parts (a : Nat) (h : a < 18446744073709551616) : a / 9223372036854775808 = if sg a then 1 else 0 := by
  unfold sg; rw [W_eq]; split <;> simp at * <;> omega
theorem shr63 {a : Nat} (h : a < 18446744073709551616) : ((a : Int) / 9223372036854775808) = (((sg a).toNat : Nat) : Int) := by
  have := sg_parts a h
  cases e : sg a <;> rw [e] at this <;> simp at this ⊢ <;> omega
theorem xor_sg {a b : Nat} (ha : a < 18446744073709551616) (hb : b < 18446744073709551616) : Go.bits .xor .u64 ((a : Int) / 9223372036854775808) ((b : Int) / 9223372036854775808) = (((sg a ^^ sg b).toNat : Nat) : Int) := by
  rw [shr63 ha, shr63 hb]
  have := u64_xor_nat (sg a).toNat (sg b).toNat (by cases sg a <;> decide) (by cases sg b <;> decide)
  rw [this]
  cases sg a <;> cases sg b <;> rfl
theorem kind_ne {a : Nat} (h : rg a ≤ I) : (kindN a == 0) = false := by
  have := kindN_pos h
  rw [beq_eq_false_iff_ne]; omega
theorem zero_lt_I : 0 < I := by decide

theorem rfadd_any (a b : Nat) (w : World) (ha : a < 18446744073709551616) (hb : b < 18446744073709551616) :
    Calls Tryd.prog 22 #[.int .u64 a, .int .u64 b] w fun e w' => e = .returned (.int .u64 (fop (Ieee.double.add a b) : Nat)) ∧ w = w' := by
  have hI := zero_lt_I
  by_cases ca : I < rg a
  · have cb := trivial
    have ka := kindN_nan ca
    rw [add_nan (a := a) (b := b) (by omega)]
    clear hI ca cb
    go_enter Tryd.func22, Tryd.ntmps22
    go_wp2_with fail
    refine (rkind_any a _ ha).mono ?_
    rintro e w' ⟨rfl, rfl⟩
    go_wp2
    go_ret
    exact ⟨rfl, rfl⟩
  · by_cases ca : rg a = I
    · by_cases cb : I < rg b
      · have ka := kind_ne (a := a) (by omega)
        have Fa : ¬ rg a < I := by omega
        have Za : rg a ≠ 0 := by omega
        have kb := kindN_nan cb
        rw [add_nan (a := a) (b := b) (by omega)]
        clear hI ca cb
        go_enter Tryd.func22, Tryd.ntmps22
        go_wp2_with fail
        refine (rkind_any a _ ha).mono ?_
        rintro e w' ⟨rfl, rfl⟩
        go_wp2_with fail
        refine (rkind_any b _ hb).mono ?_
        rintro e w' ⟨rfl, rfl⟩
        go_wp2
        go_ret
        exact ⟨rfl, rfl⟩
      · by_cases cb : rg b = I
        · by_cases ne : a = b
          · have ka := kind_ne (a := a) (by omega)
            have Fa : ¬ rg a < I := by omega
            have Za : rg a ≠ 0 := by omega
            have kb := kind_ne (a := b) (by omega)
            have Fb : ¬ rg b < I := by omega
            have Zb : rg b ≠ 0 := by omega
            have hne : ((a : Int) == (b : Int)) = true := by rw [beq_iff_eq]; omega
            rw [add_inf_l ha ca (by right; exact ne)]
            clear ne
            clear hI ca cb
            go_enter Tryd.func22, Tryd.ntmps22
            go_wp2_with fail
            refine (rkind_any a _ ha).mono ?_
            rintro e w' ⟨rfl, rfl⟩
            go_wp2_with fail
            refine (rkind_any b _ hb).mono ?_
            rintro e w' ⟨rfl, rfl⟩
            go_wp2_with fail
            refine (fin_f a ha Fa _).mono ?_
            rintro e w' ⟨rfl, rfl⟩
            go_wp2_with fail
            refine (fin_f b hb Fb _).mono ?_
            rintro e w' ⟨rfl, rfl⟩
            go_wp2
            go_ret
            exact ⟨rfl, rfl⟩
          · have ka := kind_ne (a := a) (by omega)
            have Fa : ¬ rg a < I := by omega
            have Za : rg a ≠ 0 := by omega
            have kb := kind_ne (a := b) (by omega)
            have Fb : ¬ rg b < I := by omega
            have Zb : rg b ≠ 0 := by omega
            have hne : ((a : Int) == (b : Int)) = false := by rw [beq_eq_false_iff_ne]; omega
            rw [add_inf_ne ha hb ca cb ne]
            clear ne
            clear hI ca cb
            go_enter Tryd.func22, Tryd.ntmps22
            go_wp2_with fail
            refine (rkind_any a _ ha).mono ?_
            rintro e w' ⟨rfl, rfl⟩
            go_wp2_with fail
            refine (rkind_any b _ hb).mono ?_
            rintro e w' ⟨rfl, rfl⟩
            go_wp2_with fail
            refine (fin_f a ha Fa _).mono ?_
            rintro e w' ⟨rfl, rfl⟩
            go_wp2_with fail
            refine (fin_f b hb Fb _).mono ?_
            rintro e w' ⟨rfl, rfl⟩
            go_wp2
            go_ret
            exact ⟨rfl, rfl⟩
        · by_cases cb : rg b = 0
          · have ka := kind_ne (a := a) (by omega)
            have Fa : ¬ rg a < I := by omega
            have Za : rg a ≠ 0 := by omega
            have kb := kind_ne (a := b) (by omega)
            have Fb : rg b < I := by omega
            have Zb : rg b = 0 := by omega
            rw [add_inf_l ha ca (by left; omega)]
            clear hI ca cb
            go_enter Tryd.func22, Tryd.ntmps22
            go_wp2_with fail
            refine (rkind_any a _ ha).mono ?_
            rintro e w' ⟨rfl, rfl⟩
            go_wp2_with fail
            refine (rkind_any b _ hb).mono ?_
            rintro e w' ⟨rfl, rfl⟩
            go_wp2_with fail
            refine (fin_f a ha Fa _).mono ?_
            rintro e w' ⟨rfl, rfl⟩
            go_wp2_with fail
            refine (fin_t b hb Fb _).mono ?_
            rintro e w' ⟨rfl, rfl⟩
            go_wp2
            go_ret
            exact ⟨rfl, rfl⟩
          · have ka := kind_ne (a := a) (by omega)
            have Fa : ¬ rg a < I := by omega
            have Za : rg a ≠ 0 := by omega
            have kb := kind_ne (a := b) (by omega)
            have Fb : rg b < I := by omega
            have Zb : rg b ≠ 0 := by omega
            rw [add_inf_l ha ca (by left; omega)]
            clear hI ca cb
            go_enter Tryd.func22, Tryd.ntmps22
            go_wp2_with fail
            refine (rkind_any a _ ha).mono ?_
            rintro e w' ⟨rfl, rfl⟩
            go_wp2_with fail
            refine (rkind_any b _ hb).mono ?_
            rintro e w' ⟨rfl, rfl⟩
            go_wp2_with fail
            refine (fin_f a ha Fa _).mono ?_
            rintro e w' ⟨rfl, rfl⟩
            go_wp2_with fail
            refine (fin_t b hb Fb _).mono ?_
            rintro e w' ⟨rfl, rfl⟩
            go_wp2
            go_ret
            exact ⟨rfl, rfl⟩
    · by_cases ca : rg a = 0
      · by_cases cb : I < rg b
        · have ka := kind_ne (a := a) (by omega)
          have Fa : rg a < I := by omega
          have Za : rg a = 0 := by omega
          have kb := kindN_nan cb
          rw [add_nan (a := a) (b := b) (by omega)]
          clear hI ca cb
          go_enter Tryd.func22, Tryd.ntmps22
          go_wp2_with fail
          refine (rkind_any a _ ha).mono ?_
          rintro e w' ⟨rfl, rfl⟩
          go_wp2_with fail
          refine (rkind_any b _ hb).mono ?_
          rintro e w' ⟨rfl, rfl⟩
          go_wp2
          go_ret
          exact ⟨rfl, rfl⟩
        · by_cases cb : rg b = I
          · have ka := kind_ne (a := a) (by omega)
            have Fa : rg a < I := by omega
            have Za : rg a = 0 := by omega
            have kb := kind_ne (a := b) (by omega)
            have Fb : ¬ rg b < I := by omega
            have Zb : rg b ≠ 0 := by omega
            rw [add_inf_r (a := a) hb (by omega) cb]
            clear hI ca cb
            go_enter Tryd.func22, Tryd.ntmps22
            go_wp2_with fail
            refine (rkind_any a _ ha).mono ?_
            rintro e w' ⟨rfl, rfl⟩
            go_wp2_with fail
            refine (rkind_any b _ hb).mono ?_
            rintro e w' ⟨rfl, rfl⟩
            go_wp2_with fail
            refine (fin_t a ha Fa _).mono ?_
            rintro e w' ⟨rfl, rfl⟩
            go_wp2_with fail
            refine (fin_f b hb Fb _).mono ?_
            rintro e w' ⟨rfl, rfl⟩
            go_wp2
            go_ret
            exact ⟨rfl, rfl⟩
          · by_cases cb : rg b = 0
            · have ka := kind_ne (a := a) (by omega)
              have Fa : rg a < I := by omega
              have Za : rg a = 0 := by omega
              have kb := kind_ne (a := b) (by omega)
              have Fb : rg b < I := by omega
              have Zb : rg b = 0 := by omega
              rw [add_zero ha hb ca cb]
              have hand := u64_and_nat a b ha hb
              clear hI ca cb
              go_enter Tryd.func22, Tryd.ntmps22
              go_wp2_with fail
              refine (rkind_any a _ ha).mono ?_
              rintro e w' ⟨rfl, rfl⟩
              go_wp2_with fail
              refine (rkind_any b _ hb).mono ?_
              rintro e w' ⟨rfl, rfl⟩
              go_wp2_with fail
              refine (fin_t a ha Fa _).mono ?_
              rintro e w' ⟨rfl, rfl⟩
              go_wp2_with fail
              refine (fin_t b hb Fb _).mono ?_
              rintro e w' ⟨rfl, rfl⟩
              go_wp2_with fail
              refine (zero_t a ha Za _).mono ?_
              rintro e w' ⟨rfl, rfl⟩
              go_wp2_with fail
              refine (zero_t b hb Zb _).mono ?_
              rintro e w' ⟨rfl, rfl⟩
              go_wp2
              go_ret
              exact ⟨rint (by first | rfl | exact hand), rfl⟩
            · have ka := kind_ne (a := a) (by omega)
              have Fa : rg a < I := by omega
              have Za : rg a = 0 := by omega
              have kb := kind_ne (a := b) (by omega)
              have Fb : rg b < I := by omega
              have Zb : rg b ≠ 0 := by omega
              obtain ⟨r, er, rl, rp⟩ := add_fin_some (a := a) (b := b) (by omega) (by omega)
              have hr : ∀ (P : Program) (t : TypeId) (w : World), (binOp .add t (.float .f64 a) (.float .f64 b)).run P w = .ok (.float .f64 r) w := fun P t w => run_float_arith w .add t .f64 a b r er
              rw [er, ← rp]
              clear er rp
              clear hI ca cb
              go_enter Tryd.func22, Tryd.ntmps22
              go_wp2_with fail
              refine (rkind_any a _ ha).mono ?_
              rintro e w' ⟨rfl, rfl⟩
              go_wp2_with fail
              refine (rkind_any b _ hb).mono ?_
              rintro e w' ⟨rfl, rfl⟩
              go_wp2_with fail
              refine (fin_t a ha Fa _).mono ?_
              rintro e w' ⟨rfl, rfl⟩
              go_wp2_with fail
              refine (fin_t b hb Fb _).mono ?_
              rintro e w' ⟨rfl, rfl⟩
              go_wp2_with fail
              refine (zero_t a ha Za _).mono ?_
              rintro e w' ⟨rfl, rfl⟩
              go_wp2_with fail
              refine (zero_f b hb Zb _).mono ?_
              rintro e w' ⟨rfl, rfl⟩
              go_wp2_with fail
              refine (of_any r rl _).mono ?_
              rintro e w' ⟨rfl, rfl⟩
              go_wp2
              go_ret
              exact ⟨rfl, rfl⟩
      · by_cases cb : I < rg b
        · have ka := kind_ne (a := a) (by omega)
          have Fa : rg a < I := by omega
          have Za : rg a ≠ 0 := by omega
          have kb := kindN_nan cb
          rw [add_nan (a := a) (b := b) (by omega)]
          clear hI ca cb
          go_enter Tryd.func22, Tryd.ntmps22
          go_wp2_with fail
          refine (rkind_any a _ ha).mono ?_
          rintro e w' ⟨rfl, rfl⟩
          go_wp2_with fail
          refine (rkind_any b _ hb).mono ?_
          rintro e w' ⟨rfl, rfl⟩
          go_wp2
          go_ret
          exact ⟨rfl, rfl⟩
        · by_cases cb : rg b = I
          · have ka := kind_ne (a := a) (by omega)
            have Fa : rg a < I := by omega
            have Za : rg a ≠ 0 := by omega
            have kb := kind_ne (a := b) (by omega)
            have Fb : ¬ rg b < I := by omega
            have Zb : rg b ≠ 0 := by omega
            rw [add_inf_r (a := a) hb (by omega) cb]
            clear hI ca cb
            go_enter Tryd.func22, Tryd.ntmps22
            go_wp2_with fail
            refine (rkind_any a _ ha).mono ?_
            rintro e w' ⟨rfl, rfl⟩
            go_wp2_with fail
            refine (rkind_any b _ hb).mono ?_
            rintro e w' ⟨rfl, rfl⟩
            go_wp2_with fail
            refine (fin_t a ha Fa _).mono ?_
            rintro e w' ⟨rfl, rfl⟩
            go_wp2_with fail
            refine (fin_f b hb Fb _).mono ?_
            rintro e w' ⟨rfl, rfl⟩
            go_wp2
            go_ret
            exact ⟨rfl, rfl⟩
          · by_cases cb : rg b = 0
            · have ka := kind_ne (a := a) (by omega)
              have Fa : rg a < I := by omega
              have Za : rg a ≠ 0 := by omega
              have kb := kind_ne (a := b) (by omega)
              have Fb : rg b < I := by omega
              have Zb : rg b = 0 := by omega
              obtain ⟨r, er, rl, rp⟩ := add_fin_some (a := a) (b := b) (by omega) (by omega)
              have hr : ∀ (P : Program) (t : TypeId) (w : World), (binOp .add t (.float .f64 a) (.float .f64 b)).run P w = .ok (.float .f64 r) w := fun P t w => run_float_arith w .add t .f64 a b r er
              rw [er, ← rp]
              clear er rp
              clear hI ca cb
              go_enter Tryd.func22, Tryd.ntmps22
              go_wp2_with fail
              refine (rkind_any a _ ha).mono ?_
              rintro e w' ⟨rfl, rfl⟩
              go_wp2_with fail
              refine (rkind_any b _ hb).mono ?_
              rintro e w' ⟨rfl, rfl⟩
              go_wp2_with fail
              refine (fin_t a ha Fa _).mono ?_
              rintro e w' ⟨rfl, rfl⟩
              go_wp2_with fail
              refine (fin_t b hb Fb _).mono ?_
              rintro e w' ⟨rfl, rfl⟩
              go_wp2_with fail
              refine (zero_f a ha Za _).mono ?_
              rintro e w' ⟨rfl, rfl⟩
              go_wp2_with fail
              refine (of_any r rl _).mono ?_
              rintro e w' ⟨rfl, rfl⟩
              go_wp2
              go_ret
              exact ⟨rfl, rfl⟩
            · have ka := kind_ne (a := a) (by omega)
              have Fa : rg a < I := by omega
              have Za : rg a ≠ 0 := by omega
              have kb := kind_ne (a := b) (by omega)
              have Fb : rg b < I := by omega
              have Zb : rg b ≠ 0 := by omega
              obtain ⟨r, er, rl, rp⟩ := add_fin_some (a := a) (b := b) (by omega) (by omega)
              have hr : ∀ (P : Program) (t : TypeId) (w : World), (binOp .add t (.float .f64 a) (.float .f64 b)).run P w = .ok (.float .f64 r) w := fun P t w => run_float_arith w .add t .f64 a b r er
              rw [er, ← rp]
              clear er rp
              clear hI ca cb
              go_enter Tryd.func22, Tryd.ntmps22
              go_wp2_with fail
              refine (rkind_any a _ ha).mono ?_
              rintro e w' ⟨rfl, rfl⟩
              go_wp2_with fail
              refine (rkind_any b _ hb).mono ?_
              rintro e w' ⟨rfl, rfl⟩
              go_wp2_with fail
              refine (fin_t a ha Fa _).mono ?_
              rintro e w' ⟨rfl, rfl⟩
              go_wp2_with fail
              refine (fin_t b hb Fb _).mono ?_
              rintro e w' ⟨rfl, rfl⟩
              go_wp2_with fail
              refine (zero_f a ha Za _).mono ?_
              rintro e w' ⟨rfl, rfl⟩
              go_wp2_with fail
              refine (of_any r rl _).mono ?_
              rintro e w' ⟨rfl, rfl⟩
              go_wp2
              go_ret
              exact ⟨rfl, rfl⟩

theorem rfmul_any (a b : Nat) (w : World) (ha : a < 18446744073709551616) (hb : b < 18446744073709551616) :
    Calls Tryd.prog 26 #[.int .u64 a, .int .u64 b] w fun e w' => e = .returned (.int .u64 (fop (Ieee.double.mul a b) : Nat)) ∧ w = w' := by
  have hI := zero_lt_I
  by_cases ca : I < rg a
  · have cb := trivial
    have ka := kindN_nan ca
    have hx := xor_sg ha hb
    rw [mul_nan (a := a) (b := b) (by omega)]
    clear hI ca cb
    go_enter Tryd.func26, Tryd.ntmps26
    go_wp2_with fail
    refine (rkind_any a _ ha).mono ?_
    rintro e w' ⟨rfl, rfl⟩
    go_wp2
    go_ret
    exact ⟨rfl, rfl⟩
  · by_cases ca : rg a = I
    · by_cases cb : I < rg b
      · have ka := kind_ne (a := a) (by omega)
        have Fa : ¬ rg a < I := by omega
        have Za : rg a ≠ 0 := by omega
        have kb := kindN_nan cb
        have hx := xor_sg ha hb
        rw [mul_nan (a := a) (b := b) (by omega)]
        clear hI ca cb
        go_enter Tryd.func26, Tryd.ntmps26
        go_wp2_with fail
        refine (rkind_any a _ ha).mono ?_
        rintro e w' ⟨rfl, rfl⟩
        go_wp2_with fail
        refine (rkind_any b _ hb).mono ?_
        rintro e w' ⟨rfl, rfl⟩
        go_wp2
        go_ret
        exact ⟨rfl, rfl⟩
      · by_cases cb : rg b = I
        · have ka := kind_ne (a := a) (by omega)
          have Fa : ¬ rg a < I := by omega
          have Za : rg a ≠ 0 := by omega
          have kb := kind_ne (a := b) (by omega)
          have Fb : ¬ rg b < I := by omega
          have Zb : rg b ≠ 0 := by omega
          have hx := xor_sg ha hb
          rw [mul_inf (a := a) (b := b) (by omega)]
          clear hI ca cb
          go_enter Tryd.func26, Tryd.ntmps26
          go_wp2_with fail
          refine (rkind_any a _ ha).mono ?_
          rintro e w' ⟨rfl, rfl⟩
          go_wp2_with fail
          refine (rkind_any b _ hb).mono ?_
          rintro e w' ⟨rfl, rfl⟩
          go_wp2_with fail
          refine (fin_f a ha Fa _).mono ?_
          rintro e w' ⟨rfl, rfl⟩
          go_wp2_with fail
          refine (zero_f b hb Zb _).mono ?_
          rintro e w' ⟨rfl, rfl⟩
          go_wp2_with fail
          refine (zero_f a ha Za _).mono ?_
          rintro e w' ⟨rfl, rfl⟩
          go_wp2_with fail
          refine (fin_f a ha Fa _).mono ?_
          rintro e w' ⟨rfl, rfl⟩
          go_wp2_with fail
          refine (inf_any (sg a ^^ sg b) _).mono ?_
          rintro e w' ⟨rfl, rfl⟩
          go_wp2
          go_ret
          exact ⟨rfl, rfl⟩
        · by_cases cb : rg b = 0
          · have ka := kind_ne (a := a) (by omega)
            have Fa : ¬ rg a < I := by omega
            have Za : rg a ≠ 0 := by omega
            have kb := kind_ne (a := b) (by omega)
            have Fb : rg b < I := by omega
            have Zb : rg b = 0 := by omega
            have hx := xor_sg ha hb
            rw [mul_edge (a := a) (b := b) (by omega)]
            clear hI ca cb
            go_enter Tryd.func26, Tryd.ntmps26
            go_wp2_with fail
            refine (rkind_any a _ ha).mono ?_
            rintro e w' ⟨rfl, rfl⟩
            go_wp2_with fail
            refine (rkind_any b _ hb).mono ?_
            rintro e w' ⟨rfl, rfl⟩
            go_wp2_with fail
            refine (fin_f a ha Fa _).mono ?_
            rintro e w' ⟨rfl, rfl⟩
            go_wp2_with fail
            refine (zero_t b hb Zb _).mono ?_
            rintro e w' ⟨rfl, rfl⟩
            go_wp2
            go_ret
            exact ⟨rfl, rfl⟩
          · have ka := kind_ne (a := a) (by omega)
            have Fa : ¬ rg a < I := by omega
            have Za : rg a ≠ 0 := by omega
            have kb := kind_ne (a := b) (by omega)
            have Fb : rg b < I := by omega
            have Zb : rg b ≠ 0 := by omega
            have hx := xor_sg ha hb
            rw [mul_inf (a := a) (b := b) (by omega)]
            clear hI ca cb
            go_enter Tryd.func26, Tryd.ntmps26
            go_wp2_with fail
            refine (rkind_any a _ ha).mono ?_
            rintro e w' ⟨rfl, rfl⟩
            go_wp2_with fail
            refine (rkind_any b _ hb).mono ?_
            rintro e w' ⟨rfl, rfl⟩
            go_wp2_with fail
            refine (fin_f a ha Fa _).mono ?_
            rintro e w' ⟨rfl, rfl⟩
            go_wp2_with fail
            refine (zero_f b hb Zb _).mono ?_
            rintro e w' ⟨rfl, rfl⟩
            go_wp2_with fail
            refine (zero_f a ha Za _).mono ?_
            rintro e w' ⟨rfl, rfl⟩
            go_wp2_with fail
            refine (fin_f a ha Fa _).mono ?_
            rintro e w' ⟨rfl, rfl⟩
            go_wp2_with fail
            refine (inf_any (sg a ^^ sg b) _).mono ?_
            rintro e w' ⟨rfl, rfl⟩
            go_wp2
            go_ret
            exact ⟨rfl, rfl⟩
    · by_cases ca : rg a = 0
      · by_cases cb : I < rg b
        · have ka := kind_ne (a := a) (by omega)
          have Fa : rg a < I := by omega
          have Za : rg a = 0 := by omega
          have kb := kindN_nan cb
          have hx := xor_sg ha hb
          rw [mul_nan (a := a) (b := b) (by omega)]
          clear hI ca cb
          go_enter Tryd.func26, Tryd.ntmps26
          go_wp2_with fail
          refine (rkind_any a _ ha).mono ?_
          rintro e w' ⟨rfl, rfl⟩
          go_wp2_with fail
          refine (rkind_any b _ hb).mono ?_
          rintro e w' ⟨rfl, rfl⟩
          go_wp2
          go_ret
          exact ⟨rfl, rfl⟩
        · by_cases cb : rg b = I
          · have ka := kind_ne (a := a) (by omega)
            have Fa : rg a < I := by omega
            have Za : rg a = 0 := by omega
            have kb := kind_ne (a := b) (by omega)
            have Fb : ¬ rg b < I := by omega
            have Zb : rg b ≠ 0 := by omega
            have hx := xor_sg ha hb
            rw [mul_edge (a := a) (b := b) (by omega)]
            clear hI ca cb
            go_enter Tryd.func26, Tryd.ntmps26
            go_wp2_with fail
            refine (rkind_any a _ ha).mono ?_
            rintro e w' ⟨rfl, rfl⟩
            go_wp2_with fail
            refine (rkind_any b _ hb).mono ?_
            rintro e w' ⟨rfl, rfl⟩
            go_wp2_with fail
            refine (fin_t a ha Fa _).mono ?_
            rintro e w' ⟨rfl, rfl⟩
            go_wp2_with fail
            refine (zero_t a ha Za _).mono ?_
            rintro e w' ⟨rfl, rfl⟩
            go_wp2_with fail
            refine (fin_f b hb Fb _).mono ?_
            rintro e w' ⟨rfl, rfl⟩
            go_wp2
            go_ret
            exact ⟨rfl, rfl⟩
          · by_cases cb : rg b = 0
            · have ka := kind_ne (a := a) (by omega)
              have Fa : rg a < I := by omega
              have Za : rg a = 0 := by omega
              have kb := kind_ne (a := b) (by omega)
              have Fb : rg b < I := by omega
              have Zb : rg b = 0 := by omega
              have hx := xor_sg ha hb
              rw [mul_zero (a := a) (b := b) (by omega)]
              clear hI ca cb
              go_enter Tryd.func26, Tryd.ntmps26
              go_wp2_with fail
              refine (rkind_any a _ ha).mono ?_
              rintro e w' ⟨rfl, rfl⟩
              go_wp2_with fail
              refine (rkind_any b _ hb).mono ?_
              rintro e w' ⟨rfl, rfl⟩
              go_wp2_with fail
              refine (fin_t a ha Fa _).mono ?_
              rintro e w' ⟨rfl, rfl⟩
              go_wp2_with fail
              refine (zero_t a ha Za _).mono ?_
              rintro e w' ⟨rfl, rfl⟩
              go_wp2_with fail
              refine (fin_t b hb Fb _).mono ?_
              rintro e w' ⟨rfl, rfl⟩
              go_wp2_with fail
              refine (fin_t a ha Fa _).mono ?_
              rintro e w' ⟨rfl, rfl⟩
              go_wp2_with fail
              refine (fin_t b hb Fb _).mono ?_
              rintro e w' ⟨rfl, rfl⟩
              go_wp2_with fail
              refine (zero_t a ha Za _).mono ?_
              rintro e w' ⟨rfl, rfl⟩
              go_wp2_with fail
              refine (nul_any (sg a ^^ sg b) _).mono ?_
              rintro e w' ⟨rfl, rfl⟩
              go_wp2
              go_ret
              exact ⟨rfl, rfl⟩
            · have ka := kind_ne (a := a) (by omega)
              have Fa : rg a < I := by omega
              have Za : rg a = 0 := by omega
              have kb := kind_ne (a := b) (by omega)
              have Fb : rg b < I := by omega
              have Zb : rg b ≠ 0 := by omega
              have hx := xor_sg ha hb
              rw [mul_zero (a := a) (b := b) (by omega)]
              clear hI ca cb
              go_enter Tryd.func26, Tryd.ntmps26
              go_wp2_with fail
              refine (rkind_any a _ ha).mono ?_
              rintro e w' ⟨rfl, rfl⟩
              go_wp2_with fail
              refine (rkind_any b _ hb).mono ?_
              rintro e w' ⟨rfl, rfl⟩
              go_wp2_with fail
              refine (fin_t a ha Fa _).mono ?_
              rintro e w' ⟨rfl, rfl⟩
              go_wp2_with fail
              refine (zero_t a ha Za _).mono ?_
              rintro e w' ⟨rfl, rfl⟩
              go_wp2_with fail
              refine (fin_t b hb Fb _).mono ?_
              rintro e w' ⟨rfl, rfl⟩
              go_wp2_with fail
              refine (fin_t a ha Fa _).mono ?_
              rintro e w' ⟨rfl, rfl⟩
              go_wp2_with fail
              refine (fin_t b hb Fb _).mono ?_
              rintro e w' ⟨rfl, rfl⟩
              go_wp2_with fail
              refine (zero_t a ha Za _).mono ?_
              rintro e w' ⟨rfl, rfl⟩
              go_wp2_with fail
              refine (nul_any (sg a ^^ sg b) _).mono ?_
              rintro e w' ⟨rfl, rfl⟩
              go_wp2
              go_ret
              exact ⟨rfl, rfl⟩
      · by_cases cb : I < rg b
        · have ka := kind_ne (a := a) (by omega)
          have Fa : rg a < I := by omega
          have Za : rg a ≠ 0 := by omega
          have kb := kindN_nan cb
          have hx := xor_sg ha hb
          rw [mul_nan (a := a) (b := b) (by omega)]
          clear hI ca cb
          go_enter Tryd.func26, Tryd.ntmps26
          go_wp2_with fail
          refine (rkind_any a _ ha).mono ?_
          rintro e w' ⟨rfl, rfl⟩
          go_wp2_with fail
          refine (rkind_any b _ hb).mono ?_
          rintro e w' ⟨rfl, rfl⟩
          go_wp2
          go_ret
          exact ⟨rfl, rfl⟩
        · by_cases cb : rg b = I
          · have ka := kind_ne (a := a) (by omega)
            have Fa : rg a < I := by omega
            have Za : rg a ≠ 0 := by omega
            have kb := kind_ne (a := b) (by omega)
            have Fb : ¬ rg b < I := by omega
            have Zb : rg b ≠ 0 := by omega
            have hx := xor_sg ha hb
            rw [mul_inf (a := a) (b := b) (by omega)]
            clear hI ca cb
            go_enter Tryd.func26, Tryd.ntmps26
            go_wp2_with fail
            refine (rkind_any a _ ha).mono ?_
            rintro e w' ⟨rfl, rfl⟩
            go_wp2_with fail
            refine (rkind_any b _ hb).mono ?_
            rintro e w' ⟨rfl, rfl⟩
            go_wp2_with fail
            refine (fin_t a ha Fa _).mono ?_
            rintro e w' ⟨rfl, rfl⟩
            go_wp2_with fail
            refine (zero_f a ha Za _).mono ?_
            rintro e w' ⟨rfl, rfl⟩
            go_wp2_with fail
            refine (fin_t a ha Fa _).mono ?_
            rintro e w' ⟨rfl, rfl⟩
            go_wp2_with fail
            refine (fin_f b hb Fb _).mono ?_
            rintro e w' ⟨rfl, rfl⟩
            go_wp2_with fail
            refine (inf_any (sg a ^^ sg b) _).mono ?_
            rintro e w' ⟨rfl, rfl⟩
            go_wp2
            go_ret
            exact ⟨rfl, rfl⟩
          · by_cases cb : rg b = 0
            · have ka := kind_ne (a := a) (by omega)
              have Fa : rg a < I := by omega
              have Za : rg a ≠ 0 := by omega
              have kb := kind_ne (a := b) (by omega)
              have Fb : rg b < I := by omega
              have Zb : rg b = 0 := by omega
              have hx := xor_sg ha hb
              rw [mul_zero (a := a) (b := b) (by omega)]
              clear hI ca cb
              go_enter Tryd.func26, Tryd.ntmps26
              go_wp2_with fail
              refine (rkind_any a _ ha).mono ?_
              rintro e w' ⟨rfl, rfl⟩
              go_wp2_with fail
              refine (rkind_any b _ hb).mono ?_
              rintro e w' ⟨rfl, rfl⟩
              go_wp2_with fail
              refine (fin_t a ha Fa _).mono ?_
              rintro e w' ⟨rfl, rfl⟩
              go_wp2_with fail
              refine (zero_f a ha Za _).mono ?_
              rintro e w' ⟨rfl, rfl⟩
              go_wp2_with fail
              refine (fin_t a ha Fa _).mono ?_
              rintro e w' ⟨rfl, rfl⟩
              go_wp2_with fail
              refine (fin_t b hb Fb _).mono ?_
              rintro e w' ⟨rfl, rfl⟩
              go_wp2_with fail
              refine (zero_f a ha Za _).mono ?_
              rintro e w' ⟨rfl, rfl⟩
              go_wp2_with fail
              refine (zero_t b hb Zb _).mono ?_
              rintro e w' ⟨rfl, rfl⟩
              go_wp2_with fail
              refine (nul_any (sg a ^^ sg b) _).mono ?_
              rintro e w' ⟨rfl, rfl⟩
              go_wp2
              go_ret
              exact ⟨rfl, rfl⟩
            · have ka := kind_ne (a := a) (by omega)
              have Fa : rg a < I := by omega
              have Za : rg a ≠ 0 := by omega
              have kb := kind_ne (a := b) (by omega)
              have Fb : rg b < I := by omega
              have Zb : rg b ≠ 0 := by omega
              have hx := xor_sg ha hb
              obtain ⟨r, er, rl, rp⟩ := mul_fin_some (a := a) (b := b) (by omega) (by omega)
              have hr : ∀ (P : Program) (t : TypeId) (w : World), (binOp .mul t (.float .f64 a) (.float .f64 b)).run P w = .ok (.float .f64 r) w := fun P t w => run_float_arith w .mul t .f64 a b r er
              rw [er, ← rp]
              clear er rp
              clear hI ca cb
              go_enter Tryd.func26, Tryd.ntmps26
              go_wp2_with fail
              refine (rkind_any a _ ha).mono ?_
              rintro e w' ⟨rfl, rfl⟩
              go_wp2_with fail
              refine (rkind_any b _ hb).mono ?_
              rintro e w' ⟨rfl, rfl⟩
              go_wp2_with fail
              refine (fin_t a ha Fa _).mono ?_
              rintro e w' ⟨rfl, rfl⟩
              go_wp2_with fail
              refine (zero_f a ha Za _).mono ?_
              rintro e w' ⟨rfl, rfl⟩
              go_wp2_with fail
              refine (fin_t a ha Fa _).mono ?_
              rintro e w' ⟨rfl, rfl⟩
              go_wp2_with fail
              refine (fin_t b hb Fb _).mono ?_
              rintro e w' ⟨rfl, rfl⟩
              go_wp2_with fail
              refine (zero_f a ha Za _).mono ?_
              rintro e w' ⟨rfl, rfl⟩
              go_wp2_with fail
              refine (zero_f b hb Zb _).mono ?_
              rintro e w' ⟨rfl, rfl⟩
              go_wp2_with fail
              refine (of_any r rl _).mono ?_
              rintro e w' ⟨rfl, rfl⟩
              go_wp2
              go_ret
              exact ⟨rfl, rfl⟩

theorem rfdiv_any (a b : Nat) (w : World) (ha : a < 18446744073709551616) (hb : b < 18446744073709551616) :
    Calls Tryd.prog 28 #[.int .u64 a, .int .u64 b] w fun e w' => e = .returned (.int .u64 (fop (Ieee.double.div a b) : Nat)) ∧ w = w' := by
  have hI := zero_lt_I
  by_cases ca : I < rg a
  · have cb := trivial
    have ka := kindN_nan ca
    have hx := xor_sg ha hb
    rw [div_nan (a := a) (b := b) (by omega)]
    clear hI ca cb
    go_enter Tryd.func28, Tryd.ntmps28
    go_wp2_with fail
    refine (rkind_any a _ ha).mono ?_
    rintro e w' ⟨rfl, rfl⟩
    go_wp2
    go_ret
    exact ⟨rfl, rfl⟩
  · by_cases ca : rg a = I
    · by_cases cb : I < rg b
      · have ka := kind_ne (a := a) (by omega)
        have Fa : ¬ rg a < I := by omega
        have Za : rg a ≠ 0 := by omega
        have kb := kindN_nan cb
        have hx := xor_sg ha hb
        rw [div_nan (a := a) (b := b) (by omega)]
        clear hI ca cb
        go_enter Tryd.func28, Tryd.ntmps28
        go_wp2_with fail
        refine (rkind_any a _ ha).mono ?_
        rintro e w' ⟨rfl, rfl⟩
        go_wp2_with fail
        refine (rkind_any b _ hb).mono ?_
        rintro e w' ⟨rfl, rfl⟩
        go_wp2
        go_ret
        exact ⟨rfl, rfl⟩
      · by_cases cb : rg b = I
        · have ka := kind_ne (a := a) (by omega)
          have Fa : ¬ rg a < I := by omega
          have Za : rg a ≠ 0 := by omega
          have kb := kind_ne (a := b) (by omega)
          have Fb : ¬ rg b < I := by omega
          have Zb : rg b ≠ 0 := by omega
          have hx := xor_sg ha hb
          rw [div_edge (a := a) (b := b) (by omega)]
          clear hI ca cb
          go_enter Tryd.func28, Tryd.ntmps28
          go_wp2_with fail
          refine (rkind_any a _ ha).mono ?_
          rintro e w' ⟨rfl, rfl⟩
          go_wp2_with fail
          refine (rkind_any b _ hb).mono ?_
          rintro e w' ⟨rfl, rfl⟩
          go_wp2_with fail
          refine (fin_f a ha Fa _).mono ?_
          rintro e w' ⟨rfl, rfl⟩
          go_wp2_with fail
          refine (fin_f b hb Fb _).mono ?_
          rintro e w' ⟨rfl, rfl⟩
          go_wp2
          go_ret
          exact ⟨rfl, rfl⟩
        · by_cases cb : rg b = 0
          · have ka := kind_ne (a := a) (by omega)
            have Fa : ¬ rg a < I := by omega
            have Za : rg a ≠ 0 := by omega
            have kb := kind_ne (a := b) (by omega)
            have Fb : rg b < I := by omega
            have Zb : rg b = 0 := by omega
            have hx := xor_sg ha hb
            rw [div_inf (a := a) (b := b) (by omega)]
            clear hI ca cb
            go_enter Tryd.func28, Tryd.ntmps28
            go_wp2_with fail
            refine (rkind_any a _ ha).mono ?_
            rintro e w' ⟨rfl, rfl⟩
            go_wp2_with fail
            refine (rkind_any b _ hb).mono ?_
            rintro e w' ⟨rfl, rfl⟩
            go_wp2_with fail
            refine (fin_f a ha Fa _).mono ?_
            rintro e w' ⟨rfl, rfl⟩
            go_wp2_with fail
            refine (fin_t b hb Fb _).mono ?_
            rintro e w' ⟨rfl, rfl⟩
            go_wp2_with fail
            refine (zero_f a ha Za _).mono ?_
            rintro e w' ⟨rfl, rfl⟩
            go_wp2_with fail
            refine (fin_f a ha Fa _).mono ?_
            rintro e w' ⟨rfl, rfl⟩
            go_wp2_with fail
            refine (inf_any (sg a ^^ sg b) _).mono ?_
            rintro e w' ⟨rfl, rfl⟩
            go_wp2
            go_ret
            exact ⟨rfl, rfl⟩
          · have ka := kind_ne (a := a) (by omega)
            have Fa : ¬ rg a < I := by omega
            have Za : rg a ≠ 0 := by omega
            have kb := kind_ne (a := b) (by omega)
            have Fb : rg b < I := by omega
            have Zb : rg b ≠ 0 := by omega
            have hx := xor_sg ha hb
            rw [div_inf (a := a) (b := b) (by omega)]
            clear hI ca cb
            go_enter Tryd.func28, Tryd.ntmps28
            go_wp2_with fail
            refine (rkind_any a _ ha).mono ?_
            rintro e w' ⟨rfl, rfl⟩
            go_wp2_with fail
            refine (rkind_any b _ hb).mono ?_
            rintro e w' ⟨rfl, rfl⟩
            go_wp2_with fail
            refine (fin_f a ha Fa _).mono ?_
            rintro e w' ⟨rfl, rfl⟩
            go_wp2_with fail
            refine (fin_t b hb Fb _).mono ?_
            rintro e w' ⟨rfl, rfl⟩
            go_wp2_with fail
            refine (zero_f a ha Za _).mono ?_
            rintro e w' ⟨rfl, rfl⟩
            go_wp2_with fail
            refine (fin_f a ha Fa _).mono ?_
            rintro e w' ⟨rfl, rfl⟩
            go_wp2_with fail
            refine (inf_any (sg a ^^ sg b) _).mono ?_
            rintro e w' ⟨rfl, rfl⟩
            go_wp2
            go_ret
            exact ⟨rfl, rfl⟩
    · by_cases ca : rg a = 0
      · by_cases cb : I < rg b
        · have ka := kind_ne (a := a) (by omega)
          have Fa : rg a < I := by omega
          have Za : rg a = 0 := by omega
          have kb := kindN_nan cb
          have hx := xor_sg ha hb
          rw [div_nan (a := a) (b := b) (by omega)]
          clear hI ca cb
          go_enter Tryd.func28, Tryd.ntmps28
          go_wp2_with fail
          refine (rkind_any a _ ha).mono ?_
          rintro e w' ⟨rfl, rfl⟩
          go_wp2_with fail
          refine (rkind_any b _ hb).mono ?_
          rintro e w' ⟨rfl, rfl⟩
          go_wp2
          go_ret
          exact ⟨rfl, rfl⟩
        · by_cases cb : rg b = I
          · have ka := kind_ne (a := a) (by omega)
            have Fa : rg a < I := by omega
            have Za : rg a = 0 := by omega
            have kb := kind_ne (a := b) (by omega)
            have Fb : ¬ rg b < I := by omega
            have Zb : rg b ≠ 0 := by omega
            have hx := xor_sg ha hb
            rw [div_zero (a := a) (b := b) (by omega)]
            clear hI ca cb
            go_enter Tryd.func28, Tryd.ntmps28
            go_wp2_with fail
            refine (rkind_any a _ ha).mono ?_
            rintro e w' ⟨rfl, rfl⟩
            go_wp2_with fail
            refine (rkind_any b _ hb).mono ?_
            rintro e w' ⟨rfl, rfl⟩
            go_wp2_with fail
            refine (fin_t a ha Fa _).mono ?_
            rintro e w' ⟨rfl, rfl⟩
            go_wp2_with fail
            refine (zero_t a ha Za _).mono ?_
            rintro e w' ⟨rfl, rfl⟩
            go_wp2_with fail
            refine (zero_f b hb Zb _).mono ?_
            rintro e w' ⟨rfl, rfl⟩
            go_wp2_with fail
            refine (fin_t a ha Fa _).mono ?_
            rintro e w' ⟨rfl, rfl⟩
            go_wp2_with fail
            refine (zero_f b hb Zb _).mono ?_
            rintro e w' ⟨rfl, rfl⟩
            go_wp2_with fail
            refine (zero_t a ha Za _).mono ?_
            rintro e w' ⟨rfl, rfl⟩
            go_wp2_with fail
            refine (nul_any (sg a ^^ sg b) _).mono ?_
            rintro e w' ⟨rfl, rfl⟩
            go_wp2
            go_ret
            exact ⟨rfl, rfl⟩
          · by_cases cb : rg b = 0
            · have ka := kind_ne (a := a) (by omega)
              have Fa : rg a < I := by omega
              have Za : rg a = 0 := by omega
              have kb := kind_ne (a := b) (by omega)
              have Fb : rg b < I := by omega
              have Zb : rg b = 0 := by omega
              have hx := xor_sg ha hb
              rw [div_edge (a := a) (b := b) (by omega)]
              clear hI ca cb
              go_enter Tryd.func28, Tryd.ntmps28
              go_wp2_with fail
              refine (rkind_any a _ ha).mono ?_
              rintro e w' ⟨rfl, rfl⟩
              go_wp2_with fail
              refine (rkind_any b _ hb).mono ?_
              rintro e w' ⟨rfl, rfl⟩
              go_wp2_with fail
              refine (fin_t a ha Fa _).mono ?_
              rintro e w' ⟨rfl, rfl⟩
              go_wp2_with fail
              refine (zero_t a ha Za _).mono ?_
              rintro e w' ⟨rfl, rfl⟩
              go_wp2_with fail
              refine (zero_t b hb Zb _).mono ?_
              rintro e w' ⟨rfl, rfl⟩
              go_wp2
              go_ret
              exact ⟨rfl, rfl⟩
            · have ka := kind_ne (a := a) (by omega)
              have Fa : rg a < I := by omega
              have Za : rg a = 0 := by omega
              have kb := kind_ne (a := b) (by omega)
              have Fb : rg b < I := by omega
              have Zb : rg b ≠ 0 := by omega
              have hx := xor_sg ha hb
              rw [div_zero (a := a) (b := b) (by omega)]
              clear hI ca cb
              go_enter Tryd.func28, Tryd.ntmps28
              go_wp2_with fail
              refine (rkind_any a _ ha).mono ?_
              rintro e w' ⟨rfl, rfl⟩
              go_wp2_with fail
              refine (rkind_any b _ hb).mono ?_
              rintro e w' ⟨rfl, rfl⟩
              go_wp2_with fail
              refine (fin_t a ha Fa _).mono ?_
              rintro e w' ⟨rfl, rfl⟩
              go_wp2_with fail
              refine (zero_t a ha Za _).mono ?_
              rintro e w' ⟨rfl, rfl⟩
              go_wp2_with fail
              refine (zero_f b hb Zb _).mono ?_
              rintro e w' ⟨rfl, rfl⟩
              go_wp2_with fail
              refine (fin_t a ha Fa _).mono ?_
              rintro e w' ⟨rfl, rfl⟩
              go_wp2_with fail
              refine (zero_f b hb Zb _).mono ?_
              rintro e w' ⟨rfl, rfl⟩
              go_wp2_with fail
              refine (zero_t a ha Za _).mono ?_
              rintro e w' ⟨rfl, rfl⟩
              go_wp2_with fail
              refine (nul_any (sg a ^^ sg b) _).mono ?_
              rintro e w' ⟨rfl, rfl⟩
              go_wp2
              go_ret
              exact ⟨rfl, rfl⟩
      · by_cases cb : I < rg b
        · have ka := kind_ne (a := a) (by omega)
          have Fa : rg a < I := by omega
          have Za : rg a ≠ 0 := by omega
          have kb := kindN_nan cb
          have hx := xor_sg ha hb
          rw [div_nan (a := a) (b := b) (by omega)]
          clear hI ca cb
          go_enter Tryd.func28, Tryd.ntmps28
          go_wp2_with fail
          refine (rkind_any a _ ha).mono ?_
          rintro e w' ⟨rfl, rfl⟩
          go_wp2_with fail
          refine (rkind_any b _ hb).mono ?_
          rintro e w' ⟨rfl, rfl⟩
          go_wp2
          go_ret
          exact ⟨rfl, rfl⟩
        · by_cases cb : rg b = I
          · have ka := kind_ne (a := a) (by omega)
            have Fa : rg a < I := by omega
            have Za : rg a ≠ 0 := by omega
            have kb := kind_ne (a := b) (by omega)
            have Fb : ¬ rg b < I := by omega
            have Zb : rg b ≠ 0 := by omega
            have hx := xor_sg ha hb
            rw [div_zero (a := a) (b := b) (by omega)]
            clear hI ca cb
            go_enter Tryd.func28, Tryd.ntmps28
            go_wp2_with fail
            refine (rkind_any a _ ha).mono ?_
            rintro e w' ⟨rfl, rfl⟩
            go_wp2_with fail
            refine (rkind_any b _ hb).mono ?_
            rintro e w' ⟨rfl, rfl⟩
            go_wp2_with fail
            refine (fin_t a ha Fa _).mono ?_
            rintro e w' ⟨rfl, rfl⟩
            go_wp2_with fail
            refine (zero_f a ha Za _).mono ?_
            rintro e w' ⟨rfl, rfl⟩
            go_wp2_with fail
            refine (fin_t a ha Fa _).mono ?_
            rintro e w' ⟨rfl, rfl⟩
            go_wp2_with fail
            refine (zero_f b hb Zb _).mono ?_
            rintro e w' ⟨rfl, rfl⟩
            go_wp2_with fail
            refine (zero_f a ha Za _).mono ?_
            rintro e w' ⟨rfl, rfl⟩
            go_wp2_with fail
            refine (fin_f b hb Fb _).mono ?_
            rintro e w' ⟨rfl, rfl⟩
            go_wp2_with fail
            refine (nul_any (sg a ^^ sg b) _).mono ?_
            rintro e w' ⟨rfl, rfl⟩
            go_wp2
            go_ret
            exact ⟨rfl, rfl⟩
          · by_cases cb : rg b = 0
            · have ka := kind_ne (a := a) (by omega)
              have Fa : rg a < I := by omega
              have Za : rg a ≠ 0 := by omega
              have kb := kind_ne (a := b) (by omega)
              have Fb : rg b < I := by omega
              have Zb : rg b = 0 := by omega
              have hx := xor_sg ha hb
              rw [div_inf (a := a) (b := b) (by omega)]
              clear hI ca cb
              go_enter Tryd.func28, Tryd.ntmps28
              go_wp2_with fail
              refine (rkind_any a _ ha).mono ?_
              rintro e w' ⟨rfl, rfl⟩
              go_wp2_with fail
              refine (rkind_any b _ hb).mono ?_
              rintro e w' ⟨rfl, rfl⟩
              go_wp2_with fail
              refine (fin_t a ha Fa _).mono ?_
              rintro e w' ⟨rfl, rfl⟩
              go_wp2_with fail
              refine (zero_f a ha Za _).mono ?_
              rintro e w' ⟨rfl, rfl⟩
              go_wp2_with fail
              refine (fin_t a ha Fa _).mono ?_
              rintro e w' ⟨rfl, rfl⟩
              go_wp2_with fail
              refine (zero_t b hb Zb _).mono ?_
              rintro e w' ⟨rfl, rfl⟩
              go_wp2_with fail
              refine (inf_any (sg a ^^ sg b) _).mono ?_
              rintro e w' ⟨rfl, rfl⟩
              go_wp2
              go_ret
              exact ⟨rfl, rfl⟩
            · have ka := kind_ne (a := a) (by omega)
              have Fa : rg a < I := by omega
              have Za : rg a ≠ 0 := by omega
              have kb := kind_ne (a := b) (by omega)
              have Fb : rg b < I := by omega
              have Zb : rg b ≠ 0 := by omega
              have hx := xor_sg ha hb
              obtain ⟨r, er, rl, rp⟩ := div_fin_some (a := a) (b := b) (by omega) (by omega) (by omega)
              have hr : ∀ (P : Program) (t : TypeId) (w : World), (binOp .quo t (.float .f64 a) (.float .f64 b)).run P w = .ok (.float .f64 r) w := fun P t w => run_float_arith w .quo t .f64 a b r er
              rw [er, ← rp]
              clear er rp
              clear hI ca cb
              go_enter Tryd.func28, Tryd.ntmps28
              go_wp2_with fail
              refine (rkind_any a _ ha).mono ?_
              rintro e w' ⟨rfl, rfl⟩
              go_wp2_with fail
              refine (rkind_any b _ hb).mono ?_
              rintro e w' ⟨rfl, rfl⟩
              go_wp2_with fail
              refine (fin_t a ha Fa _).mono ?_
              rintro e w' ⟨rfl, rfl⟩
              go_wp2_with fail
              refine (zero_f a ha Za _).mono ?_
              rintro e w' ⟨rfl, rfl⟩
              go_wp2_with fail
              refine (fin_t a ha Fa _).mono ?_
              rintro e w' ⟨rfl, rfl⟩
              go_wp2_with fail
              refine (zero_f b hb Zb _).mono ?_
              rintro e w' ⟨rfl, rfl⟩
              go_wp2_with fail
              refine (zero_f a ha Za _).mono ?_
              rintro e w' ⟨rfl, rfl⟩
              go_wp2_with fail
              refine (fin_t b hb Fb _).mono ?_
              rintro e w' ⟨rfl, rfl⟩
              go_wp2_with fail
              refine (of_any r rl _).mono ?_
              rintro e w' ⟨rfl, rfl⟩
              go_wp2
              go_ret
              exact ⟨rfl, rfl⟩

theorem rfsub_any (a b : Nat) (w : World) (ha : a < 18446744073709551616) (hb : b < 18446744073709551616) :
    Calls Tryd.prog 24 #[.int .u64 a, .int .u64 b] w fun e w' => e = .returned (.int .u64 (fop (Ieee.double.sub a b) : Nat)) ∧ w = w' := by
  have hnone : I < rg a ∨ I < rg b → Ieee.double.sub a b = none := fun h => by
    rw [sub_eq hb]; exact add_nan (by rw [rg_flip hb]; exact h)
  by_cases ca : I < rg a
  · have ka := kindN_nan ca
    rw [hnone (.inl ca)]
    clear ca hnone
    go_enter Tryd.func24, Tryd.ntmps24
    go_wp2_with fail
    refine (rkind_any a _ ha).mono ?_
    rintro e w' ⟨rfl, rfl⟩
    go_wp2
    go_ret
    exact ⟨rfl, rfl⟩
  · have ka := kind_ne (a := a) (by omega)
    by_cases cb : I < rg b
    · have kb := kindN_nan cb
      rw [hnone (.inr cb)]
      clear ca cb hnone
      go_enter Tryd.func24, Tryd.ntmps24
      go_wp2_with fail
      refine (rkind_any a _ ha).mono ?_
      rintro e w' ⟨rfl, rfl⟩
      go_wp2_with fail
      refine (rkind_any b _ hb).mono ?_
      rintro e w' ⟨rfl, rfl⟩
      go_wp2
      go_ret
      exact ⟨rfl, rfl⟩
    · have kb := kind_ne (a := b) (by omega)
      have hf : fneg b = flip b := by unfold fneg plainN; rw [rg_flip hb, if_neg cb]
      rw [sub_eq hb]
      clear ca cb hnone
      go_enter Tryd.func24, Tryd.ntmps24
      go_wp2_with fail
      refine (rkind_any a _ ha).mono ?_
      rintro e w' ⟨rfl, rfl⟩
      go_wp2_with fail
      refine (rkind_any b _ hb).mono ?_
      rintro e w' ⟨rfl, rfl⟩
      go_wp2_with fail
      refine (rfneg_any b hb _).mono ?_
      rintro e w' ⟨rfl, rfl⟩
      go_wp2_with fail
      refine (rfadd_any a (flip b) _ ha (flip_lt hb)).mono ?_
      rintro e w' ⟨rfl, rfl⟩
      go_wp2
      go_ret
      exact ⟨rfl, rfl⟩
end Go.Proofs.YtledjocmihcfnaaDoor

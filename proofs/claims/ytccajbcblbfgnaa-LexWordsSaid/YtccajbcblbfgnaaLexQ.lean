/- The walks of the reference of layer 1: ends, numbers. -/
import Derived.Test.YtccajbcblbfgnaaLexM
namespace Go.Proofs.Ytccajbcblbfgnaa
open Go.RowKit Lx
theorem drop_len (s : ByteArray) (a : Nat) : ((bs s).drop a).length = s.size - a := by rw [List.length_drop, bs_len]
theorem spanAt_iff (P : UInt8 → Bool) (s : ByteArray) (a k : Nat) (hk : a + k < s.size) (h : k ≤ twL P ((bs s).drop a)) : P s[a + k] = true ↔ k < twL P ((bs s).drop a) := by
  have := tw_iff P ((bs s).drop a) k (by rw [drop_len]; omega) h
  rw [List.getElem_drop] at this
  exact this
theorem twAt_le (P : UInt8 → Bool) (s : ByteArray) (a : Nat) (ha : a ≤ s.size) : a + twL P ((bs s).drop a) ≤ s.size := by
  have := twL_le P ((bs s).drop a)
  rw [drop_len] at this; omega
theorem rend_any (s : ByteArray) (a : Nat) (ha : a ≤ s.size) (hs : s.size ≤ 1000000) (w : World) :
    Calls Try.prog 49 #[.string s, .int .i64 a] w fun e w' => e = .returned (.int .i64 ((a + twL innerB ((bs s).drop a) : Nat))) ∧ w = w' := by
  have hL := twAt_le innerB s a ha
  go_enter Try.func49, Try.ntmps49
  go_wp2
  go_loop [1] (fun n => ∃ k : Nat, k ≤ twL innerB ((bs s).drop a) ∧ n = .int .i64 ((a + k : Nat) : Int)) (fun n => s.size - (intOf n).toNat)
  case atStart => exact ⟨0, Nat.zero_le _, rfl⟩
  case round =>
    obtain ⟨k, hk, rfl⟩ := hrel
    by_cases hlt : a + k < s.size
    · have hi := spanAt_iff innerB s a k hlt hk
      obtain ⟨j, hj⟩ : ∃ j, j = a + k := ⟨_, rfl⟩
      have hjl : j < s.size := by omega
      have hi' : innerB s[j] = true ↔ k < twL innerB ((bs s).drop a) := by subst hj; exact hi
      rw [← hj]
      have HJ := Lib.hid hj
      have HI := Lib.hid hi'
      clear hi hi' hj
      by_cases hl : letterB s[j] = true
      · have hkl := HI.out.1 (by unfold innerB; rw [hl]; rfl)
        go_wp2_with (first | (go_at_call 48; refine (rletter_any _ _).mono ?_; rintro e w' ⟨rfl, rfl⟩) | (go_at_call 50; refine (rdigit_any _ _).mono ?_; rintro e w' ⟨rfl, rfl⟩))
        go_round
        case rel => exact ⟨k + 1, by omega, by have := HJ.out; go_num⟩
        case measure => simp [intOf]; omega
      · have hlf : letterB s[j] = false := eq_false_of_ne_true hl
        by_cases hd : digitB s[j] = true
        · have hkl := HI.out.1 (by unfold innerB; rw [hd, Bool.or_true])
          go_wp2_with (first | (go_at_call 48; refine (rletter_any _ _).mono ?_; rintro e w' ⟨rfl, rfl⟩) | (go_at_call 50; refine (rdigit_any _ _).mono ?_; rintro e w' ⟨rfl, rfl⟩))
          go_round
          case rel => exact ⟨k + 1, by omega, by have := HJ.out; go_num⟩
          case measure => simp [intOf]; omega
        · have hdf : digitB s[j] = false := eq_false_of_ne_true hd
          have hkl : ¬ k < twL innerB ((bs s).drop a) := fun h => by have := HI.out.2 h; unfold innerB at this; rw [hlf, hdf] at this; cases this
          go_wp2_with (first | (go_at_call 48; refine (rletter_any _ _).mono ?_; rintro e w' ⟨rfl, rfl⟩) | (go_at_call 50; refine (rdigit_any _ _).mono ?_; rintro e w' ⟨rfl, rfl⟩))
          go_ret
          exact ⟨rint (by have := HJ.out; omega), rfl⟩
    · go_wp2
      go_ret
      exact ⟨rint (by omega), rfl⟩
def kindOf (n : Nat) (R : Nat × Nat) : Nat := if R.2 = 0 then n else 0
theorem rok {v k : Nat} {R : Nat × Nat} (h : R = (v, 0)) : Ending.returned (.tuple #[.int .u64 v, .int .i64 k, .int .i64 0]) = .returned (.tuple #[.int .u64 R.1, .int .i64 (kindOf k R : Nat), .int .i64 R.2]) := by rw [h]; rfl
theorem rno {k c : Nat} {R : Nat × Nat} (h : R = (0, c)) (hc : c ≠ 0) : Ending.returned (.tuple #[.int .u64 0, .int .i64 0, .int .i64 c]) = .returned (.tuple #[.int .u64 R.1, .int .i64 (kindOf k R : Nat), .int .i64 R.2]) := by
  rw [h]; unfold kindOf; simp only []; rw [if_neg hc]; rfl
/-- The reference's number of 18 bytes that begins with 0f. -/
theorem rnumber_hex (s : ByteArray) (hs1 : s.size ≤ 18) (hs2 : 18 ≤ s.size) (h0 : s[0].toNat = 48) (h1 : s[1].toNat = 102) (R : Nat × Nat) (hR : hexS 0 ((bs s).drop 2) = R) (w : World) :
    Calls Try.prog 51 #[.string s] w fun e w' => e = .returned (.tuple #[.int .u64 R.1, .int .i64 (kindOf 4 R : Nat), .int .i64 R.2]) ∧ w = w' := by
  have e18 : ((s.size : Int) == 18) = true := by rw [beq_iff_eq]; omega
  have e0 : ((s[0].toNat : Int) == 48) = true := by rw [beq_iff_eq]; omega
  have e1 : ((s[1].toNat : Int) == 102) = true := by rw [beq_iff_eq]; omega
  have HR := Lib.hid hR
  clear h0 h1 hR
  go_enter Try.func51, Try.ntmps51
  go_wp2
  go_loop [5, 6] (fun u i => ∃ k v : Nat, k ≤ s.size ∧ 2 ≤ k ∧ i = .int .i64 k ∧ u = .int .u64 v ∧ Hid (HI_ s k v)) (fun _ i => s.size - (intOf i).toNat)
  case atStart => exact ⟨2, 0, by omega, by omega, rfl, rfl, by decide, rfl⟩
  case round =>
    obtain ⟨k, v, hk, hk2, rfl, rfl, HI⟩ := hrel
    by_cases hlt : k < s.size
    · have hlt2 : k < 18 := by omega
      have hb := byte_lt s[k]
      have hvl := hpow_le HI.out.1 (by omega)
      by_cases hdg : digitB s[k] = true
      · have hv := digit_v hdg
        go_wp2_with (go_at_call 50; refine (rdigit_any _ _).mono ?_; rintro e w' ⟨rfl, rfl⟩)
        go_round
        case rel =>
          have hx : hexV s[k] = some (s[k].toNat - 48) := by unfold hexV; rw [if_pos hdg]
          exact ⟨k + 1, v * 16 + (s[k].toNat - 48), by omega, by omega, by go_num, by go_num, hi_next HI.out hlt hk2 hx⟩
        case measure => simp [intOf]; omega
      · have hdf : digitB s[k] = false := eq_false_of_ne_true hdg
        by_cases hx : 97 ≤ s[k].toNat ∧ s[k].toNat ≤ 102
        · obtain ⟨hx1, hx2⟩ := hx
          go_wp2_with (go_at_call 50; refine (rdigit_any _ _).mono ?_; rintro e w' ⟨rfl, rfl⟩)
          go_round
          case rel =>
            have hx : hexV s[k] = some (s[k].toNat - 87) := by unfold hexV; rw [if_neg hdg, if_pos ⟨hx1, hx2⟩]
            exact ⟨k + 1, v * 16 + (s[k].toNat - 87), by omega, by omega, by go_num, by go_num, hi_next HI.out hlt hk2 hx⟩
          case measure => simp [intOf]; omega
        · have hx : hexV s[k] = none := by unfold hexV; rw [if_neg hdg, if_neg (by assumption)]
          have HX := Lib.hid hx
          clear hx
          go_wp2_with (go_at_call 50; refine (rdigit_any _ _).mono ?_; rintro e w' ⟨rfl, rfl⟩)
          all_goals
            go_ret3
            exact ⟨rno (k := 4) (c := 1) ((HR.out.symm.trans (hi_bad HI.out hlt HX.out))) (by decide), rfl⟩
    · have hk18 : k = 18 := by omega
      subst hk18
      go_wp2
      go_ret3
      exact ⟨rok (k := 4) (HR.out.symm.trans (hi_end HI.out (by omega))), rfl⟩
set_option maxHeartbeats 1000000 in
/-- The reference's number that is no float. -/
theorem rnumber_a (s : ByteArray) (hs : s.size ≤ 1000000) (e18 : ((s.size : Int) == 18) = false) (z : Bool) (hz : zero0 (bs s) = z) (R : Nat × Nat) (hR : wholeS z 0 0 (bs s) = R) (w : World) :
    Calls Try.prog 51 #[.string s] w fun e w' => e = .returned (.tuple #[.int .u64 R.1, .int .i64 (kindOf 3 R : Nat), .int .i64 R.2]) ∧ w = w' := by
  have HR := Lib.hid hR
  have HZ := Lib.hid hz
  clear hR hz
  go_enter Try.func51, Try.ntmps51
  go_wp2
  go_loop [8, 9] (fun u i => ∃ k v : Nat, k ≤ s.size ∧ v ≤ 9223372036854775807 ∧ i = .int .i64 k ∧ u = .int .u64 v ∧ Hid (WI s z k v)) (fun _ i => s.size - (intOf i).toNat)
  case atStart => exact ⟨0, 0, by omega, by omega, rfl, rfl, wi_start s z⟩
  case round =>
    obtain ⟨k, v, hk, hv9, rfl, rfl, HI⟩ := hrel
    by_cases hlt : k < s.size
    · have hb := byte_lt s[k]
      by_cases hdg : digitB s[k] = true
      · have hv := digit_v hdg
        by_cases h1z : k = 1 ∧ z = true
        · obtain ⟨hk1, hzt⟩ := h1z
          subst hk1
          subst hzt
          have h0 : 0 < s.size := by omega
          have hz0 := (zero0_at s h0).symm
          rw [HZ.out] at hz0
          go_wp2_with (go_at_call 50; refine (rdigit_any _ _).mono ?_; rintro e w' ⟨rfl, rfl⟩)
          go_ret3
          exact ⟨rno (k := 3) (c := 1) (HR.out.symm.trans (wi_bad HI.out hlt (.inr ⟨rfl, rfl⟩))) (by decide), rfl⟩
        · by_cases hk1 : k = 1
          · subst hk1
            have h0 : 0 < s.size := by omega
            have hzf : z = false := by cases z with | false => rfl | true => exact absurd ⟨rfl, rfl⟩ h1z
            subst hzf
            have hz0 := (zero0_at s h0).symm
            rw [HZ.out] at hz0
            clear h1z
            by_cases hm : 9223372036854775807 < v * 10 + (s[1].toNat - 48)
            · by_cases hv2 : 922337203685477580 < v
              · go_wp2_with (go_at_call 50; refine (rdigit_any _ _).mono ?_; rintro e w' ⟨rfl, rfl⟩)
                go_ret3
                exact ⟨rno (k := 3) (c := 2) (HR.out.symm.trans (wi_far HI.out hlt hdg (fun h => absurd h.2 (by decide)) hm)) (by decide), rfl⟩
              · go_wp2_with (go_at_call 50; refine (rdigit_any _ _).mono ?_; rintro e w' ⟨rfl, rfl⟩)
                go_ret3
                exact ⟨rno (k := 3) (c := 2) (HR.out.symm.trans (wi_far HI.out hlt hdg (fun h => absurd h.2 (by decide)) hm)) (by decide), rfl⟩
            · go_wp2_with (go_at_call 50; refine (rdigit_any _ _).mono ?_; rintro e w' ⟨rfl, rfl⟩)
              go_round
              case rel => exact ⟨2, v * 10 + (s[1].toNat - 48), by omega, by omega, by go_num, by go_num, wi_next HI.out hlt hdg (fun h => absurd h.2 (by decide)) (fun h => absurd h (by decide)) hm⟩
              case measure => simp [intOf]; omega
          · have e1 : ((k : Int) == 1) = false := by rw [beq_eq_false_iff_ne]; omega
            have HN := Lib.hid h1z
            clear h1z
            by_cases hm : 9223372036854775807 < v * 10 + (s[k].toNat - 48)
            · by_cases hv2 : 922337203685477580 < v
              · go_wp2_with (go_at_call 50; refine (rdigit_any _ _).mono ?_; rintro e w' ⟨rfl, rfl⟩)
                go_ret3
                exact ⟨rno (k := 3) (c := 2) (HR.out.symm.trans (wi_far HI.out hlt hdg HN.out hm)) (by decide), rfl⟩
              · go_wp2_with (go_at_call 50; refine (rdigit_any _ _).mono ?_; rintro e w' ⟨rfl, rfl⟩)
                go_ret3
                exact ⟨rno (k := 3) (c := 2) (HR.out.symm.trans (wi_far HI.out hlt hdg HN.out hm)) (by decide), rfl⟩
            · go_wp2_with (go_at_call 50; refine (rdigit_any _ _).mono ?_; rintro e w' ⟨rfl, rfl⟩)
              go_round
              case rel => exact ⟨k + 1, v * 10 + (s[k].toNat - 48), by omega, by omega, by go_num, by go_num, wi_next HI.out hlt hdg HN.out (fun _ => HZ.out.symm) hm⟩
              case measure => simp [intOf]; omega
      · have hdf : digitB s[k] = false := eq_false_of_ne_true hdg
        go_wp2_with (go_at_call 50; refine (rdigit_any _ _).mono ?_; rintro e w' ⟨rfl, rfl⟩)
        go_ret3
        exact ⟨rno (k := 3) (c := 1) (HR.out.symm.trans (wi_bad HI.out hlt (.inl hdf))) (by decide), rfl⟩
    · go_wp2
      go_ret3
      exact ⟨rok (k := 3) (HR.out.symm.trans (wi_end HI.out (by omega))), rfl⟩
set_option maxHeartbeats 1000000 in
/-- The reference's number that is no float. -/
theorem rnumber_b (s : ByteArray) (hs : s.size ≤ 1000000) (hs1 : s.size ≤ 18) (hs2 : 18 ≤ s.size) (e0 : ((s[0].toNat : Int) == 48) = false) (z : Bool) (hz : zero0 (bs s) = z) (R : Nat × Nat) (hR : wholeS z 0 0 (bs s) = R) (w : World) :
    Calls Try.prog 51 #[.string s] w fun e w' => e = .returned (.tuple #[.int .u64 R.1, .int .i64 (kindOf 3 R : Nat), .int .i64 R.2]) ∧ w = w' := by
  have HR := Lib.hid hR
  have HZ := Lib.hid hz
  clear hR hz
  have e18 : ((s.size : Int) == 18) = true := by rw [beq_iff_eq]; omega
  go_enter Try.func51, Try.ntmps51
  go_wp2
  go_loop [8, 9] (fun u i => ∃ k v : Nat, k ≤ s.size ∧ v ≤ 9223372036854775807 ∧ i = .int .i64 k ∧ u = .int .u64 v ∧ Hid (WI s z k v)) (fun _ i => s.size - (intOf i).toNat)
  case atStart => exact ⟨0, 0, by omega, by omega, rfl, rfl, wi_start s z⟩
  case round =>
    obtain ⟨k, v, hk, hv9, rfl, rfl, HI⟩ := hrel
    by_cases hlt : k < s.size
    · have hb := byte_lt s[k]
      by_cases hdg : digitB s[k] = true
      · have hv := digit_v hdg
        by_cases h1z : k = 1 ∧ z = true
        · obtain ⟨hk1, hzt⟩ := h1z
          subst hk1
          subst hzt
          have h0 : 0 < s.size := by omega
          have hz0 := (zero0_at s h0).symm
          rw [HZ.out] at hz0
          rw [e0] at hz0; cases hz0
        · by_cases hk1 : k = 1
          · subst hk1
            have h0 : 0 < s.size := by omega
            have hzf : z = false := by cases z with | false => rfl | true => exact absurd ⟨rfl, rfl⟩ h1z
            subst hzf
            have hz0 := (zero0_at s h0).symm
            rw [HZ.out] at hz0
            clear h1z
            by_cases hm : 9223372036854775807 < v * 10 + (s[1].toNat - 48)
            · by_cases hv2 : 922337203685477580 < v
              · go_wp2_with (go_at_call 50; refine (rdigit_any _ _).mono ?_; rintro e w' ⟨rfl, rfl⟩)
                go_ret3
                exact ⟨rno (k := 3) (c := 2) (HR.out.symm.trans (wi_far HI.out hlt hdg (fun h => absurd h.2 (by decide)) hm)) (by decide), rfl⟩
              · go_wp2_with (go_at_call 50; refine (rdigit_any _ _).mono ?_; rintro e w' ⟨rfl, rfl⟩)
                go_ret3
                exact ⟨rno (k := 3) (c := 2) (HR.out.symm.trans (wi_far HI.out hlt hdg (fun h => absurd h.2 (by decide)) hm)) (by decide), rfl⟩
            · go_wp2_with (go_at_call 50; refine (rdigit_any _ _).mono ?_; rintro e w' ⟨rfl, rfl⟩)
              go_round
              case rel => exact ⟨2, v * 10 + (s[1].toNat - 48), by omega, by omega, by go_num, by go_num, wi_next HI.out hlt hdg (fun h => absurd h.2 (by decide)) (fun h => absurd h (by decide)) hm⟩
              case measure => simp [intOf]; omega
          · have e1 : ((k : Int) == 1) = false := by rw [beq_eq_false_iff_ne]; omega
            have HN := Lib.hid h1z
            clear h1z
            by_cases hm : 9223372036854775807 < v * 10 + (s[k].toNat - 48)
            · by_cases hv2 : 922337203685477580 < v
              · go_wp2_with (go_at_call 50; refine (rdigit_any _ _).mono ?_; rintro e w' ⟨rfl, rfl⟩)
                go_ret3
                exact ⟨rno (k := 3) (c := 2) (HR.out.symm.trans (wi_far HI.out hlt hdg HN.out hm)) (by decide), rfl⟩
              · go_wp2_with (go_at_call 50; refine (rdigit_any _ _).mono ?_; rintro e w' ⟨rfl, rfl⟩)
                go_ret3
                exact ⟨rno (k := 3) (c := 2) (HR.out.symm.trans (wi_far HI.out hlt hdg HN.out hm)) (by decide), rfl⟩
            · go_wp2_with (go_at_call 50; refine (rdigit_any _ _).mono ?_; rintro e w' ⟨rfl, rfl⟩)
              go_round
              case rel => exact ⟨k + 1, v * 10 + (s[k].toNat - 48), by omega, by omega, by go_num, by go_num, wi_next HI.out hlt hdg HN.out (fun _ => HZ.out.symm) hm⟩
              case measure => simp [intOf]; omega
      · have hdf : digitB s[k] = false := eq_false_of_ne_true hdg
        go_wp2_with (go_at_call 50; refine (rdigit_any _ _).mono ?_; rintro e w' ⟨rfl, rfl⟩)
        go_ret3
        exact ⟨rno (k := 3) (c := 1) (HR.out.symm.trans (wi_bad HI.out hlt (.inl hdf))) (by decide), rfl⟩
    · go_wp2
      go_ret3
      exact ⟨rok (k := 3) (HR.out.symm.trans (wi_end HI.out (by omega))), rfl⟩
set_option maxHeartbeats 1000000 in
/-- The reference's number that is no float. -/
theorem rnumber_c (s : ByteArray) (hs : s.size ≤ 1000000) (hs1 : s.size ≤ 18) (hs2 : 18 ≤ s.size) (e0 : ((s[0].toNat : Int) == 48) = true) (e2 : ((s[1].toNat : Int) == 102) = false) (z : Bool) (hz : zero0 (bs s) = z) (R : Nat × Nat) (hR : wholeS z 0 0 (bs s) = R) (w : World) :
    Calls Try.prog 51 #[.string s] w fun e w' => e = .returned (.tuple #[.int .u64 R.1, .int .i64 (kindOf 3 R : Nat), .int .i64 R.2]) ∧ w = w' := by
  have HR := Lib.hid hR
  have HZ := Lib.hid hz
  clear hR hz
  have e18 : ((s.size : Int) == 18) = true := by rw [beq_iff_eq]; omega
  go_enter Try.func51, Try.ntmps51
  go_wp2
  go_loop [8, 9] (fun u i => ∃ k v : Nat, k ≤ s.size ∧ v ≤ 9223372036854775807 ∧ i = .int .i64 k ∧ u = .int .u64 v ∧ Hid (WI s z k v)) (fun _ i => s.size - (intOf i).toNat)
  case atStart => exact ⟨0, 0, by omega, by omega, rfl, rfl, wi_start s z⟩
  case round =>
    obtain ⟨k, v, hk, hv9, rfl, rfl, HI⟩ := hrel
    by_cases hlt : k < s.size
    · have hb := byte_lt s[k]
      by_cases hdg : digitB s[k] = true
      · have hv := digit_v hdg
        by_cases h1z : k = 1 ∧ z = true
        · obtain ⟨hk1, hzt⟩ := h1z
          subst hk1
          subst hzt
          have h0 : 0 < s.size := by omega
          have hz0 := (zero0_at s h0).symm
          rw [HZ.out] at hz0
          go_wp2_with (go_at_call 50; refine (rdigit_any _ _).mono ?_; rintro e w' ⟨rfl, rfl⟩)
          go_ret3
          exact ⟨rno (k := 3) (c := 1) (HR.out.symm.trans (wi_bad HI.out hlt (.inr ⟨rfl, rfl⟩))) (by decide), rfl⟩
        · by_cases hk1 : k = 1
          · subst hk1
            have h0 : 0 < s.size := by omega
            have hzf : z = false := by cases z with | false => rfl | true => exact absurd ⟨rfl, rfl⟩ h1z
            subst hzf
            have hz0 := (zero0_at s h0).symm
            rw [HZ.out] at hz0
            rw [e0] at hz0; cases hz0
          · have e1 : ((k : Int) == 1) = false := by rw [beq_eq_false_iff_ne]; omega
            have HN := Lib.hid h1z
            clear h1z
            by_cases hm : 9223372036854775807 < v * 10 + (s[k].toNat - 48)
            · by_cases hv2 : 922337203685477580 < v
              · go_wp2_with (go_at_call 50; refine (rdigit_any _ _).mono ?_; rintro e w' ⟨rfl, rfl⟩)
                go_ret3
                exact ⟨rno (k := 3) (c := 2) (HR.out.symm.trans (wi_far HI.out hlt hdg HN.out hm)) (by decide), rfl⟩
              · go_wp2_with (go_at_call 50; refine (rdigit_any _ _).mono ?_; rintro e w' ⟨rfl, rfl⟩)
                go_ret3
                exact ⟨rno (k := 3) (c := 2) (HR.out.symm.trans (wi_far HI.out hlt hdg HN.out hm)) (by decide), rfl⟩
            · go_wp2_with (go_at_call 50; refine (rdigit_any _ _).mono ?_; rintro e w' ⟨rfl, rfl⟩)
              go_round
              case rel => exact ⟨k + 1, v * 10 + (s[k].toNat - 48), by omega, by omega, by go_num, by go_num, wi_next HI.out hlt hdg HN.out (fun _ => HZ.out.symm) hm⟩
              case measure => simp [intOf]; omega
      · have hdf : digitB s[k] = false := eq_false_of_ne_true hdg
        go_wp2_with (go_at_call 50; refine (rdigit_any _ _).mono ?_; rintro e w' ⟨rfl, rfl⟩)
        go_ret3
        exact ⟨rno (k := 3) (c := 1) (HR.out.symm.trans (wi_bad HI.out hlt (.inl hdf))) (by decide), rfl⟩
    · go_wp2
      go_ret3
      exact ⟨rok (k := 3) (HR.out.symm.trans (wi_end HI.out (by omega))), rfl⟩
end Go.Proofs.Ytccajbcblbfgnaa

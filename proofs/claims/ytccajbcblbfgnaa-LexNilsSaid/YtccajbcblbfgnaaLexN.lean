/- The walks of layer 1's numbers. -/
import Derived.Test.YtccajbcblbfgnaaLexP
import Derived.Laws.BitsAllLaws
namespace Go.Proofs.Ytccajbcblbfgnaa
open Go.RowKit Lx
theorem rpair {a b : Nat} {p : Nat × Nat} (h : p = (a, b)) : Ending.returned (.tuple #[.int .u64 a, .int .i64 b]) = .returned (.tuple #[.int .u64 (p.1 : Nat), .int .i64 (p.2 : Nat)]) := by rw [h]
theorem drop_at (s : ByteArray) (k : Nat) (h : k < s.size) : (bs s).drop k = s[k] :: (bs s).drop (k + 1) := List.drop_eq_getElem_cons (by rw [bs_len]; exact h)
theorem zero0_at (s : ByteArray) (h : 0 < s.size) : zero0 (bs s) = (((s[0].toNat : Nat) : Int) == 48) := by
  have := drop_at s 0 h
  rw [List.drop_zero] at this
  rw [this, Bool.eq_iff_iff]
  simp [zero0]
  omega
theorem pow_le {v k : Nat} (h : v < 10 ^ k) (hk : k ≤ 18) : v < 1000000000000000000 := Nat.lt_of_lt_of_le h (Nat.le_trans (Nat.pow_le_pow_right (by decide) hk) (by decide))
/-- What holds ahead of byte k of a whole number. -/
def WI (s : ByteArray) (z : Bool) (k v : Nat) : Prop := v < 10 ^ k ∧ (1 ≤ k → z = false → 10 ^ (k - 1) ≤ v) ∧ (2 ≤ k → z = false) ∧ wholeS z 0 0 (bs s) = wholeS z k v ((bs s).drop k)
theorem wi_start (s : ByteArray) (z : Bool) : WI s z 0 0 := ⟨by decide, fun h => absurd h (by decide), fun h => absurd h (by decide), rfl⟩
theorem wi_end {s : ByteArray} {z : Bool} {k v : Nat} (h : WI s z k v) (hk : s.size ≤ k) : wholeS z 0 0 (bs s) = (v, 0) := by
  rw [h.2.2.2, List.drop_of_length_le (by rw [bs_len]; omega)]; rfl
theorem wi_bad {s : ByteArray} {z : Bool} {k v : Nat} (h : WI s z k v) (hk : k < s.size) (hb : digitB s[k] = false ∨ (k = 1 ∧ z = true)) : wholeS z 0 0 (bs s) = (0, 1) := by
  rw [h.2.2.2, drop_at s k hk]; simp only [wholeS, if_pos hb]
theorem wi_far {s : ByteArray} {z : Bool} {k v : Nat} (h : WI s z k v) (hk : k < s.size) (hd : digitB s[k] = true) (h1 : ¬ (k = 1 ∧ z = true)) (hm : 9223372036854775807 < v * 10 + (s[k].toNat - 48)) : wholeS z 0 0 (bs s) = (0, 2) := by
  rw [h.2.2.2, drop_at s k hk]; simp only [wholeS, if_pos hm]
  rw [if_neg (by rw [hd]; simpa using h1)]
theorem wi_next {s : ByteArray} {z : Bool} {k v : Nat} (h : WI s z k v) (hk : k < s.size) (hd : digitB s[k] = true) (h1 : ¬ (k = 1 ∧ z = true)) (hz : k = 0 → z = zero0 (bs s)) (hm : ¬ 9223372036854775807 < v * 10 + (s[k].toNat - 48)) : WI s z (k + 1) (v * 10 + (s[k].toNat - 48)) := by
  have hv := digit_v hd
  refine ⟨?_, ?_, ?_, ?_⟩
  · rw [Nat.pow_succ]; have := h.1; omega
  · intro _ hzf
    rw [Nat.add_sub_cancel]
    by_cases hk0 : k = 0
    · have := hz hk0
      subst hk0
      rw [this, zero0_at s hk, beq_eq_false_iff_ne] at hzf
      simp; omega
    · have := h.2.1 (by omega) hzf
      have e : 10 ^ k = 10 ^ (k - 1) * 10 := by rw [← Nat.pow_succ]; congr 1; omega
      omega
  · intro h2
    by_cases hk1 : k = 1
    · cases z with
      | false => rfl
      | true => exact absurd ⟨hk1, rfl⟩ h1
    · exact h.2.2.1 (by omega)
  · rw [h.2.2.2, drop_at s k hk]; simp only [wholeS, if_neg hm]
    rw [if_neg (by rw [hd]; simpa using h1)]
theorem wi_nineteen {s : ByteArray} {z : Bool} {v : Nat} (h : WI s z 19 v) (hk : 19 < s.size) (hd : digitB s[19] = true) : wholeS z 0 0 (bs s) = (0, 2) := by
  have := h.2.1 (by decide) (h.2.2.1 (by decide))
  exact wi_far h hk hd (fun h => absurd h.1 (by decide)) (by omega)
set_option maxHeartbeats 1000000 in
theorem whole_any (s : ByteArray) (hs : s.size ≤ maxLen) (w : World) :
    Calls Try.prog 58 #[.string s] w fun e w' => e = .returned (.tuple #[.int .u64 ((wholeS (zero0 (bs s)) 0 0 (bs s)).1 : Nat), .int .i64 ((wholeS (zero0 (bs s)) 0 0 (bs s)).2 : Nat)]) ∧ w = w' := by
  unfold maxLen at hs
  generalize hz : zero0 (bs s) = z
  have HZ := Lib.hid hz
  clear hz
  go_enter Try.func58, Try.ntmps58
  go_wp2
  go_loop [4, 8] (fun u i => ∃ k v : Nat, k ≤ s.size ∧ k ≤ 19 ∧ i = .int .i64 k ∧ u = .int .u64 v ∧ Hid (WI s z k v)) (fun _ i => s.size - (intOf i).toNat)
  case atStart => exact ⟨0, 0, by omega, by omega, rfl, rfl, wi_start s z⟩
  case round =>
    obtain ⟨k, v, hk, hk19, rfl, rfl, HI⟩ := hrel
    by_cases hlt : k < s.size
    · have hb := byte_lt s[k]
      by_cases hdg : digitB s[k] = true
      · have hv := digit_v hdg
        by_cases hk1 : k = 1
        · subst hk1
          have h0 : 0 < s.size := by omega
          have hz0 := zero0_at s h0
          rw [HZ.out] at hz0
          cases z with
          | true =>
            have hz1 := hz0.symm
            clear hz0
            go_wp2_with (go_at_call 44; refine (digit_any _ _).mono ?_; rintro e w' ⟨rfl, rfl⟩)
            go_ret2
            exact ⟨rpair (wi_bad HI.out hlt (.inr ⟨rfl, rfl⟩)), rfl⟩
          | false =>
            have hz1 := hz0.symm
            have hvl := pow_le HI.out.1 (by omega)
            clear hz0
            go_wp2_with (go_at_call 44; refine (digit_any _ _).mono ?_; rintro e w' ⟨rfl, rfl⟩)
            · have hm : (9223372036854775807 : Int) < ↑v * 10 + (↑s[1].toNat - 48) := by assumption
              go_ret2
              exact ⟨rpair (wi_far HI.out hlt hdg (fun h => absurd h.2 (by decide)) (by omega)), rfl⟩
            · have hm : ↑v * 10 + (↑s[1].toNat - 48) ≤ (9223372036854775807 : Int) := by assumption
              go_round
              case rel => exact ⟨2, v * 10 + (s[1].toNat - 48), by omega, by omega, by go_num, by go_num, wi_next HI.out hlt hdg (fun h => absurd h.2 (by decide)) (fun h => absurd h (by decide)) (by omega)⟩
              case measure => simp [intOf]; omega
        · by_cases h19 : k = 19
          · subst h19
            go_wp2_with (go_at_call 44; refine (digit_any _ _).mono ?_; rintro e w' ⟨rfl, rfl⟩)
            go_ret2
            exact ⟨rpair (wi_nineteen HI.out hlt hdg), rfl⟩
          · have hvl := pow_le HI.out.1 (by omega)
            have e1 : ((k : Int) == 1) = false := by rw [beq_eq_false_iff_ne]; omega
            have e19 : ((k : Int) == 19) = false := by rw [beq_eq_false_iff_ne]; omega
            go_wp2_with (go_at_call 44; refine (digit_any _ _).mono ?_; rintro e w' ⟨rfl, rfl⟩)
            · have hm : (9223372036854775807 : Int) < ↑v * 10 + (↑s[k].toNat - 48) := by assumption
              go_ret2
              exact ⟨rpair (wi_far HI.out hlt hdg (fun h => hk1 h.1) (by omega)), rfl⟩
            · have hm : ↑v * 10 + (↑s[k].toNat - 48) ≤ (9223372036854775807 : Int) := by assumption
              go_round
              case rel => exact ⟨k + 1, v * 10 + (s[k].toNat - 48), by omega, by omega, by go_num, by go_num, wi_next HI.out hlt hdg (fun h => hk1 h.1) (fun _ => HZ.out.symm) (by omega)⟩
              case measure => simp [intOf]; omega
      · have hdf : digitB s[k] = false := eq_false_of_ne_true hdg
        go_wp2_with (go_at_call 44; refine (digit_any _ _).mono ?_; rintro e w' ⟨rfl, rfl⟩)
        go_ret2
        exact ⟨rpair (wi_bad HI.out hlt (.inl hdf)), rfl⟩
    · go_wp2
      go_ret2
      exact ⟨rpair (wi_end HI.out (by omega)), rfl⟩
/-- What holds ahead of byte k of a float's digits. -/
def HI_ (s : ByteArray) (k v : Nat) : Prop := v < 16 ^ (k - 2) ∧ hexS 0 ((bs s).drop 2) = hexS v ((bs s).drop k)
theorem hi_end {s : ByteArray} {k v : Nat} (h : HI_ s k v) (hk : s.size ≤ k) : hexS 0 ((bs s).drop 2) = (v, 0) := by
  rw [h.2, List.drop_of_length_le (by rw [bs_len]; omega)]; rfl
theorem hi_bad {s : ByteArray} {k v : Nat} (h : HI_ s k v) (hk : k < s.size) (hb : hexV s[k] = none) : hexS 0 ((bs s).drop 2) = (0, 1) := by
  rw [h.2, drop_at s k hk]; simp only [hexS, hb]
theorem hexV_lt {b : UInt8} {d : Nat} (h : hexV b = some d) : d < 16 := by
  unfold hexV at h
  by_cases h1 : digitB b = true
  · rw [if_pos h1] at h
    have := digit_v h1
    injection h with h; omega
  · rw [if_neg h1] at h
    split at h
    · injection h with h; omega
    · cases h
theorem hi_next {s : ByteArray} {k v d : Nat} (h : HI_ s k v) (hk : k < s.size) (h2 : 2 ≤ k) (hb : hexV s[k] = some d) : HI_ s (k + 1) (v * 16 + d) := by
  have hd := hexV_lt hb
  refine ⟨?_, ?_⟩
  · have e : 16 ^ (k + 1 - 2) = 16 ^ (k - 2) * 16 := by rw [← Nat.pow_succ]; congr 1; omega
    have := h.1
    omega
  · rw [h.2, drop_at s k hk]; simp only [hexS, hb]
theorem hpow_le {v k : Nat} (h : v < 16 ^ (k - 2)) (hk : k ≤ 17) : v < 1152921504606846976 := Nat.lt_of_lt_of_le h (Nat.le_trans (Nat.pow_le_pow_right (by decide) (show k - 2 ≤ 15 by omega)) (by decide))
theorem or_low (v d : Nat) (h : d < 16) : (v * 16) ||| d = v * 16 + d := by
  have := Nat.two_pow_add_eq_or_of_lt (i := 4) (b := d) (by omega) v
  rw [show 2 ^ 4 = 16 from rfl, Nat.mul_comm] at this
  exact this.symm
theorem bits_or (v d : Nat) (e : Int) (hv : v < 1152921504606846976) (h : d < 16) (he : e = d) : Go.bits .or .u64 ((v : Int) * 16) e = ((v * 16 + d : Nat) : Int) := by
  have := u64_or_nat (v * 16) d (by omega) (by omega)
  rw [or_low v d h] at this
  rw [he, ← this]; rfl
theorem u64_of {a : Int} {b : Nat} (h : a = b) : Value.int .u64 a = .int .u64 b := by rw [h]
theorem bits_any (s : ByteArray) (hs : s.size = 18) (w : World) :
    Calls Try.prog 59 #[.string s] w fun e w' => e = .returned (.tuple #[.int .u64 ((hexS 0 ((bs s).drop 2)).1 : Nat), .int .i64 ((hexS 0 ((bs s).drop 2)).2 : Nat)]) ∧ w = w' := by
  have HS := Lib.hid hs
  have hs1 : s.size ≤ 18 := by omega
  have hs2 : 18 ≤ s.size := by omega
  clear hs
  go_enter Try.func59, Try.ntmps59
  go_wp2
  go_loop [4, 5] (fun u i => ∃ k v : Nat, k ≤ s.size ∧ 2 ≤ k ∧ i = .int .i64 k ∧ u = .int .u64 v ∧ Hid (HI_ s k v)) (fun _ i => s.size - (intOf i).toNat)
  case atStart => exact ⟨2, 0, by omega, by omega, rfl, rfl, by decide, rfl⟩
  case round =>
    obtain ⟨k, v, hk, hk2, rfl, rfl, HI⟩ := hrel
    by_cases hlt : k < s.size
    · have hb := byte_lt s[k]
      have hvl := hpow_le HI.out.1 (by omega)
      by_cases hdg : digitB s[k] = true
      · have hv := digit_v hdg
        go_wp2_with (go_at_call 44; refine (digit_any _ _).mono ?_; rintro e w' ⟨rfl, rfl⟩)
        go_round
        case rel =>
          have hx : hexV s[k] = some (s[k].toNat - 48) := by unfold hexV; rw [if_pos hdg]
          exact ⟨k + 1, v * 16 + (s[k].toNat - 48), by omega, by omega, by go_num, u64_of (bits_or v _ _ hvl (hexV_lt hx) (by omega)), hi_next HI.out hlt hk2 hx⟩
        case measure => simp [intOf]; omega
      · have hdf : digitB s[k] = false := eq_false_of_ne_true hdg
        by_cases hx : 97 ≤ s[k].toNat ∧ s[k].toNat ≤ 102
        · obtain ⟨hx1, hx2⟩ := hx
          go_wp2_with (go_at_call 44; refine (digit_any _ _).mono ?_; rintro e w' ⟨rfl, rfl⟩)
          go_round
          case rel =>
            have hx : hexV s[k] = some (s[k].toNat - 87) := by unfold hexV; rw [if_neg hdg, if_pos ⟨hx1, hx2⟩]
            exact ⟨k + 1, v * 16 + (s[k].toNat - 87), by omega, by omega, by go_num, u64_of (bits_or v _ _ hvl (hexV_lt hx) (by omega)), hi_next HI.out hlt hk2 hx⟩
          case measure => simp [intOf]; omega
        · go_wp2_with (go_at_call 44; refine (digit_any _ _).mono ?_; rintro e w' ⟨rfl, rfl⟩)
          all_goals
            go_ret2
            have hx : hexV s[k] = none := by unfold hexV; rw [if_neg hdg, if_neg (by assumption)]
            exact ⟨rpair (hi_bad HI.out hlt hx), rfl⟩
    · go_wp2
      go_ret2
      exact ⟨rpair (hi_end HI.out (by omega)), rfl⟩
end Go.Proofs.Ytccajbcblbfgnaa

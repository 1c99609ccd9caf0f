/- The walks of the reference of layer 1: one token. -/
import Derived.Test.YtccajbcblbfgnaaLexQ
namespace Go.Proofs.Ytccajbcblbfgnaa
open Go.RowKit Lx
theorem hexS_zero (v : Nat) (l : Bs) (h : (hexS v l).2 ≠ 0) : (hexS v l).1 = 0 := by
  induction l generalizing v with
  | nil => exact absurd rfl h
  | cons b r ih =>
    simp only [hexS] at h ⊢
    cases hx : hexV b with
    | some d => rw [hx] at h; exact ih _ h
    | none => rfl
theorem wholeS_zero (z : Bool) (i v : Nat) (l : Bs) (h : (wholeS z i v l).2 ≠ 0) : (wholeS z i v l).1 = 0 := by
  induction l generalizing i v with
  | nil => exact absurd rfl h
  | cons b r ih =>
    simp only [wholeS] at h ⊢
    split
    · rfl
    · rename_i h1
      rw [if_neg h1] at h
      split
      · rfl
      · rename_i h2
        rw [if_neg h2] at h
        exact ih _ _ h
theorem pre0f (s : ByteArray) (h : 2 ≤ s.size) : ([48, 102] : Bs).isPrefixOf (bs s) = true ↔ s[0].toNat = 48 ∧ s[1].toNat = 102 := by
  have h0 := drop_at s 0 (by omega)
  have h1 := drop_at s 1 (by omega)
  rw [List.drop_zero, h1] at h0
  rw [h0]
  simp only [List.isPrefixOf, Bool.and_true, Bool.and_eq_true, beq_iff_eq]
  constructor
  · rintro ⟨a, b⟩; rw [← a, ← b]; exact ⟨rfl, rfl⟩
  · rintro ⟨a, b⟩; exact ⟨UInt8.toNat_inj.1 (by rw [a]; rfl), UInt8.toNat_inj.1 (by rw [b]; rfl)⟩
theorem numS_hex (l : Bs) (h : l.length = 18 ∧ ([48, 102] : Bs).isPrefixOf l = true) : (numS l).val = (hexS 0 (l.drop 2)).1 ∧ (numS l).kind = kindOf 4 (hexS 0 (l.drop 2)) ∧ (numS l).code = (hexS 0 (l.drop 2)).2 := by
  unfold numS
  rw [if_pos h]
  by_cases hc : (hexS 0 (l.drop 2)).2 = 0
  · rw [if_pos hc]; exact ⟨rfl, (if_pos hc).symm, hc.symm⟩
  · rw [if_neg hc]; exact ⟨(hexS_zero _ _ hc).symm, (if_neg hc).symm, rfl⟩
theorem numS_dec (l : Bs) (h : ¬ (l.length = 18 ∧ ([48, 102] : Bs).isPrefixOf l = true)) : (numS l).val = (wholeS (zero0 l) 0 0 l).1 ∧ (numS l).kind = kindOf 3 (wholeS (zero0 l) 0 0 l) ∧ (numS l).code = (wholeS (zero0 l) 0 0 l).2 := by
  unfold numS
  rw [if_neg h]
  by_cases hc : (wholeS (zero0 l) 0 0 l).2 = 0
  · rw [if_pos hc]; exact ⟨rfl, (if_pos hc).symm, hc.symm⟩
  · rw [if_neg hc]; exact ⟨(wholeS_zero _ _ _ _ hc).symm, (if_neg hc).symm, rfl⟩
theorem rnumber_any (s : ByteArray) (hs : s.size ≤ 1000000) (w : World) :
    Calls Try.prog 51 #[.string s] w fun e w' => e = .returned (.tuple #[.int .u64 (numS (bs s)).val, .int .i64 (numS (bs s)).kind, .int .i64 (numS (bs s)).code]) ∧ w = w' := by
  by_cases h : s.size = 18 ∧ ([48, 102] : Bs).isPrefixOf (bs s) = true
  · obtain ⟨e1, e2, e3⟩ := numS_hex (bs s) h
    rw [e1, e2, e3]
    have hp := (pre0f s (by omega)).1 h.2
    exact rnumber_hex s (by omega) (by omega) hp.1 hp.2 _ rfl w
  · obtain ⟨e1, e2, e3⟩ := numS_dec (bs s) h
    rw [e1, e2, e3]
    by_cases h18 : s.size = 18
    · by_cases h0 : s[0].toNat = 48
      · have h1 : ¬ s[1].toNat = 102 := fun h1 => h ⟨h18, (pre0f s (by omega)).2 ⟨h0, h1⟩⟩
        exact rnumber_c s hs (by omega) (by omega) (by rw [beq_iff_eq]; omega) (by rw [beq_eq_false_iff_ne]; omega) _ rfl _ rfl w
      · exact rnumber_b s hs (by omega) (by omega) (by rw [beq_eq_false_iff_ne]; omega) _ rfl _ rfl w
    · exact rnumber_a s hs (by rw [beq_eq_false_iff_ne]; omega) _ rfl _ rfl w
theorem rmarks_any (w : World) : Calls Try.prog 52 #[] w fun e w' => e = .returned (.slice (some ⟨w.heap.size, 0, none⟩) 21 21) ∧ w.alloc (.cells marksA 9) = w' := by
  go_enter Try.func52, Try.ntmps52
  go_wp2
  go_ret
  exact ⟨rfl, rfl⟩
/-- What the reference answers that reads the token at a place. -/
def rtokV (s : ByteArray) (a : Nat) (t : T) : Value := .tuple #[.agg #[.int .i64 t.kind, .string (takeB (cutB s a) t.len), .int .i64 0, .int .i64 0, .int .u64 t.val], .int .i64 (if t.code = 0 then a + t.len else 0 : Nat), .int .i64 t.code]
theorem slice_cut (s : ByteArray) (a n : Nat) : s.extract a (a + n) = takeB (cutB s a) n := bs_inj (by rw [bs_extract, bs_takeB, bs_cutB, List.drop_take, Nat.add_sub_cancel_left])
theorem rbadV (s : ByteArray) (a c : Nat) (hc : c ≠ 0) : Ending.returned (.tuple #[.agg #[.int .i64 0, .string ⟨#[]⟩, .int .i64 0, .int .i64 0, .int .u64 0], .int .i64 0, .int .i64 (c : Nat)]) = .returned (rtokV s a (bad c)) := by
  unfold rtokV; rw [if_neg (show ¬ (bad c).code = 0 from hc)]; rfl
theorem rgoodV (s : ByteArray) (a m k n v : Nat) (hm : a + n = m) : Ending.returned (.tuple #[.agg #[.int .i64 k, .string (s.extract a m), .int .i64 0, .int .i64 0, .int .u64 v], .int .i64 m, .int .i64 0]) = .returned (rtokV s a ⟨k, n, v, 0⟩) := by
  subst hm; unfold rtokV; rw [slice_cut, if_pos rfl]; rfl
theorem rone_letter (s : ByteArray) (a : Nat) (ha : a < s.size) (hs : s.size ≤ 1000000) (hl : letterB s[a] = true) (n : Nat) (hn : twL innerB ((bs s).drop a) = n) (w : World) :
    Calls Try.prog 31 #[.string s, .int .i64 a] w fun e w' => e = .returned (rtokV s a (nameS n)) ∧ Below w.heap.size w w' := by
  have he := fun w => rend_any s a (by omega) hs w
  have hle := twAt_le innerB s a (by omega)
  obtain ⟨m, hm⟩ : ∃ m, a + n = m := ⟨_, rfl⟩
  rw [hn, hm] at he hle
  have HE := Lib.hid he
  have HM := Lib.hid hm
  have hm1 : m ≤ a + n := by omega
  have hm2 : a + n ≤ m := by omega
  have ham : a ≤ m := by omega
  clear he hn hm
  by_cases h24 : 24 < n
  · have ht : nameS n = bad 2 := if_pos h24
    rw [ht]
    clear ht
    go_enter Try.func31, Try.ntmps31
    go_wp2_with (first | (go_at_call 48; refine (rletter_any _ _).mono ?_; rintro e w' ⟨rfl, rfl⟩) | (go_at_call 50; refine (rdigit_any _ _).mono ?_; rintro e w' ⟨rfl, rfl⟩) | (go_at_call 49; refine (HE.out _).mono ?_; rintro e w' ⟨rfl, rfl⟩))
    refine bodyPost_ret (v := .tuple #[.agg #[.int .i64 0, .string ⟨#[]⟩, .int .i64 0, .int .i64 0, .int .u64 0], .int .i64 0, .int .i64 2]) (by simp [results, Try.results31, go_sem]) rfl ⟨?_, (Below.refl _ _).alloc (Nat.le_refl _) _⟩
    exact rbadV s a 2 (by decide)
  · have ht : nameS n = ⟨1, n, 0, 0⟩ := if_neg h24
    rw [ht]
    clear ht
    go_enter Try.func31, Try.ntmps31
    go_wp2_with (first | (go_at_call 48; refine (rletter_any _ _).mono ?_; rintro e w' ⟨rfl, rfl⟩) | (go_at_call 50; refine (rdigit_any _ _).mono ?_; rintro e w' ⟨rfl, rfl⟩) | (go_at_call 49; refine (HE.out _).mono ?_; rintro e w' ⟨rfl, rfl⟩))
    refine bodyPost_ret (v := .tuple #[.agg #[.int .i64 1, .string (s.extract a m), .int .i64 0, .int .i64 0, .int .u64 0], .int .i64 m, .int .i64 0]) (by simp [results, Try.results31, go_sem]) rfl ⟨?_, (Below.refl _ _).alloc (Nat.le_refl _) _⟩
    exact rgoodV s a m 1 n 0 HM.out
set_option maxHeartbeats 1000000 in
theorem rone_life (s : ByteArray) (a : Nat) (ha : a < s.size) (hs : s.size ≤ 1000000) (hl : letterB s[a] = false) (hq : ((s[a].toNat : Int) == 39) = true) (w : World) :
    Calls Try.prog 31 #[.string s, .int .i64 a] w fun e w' => e = .returned (rtokV s a (lifeS ((bs s).drop (a + 1)))) ∧ Below w.heap.size w w' := by
  obtain ⟨b, hb⟩ : ∃ b, a + 1 = b := ⟨_, rfl⟩
  have hbs : b ≤ s.size := by omega
  have hb1 : b ≤ a + 1 := by omega
  have hb2 : a + 1 ≤ b := by omega
  have he := fun w => rend_any s b hbs hs w
  have hle := twAt_le innerB s b hbs
  obtain ⟨n, hn⟩ : ∃ n, twL innerB ((bs s).drop b) = n := ⟨_, rfl⟩
  obtain ⟨m, hm⟩ : ∃ m, b + n = m := ⟨_, rfl⟩
  have hL : lifeS ((bs s).drop b) = if n = 0 ∨ (((bs s).drop b).head?.map smallB) ≠ some true then bad 1 else if 24 < n then bad 2 else ⟨2, n + 1, 0, 0⟩ := by rw [← hn]; rfl
  rw [hn, hm] at he hle
  rw [hb]
  have hbI : (a : Int) + 1 = (b : Int) := by omega
  have HE := Lib.hid he
  have HM := Lib.hid hm
  have HL := Lib.hid hL
  have HBI := Lib.hid hbI
  have hm1 : m ≤ b + n := by omega
  have hm2 : b + n ≤ m := by omega
  clear he hn hm hb hL hbI
  have ham : a ≤ m := by omega
  by_cases hz : n = 0
  · have ht : lifeS ((bs s).drop b) = bad 1 := by rw [HL.out, if_pos (.inl hz)]
    rw [ht]
    have e1 : ((m : Int) == a + 1) = true := by rw [beq_iff_eq]; omega
    clear ht hz
    go_enter Try.func31, Try.ntmps31
    go_wp2_with fail
    refine (rletter_any _ _).mono ?_
    rintro e w' ⟨rfl, rfl⟩
    rw [hl]
    go_wp2_with fail
    rw [HBI.out]
    refine (HE.out _).mono ?_
    rintro e w' ⟨rfl, rfl⟩
    go_wp2_with fail
    refine bodyPost_ret (v := .tuple #[.agg #[.int .i64 0, .string ⟨#[]⟩, .int .i64 0, .int .i64 0, .int .u64 0], .int .i64 0, .int .i64 1]) (by simp [results, Try.results31, go_sem]) rfl ⟨?_, (Below.refl _ _).alloc (Nat.le_refl _) _⟩
    exact rbadV s a 1 (by decide)
  · have hbl : b < s.size := by omega
    have hal : a + 1 < s.size := by omega
    have hh : ((bs s).drop b).head?.map smallB = some (smallB s[b]) := by rw [drop_at s b hbl]; rfl
    have e1 : ((m : Int) == a + 1) = false := by rw [beq_eq_false_iff_ne]; omega
    have hidx : s[b] = s[a + 1] := by congr 1; omega
    have hbb := byte_lt s[a + 1]
    rw [hidx] at hh
    have HH := Lib.hid hh
    have HZ := Lib.hid hz
    clear hh hz hidx
    by_cases hsm : smallB s[a + 1] = true
    · have hsm2 : 97 ≤ s[a + 1].toNat ∧ s[a + 1].toNat ≤ 122 := by unfold smallB at hsm; simpa using hsm
      obtain ⟨hs1, hs2⟩ := hsm2
      by_cases h24 : 24 < n
      · have ht : lifeS ((bs s).drop b) = bad 2 := by rw [HL.out, HH.out, hsm, if_neg (fun h => h.elim HZ.out (fun h => h rfl)), if_pos h24]
        rw [ht]
        clear ht
        go_enter Try.func31, Try.ntmps31
        go_wp2_with fail
        refine (rletter_any _ _).mono ?_
        rintro e w' ⟨rfl, rfl⟩
        rw [hl]
        go_wp2_with fail
        rw [HBI.out]
        refine (HE.out _).mono ?_
        rintro e w' ⟨rfl, rfl⟩
        go_wp2_with fail
        refine bodyPost_ret (v := .tuple #[.agg #[.int .i64 0, .string ⟨#[]⟩, .int .i64 0, .int .i64 0, .int .u64 0], .int .i64 0, .int .i64 2]) (by simp [results, Try.results31, go_sem]) rfl ⟨?_, (Below.refl _ _).alloc (Nat.le_refl _) _⟩
        exact rbadV s a 2 (by decide)
      · have ht : lifeS ((bs s).drop b) = ⟨2, n + 1, 0, 0⟩ := by rw [HL.out, HH.out, hsm, if_neg (fun h => h.elim HZ.out (fun h => h rfl)), if_neg h24]
        rw [ht]
        clear ht
        go_enter Try.func31, Try.ntmps31
        go_wp2_with fail
        refine (rletter_any _ _).mono ?_
        rintro e w' ⟨rfl, rfl⟩
        rw [hl]
        go_wp2_with fail
        rw [HBI.out]
        refine (HE.out _).mono ?_
        rintro e w' ⟨rfl, rfl⟩
        go_wp2_with fail
        refine bodyPost_ret (v := .tuple #[.agg #[.int .i64 2, .string (s.extract a m), .int .i64 0, .int .i64 0, .int .u64 0], .int .i64 m, .int .i64 0]) (by simp [results, Try.results31, go_sem]) rfl ⟨?_, (Below.refl _ _).alloc (Nat.le_refl _) _⟩
        exact rgoodV s a m 2 (n + 1) 0 (by have := HM.out; omega)
    · have ht : lifeS ((bs s).drop b) = bad 1 := by rw [HL.out, HH.out, eq_false_of_ne_true hsm, if_pos (.inr (by decide))]
      rw [ht]
      clear ht
      have hsm2 : s[a + 1].toNat < 97 ∨ (97 ≤ s[a + 1].toNat ∧ 122 < s[a + 1].toNat) := by
        unfold smallB at hsm
        simp at hsm
        omega
      clear hsm
      rcases hsm2 with h1 | ⟨h1, h2⟩
      · go_enter Try.func31, Try.ntmps31
        go_wp2_with fail
        refine (rletter_any _ _).mono ?_
        rintro e w' ⟨rfl, rfl⟩
        rw [hl]
        go_wp2_with fail
        rw [HBI.out]
        refine (HE.out _).mono ?_
        rintro e w' ⟨rfl, rfl⟩
        go_wp2_with fail
        refine bodyPost_ret (v := .tuple #[.agg #[.int .i64 0, .string ⟨#[]⟩, .int .i64 0, .int .i64 0, .int .u64 0], .int .i64 0, .int .i64 1]) (by simp [results, Try.results31, go_sem]) rfl ⟨?_, (Below.refl _ _).alloc (Nat.le_refl _) _⟩
        exact rbadV s a 1 (by decide)
      · go_enter Try.func31, Try.ntmps31
        go_wp2_with fail
        refine (rletter_any _ _).mono ?_
        rintro e w' ⟨rfl, rfl⟩
        rw [hl]
        go_wp2_with fail
        rw [HBI.out]
        refine (HE.out _).mono ?_
        rintro e w' ⟨rfl, rfl⟩
        go_wp2_with fail
        refine bodyPost_ret (v := .tuple #[.agg #[.int .i64 0, .string ⟨#[]⟩, .int .i64 0, .int .i64 0, .int .u64 0], .int .i64 0, .int .i64 1]) (by simp [results, Try.results31, go_sem]) rfl ⟨?_, (Below.refl _ _).alloc (Nat.le_refl _) _⟩
        exact rbadV s a 1 (by decide)
theorem numS_bad (l : Bs) (h : ¬ (numS l).code = 0) : numS l = bad (numS l).code := by
  unfold numS at h ⊢
  split
  · rename_i h1
    rw [if_pos h1] at h
    split
    · rename_i h2; rw [if_pos h2] at h; exact absurd rfl h
    · rfl
  · rename_i h1
    rw [if_neg h1] at h
    split
    · rename_i h2; rw [if_pos h2] at h; exact absurd rfl h
    · rfl
theorem rone_digit (s : ByteArray) (a : Nat) (ha : a < s.size) (hs : s.size ≤ 1000000) (hl : letterB s[a] = false) (hq : ((s[a].toNat : Int) == 39) = false) (hd : digitB s[a] = true) (w : World) :
    Calls Try.prog 31 #[.string s, .int .i64 a] w fun e w' => e = .returned (rtokV s a (numS (((bs s).drop a).takeWhile innerB))) ∧ Below w.heap.size w w' := by
  have he := fun w => rend_any s a (by omega) hs w
  have hle := twAt_le innerB s a (by omega)
  obtain ⟨n, hn⟩ : ∃ n, twL innerB ((bs s).drop a) = n := ⟨_, rfl⟩
  obtain ⟨m, hm⟩ : ∃ m, a + n = m := ⟨_, rfl⟩
  rw [hn, hm] at he hle
  have hx : ((bs s).drop a).takeWhile innerB = bs (s.extract a m) := by rw [tw_take, hn, ← hm, slice_cut, bs_takeB, bs_cutB]
  rw [hx]
  have hsz : (s.extract a m).size ≤ 1000000 := by rw [ByteArray.size_extract]; omega
  have hlen : (s.extract a m).size = n := by rw [ByteArray.size_extract]; omega
  have hcode : (numS (bs (s.extract a m))).code = 0 → (numS (bs (s.extract a m))).len = n := by
    intro h
    have e : (numS (bs (s.extract a m))).len = (bs (s.extract a m)).length := by
      unfold numS at h ⊢
      split
      · rename_i h1
        rw [if_pos h1] at h
        split
        · exact h1.1.symm
        · rename_i h2; rw [if_neg h2] at h; exact absurd h h2
      · rename_i h1
        rw [if_neg h1] at h
        split
        · rfl
        · rename_i h2; rw [if_neg h2] at h; exact absurd h h2
    rw [e, bs_len, hlen]
  have hnum := fun w => rnumber_any (s.extract a m) hsz w
  obtain ⟨t, ht⟩ : ∃ t, numS (bs (s.extract a m)) = t := ⟨_, rfl⟩
  have hbad := numS_bad (bs (s.extract a m))
  rw [ht] at hcode hnum hbad
  rw [ht]
  have HBAD := Lib.hid hbad
  have HE := Lib.hid he
  have HM := Lib.hid hm
  have HN := Lib.hid hnum
  have HC := Lib.hid hcode
  have ham : a ≤ m := by omega
  clear he hn hm ht hx hnum hcode hlen hsz hbad
  by_cases hc : t.code = 0
  · have HK := Lib.hid hc
    rw [hc] at HN
    have hcz : ((t.code : Int) == 0) = true := by rw [beq_iff_eq]; omega
    clear hc hcz
    go_enter Try.func31, Try.ntmps31
    go_wp2_with fail
    refine (rletter_any _ _).mono ?_
    rintro e w' ⟨rfl, rfl⟩
    rw [hl]
    go_wp2_with fail
    refine (rdigit_any _ _).mono ?_
    rintro e w' ⟨rfl, rfl⟩
    rw [hd]
    go_wp2_with fail
    refine (HE.out _).mono ?_
    rintro e w' ⟨rfl, rfl⟩
    go_wp2_with fail
    refine (HN.out _).mono ?_
    rintro e w' ⟨rfl, rfl⟩
    go_wp2
    refine bodyPost_ret (v := .tuple #[.agg #[.int .i64 t.kind, .string (s.extract a m), .int .i64 0, .int .i64 0, .int .u64 t.val], .int .i64 m, .int .i64 0]) (by simp [results, Try.results31, go_sem]) rfl ⟨?_, (Below.refl _ _).alloc (Nat.le_refl _) _⟩
    have e : t = ⟨t.kind, n, t.val, 0⟩ := by rw [← HC.out HK.out, ← HK.out]
    rw [e]
    exact rgoodV s a m t.kind n t.val HM.out
  · have HK := Lib.hid hc
    have hcz : ((t.code : Int) == 0) = false := by rw [beq_eq_false_iff_ne]; omega
    have hcz2 : ((t.code : Int) != 0) = true := by rw [bne_iff_ne]; omega
    clear hc
    go_enter Try.func31, Try.ntmps31
    go_wp2_with fail
    refine (rletter_any _ _).mono ?_
    rintro e w' ⟨rfl, rfl⟩
    rw [hl]
    go_wp2_with fail
    refine (rdigit_any _ _).mono ?_
    rintro e w' ⟨rfl, rfl⟩
    rw [hd]
    go_wp2_with fail
    refine (HE.out _).mono ?_
    rintro e w' ⟨rfl, rfl⟩
    go_wp2_with fail
    refine (HN.out _).mono ?_
    rintro e w' ⟨rfl, rfl⟩
    go_wp2
    refine bodyPost_ret (v := .tuple #[.agg #[.int .i64 0, .string ⟨#[]⟩, .int .i64 0, .int .i64 0, .int .u64 0], .int .i64 0, .int .i64 t.code]) (by simp [results, Try.results31, go_sem]) rfl ⟨?_, (Below.refl _ _).alloc (Nat.le_refl _) _⟩
    rw [HBAD.out HK.out]
    exact rbadV s a t.code HK.out
end Go.Proofs.Ytccajbcblbfgnaa

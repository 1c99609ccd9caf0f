/- The walks of layer 1's tokens. -/
import Derived.Test.YtccajbcblbfgnaaLexN
namespace Go.Proofs.Ytccajbcblbfgnaa
open Go.RowKit Lx
/-- A text's first n bytes. -/
def takeB (s : ByteArray) (n : Nat) : ByteArray := ⟨((bs s).take n).toArray⟩
theorem bs_takeB (s : ByteArray) (n : Nat) : bs (takeB s n) = (bs s).take n := rfl
theorem extract_takeB (s : ByteArray) (n : Nat) : s.extract 0 n = takeB s n := bs_inj (by rw [bs_extract, bs_takeB, List.drop_zero])
theorem takeB_all (s : ByteArray) : takeB s s.size = s := bs_inj (by rw [bs_takeB, List.take_of_length_le (by rw [bs_len]; exact Nat.le_refl _)])
/-- What a call answers that reads a token. -/
def tokV (s : ByteArray) (t : T) : Value := .tuple #[.agg #[.int .i64 t.kind, .string (takeB s t.len), .int .i64 0, .int .i64 0, .int .u64 t.val], .int .i64 t.code]
theorem tok_bad (s : ByteArray) (c : Nat) : Ending.returned (.tuple #[.agg #[.int .i64 0, .string ⟨#[]⟩, .int .i64 0, .int .i64 0, .int .u64 0], .int .i64 (c : Nat)]) = .returned (tokV s (bad c)) := rfl
theorem name_any (s : ByteArray) (hs : s.size ≤ maxLen) (w : World) :
    Calls Try.prog 42 #[.string s] w fun e w' => e = .returned (tokV s (nameS s.size)) ∧ Below w.heap.size w w' := by
  unfold maxLen at hs
  by_cases h : 24 < s.size
  · have hn := Lib.hid (show nameS s.size = bad 2 from if_pos h)
    go_enter Try.func42, Try.ntmps42
    go_wp2
    refine bodyPost_ret (v := .tuple #[.agg #[.int .i64 0, .string ⟨#[]⟩, .int .i64 0, .int .i64 0, .int .u64 0], .int .i64 2]) (by simp [results, Try.results42, go_sem]) rfl ⟨?_, (Below.refl _ _).alloc (Nat.le_refl _) _⟩
    rw [hn.out]; rfl
  · have hn := Lib.hid (show nameS s.size = ⟨1, s.size, 0, 0⟩ from if_neg h)
    go_enter Try.func42, Try.ntmps42
    go_wp2
    refine bodyPost_ret (v := .tuple #[.agg #[.int .i64 1, .string s, .int .i64 0, .int .i64 0, .int .u64 0], .int .i64 0]) (by simp [results, Try.results42, go_sem]) rfl ⟨?_, (Below.refl _ _).alloc (Nat.le_refl _) _⟩
    rw [hn.out, tokV, takeB_all]; rfl
theorem extract_tail (s : ByteArray) : s.extract 1 s.size = cutB s 1 := extract_cutB s 1
def headSmall (s : ByteArray) : Bool := (bs s).head?.map smallB == some true
theorem life_any (s : ByteArray) (h0 : 0 < s.size) (hs : s.size ≤ maxLen) (w : World) :
    Calls Try.prog 46 #[.string s] w fun e w' => e = .returned (tokV s (lifeS ((bs s).drop 1))) ∧ Below w.heap.size w w' := by
  unfold maxLen at hs
  have hc : (cutB s 1).size ≤ maxLen := by rw [cutB_size]; unfold maxLen; omega
  obtain ⟨n, hn⟩ : ∃ n, n = spanN innerB (cutB s 1) := ⟨_, rfl⟩
  have hs1 := span_inner (cutB s 1) hc
  rw [← hn] at hs1
  have hnl := spanN_le innerB (cutB s 1)
  rw [← hn, cutB_size] at hnl
  have hl : lifeS ((bs s).drop 1) = if n = 0 ∨ (((bs s).drop 1).head?.map smallB) ≠ some true then bad 1 else if 24 < n then bad 2 else ⟨2, n + 1, 0, 0⟩ := by
    rw [hn]; rfl
  have HL := Lib.hid hl
  have HS1 := Lib.hid hs1
  clear hl hs1 hn
  go_enter Try.func46, Try.ntmps46
  go_wp2_with fail
  rw [extract_tail]
  refine (HS1.out _).mono ?_
  rintro e w' ⟨rfl, rfl⟩
  by_cases hz : n = 0
  · subst hz
    go_wp2
    refine bodyPost_ret (v := .tuple #[.agg #[.int .i64 0, .string ⟨#[]⟩, .int .i64 0, .int .i64 0, .int .u64 0], .int .i64 1]) (by simp [results, Try.results46, go_sem]) rfl ⟨?_, (Below.refl _ _).alloc (Nat.le_refl _) _⟩
    rw [HL.out, if_pos (.inl trivial)]; rfl
  · have hz1 : ((n : Int) == 0) = false := by rw [beq_eq_false_iff_ne]; omega
    have h1 : 1 < s.size := by omega
    have hh : ((bs s).drop 1).head?.map smallB = some (smallB s[1]) := by rw [drop_at s 1 h1]; rfl
    have HH := Lib.hid hh
    have HZ := Lib.hid hz
    clear hh hz
    by_cases hsm : smallB s[1] = true
    · by_cases h24 : 24 < n
      · go_wp2_with (go_at_call 57; refine (small_any _ _).mono ?_; rintro e w' ⟨rfl, rfl⟩)
        refine bodyPost_ret (v := .tuple #[.agg #[.int .i64 0, .string ⟨#[]⟩, .int .i64 0, .int .i64 0, .int .u64 0], .int .i64 2]) (by simp [results, Try.results46, go_sem]) rfl ⟨?_, (Below.refl _ _).alloc (Nat.le_refl _) _⟩
        rw [HL.out, HH.out, hsm, if_neg (fun h => h.elim HZ.out (fun h => h rfl)), if_pos h24]; rfl
      · go_wp2_with (go_at_call 57; refine (small_any _ _).mono ?_; rintro e w' ⟨rfl, rfl⟩)
        refine bodyPost_ret (v := .tuple #[.agg #[.int .i64 2, .string (s.extract 0 (n + 1)), .int .i64 0, .int .i64 0, .int .u64 0], .int .i64 0]) (by simp [results, Try.results46, go_sem]) rfl ⟨?_, (Below.refl _ _).alloc (Nat.le_refl _) _⟩
        rw [HL.out, HH.out, hsm, if_neg (fun h => h.elim HZ.out (fun h => h rfl)), if_neg h24, extract_takeB]; rfl
    · have hsf : smallB s[1] = false := eq_false_of_ne_true hsm
      go_wp2_with (go_at_call 57; refine (small_any _ _).mono ?_; rintro e w' ⟨rfl, rfl⟩)
      refine bodyPost_ret (v := .tuple #[.agg #[.int .i64 0, .string ⟨#[]⟩, .int .i64 0, .int .i64 0, .int .u64 0], .int .i64 1]) (by simp [results, Try.results46, go_sem]) rfl ⟨?_, (Below.refl _ _).alloc (Nat.le_refl _) _⟩
      rw [HL.out, HH.out, hsf, if_pos (.inr (by decide))]; rfl
set_option maxHeartbeats 1000000 in
theorem number_any (s : ByteArray) (hs : s.size ≤ maxLen) (w : World) :
    Calls Try.prog 45 #[.string s] w fun e w' => e = .returned (tokV s (numS (bs s))) ∧ Below w.heap.size w w' := by
  have HM := Lib.hid hs
  unfold maxLen at hs
  by_cases h : s.size = 18 ∧ ([48, 102] : Bs).isPrefixOf (bs s) = true
  · have hn : numS (bs s) = if (hexS 0 ((bs s).drop 2)).2 = 0 then ⟨4, 18, (hexS 0 ((bs s).drop 2)).1, 0⟩ else bad (hexS 0 ((bs s).drop 2)).2 := if_pos h
    have hp : preB s ⟨#[48, 102]⟩ = true := h.2
    have hsz : ((s.size : Int) == 18) = true := by rw [beq_iff_eq]; omega
    have hbits := bits_any s h.1
    have HZ := Lib.hid h.1
    generalize hexS 0 ((bs s).drop 2) = r at hn hbits
    obtain ⟨v, c⟩ := r
    simp only at hn hbits
    have HN := Lib.hid hn
    have HB := Lib.hid hbits
    clear hn hbits h
    by_cases hc : c = 0
    · subst hc
      go_enter Try.func45, Try.ntmps45
      go_wp2_with fail
      refine (prefix_any s _ _ HM.out (by decide)).mono ?_
      rintro e w' ⟨rfl, rfl⟩
      go_wp2_with fail
      refine (HB.out _).mono ?_
      rintro e w' ⟨rfl, rfl⟩
      go_wp2
      refine bodyPost_ret (v := .tuple #[.agg #[.int .i64 4, .string s, .int .i64 0, .int .i64 0, .int .u64 v], .int .i64 0]) (by simp [results, Try.results45, go_sem]) rfl ⟨?_, (Below.refl _ _).alloc (Nat.le_refl _) _⟩
      rw [HN.out, if_pos (by trivial)]; simp only [tokV]; rw [show takeB s 18 = s from by rw [← HZ.out, takeB_all]]; rfl
    · have hcz : ((c : Int) == 0) = false := by rw [beq_eq_false_iff_ne]; omega
      have hcz2 : ((c : Int) != 0) = true := by rw [bne_iff_ne]; omega
      have HC := Lib.hid hc
      clear hc
      go_enter Try.func45, Try.ntmps45
      go_wp2_with fail
      refine (prefix_any s _ _ HM.out (by decide)).mono ?_
      rintro e w' ⟨rfl, rfl⟩
      go_wp2_with fail
      refine (HB.out _).mono ?_
      rintro e w' ⟨rfl, rfl⟩
      go_wp2
      refine bodyPost_ret (v := .tuple #[.agg #[.int .i64 0, .string ⟨#[]⟩, .int .i64 0, .int .i64 0, .int .u64 0], .int .i64 c]) (by simp [results, Try.results45, go_sem]) rfl ⟨?_, (Below.refl _ _).alloc (Nat.le_refl _) _⟩
      rw [HN.out, if_neg HC.out]; rfl
  · have hn : numS (bs s) = if (wholeS (zero0 (bs s)) 0 0 (bs s)).2 = 0 then ⟨3, (bs s).length, (wholeS (zero0 (bs s)) 0 0 (bs s)).1, 0⟩ else bad (wholeS (zero0 (bs s)) 0 0 (bs s)).2 := if_neg h
    have hw := whole_any s HM.out
    generalize wholeS (zero0 (bs s)) 0 0 (bs s) = r at hn hw
    obtain ⟨v, c⟩ := r
    simp only at hn hw
    have HN := Lib.hid hn
    have HB := Lib.hid hw
    clear hn hw
    by_cases h18 : s.size = 18
    · have hp : preB s ⟨#[48, 102]⟩ = false := eq_false_of_ne_true fun e => h ⟨h18, e⟩
      have hsz : ((s.size : Int) == 18) = true := by rw [beq_iff_eq]; omega
      clear h h18
      by_cases hc : c = 0
      · subst hc
        go_enter Try.func45, Try.ntmps45
        go_wp2_with fail
        refine (prefix_any s _ _ HM.out (by decide)).mono ?_
        rintro e w' ⟨rfl, rfl⟩
        go_wp2_with fail
        refine (HB.out _).mono ?_
        rintro e w' ⟨rfl, rfl⟩
        go_wp2
        refine bodyPost_ret (v := .tuple #[.agg #[.int .i64 3, .string s, .int .i64 0, .int .i64 0, .int .u64 v], .int .i64 0]) (by simp [results, Try.results45, go_sem]) rfl ⟨?_, (Below.refl _ _).alloc (Nat.le_refl _) _⟩
        rw [HN.out, if_pos (by trivial)]; simp only [tokV]; rw [show takeB s (bs s).length = s from takeB_all s]; rfl
      · have hcz : ((c : Int) == 0) = false := by rw [beq_eq_false_iff_ne]; omega
        have hcz2 : ((c : Int) != 0) = true := by rw [bne_iff_ne]; omega
        have HC := Lib.hid hc
        clear hc
        go_enter Try.func45, Try.ntmps45
        go_wp2_with fail
        refine (prefix_any s _ _ HM.out (by decide)).mono ?_
        rintro e w' ⟨rfl, rfl⟩
        go_wp2_with fail
        refine (HB.out _).mono ?_
        rintro e w' ⟨rfl, rfl⟩
        go_wp2
        refine bodyPost_ret (v := .tuple #[.agg #[.int .i64 0, .string ⟨#[]⟩, .int .i64 0, .int .i64 0, .int .u64 0], .int .i64 c]) (by simp [results, Try.results45, go_sem]) rfl ⟨?_, (Below.refl _ _).alloc (Nat.le_refl _) _⟩
        rw [HN.out, if_neg HC.out]; rfl
    · have hsz : ((s.size : Int) == 18) = false := by rw [beq_eq_false_iff_ne]; omega
      clear h h18
      by_cases hc : c = 0
      · subst hc
        go_enter Try.func45, Try.ntmps45
        go_wp2_with fail
        refine (HB.out _).mono ?_
        rintro e w' ⟨rfl, rfl⟩
        go_wp2
        refine bodyPost_ret (v := .tuple #[.agg #[.int .i64 3, .string s, .int .i64 0, .int .i64 0, .int .u64 v], .int .i64 0]) (by simp [results, Try.results45, go_sem]) rfl ⟨?_, (Below.refl _ _).alloc (Nat.le_refl _) _⟩
        rw [HN.out, if_pos (by trivial)]; simp only [tokV]; rw [show takeB s (bs s).length = s from takeB_all s]; rfl
      · have hcz : ((c : Int) == 0) = false := by rw [beq_eq_false_iff_ne]; omega
        have hcz2 : ((c : Int) != 0) = true := by rw [bne_iff_ne]; omega
        have HC := Lib.hid hc
        clear hc
        go_enter Try.func45, Try.ntmps45
        go_wp2_with fail
        refine (HB.out _).mono ?_
        rintro e w' ⟨rfl, rfl⟩
        go_wp2
        refine bodyPost_ret (v := .tuple #[.agg #[.int .i64 0, .string ⟨#[]⟩, .int .i64 0, .int .i64 0, .int .u64 0], .int .i64 c]) (by simp [results, Try.results45, go_sem]) rfl ⟨?_, (Below.refl _ _).alloc (Nat.le_refl _) _⟩
        rw [HN.out, if_neg HC.out]; rfl
end Go.Proofs.Ytccajbcblbfgnaa

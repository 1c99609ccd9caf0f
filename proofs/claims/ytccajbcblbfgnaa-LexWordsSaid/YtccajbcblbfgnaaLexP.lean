/- The walks of layer 1's cursor: passing bytes. -/
import Derived.Test.YtccajbcblbfgnaaLexW
import Derived.Test.YtccajbcblbfgnaaBox
import Derived.Deep.LoopGhost
namespace Go.Proofs.Ytccajbcblbfgnaa
open Go.RowKit Lx
def curs (s : ByteArray) (p : Nat × Nat) : Array Value := #[.string s, .int .i64 p.1, .int .i64 p.2]
theorem pass_any (b : Nat) (s : ByteArray) (p : Nat × Nat) (n : Nat) (hn : n ≤ s.size) (hs : s.size ≤ maxLen) (h1 : p.1 + s.size ≤ 4611686018427387904) (h2 : p.2 + s.size ≤ 4611686018427387904) (w : World) (hi : Is w b 56 (curs s p)) :
    Calls Try.prog 30 #[.pointer (some ⟨b, 0, none⟩), .int .i64 n] w fun e w' => e = .returned (.tuple #[]) ∧ Is w' b 56 (curs (cutB s n) (adv p ((bs s).take n))) ∧ But b w w' := by
  unfold maxLen at hs
  have HI := Lib.hid hi
  clear hi
  go_enter Try.func30, Try.ntmps30
  go_wp2
  go_loopw [6] (fun i wr => ∃ k x y : Nat, k ≤ n ∧ x ≤ p.1 + k ∧ y ≤ p.2 + k + 1 ∧ i = .int .i64 k ∧ Hid ((x, y) = adv p ((bs s).take k)) ∧ Hid (Is wr b 56 #[.string s, .int .i64 x, .int .i64 y]) ∧ But b w wr) (fun i _ => n - (intOf i).toNat)
  case atStart => exact ⟨0, p.1, p.2, by omega, by omega, by omega, rfl, rfl, HI.out, But.refl _ _⟩
  case round =>
    obtain ⟨k, x, y, hk, hx, hy, rfl, HA, HB, hbut⟩ := hrel
    have c0 := HB.out.at_ 0
    have c1 := HB.out.at_ 1
    have c2 := HB.out.at_ 2
    have f0 := HB.out.free 0
    have f1 := HB.out.free 1
    have f2 := HB.out.free 2
    simp only [List.getElem?_toArray, List.getElem?_cons_zero, List.getElem?_cons_succ] at c0 c1 c2
    by_cases hlt : k < n
    · have hlt2 : k < s.size := by omega
      have hadv := adv_take p (bs s) k hlt2
      by_cases h10 : s[k].toNat = 10
      · have h10' : (bs s)[k].toNat = 10 := h10
        rw [if_pos h10', ← HA.out] at hadv
        have HV := Lib.hid hadv
        clear hadv h10'
        go_wp2
        go_roundw
        case rel => exact ⟨k + 1, x + 1, 1, by omega, by omega, by omega, by go_num, HV.out.symm, Lib.hid (by simpa using ((HB.out.put 2 (.int .i64 (↑y + 1))).put 1 (.int .i64 (↑x + 1))).put 2 (.int .i64 1)), ((hbut.put _ _).put _ _).put _ _⟩
        case measure => simp [intOf]; omega
      · have h10' : ¬ (bs s)[k].toNat = 10 := h10
        rw [if_neg h10', ← HA.out] at hadv
        have HV := Lib.hid hadv
        clear hadv h10'
        go_wp2
        go_roundw
        case rel => exact ⟨k + 1, x, y + 1, by omega, by omega, by omega, by go_num, HV.out.symm, Lib.hid (by simpa using HB.out.put 2 (.int .i64 (↑y + 1))), hbut.put _ _⟩
        case measure => simp [intOf]; omega
    · have hkn : k = n := by omega
      subst hkn
      go_wp2
      go_end0
      refine ⟨rfl, ?_, hbut.put _ _⟩
      rw [extract_cutB, ← HA.out]
      simpa [curs] using HB.out.put 0 (.string (cutB s k))
/-- Does a text begin with another one? -/
def preB (s m : ByteArray) : Bool := (bs m).isPrefixOf (bs s)
theorem preB_iff (s m : ByteArray) : preB s m = true ↔ m.size ≤ s.size ∧ (s.extract 0 m.size).toList = m.toList := by
  unfold preB
  rw [List.isPrefixOf_iff_prefix, List.prefix_iff_eq_take, ByteArray.toList_eq, ByteArray.toList_eq]
  have e : (s.extract 0 m.size).data.toList = (bs s).take m.size := by
    have := bs_extract s 0 m.size
    rw [List.drop_zero] at this
    exact this
  rw [e, bs_len]
  constructor
  · intro h
    refine ⟨?_, h.symm⟩
    have := congrArg List.length h
    rw [List.length_take, bs_len, bs_len] at this
    omega
  · intro h; exact h.2.symm
theorem sprefix_any (s m : ByteArray) (w : World) (hs : s.size ≤ maxLen) (hm : m.size ≤ maxLen) : Calls Try.prog 56 #[.string s, .string m] w fun e w' => e = .returned (.bool (preB s m)) ∧ w = w' := by
  have hp := Lib.hid (preB_iff s m)
  unfold maxLen at hs hm
  by_cases h : m.size ≤ s.size
  · go_enter Try.func56, Try.ntmps56
    go_wp2
    go_ret
    exact ⟨rbool (by rw [Bool.eq_iff_iff, hp.out, beq_iff_eq]; exact ⟨fun e => ⟨h, e⟩, fun e => e.2⟩), rfl⟩
  · go_enter Try.func56, Try.ntmps56
    go_wp2
    go_ret
    exact ⟨rbool (by rw [Bool.eq_iff_iff, hp.out]; exact ⟨fun e => by simp at e, fun e => absurd e.1 h⟩), rfl⟩
theorem prefix_any (s m : ByteArray) (w : World) (hs : s.size ≤ maxLen) (hm : m.size ≤ maxLen) : Calls Try.prog 39 #[.string s, .string m] w fun e w' => e = .returned (.bool (preB s m)) ∧ w = w' := by
  go_enter Try.func39, Try.ntmps39
  go_wp2_with fail
  refine (sprefix_any s m _ hs hm).mono ?_
  rintro e w' ⟨rfl, rfl⟩
  go_wp2
  go_ret
  exact ⟨rfl, rfl⟩
theorem cutB_len (s : ByteArray) (k : Nat) (hk : k ≤ s.size) (n : Nat) (hn : n ≤ (cutB s k).size) : k + n ≤ s.size := by
  rw [cutB_size] at hn; omega
theorem curs_step (s : ByteArray) (p : Nat × Nat) (k n : Nat) : curs (cutB (cutB s k) n) (adv (adv p ((bs s).take k)) ((bs (cutB s k)).take n)) = curs (cutB s (k + n)) (adv p ((bs s).take (k + n))) := by
  rw [cutB_cutB, bs_cutB, ← adv_append, List.take_add]
theorem curs_step' {s r : ByteArray} {k : Nat} (hr : r = cutB s k) (p : Nat × Nat) (n : Nat) : curs (cutB r n) (adv (adv p ((bs s).take k)) ((bs r).take n)) = curs (cutB s (k + n)) (adv p ((bs s).take (k + n))) := by
  subst hr; exact curs_step s p k n
/-- What may stand between tokens is passed. -/
def skN (s : ByteArray) : Nat := sk false (bs s)
theorem skN_le (s : ByteArray) : skN s ≤ s.size := sk_le false (bs s)
theorem sk_on {s : ByteArray} {k n : Nat} (h : sk false (bs s) = k + sk false (bs (cutB s k))) (hn : sk false (bs (cutB s k)) = n + sk false ((bs (cutB s k)).drop n)) :
    sk false (bs s) = (k + n) + sk false (bs (cutB s (k + n))) := by
  rw [h, hn, ← bs_cutB, cutB_cutB]; omega
set_option maxHeartbeats 1000000 in
theorem skip_any (b : Nat) (s : ByteArray) (p : Nat × Nat) (hs : s.size ≤ maxLen) (h1 : p.1 + s.size ≤ 2305843009213693952) (h2 : p.2 + s.size ≤ 2305843009213693952) (w : World) (hi : Is w b 56 (curs s p)) :
    Calls Try.prog 28 #[.pointer (some ⟨b, 0, none⟩)] w fun e w' => e = .returned (.tuple #[]) ∧ Is w' b 56 (curs (cutB s (skN s)) (adv p ((bs s).take (skN s)))) ∧ But b w w' := by
  have HI := Lib.hid hi
  clear hi
  go_enter Try.func28, Try.ntmps28
  go_wp2
  go_loopg [] s.size (fun g wr => ∃ k : Nat, k ≤ s.size ∧ g = s.size - k ∧ Hid (sk false (bs s) = k + sk false (bs (cutB s k))) ∧ Hid (Is wr b 56 (curs (cutB s k) (adv p ((bs s).take k)))) ∧ But b w wr)
  case atStart => exact ⟨0, by omega, by omega, by rw [cutB_zero, Nat.zero_add]; rfl, HI.out, But.refl _ _⟩
  case round =>
    obtain ⟨k, hk, hg, HS, HB, hbut⟩ := hrel
    have HG := Lib.hid hg
    clear hg
    obtain ⟨r, hr⟩ : ∃ r, r = cutB s k := ⟨_, rfl⟩
    have hrs : r.size ≤ s.size := by rw [hr, cutB_size]; omega
    have hrk : k + r.size ≤ s.size := by rw [hr, cutB_size]; omega
    have c0 := HB.out.at_ 0
    have f0 := HB.out.free 0
    simp only [curs, List.getElem?_toArray, List.getElem?_cons_zero, List.getElem?_cons_succ, ← hr] at c0
    have HR := Lib.hid hr
    clear hr
    by_cases hp : preB r ⟨#[47, 47]⟩ = true
    · go_wp2_with fail
      refine (span_blank r (by omega) _).mono ?_
      rintro e w' ⟨rfl, rfl⟩
      go_wp2_with fail
      refine (prefix_any r _ _ (by omega) (by decide)).mono ?_
      rintro e w' ⟨rfl, rfl⟩
      have hn2 : 2 ≤ spanN lineB r := line_pos _ hp
      have hnl := spanN_le lineB r
      have hz : ((spanN lineB r : Int) == 0) = false := by rw [beq_eq_false_iff_ne]; omega
      go_wp2_with fail
      refine (span_line r (by omega) _).mono ?_
      rintro e w' ⟨rfl, rfl⟩
      go_wp2_with fail
      refine (pass_any b r (adv p ((bs s).take k)) _ (spanN_le lineB r) (by omega) ?_ ?_ _ (by rw [HR.out]; exact HB.out)).mono ?_
      · have := adv_le p ((bs s).take k); rw [List.length_take, bs_len] at this; omega
      · have := adv_le p ((bs s).take k); rw [List.length_take, bs_len] at this; omega
      rintro e w' ⟨rfl, hi', hb'⟩
      go_wp2
      go_roundg (s.size - (k + spanN lineB r))
      case measure => rw [HG.out]; omega
      case rel =>
        rw [curs_step' HR.out] at hi'
        exact ⟨k + spanN lineB r, by omega, rfl, sk_on HS.out (by rw [← HR.out]; exact sk_line _ hp), hi', hbut.trans hb'⟩
    · by_cases hz0 : spanN blankB r = 0
      · have hz : ((spanN blankB r : Int) == 0) = true := by rw [beq_iff_eq]; omega
        have HZ := Lib.hid hz0
        clear hz0
        go_wp2_with fail
        refine (span_blank r (by omega) _).mono ?_
        rintro e w' ⟨rfl, rfl⟩
        go_wp2_with fail
        refine (prefix_any r _ _ (by omega) (by decide)).mono ?_
        rintro e w' ⟨rfl, rfl⟩
        go_wp2
        refine bodyPost_ret (results_none (by kernel_rfl) _ _ _) rfl ?_
        have e := sk_stop (bs r) (eq_false_of_ne_true hp) HZ.out
        have e2 : skN s = k := by
          have := HS.out
          rw [← HR.out, e] at this
          exact this
        rw [e2]
        exact ⟨rfl, HB.out, hbut⟩
      · have hz : ((spanN blankB r : Int) == 0) = false := by rw [beq_eq_false_iff_ne]; omega
        have hnl := spanN_le blankB r
        go_wp2_with fail
        refine (span_blank r (by omega) _).mono ?_
        rintro e w' ⟨rfl, rfl⟩
        go_wp2_with fail
        refine (prefix_any r _ _ (by omega) (by decide)).mono ?_
        rintro e w' ⟨rfl, rfl⟩
        go_wp2_with fail
        refine (pass_any b r (adv p ((bs s).take k)) _ (spanN_le blankB r) (by omega) ?_ ?_ _ (by rw [HR.out]; exact HB.out)).mono ?_
        · have := adv_le p ((bs s).take k); rw [List.length_take, bs_len] at this; omega
        · have := adv_le p ((bs s).take k); rw [List.length_take, bs_len] at this; omega
        rintro e w' ⟨rfl, hi', hb'⟩
        go_wp2
        go_roundg (s.size - (k + spanN blankB r))
        case measure => rw [HG.out]; omega
        case rel =>
          rw [curs_step' HR.out] at hi'
          exact ⟨k + spanN blankB r, by omega, rfl, sk_on HS.out (by rw [← HR.out]; exact sk_blank _), hi', hbut.trans hb'⟩
end Go.Proofs.Ytccajbcblbfgnaa

/- The walks of layer 1's small calls: what a byte is. -/
import Derived.Test.YtccajbcblbfgnaaLexA
import Derived.Test.YtccajbcblbfgnaaProg
import Derived.Lib.Hide
import Derived.Outline
namespace Go.Proofs.Ytccajbcblbfgnaa
open Go.RowKit Lx
theorem rbool {a b : Bool} (h : a = b) : Ending.returned (.bool a) = .returned (.bool b) := by rw [h]
theorem rint {k : IntKind} {a b : Int} (h : a = b) : Ending.returned (.int k a) = .returned (.int k b) := by rw [h]
theorem byte_lt (b : UInt8) : b.toNat < 256 := b.toNat_lt
theorem blank_any (b : UInt8) (w : World) : Calls Try.prog 38 #[.int .u8 b.toNat] w fun e w' => e = .returned (.bool (blankB b)) ∧ w = w' := by
  go_enter Try.func38, Try.ntmps38
  go_wp2
  all_goals
    go_ret
    exact ⟨rbool (by unfold blankB; rw [Bool.eq_iff_iff]; simp; try omega), rfl⟩
theorem small_any (b : UInt8) (w : World) : Calls Try.prog 57 #[.int .u8 b.toNat] w fun e w' => e = .returned (.bool (smallB b)) ∧ w = w' := by
  go_enter Try.func57, Try.ntmps57
  go_wp2
  all_goals
    go_ret
    exact ⟨rbool (by unfold smallB; rw [Bool.eq_iff_iff]; simp; try omega), rfl⟩
theorem digit_any (b : UInt8) (w : World) : Calls Try.prog 44 #[.int .u8 b.toNat] w fun e w' => e = .returned (.bool (digitB b)) ∧ w = w' := by
  go_enter Try.func44, Try.ntmps44
  go_wp2
  all_goals
    go_ret
    exact ⟨rbool (by unfold digitB; rw [Bool.eq_iff_iff]; simp; try omega), rfl⟩
theorem letter_any (b : UInt8) (w : World) : Calls Try.prog 41 #[.int .u8 b.toNat] w fun e w' => e = .returned (.bool (letterB b)) ∧ w = w' := by
  go_enter Try.func41, Try.ntmps41
  go_wp2_with (go_at_call 57; refine (small_any _ _).mono ?_; rintro e w' ⟨rfl, rfl⟩)
  all_goals
    go_ret
    exact ⟨rbool (by unfold letterB; rw [Bool.eq_iff_iff]; simp [*]; try omega), rfl⟩
theorem inner_any (b : UInt8) (w : World) : Calls Try.prog 43 #[.int .u8 b.toNat] w fun e w' => e = .returned (.bool (innerB b)) ∧ w = w' := by
  go_enter Try.func43, Try.ntmps43
  go_wp2_with (first | (go_at_call 41; refine (letter_any _ _).mono ?_; rintro e w' ⟨rfl, rfl⟩) | (go_at_call 44; refine (digit_any _ _).mono ?_; rintro e w' ⟨rfl, rfl⟩))
  all_goals
    go_ret
    exact ⟨rbool (by unfold innerB; simp [*]), rfl⟩
theorem line_any (b : UInt8) (w : World) : Calls Try.prog 40 #[.int .u8 b.toNat] w fun e w' => e = .returned (.bool (lineB b)) ∧ w = w' := by
  go_enter Try.func40, Try.ntmps40
  go_wp2
  all_goals
    go_ret
    exact ⟨rbool (by unfold lineB; rw [Bool.eq_iff_iff]; simp; try omega), rfl⟩
theorem rdigit_any (b : UInt8) (w : World) : Calls Try.prog 50 #[.int .u8 b.toNat] w fun e w' => e = .returned (.bool (digitB b)) ∧ w = w' := by
  go_enter Try.func50, Try.ntmps50
  go_wp2
  all_goals
    go_ret
    exact ⟨rbool (by unfold digitB; rw [Bool.eq_iff_iff]; simp; try omega), rfl⟩
theorem rletter_any (b : UInt8) (w : World) : Calls Try.prog 48 #[.int .u8 b.toNat] w fun e w' => e = .returned (.bool (letterB b)) ∧ w = w' := by
  go_enter Try.func48, Try.ntmps48
  go_wp2
  all_goals
    go_ret
    exact ⟨rbool (by unfold letterB smallB; rw [Bool.eq_iff_iff]; simp; try omega), rfl⟩
/-- How many bytes at a text's beginning are of a kind. -/
def spanN (P : UInt8 → Bool) (s : ByteArray) : Nat := twL P (bs s)
theorem spanN_le (P : UInt8 → Bool) (s : ByteArray) : spanN P s ≤ s.size := tw_le P s.data.toList
theorem spanN_iff (P : UInt8 → Bool) (s : ByteArray) (k : Nat) (hk : k < s.size) (h : k ≤ spanN P s) : P s[k] = true ↔ k < spanN P s := tw_iff P s.data.toList k hk h
theorem span_any (P : UInt8 → Bool) (f : FuncId) (hr : ∀ v w, Sem.run Try.prog (callFunc f #[v]) w = .ok (.enter f #[v]) w) (hf : ∀ b w, Calls Try.prog f #[.int .u8 (UInt8.toNat b : Nat)] w fun e w' => e = .returned (.bool (P b)) ∧ w = w') (s : ByteArray) (hs : s.size ≤ maxLen) (w : World) :
    Calls Try.prog 37 #[.string s, .func (.func f) #[] #[]] w fun e w' => e = .returned (.int .i64 (spanN P s)) ∧ w = w' := by
  unfold maxLen at hs
  have HF := Lib.hid hf
  have hL := spanN_le P s
  have HR := Lib.hid hr
  clear hf hr
  go_enter Try.func37, Try.ntmps37
  go_wp2
  go_loop [5] (fun n => ∃ k : Nat, k ≤ spanN P s ∧ n = .int .i64 k) (fun n => s.size - (intOf n).toNat)
  case atStart => exact ⟨0, Nat.zero_le _, rfl⟩
  case round =>
    obtain ⟨k, hk, rfl⟩ := hrel
    by_cases hlt : k < s.size
    · have hi := spanN_iff P s k hlt hk
      by_cases hP : P s[k] = true
      · have hkl := hi.1 hP
        have HI := Lib.hid hi
        clear hi
        go_wp2_with fail
        rw [HR.out, Oper.upon_enter]
        refine (HF.out _ _).mono ?_
        rintro e w' ⟨rfl, rfl⟩
        go_wp2
        go_round
        case rel => exact ⟨k + 1, by omega, by go_num⟩
        case measure => simp [intOf]; omega
      · have hkl : ¬ k < spanN P s := fun h => hP (hi.2 h)
        have HI := Lib.hid hi
        clear hi
        go_wp2_with fail
        rw [HR.out, Oper.upon_enter]
        refine (HF.out _ _).mono ?_
        rintro e w' ⟨rfl, rfl⟩
        go_wp2
        go_ret
        exact ⟨rint (by omega), rfl⟩
    · go_wp2
      go_ret
      exact ⟨rint (by omega), rfl⟩
theorem span_blank (s : ByteArray) (hs : s.size ≤ maxLen) (w : World) : Calls Try.prog 37 #[.string s, .func (.func 38) #[] #[]] w fun e w' => e = .returned (.int .i64 (spanN blankB s)) ∧ w = w' := span_any blankB _ (fun v w => by kernel_rfl) blank_any s hs w
theorem span_inner (s : ByteArray) (hs : s.size ≤ maxLen) (w : World) : Calls Try.prog 37 #[.string s, .func (.func 43) #[] #[]] w fun e w' => e = .returned (.int .i64 (spanN innerB s)) ∧ w = w' := span_any innerB _ (fun v w => by kernel_rfl) inner_any s hs w
theorem span_line (s : ByteArray) (hs : s.size ≤ maxLen) (w : World) : Calls Try.prog 37 #[.string s, .func (.func 40) #[] #[]] w fun e w' => e = .returned (.int .i64 (spanN lineB s)) ∧ w = w' := span_any lineB _ (fun v w => by kernel_rfl) line_any s hs w
end Go.Proofs.Ytccajbcblbfgnaa

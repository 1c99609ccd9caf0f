/- The walks of the reference of layer 1: marks, and one token. -/
import Derived.Test.YtccajbcblbfgnaaLexO
import Derived.Deep.QuietTactic
import Derived.BigQuiet
import Derived.IntWalk
namespace Go.Proofs.Ytccajbcblbfgnaa
open Go.RowKit Lx
theorem below_drewN {B : Nat} {w w' : World} (h : Below B w w') (k : Nat) : Below B w (w'.drewN k) := ⟨h.os, h.tape, h.output, h.size, h.block⟩
theorem rmarkV (s : ByteArray) (a k : Nat) (hk : k < 21) (h : markI ((bs s).drop a) = k) :
    Ending.returned (.tuple #[.agg #[.int .i64 5, .string (markB k), .int .i64 0, .int .i64 0, .int .u64 0], .int .i64 ((a : Int) + ((markB k).size : Nat)), .int .i64 0]) = .returned (rtokV s a (markS ((bs s).drop a))) := by
  have hp := (markI_hit ((bs s).drop a) k hk (by omega)).2 h
  rw [markS_eq, if_neg (by omega), h]
  unfold rtokV
  simp only
  rw [List.isPrefixOf_iff_prefix, List.prefix_iff_eq_take] at hp
  have e2 : takeB (cutB s a) (marksL.getD k []).length = markB k := bs_inj hp.symm
  rw [e2]
  simp only [if_pos]
  rfl
set_option maxHeartbeats 1000000 in
theorem rone_mark (s : ByteArray) (a : Nat) (ha : a < s.size) (hs : s.size ≤ 1000000) (hl : letterB s[a] = false) (hq : ((s[a].toNat : Int) == 39) = false) (hd : digitB s[a] = false) (w : World) :
    Calls Try.prog 31 #[.string s, .int .i64 a] w fun e w' => e = .returned (rtokV s a (markS ((bs s).drop a))) ∧ Below w.heap.size w w' := by
  have hle := markI_le ((bs s).drop a)
  go_enter Try.func31, Try.ntmps31
  go_wp2_with fail
  refine (rletter_any _ _).mono ?_
  rintro e w' ⟨rfl, rfl⟩
  rw [hl]
  go_wp2_with fail
  refine (rdigit_any _ _).mono ?_
  rintro e w' ⟨rfl, rfl⟩
  rw [hd]
  go_wp2_with fail
  refine (rmarks_any _).mono ?_
  rintro e w' ⟨rfl, rfl⟩
  go_wp2_with fail
  go_loopw [15] (fun i wr => ∃ k : Nat, k ≤ 21 ∧ k ≤ markI ((bs s).drop a) ∧ i = .int .i64 k ∧ Hid (Is wr (w.heap.size + 1) 9 marksA) ∧ Hid (Is wr w.heap.size 61 tok0) ∧ Below w.heap.size w wr) (fun i _ => 21 - (intOf i).toNat)
  case atStart =>
    refine ⟨0, by omega, by omega, rfl, ?_, (Is.made w _ tok0).alloc _, ((Below.refl _ _).alloc (Nat.le_refl _) _).alloc (by simp) _⟩
    have h := Is.made (w.alloc (.cells tok0 61)) 9 marksA
    rw [show (w.alloc (.cells tok0 61)).heap.size = w.heap.size + 1 from by simp] at h
    exact h
  case round =>
    obtain ⟨k, hk, hki, rfl, HM, HT, hb⟩ := hrel
    have c0 := HT.out.at_ 0
    have c1 := HT.out.at_ 1
    have c2 := HT.out.at_ 2
    have c3 := HT.out.at_ 3
    have c4 := HT.out.at_ 4
    have f0 := HT.out.free 0
    have f1 := HT.out.free 1
    have f2 := HT.out.free 2
    have f3 := HT.out.free 3
    have f4 := HT.out.free 4
    simp only [tok0, List.getElem?_toArray, List.getElem?_cons_zero, List.getElem?_cons_succ] at c0 c1 c2 c3 c4
    by_cases hlt : k < 21
    · have hcell := (HM.out.at_ k).trans (marksA_at k hlt)
      have hhit := markI_hit ((bs s).drop a) k hlt hki
      have hn2 := markB_size k
      have hw1 : IntKind.i64.wrap ((a : Int) + ((markB k).size : Nat)) = (a : Int) + ((markB k).size : Nat) := IntWalk.i64_in _ (by omega)
      have hpi := preB_iff (cutB s a) (markB k)
      rw [cutB_size] at hpi
      by_cases hf : a + (markB k).size ≤ s.size
      · have hfb : decide ((a : Int) + ((markB k).size : Nat) ≤ (s.size : Int)) = true := by rw [decide_eq_true_eq]; omega
        have hsl : ∀ W : World, (Instr.slice 9 (.string s) (some (.int .i64 (a : Int))) (some (.int .i64 ((a : Int) + ((markB k).size : Nat)))) none).run Try.prog W = .ok (.string ((cutB s a).extract 0 (markB k).size)) W := by
          intro W
          have := run_slice_string (P := Try.prog) W 9 s .i64 .i64 (a : Int) ((a : Int) + ((markB k).size : Nat)) Try.underlying9 (by omega) (by omega) (by omega)
          rw [this]
          have e : s.extract (a : Int).toNat ((a : Int) + ((markB k).size : Nat)).toNat = (cutB s a).extract 0 (markB k).size := by
            rw [show ((a : Int) + ((markB k).size : Nat)).toNat = a + (markB k).size from by omega, show ((a : Nat) : Int).toNat = a from rfl, slice_cut, extract_takeB]
          rw [e]
        by_cases hp : preB (cutB s a) (markB k) = true
        · have heq : (((cutB s a).extract 0 (markB k).size).toList == (markB k).toList) = true := by rw [beq_iff_eq]; exact (hpi.1 hp).2
          have HE := Lib.hid (hhit.1 hp)
          clear hhit hpi
          go_wp2_with fail
          go_quiet (fail)
          go_wp2_with fail
          have hbq : Below w.heap.size w (wr.drewN nq) := below_drewN hb nq
          refine bodyPost_ret (v := .tuple #[.agg #[.int .i64 5, .string (markB k), .int .i64 0, .int .i64 0, .int .u64 0], .int .i64 ((a : Int) + ((markB k).size : Nat)), .int .i64 0]) (by simp [results, Try.results31, go_sem, c0, c1, c2, c3, c4]) rfl ⟨?_, ((((hbq.setCell (Nat.le_refl _) _).setCell (Nat.le_refl _) _).setCell (Nat.le_refl _) _).setCell (Nat.le_refl _) _).setCell (Nat.le_refl _) _⟩
          exact rmarkV s a k hlt HE.out
        · have heq : (((cutB s a).extract 0 (markB k).size).toList == (markB k).toList) = false := by
            rw [beq_eq_false_iff_ne]; intro e; exact hp (hpi.2 ⟨by omega, e⟩)
          have hne : ¬ markI ((bs s).drop a) = k := fun h => hp (hhit.2 h)
          have hk2 : k + 1 ≤ markI ((bs s).drop a) := by omega
          clear hhit hpi hne
          go_wp2_with fail
          go_quiet (fail)
          go_wp2_with fail
          go_roundw
          case rel => exact ⟨k + 1, by omega, hk2, by go_num, HM.out.drewN _, HT.out.drewN _, below_drewN hb _⟩
          case measure => simp [intOf]; omega
      · have hfb : decide ((a : Int) + ((markB k).size : Nat) ≤ (s.size : Int)) = false := by rw [decide_eq_false_iff_not]; omega
        have hp : ¬ preB (cutB s a) (markB k) = true := fun h => by have := (hpi.1 h).1; omega
        have hne : ¬ markI ((bs s).drop a) = k := fun h => hp (hhit.2 h)
        have hk2 : k + 1 ≤ markI ((bs s).drop a) := by omega
        clear hhit hpi hne hp
        go_wp2_with fail
        go_quiet (fail)
        go_wp2_with fail
        go_roundw
        case rel => exact ⟨k + 1, by omega, hk2, by go_num, HM.out.drewN _, HT.out.drewN _, below_drewN hb _⟩
        case measure => simp [intOf]; omega
    · have he : markI ((bs s).drop a) = 21 := by omega
      have HE := Lib.hid he
      clear he
      go_wp2
      refine bodyPost_ret (v := .tuple #[.agg #[.int .i64 0, .string ⟨#[]⟩, .int .i64 0, .int .i64 0, .int .u64 0], .int .i64 0, .int .i64 1]) (by simp [results, Try.results31, go_sem, c0, c1, c2, c3, c4]) rfl ⟨?_, ((((hb.setCell (Nat.le_refl _) _).setCell (Nat.le_refl _) _).setCell (Nat.le_refl _) _).setCell (Nat.le_refl _) _).setCell (Nat.le_refl _) _⟩
      rw [markS_eq, if_pos HE.out]
      exact rbadV s a 1 (by decide)
/-- The reference's token at a place. -/
theorem rone_any (s : ByteArray) (a : Nat) (ha : a < s.size) (hs : s.size ≤ 1000000) (w : World) :
    Calls Try.prog 31 #[.string s, .int .i64 a] w fun e w' => e = .returned (rtokV s a (tokS ((bs s).drop a))) ∧ Below w.heap.size w w' := by
  have ht : tokS ((bs s).drop a) = if letterB s[a] then nameS (twL innerB ((bs s).drop a)) else if digitB s[a] then numS (((bs s).drop a).takeWhile innerB) else if s[a].toNat = 39 then lifeS ((bs s).drop (a + 1)) else markS ((bs s).drop a) := by
    rw [drop_at s a ha]; rfl
  rw [ht]
  by_cases hl : letterB s[a] = true
  · rw [if_pos hl]; exact rone_letter s a ha hs hl _ rfl w
  · have hlf := eq_false_of_ne_true hl
    rw [if_neg hl]
    by_cases h39 : s[a].toNat = 39
    · have hd : ¬ digitB s[a] = true := fun h => by have := digit_v h; omega
      rw [if_neg hd, if_pos h39]
      exact rone_life s a ha hs hlf (by rw [beq_iff_eq]; omega) w
    · by_cases hd : digitB s[a] = true
      · rw [if_pos hd]
        exact rone_digit s a ha hs hlf (by rw [beq_eq_false_iff_ne]; omega) hd w
      · rw [if_neg hd, if_neg h39]
        exact rone_mark s a ha hs hlf (by rw [beq_eq_false_iff_ne]; omega) (eq_false_of_ne_true hd) w
end Go.Proofs.Ytccajbcblbfgnaa

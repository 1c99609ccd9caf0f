/- Layer 10: the law's ways. -/
import Derived.Test.YtebnonbfjkielaaSubH
namespace Go.Proofs.Ytebnonbfjkielaa
open Go.RowKit Go.Deep Tr Ts Vy Mp
namespace Sb
def nameS : ByteArray := ⟨#[83]⟩
def digs (a n : Nat) : List Nat := (List.range n).map fun i => a / 4 ^ i % 4
theorem digs_length (a n : Nat) : (digs a n).length = n := by simp [digs]
theorem digs_succ (a n : Nat) : digs a (n + 1) = digs a n ++ [a / 4 ^ n % 4] := by simp [digs, List.range_succ]
def waysOf (a : Nat) : Ws := fun s => if s = nameS then some (digs a 8) else none
theorem digs_get (a n i : Nat) : (digs a n).getD i 3 = if i < n then a / 4 ^ i % 4 else 3 := by
  rw [List.getD_eq_getElem?_getD]
  unfold digs
  rw [List.getElem?_map]
  by_cases h : i < n
  · simp [h]
  · simp [h]
theorem waysOf_few (a : Nat) (s : ByteArray) (i : Nat) : wayOf (waysOf a) s i < 4 := by
  unfold wayOf waysOf
  by_cases h : s = nameS
  · simp only [if_pos h]
    rw [digs_get]
    split <;> omega
  · simp only [if_neg h]
    decide
theorem dig_sub (a b i : Nat) : Vy.Sub (a / 4 ^ i % 4) ((a ||| b) / 4 ^ i % 4) := by
  unfold Vy.Sub
  have h4 : (4 : Nat) ^ i = 2 ^ (2 * i) := by rw [show (4 : Nat) = 2 ^ 2 from rfl, ← Nat.pow_mul]
  rw [h4, show (4 : Nat) = 2 ^ 2 from rfl, ← Nat.shiftRight_eq_div_pow, ← Nat.shiftRight_eq_div_pow, Nat.shiftRight_or_distrib, ← Nat.or_mod_two_pow, ← Nat.or_assoc, Nat.or_self]
theorem ways_more (a b : Nat) : WLe (waysOf a) (waysOf (a ||| b)) := fun s i => by
  refine ⟨waysOf_few a s i, waysOf_few _ s i, ?_⟩
  unfold wayOf waysOf
  by_cases h : s = nameS
  · simp only [if_pos h]
    rw [digs_get, digs_get]
    split
    · exact dig_sub a b i
    · exact .refl _
  · simp only [if_neg h]
    exact .refl _
set_option maxHeartbeats 8000000 in
set_option maxRecDepth 100000 in
theorem ways_any (a : Nat) (ha : a < 18446744073709551616) (W : World) : Calls Try.prog 10 #[.int .u64 (a : Int)] W fun e W' => ∃ o, e = .returned o ∧ WaysAt W' o (waysOf a) ∧ Below W.heap.size W W' := by
  obtain ⟨i0, hi0, hz0, hz1, hz2⟩ := info_parts info_int
  have HI := Lib.hid hi0
  have HAA : Hid (a < 18446744073709551616) := ha
  have O1 := Lib.hid (World.ownsRow_nil (w := W) (base := W.heap.size) (e := 3) (size := 1))
  clear hi0 ha
  go_enter Try.func10, Try.ntmps10
  go_wp2
  go_loopw [0, 3, 4] (fun f v i wr => ∃ (j q : Nat), j ≤ 8 ∧ i = .int .i64 j ∧ f = .int .u64 (q : Int) ∧ q < 18446744073709551616 ∧ Hid (wr.ownsRow W.heap.size 3 1 v j (intsC (ints (digs a j))) ∧ Below W.heap.size W wr ∧ a / 4 ^ j = q)) (fun _ _ i _ => 8 - (intOf i).toNat)
  case atStart => exact ⟨0, a, by decide, rfl, rfl, HAA.out, O1.out, .refl _ _, by simp⟩
  clear O1
  case round =>
    obtain ⟨j, q, hj, rfl, rfl, hq, HQ⟩ := hrel
    obtain ⟨q1, q2, q3⟩ := HQ.out
    have O2 := Lib.hid q1
    have B2 := Lib.hid q2
    have D2 := Lib.hid q3
    obtain ⟨ao, cp, rfl, _⟩ := own_slice q1
    clear HQ q1 q2 q3
    by_cases hjl : j < 8
    · have C1 : Hid ((wr.alloc (.cells #[.int .i64 ((q : Int) % 4)] 3)).ownsRow W.heap.size 3 1 (.slice ao j cp) j (intsC (ints (digs a j)))) := O2.out.alloc _
      have LB1 : Hid (j + 1 ≤ maxLen) := by show _ ≤ maxLen; unfold maxLen; omega
      have LB2 : Hid ((j + 1) * 8 ≤ 140737488355328) := by show _ ≤ 140737488355328; omega
      have LE : Hid (W.heap.size ≤ (wr.alloc (.cells #[.int .i64 ((q : Int) % 4)] 3)).heap.size) := by show _ ≤ _; have := B2.out.size; simp; omega
      have HD : Hid (intsC (ints (digs a (j + 1))) = intsC (ints (digs a j)) ++ [.int .i64 ((q : Int) % 4)]) := by
        show _ = _
        rw [digs_succ, D2.out]
        simp [intsC, ints]
      have HQ4 : Hid (a / 4 ^ (j + 1) = q / 4) := by show _ = _; rw [Nat.pow_succ, ← Nat.div_div_eq_div_mul, D2.out]
      go_wp2_with (at_builtin; refine wpList_append_lies _ rfl (.tmp 9) (.tmp 13) 22 rfl W.heap.size 3 i0 (.int .i64 0) 1 8 Try.underlying22 HI.out hz0 hz1 hz2 rfl (by decide) _ j (intsC (ints (digs a j))) rfl C1.out ⟨wr.heap.size, 0, none⟩ 1 1 [.int .i64 ((q : Int) % 4)] rfl rfl (cells_made wr _ [.int .i64 ((q : Int) % 4)]) (by simp [Value.oneCell']) (by decide) LB1.out LB2.out LE.out (wr.heap.size + 1) (by simp) ?_)
      intro g cap w1 ho1 hg1 _ _
      have HR : Hid (w1.ownsRow W.heap.size 3 1 (.slice (some ⟨g, 0, none⟩) (j + 1) cap) (j + 1) (intsC (ints (digs a (j + 1)))) ∧ Below W.heap.size W w1 ∧ a / 4 ^ (j + 1) = q / 4) :=
        ⟨by rw [HD.out]; exact ho1, below_own (B2.out.alloc B2.out.size _) C1.out (Nat.le_refl _) (B2.out.alloc B2.out.size _).size hg1, HQ4.out⟩
      clear ho1 hg1 C1 LB1 LB2 LE HD HQ4 O2 B2 D2
      go_wp2
      go_roundw
      case rel => exact ⟨j + 1, q / 4, by omega, by go_num, by simp, by omega, HR⟩
      case measure => simp [intOf]; omega
    · have hje : j = 8 := by omega
      subst hje
      have hmm := @run_makeMap Try.prog
      obtain ⟨b, hb⟩ : ∃ b, wr.heap.size = b := ⟨_, rfl⟩
      have m1 := MapAt.made wr Try.prog 9
      rw [hb] at m1
      have hS1 : (⟨#[83]⟩ : ByteArray).size ≤ maxLen := by show (1 : Nat) ≤ maxLen; unfold maxLen; omega
      obtain ⟨w2, hput, m2, g2⟩ := put_at m1 Try.underlying9 Try.underlying33 (by unfold maxLen; omega) hS1 (.slice ao 8 cp)
      have hbw : W.heap.size ≤ b := by rw [← hb]; exact B2.out.size
      have q1 : Below wr.heap.size wr w2 := ((Below.refl _ wr).alloc (Nat.le_refl _) (.map #[] 0)).grown g2 (by simp) (fun j hj => by cases hj; omega)
      have q2 : Below W.heap.size W w2 := B2.out.trans (q1.mono B2.out.size)
      have hrow : RowI w2 (.slice ao 8 cp) (ints (digs a 8)) := (rowI_own (n := 8) O2.out).1.below q1
      have HR : Hid (WaysAt w2 (.map (some b)) (waysOf a) ∧ Below W.heap.size W w2) := by
        refine ⟨.inr ⟨b, _, _, rfl, m2, fun s => ?_⟩, q2⟩
        unfold OptR put waysOf
        by_cases hs : s = nameS
        · rw [if_pos hs, if_pos (show s = ⟨#[83]⟩ from hs)]
          exact hrow
        · rw [if_neg hs, if_neg (show ¬ s = ⟨#[83]⟩ from hs)]
          trivial
      clear m1 hS1 m2 g2 hbw q1 q2 hrow O2 B2 D2
      go_wp2
      go_ret
      exact ⟨_, rfl, HR.out⟩
end Sb
end Go.Proofs.Ytebnonbfjkielaa

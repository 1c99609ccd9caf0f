/- The walks of layer 1's laws: LexCuts, LexWords. -/
import Derived.Test.YtccajbcblbfgnaaLexS
import Derived.Test.YtccajbcblbfgnaaLexK
namespace Go.Proofs.Ytccajbcblbfgnaa
open Go.RowKit Lx
theorem lexGo_few : ∀ (f : Nat) (l : Bs) (p : Nat × Nat) (out : List Tok), out.length ≤ 8000 → (lexGo f l p out).toks.length ≤ 8001
  | 0, _, _, _, _ => Nat.zero_le _
  | f + 1, l, p, out, h => by
    simp only [lexGo]
    split
    · simp; omega
    · split
      · exact Nat.zero_le _
      · split
        · exact Nat.zero_le _
        · exact lexGo_few f _ _ _ (by simp; omega)
theorem lexAll_few (l : Bs) : (lexAll l).toks.length ≤ 8001 := by
  unfold lexAll
  split
  · exact Nat.zero_le _
  · exact lexGo_few _ _ _ _ (Nat.zero_le _)
theorem lexCuts_walk (s : ByteArray) (hs : s.size ≤ maxLen) (w : World) :
    Calls Try.prog 3 #[.string s] w fun e w' => e = .returned (.bool true) ∧ Below w.heap.size w w' := by
  have HM := Lib.hid hs
  unfold maxLen at hs
  by_cases h : 25000 < s.size
  · go_enter Try.func3, Try.ntmps3
    go_wp2_with fail
    refine (cut_any _).mono ?_
    rintro e x1 ⟨rfl, q1⟩
    go_wp2_with fail
    refine (cut_any _).mono ?_
    rintro e x2 ⟨rfl, q2⟩
    go_wp2
    go_ret
    exact ⟨rfl, q1.trans (q2.mono q1.size)⟩
  · go_enter Try.func3, Try.ntmps3
    go_wp2_with fail
    refine (cut_any _).mono ?_
    rintro e x1 ⟨rfl, q1⟩
    go_wp2_with fail
    refine (lall_any s HM.out _).mono ?_
    rintro e x2 ⟨v2, rfl, o2, q2⟩
    go_wp2_with fail
    refine (rall_any s HM.out _).mono ?_
    rintro e x3 ⟨v3, rfl, o3, q3⟩
    have hi := (Is.made x2 28 #[.int .i64 (lexAll (bs s)).code, .int .i64 (lexAll (bs s)).line, .int .i64 (lexAll (bs s)).col]).below q3 (by simp)
    have c0 := hi.at_ 0
    have c1 := hi.at_ 1
    have c2 := hi.at_ 2
    simp only [List.getElem?_toArray, List.getElem?_cons_zero, List.getElem?_cons_succ] at c0 c1 c2
    have hz : x2.heap.size < x3.heap.size := by have := q3.size; simp at this; omega
    go_wp2_with fail
    refine (fault_any _ _ _ _).mono ?_
    rintro e x4 ⟨rfl, q4⟩
    obtain ⟨A2, c2', rfl, t2⟩ := toks_of o2
    obtain ⟨A3, c3', rfl, t3⟩ := toks_of o3
    have q13 := ((Below.refl x2.heap.size x2).alloc (Nat.le_refl _) (.cells #[.int .i64 (lexAll (bs s)).code, .int .i64 (lexAll (bs s)).line, .int .i64 (lexAll (bs s)).col] 28)).trans (q3.mono (by simp))
    have q34 := ((Below.refl x3.heap.size x3).alloc (Nat.le_refl _) (.cells #[.int .i64 (lexAll (bs s)).code, .int .i64 (lexAll (bs s)).line, .int .i64 (lexAll (bs s)).col] 33)).trans (q4.mono (by simp))
    have t2' := t2.below (q13.trans (q34.mono q13.size))
    have t3' := t3.below q34
    have T2 := Lib.hid t2'
    have T3 := Lib.hid t3'
    have q14 := ((q1.trans (q2.mono q1.size)).trans (q13.mono (q1.trans (q2.mono q1.size)).size)).trans (q34.mono ((q1.trans (q2.mono q1.size)).trans (q13.mono (q1.trans (q2.mono q1.size)).size)).size)
    have Q := Lib.hid q14
    clear t2 t3 t2' t3' q14 q13 q34 hi c0 c1 c2 hz
    go_wp2_with fail
    refine (same_any _ (Nat.le_trans (lexAll_few _) (by decide)) A2 A3 _ _ _ T2.out T3.out).mono ?_
    rintro e x5 ⟨rfl, nq, rfl⟩
    go_wp2
    go_ret
    exact ⟨rfl, below_drewN Q.out nq⟩
theorem lexWords_walk (s : ByteArray) (hs : s.size ≤ maxLen) (w : World) :
    Calls Try.prog 6 #[.string s] w fun e w' => e = .returned (.bool true) ∧ Below w.heap.size w w' := by
  unfold maxLen at hs
  by_cases h : 100 < s.size
  · go_enter Try.func6, Try.ntmps6
    go_wp2_with fail
    refine (cut_any _).mono ?_
    rintro e x1 ⟨rfl, q1⟩
    go_wp2_with fail
    refine (cut_any _).mono ?_
    rintro e x2 ⟨rfl, q2⟩
    go_wp2
    go_ret
    exact ⟨rfl, q1.trans (q2.mono q1.size)⟩
  · go_enter Try.func6, Try.ntmps6
    go_wp2_with fail
    refine (cut_any _).mono ?_
    rintro e x1 ⟨rfl, q1⟩
    go_wp2_with fail
    refine (word_any s _).mono ?_
    rintro e x2 ⟨rfl, rfl⟩
    go_wp2_with fail
    refine (words_any _).mono ?_
    rintro e x2 ⟨rfl, rfl⟩
    go_wp2_with fail
    refine (words_in s _).mono ?_
    rintro e x2 ⟨rfl, rfl⟩
    go_wp2_with fail
    refine (word_yes [105, 109, 112, 108] (by decide) _).mono ?_
    rintro e x2 ⟨rfl, rfl⟩
    go_wp2_with fail
    refine (word_no ⟨#[105, 109, 112, 108, 32, 102, 111, 114]⟩ (by decide) _).mono ?_
    rintro e x2 ⟨rfl, rfl⟩
    go_wp2
    go_ret
    exact ⟨rfl, q1.alloc q1.size _⟩
end Go.Proofs.Ytccajbcblbfgnaa

/- The walk of layer 12's law SolveNils. -/
import Derived.Test.YtbflkaaenoeniaaDoorSolL
namespace Go.Proofs.YtbflkaaenoeniaaDoor
open Go.RowKit Lf Go.Deep Tr
namespace Sv
section
variable {w : World}
set_option maxHeartbeats 4000000 in
theorem solveNils_walk (hT : TabAt w) (n m r e : Int) :
    Calls Tryd.prog 7 #[.agg #[.int .i64 n, .int .i64 m, .int .i64 r, .int .i64 e]] w fun e w' => e = .returned (.bool true) ∧ Below w.heap.size w w' := by
  obtain ⟨w1, hw1⟩ : ∃ w1, w.alloc (.cells #[.int .i64 n, .int .i64 m, .int .i64 r, .int .i64 e] 44) = w1 := ⟨_, rfl⟩
  have B1 : Hid (Below w.heap.size w w1) := by rw [← hw1]; exact (Below.refl _ w).alloc (Nat.le_refl _) _
  have ID : Hid (Is w1 w.heap.size 44 #[.int .i64 n, .int .i64 m, .int .i64 r, .int .i64 e]) := by rw [← hw1]; exact Is.made w _ _
  have HW1 := Lib.hid hw1
  have T1 := Lib.hid (hT.below B1.out hT.pos)
  clear hT hw1
  go_enter Tryd.func7, Tryd.ntmps7
  go_wp2_with fail
  rw [HW1.out]
  have n0 := ID.out.at_ 0
  have n1 := ID.out.at_ 1
  have n2 := ID.out.at_ 2
  have n3 := ID.out.at_ 3
  simp only [List.getElem?_toArray, List.getElem?_cons_zero, List.getElem?_cons_succ] at n0 n1 n2 n3
  go_region
  have B2 : Hid (Below w.heap.size w w1.drew) := ⟨B1.out.os, B1.out.tape, B1.out.output, B1.out.size, B1.out.block⟩
  have T2 : Hid (TabAt w1.drew) := fun j hj => T1.out j hj
  obtain ⟨w2, hw2⟩ : ∃ w2, w1.drew = w2 := ⟨_, rfl⟩
  rw [hw2] at B2 T2 ⊢
  clear hw2 n0 n1 n2 n3 ID HW1 B1 T1
  have HS := Lib.hid (solved_any T2.out)
  have hc : 1501 < n ∨ (n ≤ 1501 ∧ 2700 < m) ∨ (n ≤ 1501 ∧ m ≤ 2700 ∧ n < 0) ∨ (n ≤ 1501 ∧ m ≤ 2700 ∧ 0 ≤ n ∧ m < 0) ∨ (n ≤ 1501 ∧ m ≤ 2700 ∧ 0 ≤ n ∧ 0 ≤ m) := by omega
  rcases hc with g1 | ⟨g1, g2⟩ | ⟨g1, g2, g3⟩ | ⟨g1, g2, g3, g4⟩ | ⟨g1, g2, g3, g4⟩
  rotate_left 4
  · have d1 : decide (1501 < n) = false := decide_eq_false (by omega)
    have d2 : decide (2700 < m) = false := decide_eq_false (by omega)
    have d3 : decide (n < 0) = false := decide_eq_false (by omega)
    have d4 : decide (m < 0) = false := decide_eq_false (by omega)
    go_wp2_with fail
    refine HS.out.mono ?_
    rintro x w3 ⟨rfl, q3⟩
    have B3 := Lib.hid (B2.out.trans (q3.mono B2.out.size))
    clear q3
    go_wp2_with fail
    refine (put_nil _ _ _).mono ?_
    rintro x w4 ⟨rfl, rfl⟩
    go_wp2_with fail
    refine (outlives_nil _ _ _).mono ?_
    rintro x w4 ⟨rfl, rfl⟩
    go_wp2_with fail
    refine (has_nil _ _ _).mono ?_
    rintro x w4 ⟨rfl, rfl⟩
    go_wp2_with fail
    refine (list_nil _ _).mono ?_
    rintro x w4 ⟨rfl, rfl⟩
    go_wp2_with fail
    refine (count_nil _ _).mono ?_
    rintro x w4 ⟨rfl, rfl⟩
    go_wp2
    go_ret
    exact ⟨rfl, B3.out⟩
  all_goals
    have HB := Lib.hid (new_bad (a := n) (c := m) (by omega) w2)
    try have d1 : decide (1501 < n) = false := decide_eq_false (by omega)
    try have d2 : decide (2700 < m) = false := decide_eq_false (by omega)
    try have d3 : decide (n < 0) = false := decide_eq_false (by omega)
    go_wp2_with fail
    refine HB.out.mono ?_
    rintro x w3 ⟨rfl, rfl⟩
    go_wp2_with fail
    refine HS.out.mono ?_
    rintro x w3 ⟨rfl, q3⟩
    have B3 := Lib.hid (B2.out.trans (q3.mono B2.out.size))
    clear q3
    go_wp2_with fail
    refine (put_nil _ _ _).mono ?_
    rintro x w4 ⟨rfl, rfl⟩
    go_wp2_with fail
    refine (outlives_nil _ _ _).mono ?_
    rintro x w4 ⟨rfl, rfl⟩
    go_wp2_with fail
    refine (has_nil _ _ _).mono ?_
    rintro x w4 ⟨rfl, rfl⟩
    go_wp2_with fail
    refine (list_nil _ _).mono ?_
    rintro x w4 ⟨rfl, rfl⟩
    go_wp2_with fail
    refine (count_nil _ _).mono ?_
    rintro x w4 ⟨rfl, rfl⟩
    go_wp2
    go_ret
    exact ⟨rfl, B3.out⟩
end
end Sv
end Go.Proofs.YtbflkaaenoeniaaDoor

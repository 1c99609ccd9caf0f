/- The walks of layer 12's laws: solved; small. -/
import Derived.Test.YtbflkaaenoeniaaDoorSolK
namespace Go.Proofs.YtbflkaaenoeniaaDoor
open Go.RowKit Lf Go.Deep Tr
namespace Sv
theorem solved_any {w : World} (hT : TabAt w) : Calls Tryd.prog 8 #[] w fun e w' => e = .returned (.bool true) ∧ Below w.heap.size w w' := by
  have HT := Lib.hid hT
  clear hT
  go_enter Tryd.func8, Tryd.ntmps8
  go_wp2_with fail
  refine (new_any w (n := 3) (m := 70) (by decide) (by decide)).mono ?_
  rintro e w1 ⟨b, rfl, q1⟩
  obtain ⟨b1, b2, O, I, hk, hr⟩ := q1.knows HT.out (by decide)
  have HR := Lib.hid hr
  have K1 := Lib.hid hk
  have B1 := Lib.hid q1.since
  clear q1 hk hr
  go_wp2_with fail
  refine (outlives_any K1.out (x := 0) (y := 1) (by decide) (by decide)).mono ?_
  rintro e w2 ⟨rfl, q1, q2⟩
  have K2 := Lib.hid q1
  have B2 := Lib.hid (q2.below B1.out B1.out.size HR.out)
  clear q1 q2 K1 B1
  go_wp2_with fail
  refine (outlives_any K2.out (x := 1) (y := 2) (by decide) (by decide)).mono ?_
  rintro e w3 ⟨rfl, q1, q2⟩
  have K3 := Lib.hid q1
  have B3 := Lib.hid (q2.below B2.out B2.out.size HR.out)
  clear q1 q2 K2 B2
  go_wp2_with fail
  refine (put_any K3.out (r := 2) (e := 67) (by decide) (by decide)).mono ?_
  rintro e w4 ⟨rfl, q1, q2⟩
  have K4 := Lib.hid q1
  have B4 := Lib.hid (q2.below B3.out B3.out.size HR.out)
  clear q1 q2 K3 B3
  have h1 := has_knows K4.out (r := 0) (e := 67) (by decide) (by decide)
  have h2 := has_knows K4.out (r := 0) (e := 66) (by decide) (by decide)
  have h3 := count_any K4.out (r := 1) (by decide)
  rw [show gput (plus (plus eqR 0 1) 1 2) (gout (plus eqR 0 1) (gout eqR (fun _ _ => false) 0 1) 1 2) 2 67 67 0 = true by decide] at h1
  rw [show gput (plus (plus eqR 0 1) 1 2) (gout (plus eqR 0 1) (gout eqR (fun _ _ => false) 0 1) 1 2) 2 67 66 0 = false by decide] at h2
  rw [show (inL (gput (plus (plus eqR 0 1) 1 2) (gout (plus eqR 0 1) (gout eqR (fun _ _ => false) 0 1) 1 2) 2 67) 1 70).length = 1 by decide +kernel] at h3
  have H1 := Lib.hid h1
  have H2 := Lib.hid h2
  have H3 := Lib.hid h3
  clear h1 h2 h3 K4
  go_wp2_with fail
  refine H1.out.mono ?_
  rintro e w5 ⟨rfl, rfl⟩
  go_wp2_with fail
  refine H2.out.mono ?_
  rintro e w5 ⟨rfl, rfl⟩
  go_wp2_with fail
  refine H3.out.mono ?_
  rintro e w5 ⟨rfl, q5⟩
  have B5 := Lib.hid (B4.out.trans (q5.mono B4.out.size))
  clear q5
  go_wp2
  go_ret
  exact ⟨rfl, B5.out⟩
theorem small_yes {n m : Int} {A : Option Addr} {l cp : Nat} (h1 : 0 ≤ n) (h2 : n ≤ 12) (h3 : 0 ≤ m) (h4 : m ≤ 150) (h5 : l ≤ 60) (w : World) :
    Calls Tryd.prog 9 #[.int .i64 n, .int .i64 m, .slice A l cp] w fun e w' => e = .returned (.bool true) ∧ w = w' := by
  have h5' : (l : Int) ≤ 60 := by omega
  go_enter Tryd.func9, Tryd.ntmps9
  go_wp2
  go_ret
  exact ⟨rfl, rfl⟩
theorem small_no {n m : Int} {A : Option Addr} {l cp : Nat} (h : ¬(0 ≤ n ∧ n ≤ 12 ∧ 0 ≤ m ∧ m ≤ 150 ∧ l ≤ 60)) (w : World) :
    Calls Tryd.prog 9 #[.int .i64 n, .int .i64 m, .slice A l cp] w fun e w' => e = .returned (.bool false) ∧ w = w' := by
  by_cases h1 : 0 ≤ n
  · by_cases h2 : n ≤ 12
    · by_cases h3 : 0 ≤ m
      · by_cases h4 : m ≤ 150
        · have h5 : ¬ l ≤ 60 := fun h5 => h ⟨h1, h2, h3, h4, h5⟩
          have d : decide ((l : Int) ≤ 60) = false := decide_eq_false (by omega)
          clear h
          go_enter Tryd.func9, Tryd.ntmps9
          go_wp2
          go_ret
          exact ⟨rfl, rfl⟩
        · have d : decide (m ≤ 150) = false := decide_eq_false h4
          clear h
          go_enter Tryd.func9, Tryd.ntmps9
          go_wp2
          go_ret
          exact ⟨rfl, rfl⟩
      · have d : decide (0 ≤ m) = false := decide_eq_false h3
        clear h
        go_enter Tryd.func9, Tryd.ntmps9
        go_wp2
        go_ret
        exact ⟨rfl, rfl⟩
    · have d : decide (n ≤ 12) = false := decide_eq_false h2
      clear h
      go_enter Tryd.func9, Tryd.ntmps9
      go_wp2
      go_ret
      exact ⟨rfl, rfl⟩
  · have d : decide (0 ≤ n) = false := decide_eq_false h1
    clear h
    go_enter Tryd.func9, Tryd.ntmps9
    go_wp2
    go_ret
    exact ⟨rfl, rfl⟩
end Sv
end Go.Proofs.YtbflkaaenoeniaaDoor

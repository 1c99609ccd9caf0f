/- The walk of layer 6's law LifeMore. -/
import Derived.Test.YtfadojniihjneaaLifeE
import Derived.Test.YtfadojniihjneaaLifeO
namespace Go.Proofs.Ytfadojniihjneaa
open Go.RowKit Lf Go.Deep
set_option maxHeartbeats 2000000 in
set_option maxRecDepth 100000 in
theorem lifeMore_walk (a : Int) (A : Option Addr) (L : List (Int × Int)) (cp : Nat) (x y : Int) (w : World) (hL : PAt w A L) :
    Calls Try.prog 7 #[.int .i64 a, .slice A L.length cp, .agg #[.int .i64 x, .int .i64 y]] w fun e w' => e = .returned (.bool true) ∧ Below w.heap.size w w' := by
  have HL := Lib.hid hL
  obtain ⟨H, hH⟩ : ∃ x, w.heap.size = x := ⟨_, rfl⟩
  have HH := Lib.hid hH
  rw [hH]
  by_cases hout : a < 0 ∨ (0 ≤ a ∧ 20 < a) ∨ (0 ≤ a ∧ a ≤ 20 ∧ 40 < L.length)
  · clear hH hL
    rcases hout with h1 | ⟨h1, h2⟩ | ⟨h1, h2, h3⟩
    all_goals
      go_enter Try.func7, Try.ntmps7
      go_wp2_with fail
      refine (outlived_any _).mono ?_
      rintro e w1 ⟨rfl, q1⟩
      go_wp2_with fail
      refine (outlived_any _).mono ?_
      rintro e w2 ⟨rfl, q2⟩
      go_wp2
      go_ret
      have hs : (w.alloc (.cells #[.int .i64 x, .int .i64 y] 40)).heap.size = w.heap.size + 1 := by simp
      have q0 : Below H w (w.alloc (.cells #[.int .i64 x, .int .i64 y] 40)) := (Below.refl _ w).alloc (by rw [HH.out]; exact Nat.le_refl _) _
      exact ⟨rfl, (q0.trans (q1.mono (by rw [hs, HH.out]; omega))).trans (q2.mono (by have := q1.size; rw [hs, HH.out] at this; omega))⟩
  · have h0 : 0 ≤ a := by omega
    have h12 : a ≤ 20 := by omega
    have hn : L.length ≤ 40 := by omega
    obtain ⟨m, ham⟩ : ∃ m : Nat, a + 1 = m := ⟨(a + 1).toNat, by omega⟩
    have hmp : 0 < m := by omega
    have hm : m ≤ 21 := by omega
    clear hout hL
    have I0 := Lib.hid (Is.made w 40 #[.int .i64 x, .int .i64 y])
    have q0 : Below H w (w.alloc (.cells #[.int .i64 x, .int .i64 y] 40)) := (Below.refl _ w).alloc (by omega) _
    have s0 : (w.alloc (.cells #[.int .i64 x, .int .i64 y] 40)).heap.size = H + 1 := by simp [hH]
    rw [hH] at I0
    have Q0 := Lib.hid q0
    have S0 := Lib.hid s0
    clear q0 s0
    go_enter Try.func7, Try.ntmps7
    go_wp2_with fail
    refine (outlived_any _).mono ?_
    rintro e w1 ⟨rfl, q1⟩
    clear hH
    have I1 := Lib.hid (I0.out.below q1 (by rw [S0.out]; omega))
    have Q1 := Lib.hid (Q0.out.trans (q1.mono (by rw [S0.out]; omega)))
    have S1 := Lib.hid (show H + 1 ≤ w1.heap.size by have := q1.size; rw [S0.out] at this; exact this)
    clear q1
    go_wp2_with fail
    refine (both_any w1 A L cp h0 (by omega) ham (HL.out.below (by rw [HH.out]; exact Q1.out)) (by omega)).mono ?_
    rintro e w2 ⟨c, cap, ao, rfl, hb⟩
    have I2 := I1.out.below hb.since (by have := S1.out; omega)
    obtain ⟨H1, hH1⟩ : ∃ x, w1.heap.size = x := ⟨_, rfl⟩
    have hHH : H ≤ H1 := by have := S1.out; omega
    rw [hH1] at hb ⊢
    obtain ⟨P, hP⟩ : ∃ P, vp m L = P := ⟨_, rfl⟩
    rw [hP] at hb
    have R0 := Lib.hid hb.rel
    have Q2 := Lib.hid (Q1.out.trans (hb.since.mono hHH))
    clear hb hP hH1
    have c0 := I2.at_ 0
    have c1 := I2.at_ 1
    simp only [List.getElem?_toArray, List.getElem?_cons_zero, List.getElem?_cons_succ] at c0 c1
    clear I2
    go_wp2_with fail
    go_quiet (fail)
    go_wp2_with fail
    obtain ⟨i, hi, him⟩ := idx x hmp (by omega)
    obtain ⟨j, hj, hjm⟩ := idx y hmp (by omega)
    rw [hi, hj]
    clear hi hj c0 c1
    have OK := Lib.hid (all_ok P stat_ok)
    have R1 := Lib.hid (R0.out.drewN nq)
    have Q3 := Lib.hid (below_drewN Q2.out nq)
    refine (clone_any R1.out).mono ?_
    rintro e w3 ⟨rfl, ⟨B2, K2, q1, q2⟩, q3⟩
    obtain ⟨H2, hH2⟩ : ∃ x, (w2.drewN nq).heap.size = x := ⟨_, rfl⟩
    have l2 : ∀ i, i < m → H1 + 2 + i < H2 := fun i hi => by rw [← hH2]; exact R1.out.lt2 hi
    rw [hH2] at q1 q2 q3 ⊢
    have R2 := Lib.hid (R1.out.below (by rw [hH2]; exact q3))
    have W2 := Lib.hid q1
    have B2H := Lib.hid q2
    have L2 := Lib.hid l2
    have hle2 : H ≤ H2 := by have := Q3.out.size; rw [hH2, HH.out] at this; exact this
    have Q4 := Lib.hid (Q3.out.trans (q3.mono hle2))
    clear q1 q2 q3 l2 hH2
    go_wp2_with fail
    refine (add_any R2.out OK.out him hjm).mono ?_
    rintro e w4 ⟨rfl, q1, q2⟩
    have R5 := Lib.hid q1
    have W5 : Hid (LRel w4 (H2 + 1) H2 B2 K2 m (all stat P)) := by
      have hn : ∀ k, H2 ≤ k → ¬rowsOf (fun i => H1 + 2 + i) m k := by
        rintro k hk ⟨i, hi, rfl⟩
        have h1 := L2.out i hi
        have hk' : H2 ≤ H1 + 2 + i := hk
        omega
      exact W2.out.of (q2.block _ (hn _ (by omega))) (q2.block _ (hn _ (Nat.le_refl _))) fun i hi => q2.block _ (hn _ (by have := B2H.out i hi; omega))
    have Q5 := Lib.hid (Q4.out.trans ((rows_below q2).mono hHH))
    clear q1 q2
    go_wp2
    go_loopw [14] (fun s wr => ∃ k : Nat, k ≤ m ∧ s = .int .i64 k ∧ wr = w4) (fun s _ => m - (intOf s).toNat)
    case atStart => exact ⟨0, Nat.zero_le _, rfl, rfl⟩
    case round =>
      obtain ⟨k, hk, rfl, rfl⟩ := hrel
      by_cases hlt : k < m
      · have hka : (k : Int) ≤ a := by omega
        go_wp2
        go_loopw [15] (fun s wx => ∃ q : Nat, q ≤ m ∧ s = .int .i64 q ∧ wx = wr) (fun s _ => m - (intOf s).toNat)
        case atStart => exact ⟨0, Nat.zero_le _, rfl, rfl⟩
        case round =>
          obtain ⟨q, hq, rfl, rfl⟩ := hrel
          by_cases hqt : q < m
          · have hqa : (q : Int) ≤ a := by omega
            go_wp2_with fail
            refine (has_in R5.out hlt hqt).mono ?_
            rintro e w6 ⟨rfl, rfl⟩
            go_wp2_with fail
            refine (has_in W5.out hlt hqt).mono ?_
            rintro e w6 ⟨rfl, rfl⟩
            obtain ⟨u, hu⟩ : ∃ u, plus (all stat P) i j k q = u := ⟨_, rfl⟩
            obtain ⟨u0, hu0⟩ : ∃ u, all stat P k q = u := ⟨_, rfl⟩
            obtain ⟨u1, hu1⟩ : ∃ u, all stat P k i = u := ⟨_, rfl⟩
            obtain ⟨u2, hu2⟩ : ∃ u, all stat P j q = u := ⟨_, rfl⟩
            have hx : u = (u0 || (u1 && u2)) := by rw [← hu, ← hu0, ← hu1, ← hu2]; rfl
            rw [hu, hu0, hx]
            have U1 := Lib.hid hu1
            have U2 := Lib.hid hu2
            clear hu hu0 hu1 hu2 hx
            cases u0 with
            | true =>
              go_wp2
              go_roundw
              case rel => exact ⟨q + 1, by omega, by go_num, trivial⟩
              case measure => simp [intOf]; omega
            | false =>
              go_wp2_with fail
              refine (has_in W5.out hlt him).mono ?_
              rw [U1.out]
              rintro e w6 ⟨rfl, rfl⟩
              cases u1 with
              | false =>
                go_wp2
                go_roundw
                case rel => exact ⟨q + 1, by omega, by go_num, trivial⟩
                case measure => simp [intOf]; omega
              | true =>
                go_wp2_with fail
                refine (has_in W5.out hjm hqt).mono ?_
                rw [U2.out]
                rintro e w6 ⟨rfl, rfl⟩
                cases u2 <;>
                · go_wp2
                  go_roundw
                  case rel => exact ⟨q + 1, by omega, by go_num, trivial⟩
                  case measure => simp [intOf]; omega
          · have hqa : a < (q : Int) := by omega
            go_wp2
            go_roundw
            case rel => exact ⟨k + 1, by omega, by go_num, trivial⟩
            case measure => simp [intOf]; omega
      · have hka : a < (k : Int) := by omega
        go_wp2
        go_ret
        exact ⟨rfl, Q5.out⟩
end Go.Proofs.Ytfadojniihjneaa

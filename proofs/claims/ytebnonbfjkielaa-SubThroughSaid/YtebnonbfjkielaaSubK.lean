/- Layer 10: the law SubSelf. -/
import Derived.BigQuiet
import Derived.Deep.QuietTactic
import Derived.Test.YtebnonbfjkielaaSubJ
namespace Go.Proofs.Ytebnonbfjkielaa
open Go.RowKit Go.Deep Tr Ts Vy Mp
namespace Sb
theorem all_big {x : Ty} (h : Slim 6 x) : 2 * (allP x).length ≤ Big := by
  have := all_le 6 x h
  have h6 := most6
  unfold Big
  omega
mutual
theorem same_refl : ∀ x : Ty, sameP x x = true
  | .mk k nm u r rs ar => by rw [sameP, sameL_refl ar, Bool.and_true]; exact decide_eq_true ⟨rfl, rfl, rfl, fun _ => rfl⟩
theorem sameL_refl : ∀ l : List Ty, sameL l l = true
  | [] => by rw [sameL]
  | x :: l => by rw [sameL, same_refl x, sameL_refl l]; rfl
end
theorem look_self (Z : Ws) (x : Ty) (v : Nat) : ∀ p ∈ lookP Z x x v, p.1 = p.2 := by
  rw [look_zip Z (same_refl x)]
  exact zip_self _ _
set_option maxHeartbeats 16000000 in
set_option maxRecDepth 100000 in
theorem subSelf_walk {n : Nat} {x : Ty} {cs : List Value} {W : World} (h : TyAt W n x cs) (a : Nat) (ha : a < 18446744073709551616) :
    Calls Try.prog 3 #[.agg cs.toArray, .int .u64 (a : Int)] W fun e W' => e = .returned (.bool true) ∧ Below W.heap.size W W' := by
  obtain ⟨k, nm, u, r, R, lr, cr, A, la, ca, rfl⟩ := h.shape
  obtain ⟨o1, ho1⟩ : ∃ o, Obj.cells #[.int .i64 k, .string nm, .bool u, .int .i64 r, .slice R lr cr, .slice A la ca] 25 = o := ⟨_, rfl⟩
  have B1 : Below W.heap.size W (W.alloc o1) := (Below.refl _ W).alloc (Nat.le_refl _) o1
  have i1 : Is (W.alloc o1) W.heap.size 25 #[.int .i64 k, .string nm, .bool u, .int .i64 r, .slice R lr cr, .slice A la ca] := by rw [← ho1]; exact Is.made W _ _
  obtain ⟨V, hV⟩ : ∃ V, W.alloc o1 = V := ⟨_, rfl⟩
  rw [hV] at B1 i1
  have HV : Hid (W.alloc (.cells #[.int .i64 k, .string nm, .bool u, .int .i64 r, .slice R lr cr, .slice A la ca] 25) = V) := by rw [← hV, ← ho1]; exact rfl
  obtain ⟨N, hN⟩ : ∃ N, W.heap.size = N := ⟨_, rfl⟩
  have HN := Lib.hid hN
  rw [hN] at i1
  have KC : Hid (∀ X, Below V.heap.size V X → X.cell? ⟨N, 0, none⟩ = some (.int .i64 k) ∧ X.cell? ⟨N, 1, none⟩ = some (.string nm) ∧ X.cell? ⟨N, 2, none⟩ = some (.bool u) ∧ X.cell? ⟨N, 3, none⟩ = some (.int .i64 r) ∧ X.cell? ⟨N, 4, none⟩ = some (.slice R lr cr) ∧ X.cell? ⟨N, 5, none⟩ = some (.slice A la ca)) := by
    intro X hX
    have j1 := i1.below hX i1.lt
    exact ⟨j1.at_ 0, j1.at_ 1, j1.at_ 2, j1.at_ 3, j1.at_ 4, j1.at_ 5⟩
  have HT : Hid (∀ X, Below V.heap.size V X → TyAt X n x [.int .i64 k, .string nm, .bool u, .int .i64 r, .slice R lr cr, .slice A la ca]) := fun X hX => TyAt.below (B1.trans (hX.mono B1.size)) _ _ _ h
  have HWV : Hid (∀ X, Below V.heap.size V X → Below W.heap.size W X) := fun X hX => B1.trans (hX.mono B1.size)
  have HA := Lib.hid ha
  clear h ho1 B1 i1 hN hV ha
  go_enter Try.func3, Try.ntmps3
  go_wp2_with fail
  rw [HV.out]
  try rw [HN.out]
  refine (does_any V).mono ?_
  rintro e W1 ⟨rfl, b1⟩
  have G1 := Lib.hid b1
  clear b1
  obtain ⟨n0, n1, n2, n3, n4, n5⟩ := KC.out W1 G1.out
  have HSA := Lib.hid (small_any n x _ 6 W1 (HT.out W1 G1.out) (by decide))
  go_wp2_with fail
  refine HSA.out.mono ?_
  rintro e W2 ⟨⟨sa, rfl, hsa⟩, b2⟩
  have G2 := Lib.hid (G1.out.trans (b2.mono G1.out.size))
  clear b2 HSA n0 n1 n2 n3 n4 n5
  cases sa with
  | false =>
    go_wp2_with fail
    refine (does_any W2).mono ?_
    rintro e W3 ⟨rfl, b3⟩
    have G3 := Lib.hid (HWV.out _ (G2.out.trans (b3.mono G2.out.size)))
    clear b3
    go_wp2
    go_ret
    exact ⟨rfl, G3.out⟩
  | true =>
    have SA := Lib.hid (hsa rfl)
    clear hsa
    obtain ⟨n0, n1, n2, n3, n4, n5⟩ := KC.out W2 G2.out
    have HWY : Hid (∀ X, Calls Try.prog 10 #[.int .u64 (a : Int)] X fun e W' => ∃ o, e = .returned o ∧ WaysAt W' o (waysOf a) ∧ Below X.heap.size X W') := fun X => ways_any a HA.out X
    have G2d := Lib.hid (bel_drew G2.out)
    go_wp2_with fail
    go_region_held3 (fun X => X.cell? ⟨N, 0, none⟩ = some (.int .i64 k) ∧ X.cell? ⟨N, 1, none⟩ = some (.string nm) ∧ X.cell? ⟨N, 2, none⟩ = some (.bool u) ∧ X.cell? ⟨N, 3, none⟩ = some (.int .i64 r) ∧ X.cell? ⟨N, 4, none⟩ = some (.slice R lr cr) ∧ X.cell? ⟨N, 5, none⟩ = some (.slice A la ca))
      (first
        | exact ⟨n0, n1, n2, n3, n4, n5⟩
        | exact KC.out _ G4.out
        | exact KC.out _ G3.out)
      (first
        | (go_at_call 9; refine HP.out.mono ?_; rintro e W4 ⟨⟨pv, rfl, hr⟩, b⟩; have HRW := Lib.hid hr; have G4 := Lib.hid (G3.out.trans (b.mono G3.out.size)); clear hr b)
        | (go_at_call 10; refine (HWY.out _).mono ?_; rintro e W3 ⟨o, rfl, hw, b⟩; have G3 := Lib.hid (G2d.out.trans (b.mono G2d.out.size)); have HP := Lib.hid (pairs_any (HT.out _ G3.out) (HT.out _ G3.out) hw (waysOf_few a) (all_big SA.out)); clear hw b))
    all_goals
      have HRP : Hid (RowP W4 pv (lookP (waysOf a) x x 1)) := by
        have := HRW.out
        rw [same_refl, if_pos rfl] at this
        exact this
      have HE := Lib.hid (look_self (waysOf a) x 1)
      obtain ⟨L, hL⟩ : ∃ L, lookP (waysOf a) x x 1 = L := ⟨_, rfl⟩
      rw [hL] at HRP HE
      rw [same_refl]
      obtain ⟨B, cb, hv, hl⟩ := HRP.out
      subst hv
      have hle := hl.le
      unfold maxLen at hle
      have HL := Lib.hid hl
      obtain ⟨lp, hlp⟩ : ∃ m, L.length = m := ⟨_, rfl⟩
      have HLP := Lib.hid hlp
      rw [hlp] at hle ⊢
      have HD : Hid (Below W.heap.size W W4) := HWV.out _ G4.out
      clear HRW HRP hL hl hlp n0 n1 n2 n3 n4 n5 HWY G2d HP G3 G4 G2 G1
      go_wp2
      go_loopw [7] (fun i wr => ∃ j : Nat, j ≤ lp ∧ i = .int .i64 j ∧ Hid (Below W4.heap.size W4 wr)) (fun i _ => lp - (intOf i).toNat)
      case atStart => exact ⟨0, Nat.zero_le _, rfl, .refl _ _⟩
      case round =>
        obtain ⟨j, hj, rfl, HQ⟩ := hrel
        by_cases hjl : j < lp
        · obtain ⟨bk, o', rfl, hlt, hc1, hc2⟩ := pair_at HL.out (show j < L.length by rw [HLP.out]; exact hjl)
          have e12 := HE.out _ (List.getElem_mem (show j < L.length by rw [HLP.out]; exact hjl))
          obtain ⟨q1, hq1⟩ : ∃ q, (L[j]'(by rw [HLP.out]; exact hjl)).1 = q := ⟨_, rfl⟩
          rw [← e12, hq1] at hc2
          rw [hq1] at hc1
          have d1 := (HQ.out.cell (p := ⟨bk, o' + j * 2, none⟩) hlt).trans hc1
          have d2 := (HQ.out.cell (p := ⟨bk, o' + j * 2 + 1, none⟩) hlt).trans hc2
          clear hc1 hc2 e12 hq1
          go_wp2_with fail
          go_quiet (fail)
          have HR : Hid (Below W4.heap.size W4 (wr.drewN nq)) := ⟨HQ.out.os, HQ.out.tape, HQ.out.output, HQ.out.size, HQ.out.block⟩
          clear HQ d1 d2
          go_wp2
          go_roundw
          case rel => exact ⟨j + 1, by omega, by go_num, HR⟩
          case measure => simp [intOf]; omega
        · have hje : j = lp := by omega
          have HD2 : Hid (Below W.heap.size W wr) := HD.out.trans (HQ.out.mono HD.out.size)
          clear HQ HD
          go_wp2
          go_ret
          exact ⟨rfl, HD2.out⟩
end Sb
end Go.Proofs.Ytebnonbfjkielaa

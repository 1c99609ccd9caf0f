/- Layer 10: Outlive leaves the memory as it was. -/
import Derived.BigQuiet
import Derived.Deep.QuietTactic
import Derived.Test.YtebnonbfjkielaaSubM
import Derived.Test.YtebnonbfjkielaaSubN
namespace Go.Proofs.Ytebnonbfjkielaa
open Go.RowKit Go.Deep Tr Ts Vy Mp
namespace Sb
set_option maxHeartbeats 16000000 in
set_option maxRecDepth 100000 in
theorem outlive_quiet {L : Ps} {lv : Value} {W : World} {sb so : Nat} {S : Nat → Nat} (h : RowP W lv L) (hs : SetsAt W sb so S) (hr : InR L) :
    Calls Try.prog 12 #[lv, .slice (some ⟨sb, so, none⟩) 8 8] W fun e W' => e = .returned (.bool (outB S L)) ∧ ∃ m, W' = W.drewN m := by
  obtain ⟨A, c, rfl, hl⟩ := h
  have hle := hl.le
  unfold maxLen at hle
  obtain ⟨ll, hll⟩ : ∃ n, L.length = n := ⟨_, rfl⟩
  rw [hll] at hle ⊢
  have HL := Lib.hid hl
  have HLL := Lib.hid hll
  have HS := Lib.hid hs
  have HR := Lib.hid hr
  obtain ⟨res, hres⟩ : ∃ b, outB S L = b := ⟨_, rfl⟩
  have HE : Hid (outB S (L.drop 0) = res) := hres
  rw [hres]
  clear hl hll hs hr hres
  go_enter Try.func12, Try.ntmps12
  go_wp2
  go_loopw [5] (fun i wr => ∃ j : Nat, j ≤ ll ∧ i = .int .i64 j ∧ Hid ((∃ m, wr = W.drewN m) ∧ outB S (L.drop j) = res)) (fun i _ => ll - (intOf i).toNat)
  case atStart => exact ⟨0, Nat.zero_le _, rfl, ⟨0, rfl⟩, HE.out⟩
  clear HE
  case round =>
    obtain ⟨j, hj, rfl, HQ0⟩ := hrel
    have HWR := Lib.hid HQ0.out.1
    have HQ : Hid (Below W.heap.size W wr) := by
      obtain ⟨m, e⟩ := HWR.out
      have r := Below.refl W.heap.size W
      rw [e]
      exact ⟨r.os, r.tape, r.output, r.size, r.block⟩
    have HE := Lib.hid HQ0.out.2
    clear HQ0
    by_cases hjl : j < ll
    · obtain ⟨bk, o', rfl, hlt, hc1, hc2⟩ := pair_at HL.out (show j < L.length by rw [HLL.out]; exact hjl)
      have hin := HR.out _ (List.getElem_mem (show j < L.length by rw [HLL.out]; exact hjl))
      obtain ⟨x, hx⟩ : ∃ q, (L[j]'(by rw [HLL.out]; exact hjl)).1 = q := ⟨_, rfl⟩
      obtain ⟨y, hy⟩ : ∃ q, (L[j]'(by rw [HLL.out]; exact hjl)).2 = q := ⟨_, rfl⟩
      rw [hx, hy] at hin
      rw [hx] at hc1
      rw [hy] at hc2
      obtain ⟨xn, rfl⟩ : ∃ n : Nat, x = n := ⟨x.toNat, by omega⟩
      obtain ⟨yn, rfl⟩ : ∃ n : Nat, y = n := ⟨y.toNat, by omega⟩
      have hxn : xn < 8 := by omega
      have hyn : yn < 8 := by omega
      have d1 := (HQ.out.cell (p := ⟨bk, o' + j * 2, none⟩) hlt).trans hc1
      have d2 := (HQ.out.cell (p := ⟨bk, o' + j * 2 + 1, none⟩) hlt).trans hc2
      have s1 := (HQ.out.cell (p := ⟨sb, so + xn, none⟩) HS.out.lt).trans (HS.out.at_ xn hxn)
      have s2 := (HQ.out.cell (p := ⟨sb, so + yn, none⟩) HS.out.lt).trans (HS.out.at_ yn hyn)
      obtain ⟨sx, hsx⟩ : ∃ q, S xn = q := ⟨_, rfl⟩
      obtain ⟨sy, hsy⟩ : ∃ q, S yn = q := ⟨_, rfl⟩
      rw [hsx] at s1
      rw [hsy] at s2
      have e1 : decide ((xn : Int) < 0) = false := decide_eq_false (by omega)
      have e2 : decide ((yn : Int) < 0) = false := decide_eq_false (by omega)
      have e3 : decide ((8 : Int) ≤ (xn : Int)) = false := decide_eq_false (by omega)
      have e4 : decide ((8 : Int) ≤ (yn : Int)) = false := decide_eq_false (by omega)
      have HE2 : Hid ((!bad sy sx && outB S (L.drop (j + 1))) = res) := by
        have := HE.out
        rw [List.drop_eq_getElem_cons (show j < L.length by rw [HLL.out]; exact hjl)] at this
        unfold outB at this
        rw [List.all_cons, hx, hy, Int.toNat_natCast, Int.toNat_natCast, hsx, hsy] at this
        exact this
      clear hc1 hc2 hin hx hy hsx hsy HE
      by_cases hq : (bits BinOp.andNot IntKind.u64 (sy : Int) (sx : Int) != 0) = true
      · have hr : res = false := by rw [← HE2.out, show bad sy sx = true from hq]; rfl
        subst hr
        clear HE2
        go_wp2_with fail
        go_quiet (fail)
        go_wp2_with fail
        go_quiet (fail)
        have HB : Hid (∀ p q, ∃ m, (wr.drewN p).drewN q = W.drewN m) := fun p q => by
          obtain ⟨m, e⟩ := HWR.out
          exact ⟨m + p + q, by rw [e, World.drewN_drewN, World.drewN_drewN, Nat.add_assoc]⟩
        go_wp2
        go_ret
        exact ⟨rfl, HB.out _ _⟩
      · have hq : (bits BinOp.andNot IntKind.u64 (sy : Int) (sx : Int) != 0) = false := by simpa using hq
        have HE3 : Hid (outB S (L.drop (j + 1)) = res) := by have := HE2.out; rw [show bad sy sx = false from hq] at this; exact this
        clear HE2
        go_wp2_with fail
        go_quiet (fail)
        go_wp2_with fail
        go_quiet (fail)
        have HB : Hid (∀ q, (∃ m, wr.drewN q = W.drewN m) ∧ outB S (L.drop (j + 1)) = res) := fun q => by
          obtain ⟨m, e⟩ := HWR.out
          exact ⟨⟨m + q, by rw [e, World.drewN_drewN]⟩, HE3.out⟩
        clear HQ HWR HE3 d1 d2 s1 s2
        go_wp2
        go_roundw
        case rel => exact ⟨j + 1, by omega, by go_num, HB.out _⟩
        case measure => simp [intOf]; omega
    · have hje : j = ll := by omega
      have hr : res = true := by
        rw [← HE.out, List.drop_of_length_le (by rw [HLL.out]; omega)]
        rfl
      subst hr
      clear HE
      go_wp2
      go_ret
      exact ⟨rfl, HWR.out⟩
end Sb
end Go.Proofs.Ytebnonbfjkielaa

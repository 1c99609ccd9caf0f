/- The walks of layer 6's program: one pair more. -/
import Derived.BigRegion
import Derived.Test.YtfadojniihjneaaLifeP
namespace Go.Proofs.Ytfadojniihjneaa
open Go.RowKit Lf
/-- Row a has what row c has too, up to the lifetime k. -/
def orRow (M : R2) (a c k : Nat) : R2 := fun i j => if i = a ∧ j < k then M i j || M c j else M i j
theorem orRow_none (M : R2) (a c : Nat) : orRow M a c 0 = M := by
  funext i j
  unfold orRow
  rw [if_neg (by omega)]
theorem orRow_at (M : R2) (a c k : Nat) : orRow M a c k a k = M a k := if_neg (by omega)
theorem orRow_aside (M : R2) {a c : Nat} (h : a ≠ c) (k j : Nat) : orRow M a c k c j = M c j := if_neg (fun e => h e.1.symm)
theorem orRow_step (M : R2) (a c k : Nat) : upd (orRow M a c k) a k (M a k || M c k) = orRow M a c (k + 1) := by
  funext i j
  unfold upd orRow
  by_cases hi : i = a
  · subst hi
    by_cases hj : j = k
    · subst hj
      rw [if_pos ⟨rfl, rfl⟩, if_pos ⟨rfl, by omega⟩]
    · rw [if_neg (fun e => hj e.2)]
      by_cases hk : j < k
      · rw [if_pos ⟨rfl, hk⟩, if_pos ⟨rfl, by omega⟩]
      · rw [if_neg (fun e => hk e.2), if_neg (fun e => by have := e.2; omega)]
  · rw [if_neg (fun e => hi e.1), if_neg (fun e => hi e.1), if_neg (fun e => hi e.1)]
section
variable {w : World} {b b1 : Nat} {B K : Nat → Nat} {m : Nat} {M : R2}
set_option maxHeartbeats 1000000 in
theorem addAll_any (h : LRel w b b1 B K m M) {a c : Nat} (ha : a < m) (hc : c < m) (hac : a ≠ c) :
    Calls Try.prog 25 #[.pointer (some ⟨b, 0, none⟩), .int .i64 a, .slice (some ⟨B c, 0, none⟩) m (K c)] w fun e w' => e = .returned (.tuple #[]) ∧ LRel w' b b1 B K m (orRow M a c m) ∧ But (B a) w w' := by
  have H := Lib.hid h
  have hm := h.few
  clear h
  go_enter Try.func25, Try.ntmps25
  go_wp2_with fail
  refine (lifetimes_any H.out).mono ?_
  rintro e w1 ⟨rfl, rfl⟩
  go_wp2
  go_loopw [9] (fun i wr => ∃ k : Nat, k ≤ m ∧ i = .int .i64 k ∧ Hid (LRel wr b b1 B K m (orRow M a c k)) ∧ Hid (But (B a) w wr)) (fun i _ => m - (intOf i).toNat)
  case atStart =>
    refine ⟨0, Nat.zero_le _, rfl, ?_, But.refl _ _⟩
    show LRel w b b1 B K m (orRow M a c 0)
    rw [orRow_none]
    exact H.out
  case round =>
    obtain ⟨k, hk, rfl, HL, HB⟩ := hrel
    by_cases hlt : k < m
    · have c0 := HL.out.c0
      have c1 := HL.out.c1 ha
      have ca := HL.out.c2 ha hlt
      have cc := HL.out.c2 hc hlt
      have fa := HL.out.f2 ha k
      rw [orRow_at] at ca
      rw [orRow_aside M hac] at cc
      obtain ⟨A1, hA1⟩ : ∃ x, B a = x := ⟨_, rfl⟩
      obtain ⟨C1, hC1⟩ : ∃ x, B c = x := ⟨_, rfl⟩
      rw [hA1] at c1 ca fa
      rw [hC1] at cc ⊢
      have HE1 := Lib.hid hA1
      have hput : LRel (wr.setCell ⟨A1, k, none⟩ (.bool (M a k || M c k))) b b1 B K m (orRow M a c (k + 1)) := by
        have := HL.out.put ha hlt (M a k || M c k)
        rw [orRow_step, hA1] at this
        exact this
      have hbut : But (B a) w (wr.setCell ⟨A1, k, none⟩ (.bool (M a k || M c k))) := by
        rw [← hA1]
        exact HB.out.put _ _
      have HP := Lib.hid hput
      have HQ := Lib.hid hbut
      clear hput hbut hA1 hC1
      cases hx : M a k with
      | true =>
        rw [hx] at ca HP HQ
        rw [Bool.true_or] at HP HQ
        clear hx
        go_wp2_with fail
        go_region
        go_wp2
        go_roundw
        case rel => exact ⟨k + 1, by omega, by go_num, HP.out.drewN _, HQ.out.drewN _⟩
        case measure => simp [intOf]; omega
      | false =>
        rw [hx] at ca HP HQ
        rw [Bool.false_or] at HP HQ
        obtain ⟨x, hxc⟩ : ∃ x, M c k = x := ⟨_, rfl⟩
        rw [hxc] at cc HP HQ
        clear hx hxc
        go_wp2_with fail
        go_region
        go_wp2
        go_roundw
        case rel => exact ⟨k + 1, by omega, by go_num, HP.out.drewN _, HQ.out.drewN _⟩
        case measure => simp [intOf]; omega
    · have hkm : k = m := by omega
      subst hkm
      go_wp2
      go_end0
      exact ⟨rfl, HL.out, HB.out⟩
end
end Go.Proofs.Ytfadojniihjneaa

/- The walks of layer 6's program: Add. -/
import Derived.Test.YtfadojniihjneaaLifeQ
namespace Go.Proofs.Ytfadojniihjneaa
open Go.RowKit Lf
/-- Rows below k have turned. -/
def turnTo (M : R2) (a d k : Nat) : R2 := fun i j => if i < k then turn M a d i j else M i j
theorem turnTo_none (M : R2) (a d : Nat) : turnTo M a d 0 = M := by
  funext i j
  unfold turnTo
  rw [if_neg (by omega)]
theorem turnTo_at (M : R2) (a d k j : Nat) : turnTo M a d k k j = M k j := if_neg (by omega)
theorem turnTo_last {M : R2} (h : Ok M) (a d k j : Nat) : turnTo M a d k d j = M d j := by
  unfold turnTo turn
  split
  · rw [h.refl d]
    simp
  · rfl
theorem turnTo_keep {M : R2} {a d k : Nat} (h : (M k a && !M k d) = false) : turnTo M a d (k + 1) = turnTo M a d k := by
  funext i j
  unfold turnTo
  by_cases hi : i < k
  · rw [if_pos hi, if_pos (by omega)]
  · rw [if_neg hi]
    by_cases hk : i = k
    · subst hk
      rw [if_pos (by omega)]
      unfold turn
      rw [if_neg (by rw [h]; exact Bool.false_ne_true)]
    · rw [if_neg (by omega)]
theorem turnTo_step {M : R2} (ok : Ok M) {a d k m : Nat} (h : (M k a && !M k d) = true) (i j : Nat) (hj : j < m) : orRow (turnTo M a d k) k d m i j = turnTo M a d (k + 1) i j := by
  unfold orRow
  rw [turnTo_last ok]
  unfold turnTo
  by_cases hk : i = k
  · subst hk
    rw [if_pos ⟨rfl, hj⟩, if_neg (by omega), if_pos (by omega)]
    unfold turn
    rw [if_pos h]
  · rw [if_neg (fun e => hk e.1)]
    by_cases hi : i < k
    · rw [if_pos hi, if_pos (by omega)]
    · rw [if_neg hi, if_neg (by omega)]
section
variable {w : World} {b b1 : Nat} {B K : Nat → Nat} {m : Nat} {M : R2}
theorem add_bad1 (h : LRel w b b1 B K m M) {a : Int} (d : Int) (ha : Bad m a) : Calls Try.prog 20 #[.pointer (some ⟨b, 0, none⟩), .int .i64 a, .int .i64 d] w fun e w' => e = .returned (.int .i64 14) ∧ w = w' := by
  have H := Lib.hid h
  have HA := Lib.hid ha
  clear h ha
  go_enter Try.func20, Try.ntmps20
  go_wp2_with fail
  refine (knows_bad H.out HA.out).mono ?_
  rintro e w1 ⟨rfl, rfl⟩
  go_wp2
  go_ret
  exact ⟨rfl, rfl⟩
theorem add_bad2 (h : LRel w b b1 B K m M) {a : Nat} {d : Int} (ha : a < m) (hd : Bad m d) : Calls Try.prog 20 #[.pointer (some ⟨b, 0, none⟩), .int .i64 a, .int .i64 d] w fun e w' => e = .returned (.int .i64 14) ∧ w = w' := by
  have H := Lib.hid h
  have HA := Lib.hid hd
  clear h hd
  go_enter Try.func20, Try.ntmps20
  go_wp2_with fail
  refine (knows_in H.out ha).mono ?_
  rintro e w1 ⟨rfl, rfl⟩
  go_wp2_with fail
  refine (knows_bad H.out HA.out).mono ?_
  rintro e w1 ⟨rfl, rfl⟩
  go_wp2
  go_ret
  exact ⟨rfl, rfl⟩
theorem add_nil (a d : Int) (w : World) : Calls Try.prog 20 #[.pointer none, .int .i64 a, .int .i64 d] w fun e w' => e = .returned (.int .i64 14) ∧ w = w' := by
  go_enter Try.func20, Try.ntmps20
  go_wp2_with fail
  refine (knows_nil _ _).mono ?_
  rintro e w1 ⟨rfl, rfl⟩
  go_wp2
  go_ret
  exact ⟨rfl, rfl⟩
set_option maxHeartbeats 1000000 in
theorem add_any (h : LRel w b b1 B K m M) (ok : Ok M) {a d : Nat} (ha : a < m) (hd : d < m) : Calls Try.prog 20 #[.pointer (some ⟨b, 0, none⟩), .int .i64 a, .int .i64 d] w fun e w' =>
    e = .returned (.int .i64 0) ∧ LRel w' b b1 B K m (plus M a d) ∧ ButS (rowsOf B m) w w' := by
  have H := Lib.hid h
  have OK := Lib.hid ok
  have hm := h.few
  clear h ok
  go_enter Try.func20, Try.ntmps20
  go_wp2_with fail
  refine (knows_in H.out ha).mono ?_
  rintro e w1 ⟨rfl, rfl⟩
  go_wp2_with fail
  refine (knows_in H.out hd).mono ?_
  rintro e w1 ⟨rfl, rfl⟩
  go_wp2_with fail
  refine (lifetimes_any H.out).mono ?_
  rintro e w1 ⟨rfl, rfl⟩
  go_wp2
  go_loopw [20] (fun i wr => ∃ k : Nat, k ≤ m ∧ i = .int .i64 k ∧ Hid (LRel wr b b1 B K m (turnTo M a d k)) ∧ Hid (ButS (rowsOf B m) w wr)) (fun i _ => m - (intOf i).toNat)
  case atStart =>
    refine ⟨0, Nat.zero_le _, rfl, ?_, ButS.refl _ _⟩
    show LRel w b b1 B K m (turnTo M a d 0)
    rw [turnTo_none]
    exact H.out
  case round =>
    obtain ⟨k, hk, rfl, HL, HB⟩ := hrel
    by_cases hlt : k < m
    · have c0 := HL.out.c0
      have c1 := HL.out.c1 hlt
      have cd := HL.out.c1 hd
      have ca := HL.out.c2 hlt ha
      have cc := HL.out.c2 hlt hd
      rw [turnTo_at] at ca cc
      obtain ⟨x, hx⟩ : ∃ x, M k a = x := ⟨_, rfl⟩
      obtain ⟨y, hy⟩ : ∃ y, M k d = y := ⟨_, rfl⟩
      have HX := Lib.hid hx
      have HY := Lib.hid hy
      rw [hx] at ca
      rw [hy] at cc
      clear hx hy
      cases x with
      | false =>
        have HS : Hid (LRel wr b b1 B K m (turnTo M a d (k + 1))) := by
          show LRel wr b b1 B K m (turnTo M a d (k + 1))
          rw [turnTo_keep (by rw [HX.out]; rfl)]
          exact HL.out
        go_wp2
        go_roundw
        case rel => exact ⟨k + 1, by omega, by go_num, HS, HB⟩
        case measure => simp [intOf]; omega
      | true =>
        cases y with
        | true =>
          have HS : Hid (LRel wr b b1 B K m (turnTo M a d (k + 1))) := by
            show LRel wr b b1 B K m (turnTo M a d (k + 1))
            rw [turnTo_keep (by rw [HX.out, HY.out]; rfl)]
            exact HL.out
          go_wp2
          go_roundw
          case rel => exact ⟨k + 1, by omega, by go_num, HS, HB⟩
          case measure => simp [intOf]; omega
        | false =>
          have hne : k ≠ d := by
            rintro rfl
            have := HY.out
            rw [OK.out.refl] at this
            cases this
          have HN := Lib.hid hne
          clear hne
          go_wp2_with fail
          refine (addAll_any HL.out hlt hd HN.out).mono ?_
          rintro e w2 ⟨rfl, q2, q3⟩
          have HS : Hid (LRel w2 b b1 B K m (turnTo M a d (k + 1))) := q2.congr fun i j hi hj => turnTo_step OK.out (by rw [HX.out, HY.out]; rfl) i j hj
          have HT : Hid (ButS (rowsOf B m) w w2) := HB.out.trans (q3.toS ⟨k, hlt, rfl⟩)
          clear q2 q3
          go_wp2
          go_roundw
          case rel => exact ⟨k + 1, by omega, by go_num, HS, HT⟩
          case measure => simp [intOf]; omega
    · have hkm : k = m := by omega
      subst hkm
      go_wp2
      go_ret
      refine ⟨rfl, ?_, HB.out⟩
      refine HL.out.congr fun i j hi hj => ?_
      unfold turnTo
      rw [if_pos hi, turn_eq OK.out]
end
end Go.Proofs.Ytfadojniihjneaa

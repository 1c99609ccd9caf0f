/- The walks of layer 6's program: how many there are, which is one, does one outlive another. -/
import Derived.Test.YtfadojniihjneaaChecked
import Derived.Test.YtfadojniihjneaaLifeW
namespace Go.Proofs.Ytfadojniihjneaa
open Go.RowKit Lf
section
variable {w : World} {b b1 : Nat} {B K : Nat → Nat} {m : Nat} {M : R2}
theorem lifetimes_any (h : LRel w b b1 B K m M) : Calls Try.prog 24 #[.pointer (some ⟨b, 0, none⟩)] w fun e w' => e = .returned (.int .i64 m) ∧ w = w' := by
  have c0 := h.c0
  clear h
  go_enter Try.func24, Try.ntmps24
  go_wp2
  go_ret
  exact ⟨rfl, rfl⟩
theorem lifetimes_nil (w : World) : Calls Try.prog 24 #[.pointer none] w fun e w' => e = .returned (.int .i64 0) ∧ w = w' := by
  go_enter Try.func24, Try.ntmps24
  go_wp2
  go_ret
  exact ⟨rfl, rfl⟩
theorem knows_in (h : LRel w b b1 B K m M) {a : Nat} (ha : a < m) : Calls Try.prog 23 #[.pointer (some ⟨b, 0, none⟩), .int .i64 a] w fun e w' => e = .returned (.bool true) ∧ w = w' := by
  have H := Lib.hid h
  clear h
  go_enter Try.func23, Try.ntmps23
  go_wp2_with fail
  refine (lifetimes_any H.out).mono ?_
  rintro e w1 ⟨rfl, rfl⟩
  go_wp2
  go_ret
  exact ⟨rfl, rfl⟩
theorem knows_low (p : Value) {a : Int} (ha : a < 0) (w : World) : Calls Try.prog 23 #[p, .int .i64 a] w fun e w' => e = .returned (.bool false) ∧ w = w' := by
  go_enter Try.func23, Try.ntmps23
  go_wp2
  go_ret
  exact ⟨rfl, rfl⟩
theorem knows_high (h : LRel w b b1 B K m M) {a : Int} (ha : (m : Int) ≤ a) : Calls Try.prog 23 #[.pointer (some ⟨b, 0, none⟩), .int .i64 a] w fun e w' => e = .returned (.bool false) ∧ w = w' := by
  have H := Lib.hid h
  have h0 : 0 ≤ a := by omega
  have hd : decide (a < (m : Int)) = false := decide_eq_false (by omega)
  clear h
  go_enter Try.func23, Try.ntmps23
  go_wp2_with fail
  refine (lifetimes_any H.out).mono ?_
  rintro e w1 ⟨rfl, rfl⟩
  go_wp2
  go_ret
  exact ⟨rfl, rfl⟩
theorem knows_nil (a : Int) (w : World) : Calls Try.prog 23 #[.pointer none, .int .i64 a] w fun e w' => e = .returned (.bool false) ∧ w = w' := by
  by_cases h : a < 0
  · exact knows_low _ h w
  · have h0 : 0 ≤ a := by omega
    have hd : decide (a < 0) = false := decide_eq_false h
    go_enter Try.func23, Try.ntmps23
    go_wp2_with fail
    refine (lifetimes_nil _).mono ?_
    rintro e w1 ⟨rfl, rfl⟩
    go_wp2
    go_ret
    exact ⟨rfl, rfl⟩
/-- Is it none of the lifetimes? -/
def Bad (m : Nat) (a : Int) : Prop := a < 0 ∨ (m : Int) ≤ a
theorem knows_bad (h : LRel w b b1 B K m M) {a : Int} (ha : Bad m a) : Calls Try.prog 23 #[.pointer (some ⟨b, 0, none⟩), .int .i64 a] w fun e w' => e = .returned (.bool false) ∧ w = w' := by
  rcases ha with ha | ha
  · exact knows_low _ ha w
  · exact knows_high h ha
theorem not_bad {m : Nat} {a : Int} (h : ¬Bad m a) : ∃ k : Nat, a = k ∧ k < m := by
  unfold Bad at h
  exact ⟨a.toNat, by omega, by omega⟩
theorem has_in (h : LRel w b b1 B K m M) {a c : Nat} (ha : a < m) (hc : c < m) : Calls Try.prog 11 #[.pointer (some ⟨b, 0, none⟩), .int .i64 a, .int .i64 c] w fun e w' => e = .returned (.bool (M a c)) ∧ w = w' := by
  have H := Lib.hid h
  have c0 := h.c0
  have c1 := h.c1 ha
  have c2 := h.c2 ha hc
  obtain ⟨x, hx⟩ : ∃ x, M a c = x := ⟨_, rfl⟩
  rw [hx] at c2 ⊢
  clear h hx
  go_enter Try.func11, Try.ntmps11
  go_wp2_with fail
  refine (knows_in H.out ha).mono ?_
  rintro e w1 ⟨rfl, rfl⟩
  go_wp2_with fail
  refine (knows_in H.out hc).mono ?_
  rintro e w1 ⟨rfl, rfl⟩
  go_wp2
  go_ret
  exact ⟨rfl, rfl⟩
theorem has_bad1 (h : LRel w b b1 B K m M) {a : Int} (c : Int) (ha : Bad m a) : Calls Try.prog 11 #[.pointer (some ⟨b, 0, none⟩), .int .i64 a, .int .i64 c] w fun e w' => e = .returned (.bool false) ∧ w = w' := by
  have H := Lib.hid h
  have HA := Lib.hid ha
  clear h ha
  go_enter Try.func11, Try.ntmps11
  go_wp2_with fail
  refine (knows_bad H.out HA.out).mono ?_
  rintro e w1 ⟨rfl, rfl⟩
  go_wp2
  go_ret
  exact ⟨rfl, rfl⟩
theorem has_bad2 (h : LRel w b b1 B K m M) {a : Nat} {c : Int} (ha : a < m) (hc : Bad m c) : Calls Try.prog 11 #[.pointer (some ⟨b, 0, none⟩), .int .i64 a, .int .i64 c] w fun e w' => e = .returned (.bool false) ∧ w = w' := by
  have H := Lib.hid h
  have HC := Lib.hid hc
  clear h hc
  go_enter Try.func11, Try.ntmps11
  go_wp2_with fail
  refine (knows_in H.out ha).mono ?_
  rintro e w1 ⟨rfl, rfl⟩
  go_wp2_with fail
  refine (knows_bad H.out HC.out).mono ?_
  rintro e w1 ⟨rfl, rfl⟩
  go_wp2
  go_ret
  exact ⟨rfl, rfl⟩
open Classical in
noncomputable def hasI (m : Nat) (M : R2) (a c : Int) : Bool := if Bad m a ∨ Bad m c then false else M a.toNat c.toNat
theorem hasI_in {m : Nat} {M : R2} {a c : Nat} (ha : a < m) (hc : c < m) : hasI m M a c = M a c := by
  unfold hasI
  rw [if_neg]
  · rfl
  · unfold Bad; omega
theorem hasI_bad1 {m : Nat} {M : R2} {a c : Int} (ha : Bad m a) : hasI m M a c = false := if_pos (.inl ha)
theorem hasI_bad2 {m : Nat} {M : R2} {a c : Int} (ha : Bad m c) : hasI m M a c = false := if_pos (.inr ha)
theorem has_any (h : LRel w b b1 B K m M) (a c : Int) : Calls Try.prog 11 #[.pointer (some ⟨b, 0, none⟩), .int .i64 a, .int .i64 c] w fun e w' => e = .returned (.bool (hasI m M a c)) ∧ w = w' := by
  by_cases ha : Bad m a
  · rw [hasI_bad1 ha]
    exact has_bad1 h c ha
  · by_cases hc : Bad m c
    · rw [hasI_bad2 hc]
      obtain ⟨k, rfl, hk⟩ := not_bad ha
      exact has_bad2 h hk hc
    · obtain ⟨k, rfl, hk⟩ := not_bad ha
      obtain ⟨j, rfl, hj⟩ := not_bad hc
      rw [hasI_in hk hj]
      exact has_in h hk hj
theorem has_nil (a c : Int) (w : World) : Calls Try.prog 11 #[.pointer none, .int .i64 a, .int .i64 c] w fun e w' => e = .returned (.bool false) ∧ w = w' := by
  go_enter Try.func11, Try.ntmps11
  go_wp2_with fail
  refine (knows_nil _ _).mono ?_
  rintro e w1 ⟨rfl, rfl⟩
  go_wp2
  go_ret
  exact ⟨rfl, rfl⟩
theorem len_any (h : LRel w b b1 B K m M) : Calls Try.prog 14 #[.pointer (some ⟨b, 0, none⟩)] w fun e w' => e = .returned (.int .i64 (m - 1 : Int)) ∧ w = w' := by
  have H := Lib.hid h
  have hp := h.pos
  have hf := h.few
  clear h
  go_enter Try.func14, Try.ntmps14
  go_wp2_with fail
  refine (lifetimes_any H.out).mono ?_
  rintro e w1 ⟨rfl, rfl⟩
  go_wp2
  go_ret
  exact ⟨rfl, rfl⟩
theorem len_nil (w : World) : Calls Try.prog 14 #[.pointer none] w fun e w' => e = .returned (.int .i64 0) ∧ w = w' := by
  go_enter Try.func14, Try.ntmps14
  go_wp2_with fail
  refine (lifetimes_nil _).mono ?_
  rintro e w1 ⟨rfl, rfl⟩
  go_wp2
  go_ret
  exact ⟨rfl, rfl⟩
end
end Go.Proofs.Ytfadojniihjneaa

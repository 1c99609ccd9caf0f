/- The walks of layer 12: bits of a word in memory; the lowest bit's number. -/
import Derived.Test.YtbeepedobnaojaaDoorChecked
import Derived.Test.YtbeepedobnaojaaDoorHold
import Derived.Test.YtbeepedobnaojaaDoorSolA
import Derived.Lib.Hide
namespace Go.Proofs.YtbeepedobnaojaaDoor
open Go.RowKit Lf
namespace Sv
/-- The library's table lies in its variable. -/
def TabAt (w : World) : Prop := ∀ j, j < 64 → w.cell? ⟨0, j, none⟩ = some (.int .u8 (Lib.deBruijn64tab.getD j 0))
theorem TabAt.pos {w : World} (h : TabAt w) : 0 < w.heap.size := World.block_lt_of_cell? _ _ (h 0 (by decide))
theorem TabAt.of {w w' : World} (h : TabAt w) (he : w'.heap[0]? = w.heap[0]?) : TabAt w' := fun j hj => by rw [← h j hj]; unfold World.cell?; rw [he]
theorem TabAt.below {w w' : World} {A : Nat} (h : TabAt w) (hb : Below A w w') (hA : 0 < A) : TabAt w' := h.of (hb.block 0 hA)
theorem TabAt.ne {w : World} (h : TabAt w) {b : Nat} {x : Int} (hi : Is w b 40 #[.int .u64 x]) : b ≠ 0 := by
  rintro rfl
  have h0 := h 0 (by decide)
  rw [hi.at_] at h0
  simp at h0
theorem tz_key (x a : Nat) (hx : x < 18446744073709551616) (hlow : x &&& (18446744073709551616 - x) = a) :
    IntKind.u64.wrap (bits BinOp.and IntKind.u64 (x : Int) (IntKind.u64.wrap (-(x : Int))) * 285870213051353865) / 288230376151711744 = ((a * 285870213051353865 % 18446744073709551616 / 288230376151711744 : Nat) : Int) := by
  by_cases hx0 : x = 0
  · subst hx0
    simp at hlow
    subst hlow
    decide
  have e1 : IntKind.u64.wrap (-(x : Int)) = ((18446744073709551616 - x : Nat) : Int) := by rw [IntKind.wrap_u64]; omega
  rw [e1, bits_and_u64_nat x _ hx (by omega), hlow, IntKind.wrap_u64]
  omega
theorem tz_core (x k idx : Nat) (w : World) (hx0 : ((x : Int) == 0) = false)
    (key : IntKind.u64.wrap (bits BinOp.and IntKind.u64 (x : Int) (IntKind.u64.wrap (-(x : Int))) * 285870213051353865) / 288230376151711744 = (idx : Int))
    (hi : idx < 64) (hcell : w.cell? ⟨0, idx, none⟩ = some (.int .u8 k)) (hk : k < 64) :
    Calls Tryd.prog 42 #[.int .u64 x] w fun e w' => e = .returned (.int .i64 k) ∧ w = w' := by
  go_enter Tryd.func42, Tryd.ntmps42
  go_wp2_with (simp only [key])
  go_ret
  exact ⟨rfl, rfl⟩
theorem tz_any {w : World} (hT : TabAt w) {x k : Nat} (hx : x < 2 ^ 64) (hx0 : x ≠ 0) (hc : Lib.ctz 64 x = k) :
    Calls Tryd.prog 42 #[.int .u64 x] w fun e w' => e = .returned (.int .i64 k) ∧ w = w' := by
  obtain ⟨k', e, hk, _, _, _, hlow⟩ := low_bit hx0 hx
  rw [hc] at e
  subst e
  obtain ⟨hi, htab⟩ := Lib.deBruijn64_at _ hk
  have hcell := hT _ hi
  rw [htab] at hcell
  exact tz_core x k _ w (by simp; omega) (tz_key x _ hx hlow) hi hcell hk
theorem bit_at (x k : Nat) (hx : x < 2 ^ 64) : (bits BinOp.and IntKind.u64 ((x : Int) / 2 ^ k) 1 == 1) = x.testBit k := by
  have e : ((x : Int) / 2 ^ k) = ((x / 2 ^ k : Nat) : Int) := by
    rw [Int.natCast_ediv]; norm_cast
  have hl : x / 2 ^ k < 18446744073709551616 := Nat.lt_of_le_of_lt (Nat.div_le_self _ _) hx
  rw [e, show (1 : Int) = ((1 : Nat) : Int) from rfl, bits_and_u64_nat _ _ hl (by decide)]
  rw [Nat.testBit_eq_decide_div_mod_eq, Nat.and_one_is_mod]
  rw [Bool.eq_iff_iff, beq_iff_eq, decide_eq_true_iff]
  omega
theorem quo_word {k : Nat} (hk : k < 64) : (k : Int).tdiv 64 = 0 := by
  rw [Int.tdiv_eq_ediv_of_nonneg (by omega)]; omega
theorem rem_word {k : Nat} (hk : k < 64) : (k : Int).tmod 64 = k := by
  rw [Int.tmod_eq_emod_of_nonneg (by omega)]; omega
section
variable {w : World}
theorem has_bit {b x k : Nat} (h : w.cell? ⟨b, 0, none⟩ = some (.int .u64 x)) (hx : x < 2 ^ 64) (hk : k < 64) :
    Calls Tryd.prog 26 #[.slice (some ⟨b, 0, none⟩) 1 1, .int .i64 k] w fun e w' => e = .returned (.bool (x.testBit k)) ∧ w = w' := by
  have hq := quo_word hk
  have hr := rem_word hk
  have hb := bit_at x k hx
  go_enter Tryd.func26, Tryd.ntmps26
  go_wp2
  go_ret
  exact ⟨rfl, rfl⟩
theorem or_word (x k : Nat) (hx : x < 2 ^ 64) (hk : k < 64) : bits BinOp.or IntKind.u64 (x : Int) (IntKind.u64.wrap (2 ^ k)) = ((x ||| 2 ^ k : Nat) : Int) := by
  have hp : 2 ^ k < 18446744073709551616 := pow_lt hk
  have e0 : ((2 : Int) ^ k) = ((2 ^ k : Nat) : Int) := by norm_cast
  have e : IntKind.u64.wrap (2 ^ k) = ((2 ^ k : Nat) : Int) := by
    obtain ⟨q, hq⟩ : ∃ q, 2 ^ k = q := ⟨_, rfl⟩
    rw [IntKind.wrap_u64, e0, hq]
    rw [hq] at hp
    omega
  rw [e, bits_or_u64_nat _ _ hx hp]
set_option maxHeartbeats 1000000 in
theorem add_bit {b x k : Nat} (h : Is w b 40 #[.int .u64 x]) (hx : x < 2 ^ 64) (hk : k < 64) :
    Calls Tryd.prog 25 #[.slice (some ⟨b, 0, none⟩) 1 1, .int .i64 k] w fun e w' => e = .returned (.tuple #[]) ∧ Is w' b 40 #[.int .u64 ((x ||| 2 ^ k : Nat) : Int)] ∧ But b w w' := by
  have hq := quo_word hk
  have hr := rem_word hk
  have hb := or_word x k hx hk
  have c0 := h.at_ 0
  have f0 := h.free 0
  have I1 := Lib.hid (h.put 0 (.int .u64 ((x ||| 2 ^ k : Nat) : Int)))
  simp only [List.getElem?_toArray, List.getElem?_cons_zero] at c0
  clear h
  go_enter Tryd.func25, Tryd.ntmps25
  go_wp2_with fail
  go_region
  go_wp2
  go_end0
  exact ⟨rfl, I1.out.drew, ((But.refl b w).put _ _).drew⟩
end
end Sv
end Go.Proofs.YtbeepedobnaojaaDoor

/- Layer 10: is each pair so, where regions are sets. -/
import Derived.BigQuiet
import Derived.Deep.QuietTactic
import Derived.Test.YtebnonbfjkielaaSubM
namespace Go.Proofs.Ytebnonbfjkielaa
open Go.RowKit Go.Deep Tr Ts Vy Mp
namespace Sb
/-- Eight sets, as numbers. -/
structure SetsAt (w : World) (sb so : Nat) (S : Nat → Nat) : Prop where
  lt : sb < w.heap.size
  at_ : ∀ i, i < 8 → w.cell? ⟨sb, so + i, none⟩ = some (.int .u64 (S i : Int))
  big : ∀ i, S i < 18446744073709551616
theorem SetsAt.below {w w' : World} {sb so : Nat} {S : Nat → Nat} (h : SetsAt w sb so S) (hb : Below w.heap.size w w') : SetsAt w' sb so S :=
  ⟨Nat.lt_of_lt_of_le h.lt hb.size, fun i hi => (hb.cell (p := ⟨sb, so + i, none⟩) h.lt).trans (h.at_ i hi), h.big⟩
def InR (L : Ps) : Prop := ∀ p ∈ L, (0 ≤ p.1 ∧ p.1 < 8) ∧ 0 ≤ p.2 ∧ p.2 < 8
/-- Is there one in the first set that is not in the second? -/
def bad (a b : Nat) : Bool := bits .andNot .u64 (a : Int) (b : Int) != 0
theorem bad_bit {a b : Nat} (ha : a < 18446744073709551616) (_ : b < 18446744073709551616) : bad a b = false ↔ ∀ i, a.testBit i = true → b.testBit i = true := by
  have h1 : (BitVec.ofInt 64 (a : Int)) = BitVec.ofNat 64 a := by rw [BitVec.ofInt_natCast]
  have h2 : (BitVec.ofInt 64 (b : Int)) = BitVec.ofNat 64 b := by rw [BitVec.ofInt_natCast]
  have h3 : bits .andNot .u64 (a : Int) (b : Int) = ((BitVec.ofNat 64 a &&& ~~~(BitVec.ofNat 64 b)).toNat : Int) := by
    show IntKind.u64.wrap ((BitVec.ofInt 64 (a : Int) &&& ~~~(BitVec.ofInt 64 (b : Int))).toNat : Int) = _
    rw [h1, h2, IntKind.wrap_u64]
    have := (BitVec.ofNat 64 a &&& ~~~(BitVec.ofNat 64 b)).isLt
    omega
  have h4 : bad a b = false ↔ BitVec.ofNat 64 a &&& ~~~(BitVec.ofNat 64 b) = 0#64 := by
    unfold bad
    rw [h3]
    constructor
    · intro h
      have h : (BitVec.ofNat 64 a &&& ~~~(BitVec.ofNat 64 b)).toNat = 0 := by simpa using h
      exact BitVec.eq_of_toNat_eq (by simpa using h)
    · intro h
      rw [h]
      rfl
  have hx : ∀ (c i : Nat) (h : i < 64), (BitVec.ofNat 64 c)[i] = c.testBit i := fun c i h => (BitVec.getLsbD_eq_getElem h).symm.trans (by rw [BitVec.getLsbD_ofNat]; simp [h])
  rw [h4]
  constructor
  · intro h i hi
    have hi64 : i < 64 := by
      rcases Nat.lt_or_ge i 64 with h5 | h5
      · exact h5
      · have : a < 2 ^ i := Nat.lt_of_lt_of_le (show a < 2 ^ 64 by omega) (Nat.pow_le_pow_right (by decide) h5)
        rw [Nat.testBit_lt_two_pow this] at hi
        cases hi
    have h6 := congrArg (fun v : BitVec 64 => v.getLsbD i) h
    simp [BitVec.getLsbD_ofNat, hi64, hi] at h6
    rw [← hx b i hi64]
    exact h6
  · intro h
    apply BitVec.eq_of_getLsbD_eq
    intro i hi
    simp [hi]
    rw [hx a i hi, hx b i hi]
    exact h i
def RelS (S : Nat → Nat) (x y : Int) : Prop := bad (S y.toNat) (S x.toNat) = false
def outB (S : Nat → Nat) (L : Ps) : Bool := L.all fun p => !bad (S p.2.toNat) (S p.1.toNat)
theorem outB_iff (S : Nat → Nat) (L : Ps) : outB S L = true ↔ Outl (RelS S) L := by
  unfold outB Outl RelS
  rw [List.all_eq_true]
  constructor
  · intro h p hp
    have := h p hp
    simpa using this
  · intro h p hp
    have := h p hp
    simpa using this
theorem rel_trans {S : Nat → Nat} (hS : ∀ i, S i < 18446744073709551616) (x y z : Int) (h : RelS S x y) (k : RelS S y z) : RelS S x z := by
  unfold RelS at *
  rw [bad_bit (hS _) (hS _)] at *
  exact fun i hi => h i (k i hi)
set_option maxHeartbeats 16000000 in
set_option maxRecDepth 100000 in
theorem outlive_any {L : Ps} {lv : Value} {W : World} {sb so : Nat} {S : Nat → Nat} (h : RowP W lv L) (hs : SetsAt W sb so S) (hr : InR L) :
    Calls Try.prog 12 #[lv, .slice (some ⟨sb, so, none⟩) 8 8] W fun e W' => e = .returned (.bool (outB S L)) ∧ Below W.heap.size W W' := by
  obtain ⟨A, c, rfl, hl⟩ := h
  have hle := hl.le
  unfold maxLen at hle
  obtain ⟨ll, hll⟩ : ∃ n, L.length = n := ⟨_, rfl⟩
  rw [hll] at hle ⊢
  have HL := Lib.hid hl
  have HLL := Lib.hid hll
  have HS := Lib.hid hs
  have HR := Lib.hid hr
  obtain ⟨res, hres⟩ : ∃ b, outB S L = b := ⟨_, rfl⟩
  have HE : Hid (outB S (L.drop 0) = res) := hres
  rw [hres]
  clear hl hll hs hr hres
  go_enter Try.func12, Try.ntmps12
  go_wp2
  go_loopw [5] (fun i wr => ∃ j : Nat, j ≤ ll ∧ i = .int .i64 j ∧ Hid (Below W.heap.size W wr ∧ outB S (L.drop j) = res)) (fun i _ => ll - (intOf i).toNat)
  case atStart => exact ⟨0, Nat.zero_le _, rfl, .refl _ _, HE.out⟩
  clear HE
  case round =>
    obtain ⟨j, hj, rfl, HQ0⟩ := hrel
    have HQ := Lib.hid HQ0.out.1
    have HE := Lib.hid HQ0.out.2
    clear HQ0
    by_cases hjl : j < ll
    · obtain ⟨bk, o', rfl, hlt, hc1, hc2⟩ := pair_at HL.out (show j < L.length by rw [HLL.out]; exact hjl)
      have hin := HR.out _ (List.getElem_mem (show j < L.length by rw [HLL.out]; exact hjl))
      obtain ⟨x, hx⟩ : ∃ q, (L[j]'(by rw [HLL.out]; exact hjl)).1 = q := ⟨_, rfl⟩
      obtain ⟨y, hy⟩ : ∃ q, (L[j]'(by rw [HLL.out]; exact hjl)).2 = q := ⟨_, rfl⟩
      rw [hx, hy] at hin
      rw [hx] at hc1
      rw [hy] at hc2
      obtain ⟨xn, rfl⟩ : ∃ n : Nat, x = n := ⟨x.toNat, by omega⟩
      obtain ⟨yn, rfl⟩ : ∃ n : Nat, y = n := ⟨y.toNat, by omega⟩
      have hxn : xn < 8 := by omega
      have hyn : yn < 8 := by omega
      have d1 := (HQ.out.cell (p := ⟨bk, o' + j * 2, none⟩) hlt).trans hc1
      have d2 := (HQ.out.cell (p := ⟨bk, o' + j * 2 + 1, none⟩) hlt).trans hc2
      have s1 := (HQ.out.cell (p := ⟨sb, so + xn, none⟩) HS.out.lt).trans (HS.out.at_ xn hxn)
      have s2 := (HQ.out.cell (p := ⟨sb, so + yn, none⟩) HS.out.lt).trans (HS.out.at_ yn hyn)
      obtain ⟨sx, hsx⟩ : ∃ q, S xn = q := ⟨_, rfl⟩
      obtain ⟨sy, hsy⟩ : ∃ q, S yn = q := ⟨_, rfl⟩
      rw [hsx] at s1
      rw [hsy] at s2
      have e1 : decide ((xn : Int) < 0) = false := decide_eq_false (by omega)
      have e2 : decide ((yn : Int) < 0) = false := decide_eq_false (by omega)
      have e3 : decide ((8 : Int) ≤ (xn : Int)) = false := decide_eq_false (by omega)
      have e4 : decide ((8 : Int) ≤ (yn : Int)) = false := decide_eq_false (by omega)
      have HE2 : Hid ((!bad sy sx && outB S (L.drop (j + 1))) = res) := by
        have := HE.out
        rw [List.drop_eq_getElem_cons (show j < L.length by rw [HLL.out]; exact hjl)] at this
        unfold outB at this
        rw [List.all_cons, hx, hy, Int.toNat_natCast, Int.toNat_natCast, hsx, hsy] at this
        exact this
      clear hc1 hc2 hin hx hy hsx hsy HE
      by_cases hq : (bits BinOp.andNot IntKind.u64 (sy : Int) (sx : Int) != 0) = true
      · have hr : res = false := by rw [← HE2.out, show bad sy sx = true from hq]; rfl
        subst hr
        clear HE2
        go_wp2_with fail
        go_quiet (fail)
        go_wp2_with fail
        go_quiet (fail)
        have HB : Hid (∀ p q, Below W.heap.size W ((wr.drewN p).drewN q)) := fun p q => ⟨HQ.out.os, HQ.out.tape, HQ.out.output, HQ.out.size, HQ.out.block⟩
        go_wp2
        go_ret
        exact ⟨rfl, HB.out _ _⟩
      · have hq : (bits BinOp.andNot IntKind.u64 (sy : Int) (sx : Int) != 0) = false := by simpa using hq
        have HE3 : Hid (outB S (L.drop (j + 1)) = res) := by have := HE2.out; rw [show bad sy sx = false from hq] at this; exact this
        clear HE2
        go_wp2_with fail
        go_quiet (fail)
        go_wp2_with fail
        go_quiet (fail)
        have HB : Hid (∀ q, Below W.heap.size W (wr.drewN q) ∧ outB S (L.drop (j + 1)) = res) := fun q => ⟨⟨HQ.out.os, HQ.out.tape, HQ.out.output, HQ.out.size, HQ.out.block⟩, HE3.out⟩
        clear HQ HE3 d1 d2 s1 s2
        go_wp2
        go_roundw
        case rel => exact ⟨j + 1, by omega, by go_num, HB.out _⟩
        case measure => simp [intOf]; omega
    · have hje : j = ll := by omega
      have hr : res = true := by
        rw [← HE.out, List.drop_of_length_le (by rw [HLL.out]; omega)]
        rfl
      subst hr
      clear HE
      go_wp2
      go_ret
      exact ⟨rfl, HQ.out⟩
end Sb
end Go.Proofs.Ytebnonbfjkielaa

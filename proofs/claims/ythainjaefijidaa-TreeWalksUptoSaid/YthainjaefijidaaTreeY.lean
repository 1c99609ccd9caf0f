/- The walks of layer 3's Walk. -/
import Derived.Test.YthainjaefijidaaTreeX
namespace Go.Proofs.Ythainjaefijidaa
open Go.RowKit Go.Deep
namespace Tr
def Walk1E (n : Nat) : Prop := ∀ (x : Ex) (cs : List Value) (w0 W : World) (c B : Nat) (v : Value) (L : List Int), ExAt w0 n x cs → Below w0.heap.size w0 W → w0.heap.size ≤ c → Acc W c B v L → L.length + (seen x).length ≤ 2000000 →
  Calls Try.prog 7 #[.agg cs.toArray, (.func (.func 8) #[] #[.pointer (some ⟨c, 0, none⟩)])] W fun e W' => e = .returned (.tuple #[]) ∧ ∃ v', Wk c B W v W' v' (L ++ seen x)
def Walk1L (n : Nat) : Prop := ∀ (l : List Ex) (A : Option Addr) (ca : Nat) (w0 W : World) (c B : Nat) (v : Value) (L : List Int), ListAt w0 9 (ExAt w0 n) A l → Below w0.heap.size w0 W → w0.heap.size ≤ c → Acc W c B v L → L.length + (seenL l).length ≤ 2000000 →
  Calls Try.prog 16 #[.slice A l.length ca, (.func (.func 8) #[] #[.pointer (some ⟨c, 0, none⟩)])] W fun e W' => e = .returned (.tuple #[]) ∧ ∃ v', Wk c B W v W' v' (L ++ seenL l)
def Walk1B (n : Nat) : Prop := ∀ (l : List St) (A : Option Addr) (ca : Nat) (w0 W : World) (c B : Nat) (v : Value) (L : List Int), ListAt w0 17 (StAt w0 n) A l → Below w0.heap.size w0 W → w0.heap.size ≤ c → Acc W c B v L → L.length + (seenB l).length ≤ 2000000 →
  Calls Try.prog 9 #[.slice A l.length ca, (.func (.func 8) #[] #[.pointer (some ⟨c, 0, none⟩)])] W fun e W' => e = .returned (.tuple #[]) ∧ ∃ v', Wk c B W v W' v' (L ++ seenB l)
theorem some1 (c : Nat) (w : World) : (binOp .eql 35 (.func (.func 8) #[] #[.pointer (some ⟨c, 0, none⟩)]) .nilFunc).run Try.prog w = .ok (.bool false) w := by kernel_rfl
set_option maxHeartbeats 4000000 in
theorem walk1E_step (n : Nat) (IHL : Hid (Walk1L n)) (IHB : Hid (Walk1B n)) : Walk1E (n + 1) := by
  rintro ⟨k0, nm, v0, u, ar, ns, b, l, cl⟩ cs w0 W c B v L h hb hc hA hbig
  obtain ⟨A, ca, An, cn, Bb, cb, rfl, h1, h2, h3⟩ := h
  obtain ⟨la, hla⟩ : ∃ n, ar.length = n := ⟨_, rfl⟩
  obtain ⟨lb, hlb⟩ : ∃ n, b.length = n := ⟨_, rfl⟩
  obtain ⟨ln, hln⟩ : ∃ n, ns.length = n := ⟨_, rfl⟩
  have hs : seen (.mk k0 nm v0 u ar ns b l cl) = seenL ar ++ seenB b ++ [k0] := rfl
  rw [hs] at hbig
  rw [hs]
  simp only [List.length_append, List.length_cons, List.length_nil] at hbig
  have hA1 := hA.alloc (.cells #[.int .i64 k0, .string nm, .int .u64 v0, .bool u, .slice A la ca, .slice An ln cn, .slice Bb lb cb, .int .i64 l, .int .i64 cl] 29)
  have hb1 := hb.alloc hb.size (.cells #[.int .i64 k0, .string nm, .int .u64 v0, .bool u, .slice A la ca, .slice An ln cn, .slice Bb lb cb, .int .i64 l, .int .i64 cl] 29)
  have hI := Is.made W 29 #[.int .i64 k0, .string nm, .int .u64 v0, .bool u, .slice A la ca, .slice An ln cn, .slice Bb lb cb, .int .i64 l, .int .i64 cl]
  have hL := IHL.out ar A ca w0 _ c B v L h1 hb1 hc hA1 (by omega)
  rw [hla] at hL
  have HL := Lib.hid hL
  have HB : Hid (∀ W1 v1, Acc W1 c B v1 (L ++ seenL ar) → Below w0.heap.size w0 W1 → Calls Try.prog 9 #[.slice Bb lb cb, (.func (.func 8) #[] #[.pointer (some ⟨c, 0, none⟩)])] W1 fun e W' => e = .returned (.tuple #[]) ∧ ∃ v', Wk c B W1 v1 W' v' (L ++ seenL ar ++ seenB b)) := fun W1 v1 g1 g2 => by
    have := IHB.out b Bb cb w0 W1 c B v1 (L ++ seenL ar) h3 g2 hc g1 (by rw [List.length_append]; omega)
    rw [hlb] at this
    exact this
  have HS : Hid (∀ W1 v1, Acc W1 c B v1 (L ++ seenL ar ++ seenB b) → Calls Try.prog 8 #[.agg #[.int .i64 k0, .string nm, .int .u64 v0, .bool u, .slice A la ca, .slice An ln cn, .slice Bb lb cb, .int .i64 l, .int .i64 cl], .pointer (some ⟨c, 0, none⟩)] W1 fun e W' => e = .returned (.tuple #[]) ∧ ∃ v', Wk c B W1 v1 W' v' (L ++ seenL ar ++ seenB b ++ [k0])) := fun W1 v1 g1 =>
    see1_any k0 _ _ _ _ _ _ _ _ W1 c B v1 _ g1 (by simp only [List.length_append]; omega)
  have HI := Lib.hid hI
  have HA := Lib.hid hA
  have HA1 := Lib.hid hA1
  have HB1 := Lib.hid hb1
  have HC := Lib.hid hc
  have HLL : Hid (L ++ (seenL ar ++ seenB b ++ [k0]) = L ++ seenL ar ++ seenB b ++ [k0]) := by show _ = _; simp only [List.append_assoc]
  have hcW : c < W.heap.size := by have := hA.lt; have := hA.le; omega
  have HNE : Hid (v.ownBlock ≠ some W.heap.size) := fun e => by have := (hA.own.lt _ e).2; omega
  have e1 := some1 c
  obtain ⟨X, hX⟩ : ∃ X, L ++ (seenL ar ++ seenB b ++ [k0]) = X := ⟨_, rfl⟩
  have HXX := Lib.hid hX
  rw [hla, hln, hlb, hX]
  clear hla hlb hln hs hbig hA1 hb1 hI hL h1 h2 h3 hA hc hb hX
  go_enter Try.func7, Try.ntmps7
  go_wp2_with fail
  refine HL.out.mono ?_
  rintro e W1 ⟨rfl, v1, k1⟩
  have I1 := k1.is HI.out (by omega) HNE.out
  have c6 := I1.at_ 6
  simp only [List.getElem?_toArray, List.getElem?_cons_zero, List.getElem?_cons_succ] at c6
  have K1 := Lib.hid k1
  have I1 := Lib.hid I1
  have hrn := k1.rowne (b := W.heap.size) (by simp) HNE.out
  have HRN := Lib.hid hrn
  have hcs1 : c < W1.heap.size := k1.acc.cell.lt
  have HB2 := Lib.hid (k1.below HA1.out HB1.out HC.out)
  clear k1 hrn
  go_wp2_with fail
  refine (HB.out W1 v1 K1.out.acc HB2.out).mono ?_
  rintro e W2 ⟨rfl, v2, k2⟩
  have I2 := k2.is I1.out (by omega) HRN.out
  have d0 := I2.at_ 0
  have d1 := I2.at_ 1
  have d2 := I2.at_ 2
  have d3 := I2.at_ 3
  have d4 := I2.at_ 4
  have d5 := I2.at_ 5
  have d6 := I2.at_ 6
  have d7 := I2.at_ 7
  have d8 := I2.at_ 8
  simp only [List.getElem?_toArray, List.getElem?_cons_zero, List.getElem?_cons_succ] at d0 d1 d2 d3 d4 d5 d6 d7 d8
  have K2 := Lib.hid k2
  clear k2 I2 c6
  go_wp2_with fail
  refine (HS.out W2 v2 K2.out.acc).mono ?_
  rintro e W3 ⟨rfl, v3, k3⟩
  have K3 := Lib.hid k3
  clear k3 d0 d1 d2 d3 d4 d5 d6 d7 d8
  go_wp2
  go_end0
  refine ⟨rfl, v3, ?_⟩
  rw [← HXX.out, HLL.out]
  exact ((K1.out.trans K2.out).trans K3.out).ofAlloc
def Walk2E (n : Nat) : Prop := ∀ (x : Ex) (cs : List Value) (w0 W : World) (c B : Nat) (v : Value) (L : List Int), ExAt w0 n x cs → Below w0.heap.size w0 W → w0.heap.size ≤ c → Acc W c B v L → L.length + (seen x).length ≤ 2000000 →
  Calls Try.prog 7 #[.agg cs.toArray, (.func (.func 10) #[] #[.pointer (some ⟨c, 0, none⟩)])] W fun e W' => e = .returned (.tuple #[]) ∧ ∃ v', Wk c B W v W' v' (L ++ seen x)
def Walk2L (n : Nat) : Prop := ∀ (l : List Ex) (A : Option Addr) (ca : Nat) (w0 W : World) (c B : Nat) (v : Value) (L : List Int), ListAt w0 9 (ExAt w0 n) A l → Below w0.heap.size w0 W → w0.heap.size ≤ c → Acc W c B v L → L.length + (seenL l).length ≤ 2000000 →
  Calls Try.prog 16 #[.slice A l.length ca, (.func (.func 10) #[] #[.pointer (some ⟨c, 0, none⟩)])] W fun e W' => e = .returned (.tuple #[]) ∧ ∃ v', Wk c B W v W' v' (L ++ seenL l)
def Walk2B (n : Nat) : Prop := ∀ (l : List St) (A : Option Addr) (ca : Nat) (w0 W : World) (c B : Nat) (v : Value) (L : List Int), ListAt w0 17 (StAt w0 n) A l → Below w0.heap.size w0 W → w0.heap.size ≤ c → Acc W c B v L → L.length + (seenB l).length ≤ 2000000 →
  Calls Try.prog 9 #[.slice A l.length ca, (.func (.func 10) #[] #[.pointer (some ⟨c, 0, none⟩)])] W fun e W' => e = .returned (.tuple #[]) ∧ ∃ v', Wk c B W v W' v' (L ++ seenB l)
theorem some2 (c : Nat) (w : World) : (binOp .eql 35 (.func (.func 10) #[] #[.pointer (some ⟨c, 0, none⟩)]) .nilFunc).run Try.prog w = .ok (.bool false) w := by kernel_rfl
set_option maxHeartbeats 4000000 in
theorem walk2E_step (n : Nat) (IHL : Hid (Walk2L n)) (IHB : Hid (Walk2B n)) : Walk2E (n + 1) := by
  rintro ⟨k0, nm, v0, u, ar, ns, b, l, cl⟩ cs w0 W c B v L h hb hc hA hbig
  obtain ⟨A, ca, An, cn, Bb, cb, rfl, h1, h2, h3⟩ := h
  obtain ⟨la, hla⟩ : ∃ n, ar.length = n := ⟨_, rfl⟩
  obtain ⟨lb, hlb⟩ : ∃ n, b.length = n := ⟨_, rfl⟩
  obtain ⟨ln, hln⟩ : ∃ n, ns.length = n := ⟨_, rfl⟩
  have hs : seen (.mk k0 nm v0 u ar ns b l cl) = seenL ar ++ seenB b ++ [k0] := rfl
  rw [hs] at hbig
  rw [hs]
  simp only [List.length_append, List.length_cons, List.length_nil] at hbig
  have hA1 := hA.alloc (.cells #[.int .i64 k0, .string nm, .int .u64 v0, .bool u, .slice A la ca, .slice An ln cn, .slice Bb lb cb, .int .i64 l, .int .i64 cl] 29)
  have hb1 := hb.alloc hb.size (.cells #[.int .i64 k0, .string nm, .int .u64 v0, .bool u, .slice A la ca, .slice An ln cn, .slice Bb lb cb, .int .i64 l, .int .i64 cl] 29)
  have hI := Is.made W 29 #[.int .i64 k0, .string nm, .int .u64 v0, .bool u, .slice A la ca, .slice An ln cn, .slice Bb lb cb, .int .i64 l, .int .i64 cl]
  have hL := IHL.out ar A ca w0 _ c B v L h1 hb1 hc hA1 (by omega)
  rw [hla] at hL
  have HL := Lib.hid hL
  have HB : Hid (∀ W1 v1, Acc W1 c B v1 (L ++ seenL ar) → Below w0.heap.size w0 W1 → Calls Try.prog 9 #[.slice Bb lb cb, (.func (.func 10) #[] #[.pointer (some ⟨c, 0, none⟩)])] W1 fun e W' => e = .returned (.tuple #[]) ∧ ∃ v', Wk c B W1 v1 W' v' (L ++ seenL ar ++ seenB b)) := fun W1 v1 g1 g2 => by
    have := IHB.out b Bb cb w0 W1 c B v1 (L ++ seenL ar) h3 g2 hc g1 (by rw [List.length_append]; omega)
    rw [hlb] at this
    exact this
  have HS : Hid (∀ W1 v1, Acc W1 c B v1 (L ++ seenL ar ++ seenB b) → Calls Try.prog 10 #[.agg #[.int .i64 k0, .string nm, .int .u64 v0, .bool u, .slice A la ca, .slice An ln cn, .slice Bb lb cb, .int .i64 l, .int .i64 cl], .pointer (some ⟨c, 0, none⟩)] W1 fun e W' => e = .returned (.tuple #[]) ∧ ∃ v', Wk c B W1 v1 W' v' (L ++ seenL ar ++ seenB b ++ [k0])) := fun W1 v1 g1 =>
    see2_any k0 _ _ _ _ _ _ _ _ W1 c B v1 _ g1 (by simp only [List.length_append]; omega)
  have HI := Lib.hid hI
  have HA := Lib.hid hA
  have HA1 := Lib.hid hA1
  have HB1 := Lib.hid hb1
  have HC := Lib.hid hc
  have HLL : Hid (L ++ (seenL ar ++ seenB b ++ [k0]) = L ++ seenL ar ++ seenB b ++ [k0]) := by show _ = _; simp only [List.append_assoc]
  have hcW : c < W.heap.size := by have := hA.lt; have := hA.le; omega
  have HNE : Hid (v.ownBlock ≠ some W.heap.size) := fun e => by have := (hA.own.lt _ e).2; omega
  have e1 := some2 c
  obtain ⟨X, hX⟩ : ∃ X, L ++ (seenL ar ++ seenB b ++ [k0]) = X := ⟨_, rfl⟩
  have HXX := Lib.hid hX
  rw [hla, hln, hlb, hX]
  clear hla hlb hln hs hbig hA1 hb1 hI hL h1 h2 h3 hA hc hb hX
  go_enter Try.func7, Try.ntmps7
  go_wp2_with fail
  refine HL.out.mono ?_
  rintro e W1 ⟨rfl, v1, k1⟩
  have I1 := k1.is HI.out (by omega) HNE.out
  have c6 := I1.at_ 6
  simp only [List.getElem?_toArray, List.getElem?_cons_zero, List.getElem?_cons_succ] at c6
  have K1 := Lib.hid k1
  have I1 := Lib.hid I1
  have hrn := k1.rowne (b := W.heap.size) (by simp) HNE.out
  have HRN := Lib.hid hrn
  have hcs1 : c < W1.heap.size := k1.acc.cell.lt
  have HB2 := Lib.hid (k1.below HA1.out HB1.out HC.out)
  clear k1 hrn
  go_wp2_with fail
  refine (HB.out W1 v1 K1.out.acc HB2.out).mono ?_
  rintro e W2 ⟨rfl, v2, k2⟩
  have I2 := k2.is I1.out (by omega) HRN.out
  have d0 := I2.at_ 0
  have d1 := I2.at_ 1
  have d2 := I2.at_ 2
  have d3 := I2.at_ 3
  have d4 := I2.at_ 4
  have d5 := I2.at_ 5
  have d6 := I2.at_ 6
  have d7 := I2.at_ 7
  have d8 := I2.at_ 8
  simp only [List.getElem?_toArray, List.getElem?_cons_zero, List.getElem?_cons_succ] at d0 d1 d2 d3 d4 d5 d6 d7 d8
  have K2 := Lib.hid k2
  clear k2 I2 c6
  go_wp2_with fail
  refine (HS.out W2 v2 K2.out.acc).mono ?_
  rintro e W3 ⟨rfl, v3, k3⟩
  have K3 := Lib.hid k3
  clear k3 d0 d1 d2 d3 d4 d5 d6 d7 d8
  go_wp2
  go_end0
  refine ⟨rfl, v3, ?_⟩
  rw [← HXX.out, HLL.out]
  exact ((K1.out.trans K2.out).trans K3.out).ofAlloc
end Tr
end Go.Proofs.Ythainjaefijidaa

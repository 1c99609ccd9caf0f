/- The walks of layer 12: New. -/
import Derived.Test.YtbflkaaenoeniaaDoorSolF
import Derived.Test.YtbflkaaenoeniaaDoorSolS
namespace Go.Proofs.YtbflkaaenoeniaaDoor
open Go.RowKit Lf Go.Deep
namespace Sv
theorem new_low {a c : Int} (ha : a < 0) (w : World) : Calls Tryd.prog 15 #[.int .i64 a, .int .i64 c] w fun e w' => e = .returned (.tuple #[.pointer none, .int .i64 14]) ∧ w = w' := by
  go_enter Tryd.func15, Tryd.ntmps15
  go_wp2
  go_ret2
  exact ⟨rfl, rfl⟩
theorem new_high {a c : Int} (ha : 1501 < a) (w : World) : Calls Tryd.prog 15 #[.int .i64 a, .int .i64 c] w fun e w' => e = .returned (.tuple #[.pointer none, .int .i64 14]) ∧ w = w' := by
  have hd : decide (a < 0) = false := decide_eq_false (by omega)
  go_enter Tryd.func15, Tryd.ntmps15
  go_wp2
  go_ret2
  exact ⟨rfl, rfl⟩
theorem new_wlow {a c : Int} (h0 : 0 ≤ a) (h1 : a ≤ 1501) (hc : c < 0) (w : World) : Calls Tryd.prog 15 #[.int .i64 a, .int .i64 c] w fun e w' => e = .returned (.tuple #[.pointer none, .int .i64 14]) ∧ w = w' := by
  have hd : decide (a < 0) = false := decide_eq_false (by omega)
  have hd2 : decide (1501 < a) = false := decide_eq_false (by omega)
  go_enter Tryd.func15, Tryd.ntmps15
  go_wp2
  go_ret2
  exact ⟨rfl, rfl⟩
theorem new_whigh {a c : Int} (h0 : 0 ≤ a) (h1 : a ≤ 1501) (hc : 2700 < c) (w : World) : Calls Tryd.prog 15 #[.int .i64 a, .int .i64 c] w fun e w' => e = .returned (.tuple #[.pointer none, .int .i64 14]) ∧ w = w' := by
  have hd : decide (a < 0) = false := decide_eq_false (by omega)
  have hd2 : decide (1501 < a) = false := decide_eq_false (by omega)
  have hd3 : decide (c < 0) = false := decide_eq_false (by omega)
  go_enter Tryd.func15, Tryd.ntmps15
  go_wp2
  go_ret2
  exact ⟨rfl, rfl⟩
theorem new_bad {a c : Int} (h : a < 0 ∨ 1501 < a ∨ c < 0 ∨ 2700 < c) (w : World) : Calls Tryd.prog 15 #[.int .i64 a, .int .i64 c] w fun e w' => e = .returned (.tuple #[.pointer none, .int .i64 14]) ∧ w = w' := by
  by_cases h1 : a < 0
  · exact new_low h1 w
  · by_cases h2 : 1501 < a
    · exact new_high h2 w
    · by_cases h3 : c < 0
      · exact new_wlow (by omega) (by omega) h3 w
      · exact new_whigh (by omega) (by omega) (by omega) w
/-- What New makes. -/
structure Made (w0 w : World) (b n m : Nat) : Prop where
  head : Head w b n m
  since : Below w0.heap.size w0 w
  high : w0.heap.size ≤ b
  knows : TabAt w0 → 0 < n → ∃ b1 b2 O I, Knows w b b1 b2 O I n m eqR (fun _ _ => false) ∧ ∀ k, Rw O I n m k → w0.heap.size ≤ k
theorem made_one : madeCells #[.int .u64 0] 1 = #[.int .u64 ((0 : Nat) : Int)] := by kernel_rfl
theorem made_of {w w1 w2 : World} {n m q : Nat} (hq : (n + 63) / 64 = q) (hn : n ≤ 64) (hm : m ≤ 2700) (h1 : Part w w1 w.heap.size n n q) (h2 : Part w1 w2 w1.heap.size m m q) :
    Made w (w2.alloc (.cells #[.slice (some ⟨w.heap.size, 0, none⟩) n n, .slice (some ⟨w1.heap.size, 0, none⟩) m m] 49)) w2.heap.size n m := by
  have s1 := h1.size
  have s2 := h2.size
  have hb : Below w.heap.size w w2 := h1.since.trans (h2.since.mono (by omega))
  refine ⟨⟨_, _, Is.made w2 _ _⟩, hb.alloc (by omega) _, by omega, fun hT hn0 => ?_⟩
  obtain rfl : q = 1 := by have := hn0; omega
  obtain ⟨cs1, a1, _, a2⟩ := h1.outer
  obtain ⟨cs2, b1, _, b2⟩ := h2.outer
  have hT1 : TabAt w2 := hT.below hb hT.pos
  refine ⟨w.heap.size, w1.heap.size, fun i => w.heap.size + 1 + i, fun i => w1.heap.size + 1 + i, ⟨⟨fun _ => 0, fun _ => 0, ⟨hn, hm, hT1.of (Below.heap_alloc _ _ _ hT1.pos), Is.made w2 _ _, ⟨cs1, (a1.below h2.since (by omega)).alloc _, a2⟩, ⟨cs2, b1.alloc _, b2⟩, fun i hi => ?_, fun i hi => ?_, fun i j _ _ e => ?_, fun i j _ _ e => ?_, fun i j hi _ e => ?_, fun _ _ => Nat.two_pow_pos _, fun _ _ => Nat.two_pow_pos _⟩, cl_none n, fun e _ r => by simp⟩, fun e _ c d h _ => by cases h⟩, fun k hk => ?_⟩
  · have := h1.row i hi
    rw [made_one] at this
    exact (this.below h2.since (by omega)).alloc _
  · have := h2.row i hi
    rw [made_one] at this
    exact this.alloc _
  · have e' : w.heap.size + 1 + i = w.heap.size + 1 + j := e
    omega
  · have e' : w1.heap.size + 1 + i = w1.heap.size + 1 + j := e
    omega
  · have e' : w.heap.size + 1 + i = w1.heap.size + 1 + j := e
    omega
  · rcases hk with ⟨i, hi, rfl⟩ | ⟨i, hi, rfl⟩
    · show w.heap.size ≤ w.heap.size + 1 + i; omega
    · show w.heap.size ≤ w1.heap.size + 1 + i; omega
set_option maxHeartbeats 2000000 in
theorem new_any (w : World) {n m : Nat} (hn : n ≤ 64) (hm : m ≤ 2700) : Calls Tryd.prog 15 #[.int .i64 n, .int .i64 m] w fun e w' =>
    ∃ b, e = .returned (.tuple #[.pointer (some ⟨b, 0, none⟩), .int .i64 0]) ∧ Made w w' b n m := by
  obtain ⟨q, hq⟩ : ∃ q, (n + 63) / 64 = q := ⟨_, rfl⟩
  have HQ := Lib.hid hq
  have hd : decide ((1501 : Int) < (n : Int)) = false := decide_eq_false (by omega)
  have hd3 : decide ((2700 : Int) < (m : Int)) = false := decide_eq_false (by omega)
  clear hq
  go_enter Tryd.func15, Tryd.ntmps15
  go_wp2_with fail
  refine (newSets_any _ (by omega) hn HQ.out).mono ?_
  rintro e w1 ⟨rfl, q1⟩
  have Q1 := Lib.hid q1
  clear q1
  go_wp2_with fail
  refine (newSets_any _ (by omega) hn HQ.out).mono ?_
  rintro e w2 ⟨rfl, q2⟩
  have Q2 := Lib.hid q2
  clear q2
  go_wp2
  go_ret2
  exact ⟨_, rfl, made_of HQ.out hn hm Q1.out Q2.out⟩
end Sv
end Go.Proofs.YtbflkaaenoeniaaDoor

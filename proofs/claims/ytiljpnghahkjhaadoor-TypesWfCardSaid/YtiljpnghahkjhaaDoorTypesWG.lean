/- Layer 7: rows of pairs held against each other. -/
import Derived.BigQuiet
import Derived.Test.YtiljpnghahkjhaaDoorIntsEq
import Derived.Test.YtiljpnghahkjhaaDoorTypesWC
namespace Go.Proofs.YtiljpnghahkjhaaDoor
open Go.RowKit Go.Deep Tr
namespace Ts
theorem eql_int (d : Nat) (x y : Int) (w : World) : (Op.equalIn (d + 1) 3 (.int .i64 x) (.int .i64 y)).run Tryd.prog w = .ok (x == y) w := by
  simp [Op.equalIn, run_underlying Tryd.underlying3]
theorem part0 (x y : Int) (w : World) : (part 3 #[.int .i64 x, .int .i64 y] 0).run Tryd.prog w = .ok (.int .i64 x) w := by kernel_rfl
theorem part1 (x y : Int) (w : World) : (part 3 #[.int .i64 x, .int .i64 y] 1).run Tryd.prog w = .ok (.int .i64 y) w := by kernel_rfl
theorem size_int (w : World) : (sizeOf 3).run Tryd.prog w = .ok 1 w := by kernel_rfl
theorem eql_two (d : Nat) (x y x' y' : Int) (w : World) : (Op.equalIn (d + 2) 46 (.agg #[.int .i64 x, .int .i64 y]) (.agg #[.int .i64 x', .int .i64 y'])).run Tryd.prog w = .ok (x == x' && y == y') w := by
  rw [Op.equalIn]
  simp only [run_underlying Tryd.underlying46, Sem.run_bind, Result.andThen_ok, size_int]
  cases h1 : (x == x') <;> cases h2 : (y == y') <;> simp [Std.Legacy.Range.forIn_eq_forIn_range', List.range', part0, part1, eql_int, h1, h2]
@[go_sem] theorem eql_two_at (x y x' y' : Int) (w : World) : (Op.equalIn 10000 46 (.agg #[.int .i64 x, .int .i64 y]) (.agg #[.int .i64 x', .int .i64 y'])).run Tryd.prog w = .ok (x == x' && y == y') w := eql_two 9998 x y x' y' w
theorem pairsC_at {l : List (Int × Int)} {k : Nat} (h : k < l.length) : (pairsC l)[2 * k]? = some (.int .i64 l[k].1) ∧ (pairsC l)[2 * k + 1]? = some (.int .i64 l[k].2) := by
  induction l generalizing k with
  | nil => exact absurd h (by simp)
  | cons x l ih =>
    have e : pairsC (x :: l) = .int .i64 x.1 :: .int .i64 x.2 :: pairsC l := rfl
    rw [e]
    cases k with
    | zero => exact ⟨rfl, rfl⟩
    | succ k =>
      have hk : k < l.length := by simpa using h
      have := ih hk
      rw [show 2 * (k + 1) = 2 * k + 1 + 1 by omega]
      simpa using this
theorem rowPr_at {w : World} {A : Option Addr} {l : List (Int × Int)} (h : RowAt w A (pairsC l)) {k : Nat} (hk : k < l.length) : ∃ bk o, A = some ⟨bk, o, none⟩ ∧ bk < w.heap.size ∧ w.cell? ⟨bk, o + k * 2, none⟩ = some (.int .i64 l[k].1) ∧ w.cell? ⟨bk, o + k * 2 + 1, none⟩ = some (.int .i64 l[k].2) := by
  obtain ⟨bk, o, e, hb, hc⟩ := h (by rw [pairsC_length]; omega)
  obtain ⟨p0, p1⟩ := pairsC_at hk
  rw [Nat.mul_comm] at p0 p1
  exact ⟨bk, o, e, hb, hc _ _ p0, by have := hc _ _ p1; rwa [← Nat.add_assoc] at this⟩
theorem rsame_any {w : World} {u v : Value} {l : List (Int × Int)} (hu : RowPr w u l) (hv : RowPr w v l) :
    Calls Tryd.prog 23 #[u, v] w fun e w' => e = .returned (.bool true) ∧ ∃ q, w.drewN q = w' := by
  obtain ⟨A1, c1, rfl, h1, -, hle⟩ := hu
  obtain ⟨A2, c2, rfl, h2, -, -⟩ := hv
  unfold maxLen at hle
  have H1 := Lib.hid h1
  have H2 := Lib.hid h2
  obtain ⟨n, hln⟩ : ∃ n, l.length = n := ⟨_, rfl⟩
  have HLN := Lib.hid hln
  rw [hln] at hle
  rw [hln]
  clear h1 h2 hln
  go_enter Tryd.func23, Tryd.ntmps23
  go_wp2
  go_loopw [5] (fun i wr => ∃ k q : Nat, k ≤ n ∧ i = .int .i64 k ∧ wr = w.drewN q) (fun i _ => n - (intOf i).toNat)
  case atStart => exact ⟨0, 0, Nat.zero_le _, rfl, rfl⟩
  case round =>
    obtain ⟨k, q, hk, rfl, rfl⟩ := hrel
    by_cases hlt : k < n
    · have hkl : k < l.length := by rw [HLN.out]; exact hlt
      obtain ⟨b1, o1, rfl, _, d1, e1⟩ := rowPr_at H1.out hkl
      obtain ⟨b2, o2, rfl, _, d2, e2⟩ := rowPr_at H2.out hkl
      obtain ⟨x, hx⟩ : ∃ x, l[k].1 = x := ⟨_, rfl⟩
      obtain ⟨y, hy⟩ : ∃ x, l[k].2 = x := ⟨_, rfl⟩
      rw [hx] at d1 d2
      rw [hy] at e1 e2
      clear hx hy hkl
      go_wp2_with fail
      go_quiet (fail)
      go_wp2
      go_roundw
      case rel => exact ⟨k + 1, _, by omega, by go_num, rfl⟩
      case measure => simp [intOf]; omega
    · have hkm : k = n := by omega
      subst hkm
      go_wp2
      go_ret
      exact ⟨rfl, q, rfl⟩
end Ts
end Go.Proofs.YtiljpnghahkjhaaDoor

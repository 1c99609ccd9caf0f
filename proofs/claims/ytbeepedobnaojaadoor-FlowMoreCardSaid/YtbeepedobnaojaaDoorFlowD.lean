/- Lists of lists in memory; which nodes have a number: turned, steps. -/
import Derived.Test.YtbeepedobnaojaaDoorFlowC
namespace Go.Proofs.YtbeepedobnaojaaDoor
open Go.RowKit Lf Go.Deep Sv Tr
namespace Fl
def RowC (w : World) (l : List Int) (cs : List Value) : Prop := ∃ v, cs = [v] ∧ RowI w v l
/-- A slice of slices of whole numbers. -/
def LsAt (w : World) (v : Value) (ls : Ls) : Prop := ∃ A c, v = .slice A ls.length c ∧ ListAt w 1 (RowC w) A ls
section
variable {w w' : World} {v : Value} {ls : Ls}
theorem LsAt.below (h : LsAt w v ls) (hb : Below w.heap.size w w') : LsAt w' v ls := by
  obtain ⟨A, c, rfl, h⟩ := h
  exact ⟨A, c, rfl, h.below hb fun l _ cs hl => by
    obtain ⟨v, rfl, hr⟩ := hl
    exact ⟨v, rfl, hr.below hb⟩⟩
theorem LsAt.form (h : LsAt w v ls) : ∃ A c, v = .slice A ls.length c ∧ ls.length ≤ maxLen ∧ ∀ i, (hi : i < ls.length) → ∃ bk o u, A = some ⟨bk, o, none⟩ ∧ bk < w.heap.size ∧ w.cell? ⟨bk, o + i, none⟩ = some u ∧ RowI w u ls[i] := by
  obtain ⟨A, c, rfl, h⟩ := h
  refine ⟨A, c, rfl, h.le, fun i hi => ?_⟩
  obtain ⟨bk, o, cs, hA, hl, _, ⟨u, rfl, hr⟩, hc⟩ := h.get (by decide) hi
  have := hc 0 u rfl
  simp only [Nat.mul_one, Nat.add_zero] at this
  exact ⟨bk, o, u, hA, hl, this, hr⟩
end
theorem rowI_form {w : World} {v : Value} {l : List Int} (h : RowI w v l) : ∃ A c, v = .slice A l.length c ∧ l.length ≤ maxLen ∧ ∀ i, (hi : i < l.length) → ∃ bk o, A = some ⟨bk, o, none⟩ ∧ bk < w.heap.size ∧ w.cell? ⟨bk, o + i, none⟩ = some (.int .i64 l[i]) := by
  obtain ⟨A, c, rfl, h⟩ := h
  exact ⟨A, c, rfl, h.le, fun i hi => int_at h hi⟩
/-- The first i lists have been looked at, and of the next one the first j numbers. -/
def Tn (ls : Ls) (i j : Nat) (X : Nat → Nat) : Prop := ∀ x y, (X x).testBit y = true ↔ (y < i ∧ hasL ls y (x : Int) = true) ∨ (y = i ∧ (x : Int) ∈ (ls.getD i []).take j)
theorem tn_start (ls : Ls) : Tn ls 0 0 fun _ => 0 := fun x y => by simp
theorem hasL_iff {ls : Ls} {i : Nat} {e : Int} : hasL ls i e = true ↔ e ∈ ls.getD i [] := by unfold hasL; simp
theorem Tn.next {ls : Ls} {i : Nat} {X : Nat → Nat} (h : Tn ls i (ls.getD i []).length X) : Tn ls (i + 1) 0 X := fun x y => by
  rw [h x y, List.take_length]
  simp only [List.take_zero, List.not_mem_nil, and_false, or_false]
  constructor
  · rintro (⟨h1, h2⟩ | ⟨rfl, h2⟩)
    · exact ⟨by omega, h2⟩
    · exact ⟨by omega, hasL_iff.2 h2⟩
  · rintro ⟨h1, h2⟩
    by_cases hy : y = i
    · exact .inr ⟨hy, by rw [← hy]; exact hasL_iff.1 h2⟩
    · exact .inl ⟨by omega, h2⟩
theorem Tn.add {ls : Ls} {i j k : Nat} {X : Nat → Nat} (h : Tn ls i j X) (hj : (ls.getD i [])[j]? = some (k : Int)) : Tn ls i (j + 1) (put X k (X k ||| 2 ^ i)) := fun x y => by
  rw [List.take_add_one, hj]
  unfold put
  split
  · rename_i hx
    subst hx
    rw [or_bit, Bool.or_eq_true, h x y, beq_iff_eq]
    simp only [Option.toList, List.mem_append, List.mem_singleton]
    constructor
    · rintro ((h | ⟨h1, h2⟩) | h)
      · exact .inl h
      · exact .inr ⟨h1, .inl h2⟩
      · exact .inr ⟨h, .inr trivial⟩
    · rintro (h | ⟨h1, h2⟩)
      · exact .inl (.inl h)
      · exact .inr h1
  · rename_i hx
    rw [h x y]
    simp only [Option.toList, List.mem_append, List.mem_singleton]
    constructor
    · rintro (h | ⟨h1, h2⟩)
      · exact .inl h
      · exact .inr ⟨h1, .inl h2⟩
    · rintro (h | ⟨h1, h2 | h2⟩)
      · exact .inl h
      · exact .inr ⟨h1, h2⟩
      · exact absurd (by omega) hx
/-- Sets of numbers below n. -/
def Lw (n cnt : Nat) (X : Nat → Nat) : Prop := ∀ i, i < cnt → X i < 2 ^ n
theorem Lw.put {n cnt : Nat} {X : Nat → Nat} (h : Lw n cnt X) {k x : Nat} (hx : x < 2 ^ n) : Lw n cnt (put X k x) := fun i hi => by
  unfold Sv.put
  split
  · exact hx
  · exact h i hi
theorem lw64 {n x : Nat} (hn : n ≤ 64) (h : x < 2 ^ n) : x < 2 ^ 64 := Nat.lt_of_lt_of_le h (Nat.pow_le_pow_right (by decide) hn)
theorem lsOk_get {m : Int} {ls : Ls} (h : lsOk m ls = true) {i : Nat} (hi : i < ls.length) {j : Nat} (hj : j < ls[i].length) : 0 ≤ ls[i][j] ∧ ls[i][j] < m := by
  have := List.all_eq_true.1 (List.all_eq_true.1 h _ (List.getElem_mem hi)) _ (List.getElem_mem hj)
  simpa using this
theorem getD_at {ls : Ls} {i : Nat} (h : i < ls.length) : ls.getD i [] = ls[i] := by rw [List.getD_eq_getElem?_getD, List.getElem?_eq_getElem h]; rfl
set_option maxHeartbeats 4000000 in
theorem turned_any {w : World} {v : Value} {ls : Ls} {m n : Nat} (h : LsAt w v ls) (ho : lsOk m ls = true) (hl : ls.length ≤ n) (h0 : 0 < n) (hn : n ≤ 64) (hm : m ≤ 4000) :
    Calls Tryd.prog 24 #[v, .int .i64 m, .int .i64 n] w fun e w' =>
      e = .returned (.slice (some ⟨w.heap.size, 0, none⟩) m m) ∧ ∃ X, Sw w' w.heap.size m X ∧ Lw n m X ∧ Below w.heap.size w w' ∧ ∀ x y, (X x).testBit y = true ↔ hasL ls y (x : Int) = true := by
  obtain ⟨A, c, rfl, hmax, hget⟩ := h.form
  have HG := Lib.hid hget
  obtain ⟨len, hlen⟩ : ∃ k, ls.length = k := ⟨_, rfl⟩
  have HL := Lib.hid hlen
  have HO := Lib.hid ho
  have hS := newSets_any w (m := m) (n := n) (q := 1) (by omega) hn (by omega)
  have HS := Lib.hid hS
  obtain ⟨H, hH⟩ : ∃ x, w.heap.size = x := ⟨_, rfl⟩
  rw [hH] at HS ⊢
  have HH := Lib.hid hH
  rw [hlen] at hmax hl ⊢
  have hll : len ≤ 64 := by omega
  clear h hget hlen ho hS hH hmax
  go_enter Tryd.func24, Tryd.ntmps24
  go_wp2_with fail
  refine HS.out.mono ?_
  rintro e w1 ⟨rfl, q1⟩
  have S1 : Hid (Sw w1 H m fun _ => 0) := by rw [← HH.out] at q1 ⊢; exact Sw.made q1
  have B1 : Hid (Below H w w1) := q1.since
  clear q1
  go_wp2
  go_loopw [17] (fun i wr => ∃ k : Nat, k ≤ len ∧ i = .int .i64 k ∧ Hid (∃ X, Sw wr H m X ∧ Lw n m X ∧ Below H w wr ∧ Tn ls k 0 X)) (fun i _ => len - (intOf i).toNat)
  case atStart => exact ⟨0, Nat.zero_le _, rfl, _, S1.out, fun _ _ => Nat.two_pow_pos _, B1.out, tn_start ls⟩
  case round =>
    obtain ⟨k, hk, rfl, HQ⟩ := hrel
    by_cases hlt : k < len
    · obtain ⟨bk, o, u, rfl, hbk, hcell, hrow⟩ := HG.out k (by rw [HL.out]; exact hlt)
      obtain ⟨A', c', rfl, hmax', hget'⟩ := rowI_form hrow
      obtain ⟨l2, hl2⟩ : ∃ q, (ls[k]'(by rw [HL.out]; exact hlt)).length = q := ⟨_, rfl⟩
      have HG2 := Lib.hid hget'
      have HL2 := Lib.hid hl2
      rw [hl2] at hcell hmax'
      unfold maxLen at hmax'
      have hc1 : wr.cell? ⟨bk, o + k, none⟩ = some (.slice A' l2 c') := by
        obtain ⟨X, _, _, hb, _⟩ := HQ.out
        exact (hb.cell (by show bk < H; rw [← HH.out]; exact hbk)).trans hcell
      clear hrow hget' hcell hl2
      obtain ⟨wo, hwo⟩ : ∃ wo : World, wo = wr := ⟨_, rfl⟩
      have HQ2 : Hid (∃ X, Sw wr H m X ∧ Lw n m X ∧ Below H w wr ∧ Tn ls k 0 X) := HQ
      go_wp2
      go_loopw [24] (fun i wr => ∃ j : Nat, j ≤ l2 ∧ i = .int .i64 j ∧ Hid (∃ X, Sw wr H m X ∧ Lw n m X ∧ Below H w wr ∧ Tn ls k j X)) (fun i _ => l2 - (intOf i).toNat)
      case atStart => exact ⟨0, Nat.zero_le _, rfl, HQ⟩
      clear HQ2 HQ hc1
      case round =>
        obtain ⟨j, hj, rfl, HQ⟩ := hrel
        by_cases hjl : j < l2
        · have hjl' := hjl
          rw [← HL2.out] at hjl'
          obtain ⟨bk2, o2, rfl, hbk2, hcell⟩ := HG2.out j hjl'
          have hin := lsOk_get HO.out (by rw [HL.out]; exact hlt) hjl'
          have hat : (ls.getD k [])[j]? = some ((ls[k]'(by rw [HL.out]; exact hlt))[j]) := by
            rw [getD_at (by rw [HL.out]; exact hlt)]
            exact List.getElem?_eq_getElem hjl'
          obtain ⟨x, hx⟩ : ∃ x : Nat, (ls[k]'(by rw [HL.out]; exact hlt))[j] = (x : Int) := ⟨_, (Int.toNat_of_nonneg hin.1).symm⟩
          rw [hx] at hin hcell hat
          have hxm : x < m := by omega
          obtain ⟨X, s1, s2, s3, s4⟩ := HQ.out
          have hc2 : wr.cell? ⟨bk2, o2 + j, none⟩ = some (.int .i64 (x : Int)) := (s3.cell (by show bk2 < H; rw [← HH.out]; exact hbk2)).trans hcell
          have hc3 := s1.cell hxm
          have HA := Lib.hid (add_bit (s1.row x hxm) (lw64 hn (s2 x hxm)) (show k < 64 by omega))
          have hnew : ∀ w3, Is w3 (H + 1 + x) 40 #[.int .u64 ((X x ||| 2 ^ k : Nat) : Int)] → But (H + 1 + x) wr w3 → Hid (∃ X, Sw w3 H m X ∧ Lw n m X ∧ Below H w w3 ∧ Tn ls k (j + 1) X) := fun w3 h1 h2 =>
            ⟨_, s1.but hxm h2 h1, s2.put (or_lt (s2 x hxm) (pow_lt (by omega))), s3.trans (h2.below (by omega)), s4.add hat⟩
          have HN := Lib.hid hnew
          clear hcell hin hat hx s1 s2 s3 s4 hnew hjl' HQ
          go_wp2_with fail
          refine HA.out.mono ?_
          rintro e w3 ⟨rfl, h1, h2⟩
          have HR := HN.out w3 h1 h2
          clear h1 h2
          go_wp2
          go_roundw
          case rel => exact ⟨j + 1, by omega, by go_num, HR⟩
          case measure => simp [intOf]; omega
        · have hje : j = l2 := by omega
          subst hje
          have HR : Hid (∃ X, Sw wr H m X ∧ Lw n m X ∧ Below H w wr ∧ Tn ls (k + 1) 0 X) := by
            obtain ⟨X, s1, s2, s3, s4⟩ := HQ.out
            refine ⟨X, s1, s2, s3, ?_⟩
            have hL : (ls.getD k []).length = j := by
              rw [getD_at (by rw [HL.out]; exact hlt)]
              exact HL2.out
            rw [← hL] at s4
            exact s4.next
          clear HQ
          go_wp2
          go_roundw
          case rel => exact ⟨k + 1, by omega, by go_num, HR⟩
          case measure => simp [intOf]; omega
    · have hke : k = len := by omega
      subst hke
      have HR : Hid (∃ X, Sw wr H m X ∧ Lw n m X ∧ Below H w wr ∧ ∀ x y, (X x).testBit y = true ↔ hasL ls y (x : Int) = true) := by
        obtain ⟨X, s1, s2, s3, s4⟩ := HQ.out
        refine ⟨X, s1, s2, s3, fun x y => ?_⟩
        rw [s4 x y]
        simp only [List.take_zero, List.not_mem_nil, and_false, or_false]
        exact ⟨fun h => h.2, fun h => ⟨by have := has_lt h; rw [HL.out] at this; exact this, h⟩⟩
      clear HQ
      go_wp2
      go_ret
      exact ⟨rfl, HR.out⟩
/-- The same the other way about. -/
def Sn (ls : Ls) (i j : Nat) (X : Nat → Nat) : Prop := ∀ y x, (X y).testBit x = true ↔ (y < i ∧ hasL ls y (x : Int) = true) ∨ (y = i ∧ (x : Int) ∈ (ls.getD i []).take j)
theorem sn_start (ls : Ls) : Sn ls 0 0 fun _ => 0 := fun x y => by simp
theorem Sn.next {ls : Ls} {i : Nat} {X : Nat → Nat} (h : Sn ls i (ls.getD i []).length X) : Sn ls (i + 1) 0 X := fun y x => by
  rw [h y x, List.take_length]
  simp only [List.take_zero, List.not_mem_nil, and_false, or_false]
  constructor
  · rintro (⟨h1, h2⟩ | ⟨rfl, h2⟩)
    · exact ⟨by omega, h2⟩
    · exact ⟨by omega, hasL_iff.2 h2⟩
  · rintro ⟨h1, h2⟩
    by_cases hy : y = i
    · exact .inr ⟨hy, by rw [← hy]; exact hasL_iff.1 h2⟩
    · exact .inl ⟨by omega, h2⟩
theorem Sn.add {ls : Ls} {i j k : Nat} {X : Nat → Nat} (h : Sn ls i j X) (hj : (ls.getD i [])[j]? = some (k : Int)) : Sn ls i (j + 1) (put X i (X i ||| 2 ^ k)) := fun y x => by
  rw [List.take_add_one, hj]
  unfold put
  split
  · rename_i hx
    subst hx
    rw [or_bit, Bool.or_eq_true, h y x, beq_iff_eq]
    simp only [Option.toList, List.mem_append, List.mem_singleton]
    constructor
    · rintro ((h | ⟨h1, h2⟩) | h)
      · exact .inl h
      · exact .inr ⟨h1, .inl h2⟩
      · exact .inr ⟨trivial, .inr (by rw [h])⟩
    · rintro (h | ⟨h1, h2 | h2⟩)
      · exact .inl (.inl h)
      · exact .inl (.inr ⟨h1, h2⟩)
      · exact .inr (by omega)
  · rename_i hx
    rw [h y x]
    constructor
    · rintro (h | ⟨h1, h2⟩)
      · exact .inl h
      · exact absurd h1 hx
    · rintro (h | ⟨h1, h2⟩)
      · exact .inl h
      · exact absurd h1 hx
set_option maxHeartbeats 4000000 in
theorem steps_any {w : World} {v : Value} {ls : Ls} {n : Nat} (h : LsAt w v ls) (ho : lsOk n ls = true) (hl : ls.length = n) (h0 : 0 < n) (hn : n ≤ 64) :
    Calls Tryd.prog 23 #[v] w fun e w' =>
      e = .returned (.slice (some ⟨w.heap.size, 0, none⟩) n n) ∧ ∃ X, Sw w' w.heap.size n X ∧ Lw n n X ∧ Below w.heap.size w w' ∧ ∀ y x, (X y).testBit x = true ↔ hasL ls y (x : Int) = true := by
  obtain ⟨A, c, rfl, hmax, hget⟩ := h.form
  have HG := Lib.hid hget
  have hlen := hl
  have HL := Lib.hid hlen
  have HO := Lib.hid ho
  have hS := newSets_any w (m := n) (n := n) (q := 1) (by omega) hn (by omega)
  have HS := Lib.hid hS
  obtain ⟨H, hH⟩ : ∃ x, w.heap.size = x := ⟨_, rfl⟩
  rw [hH] at HS ⊢
  have HH := Lib.hid hH
  rw [hlen] at hmax ⊢
  skip
  clear h hget hlen hl ho hS hH hmax
  go_enter Tryd.func23, Tryd.ntmps23
  go_wp2_with fail
  refine HS.out.mono ?_
  rintro e w1 ⟨rfl, q1⟩
  have S1 : Hid (Sw w1 H n fun _ => 0) := by rw [← HH.out] at q1 ⊢; exact Sw.made q1
  have B1 : Hid (Below H w w1) := q1.since
  clear q1
  go_wp2
  go_loopw [15] (fun i wr => ∃ k : Nat, k ≤ n ∧ i = .int .i64 k ∧ Hid (∃ X, Sw wr H n X ∧ Lw n n X ∧ Below H w wr ∧ Sn ls k 0 X)) (fun i _ => n - (intOf i).toNat)
  case atStart => exact ⟨0, Nat.zero_le _, rfl, _, S1.out, fun _ _ => Nat.two_pow_pos _, B1.out, sn_start ls⟩
  case round =>
    obtain ⟨k, hk, rfl, HQ⟩ := hrel
    by_cases hlt : k < n
    · obtain ⟨bk, o, u, rfl, hbk, hcell, hrow⟩ := HG.out k (by rw [HL.out]; exact hlt)
      obtain ⟨A', c', rfl, hmax', hget'⟩ := rowI_form hrow
      obtain ⟨l2, hl2⟩ : ∃ q, (ls[k]'(by rw [HL.out]; exact hlt)).length = q := ⟨_, rfl⟩
      have HG2 := Lib.hid hget'
      have HL2 := Lib.hid hl2
      rw [hl2] at hcell hmax'
      unfold maxLen at hmax'
      have hc1 : wr.cell? ⟨bk, o + k, none⟩ = some (.slice A' l2 c') := by
        obtain ⟨X, _, _, hb, _⟩ := HQ.out
        exact (hb.cell (by show bk < H; rw [← HH.out]; exact hbk)).trans hcell
      clear hrow hget' hcell hl2
      obtain ⟨wo, hwo⟩ : ∃ wo : World, wo = wr := ⟨_, rfl⟩
      have HQ2 : Hid (∃ X, Sw wr H n X ∧ Lw n n X ∧ Below H w wr ∧ Sn ls k 0 X) := HQ
      go_wp2
      go_loopw [22] (fun i wr => ∃ j : Nat, j ≤ l2 ∧ i = .int .i64 j ∧ Hid (∃ X, Sw wr H n X ∧ Lw n n X ∧ Below H w wr ∧ Sn ls k j X)) (fun i _ => l2 - (intOf i).toNat)
      case atStart => exact ⟨0, Nat.zero_le _, rfl, HQ⟩
      clear HQ2 HQ hc1
      case round =>
        obtain ⟨j, hj, rfl, HQ⟩ := hrel
        by_cases hjl : j < l2
        · have hjl' := hjl
          rw [← HL2.out] at hjl'
          obtain ⟨bk2, o2, rfl, hbk2, hcell⟩ := HG2.out j hjl'
          have hin := lsOk_get HO.out (by rw [HL.out]; exact hlt) hjl'
          have hat : (ls.getD k [])[j]? = some ((ls[k]'(by rw [HL.out]; exact hlt))[j]) := by
            rw [getD_at (by rw [HL.out]; exact hlt)]
            exact List.getElem?_eq_getElem hjl'
          obtain ⟨x, hx⟩ : ∃ x : Nat, (ls[k]'(by rw [HL.out]; exact hlt))[j] = (x : Int) := ⟨_, (Int.toNat_of_nonneg hin.1).symm⟩
          rw [hx] at hin hcell hat
          have hxm : x < n := by omega
          obtain ⟨X, s1, s2, s3, s4⟩ := HQ.out
          have hc2 : wr.cell? ⟨bk2, o2 + j, none⟩ = some (.int .i64 (x : Int)) := (s3.cell (by show bk2 < H; rw [← HH.out]; exact hbk2)).trans hcell
          have hc3 := s1.cell (show k < n by omega)
          have HA := Lib.hid (add_bit (s1.row k (show k < n by omega)) (lw64 hn (s2 k (by omega))) (show x < 64 by omega))
          have hnew : ∀ w3, Is w3 (H + 1 + k) 40 #[.int .u64 ((X k ||| 2 ^ x : Nat) : Int)] → But (H + 1 + k) wr w3 → Hid (∃ X, Sw w3 H n X ∧ Lw n n X ∧ Below H w w3 ∧ Sn ls k (j + 1) X) := fun w3 h1 h2 =>
            ⟨_, s1.but (show k < n by omega) h2 h1, s2.put (or_lt (s2 k (by omega)) (pow_lt hxm)), s3.trans (h2.below (by omega)), s4.add hat⟩
          have HN := Lib.hid hnew
          clear hcell hin hat hx s1 s2 s3 s4 hnew hjl' HQ
          go_wp2_with fail
          refine HA.out.mono ?_
          rintro e w3 ⟨rfl, h1, h2⟩
          have HR := HN.out w3 h1 h2
          clear h1 h2
          go_wp2
          go_roundw
          case rel => exact ⟨j + 1, by omega, by go_num, HR⟩
          case measure => simp [intOf]; omega
        · have hje : j = l2 := by omega
          subst hje
          have HR : Hid (∃ X, Sw wr H n X ∧ Lw n n X ∧ Below H w wr ∧ Sn ls (k + 1) 0 X) := by
            obtain ⟨X, s1, s2, s3, s4⟩ := HQ.out
            refine ⟨X, s1, s2, s3, ?_⟩
            have hL : (ls.getD k []).length = j := by
              rw [getD_at (by rw [HL.out]; exact hlt)]
              exact HL2.out
            rw [← hL] at s4
            exact s4.next
          clear HQ
          go_wp2
          go_roundw
          case rel => exact ⟨k + 1, by omega, by go_num, HR⟩
          case measure => simp [intOf]; omega
    · have hke : k = n := by omega
      subst hke
      have HR : Hid (∃ X, Sw wr H k X ∧ Lw k k X ∧ Below H w wr ∧ ∀ y x, (X y).testBit x = true ↔ hasL ls y (x : Int) = true) := by
        obtain ⟨X, s1, s2, s3, s4⟩ := HQ.out
        refine ⟨X, s1, s2, s3, fun y x => ?_⟩
        rw [s4 y x]
        simp only [List.take_zero, List.not_mem_nil, and_false, or_false]
        exact ⟨fun h => h.2, fun h => ⟨by have := has_lt h; rw [HL.out] at this; exact this, h⟩⟩
      clear HQ
      go_wp2
      go_ret
      exact ⟨rfl, HR.out⟩
end Fl
end Go.Proofs.YtbeepedobnaojaaDoor

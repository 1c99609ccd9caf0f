/- Is a fact at a node; a node's facts: Has, List. -/
import Derived.Test.YtbeepedobnaojaaDoorFlowK
namespace Go.Proofs.YtbeepedobnaojaaDoor
open Go.RowKit Lf Go.Deep Sv Tr
namespace Fl
def inn (n : Nat) (a : Int) : Bool := decide (0 ≤ a) && decide (a < (n : Int))
def ansB (n m : Nat) (Y : Nat → Nat) (i e : Int) : Bool := (inn n i && inn m e) && (Y e.toNat).testBit i.toNat
theorem inn_get {n : Nat} {a : Int} (h : inn n a = true) : ∃ k : Nat, a = k ∧ k < n := by
  unfold inn at h
  rw [Bool.and_eq_true, decide_eq_true_eq, decide_eq_true_eq] at h
  exact ⟨a.toNat, by omega, by omega⟩
theorem inn_nat {n k : Nat} (h : k < n) : inn n k = true := by
  unfold inn
  rw [decide_eq_true (by omega), decide_eq_true (by omega)]
  rfl
theorem ans_nat {n m : Nat} {Y : Nat → Nat} {i e : Nat} (hi : i < n) (he : e < m) : ansB n m Y i e = (Y e).testBit i := by
  unfold ansB
  rw [inn_nat hi, inn_nat he]
  rfl
theorem in_any {w : World} {a n m b : Nat} (h : Is w a 48 #[.int .i64 n, .slice (some ⟨b, 0, none⟩) m m]) (i e : Int) :
    Calls Tryd.prog 34 #[.pointer (some ⟨a, 0, none⟩), .int .i64 i, .int .i64 e] w fun x w' => x = .returned (.bool (inn n i && inn m e)) ∧ w = w' := by
  have c0 := h.at_ 0
  have c1 := h.at_ 1
  simp at c0 c1
  clear h
  by_cases h0 : 0 ≤ i
  · by_cases h1 : i < (n : Int)
    · have e1 : inn n i = true := by unfold inn; rw [decide_eq_true h0, decide_eq_true h1]; rfl
      rw [e1, Bool.true_and]
      have d1 : decide (i < (n : Int)) = true := decide_eq_true h1
      by_cases h2 : 0 ≤ e
      · have e2 : inn m e = decide (e < (m : Int)) := by unfold inn; rw [decide_eq_true h2, Bool.true_and]
        rw [e2]
        go_enter Tryd.func34, Tryd.ntmps34
        go_wp2
        go_ret
        exact ⟨rfl, rfl⟩
      · have e2 : inn m e = false := by unfold inn; rw [decide_eq_false h2, Bool.false_and]
        have hd : decide (0 ≤ e) = false := decide_eq_false h2
        rw [e2]
        go_enter Tryd.func34, Tryd.ntmps34
        go_wp2
        go_ret
        exact ⟨rfl, rfl⟩
    · have e1 : inn n i = false := by unfold inn; rw [decide_eq_false h1, Bool.and_false]
      have d1 : decide (i < (n : Int)) = false := decide_eq_false h1
      rw [e1, Bool.false_and]
      go_enter Tryd.func34, Tryd.ntmps34
      go_wp2
      go_ret
      exact ⟨rfl, rfl⟩
  · have e1 : inn n i = false := by unfold inn; rw [decide_eq_false h0, Bool.false_and]
    have hd : decide (0 ≤ i) = false := decide_eq_false h0
    rw [e1, Bool.false_and]
    go_enter Tryd.func34, Tryd.ntmps34
    go_wp2
    go_ret
    exact ⟨rfl, rfl⟩
theorem in_nil (i e : Int) (w : World) : Calls Tryd.prog 34 #[.pointer none, .int .i64 i, .int .i64 e] w fun x w' => x = .returned (.bool false) ∧ w = w' := by
  go_enter Tryd.func34, Tryd.ntmps34
  go_wp2
  go_ret
  exact ⟨rfl, rfl⟩
theorem has_nil (i e : Int) (w : World) : Calls Tryd.prog 19 #[.pointer none, .int .i64 i, .int .i64 e] w fun x w' => x = .returned (.bool false) ∧ w = w' := by
  go_enter Tryd.func19, Tryd.ntmps19
  go_wp2_with fail
  refine (in_nil _ _ _).mono ?_
  rintro e w1 ⟨rfl, rfl⟩
  go_wp2
  go_ret
  exact ⟨rfl, rfl⟩
theorem list_nil (i : Int) (w : World) : Calls Tryd.prog 21 #[.pointer none, .int .i64 i] w fun e w' => e = .returned (.slice none 0 0) ∧ w = w' := by
  go_enter Tryd.func21, Tryd.ntmps21
  go_wp2
  go_ret
  exact ⟨rfl, rfl⟩
theorem has_any {w : World} {a n m : Nat} {Y : Nat → Nat} (h : Ans w a n m Y) (hn : n ≤ 64) (i e : Int) :
    Calls Tryd.prog 19 #[.pointer (some ⟨a, 0, none⟩), .int .i64 i, .int .i64 e] w fun x w' => x = .returned (.bool (ansB n m Y i e)) ∧ w = w' := by
  obtain ⟨b, h1, h2⟩ := h.head
  have hi := in_any h1 i e
  cases hx : inn n i && inn m e with
  | false =>
    rw [hx] at hi
    have HI := Lib.hid hi
    have e1 : ansB n m Y i e = false := by unfold ansB; rw [hx]; rfl
    rw [e1]
    clear h h1 h2 hi hx
    go_enter Tryd.func19, Tryd.ntmps19
    go_wp2_with fail
    refine HI.out.mono ?_
    rintro e w1 ⟨rfl, rfl⟩
    go_wp2
    go_ret
    exact ⟨rfl, rfl⟩
  | true =>
    rw [hx] at hi
    have HI := Lib.hid hi
    rw [Bool.and_eq_true] at hx
    obtain ⟨i', rfl, hin⟩ := inn_get hx.1
    obtain ⟨e', rfl, hem⟩ := inn_get hx.2
    rw [ans_nat hin hem]
    have c1 := h1.at_ 1
    simp at c1
    have hs := h2 (by omega)
    have c2 := hs.cell hem
    have HB := Lib.hid (has_bit (hs.word hem) (lw64 hn (h.lw e' hem)) (show i' < 64 by omega))
    clear h h1 h2 hi hx hs
    go_enter Tryd.func19, Tryd.ntmps19
    go_wp2_with fail
    refine HI.out.mono ?_
    rintro e w1 ⟨rfl, rfl⟩
    go_wp2_with fail
    refine HB.out.mono ?_
    rintro e w1 ⟨rfl, rfl⟩
    go_wp2
    go_ret
    exact ⟨rfl, rfl⟩
/-- The first k facts that are at a node. -/
def atL (n m : Nat) (Y : Nat → Nat) (i : Int) (k : Nat) : List Nat := (List.range k).filter fun e => ansB n m Y i (e : Int)
theorem atL_yes {n m k : Nat} {Y : Nat → Nat} {i : Int} (h : ansB n m Y i (k : Int) = true) : atL n m Y i (k + 1) = atL n m Y i k ++ [k] := by
  unfold atL
  rw [List.range_succ, List.filter_append]
  simp [h]
theorem atL_no {n m k : Nat} {Y : Nat → Nat} {i : Int} (h : ansB n m Y i (k : Int) = false) : atL n m Y i (k + 1) = atL n m Y i k := by
  unfold atL
  rw [List.range_succ, List.filter_append]
  simp [h]
theorem atL_len (n m : Nat) (Y : Nat → Nat) (i : Int) (k : Nat) : (atL n m Y i k).length ≤ k := by
  unfold atL
  exact Nat.le_trans (List.length_filter_le _ _) (by simp)
set_option maxHeartbeats 2000000 in
theorem list_any {w : World} {a n m : Nat} {Y : Nat → Nat} (h : Ans w a n m Y) (hn : n ≤ 64) (hm : m ≤ 4000) (r : Int) : Calls Tryd.prog 21 #[.pointer (some ⟨a, 0, none⟩), .int .i64 r] w fun e w' =>
    ∃ v, e = .returned v ∧ Own w' w.heap.size v (atL n m Y r m) ∧ Below w.heap.size w w' := by
  obtain ⟨i0, hi0, hz0, hz1, hz2⟩ := info_parts info_int
  have R := Lib.hid h
  have HI := Lib.hid hi0
  obtain ⟨H, hH⟩ : ∃ x, w.heap.size = x := ⟨_, rfl⟩
  have HH := Lib.hid hH
  rw [hH]
  obtain ⟨b, hb, _⟩ := h.head
  have c1 := hb.at_ 1
  simp at c1
  clear hH h hi0 hb
  go_enter Tryd.func21, Tryd.ntmps21
  go_wp2
  clear c1
  go_loopw [5, 14] (fun v i wr => ∃ k : Nat, k ≤ m ∧ i = .int .i64 k ∧ Hid (Own wr H v (atL n m Y r k)) ∧ Hid (Below H w wr)) (fun _ i _ => m - (intOf i).toNat)
  case atStart => exact ⟨0, Nat.zero_le _, rfl, ⟨rfl, .inl ⟨rfl, rfl⟩⟩, by rw [← HH.out]; exact Below.refl _ _⟩
  case round =>
    obtain ⟨k, hk, rfl, HO, HB⟩ := hrel
    by_cases hlt : k < m
    · have RW := R.out.below (by rw [HH.out]; exact HB.out)
      obtain ⟨ao, cp, rfl, _⟩ := Tr.own_slice HO.out
      have HT := Lib.hid (has_any RW hn r (k : Int))
      obtain ⟨bb, hx⟩ : ∃ bb, ansB n m Y r (k : Int) = bb := ⟨_, rfl⟩
      rw [hx] at HT
      clear RW
      go_wp2_with fail
      refine HT.out.mono ?_
      rintro e w2 ⟨rfl, rfl⟩
      cases bb with
      | false =>
        have HN : Hid (Own wr H (.slice ao (atL n m Y r k).length cp) (atL n m Y r (k + 1))) := by
          show Own _ _ _ _
          rw [atL_no hx]
          exact HO.out
        clear hx
        go_wp2
        go_roundw
        case rel => exact ⟨k + 1, by omega, by go_num, HN, HB⟩
        case measure => simp [intOf]; omega
      | true =>
        obtain ⟨q, hq⟩ : ∃ q, (atL n m Y r k).length = q := ⟨_, rfl⟩
        have hqk : q ≤ 4000 := by have := atL_len n m Y r k; omega
        have hsz : H ≤ wr.heap.size := by have := HB.out.size; have := HH.out; omega
        have HN := Lib.hid hq
        have HO1 : Hid (wr.ownsRow H 3 1 (.slice ao q cp) q (natsC (atL n m Y r k))) := by rw [← hq]; exact HO.out
        have HX := Lib.hid hx
        rw [hq]
        clear hx hq HO
        go_wp2_with (at_builtin; refine wpList_append_own _ rfl _ _ 23 rfl H 3 i0 (.int .i64 0) 1 8 Tryd.underlying23 HI.out hz0 hz1 hz2 rfl (by decide) _ _ _ rfl (HO1.out.alloc _) ⟨wr.heap.size, 0, none⟩ 1 1 [.int .i64 k] rfl rfl ?c1 ?c2 ?c3 ?c4 ?c5 ?_)
        case c1 => exact cells_made _ _ _
        case c2 => intro u hu; simp at hu; subst hu; rfl
        case c3 => unfold maxLen; omega
        case c4 => omega
        case c5 => simp; omega
        intro v2 w2 hown2 hgr _
        have HN2 : Hid (Own w2 H v2 (atL n m Y r (k + 1))) := by
          show World.ownsRow _ _ _ _ _ _ _
          rw [atL_yes HX.out, natsC_snoc, List.length_append, HN.out]
          exact hown2
        have HT2 : Hid (Below H w w2) := below_on HB.out HO1.out (Nat.le_refl _) hsz hgr
        clear hown2 hgr
        go_wp2
        go_roundw
        case rel => exact ⟨k + 1, by omega, by go_num, HN2, HT2⟩
        case measure => simp [intOf]; omega
    · have hkm : k = m := by omega
      subst hkm
      go_wp2
      go_ret
      exact ⟨_, rfl, HO.out, HB.out⟩
end Fl
end Go.Proofs.YtbeepedobnaojaaDoor

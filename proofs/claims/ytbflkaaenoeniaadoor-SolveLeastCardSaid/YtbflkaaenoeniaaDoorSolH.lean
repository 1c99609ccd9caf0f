/- The walks of layer 12: List; Count. -/
import Derived.Test.YtbflkaaenoeniaaDoorSolG
namespace Go.Proofs.YtbflkaaenoeniaaDoor
open Go.RowKit Lf Go.Deep
namespace Sv
/-- The first k elements that are in a region. -/
def inL (G : Nat → Nat → Bool) (r k : Nat) : List Nat := (List.range k).filter fun e => G e r
theorem inL_yes {G : Nat → Nat → Bool} {r k : Nat} (h : G k r = true) : inL G r (k + 1) = inL G r k ++ [k] := by
  unfold inL
  rw [List.range_succ, List.filter_append]
  simp [h]
theorem inL_no {G : Nat → Nat → Bool} {r k : Nat} (h : G k r = false) : inL G r (k + 1) = inL G r k := by
  unfold inL
  rw [List.range_succ, List.filter_append]
  simp [h]
theorem inL_len (G : Nat → Nat → Bool) (r k : Nat) : (inL G r k).length ≤ k := by
  unfold inL
  exact Nat.le_trans (List.length_filter_le _ _) (by simp)
theorem Below.own {w w1 w2 : World} {B : Nat} {v : Value} {n : Nat} {xs : List Value} {o : Obj} (h : Below B w w1) (ho : w1.ownsRow B 3 1 v n xs) (hB : B ≤ w1.heap.size) (hg : (w1.alloc o).grownBy w2 v.ownBlock) : Below B w w2 :=
  below_on h ho (Nat.le_refl _) hB hg
section
variable {w w' : World} {b b1 b2 : Nat} {O I : Nat → Nat} {n m : Nat} {M : R2} {G : Nat → Nat → Bool}
set_option maxHeartbeats 2000000 in
theorem list_any (h : Knows w b b1 b2 O I n m M G) {r : Nat} (hr : r < n) : Calls Tryd.prog 11 #[.pointer (some ⟨b, 0, none⟩), .int .i64 r] w fun e w' =>
    ∃ v, e = .returned v ∧ Own w' w.heap.size v (inL G r m) ∧ Below w.heap.size w w' := by
  obtain ⟨i0, hi0, hz0, hz1, hz2⟩ := info_parts info_int
  have R := Lib.hid h
  have hb := hasRegion_any h.toHead (r : Int)
  rw [inB_nat hr] at hb
  have HB0 := Lib.hid hb
  obtain ⟨X, Y, hs, _, h2⟩ := h.sol
  have hm := hs.most
  have HS := Lib.hid hs
  have H2 := Lib.hid h2
  have hr64 : r < 64 := Nat.lt_of_lt_of_le hr hs.few
  have c1 := hs.c1
  have HI := Lib.hid hi0
  obtain ⟨H, hH⟩ : ∃ x, w.heap.size = x := ⟨_, rfl⟩
  have HH := Lib.hid hH
  rw [hH]
  clear hH h hi0 hb hs h2
  go_enter Tryd.func11, Tryd.ntmps11
  go_wp2_with fail
  refine HB0.out.mono ?_
  rintro e w1 ⟨rfl, rfl⟩
  go_wp2
  clear c1
  go_loopw [5, 16] (fun v i wr => ∃ k : Nat, k ≤ m ∧ i = .int .i64 k ∧ Hid (Own wr H v (inL G r k)) ∧ Hid (Below H w wr)) (fun _ i _ => m - (intOf i).toNat)
  case atStart => exact ⟨0, Nat.zero_le _, rfl, ⟨rfl, .inl ⟨rfl, rfl⟩⟩, by rw [← HH.out]; exact Below.refl _ _⟩
  case round =>
    obtain ⟨k, hk, rfl, HO, HB⟩ := hrel
    by_cases hlt : k < m
    · have RW := Lib.hid (HS.out.below (by rw [HH.out]; exact HB.out))
      obtain ⟨ao, cp, rfl, _⟩ := Tr.own_slice HO.out
      have c1 := RW.out.c1
      have ci := RW.out.ci hlt
      have HT := has_bit (RW.out.yi hlt) (RW.out.y64 hlt) hr64
      rw [H2.out k hlt] at HT
      have HT := Lib.hid HT
      go_wp2_with fail
      refine HT.out.mono ?_
      rintro e w2 ⟨rfl, rfl⟩
      cases hx : G k r with
      | false =>
        have HN : Hid (Own wr H (.slice ao (inL G r k).length cp) (inL G r (k + 1))) := by
          show Own _ _ _ _
          rw [inL_no hx]
          exact HO.out
        clear hx
        go_wp2
        go_roundw
        case rel => exact ⟨k + 1, by omega, by go_num, HN, HB⟩
        case measure => simp [intOf]; omega
      | true =>
        obtain ⟨q, hq⟩ : ∃ q, (inL G r k).length = q := ⟨_, rfl⟩
        have hqk : q ≤ 2700 := by have := inL_len G r k; omega
        have hsz : H ≤ wr.heap.size := by have := HB.out.size; have := HH.out; omega
        have HN := Lib.hid hq
        have HO1 : Hid (wr.ownsRow H 3 1 (.slice ao q cp) q (natsC (inL G r k))) := by rw [← hq]; exact HO.out
        have HX := Lib.hid hx
        rw [hq]
        clear hx hq HO c1 ci
        go_wp2_with (at_builtin; refine wpList_append_own _ rfl (.tmp 28) (.tmp 30) 29 rfl H 3 i0 (.int .i64 0) 1 8 Tryd.underlying29 HI.out hz0 hz1 hz2 rfl (by decide) _ _ _ rfl (HO1.out.alloc _) ⟨wr.heap.size, 0, none⟩ 1 1 [.int .i64 k] rfl rfl ?c1 ?c2 ?c3 ?c4 ?c5 ?_)
        case c1 => exact cells_made _ _ _
        case c2 => intro u hu; simp at hu; subst hu; rfl
        case c3 => unfold maxLen; omega
        case c4 => omega
        case c5 => simp; omega
        intro v2 w2 hown2 hgr _
        have HN2 : Hid (Own w2 H v2 (inL G r (k + 1))) := by
          show World.ownsRow _ _ _ _ _ _ _
          rw [inL_yes HX.out, natsC_snoc, List.length_append, HN.out]
          exact hown2
        have HT2 : Hid (Below H w w2) := below_on HB.out HO1.out (Nat.le_refl _) hsz hgr
        clear hown2 hgr
        go_wp2
        go_roundw
        case rel => exact ⟨k + 1, by omega, by go_num, HN2, HT2⟩
        case measure => simp [intOf]; omega
    · have hkm : k = m := by omega
      subst hkm
      go_wp2
      go_ret
      exact ⟨_, rfl, HO.out, HB.out⟩
theorem list_nil (r : Int) (w : World) : Calls Tryd.prog 11 #[.pointer none, .int .i64 r] w fun e w' => e = .returned (.slice none 0 0) ∧ w = w' := by
  go_enter Tryd.func11, Tryd.ntmps11
  go_wp2_with fail
  refine (hasRegion_nil _ _).mono ?_
  rintro e w1 ⟨rfl, rfl⟩
  go_wp2
  go_ret
  exact ⟨rfl, rfl⟩
theorem count_any (h : Knows w b b1 b2 O I n m M G) {r : Nat} (hr : r < n) : Calls Tryd.prog 14 #[.pointer (some ⟨b, 0, none⟩), .int .i64 r] w fun e w' =>
    e = .returned (.int .i64 (inL G r m).length) ∧ Below w.heap.size w w' := by
  have HL := Lib.hid (list_any h hr)
  clear h
  go_enter Tryd.func14, Tryd.ntmps14
  go_wp2_with fail
  refine HL.out.mono ?_
  rintro e w1 ⟨v, rfl, q1, q2⟩
  obtain ⟨ao, cp, rfl, _⟩ := Tr.own_slice q1
  clear q1
  go_wp2
  go_ret
  exact ⟨rfl, q2⟩
theorem count_nil (r : Int) (w : World) : Calls Tryd.prog 14 #[.pointer none, .int .i64 r] w fun e w' => e = .returned (.int .i64 0) ∧ w = w' := by
  go_enter Tryd.func14, Tryd.ntmps14
  go_wp2_with fail
  refine (list_nil _ _).mono ?_
  rintro e w1 ⟨rfl, rfl⟩
  go_wp2
  go_ret
  exact ⟨rfl, rfl⟩
end
end Sv
end Go.Proofs.YtbflkaaenoeniaaDoor

/- The law's flowed: a fact goes as far as it may. -/
import Derived.Test.YtbeepedobnaojaaDoorFlowR
namespace Go.Proofs.YtbeepedobnaojaaDoor
open Go.RowKit Lf Go.Deep Sv Tr
namespace Fl
def pf : Pb := ⟨[[1], [2], []], 1, [[0]], [[], [0]], []⟩
theorem is_row {w : World} {b c : Nat} {l : List Int} (h : Is w b 3 (intsC l).toArray) (hl : l.length ≤ maxLen) : RowI w (.slice (some ⟨b, 0, none⟩) l.length c) l :=
  rowI_mk (fun _ => ⟨b, 0, rfl, h.lt, fun i u hu => by rw [h.at_, Nat.zero_add]; simpa using hu⟩) hl
theorem is_ls {w : World} {b c : Nat} {vs : List Value} {ls : Ls} (h : Is w b 23 vs.toArray) (hlen : vs.length = ls.length) (hl : ls.length ≤ maxLen) (hr : ∀ i, (hi : i < ls.length) → ∃ v, vs[i]? = some v ∧ RowI w v ls[i]) : LsAt w (.slice (some ⟨b, 0, none⟩) ls.length c) ls := by
  refine ⟨_, _, rfl, vs, ⟨by omega, hl⟩, ⟨fun _ => ⟨b, 0, rfl, h.lt, fun i u hu => by rw [h.at_, Nat.zero_add]; simpa using hu⟩, fun u hu => ?_⟩, fun i hi => ?_⟩
  · obtain ⟨i, hi, rfl⟩ := List.getElem_of_mem hu
    obtain ⟨v, hv, A, cp, e, _⟩ := hr i (by omega)
    rw [List.getElem?_eq_getElem hi] at hv
    injection hv with hv
    rw [hv, e]
    rfl
  · obtain ⟨v, hv, h2⟩ := hr i hi
    refine ⟨v, ?_, h2⟩
    rw [Nat.mul_one, List.drop_eq_getElem_cons (by omega : i < vs.length)]
    rw [List.getElem?_eq_getElem (by omega : i < vs.length)] at hv
    injection hv with hv
    rw [hv]
    rfl
theorem pf_one : Fwd pf 0 1 := (frounds_end (p := pf) (by decide) 0 1).1 (by decide)
theorem pf_zero : ¬Fwd pf 0 0 := fun h => absurd ((frounds_end (p := pf) (by decide) 0 0).2 h) (by decide)
theorem pf_two : ¬Fwd pf 0 2 := fun h => absurd ((frounds_end (p := pf) (by decide) 0 2).2 h) (by decide)
set_option maxHeartbeats 2000000 in
theorem flowed_any {w : World} (hT : TabAt w) : Calls Tryd.prog 9 #[] w fun x w' => x = .returned (.bool true) ∧ Below w.heap.size w w' := by
  obtain ⟨V, hV⟩ : ∃ V, ((((((w.alloc (.cells #[.int .i64 1] 3)).alloc (.cells #[.int .i64 2] 3)).alloc (.cells #[.slice (some ⟨w.heap.size, 0, none⟩) 1 1, .slice (some ⟨w.heap.size + 1, 0, none⟩) 1 1, .slice none 0 0] 23)).alloc (.cells #[.int .i64 0] 3)).alloc (.cells #[.slice (some ⟨w.heap.size + 1 + 1 + 1, 0, none⟩) 1 1] 23)).alloc (.cells #[.int .i64 0] 3)).alloc (.cells #[.slice none 0 0, .slice (some ⟨w.heap.size + 1 + 1 + 1 + 1 + 1, 0, none⟩) 1 1] 23) = V := ⟨_, rfl⟩
  have mk : ∀ (X : World) (t : TypeId) (cs : Array Value) (k : Nat), X.heap.size = k → Is (X.alloc (.cells cs t)) k t cs := fun X t cs k hk => hk ▸ Is.made X t cs
  have i0 : Is V w.heap.size 3 #[.int .i64 1] := by rw [← hV]; exact ((((((Is.made w _ _).alloc _).alloc _).alloc _).alloc _).alloc _).alloc _
  have i1 : Is V (w.heap.size + 1) 3 #[.int .i64 2] := by rw [← hV]; exact (((((mk _ _ _ _ (by simp)).alloc _).alloc _).alloc _).alloc _).alloc _
  have i2 : Is V (w.heap.size + 1 + 1) 23 #[.slice (some ⟨w.heap.size, 0, none⟩) 1 1, .slice (some ⟨w.heap.size + 1, 0, none⟩) 1 1, .slice none 0 0] := by rw [← hV]; exact ((((mk _ _ _ _ (by simp)).alloc _).alloc _).alloc _).alloc _
  have i3 : Is V (w.heap.size + 1 + 1 + 1) 3 #[.int .i64 0] := by rw [← hV]; exact (((mk _ _ _ _ (by simp)).alloc _).alloc _).alloc _
  have i4 : Is V (w.heap.size + 1 + 1 + 1 + 1) 23 #[.slice (some ⟨w.heap.size + 1 + 1 + 1, 0, none⟩) 1 1] := by rw [← hV]; exact ((mk _ _ _ _ (by simp)).alloc _).alloc _
  have i5 : Is V (w.heap.size + 1 + 1 + 1 + 1 + 1) 3 #[.int .i64 0] := by rw [← hV]; exact (mk _ _ _ _ (by simp)).alloc _
  have i6 : Is V (w.heap.size + 1 + 1 + 1 + 1 + 1 + 1) 23 #[.slice none 0 0, .slice (some ⟨w.heap.size + 1 + 1 + 1 + 1 + 1, 0, none⟩) 1 1] := by rw [← hV]; exact mk _ _ _ _ (by simp)
  have hB : Below w.heap.size w V := by
    rw [← hV]
    exact (((((((Below.refl _ w).alloc (Nat.le_refl _) _).alloc (by simp) _).alloc (by simp; omega) _).alloc (by simp; omega) _).alloc (by simp; omega) _).alloc (by simp; omega) _).alloc (by simp; omega) _
  have l1 : LsAt V (.slice (some ⟨w.heap.size + 1 + 1, 0, none⟩) 3 3) pf.succ := is_ls (ls := [[1], [2], []]) i2 rfl (by decide) fun i hi => by
    rcases (by have : i < 3 := hi; omega : i = 0 ∨ i = 1 ∨ i = 2) with rfl | rfl | rfl
    · exact ⟨_, rfl, is_row (l := [1]) i0 (by decide)⟩
    · exact ⟨_, rfl, is_row (l := [2]) i1 (by decide)⟩
    · exact ⟨_, rfl, RowI.nil V⟩
  have l2 : LsAt V (.slice (some ⟨w.heap.size + 1 + 1 + 1 + 1, 0, none⟩) 1 1) pf.gen := is_ls (ls := [[0]]) i4 rfl (by decide) fun i hi => by
    obtain rfl : i = 0 := by have : i < 1 := hi; omega
    exact ⟨_, rfl, is_row (l := [0]) i3 (by decide)⟩
  have l3 : LsAt V (.slice (some ⟨w.heap.size + 1 + 1 + 1 + 1 + 1 + 1, 0, none⟩) 2 2) pf.kill := is_ls (ls := [[], [0]]) i6 rfl (by decide) fun i hi => by
    rcases (by have : i < 2 := hi; omega : i = 0 ∨ i = 1) with rfl | rfl
    · exact ⟨_, rfl, RowI.nil V⟩
    · exact ⟨_, rfl, is_row (l := [0]) i5 (by decide)⟩
  have hP : PbAt V _ _ _ (.slice none 0 0) pf := ⟨l1, l2, l3, RowI.nil V⟩
  have hF := forward_any (hT.below hB hT.pos) hP (by decide) (by decide) (by decide) (m := 1) rfl
  have HF : Hid (Calls Tryd.prog 11 #[.agg #[.slice (some ⟨w.heap.size + 1 + 1, 0, none⟩) 3 3, .int .i64 1, .slice (some ⟨w.heap.size + 1 + 1 + 1 + 1, 0, none⟩) 1 1, .slice (some ⟨w.heap.size + 1 + 1 + 1 + 1 + 1 + 1, 0, none⟩) 2 2, .slice none 0 0]] V fun e w' =>
      ∃ a Y, e = .returned (.tuple #[.pointer (some ⟨a, 0, none⟩), .int .i64 0]) ∧ Ans w' a 3 1 Y ∧ Below V.heap.size V w' ∧ ∀ x j, x < 1 → ((Y x).testBit j = true ↔ Fwd pf (x : Int) j)) := hF
  have HV := Lib.hid hV
  have HB := Lib.hid hB
  clear mk i0 i1 i2 i3 i4 i5 i6 l1 l2 l3 hP hF hB hV hT
  go_enter Tryd.func9, Tryd.ntmps9
  go_wp2_with fail
  rw [HV.out]
  refine HF.out.mono ?_
  rintro e w1 ⟨a, Y, rfl, q1, q2, q3⟩
  have b1 : ansB 3 1 Y 1 0 = true := by
    show (Y 0).testBit 1 = true
    exact (q3 0 1 (by decide)).2 pf_one
  have b0 : ansB 3 1 Y 0 0 = false := by
    show (Y 0).testBit 0 = false
    exact eq_false_of_ne_true fun h => pf_zero ((q3 0 0 (by decide)).1 h)
  have b2 : ansB 3 1 Y 2 0 = false := by
    show (Y 0).testBit 2 = false
    exact eq_false_of_ne_true fun h => pf_two ((q3 0 2 (by decide)).1 h)
  have h1 := has_any q1 (by decide) 1 0
  have h0 := has_any q1 (by decide) 0 0
  have h2 := has_any q1 (by decide) 2 0
  rw [b1] at h1
  rw [b0] at h0
  rw [b2] at h2
  have H1 := Lib.hid h1
  have H0 := Lib.hid h0
  have H2 := Lib.hid h2
  have HQ := Lib.hid (HB.out.trans (q2.mono HB.out.size))
  clear q1 q2 q3 b1 b0 b2 h1 h0 h2 HF
  go_wp2_with fail
  refine H1.out.mono ?_
  rintro e w2 ⟨rfl, rfl⟩
  go_wp2_with fail
  refine H0.out.mono ?_
  rintro e w2 ⟨rfl, rfl⟩
  go_wp2_with fail
  refine H2.out.mono ?_
  rintro e w2 ⟨rfl, rfl⟩
  go_wp2
  go_ret
  exact ⟨rfl, HQ.out⟩
end Fl
end Go.Proofs.YtbeepedobnaojaaDoor

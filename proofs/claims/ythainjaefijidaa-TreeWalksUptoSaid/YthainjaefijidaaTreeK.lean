/- The walks of layer 3's law: printed. -/
import Derived.Test.YthainjaefijidaaTreeR
import Derived.Test.YthainjaefijidaaShelf
namespace Go.Proofs.Ythainjaefijidaa
open Go.RowKit Go.Deep
namespace Tr
def toks : List ByteArray := [⟨#[38]⟩, ⟨#[39, 97]⟩, ⟨#[109, 117, 116]⟩, ⟨#[66, 111, 120]⟩, ⟨#[60]⟩, ⟨#[105, 110, 116]⟩, ⟨#[62]⟩]
theorem joined : (⟨(Lib.join (toks.map (·.data.toList)) (⟨#[32]⟩ : ByteArray).data.toList).toArray⟩ : ByteArray) = ⟨#[38, 32, 39, 97, 32, 109, 117, 116, 32, 66, 111, 120, 32, 60, 32, 105, 110, 116, 32, 62]⟩ := by rfl
theorem lput_toks {W : World} {g cap : Nat} (h : RowAt W (some ⟨g, 0, none⟩) (strsC toks)) (hc : 7 ≤ cap) : Calls Try.prog 23 #[.slice (some ⟨g, 0, none⟩) 7 cap] W fun e W' => e = .returned (.string ⟨#[38, 32, 39, 97, 32, 109, 117, 116, 32, 66, 111, 120, 32, 60, 32, 105, 110, 116, 32, 62]⟩) ∧ Below W.heap.size W W' := by
  obtain ⟨bk, o, e, hl, hcell⟩ := h (by decide)
  injection e with e
  injection e with e1 e2
  subst e1 e2
  have hj := Go.Proofs.Try.strings_Join g 0 cap toks ⟨#[32]⟩ W (fun j x hx => hcell j _ (by unfold strsC; rw [List.getElem?_map, hx]; rfl)) hl (by decide) hc (by decide)
  rw [joined] at hj
  have HJ := Lib.hid hj
  clear hj hcell
  go_enter Try.func23, Try.ntmps23
  go_wp2_with fail
  refine HJ.out.mono ?_
  rintro e W1 ⟨rfl, q⟩
  go_wp2
  go_ret
  exact ⟨rfl, q⟩
theorem whole_toks {W : World} {c B : Nat} {v : Value} (hA : Tx W c B v toks) : Calls Try.prog 18 #[.pointer (some ⟨c, 0, none⟩)] W fun e W' => e = .returned (.string ⟨#[38, 32, 39, 97, 32, 109, 117, 116, 32, 66, 111, 120, 32, 60, 32, 105, 110, 116, 32, 62]⟩) ∧ Below W.heap.size W W' := by
  have ho : W.ownsRow B 9 1 v 7 (strsC toks) := hA.own
  rcases ho.2 with ⟨_, h0⟩ | ⟨g, cap, cur, rfl, _, _, hcap, _⟩
  · cases h0
  · have HP := Lib.hid (lput_toks (cap := cap) (own_row ho) hcap)
    have x0 := hA.cell.at_ 0
    simp only [List.getElem?_toArray, List.getElem?_cons_zero] at x0
    clear hA ho
    go_enter Try.func18, Try.ntmps18
    go_wp2_with fail
    refine HP.out.mono ?_
    rintro e W1 ⟨rfl, q⟩
    go_wp2
    go_ret
    exact ⟨rfl, q⟩
theorem printType_ref {W : World} {g g2 : Nat} (hI : Is W g 43 #[.int .i64 1, .string ⟨#[]⟩, .string ⟨#[]⟩, .bool false, .slice none 0 0, .slice none 0 0, .int .i64 0, .int .i64 0]) (hI2 : Is W g2 43 #[.int .i64 6, .string ⟨#[]⟩, .string ⟨#[]⟩, .bool false, .slice none 0 0, .slice (some ⟨g, 0, none⟩) 1 1, .int .i64 0, .int .i64 0]) :
    Calls Try.prog 14 #[.agg #[.int .i64 7, .string ⟨#[]⟩, .string ⟨#[39, 97]⟩, .bool true, .slice none 0 0, .slice (some ⟨g2, 0, none⟩) 1 1, .int .i64 0, .int .i64 0]] W fun e W' => e = .returned (.string ⟨#[38, 32, 39, 97, 32, 109, 117, 116, 32, 66, 111, 120, 32, 60, 32, 105, 110, 116, 32, 62]⟩) ∧ Below W.heap.size W W' := by
  have hT : Tx ((W.alloc (.cells #[.int .i64 7, .string ⟨#[]⟩, .string ⟨#[39, 97]⟩, .bool true, .slice none 0 0, .slice (some ⟨g2, 0, none⟩) 1 1, .int .i64 0, .int .i64 0] 43)).alloc (.cells #[.slice none 0 0] 51)) (W.heap.size + 1) (W.heap.size + 2) (.slice none 0 0) [] := by
    have h1 := Is.made (W.alloc (.cells #[.int .i64 7, .string ⟨#[]⟩, .string ⟨#[39, 97]⟩, .bool true, .slice none 0 0, .slice (some ⟨g2, 0, none⟩) 1 1, .int .i64 0, .int .i64 0] 43)) 51 #[.slice none 0 0]
    rw [show (W.alloc (.cells #[.int .i64 7, .string ⟨#[]⟩, .string ⟨#[39, 97]⟩, .bool true, .slice none 0 0, .slice (some ⟨g2, 0, none⟩) 1 1, .int .i64 0, .int .i64 0] 43)).heap.size = W.heap.size + 1 by simp] at h1
    exact ⟨h1, ⟨rfl, .inl ⟨rfl, rfl⟩⟩, by omega, by simp⟩
  have HT := Lib.hid (typ_ref hT (by decide) ((hI.alloc _).alloc _) (by intro e; cases e) ((hI2.alloc _).alloc _) (by intro e; cases e))
  clear hI hI2 hT
  go_enter Try.func14, Try.ntmps14
  go_wp2_with fail
  refine HT.out.mono ?_
  rintro e W1 ⟨rfl, v1, k1⟩
  have HK := Lib.hid k1
  have HW := Lib.hid (whole_toks (B := W.heap.size + 2) (v := v1) k1.acc)
  clear k1
  go_wp2_with fail
  refine HW.out.mono ?_
  rintro e W2 ⟨rfl, q2⟩
  have HB : Hid (Below W.heap.size W W1) := by
    have h := HK.out.holes
    refine ⟨h.os, h.tape, h.output, Nat.le_trans (by simp; omega) h.size, fun k hk => ?_⟩
    refine (h.block k (by simp; omega) (by omega) (by intro e; cases e)).trans ?_
    rw [Below.heap_alloc _ _ k (by simp; omega)]
    exact Below.heap_alloc W _ k hk
  have HF : Hid (Below W.heap.size W W2) := HB.out.trans (q2.mono HB.out.size)
  clear q2
  go_wp2
  go_ret
  exact ⟨rfl, HF.out⟩
set_option maxHeartbeats 1000000 in
theorem printed_any (W : World) : Calls Try.prog 4 #[] W fun e W' => e = .returned (.bool true) ∧ Below W.heap.size W W' := by
  obtain ⟨g, hg⟩ : ∃ g, W.heap.size = g := ⟨_, rfl⟩
  have HG := Lib.hid hg
  rw [hg]
  have i1 := Is.made W 43 #[.int .i64 1, .string ⟨#[]⟩, .string ⟨#[]⟩, .bool false, .slice none 0 0, .slice none 0 0, .int .i64 0, .int .i64 0]
  rw [hg] at i1
  have i2 := Is.made (W.alloc (.cells #[.int .i64 1, .string ⟨#[]⟩, .string ⟨#[]⟩, .bool false, .slice none 0 0, .slice none 0 0, .int .i64 0, .int .i64 0] 43)) 43 #[.int .i64 6, .string ⟨#[]⟩, .string ⟨#[]⟩, .bool false, .slice none 0 0, .slice (some ⟨g, 0, none⟩) 1 1, .int .i64 0, .int .i64 0]
  rw [show (W.alloc (.cells #[.int .i64 1, .string ⟨#[]⟩, .string ⟨#[]⟩, .bool false, .slice none 0 0, .slice none 0 0, .int .i64 0, .int .i64 0] 43)).heap.size = g + 1 by simp [hg]] at i2
  obtain ⟨g2, hg2⟩ : ∃ g2, g + 1 = g2 := ⟨_, rfl⟩
  rw [hg2] at i2
  have HP := Lib.hid (printType_ref (W := ((W.alloc (.cells #[.int .i64 1, .string ⟨#[]⟩, .string ⟨#[]⟩, .bool false, .slice none 0 0, .slice none 0 0, .int .i64 0, .int .i64 0] 43)).alloc (.cells #[.int .i64 6, .string ⟨#[]⟩, .string ⟨#[]⟩, .bool false, .slice none 0 0, .slice (some ⟨g, 0, none⟩) 1 1, .int .i64 0, .int .i64 0] 43)).alloc (.cells #[.int .i64 7, .string ⟨#[]⟩, .string ⟨#[39, 97]⟩, .bool true, .slice none 0 0, .slice (some ⟨g2, 0, none⟩) 1 1, .int .i64 0, .int .i64 0] 43)) (((i1.alloc _).alloc _)) (i2.alloc _))
  have b1 : Below g W (((W.alloc (.cells #[.int .i64 1, .string ⟨#[]⟩, .string ⟨#[]⟩, .bool false, .slice none 0 0, .slice none 0 0, .int .i64 0, .int .i64 0] 43)).alloc (.cells #[.int .i64 6, .string ⟨#[]⟩, .string ⟨#[]⟩, .bool false, .slice none 0 0, .slice (some ⟨g, 0, none⟩) 1 1, .int .i64 0, .int .i64 0] 43)).alloc (.cells #[.int .i64 7, .string ⟨#[]⟩, .string ⟨#[39, 97]⟩, .bool true, .slice none 0 0, .slice (some ⟨g2, 0, none⟩) 1 1, .int .i64 0, .int .i64 0] 43)) := (((Below.refl g W).alloc (by omega) _).alloc (by simp; omega) _).alloc (by simp; omega) _
  have B1 := Lib.hid b1
  have S1 := Lib.hid (show (((W.alloc (.cells #[.int .i64 1, .string ⟨#[]⟩, .string ⟨#[]⟩, .bool false, .slice none 0 0, .slice none 0 0, .int .i64 0, .int .i64 0] 43)).alloc (.cells #[.int .i64 6, .string ⟨#[]⟩, .string ⟨#[]⟩, .bool false, .slice none 0 0, .slice (some ⟨g, 0, none⟩) 1 1, .int .i64 0, .int .i64 0] 43)).alloc (.cells #[.int .i64 7, .string ⟨#[]⟩, .string ⟨#[39, 97]⟩, .bool true, .slice none 0 0, .slice (some ⟨g2, 0, none⟩) 1 1, .int .i64 0, .int .i64 0] 43)).heap.size = g + 3 by simp [hg])
  clear i1 i2 b1
  go_enter Try.func4, Try.ntmps4
  go_wp2_with fail
  refine HP.out.mono ?_
  rintro e W2 ⟨rfl, q2⟩
  have HF : Hid (Below g W W2) := B1.out.trans (q2.mono (by rw [S1.out]; omega))
  clear q2 hg hg2
  go_wp2
  go_ret
  exact ⟨rfl, HF.out⟩
end Tr
end Go.Proofs.Ythainjaefijidaa

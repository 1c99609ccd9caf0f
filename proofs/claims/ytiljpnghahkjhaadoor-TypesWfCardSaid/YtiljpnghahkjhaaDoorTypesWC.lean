/- Layer 7: Wf, with what structs need; rows of pairs. -/
import Derived.Test.YtiljpnghahkjhaaDoorTypesWB
namespace Go.Proofs.YtiljpnghahkjhaaDoor
open Go.RowKit Go.Deep Tr Mp
namespace Ts
/-- A slice of pairs. -/
def RowPr (w : World) (v : Value) (l : List (Int × Int)) : Prop := ∃ A c, v = .slice A l.length c ∧ RowAt w A (pairsC l) ∧ (A = none → l.length = 0) ∧ l.length ≤ maxLen
theorem RowPr.below {w w' : World} {v : Value} {l : List (Int × Int)} (h : RowPr w v l) (hb : Below w.heap.size w w') : RowPr w' v l := by
  obtain ⟨A, c, e, h1, h2⟩ := h
  exact ⟨A, c, e, h1.below hb, h2⟩
theorem rowPr_own {w : World} {B n : Nat} {v : Value} {l : List (Int × Int)} (h : w.ownsRow B 46 2 v n (pairsC l)) : RowPr w v l ∧ n = l.length := by
  have hn : n = l.length := by have := h.1; rw [pairsC_length] at this; omega
  subst hn
  obtain ⟨A, c, rfl, hz⟩ := own_slice h
  refine ⟨⟨A, c, rfl, own_row h, fun e => (hz e).1, ?_⟩, rfl⟩
  rcases h.2 with ⟨_, h0⟩ | ⟨_, _, _, _, _, _, h2, h3, _⟩
  · rw [h0]; exact Nat.zero_le _
  · omega
set_option maxHeartbeats 4000000 in
set_option maxRecDepth 100000 in
theorem wf_any {nd : Nds} {mo : Option Nat} {n : Nat} {x : Ty} {cs : List Value} {w : World} (h : TyAt w n x cs) (hal : (allP x).length ≤ Big) (hnd : NeedsAt w (.map mo) nd) (hb : (wfP nd x).length ≤ Big) : Calls Tryd.prog 24 #[.agg cs.toArray, .map mo] w fun e w' =>
    ∃ v, e = .returned v ∧ w'.ownsRow (w.heap.size + 1 + 1 + 1) 46 2 v (wfP nd x).length (pairsC (wfP nd x)) ∧ Below w.heap.size w w' := by
  obtain ⟨k, nm, u, r, R, lr, cr, A, la, ca, rfl⟩ := h.shape
  obtain ⟨o1, ho1⟩ : ∃ o, Obj.cells #[.int .i64 k, .string nm, .bool u, .int .i64 r, .slice R lr cr, .slice A la ca] 25 = o := ⟨_, rfl⟩
  have hN : (w.alloc o1).heap.size = w.heap.size + 1 := by simp
  obtain ⟨o2, ho2⟩ : ∃ o, Obj.cells #[.map mo] 42 = o := ⟨_, rfl⟩
  have iD : Is ((w.alloc o1).alloc o2) (w.heap.size + 1) 42 #[.map mo] := by rw [← hN, ← ho2]; exact Is.made _ _ _
  have hN2 : ((w.alloc o1).alloc o2).heap.size = w.heap.size + 1 + 1 := by simp
  have iC := Is.made ((w.alloc o1).alloc o2) 40 #[.slice none 0 0]
  rw [hN2] at iC
  have hN3 : (((w.alloc o1).alloc o2).alloc (.cells #[.slice none 0 0] 40)).heap.size = w.heap.size + 1 + 1 + 1 := by simp
  have hA : Acc 40 46 2 (((w.alloc o1).alloc o2).alloc (.cells #[.slice none 0 0] 40)) (w.heap.size + 1 + 1) (w.heap.size + 1 + 1 + 1) (.slice none 0 0) ([] : List (Int × Int)).length (pairsC []) :=
    ⟨iC, World.ownsRow_nil _ _ _ _, by omega, by rw [hN3]; exact Nat.le_refl _, by decide⟩
  have hB : Below w.heap.size w (((w.alloc o1).alloc o2).alloc (.cells #[.slice none 0 0] 40)) := (((Below.refl _ w).alloc (Nat.le_refl _) o1).alloc (by omega) o2).alloc (by omega) _
  have hE := eachW_any nd (.map mo) (w.heap.size + 1 + 1) (w.heap.size + 1) (w.heap.size + 1 + 1 + 1) (fun W W' h k => k.is h (by decide) (by intro e; injection e with e; omega)) (fun n => seeW_any _ _ _ _ _ n) n x _ w _ _ [] h hal hnd hB (by omega) hA (iD.alloc _) (by rw [List.length_nil, Nat.zero_add]; exact hb)
  rw [List.nil_append] at hE
  have HE := Lib.hid hE
  have HB := Lib.hid hB
  have HO1 := Lib.hid ho1
  have HO2 := Lib.hid ho2
  clear h hb hal hnd hN hN2 iC iD hN3 hA hB hE ho1 ho2
  go_enter Tryd.func24, Tryd.ntmps24
  go_wp2_with fail
  rw [HO1.out, HO2.out]
  refine HE.out.mono ?_
  rintro e W1 ⟨rfl, v', q1, q2⟩
  have c0 := q1.cell.at_ 0
  simp only [List.getElem?_toArray, List.getElem?_cons_zero] at c0
  have HR : Hid (W1.ownsRow (w.heap.size + 1 + 1 + 1) 46 2 v' (wfP nd x).length (pairsC (wfP nd x))) := q1.own
  have HB1 : Hid (Below w.heap.size w W1) := q2.below HB.out (by omega) HB.out.size (fun k e => by injection e with e; omega)
  clear q1 q2 HE
  go_wp2
  go_ret
  exact ⟨_, rfl, HR.out, HB1.out⟩
end Ts
end Go.Proofs.YtiljpnghahkjhaaDoor

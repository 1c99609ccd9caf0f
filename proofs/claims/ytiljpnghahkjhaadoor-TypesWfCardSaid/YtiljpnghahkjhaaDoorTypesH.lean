/- Layer 7: the walks of slot. -/
import Derived.Test.YtiljpnghahkjhaaDoorTypesG
namespace Go.Proofs.YtiljpnghahkjhaaDoor
open Go.RowKit Go.Deep Tr
namespace Ts
theorem row_at1 {w : World} {bk o c : Nat} {r : Int} (h : w.cell? ⟨bk, o, none⟩ = some (.int .i64 r)) (hl : bk < w.heap.size) : RowI w (.slice (some ⟨bk, o, none⟩) 1 c) [r] :=
  rowI_mk (l := [r]) (fun _ => ⟨bk, o, rfl, hl, fun i u hu => by
    cases i with
    | zero =>
      simp [intsC] at hu
      subst hu
      simpa using h
    | succ i => simp [intsC] at hu⟩) (by unfold maxLen; simp)
set_option maxHeartbeats 4000000 in
set_option maxRecDepth 100000 in
theorem slot_any {n : Nat} {x : Ty} {cs : List Value} {W0 w : World} (h : TyAt W0 n x cs) (hb : Below W0.heap.size W0 w) (hbig : (allP x).length ≤ Big) (i : Int) (hi63 : i ≤ 9223372036854775807) : Calls Tryd.prog 46 #[.agg cs.toArray, .int .i64 i] w fun e w' =>
    ∃ v, e = .returned v ∧ RowI w' v (slotP x i) ∧ Below w.heap.size w w' ∧ Far W0.heap.size w.heap.size v := by
  cases n with
  | zero => exact h.elim
  | succ n =>
    obtain ⟨k, nm, u, r, rs, ar⟩ := x
    obtain ⟨R, cr, A, ca, rfl, ⟨⟨_, hcr⟩, h1⟩, h2⟩ := h
    obtain ⟨lr, hlr⟩ : ∃ n, rs.length = n := ⟨_, rfl⟩
    obtain ⟨la, hla⟩ : ∃ n, ar.length = n := ⟨_, rfl⟩
    have ha1 := h1.le
    have ha2 := h2.le
    unfold maxLen at ha1 ha2
    rw [hlr] at ha1 hcr
    rw [hla] at ha2
    have hbW : Below W0.heap.size W0 (w.alloc (.cells #[.int .i64 k, .string nm, .bool u, .int .i64 r, .slice R lr cr, .slice A la ca] 25)) := hb.alloc hb.size _
    have B0 := Lib.hid (box_in w [.int .i64 k, .string nm, .bool u, .int .i64 r, .slice R lr cr, .slice A la ca])
    have BW := Lib.hid hbW
    have H1 := Lib.hid h1
    have H2 := Lib.hid h2
    have HLR := Lib.hid hlr
    have HLA := Lib.hid hla
    have HBIG := Lib.hid hbig
    rw [hlr, hla]
    clear h1 h2 hb hbW hlr hla hbig
    by_cases h0 : i = 0
    · subst h0
      rw [slot_0]
      go_enter Tryd.func46, Tryd.ntmps46
      go_wp2
      go_ret
      exact ⟨_, rfl, row_one1 _ _ (by simp) 0, B0.out.alloc (by simp) _, far_new (Nat.le_succ _)⟩
    have e0 : (i == 0) = false := by rw [beq_eq_false_iff_ne]; exact h0
    by_cases hneg : i < 0
    · rw [slot_3 k nm u r rs ar (.inl hneg)]
      have hd1 : decide (1 ≤ i) = false := decide_eq_false (by omega)
      have hd2 : decide ((lr : Int) < i) = false := decide_eq_false (by omega)
      go_enter Tryd.func46, Tryd.ntmps46
      go_wp2
      go_ret
      exact ⟨_, rfl, RowI.nil _, B0.out, far_nil⟩
    by_cases hin : i ≤ (lr : Int)
    · obtain ⟨a, rfl⟩ : ∃ a : Nat, i = (a : Int) + 1 := ⟨(i - 1).toNat, by omega⟩
      have haL : a < rs.length := by rw [HLR.out]; omega
      rw [slot_1 k nm u r rs ar haL]
      obtain ⟨bk, o, rfl, hbk, hc⟩ := int_at H1.out haL
      obtain ⟨y, hy⟩ : ∃ y, rs[a] = y := ⟨_, rfl⟩
      rw [hy] at hc ⊢
      have hcW := (BW.out.cell (p := ⟨bk, o + a, none⟩) hbk).trans hc
      obtain ⟨m, hm⟩ : ∃ m : Nat, (a : Int) + 1 = (m : Int) := ⟨a + 1, by omega⟩
      have hm1 : (m : Int) - 1 = (a : Int) := by omega
      have ham : a ≤ m := by omega
      have hmc : m ≤ cr := by omega
      have hma : m - a = 1 := by omega
      have hml : m ≤ lr := by omega
      have hm0 : 0 < m := by omega
      rw [hm] at e0 ⊢
      have R1 := Lib.hid (row_at1 (c := cr - a) hcW (Nat.lt_of_lt_of_le hbk BW.out.size))
      have HF : Hid (Far W0.heap.size w.heap.size (.slice (some ⟨bk, o + a, none⟩) 1 (cr - a))) := fun bk' o' n' c' e _ => by
        injection e with e _ _
        injection e with e
        injection e with e _ _
        subst e
        exact .inl hbk
      have ha9 : (a : Int) ≤ 9223372036854775807 := by omega
      clear ha1 ha2 hi63 hcr
      clear h0 hneg hin hm hy haL hc hcW
      go_enter Tryd.func46, Tryd.ntmps46
      go_wp2
      go_ret
      exact ⟨_, rfl, R1.out, B0.out, HF.out⟩
    have hgt : (lr : Int) < i := by omega
    have hd3 : decide (i ≤ (lr : Int)) = false := decide_eq_false (by omega)
    by_cases hhi : i ≤ (lr : Int) + la
    · obtain ⟨a, ha⟩ : ∃ a : Nat, i - lr - 1 = (a : Int) := ⟨(i - lr - 1).toNat, by omega⟩
      have haL : a < ar.length := by rw [HLA.out]; omega
      have hla' : a < la := by omega
      rw [slot_2 k nm u r rs ar haL (i := i) (by rw [HLR.out]; omega)]
      obtain ⟨bk, o', cs2, rfl, hlt, hl2, hs2, hc2⟩ := H2.out.get (by decide) haL
      obtain ⟨x, hx⟩ : ∃ x, ar[a] = x := ⟨_, rfl⟩
      rw [hx] at hs2 ⊢
      have hxm : x ∈ ar := by rw [← hx]; exact List.getElem_mem _
      obtain ⟨k0, nm0, u0, r0, R0, lr0, cr0, A0, la0, ca0, rfl⟩ := hs2.shape
      have x0 := (BW.out.cell (p := ⟨bk, o' + a * 6 + 0, none⟩) hlt).trans (hc2 0 _ rfl)
      rw [Nat.add_zero] at x0
      have x1 := (BW.out.cell (p := ⟨bk, o' + a * 6 + 1, none⟩) hlt).trans (hc2 1 _ rfl)
      have x2 := (BW.out.cell (p := ⟨bk, o' + a * 6 + 2, none⟩) hlt).trans (hc2 2 _ rfl)
      have x3 := (BW.out.cell (p := ⟨bk, o' + a * 6 + 3, none⟩) hlt).trans (hc2 3 _ rfl)
      have x4 := (BW.out.cell (p := ⟨bk, o' + a * 6 + 4, none⟩) hlt).trans (hc2 4 _ rfl)
      have x5 := (BW.out.cell (p := ⟨bk, o' + a * 6 + 5, none⟩) hlt).trans (hc2 5 _ rfl)
      have hbb : (allP x).length ≤ Big := by
        have h3 := HBIG.out
        have h4 : (allP (.mk k nm u r rs ar)).length = (ownP (.mk k nm u r rs ar)).length + (gathL ownP ar).length := by
          show (gath ownP _).length = _
          rw [gath, List.length_append]
        have h5 := gathL_mem ownP hxm
        have h6 : (allP x).length = (gath ownP x).length := rfl
        omega
      have HLI := Lib.hid (all_any (TyAt.below BW.out n _ _ hs2) hbb)
      have hsub : i - (lr : Int) ≤ (la : Int) := by omega
      clear hx hxm hs2 hc2 hlt hl2 hbb haL hin hneg h0
      go_enter Tryd.func46, Tryd.ntmps46
      go_wp2_with fail
      refine HLI.out.mono ?_
      rintro e W4 ⟨vo, rfl, r1, b1, nw⟩
      have R1 := Lib.hid r1
      have B4 := Lib.hid (B0.out.trans (b1.mono B0.out.size))
      have HF : Hid (Far W0.heap.size w.heap.size vo) := far_of (fun g hg => Nat.le_trans B0.out.size (nw g hg))
      clear r1 b1 nw HLI x0 x1 x2 x3 x4 x5
      go_wp2
      go_ret
      exact ⟨_, rfl, R1.out, B4.out, HF.out⟩
    · rw [slot_3 k nm u r rs ar (.inr (by rw [HLR.out, HLA.out]; omega))]
      have hd4 : decide (i - (lr : Int) ≤ (la : Int)) = false := decide_eq_false (by omega)
      go_enter Tryd.func46, Tryd.ntmps46
      go_wp2
      go_ret
      exact ⟨_, rfl, RowI.nil _, B0.out, far_nil⟩
end Ts
end Go.Proofs.YtiljpnghahkjhaaDoor

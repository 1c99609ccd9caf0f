/- Layer 7's reference: the regions of a struct's slot. -/
import Derived.Test.YtiljpnghahkjhaaDoorTypesWD
namespace Go.Proofs.YtiljpnghahkjhaaDoor
open Go.RowKit Go.Deep Tr
namespace Ts
set_option maxHeartbeats 4000000 in
set_option maxRecDepth 100000 in
theorem rslot_any {n : Nat} {x : Ty} {cs : List Value} {w : World} (h : TyAt w n x cs) (hbig : (allP x).length ≤ Big) (i : Int) (hi63 : i ≤ 9223372036854775807) : Calls Tryd.prog 48 #[.agg cs.toArray, .int .i64 i] w fun e w' =>
    ∃ v, e = .returned v ∧ RowI w' v (slotP x i) ∧ Below w.heap.size w w' := by
  cases n with
  | zero => exact h.elim
  | succ n =>
    obtain ⟨k, nm, u, r, rs, ar⟩ := x
    obtain ⟨R, cr, A, ca, rfl, ⟨⟨_, hcr⟩, h1⟩, h2⟩ := h
    obtain ⟨lr, hlr⟩ : ∃ n, rs.length = n := ⟨_, rfl⟩
    obtain ⟨la, hla⟩ : ∃ n, ar.length = n := ⟨_, rfl⟩
    have ha1 := h1.le
    have ha2 := h2.le
    unfold maxLen at ha1 ha2
    rw [hlr] at ha1 hcr
    rw [hla] at ha2
    have B0 := Lib.hid (box_in w [.int .i64 k, .string nm, .bool u, .int .i64 r, .slice R lr cr, .slice A la ca])
    have H1 := Lib.hid h1
    have H2 := Lib.hid h2
    have HLR := Lib.hid hlr
    have HLA := Lib.hid hla
    have HBIG := Lib.hid hbig
    rw [hlr, hla]
    clear h1 h2 hlr hla hbig
    by_cases hneg : i < 0
    · rw [slot_3 k nm u r rs ar (.inl hneg)]
      go_enter Tryd.func48, Tryd.ntmps48
      go_wp2
      go_ret
      exact ⟨_, rfl, RowI.nil _, B0.out⟩
    have hneg' : decide (i < 0) = false := decide_eq_false hneg
    by_cases h0 : i = 0
    · subst h0
      rw [slot_0]
      go_enter Tryd.func48, Tryd.ntmps48
      go_wp2
      go_ret
      exact ⟨_, rfl, row_one1 _ _ (by simp) 0, B0.out.alloc (by simp) _⟩
    have e0 : (i == 0) = false := by rw [beq_eq_false_iff_ne]; exact h0
    by_cases hin : i ≤ (lr : Int)
    · obtain ⟨a, rfl⟩ : ∃ a : Nat, i = (a : Int) + 1 := ⟨(i - 1).toNat, by omega⟩
      have haL : a < rs.length := by rw [HLR.out]; omega
      rw [slot_1 k nm u r rs ar haL]
      obtain ⟨bk, o, rfl, hbk, hc⟩ := int_at H1.out haL
      obtain ⟨y, hy⟩ : ∃ y, rs[a] = y := ⟨_, rfl⟩
      rw [hy] at hc ⊢
      have hcW := (B0.out.cell (p := ⟨bk, o + a, none⟩) hbk).trans hc
      obtain ⟨m, hm⟩ : ∃ m : Nat, (a : Int) + 1 = (m : Int) := ⟨a + 1, by omega⟩
      have hm1 : (m : Int) - 1 = (a : Int) := by omega
      have hml : m ≤ lr := by omega
      have hal : a < lr := by omega
      rw [hm] at e0 hneg' ⊢
      clear hi63 hcr h0 hneg hin hm hy haL hc
      go_enter Tryd.func48, Tryd.ntmps48
      go_wp2
      go_ret
      exact ⟨_, rfl, row_one1 _ _ (by simp) y, B0.out.alloc (by simp) _⟩
    have hd3 : decide (i ≤ (lr : Int)) = false := decide_eq_false (by omega)
    by_cases hhi : i ≤ (lr : Int) + la
    · obtain ⟨a, ha⟩ : ∃ a : Nat, i - lr - 1 = (a : Int) := ⟨(i - lr - 1).toNat, by omega⟩
      have haL : a < ar.length := by rw [HLA.out]; omega
      have hla' : a < la := by omega
      have hle : i - (lr : Int) ≤ la := by omega
      rw [slot_2 k nm u r rs ar haL (i := i) (by rw [HLR.out]; omega)]
      obtain ⟨bk, o', cs2, rfl, hlt, hl2, hs2, hc2⟩ := H2.out.get (by decide) haL
      obtain ⟨x, hx⟩ : ∃ x, ar[a] = x := ⟨_, rfl⟩
      rw [hx] at hs2 ⊢
      have hxm : x ∈ ar := by rw [← hx]; exact List.getElem_mem _
      obtain ⟨k0, nm0, u0, r0, R0, lr0, cr0, A0, la0, ca0, rfl⟩ := hs2.shape
      have x0 := (B0.out.cell (p := ⟨bk, o' + a * 6 + 0, none⟩) hlt).trans (hc2 0 _ rfl)
      rw [Nat.add_zero] at x0
      have x1 := (B0.out.cell (p := ⟨bk, o' + a * 6 + 1, none⟩) hlt).trans (hc2 1 _ rfl)
      have x2 := (B0.out.cell (p := ⟨bk, o' + a * 6 + 2, none⟩) hlt).trans (hc2 2 _ rfl)
      have x3 := (B0.out.cell (p := ⟨bk, o' + a * 6 + 3, none⟩) hlt).trans (hc2 3 _ rfl)
      have x4 := (B0.out.cell (p := ⟨bk, o' + a * 6 + 4, none⟩) hlt).trans (hc2 4 _ rfl)
      have x5 := (B0.out.cell (p := ⟨bk, o' + a * 6 + 5, none⟩) hlt).trans (hc2 5 _ rfl)
      have hbx : (allP x).length ≤ Big := by
        have h1 := HBIG.out
        have h2 := gathL_mem ownP hxm
        rw [allP, gath, List.length_append] at h1
        rw [allP]
        omega
      have HAL := Lib.hid (rall_any n x _ _ (TyAt.below B0.out n x _ hs2) hbx)
      clear hs2 hc2 hlt hl2 hx hxm hbx haL hhi hin h0 hneg hi63
      go_enter Tryd.func48, Tryd.ntmps48
      go_wp2_with fail
      refine HAL.out.mono ?_
      rintro e w2 ⟨v, rfl, q1, q2⟩
      have B2 := Lib.hid (B0.out.trans (q2.mono B0.out.size))
      have Q1 := Lib.hid q1
      clear q1 q2
      go_wp2
      go_ret
      exact ⟨_, rfl, Q1.out, B2.out⟩
    · rw [slot_3 k nm u r rs ar (.inr (by rw [HLR.out, HLA.out]; omega))]
      have hd4 : decide (i - (lr : Int) ≤ (la : Int)) = false := decide_eq_false (by omega)
      go_enter Tryd.func48, Tryd.ntmps48
      go_wp2
      go_ret
      exact ⟨_, rfl, RowI.nil _, B0.out⟩
end Ts
end Go.Proofs.YtiljpnghahkjhaaDoor

/- Layer 7: the reference's All. -/
import Derived.Deep.RegionHeld3
import Derived.Deep.RegionLaw
import Derived.Deep.OwnRows
import Derived.Test.YtiljpnghahkjhaaDoorTypesB0
namespace Go.Proofs.YtiljpnghahkjhaaDoor
open Go.RowKit Go.Deep Tr
namespace Ts
def RAllOk (n : Nat) : Prop := ∀ (x : Ty) (cs : List Value) (w : World), TyAt w n x cs → (allP x).length ≤ Big → Calls Tryd.prog 13 #[.agg cs.toArray] w fun e w' => ∃ v, e = .returned v ∧ RowI w' v (allP x) ∧ Below w.heap.size w w'
set_option maxHeartbeats 8000000 in
set_option maxRecDepth 100000 in
theorem rall_step (n : Nat) (IH : Hid (RAllOk n)) : RAllOk (n + 1) := by
  rintro ⟨k, nm, u, r, rs, ar⟩ cs w h hb
  have HH := Lib.hid h
  obtain ⟨R, cr, A, ca, rfl, ⟨h0, h1⟩, h2⟩ := h
  obtain ⟨i0, hi0, hz0, hz1, hz2⟩ := info_parts info_int
  have HI := Lib.hid hi0
  obtain ⟨lr, hlr⟩ : ∃ n, rs.length = n := ⟨_, rfl⟩
  obtain ⟨la, hla⟩ : ∃ n, ar.length = n := ⟨_, rfl⟩
  have ha := h2.le
  unfold maxLen at ha
  rw [hla] at ha
  have HLA := Lib.hid hla
  have H2 := Lib.hid h2
  rw [hlr, hla] at HH ⊢
  obtain ⟨ow, how⟩ : ∃ l, ownP (.mk k nm u r rs ar) = l := ⟨_, rfl⟩
  have hg : allP (.mk k nm u r rs ar) = ow ++ gathL ownP ar := by show gath ownP _ = _; rw [gath, how]
  rw [hg] at hb ⊢
  have HB := Lib.hid hb
  obtain ⟨o1, ho1⟩ : ∃ o, Obj.cells #[.int .i64 k, .string nm, .bool u, .int .i64 r, .slice R lr cr, .slice A la ca] 25 = o := ⟨_, rfl⟩
  have I1 : Is (w.alloc o1) w.heap.size 25 #[.int .i64 k, .string nm, .bool u, .int .i64 r, .slice R lr cr, .slice A la ca] := by rw [← ho1]; exact Is.made w _ _
  have hb0 : Below w.heap.size w (w.alloc o1) := (Below.refl _ w).alloc (Nat.le_refl _) o1
  have hs1 : (w.alloc o1).heap.size = w.heap.size + 1 := by simp
  obtain ⟨W1, hW1⟩ : ∃ x, w.alloc o1 = x := ⟨_, rfl⟩
  have hWW : Hid (w.alloc (.cells #[.int .i64 k, .string nm, .bool u, .int .i64 r, .slice R lr cr, .slice A la ca] 25) = W1) := by rw [← hW1, ← ho1]; exact rfl
  rw [hW1] at I1 hb0 hs1
  obtain ⟨N, hN⟩ : ∃ N, w.heap.size = N := ⟨_, rfl⟩
  have HN := Lib.hid hN
  have B1 := Lib.hid hb0
  rw [hN] at I1 hs1 ⊢
  -- the empty row
  have oE := World.ownsRow_made (e := 3) (size := 1) (base := N + 1) W1 #[] 0 (by omega) (Nat.zero_le _) rfl
  rw [hs1] at oE
  have bE : Below W1.heap.size W1 (W1.alloc (.cells #[] 3)) := (Below.refl _ _).alloc (Nat.le_refl _) _
  have I2 := Lib.hid (I1.alloc (.cells #[] 3))
  have B2 := Lib.hid (B1.out.trans (bE.mono B1.out.size))
  have S2 : Hid (N + 1 ≤ (W1.alloc (.cells #[] 3)).heap.size) := by show N + 1 ≤ _; simp; omega
  have HO := rown_any (w := W1.alloc (.cells #[] 3)) (TyAt.below B2.out _ _ _ HH.out)
  rw [how] at HO
  have HO := Lib.hid HO
  have OE := Lib.hid oE
  have HOW : Hid (ow.length ≤ Big) := by rw [List.length_append] at hb; exact Nat.le_trans (Nat.le_add_right _ _) hb
  have n0 := I2.out.at_ 0
  have n1 := I2.out.at_ 1
  have n2 := I2.out.at_ 2
  have n3 := I2.out.at_ 3
  have n4 := I2.out.at_ 4
  have n5 := I2.out.at_ 5
  simp only [List.getElem?_toArray, List.getElem?_cons_zero, List.getElem?_cons_succ] at n0 n1 n2 n3 n4 n5
  have HS1 := Lib.hid hs1
  clear h0 h1 h2 hlr hla hb ho1 hW1 hb0 hs1 hi0 hN hg how oE bE I1
  go_enter Tryd.func13, Tryd.ntmps13
  have e1 : ∀ o : Obj, ((w.alloc (.cells #[.int .i64 k, .string nm, .bool u, .int .i64 r, .slice R lr cr, .slice A la ca] 25)).alloc o) = W1.alloc o := fun o => by rw [hWW.out]
  have e2 : (w.alloc (.cells #[.int .i64 k, .string nm, .bool u, .int .i64 r, .slice R lr cr, .slice A la ca] 25)).heap.size = N + 1 := by rw [hWW.out]; exact HS1.out
  have e3 : w.heap.size = N := HN.out
  go_wp2_with fail
  try rw [e1]
  refine HO.out.mono ?_
  rintro e W3 ⟨vo, rfl, r1, b1⟩
  obtain ⟨Ao, co, rfl, hr2, hn2⟩ := rowI_cells r1
  have O3 := Lib.hid (own_below OE.out b1)
  have B3 := Lib.hid (B2.out.trans (b1.mono B2.out.size))
  have I3 := Lib.hid (I2.out.below b1 I2.out.lt)
  have S3 : Hid (N + 1 ≤ W3.heap.size) := Nat.le_trans S2.out b1.size
  have R3 := Lib.hid hr2
  have HN3 := Lib.hid hn2
  have LB1 : Hid (0 + ow.length ≤ maxLen) := by have := HOW.out; unfold Big at this; show _ ≤ maxLen; unfold maxLen; omega
  have LB2 : Hid ((0 + ow.length) * 8 ≤ 140737488355328) := by have := HOW.out; unfold Big at this; show _ ≤ 140737488355328; omega
  clear r1 b1 hr2 hn2 e1 e2 e3 HO OE B2 I2 S2 n0 n1 n2 n3 n4 n5
  go_wp2_with (at_builtin; refine wpList_append_row rfl (.tmp 5) (.tmp 7) 22 rfl (N + 1) 3 i0 (.int .i64 0) 1 8 Tryd.underlying22 HI.out hz0 hz1 hz2 rfl (by decide) _ 0 [] rfl O3.out Ao ow.length co HN3.out (intsC ow) rfl (by rw [intsC_length, Nat.mul_one]) R3.out (intsC_one _) LB1.out LB2.out S3.out ?_)
  intro v4 W4 ho4 hg4
  have O4 : Hid (W4.ownsRow (N + 1) 3 1 v4 (ow ++ gathL ownP (ar.take 0)).length (intsC (ow ++ gathL ownP (ar.take 0)))) := by
    show World.ownsRow _ _ _ _ _ _ _
    rw [List.take_zero, gathL, List.append_nil]
    simpa using ho4
  have B4 : Hid (Below w.heap.size w W4) := below_own B3.out O3.out (by rw [HN.out]; omega) B3.out.size hg4
  have I4 := Lib.hid (I3.out.grown hg4 (fun e => own_ne O3.out I3.out (by decide) e.symm))
  have S4 : Hid (N + 1 ≤ W4.heap.size) := Nat.le_trans S3.out hg4.size
  clear ho4 hg4 O3 B3 I3 S3 R3 HN3 LB1 LB2
  go_wp2
  go_loopw [3, 4] (fun v i wr => ∃ j : Nat, j ≤ la ∧ i = .int .i64 j ∧ Hid (wr.ownsRow (N + 1) 3 1 v (ow ++ gathL ownP (ar.take j)).length (intsC (ow ++ gathL ownP (ar.take j))) ∧ Below w.heap.size w wr ∧ N + 1 ≤ wr.heap.size ∧ Is wr N 25 #[.int .i64 k, .string nm, .bool u, .int .i64 r, .slice R lr cr, .slice A la ca])) (fun _ i _ => la - (intOf i).toNat)
  case atStart => exact ⟨0, Nat.zero_le _, rfl, O4.out, B4.out, S4.out, I4.out⟩
  clear O4 B4 S4 I4
  case round =>
    obtain ⟨j, hj, rfl, HQ⟩ := hrel
    obtain ⟨q1, q2, q3, q4⟩ := HQ.out
    obtain ⟨ao, cp, rfl, _⟩ := own_slice q1
    have O3 := Lib.hid q1
    have B3 := Lib.hid q2
    have S3 := Lib.hid q3
    have I3 := Lib.hid q4
    have c5 := q4.at_ 5
    simp only [List.getElem?_toArray, List.getElem?_cons_zero, List.getElem?_cons_succ] at c5
    clear HQ q1 q2 q3 q4
    by_cases hjl : j < la
    · have hjL : j < ar.length := by rw [HLA.out]; exact hjl
      obtain ⟨bk, o', cs2, rfl, hlt, hl2, hs2, hc2⟩ := H2.out.get (by decide) hjL
      obtain ⟨x, hx⟩ : ∃ x, ar[j] = x := ⟨_, rfl⟩
      rw [hx] at hs2
      have hxm : x ∈ ar := by rw [← hx]; exact List.getElem_mem _
      obtain ⟨k0, nm0, u0, r0, R0, lr0, cr0, A0, la0, ca0, rfl⟩ := hs2.shape
      have x0 := (B3.out.cell (p := ⟨bk, o' + j * 6 + 0, none⟩) hlt).trans (hc2 0 _ rfl)
      rw [Nat.add_zero] at x0
      have x1 := (B3.out.cell (p := ⟨bk, o' + j * 6 + 1, none⟩) hlt).trans (hc2 1 _ rfl)
      have x2 := (B3.out.cell (p := ⟨bk, o' + j * 6 + 2, none⟩) hlt).trans (hc2 2 _ rfl)
      have x3 := (B3.out.cell (p := ⟨bk, o' + j * 6 + 3, none⟩) hlt).trans (hc2 3 _ rfl)
      have x4 := (B3.out.cell (p := ⟨bk, o' + j * 6 + 4, none⟩) hlt).trans (hc2 4 _ rfl)
      have x5 := (B3.out.cell (p := ⟨bk, o' + j * 6 + 5, none⟩) hlt).trans (hc2 5 _ rfl)
      have hm := gathL_mem ownP hxm
      have hbb := HB.out
      rw [List.length_append] at hbb
      have HLI := Lib.hid (IH.out x _ wr (TyAt.below B3.out n _ _ hs2) (show (gath ownP x).length ≤ Big by omega))
      have HT : Hid (ow ++ gathL ownP (ar.take (j + 1)) = (ow ++ gathL ownP (ar.take j)) ++ allP x) := by
        show _ = _
        rw [List.take_succ_eq_append_getElem hjL, gathL_append, hx, gathL, gathL, List.append_nil, List.append_assoc]
        rfl
      have hsum : (ow ++ gathL ownP (ar.take j)).length + (allP x).length ≤ Big := by
        have h1 : ow.length + (gathL ownP (ar.take j ++ ar.drop j)).length ≤ Big := by rw [List.take_append_drop]; exact hbb
        rw [List.drop_eq_getElem_cons hjL, gathL_append, gathL, hx, List.length_append, List.length_append] at h1
        have : (allP x).length = (gath ownP x).length := rfl
        rw [List.length_append]
        omega
      unfold Big at hsum
      have LB1 : Hid ((ow ++ gathL ownP (ar.take j)).length + (allP x).length ≤ maxLen) := by show _ ≤ maxLen; unfold maxLen; omega
      have LB2 : Hid (((ow ++ gathL ownP (ar.take j)).length + (allP x).length) * 8 ≤ 140737488355328) := by show _ ≤ 140737488355328; omega
      obtain ⟨no, hno⟩ : ∃ n, (ow ++ gathL ownP (ar.take j)).length = n := ⟨_, rfl⟩
      have HNO := Lib.hid hno
      rw [hno] at LB1 LB2 O3 ⊢
      clear hx hxm hs2 hc2 hlt hl2 hm hbb hsum hno
      go_wp2_with fail
      refine HLI.out.mono ?_
      rintro e W4 ⟨vo, rfl, r1, b1⟩
      obtain ⟨Ao, co, rfl, hr2, hn2⟩ := rowI_cells r1
      have O4 := Lib.hid (own_below O3.out b1)
      have B4 := Lib.hid (B3.out.trans (b1.mono B3.out.size))
      have I4 := Lib.hid (I3.out.below b1 I3.out.lt)
      have S4 : Hid (N + 1 ≤ W4.heap.size) := Nat.le_trans S3.out b1.size
      have R4 := Lib.hid hr2
      have HN4 := Lib.hid hn2
      clear r1 b1 hr2 hn2 HLI O3 B3 S3 I3 x0 x1 x2 x3 x4 x5 c5
      go_wp2_with (at_builtin; refine wpList_append_row rfl (.tmp 16) (.tmp 22) 22 rfl (N + 1) 3 i0 (.int .i64 0) 1 8 Tryd.underlying22 HI.out hz0 hz1 hz2 rfl (by decide) _ no (intsC (ow ++ gathL ownP (ar.take j))) rfl O4.out Ao (allP x).length co HN4.out (intsC (allP x)) rfl (by rw [intsC_length, Nat.mul_one]) R4.out (intsC_one _) LB1.out LB2.out S4.out ?_)
      intro v5 w5 ho5 hg5
      have HR : Hid (w5.ownsRow (N + 1) 3 1 v5 (ow ++ gathL ownP (ar.take (j + 1))).length (intsC (ow ++ gathL ownP (ar.take (j + 1)))) ∧ Below w.heap.size w w5 ∧ N + 1 ≤ w5.heap.size ∧ Is w5 N 25 #[.int .i64 k, .string nm, .bool u, .int .i64 r, .slice R lr cr, .slice (some ⟨bk, o', none⟩) la ca]) := by
        refine ⟨?_, below_own B4.out O4.out (by rw [HN.out]; omega) B4.out.size hg5, Nat.le_trans S4.out hg5.size, I4.out.grown hg5 (fun e => own_ne O4.out I4.out (by decide) e.symm)⟩
        rw [HT.out, List.length_append (bs := allP x), intsC_append _ (allP x), HNO.out]
        exact ho5
      clear ho5 hg5 O4 B4 S4 R4 HN4 HT I4
      go_wp2
      go_roundw
      case rel => exact ⟨j + 1, by omega, by go_num, HR⟩
      case measure => simp [intOf]; omega
    · have hje : j = la := by omega
      have HR : Hid (RowI wr (.slice ao (ow ++ gathL ownP (ar.take j)).length cp) (ow ++ gathL ownP ar)) := by
        have := (rowI_own O3.out).1
        rw [List.take_of_length_le (by rw [HLA.out]; omega)] at this ⊢
        exact this
      clear O3
      go_wp2
      go_ret
      exact ⟨_, rfl, HR.out, by rw [← HN.out]; exact B3.out⟩
theorem rall_any : ∀ n, RAllOk n
  | 0 => fun _ _ _ h _ => h.elim
  | n + 1 => rall_step n (Lib.hid (rall_any n))
end Ts
end Go.Proofs.YtiljpnghahkjhaaDoor

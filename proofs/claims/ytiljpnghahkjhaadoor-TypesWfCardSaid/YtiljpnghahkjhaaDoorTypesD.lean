/- Layer 7: All, partRegions; the reference's All. -/
import Derived.Test.YtiljpnghahkjhaaDoorTypesC
namespace Go.Proofs.YtiljpnghahkjhaaDoor
open Go.RowKit Go.Deep Tr
namespace Ts
/-- The row that a call made. -/
def New (s : Nat) (v : Value) : Prop := ∀ g, v.ownBlock = some g → s ≤ g
theorem below_kp {te : TypeId} {c : Option Nat} {B : Nat} {W W1 : World} (h : Kp te c B W W1) : ∀ {A : Nat} {w0 : World}, Below A w0 W → A ≤ B → A ≤ W.heap.size → (∀ k, c = some k → A ≤ k) → Below A w0 W1 := fun hb hA hs hc => h.below hb hA hs hc
set_option maxHeartbeats 4000000 in
set_option maxRecDepth 100000 in
theorem all_any {n : Nat} {x : Ty} {cs : List Value} {w : World} (h : TyAt w n x cs) (hb : (allP x).length ≤ Big) : Calls Tryd.prog 26 #[.agg cs.toArray] w fun e w' => ∃ v, e = .returned v ∧ RowI w' v (allP x) ∧ Below w.heap.size w w' ∧ New w.heap.size v := by
  obtain ⟨k, nm, u, r, R, lr, cr, A, la, ca, rfl⟩ := h.shape
  obtain ⟨o1, ho1⟩ : ∃ o, Obj.cells #[.int .i64 k, .string nm, .bool u, .int .i64 r, .slice R lr cr, .slice A la ca] 25 = o := ⟨_, rfl⟩
  have hN : (w.alloc o1).heap.size = w.heap.size + 1 := by simp
  have iC := Is.made (w.alloc o1) 22 #[.slice none 0 0]
  rw [hN] at iC
  have hN2 : ((w.alloc o1).alloc (.cells #[.slice none 0 0] 22)).heap.size = w.heap.size + 1 + 1 := by simp
  have hA : Acc 22 3 1 ((w.alloc o1).alloc (.cells #[.slice none 0 0] 22)) (w.heap.size + 1) (w.heap.size + 1 + 1) (.slice none 0 0) ([] : List Int).length (intsC []) :=
    ⟨iC, World.ownsRow_nil _ _ _ _, by omega, by rw [hN2]; exact Nat.le_refl _, by decide⟩
  have hB : Below w.heap.size w ((w.alloc o1).alloc (.cells #[.slice none 0 0] 22)) := ((Below.refl _ w).alloc (Nat.le_refl _) o1).alloc (by omega) _
  have hE := eachAll_any (w.heap.size + 1) (w.heap.size + 1 + 1) (fun _ _ _ _ => trivial) (fun n => seeAll_any _ _ n) n x _ w _ _ [] h hB (by omega) hA trivial (by rw [List.length_nil, Nat.zero_add]; exact hb)
  rw [List.nil_append] at hE
  have HE := Lib.hid hE
  have HB := Lib.hid hB
  have HO1 := Lib.hid ho1
  have S2 := Lib.hid hN2
  clear h hb hN iC hN2 hA hB hE ho1
  go_enter Tryd.func26, Tryd.ntmps26
  go_wp2_with fail
  rw [HO1.out]
  refine HE.out.mono ?_
  rintro e W1 ⟨rfl, v', q1, q2⟩
  have c0 := q1.cell.at_ 0
  simp only [List.getElem?_toArray, List.getElem?_cons_zero] at c0
  have HR : Hid (RowI W1 v' (allP x)) := (rowI_own q1.own).1
  have HNW : Hid (New w.heap.size v') := fun g hg => by have := (q1.own.lt g hg).1; omega
  have HB1 : Hid (Below w.heap.size w W1) := q2.below HB.out (by omega) HB.out.size (fun k e => by injection e with e; omega)
  clear q1 q2 HE
  go_wp2
  go_ret
  exact ⟨_, rfl, HR.out, HB1.out, HNW.out⟩
set_option maxHeartbeats 8000000 in
set_option maxRecDepth 100000 in
theorem parts_any {n : Nat} {x : Ty} {cs : List Value} {w : World} (h : TyAt w n x cs) (hb : (partsP x).length ≤ Big) : Calls Tryd.prog 44 #[.agg cs.toArray] w fun e w' => ∃ v, e = .returned v ∧ RowI w' v (partsP x) ∧ Below w.heap.size w w' ∧ New w.heap.size v := by
  cases n with
  | zero => exact h.elim
  | succ n =>
  obtain ⟨k, nm, u, r, rs, ar⟩ := x
  obtain ⟨R, cr, A, ca, rfl, ⟨h0, h1⟩, h2⟩ := h
  obtain ⟨i0, hi0, hz0, hz1, hz2⟩ := info_parts info_int
  have HI := Lib.hid hi0
  obtain ⟨lr, hlr⟩ : ∃ n, rs.length = n := ⟨_, rfl⟩
  obtain ⟨la, hla⟩ : ∃ n, ar.length = n := ⟨_, rfl⟩
  have ha := h2.le
  unfold maxLen at ha
  rw [hla] at ha
  have HLA := Lib.hid hla
  have H2 := Lib.hid h2
  rw [hlr, hla]
  have hb' : (gathL ownP ar).length ≤ Big := hb
  have HB := Lib.hid hb'
  rw [show partsP (.mk k nm u r rs ar) = gathL ownP ar from rfl]
  obtain ⟨o1, ho1⟩ : ∃ o, Obj.cells #[.int .i64 k, .string nm, .bool u, .int .i64 r, .slice R lr cr, .slice A la ca] 25 = o := ⟨_, rfl⟩
  have I1 : Is (w.alloc o1) w.heap.size 25 #[.int .i64 k, .string nm, .bool u, .int .i64 r, .slice R lr cr, .slice A la ca] := by rw [← ho1]; exact Is.made w _ _
  have hb0 : Below w.heap.size w (w.alloc o1) := (Below.refl _ w).alloc (Nat.le_refl _) o1
  have hs1 : w.heap.size + 1 ≤ (w.alloc o1).heap.size := by simp
  obtain ⟨W1, hW1⟩ : ∃ x, w.alloc o1 = x := ⟨_, rfl⟩
  have hWW : Hid (w.alloc (.cells #[.int .i64 k, .string nm, .bool u, .int .i64 r, .slice R lr cr, .slice A la ca] 25) = W1) := by rw [← hW1, ← ho1]; exact rfl
  rw [hW1] at I1 hb0 hs1
  have c5 := I1.at_ 5
  simp only [List.getElem?_toArray, List.getElem?_cons_zero, List.getElem?_cons_succ] at c5
  have B1 := Lib.hid hb0
  have S1 := Lib.hid hs1
  have c5' : ∀ o : Obj, True := fun _ => trivial
  obtain ⟨N, hN⟩ : ∃ N, w.heap.size = N := ⟨_, rfl⟩
  rw [hN] at c5 B1 S1 ⊢
  have HN := Lib.hid hN
  clear h0 h1 h2 hlr hla hb hb' ho1 hW1 hb0 hs1 I1 hi0 c5' hN
  go_enter Tryd.func44, Tryd.ntmps44
  have cx : (w.alloc (.cells #[.int .i64 k, .string nm, .bool u, .int .i64 r, .slice R lr cr, .slice A la ca] 25)).cell? ⟨w.heap.size, 5, none⟩ = some (.slice A la ca) := by rw [hWW.out, HN.out]; exact c5
  go_wp2
  rw [hWW.out, HN.out]
  clear cx c5
  go_loopw [3, 9] (fun v i wr => ∃ j : Nat, j ≤ la ∧ i = .int .i64 j ∧ Hid (wr.ownsRow (N + 1) 3 1 v (gathL ownP (ar.take j)).length (intsC (gathL ownP (ar.take j))) ∧ Below N w wr ∧ N + 1 ≤ wr.heap.size)) (fun _ i _ => la - (intOf i).toNat)
  case atStart => exact ⟨0, Nat.zero_le _, rfl, World.ownsRow_nil _ _ _ _, B1.out, S1.out⟩
  case round =>
    obtain ⟨j, hj, rfl, HQ⟩ := hrel
    obtain ⟨q1, q2, q3⟩ := HQ.out
    obtain ⟨ao, cp, rfl, _⟩ := own_slice q1
    have O3 := Lib.hid q1
    have B3 : Hid (Below w.heap.size w wr) := by rw [HN.out]; exact q2
    have S3 := Lib.hid q3
    clear HQ q1 q2 q3
    by_cases hjl : j < la
    · have hjL : j < ar.length := by rw [HLA.out]; exact hjl
      obtain ⟨bk, o', cs2, rfl, hlt, hl2, hs2, hc2⟩ := H2.out.get (by decide) hjL
      obtain ⟨x, hx⟩ : ∃ x, ar[j] = x := ⟨_, rfl⟩
      rw [hx] at hs2
      have hxm : x ∈ ar := by rw [← hx]; exact List.getElem_mem _
      obtain ⟨k0, nm0, u0, r0, R0, lr0, cr0, A0, la0, ca0, rfl⟩ := hs2.shape
      have x0 := (B3.out.cell (p := ⟨bk, o' + j * 6 + 0, none⟩) hlt).trans (hc2 0 _ rfl)
      rw [Nat.add_zero] at x0
      have x1 := (B3.out.cell (p := ⟨bk, o' + j * 6 + 1, none⟩) hlt).trans (hc2 1 _ rfl)
      have x2 := (B3.out.cell (p := ⟨bk, o' + j * 6 + 2, none⟩) hlt).trans (hc2 2 _ rfl)
      have x3 := (B3.out.cell (p := ⟨bk, o' + j * 6 + 3, none⟩) hlt).trans (hc2 3 _ rfl)
      have x4 := (B3.out.cell (p := ⟨bk, o' + j * 6 + 4, none⟩) hlt).trans (hc2 4 _ rfl)
      have x5 := (B3.out.cell (p := ⟨bk, o' + j * 6 + 5, none⟩) hlt).trans (hc2 5 _ rfl)
      obtain ⟨oN, hoN⟩ : ∃ o', (Obj.cells #[.int .i64 k0, .string nm0, .bool u0, .int .i64 r0, .slice R0 lr0 cr0, .slice A0 la0 ca0] 25) = o' := ⟨_, rfl⟩
      have ON := Lib.hid (O3.out.alloc oN)
      have BN := Lib.hid (B3.out.alloc B3.out.size oN)
      have SN : Hid (N + 1 ≤ (wr.alloc oN).heap.size) := Nat.le_trans S3.out (by simp)
      have hm := gathL_mem ownP hxm
      have hbb := HB.out
      have HLI := Lib.hid (all_any (w := wr.alloc oN) (TyAt.below BN.out n _ _ hs2) (show (gath ownP x).length ≤ Big by omega))
      have HT : Hid (gathL ownP (ar.take (j + 1)) = gathL ownP (ar.take j) ++ allP x) := by
        show _ = _
        rw [List.take_succ_eq_append_getElem hjL, gathL_append, hx, gathL, gathL, List.append_nil]
        rfl
      have hsum : (gathL ownP (ar.take j)).length + (allP x).length ≤ Big := by
        have h1 : (gathL ownP (ar.take j ++ ar.drop j)).length ≤ Big := by rw [List.take_append_drop]; exact hbb
        rw [List.drop_eq_getElem_cons hjL, gathL_append, gathL, hx, List.length_append, List.length_append] at h1
        have : (allP x).length = (gath ownP x).length := rfl
        omega
      unfold Big at hsum
      have LB1 : Hid ((gathL ownP (ar.take j)).length + (allP x).length ≤ maxLen) := by show _ ≤ maxLen; unfold maxLen; omega
      have LB2 : Hid (((gathL ownP (ar.take j)).length + (allP x).length) * 8 ≤ 140737488355328) := by show _ ≤ 140737488355328; omega
      have HON := Lib.hid hoN
      obtain ⟨no, hno⟩ : ∃ n, (gathL ownP (ar.take j)).length = n := ⟨_, rfl⟩
      have HNO := Lib.hid hno
      rw [hno] at LB1 LB2 ON ⊢
      clear hx hxm hs2 hc2 hlt hl2 hoN hm hbb hsum O3 B3 S3 hno
      go_wp2_with fail
      rw [HON.out]
      refine HLI.out.mono ?_
      rintro e W4 ⟨vo, rfl, r1, b1, _⟩
      obtain ⟨Ao, co, rfl, hr2, hn2⟩ := rowI_cells r1
      have O4 := Lib.hid (own_below ON.out b1)
      have B4 := Lib.hid (BN.out.trans (b1.mono BN.out.size))
      have S4 : Hid (N + 1 ≤ W4.heap.size) := Nat.le_trans SN.out b1.size
      have R4 := Lib.hid hr2
      have HN4 := Lib.hid hn2
      clear r1 b1 hr2 hn2 HLI ON BN SN HON x0 x1 x2 x3 x4 x5
      go_wp2_with (at_builtin; refine wpList_append_row rfl (.tmp 13) (.tmp 15) 22 rfl (N + 1) 3 i0 (.int .i64 0) 1 8 Tryd.underlying22 HI.out hz0 hz1 hz2 rfl (by decide) _ no (intsC (gathL ownP (ar.take j))) rfl O4.out Ao (allP x).length co HN4.out (intsC (allP x)) rfl (by rw [intsC_length, Nat.mul_one]) R4.out (intsC_one _) LB1.out LB2.out S4.out ?_)
      intro v5 w5 ho5 hg5
      have HR : Hid (w5.ownsRow (N + 1) 3 1 v5 (gathL ownP (ar.take (j + 1))).length (intsC (gathL ownP (ar.take (j + 1)))) ∧ Below N w w5 ∧ N + 1 ≤ w5.heap.size) := by
        refine ⟨?_, ?_, Nat.le_trans S4.out hg5.size⟩
        · rw [HT.out, List.length_append, intsC_append, HNO.out]
          exact ho5
        · rw [← HN.out]
          exact below_own B4.out O4.out (by rw [HN.out]; omega) B4.out.size hg5
      clear ho5 hg5 O4 B4 S4 R4 HN4 HT
      go_wp2
      go_roundw
      case rel => exact ⟨j + 1, by omega, by go_num, HR⟩
      case measure => simp [intOf]; omega
    · have hje : j = la := by omega
      have HR : Hid (RowI wr (.slice ao (gathL ownP (ar.take j)).length cp) (gathL ownP ar)) := by
        have := (rowI_own O3.out).1
        rw [List.take_of_length_le (by rw [HLA.out]; omega)] at this ⊢
        exact this
      have HNW : Hid (New w.heap.size (.slice ao (gathL ownP (ar.take j)).length cp)) := fun g hg => by have := (O3.out.lt g hg).1; rw [HN.out]; omega
      clear O3
      go_wp2
      go_ret
      exact ⟨_, rfl, HR.out, by rw [← HN.out]; exact B3.out, by rw [← HN.out]; exact HNW.out⟩
end Ts
end Go.Proofs.YtiljpnghahkjhaaDoor

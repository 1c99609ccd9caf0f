/- Layer 7's reference: which regions must outlive which, with what structs need. -/
import Derived.Test.YtiljpnghahkjhaaDoorRegT
import Derived.Test.YtiljpnghahkjhaaDoorTypesWE
namespace Go.Proofs.YtiljpnghahkjhaaDoor
open Go.RowKit Go.Deep Tr
namespace Ts
/-- While pairs are gathered beside a type that lies in block N. -/
def RQ (w wr : World) (N : Nat) (v : Value) (M : List (Int × Int)) (cs : Array Value) : Prop := wr.ownsRow (N + 1) 46 2 v M.length (pairsC M) ∧ Below w.heap.size w wr ∧ N + 1 ≤ wr.heap.size ∧ Is wr N 25 cs
section
variable {w wr w' : World} {N : Nat} {v v' : Value} {M l : List (Int × Int)} {cs : Array Value}
theorem RQ.below (h : RQ w wr N v M cs) (hb : Below wr.heap.size wr w') : RQ w w' N v M cs := ⟨own_below h.1 hb, h.2.1.trans (hb.mono h.2.1.size), Nat.le_trans h.2.2.1 hb.size, h.2.2.2.below hb h.2.2.2.lt⟩
theorem RQ.drew (h : RQ w wr N v M cs) : RQ w wr.drew N v M cs := ⟨h.1.drew, below_drw h.2.1, h.2.2.1, h.2.2.2.drew⟩
theorem RQ.more (h : RQ w wr N v M cs) (hN : w.heap.size = N) (ho : w'.ownsRow (N + 1) 46 2 v' (M.length + l.length) (pairsC M ++ pairsC l)) (hg : wr.grownBy w' v.ownBlock) : RQ w w' N v' (M ++ l) cs :=
  ⟨by rw [pairsC_append, List.length_append]; exact ho, below_own h.2.1 h.1 (by omega) h.2.1.size hg, Nat.le_trans h.2.2.1 hg.size, h.2.2.2.grown hg (fun e => own_ne h.1 h.2.2.2 (by decide) e.symm)⟩
end
theorem NeedsAt.below {W0 W1 : World} {M : Value} {nd : Nds} (h : NeedsAt W0 M nd) (hb : Below W0.heap.size W0 W1) : NeedsAt W1 M nd := by
  intro w' s hw hs
  obtain ⟨A, c, h1, h2⟩ := h w' s (hb.trans (hw.mono hb.size)) hs
  exact ⟨A, c, h1, h2.below hb fun _ _ _ h => h⟩
theorem ne_of7 {k j : Int} (h : k ≠ j) : (k == j) = false := by rw [beq_eq_false_iff_ne]; exact h
def RWf (nd : Nds) (mo : Option Nat) (n : Nat) : Prop := ∀ (x : Ty) (cs : List Value) (w : World), TyAt w n x cs → (allP x).length ≤ Big → NeedsAt w (.map mo) nd → (wfP nd x).length ≤ Big →
  Calls Tryd.prog 25 #[.agg cs.toArray, .map mo] w fun e w' => ∃ v, e = .returned v ∧ RowPr w' v (wfP nd x) ∧ Below w.heap.size w w'
set_option maxHeartbeats 16000000 in
set_option maxRecDepth 100000 in
theorem rwf_step (nd : Nds) (mo : Option Nat) (n : Nat) (IH : Hid (RWf nd mo n)) : RWf nd mo (n + 1) := by
  rintro ⟨k, nm, u, r, rs, ar⟩ cs w h hal hnd hb
  have HH := Lib.hid h
  have HND := Lib.hid hnd
  have HAL := Lib.hid hal
  obtain ⟨R, cr, A, ca, rfl, ⟨⟨h0, _⟩, h1⟩, h2⟩ := h
  obtain ⟨i0, hi0, hz0, hz1, hz2⟩ := info_parts info_two
  have HI := Lib.hid hi0
  obtain ⟨lr, hlr⟩ : ∃ n, rs.length = n := ⟨_, rfl⟩
  obtain ⟨la, hla⟩ : ∃ n, ar.length = n := ⟨_, rfl⟩
  have ha := h2.le
  unfold maxLen at ha
  rw [hla] at ha
  have HLA := Lib.hid hla
  have H2 := Lib.hid h2
  rw [hlr, hla] at HH ⊢
  obtain ⟨ow, how⟩ : ∃ l, wf1 nd (.mk k nm u r rs ar) = l := ⟨_, rfl⟩
  have hg : wfP nd (.mk k nm u r rs ar) = ow ++ gathL (wf1 nd) ar := by show gath (wf1 nd) _ = _; rw [gath, how]
  rw [hg] at hb ⊢
  have HB := Lib.hid hb
  have HOW := Lib.hid how
  obtain ⟨o1, ho1⟩ : ∃ o, Obj.cells #[.int .i64 k, .string nm, .bool u, .int .i64 r, .slice R lr cr, .slice A la ca] 25 = o := ⟨_, rfl⟩
  have I1 : Is (w.alloc o1) w.heap.size 25 #[.int .i64 k, .string nm, .bool u, .int .i64 r, .slice R lr cr, .slice A la ca] := by rw [← ho1]; exact Is.made w _ _
  have hb0 : Below w.heap.size w (w.alloc o1) := (Below.refl _ w).alloc (Nat.le_refl _) o1
  have hs1 : (w.alloc o1).heap.size = w.heap.size + 1 := by simp
  obtain ⟨W1, hW1⟩ : ∃ x, w.alloc o1 = x := ⟨_, rfl⟩
  have hWW : Hid (w.alloc (.cells #[.int .i64 k, .string nm, .bool u, .int .i64 r, .slice R lr cr, .slice A la ca] 25) = W1) := by rw [← hW1, ← ho1]; exact rfl
  rw [hW1] at I1 hb0 hs1
  obtain ⟨N, hN⟩ : ∃ N, w.heap.size = N := ⟨_, rfl⟩
  have HN := Lib.hid hN
  rw [hN] at I1 hs1
  have Q1 : Hid (RQ w W1 N (.slice none 0 0) [] #[.int .i64 k, .string nm, .bool u, .int .i64 r, .slice R lr cr, .slice A la ca]) := ⟨World.ownsRow_nil _ _ _ _, hb0, by omega, I1⟩
  have n0 := I1.at_ 0
  have n1 := I1.at_ 1
  have n2 := I1.at_ 2
  have n3 := I1.at_ 3
  have n4 := I1.at_ 4
  have n5 := I1.at_ 5
  simp only [List.getElem?_toArray, List.getElem?_cons_zero, List.getElem?_cons_succ] at n0 n1 n2 n3 n4 n5
  have HB1 := Lib.hid hb0
  clear h1 h2 hlr hla hb ho1 hW1 hb0 hs1 hi0 hg how I1 hal hnd
  by_cases h7 : k = 7
  · subst h7
    have hw7 : ow = crossP (gathL ownP ar) [r] := by rw [← HOW.out, wf1, if_pos rfl]
    have HW7 := Lib.hid hw7
    have Q0 : Hid (RQ w W1 N (.slice none 0 0) (crossP (gathL ownP (ar.take 0)) [r]) #[.int .i64 7, .string nm, .bool u, .int .i64 r, .slice R lr cr, .slice A la ca]) := by
      show RQ _ _ _ _ _ _
      rw [List.take_zero, gathL]
      exact Q1.out
    clear Q1 hw7 h0
    go_enter Tryd.func25, Tryd.ntmps25
    go_wp2
    rw [hWW.out]
    clear n0 n1 n2 n3 n4 n5
    go_loopw [5, 6] (fun v i wr => ∃ j : Nat, j ≤ la ∧ i = .int .i64 j ∧ Hid (RQ w wr N v (crossP (gathL ownP (ar.take j)) [r]) #[.int .i64 7, .string nm, .bool u, .int .i64 r, .slice R lr cr, .slice A la ca])) (fun _ i _ => la - (intOf i).toNat)
    case atStart => exact ⟨0, Nat.zero_le _, rfl, Q0⟩
    clear Q0
    case round =>
      obtain ⟨j, hj, rfl, HQ⟩ := hrel
      obtain ⟨ao, cp, rfl, _⟩ := own_slice HQ.out.1
      have c3 := HQ.out.2.2.2.at_ 3
      have c5 := HQ.out.2.2.2.at_ 5
      have c0 := HQ.out.2.2.2.at_ 0
      simp only [List.getElem?_toArray, List.getElem?_cons_zero, List.getElem?_cons_succ] at c0 c3 c5
      by_cases hjl : j < la
      · have hjL : j < ar.length := by rw [HLA.out]; exact hjl
        obtain ⟨bk, o', cs2, rfl, hlt, hl2, hs2, hc2⟩ := H2.out.get (by decide) hjL
        obtain ⟨x, hx⟩ : ∃ x, ar[j] = x := ⟨_, rfl⟩
        rw [hx] at hs2
        have hxm : x ∈ ar := by rw [← hx]; exact List.getElem_mem _
        obtain ⟨k0, nm0, u0, r0, R0, lr0, cr0, A0, la0, ca0, rfl⟩ := hs2.shape
        have x0 := (HQ.out.2.1.cell (p := ⟨bk, o' + j * 6 + 0, none⟩) hlt).trans (hc2 0 _ rfl)
        rw [Nat.add_zero] at x0
        have x1 := (HQ.out.2.1.cell (p := ⟨bk, o' + j * 6 + 1, none⟩) hlt).trans (hc2 1 _ rfl)
        have x2 := (HQ.out.2.1.cell (p := ⟨bk, o' + j * 6 + 2, none⟩) hlt).trans (hc2 2 _ rfl)
        have x3 := (HQ.out.2.1.cell (p := ⟨bk, o' + j * 6 + 3, none⟩) hlt).trans (hc2 3 _ rfl)
        have x4 := (HQ.out.2.1.cell (p := ⟨bk, o' + j * 6 + 4, none⟩) hlt).trans (hc2 4 _ rfl)
        have x5 := (HQ.out.2.1.cell (p := ⟨bk, o' + j * 6 + 5, none⟩) hlt).trans (hc2 5 _ rfl)
        have hlb : bk < wr.drew.heap.size := Nat.lt_of_lt_of_le hlt HQ.out.2.1.size
        have KX : Hid (∀ X, Below wr.drew.heap.size wr.drew X → X.cell? ⟨N, 3, none⟩ = some (.int .i64 r) ∧ X.cell? ⟨N, 5, none⟩ = some (.slice (some ⟨bk, o', none⟩) la ca) ∧ X.cell? ⟨bk, o' + j * 6, none⟩ = some (.int .i64 k0) ∧ X.cell? ⟨bk, o' + j * 6 + 1, none⟩ = some (.string nm0) ∧ X.cell? ⟨bk, o' + j * 6 + 2, none⟩ = some (.bool u0) ∧ X.cell? ⟨bk, o' + j * 6 + 3, none⟩ = some (.int .i64 r0) ∧ X.cell? ⟨bk, o' + j * 6 + 4, none⟩ = some (.slice R0 lr0 cr0) ∧ X.cell? ⟨bk, o' + j * 6 + 5, none⟩ = some (.slice A0 la0 ca0)) := by
          intro X hX
          have hN' : N < wr.drew.heap.size := HQ.out.2.2.2.lt
          exact ⟨(hX.cell (p := ⟨N, 3, none⟩) hN').trans c3, (hX.cell (p := ⟨N, 5, none⟩) hN').trans c5, (hX.cell (p := ⟨bk, o' + j * 6, none⟩) hlb).trans x0, (hX.cell (p := ⟨bk, o' + j * 6 + 1, none⟩) hlb).trans x1, (hX.cell (p := ⟨bk, o' + j * 6 + 2, none⟩) hlb).trans x2, (hX.cell (p := ⟨bk, o' + j * 6 + 3, none⟩) hlb).trans x3, (hX.cell (p := ⟨bk, o' + j * 6 + 4, none⟩) hlb).trans x4, (hX.cell (p := ⟨bk, o' + j * 6 + 5, none⟩) hlb).trans x5⟩
        have hma := gathL_mem ownP hxm
        have hax : (allP x).length ≤ Big := by
          have h1 := HAL.out
          rw [allP, gath, List.length_append] at h1
          rw [allP]
          omega
        have HLI : Hid (∀ X, Below wr.drew.heap.size wr.drew X → Calls Tryd.prog 13 #[.agg #[.int .i64 k0, .string nm0, .bool u0, .int .i64 r0, .slice R0 lr0 cr0, .slice A0 la0 ca0]] X fun e w' => ∃ v, e = .returned v ∧ RowI w' v (allP x) ∧ Below X.heap.size X w') := fun X hX => rall_any n x _ X (TyAt.below ((below_drw HQ.out.2.1).trans (hX.mono HQ.out.2.1.size)) n _ _ hs2) hax
        have HT : Hid (crossP (gathL ownP (ar.take (j + 1))) [r] = crossP (gathL ownP (ar.take j)) [r] ++ crossP (allP x) [r]) := by
          show _ = _
          rw [List.take_succ_eq_append_getElem hjL, gathL_append, hx, gathL, gathL, List.append_nil, crossP_append]
          rfl
        have hsum : (crossP (gathL ownP (ar.take j)) [r]).length + (crossP (allP x) [r]).length ≤ Big := by
          have h1 : (gathL ownP (ar.take j ++ ar.drop j)).length ≤ Big := by
            rw [List.take_append_drop]
            have h1 := HAL.out
            rw [allP, gath, List.length_append] at h1
            omega
          rw [List.drop_eq_getElem_cons hjL, gathL_append, gathL, hx, List.length_append, List.length_append] at h1
          have : (allP x).length = (gath ownP x).length := rfl
          rw [crossP_length, crossP_length]
          simp only [List.length_cons, List.length_nil]
          omega
        have LBG : Hid ((crossP (allP x) [r]).length ≤ Big) := by show _ ≤ Big; omega
        unfold Big at hsum
        have LB1 : Hid ((crossP (gathL ownP (ar.take j)) [r]).length + (crossP (allP x) [r]).length ≤ maxLen) := by show _ ≤ maxLen; unfold maxLen; omega
        have LB2 : Hid (((crossP (gathL ownP (ar.take j)) [r]).length + (crossP (allP x) [r]).length) * 16 ≤ 140737488355328) := by show _ ≤ 140737488355328; omega
        obtain ⟨M, hM⟩ : ∃ M, crossP (gathL ownP (ar.take j)) [r] = M := ⟨_, rfl⟩
        rw [hM] at LB1 LB2 HQ HT ⊢
        obtain ⟨no, hno⟩ : ∃ n, M.length = n := ⟨_, rfl⟩
        have HNO := Lib.hid hno
        have QD : Hid (RQ w wr.drew N (.slice ao no cp) M #[.int .i64 7, .string nm, .bool u, .int .i64 r, .slice R lr cr, .slice (some ⟨bk, o', none⟩) la ca]) := by rw [← hno]; exact HQ.out.drew
        rw [hno] at LB1 LB2 ⊢
        have G0 : Hid (Below wr.drew.heap.size wr.drew wr.drew) := .refl _ _
        clear hx hxm hs2 hc2 hlt hl2 hsum hno hma hax HQ hM hlb c0
        go_wp2_with fail
        refine wp_region_T 11 (fun w' => w'.cell? ⟨N, 3, none⟩ = some (.int .i64 r) ∧ w'.cell? ⟨N, 5, none⟩ = some (.slice (some ⟨bk, o', none⟩) la ca) ∧ w'.cell? ⟨bk, o' + j * 6, none⟩ = some (.int .i64 k0) ∧ w'.cell? ⟨bk, o' + j * 6 + 1, none⟩ = some (.string nm0) ∧ w'.cell? ⟨bk, o' + j * 6 + 2, none⟩ = some (.bool u0) ∧ w'.cell? ⟨bk, o' + j * 6 + 3, none⟩ = some (.int .i64 r0) ∧ w'.cell? ⟨bk, o' + j * 6 + 4, none⟩ = some (.slice R0 lr0 cr0) ∧ w'.cell? ⟨bk, o' + j * 6 + 5, none⟩ = some (.slice A0 la0 ca0)) (by kernel_rfl) (KX.out _ G0.out) (fun hHeld => ?_)
        clear c3 c5 x0 x1 x2 x3 x4 x5
        refine wpAnyT_take (i := 0) (v := (.slice ao no cp)) rfl (by kernel_rfl) (by kernel_rfl) (by kernel_rfl) (by kernel_rfl) (by kernel_rfl) (fun _ _ _ h => h) (Or.inl ⟨by rfl, ?_⟩) (by assumption) ?_
        · intro w hSw
          go_simp
        try simp only [Act.put, List.setIfInBounds_toArray]
        refine wpAnyT_take (i := 1) (v := (.pointer (some ⟨N, 5, none⟩))) rfl (by kernel_rfl) (by kernel_rfl) (by kernel_rfl) (by kernel_rfl) (by kernel_rfl) (fun _ _ _ h => h) (Or.inl ⟨by rfl, ?_⟩) (by assumption) ?_
        · intro w hSw
          go_simp
        try simp only [Act.put]
        refine wpAnyT_take (i := 2) (v := (.slice (some ⟨bk, o', none⟩) la ca)) rfl (by kernel_rfl) (by kernel_rfl) (by kernel_rfl) (by kernel_rfl) (by kernel_rfl) (fun _ _ _ h => h) (Or.inl ⟨by rfl, ?_⟩) (by assumption) ?_
        · intro w hSw
          go_simp
        try simp only [Act.put]
        refine wpAnyT_take (i := 3) (v := (.int .i64 j)) rfl (by kernel_rfl) (by kernel_rfl) (by kernel_rfl) (by kernel_rfl) (by kernel_rfl) (fun _ _ _ h => h) (Or.inl ⟨by rfl, ?_⟩) (by assumption) ?_
        · intro w hSw
          go_simp
        try simp only [Act.put]
        refine wpAnyT_take (i := 4) (v := (.pointer (some ⟨bk, o' + j * 6, none⟩))) rfl (by kernel_rfl) (by kernel_rfl) (by kernel_rfl) (by kernel_rfl) (by kernel_rfl) (fun _ _ _ h => h) (Or.inl ⟨by rfl, ?_⟩) (by assumption) ?_
        · intro w hSw
          go_simp
        try simp only [Act.put]
        refine wpAnyT_take (i := 5) (v := (.agg #[.int .i64 k0, .string nm0, .bool u0, .int .i64 r0, .slice R0 lr0 cr0, .slice A0 la0 ca0])) rfl (by kernel_rfl) (by kernel_rfl) (by kernel_rfl) (by kernel_rfl) (by kernel_rfl) (fun _ _ _ h => h) (Or.inl ⟨by rfl, ?_⟩) (by assumption) ?_
        · intro w hSw
          go_simp
        try simp only [Act.put]
        refine wpAnyT_take (i := 7) (v := (.pointer (some ⟨N, 3, none⟩))) rfl (by kernel_rfl) (by kernel_rfl) (by kernel_rfl) (by kernel_rfl) (by kernel_rfl) (fun _ _ _ h => h) (Or.inl ⟨by rfl, ?_⟩) (by assumption) ?_
        · intro w hSw
          go_simp
        try simp only [Act.put]
        refine wpAnyT_take (i := 8) (v := (.int .i64 r)) rfl (by kernel_rfl) (by kernel_rfl) (by kernel_rfl) (by kernel_rfl) (by kernel_rfl) (fun _ _ _ h => h) (Or.inl ⟨by rfl, ?_⟩) (by assumption) ?_
        · intro w hSw
          go_simp
        try simp only [Act.put]
        clear hHeld
        refine wpAnyT_two (i := 6) (j := 9) (by kernel_rfl) rfl rfl (fun K hK => ?_) (fun K hK => ?_)
        · go_simp
          go_at_call 13
          refine (HLI.out _ G0.out).mono ?_
          rintro e w5 ⟨vw5, rfl, r5, b5⟩
          have Gw5 := Lib.hid (G0.out.trans (b5.mono G0.out.size))
          have RA := Lib.hid r5
          clear r5 b5
          try (go_wp2_with fail)
          refine hK.out _ _ (KX.out _ Gw5.out) (fun hHeld => ?_)
          clear hK K hHeld
          try simp only [Act.put, List.setIfInBounds_toArray, List.set_cons_zero, List.set_cons_succ]
          refine wpAnyT_one (i := 9) (by kernel_rfl) rfl (fun K hK => ?_)
          have RB := Lib.hid (row_one1 w5 _ rfl r)
          have bb : Below w5.heap.size w5 (w5.alloc (.cells #[.int .i64 r] 3)) := (Below.refl _ _).alloc (Nat.le_refl _) _
          have RA := Lib.hid (RA.out.below bb)
          have Gw6 := Lib.hid (Gw5.out.trans (bb.mono Gw5.out.size))
          clear bb
          go_simp
          refine hK.out _ _ (KX.out _ Gw6.out) (fun hHeld => ?_)
          clear hK K
          try simp only [Act.put, List.setIfInBounds_toArray, List.set_cons_zero, List.set_cons_succ]
          clear hHeld
          refine wpAnyT_one (i := 10) (by kernel_rfl) rfl (fun K hK => ?_)
          go_simp
          go_at_call 47
          refine (rcross_any RA.out RB.out LBG.out).mono ?_
          rintro e w7 ⟨v7, rfl, r7, b7⟩
          obtain ⟨A7, c7, rfl, hr7, hn7, _⟩ := r7
          have G7 := Lib.hid (Gw6.out.trans (b7.mono Gw6.out.size))
          have Q7 := Lib.hid (QD.out.below G7.out)
          have R7 := Lib.hid hr7
          have N7 := Lib.hid hn7
          have O7 : Hid (w7.ownsRow (N + 1) 46 2 (.slice ao no cp) no (pairsC M)) := by have := Q7.out.1; rw [HNO.out] at this; exact this
          clear b7 hr7 hn7
          try (go_wp2_with fail)
          refine hK.out _ _ (KX.out _ G7.out) (fun hHeld => ?_)
          clear hK K hHeld
          try simp only [Act.put, List.setIfInBounds_toArray, List.set_cons_zero, List.set_cons_succ]
          refine wpAnyT_late (i := 11) (by kernel_rfl) rfl (by decide) (fun K hK => ?_)
          refine step_append_row (by rfl) (.tmp 20) (.tmp 30) 40 (by rfl) (N + 1) 46 i0 (.agg #[.int .i64 0, .int .i64 0]) 2 16 Tryd.underlying40 HI.out hz0 hz1 hz2 rfl (by decide) (.slice ao no cp) no (pairsC M) (by rfl) O7.out A7 (crossP (allP x) [r]).length c7 N7.out (pairsC (crossP (allP x) [r])) (by rfl) (by rw [pairsC_length]) R7.out (pairsC_one _) LB1.out LB2.out Q7.out.2.2.1 ?_
          intro v8 w8 ho8 hg8
          refine hK.out _ _ ?_
          clear hK K
          try simp only [Act.put, List.setIfInBounds_toArray]
          refine wpAnyT_late (i := 12) (by kernel_rfl) rfl (by decide) (fun K hK => ?_)
          go_simp
          refine hK.out _ _ ?_
          clear hK K
          try simp only [Act.put, List.setIfInBounds_toArray, List.set_cons_zero, List.set_cons_succ]
          refine wpAnyT_done (by kernel_rfl) ?_ _
          have HR : Hid (RQ w w8 N v8 (crossP (gathL ownP (ar.take (j + 1))) [r]) #[.int .i64 7, .string nm, .bool u, .int .i64 r, .slice R lr cr, .slice (some ⟨bk, o', none⟩) la ca]) := by
            show RQ _ _ _ _ _ _
            rw [HT.out]
            exact Q7.out.more HN.out (by rw [HNO.out]; exact ho8) hg8
          clear ho8 hg8 Q7 O7 R7 N7 G7 RA RB QD KX LB1 LB2 LBG HT
          go_wp2
          go_roundw
          case rel => exact ⟨j + 1, by omega, by go_num, HR⟩
          case measure => simp [intOf]; omega
        · have RB := Lib.hid (row_one1 wr.drew _ rfl r)
          have bb : Below wr.drew.heap.size wr.drew (wr.drew.alloc (.cells #[.int .i64 r] 3)) := (Below.refl _ _).alloc (Nat.le_refl _) _
          have G1 := Lib.hid bb
          clear bb
          go_simp
          refine hK.out _ _ (KX.out _ G1.out) (fun hHeld => ?_)
          clear hK K hHeld
          try simp only [Act.put, List.setIfInBounds_toArray, List.set_cons_zero, List.set_cons_succ]
          refine wpAnyT_one (i := 6) (by kernel_rfl) rfl (fun K hK => ?_)
          go_simp
          go_at_call 13
          refine (HLI.out _ G1.out).mono ?_
          rintro e w6 ⟨vw6, rfl, r5, b5⟩
          have Gw6 := Lib.hid (G1.out.trans (b5.mono G1.out.size))
          have RA := Lib.hid r5
          have RB := Lib.hid (RB.out.below b5)
          clear r5 b5
          try (go_wp2_with fail)
          refine hK.out _ _ (KX.out _ Gw6.out) (fun hHeld => ?_)
          clear hK K
          try simp only [Act.put, List.setIfInBounds_toArray, List.set_cons_zero, List.set_cons_succ]
          clear hHeld
          refine wpAnyT_one (i := 10) (by kernel_rfl) rfl (fun K hK => ?_)
          go_simp
          go_at_call 47
          refine (rcross_any RA.out RB.out LBG.out).mono ?_
          rintro e w7 ⟨v7, rfl, r7, b7⟩
          obtain ⟨A7, c7, rfl, hr7, hn7, _⟩ := r7
          have G7 := Lib.hid (Gw6.out.trans (b7.mono Gw6.out.size))
          have Q7 := Lib.hid (QD.out.below G7.out)
          have R7 := Lib.hid hr7
          have N7 := Lib.hid hn7
          have O7 : Hid (w7.ownsRow (N + 1) 46 2 (.slice ao no cp) no (pairsC M)) := by have := Q7.out.1; rw [HNO.out] at this; exact this
          clear b7 hr7 hn7
          try (go_wp2_with fail)
          refine hK.out _ _ (KX.out _ G7.out) (fun hHeld => ?_)
          clear hK K hHeld
          try simp only [Act.put, List.setIfInBounds_toArray, List.set_cons_zero, List.set_cons_succ]
          refine wpAnyT_late (i := 11) (by kernel_rfl) rfl (by decide) (fun K hK => ?_)
          refine step_append_row (by rfl) (.tmp 20) (.tmp 30) 40 (by rfl) (N + 1) 46 i0 (.agg #[.int .i64 0, .int .i64 0]) 2 16 Tryd.underlying40 HI.out hz0 hz1 hz2 rfl (by decide) (.slice ao no cp) no (pairsC M) (by rfl) O7.out A7 (crossP (allP x) [r]).length c7 N7.out (pairsC (crossP (allP x) [r])) (by rfl) (by rw [pairsC_length]) R7.out (pairsC_one _) LB1.out LB2.out Q7.out.2.2.1 ?_
          intro v8 w8 ho8 hg8
          refine hK.out _ _ ?_
          clear hK K
          try simp only [Act.put, List.setIfInBounds_toArray]
          refine wpAnyT_late (i := 12) (by kernel_rfl) rfl (by decide) (fun K hK => ?_)
          go_simp
          refine hK.out _ _ ?_
          clear hK K
          try simp only [Act.put, List.setIfInBounds_toArray, List.set_cons_zero, List.set_cons_succ]
          refine wpAnyT_done (by kernel_rfl) ?_ _
          have HR : Hid (RQ w w8 N v8 (crossP (gathL ownP (ar.take (j + 1))) [r]) #[.int .i64 7, .string nm, .bool u, .int .i64 r, .slice R lr cr, .slice (some ⟨bk, o', none⟩) la ca]) := by
            show RQ _ _ _ _ _ _
            rw [HT.out]
            exact Q7.out.more HN.out (by rw [HNO.out]; exact ho8) hg8
          clear ho8 hg8 Q7 O7 R7 N7 G7 RA RB QD KX LB1 LB2 LBG HT
          go_wp2
          go_roundw
          case rel => exact ⟨j + 1, by omega, by go_num, HR⟩
          case measure => simp [intOf]; omega
      · obtain rfl : la = j := by omega
        have QT : Hid (RQ w wr N (.slice ao (crossP (gathL ownP (ar.take la)) [r]).length cp) (ow ++ gathL (wf1 nd) (ar.take 0)) #[.int .i64 7, .string nm, .bool u, .int .i64 r, .slice R lr cr, .slice A la ca]) := by
          have := HQ.out
          show RQ _ _ _ _ _ _
          rw [List.take_of_length_le (by rw [HLA.out]; omega)] at this ⊢
          rw [List.take_zero, gathL, List.append_nil, HW7.out]
          exact this
        clear HQ
        go_wp2
        clear c0 c3 c5
        go_loopw [5, 9] (fun v i wr => ∃ j : Nat, j ≤ la ∧ i = .int .i64 j ∧ Hid (RQ w wr N v (ow ++ gathL (wf1 nd) (ar.take j)) #[.int .i64 7, .string nm, .bool u, .int .i64 r, .slice R lr cr, .slice A la ca])) (fun _ i _ => la - (intOf i).toNat)
        case atStart => exact ⟨0, Nat.zero_le _, rfl, QT⟩
        clear QT
        case round =>
          obtain ⟨j, hj, rfl, HQ⟩ := hrel
          obtain ⟨ao, cp, rfl, _⟩ := own_slice HQ.out.1
          have c5 := HQ.out.2.2.2.at_ 5
          simp only [List.getElem?_toArray, List.getElem?_cons_zero, List.getElem?_cons_succ] at c5
          by_cases hjl : j < la
          · have hjL : j < ar.length := by rw [HLA.out]; exact hjl
            obtain ⟨bk, o', cs2, rfl, hlt, hl2, hs2, hc2⟩ := H2.out.get (by decide) hjL
            obtain ⟨x, hx⟩ : ∃ x, ar[j] = x := ⟨_, rfl⟩
            rw [hx] at hs2
            have hxm : x ∈ ar := by rw [← hx]; exact List.getElem_mem _
            obtain ⟨k0, nm0, u0, r0, R0, lr0, cr0, A0, la0, ca0, rfl⟩ := hs2.shape
            have x0 := (HQ.out.2.1.cell (p := ⟨bk, o' + j * 6 + 0, none⟩) hlt).trans (hc2 0 _ rfl)
            rw [Nat.add_zero] at x0
            have x1 := (HQ.out.2.1.cell (p := ⟨bk, o' + j * 6 + 1, none⟩) hlt).trans (hc2 1 _ rfl)
            have x2 := (HQ.out.2.1.cell (p := ⟨bk, o' + j * 6 + 2, none⟩) hlt).trans (hc2 2 _ rfl)
            have x3 := (HQ.out.2.1.cell (p := ⟨bk, o' + j * 6 + 3, none⟩) hlt).trans (hc2 3 _ rfl)
            have x4 := (HQ.out.2.1.cell (p := ⟨bk, o' + j * 6 + 4, none⟩) hlt).trans (hc2 4 _ rfl)
            have x5 := (HQ.out.2.1.cell (p := ⟨bk, o' + j * 6 + 5, none⟩) hlt).trans (hc2 5 _ rfl)
            have hm := gathL_mem (wf1 nd) hxm
            have hma := gathL_mem ownP hxm
            have hbb := HB.out
            rw [List.length_append] at hbb
            have hax : (allP x).length ≤ Big := by
              have h1 := HAL.out
              rw [allP, gath, List.length_append] at h1
              rw [allP]
              omega
            have HLI := Lib.hid (IH.out x _ wr (TyAt.below HQ.out.2.1 n _ _ hs2) hax (HND.out.below HQ.out.2.1) (show (gath (wf1 nd) x).length ≤ Big by omega))
            have HT : Hid (ow ++ gathL (wf1 nd) (ar.take (j + 1)) = (ow ++ gathL (wf1 nd) (ar.take j)) ++ wfP nd x) := by
              show _ = _
              rw [List.take_succ_eq_append_getElem hjL, gathL_append, hx, gathL, gathL, List.append_nil, List.append_assoc]
              rfl
            have hsum : (ow ++ gathL (wf1 nd) (ar.take j)).length + (wfP nd x).length ≤ Big := by
              have h1 : ow.length + (gathL (wf1 nd) (ar.take j ++ ar.drop j)).length ≤ Big := by rw [List.take_append_drop]; exact hbb
              rw [List.drop_eq_getElem_cons hjL, gathL_append, gathL, hx, List.length_append, List.length_append] at h1
              have : (wfP nd x).length = (gath (wf1 nd) x).length := rfl
              rw [List.length_append]
              omega
            unfold Big at hsum
            have LB1 : Hid ((ow ++ gathL (wf1 nd) (ar.take j)).length + (wfP nd x).length ≤ maxLen) := by show _ ≤ maxLen; unfold maxLen; omega
            have LB2 : Hid (((ow ++ gathL (wf1 nd) (ar.take j)).length + (wfP nd x).length) * 16 ≤ 140737488355328) := by show _ ≤ 140737488355328; omega
            obtain ⟨no, hno⟩ : ∃ n, (ow ++ gathL (wf1 nd) (ar.take j)).length = n := ⟨_, rfl⟩
            have HNO := Lib.hid hno
            rw [hno] at LB1 LB2 ⊢
            have O3 : Hid (RQ w wr N (.slice ao no cp) (ow ++ gathL (wf1 nd) (ar.take j)) #[.int .i64 7, .string nm, .bool u, .int .i64 r, .slice R lr cr, .slice (some ⟨bk, o', none⟩) la ca]) := by rw [← hno]; exact HQ.out
            clear hx hxm hs2 hc2 hlt hl2 hm hbb hsum hno hma hax HQ
            go_wp2_with fail
            refine HLI.out.mono ?_
            rintro e W4 ⟨vo, rfl, r1, b1⟩
            obtain ⟨Ao, co, rfl, hr2, hn2, _⟩ := r1
            have O4 := Lib.hid (O3.out.below b1)
            have R4 := Lib.hid hr2
            have HN4 := Lib.hid hn2
            have OR4 : Hid (W4.ownsRow (N + 1) 46 2 (.slice ao no cp) no (pairsC (ow ++ gathL (wf1 nd) (ar.take j)))) := by have := O4.out.1; rw [HNO.out] at this; exact this
            clear b1 hr2 hn2 HLI O3 x0 x1 x2 x3 x4 x5 c5
            go_wp2_with (at_builtin; refine wpList_append_row rfl (.tmp 69) (.tmp 76) 40 rfl (N + 1) 46 i0 (.agg #[.int .i64 0, .int .i64 0]) 2 16 Tryd.underlying40 HI.out hz0 hz1 hz2 rfl (by decide) _ no (pairsC (ow ++ gathL (wf1 nd) (ar.take j))) rfl OR4.out Ao (wfP nd x).length co HN4.out (pairsC (wfP nd x)) rfl (by rw [pairsC_length]) R4.out (pairsC_one _) LB1.out LB2.out O4.out.2.2.1 ?_)
            intro v5 w5 ho5 hg5
            have HR : Hid (RQ w w5 N v5 (ow ++ gathL (wf1 nd) (ar.take (j + 1))) #[.int .i64 7, .string nm, .bool u, .int .i64 r, .slice R lr cr, .slice (some ⟨bk, o', none⟩) la ca]) := by
              show RQ _ _ _ _ _ _
              rw [HT.out]
              exact O4.out.more HN.out (by rw [HNO.out]; exact ho5) hg5
            clear ho5 hg5 O4 OR4 R4 HN4 HT LB1 LB2
            go_wp2
            go_roundw
            case rel => exact ⟨j + 1, by omega, by go_num, HR⟩
            case measure => simp [intOf]; omega
          · have hje : j = la := by omega
            have HR : Hid (RowPr wr (.slice ao (ow ++ gathL (wf1 nd) (ar.take j)).length cp) (ow ++ gathL (wf1 nd) ar)) := by
              have := (rowPr_own HQ.out.1).1
              rw [List.take_of_length_le (by rw [HLA.out]; omega)] at this ⊢
              exact this
            have HF := Lib.hid HQ.out.2.1
            clear HQ
            go_wp2
            go_ret
            exact ⟨_, rfl, HR.out, HF.out⟩
  · by_cases h5 : k = 5
    · subst h5
      obtain ⟨cL, hcL⟩ : ∃ f : Int × Int → List (Int × Int), (fun p => crossP (slotP (.mk 5 nm u r rs ar) p.1) (slotP (.mk 5 nm u r rs ar) p.2)) = f := ⟨_, rfl⟩
      have hw5 : ow = (nd nm).flatMap cL := by rw [← HOW.out, wf1, if_neg h7, if_pos rfl, ← hcL]
      obtain ⟨An, cn, hlk, hln⟩ := HND.out W1 nm HB1.out h0
      have HLN := Lib.hid hln
      have hlnle := hln.le
      unfold maxLen at hlnle
      obtain ⟨nl, hnl⟩ : ∃ l, nd nm = l := ⟨_, rfl⟩
      rw [hnl] at hw5 hlk HLN hlnle
      obtain ⟨ln, hln'⟩ : ∃ n, nl.length = n := ⟨_, rfl⟩
      have HLL := Lib.hid hln'
      rw [hln'] at hlk hlnle
      have HW5 := Lib.hid hw5
      have HCL := Lib.hid hcL
      have hlk' : (Instr.lookup 42 (.map mo) (.string nm) false).run Tryd.prog (w.alloc (.cells #[.int .i64 5, .string nm, .bool u, .int .i64 r, .slice R lr cr, .slice A la ca] 25)) = .ok (.slice An ln cn) (w.alloc (.cells #[.int .i64 5, .string nm, .bool u, .int .i64 r, .slice R lr cr, .slice A la ca] 25)) := by rw [hWW.out]; exact hlk
      have Q0 : Hid (RQ w W1 N (.slice none 0 0) ((nl.take 0).flatMap cL) #[.int .i64 5, .string nm, .bool u, .int .i64 r, .slice R lr cr, .slice A la ca]) := by
        show RQ _ _ _ _ _ _
        rw [List.take_zero, List.flatMap_nil]
        exact Q1.out
      clear Q1 hw5 h0 hcL hln hnl hln' hlk
      go_enter Tryd.func25, Tryd.ntmps25
      go_wp2
      rw [hWW.out]
      clear n0 n1 n2 n3 n4 n5 hlk'
      go_loopw [5, 8] (fun v i wr => ∃ j : Nat, j ≤ ln ∧ i = .int .i64 j ∧ Hid (RQ w wr N v ((nl.take j).flatMap cL) #[.int .i64 5, .string nm, .bool u, .int .i64 r, .slice R lr cr, .slice A la ca])) (fun _ i _ => ln - (intOf i).toNat)
      case atStart => exact ⟨0, Nat.zero_le _, rfl, Q0⟩
      clear Q0
      case round =>
        obtain ⟨j, hj, rfl, HQ⟩ := hrel
        obtain ⟨ao, cp, rfl, _⟩ := own_slice HQ.out.1
        have n0 := HQ.out.2.2.2.at_ 0
        have n1 := HQ.out.2.2.2.at_ 1
        have n2 := HQ.out.2.2.2.at_ 2
        have n3 := HQ.out.2.2.2.at_ 3
        have n4 := HQ.out.2.2.2.at_ 4
        have n5 := HQ.out.2.2.2.at_ 5
        simp only [List.getElem?_toArray, List.getElem?_cons_zero, List.getElem?_cons_succ] at n0 n1 n2 n3 n4 n5
        by_cases hjl : j < ln
        · have hjL : j < nl.length := by rw [HLL.out]; exact hjl
          obtain ⟨bk, o', cs2, rfl, hlt, _, hs2, hc2⟩ := HLN.out.get (by decide) hjL
          obtain ⟨x, y, hxy⟩ : ∃ x y, nl[j] = (x, y) := ⟨_, _, rfl⟩
          rw [hxy] at hs2
          obtain ⟨hs3, hx63, hy63⟩ : cs2 = [.int .i64 x, .int .i64 y] ∧ x ≤ 9223372036854775807 ∧ y ≤ 9223372036854775807 := hs2
          subst hs3
          have hltW : bk < w.heap.size := by have := hlt; omega
          have x0 := (HQ.out.2.1.cell (p := ⟨bk, o' + j * 2 + 0, none⟩) hltW).trans (hc2 0 _ rfl)
          rw [Nat.add_zero] at x0
          have x1 := (HQ.out.2.1.cell (p := ⟨bk, o' + j * 2 + 1, none⟩) hltW).trans (hc2 1 _ rfl)
          have hlb : bk < wr.drew.heap.size := Nat.lt_of_lt_of_le hltW HQ.out.2.1.size
          have KX : Hid (∀ X, Below wr.drew.heap.size wr.drew X → X.cell? ⟨N, 0, none⟩ = some (.int .i64 5) ∧ X.cell? ⟨N, 1, none⟩ = some (.string nm) ∧ X.cell? ⟨N, 2, none⟩ = some (.bool u) ∧ X.cell? ⟨N, 3, none⟩ = some (.int .i64 r) ∧ X.cell? ⟨N, 4, none⟩ = some (.slice R lr cr) ∧ X.cell? ⟨N, 5, none⟩ = some (.slice A la ca) ∧ X.cell? ⟨bk, o' + j * 2, none⟩ = some (.int .i64 x) ∧ X.cell? ⟨bk, o' + j * 2 + 1, none⟩ = some (.int .i64 y)) := by
            intro X hX
            have hN' : N < wr.drew.heap.size := HQ.out.2.2.2.lt
            exact ⟨(hX.cell (p := ⟨N, 0, none⟩) hN').trans n0, (hX.cell (p := ⟨N, 1, none⟩) hN').trans n1, (hX.cell (p := ⟨N, 2, none⟩) hN').trans n2, (hX.cell (p := ⟨N, 3, none⟩) hN').trans n3, (hX.cell (p := ⟨N, 4, none⟩) hN').trans n4, (hX.cell (p := ⟨N, 5, none⟩) hN').trans n5, (hX.cell (p := ⟨bk, o' + j * 2, none⟩) hlb).trans x0, (hX.cell (p := ⟨bk, o' + j * 2 + 1, none⟩) hlb).trans x1⟩
          obtain ⟨l1, hl1⟩ : ∃ l, slotP (.mk 5 nm u r rs ar) x = l := ⟨_, rfl⟩
          obtain ⟨l2, hl2⟩ : ∃ l, slotP (.mk 5 nm u r rs ar) y = l := ⟨_, rfl⟩
          have HS1 : Hid (∀ X, Below wr.drew.heap.size wr.drew X → Calls Tryd.prog 48 #[.agg #[.int .i64 5, .string nm, .bool u, .int .i64 r, .slice R lr cr, .slice A la ca], .int .i64 x] X fun e w' => ∃ v, e = .returned v ∧ RowI w' v l1 ∧ Below X.heap.size X w') := fun X hX => by
            rw [← hl1]
            exact rslot_any (TyAt.below ((below_drw HQ.out.2.1).trans (hX.mono HQ.out.2.1.size)) _ _ _ HH.out) HAL.out x hx63
          have HS2 : Hid (∀ X, Below wr.drew.heap.size wr.drew X → Calls Tryd.prog 48 #[.agg #[.int .i64 5, .string nm, .bool u, .int .i64 r, .slice R lr cr, .slice A la ca], .int .i64 y] X fun e w' => ∃ v, e = .returned v ∧ RowI w' v l2 ∧ Below X.heap.size X w') := fun X hX => by
            rw [← hl2]
            exact rslot_any (TyAt.below ((below_drw HQ.out.2.1).trans (hX.mono HQ.out.2.1.size)) _ _ _ HH.out) HAL.out y hy63
          have HT : Hid ((nl.take (j + 1)).flatMap cL = (nl.take j).flatMap cL ++ crossP l1 l2) := by
            show _ = _
            rw [List.take_succ_eq_append_getElem hjL, List.flatMap_append, List.flatMap_cons, List.flatMap_nil, List.append_nil, hxy, show cL (x, y) = crossP l1 l2 by rw [← HCL.out, ← hl1, ← hl2]]
          have hsum : ((nl.take j).flatMap cL).length + (crossP l1 l2).length ≤ Big := by
            have h1 := HB.out
            rw [List.length_append, HW5.out, ← List.take_append_drop (j + 1) nl, List.flatMap_append, List.length_append, HT.out, List.length_append] at h1
            omega
          have LBG : Hid ((crossP l1 l2).length ≤ Big) := by show _ ≤ Big; omega
          unfold Big at hsum
          have LB1 : Hid (((nl.take j).flatMap cL).length + (crossP l1 l2).length ≤ maxLen) := by show _ ≤ maxLen; unfold maxLen; omega
          have LB2 : Hid ((((nl.take j).flatMap cL).length + (crossP l1 l2).length) * 16 ≤ 140737488355328) := by show _ ≤ 140737488355328; omega
          obtain ⟨M, hM⟩ : ∃ M, (nl.take j).flatMap cL = M := ⟨_, rfl⟩
          rw [hM] at LB1 LB2 HQ HT ⊢
          obtain ⟨no, hno⟩ : ∃ n, M.length = n := ⟨_, rfl⟩
          have HNO := Lib.hid hno
          have QD : Hid (RQ w wr.drew N (.slice ao no cp) M #[.int .i64 5, .string nm, .bool u, .int .i64 r, .slice R lr cr, .slice A la ca]) := by rw [← hno]; exact HQ.out.drew
          rw [hno] at LB1 LB2 ⊢
          have G0 : Hid (Below wr.drew.heap.size wr.drew wr.drew) := .refl _ _
          clear hxy hc2 hlt hltW hsum hno HQ hM hlb hl1 hl2 hx63 hy63
          go_wp2_with fail
          refine wp_region_T 16 (fun w' => w'.cell? ⟨N, 0, none⟩ = some (.int .i64 5) ∧ w'.cell? ⟨N, 1, none⟩ = some (.string nm) ∧ w'.cell? ⟨N, 2, none⟩ = some (.bool u) ∧ w'.cell? ⟨N, 3, none⟩ = some (.int .i64 r) ∧ w'.cell? ⟨N, 4, none⟩ = some (.slice R lr cr) ∧ w'.cell? ⟨N, 5, none⟩ = some (.slice A la ca) ∧ w'.cell? ⟨bk, o' + j * 2, none⟩ = some (.int .i64 x) ∧ w'.cell? ⟨bk, o' + j * 2 + 1, none⟩ = some (.int .i64 y)) (by kernel_rfl) (KX.out _ G0.out) (fun hHeld => ?_)
          clear n0 n1 n2 n3 n4 n5 x0 x1
          refine wpAnyT_take (i := 0) (v := (.slice ao no cp)) rfl (by kernel_rfl) (by kernel_rfl) (by kernel_rfl) (by kernel_rfl) (by kernel_rfl) (fun _ _ _ h => h) (Or.inl ⟨by rfl, ?_⟩) (by assumption) ?_
          · intro w hSw
            go_simp
          try simp only [Act.put, List.setIfInBounds_toArray]
          refine wpAnyT_take (i := 1) (v := (.agg #[.int .i64 5, .string nm, .bool u, .int .i64 r, .slice R lr cr, .slice A la ca])) rfl (by kernel_rfl) (by kernel_rfl) (by kernel_rfl) (by kernel_rfl) (by kernel_rfl) (fun _ _ _ h => h) (Or.inl ⟨by rfl, ?_⟩) (by assumption) ?_
          · intro w hSw
            go_simp
          try simp only [Act.put]
          refine wpAnyT_take (i := 2) (v := (.slice (some ⟨bk, o', none⟩) ln cn)) rfl (by kernel_rfl) (by kernel_rfl) (by kernel_rfl) (by kernel_rfl) (by kernel_rfl) (fun _ _ _ h => h) (Or.inl ⟨by rfl, ?_⟩) (by assumption) ?_
          · intro w hSw
            go_simp
          try simp only [Act.put]
          refine wpAnyT_take (i := 3) (v := (.int .i64 j)) rfl (by kernel_rfl) (by kernel_rfl) (by kernel_rfl) (by kernel_rfl) (by kernel_rfl) (fun _ _ _ h => h) (Or.inl ⟨by rfl, ?_⟩) (by assumption) ?_
          · intro w hSw
            go_simp
          try simp only [Act.put]
          refine wpAnyT_take (i := 4) (v := (.pointer (some ⟨bk, o' + j * 2, none⟩))) rfl (by kernel_rfl) (by kernel_rfl) (by kernel_rfl) (by kernel_rfl) (by kernel_rfl) (fun _ _ _ h => h) (Or.inl ⟨by rfl, ?_⟩) (by assumption) ?_
          · intro w hSw
            go_simp
          try simp only [Act.put]
          refine wpAnyT_take (i := 5) (v := (.pointer (some ⟨bk, o' + j * 2, none⟩))) rfl (by kernel_rfl) (by kernel_rfl) (by kernel_rfl) (by kernel_rfl) (by kernel_rfl) (fun _ _ _ h => h) (Or.inl ⟨by rfl, ?_⟩) (by assumption) ?_
          · intro w hSw
            go_simp
          try simp only [Act.put]
          refine wpAnyT_take (i := 6) (v := (.int .i64 x)) rfl (by kernel_rfl) (by kernel_rfl) (by kernel_rfl) (by kernel_rfl) (by kernel_rfl) (fun _ _ _ h => h) (Or.inl ⟨by rfl, ?_⟩) (by assumption) ?_
          · intro w hSw
            go_simp
          try simp only [Act.put]
          refine wpAnyT_take (i := 8) (v := (.agg #[.int .i64 5, .string nm, .bool u, .int .i64 r, .slice R lr cr, .slice A la ca])) rfl (by kernel_rfl) (by kernel_rfl) (by kernel_rfl) (by kernel_rfl) (by kernel_rfl) (fun _ _ _ h => h) (Or.inl ⟨by rfl, ?_⟩) (by assumption) ?_
          · intro w hSw
            go_simp
          try simp only [Act.put]
          refine wpAnyT_take (i := 9) (v := (.slice (some ⟨bk, o', none⟩) ln cn)) rfl (by kernel_rfl) (by kernel_rfl) (by kernel_rfl) (by kernel_rfl) (by kernel_rfl) (fun _ _ _ h => h) (Or.inl ⟨by rfl, ?_⟩) (by assumption) ?_
          · intro w hSw
            go_simp
          try simp only [Act.put]
          refine wpAnyT_take (i := 10) (v := (.int .i64 j)) rfl (by kernel_rfl) (by kernel_rfl) (by kernel_rfl) (by kernel_rfl) (by kernel_rfl) (fun _ _ _ h => h) (Or.inl ⟨by rfl, ?_⟩) (by assumption) ?_
          · intro w hSw
            go_simp
          try simp only [Act.put]
          refine wpAnyT_take (i := 11) (v := (.pointer (some ⟨bk, o' + j * 2, none⟩))) rfl (by kernel_rfl) (by kernel_rfl) (by kernel_rfl) (by kernel_rfl) (by kernel_rfl) (fun _ _ _ h => h) (Or.inl ⟨by rfl, ?_⟩) (by assumption) ?_
          · intro w hSw
            go_simp
          try simp only [Act.put]
          refine wpAnyT_take (i := 12) (v := (.pointer (some ⟨bk, o' + j * 2 + 1, none⟩))) rfl (by kernel_rfl) (by kernel_rfl) (by kernel_rfl) (by kernel_rfl) (by kernel_rfl) (fun _ _ _ h => h) (Or.inl ⟨by rfl, ?_⟩) (by assumption) ?_
          · intro w hSw
            go_simp
          try simp only [Act.put]
          refine wpAnyT_take (i := 13) (v := (.int .i64 y)) rfl (by kernel_rfl) (by kernel_rfl) (by kernel_rfl) (by kernel_rfl) (by kernel_rfl) (fun _ _ _ h => h) (Or.inl ⟨by rfl, ?_⟩) (by assumption) ?_
          · intro w hSw
            go_simp
          try simp only [Act.put]
          clear hHeld
          refine wpAnyT_one (i := 7) (by kernel_rfl) rfl (fun K hK => ?_)
          go_simp
          go_at_call 48
          refine (HS1.out _ G0.out).mono ?_
          rintro e w5 ⟨v5, rfl, r5, b5⟩
          have G5 := Lib.hid (G0.out.trans (b5.mono G0.out.size))
          have RA := Lib.hid r5
          clear r5 b5
          try (go_wp2_with fail)
          refine hK.out _ _ (KX.out _ G5.out) (fun hHeld => ?_)
          clear hK K hHeld
          try simp only [Act.put, List.setIfInBounds_toArray, List.set_cons_zero, List.set_cons_succ]
          refine wpAnyT_one (i := 14) (by kernel_rfl) rfl (fun K hK => ?_)
          go_simp
          go_at_call 48
          refine (HS2.out _ G5.out).mono ?_
          rintro e w6 ⟨v6, rfl, r6, b6⟩
          have G6 := Lib.hid (G5.out.trans (b6.mono G5.out.size))
          have RB := Lib.hid r6
          have RA := Lib.hid (RA.out.below b6)
          clear r6 b6
          try (go_wp2_with fail)
          refine hK.out _ _ (KX.out _ G6.out) (fun hHeld => ?_)
          clear hK K hHeld
          try simp only [Act.put, List.setIfInBounds_toArray, List.set_cons_zero, List.set_cons_succ]
          refine wpAnyT_one (i := 15) (by kernel_rfl) rfl (fun K hK => ?_)
          go_simp
          go_at_call 47
          refine (rcross_any RA.out RB.out LBG.out).mono ?_
          rintro e w7 ⟨v7, rfl, r7, b7⟩
          obtain ⟨A7, c7, rfl, hr7, hn7, _⟩ := r7
          have G7 := Lib.hid (G6.out.trans (b7.mono G6.out.size))
          have Q7 := Lib.hid (QD.out.below G7.out)
          have R7 := Lib.hid hr7
          have N7 := Lib.hid hn7
          have O7 : Hid (w7.ownsRow (N + 1) 46 2 (.slice ao no cp) no (pairsC M)) := by have := Q7.out.1; rw [HNO.out] at this; exact this
          clear b7 hr7 hn7
          try (go_wp2_with fail)
          refine hK.out _ _ (KX.out _ G7.out) (fun hHeld => ?_)
          clear hK K hHeld
          try simp only [Act.put, List.setIfInBounds_toArray, List.set_cons_zero, List.set_cons_succ]
          refine wpAnyT_late (i := 16) (by kernel_rfl) rfl (by decide) (fun K hK => ?_)
          refine step_append_row (by rfl) (.tmp 45) (.tmp 60) 40 (by rfl) (N + 1) 46 i0 (.agg #[.int .i64 0, .int .i64 0]) 2 16 Tryd.underlying40 HI.out hz0 hz1 hz2 rfl (by decide) (.slice ao no cp) no (pairsC M) (by rfl) O7.out A7 (crossP l1 l2).length c7 N7.out (pairsC (crossP l1 l2)) (by rfl) (by rw [pairsC_length]) R7.out (pairsC_one _) LB1.out LB2.out Q7.out.2.2.1 ?_
          intro v8 w8 ho8 hg8
          refine hK.out _ _ ?_
          clear hK K
          try simp only [Act.put, List.setIfInBounds_toArray]
          refine wpAnyT_late (i := 17) (by kernel_rfl) rfl (by decide) (fun K hK => ?_)
          go_simp
          refine hK.out _ _ ?_
          clear hK K
          try simp only [Act.put, List.setIfInBounds_toArray, List.set_cons_zero, List.set_cons_succ]
          refine wpAnyT_done (by kernel_rfl) ?_ _
          have HR : Hid (RQ w w8 N v8 ((nl.take (j + 1)).flatMap cL) #[.int .i64 5, .string nm, .bool u, .int .i64 r, .slice R lr cr, .slice A la ca]) := by
            show RQ _ _ _ _ _ _
            rw [HT.out]
            exact Q7.out.more HN.out (by rw [HNO.out]; exact ho8) hg8
          clear ho8 hg8 Q7 O7 R7 N7 G7 RA RB QD KX LB1 LB2 LBG HT HS1 HS2
          go_wp2
          go_roundw
          case rel => exact ⟨j + 1, by omega, by go_num, HR⟩
          case measure => simp [intOf]; omega
        · obtain rfl : ln = j := by omega
          have QT : Hid (RQ w wr N (.slice ao ((nl.take ln).flatMap cL).length cp) (ow ++ gathL (wf1 nd) (ar.take 0)) #[.int .i64 5, .string nm, .bool u, .int .i64 r, .slice R lr cr, .slice A la ca]) := by
            have := HQ.out
            show RQ _ _ _ _ _ _
            rw [List.take_of_length_le (by rw [HLL.out]; omega)] at this ⊢
            rw [List.take_zero, gathL, List.append_nil, HW5.out]
            exact this
          clear HQ
          go_wp2
          clear n0 n1 n2 n3 n4 n5
          go_loopw [5, 9] (fun v i wr => ∃ j : Nat, j ≤ la ∧ i = .int .i64 j ∧ Hid (RQ w wr N v (ow ++ gathL (wf1 nd) (ar.take j)) #[.int .i64 5, .string nm, .bool u, .int .i64 r, .slice R lr cr, .slice A la ca])) (fun _ i _ => la - (intOf i).toNat)
          case atStart => exact ⟨0, Nat.zero_le _, rfl, QT⟩
          clear QT
          case round =>
            obtain ⟨j, hj, rfl, HQ⟩ := hrel
            obtain ⟨ao, cp, rfl, _⟩ := own_slice HQ.out.1
            have c5 := HQ.out.2.2.2.at_ 5
            simp only [List.getElem?_toArray, List.getElem?_cons_zero, List.getElem?_cons_succ] at c5
            by_cases hjl : j < la
            · have hjL : j < ar.length := by rw [HLA.out]; exact hjl
              obtain ⟨bk, o', cs2, rfl, hlt, hl2, hs2, hc2⟩ := H2.out.get (by decide) hjL
              obtain ⟨x, hx⟩ : ∃ x, ar[j] = x := ⟨_, rfl⟩
              rw [hx] at hs2
              have hxm : x ∈ ar := by rw [← hx]; exact List.getElem_mem _
              obtain ⟨k0, nm0, u0, r0, R0, lr0, cr0, A0, la0, ca0, rfl⟩ := hs2.shape
              have x0 := (HQ.out.2.1.cell (p := ⟨bk, o' + j * 6 + 0, none⟩) hlt).trans (hc2 0 _ rfl)
              rw [Nat.add_zero] at x0
              have x1 := (HQ.out.2.1.cell (p := ⟨bk, o' + j * 6 + 1, none⟩) hlt).trans (hc2 1 _ rfl)
              have x2 := (HQ.out.2.1.cell (p := ⟨bk, o' + j * 6 + 2, none⟩) hlt).trans (hc2 2 _ rfl)
              have x3 := (HQ.out.2.1.cell (p := ⟨bk, o' + j * 6 + 3, none⟩) hlt).trans (hc2 3 _ rfl)
              have x4 := (HQ.out.2.1.cell (p := ⟨bk, o' + j * 6 + 4, none⟩) hlt).trans (hc2 4 _ rfl)
              have x5 := (HQ.out.2.1.cell (p := ⟨bk, o' + j * 6 + 5, none⟩) hlt).trans (hc2 5 _ rfl)
              have hm := gathL_mem (wf1 nd) hxm
              have hma := gathL_mem ownP hxm
              have hbb := HB.out
              rw [List.length_append] at hbb
              have hax : (allP x).length ≤ Big := by
                have h1 := HAL.out
                rw [allP, gath, List.length_append] at h1
                rw [allP]
                omega
              have HLI := Lib.hid (IH.out x _ wr (TyAt.below HQ.out.2.1 n _ _ hs2) hax (HND.out.below HQ.out.2.1) (show (gath (wf1 nd) x).length ≤ Big by omega))
              have HT : Hid (ow ++ gathL (wf1 nd) (ar.take (j + 1)) = (ow ++ gathL (wf1 nd) (ar.take j)) ++ wfP nd x) := by
                show _ = _
                rw [List.take_succ_eq_append_getElem hjL, gathL_append, hx, gathL, gathL, List.append_nil, List.append_assoc]
                rfl
              have hsum : (ow ++ gathL (wf1 nd) (ar.take j)).length + (wfP nd x).length ≤ Big := by
                have h1 : ow.length + (gathL (wf1 nd) (ar.take j ++ ar.drop j)).length ≤ Big := by rw [List.take_append_drop]; exact hbb
                rw [List.drop_eq_getElem_cons hjL, gathL_append, gathL, hx, List.length_append, List.length_append] at h1
                have : (wfP nd x).length = (gath (wf1 nd) x).length := rfl
                rw [List.length_append]
                omega
              unfold Big at hsum
              have LB1 : Hid ((ow ++ gathL (wf1 nd) (ar.take j)).length + (wfP nd x).length ≤ maxLen) := by show _ ≤ maxLen; unfold maxLen; omega
              have LB2 : Hid (((ow ++ gathL (wf1 nd) (ar.take j)).length + (wfP nd x).length) * 16 ≤ 140737488355328) := by show _ ≤ 140737488355328; omega
              obtain ⟨no, hno⟩ : ∃ n, (ow ++ gathL (wf1 nd) (ar.take j)).length = n := ⟨_, rfl⟩
              have HNO := Lib.hid hno
              rw [hno] at LB1 LB2 ⊢
              have O3 : Hid (RQ w wr N (.slice ao no cp) (ow ++ gathL (wf1 nd) (ar.take j)) #[.int .i64 5, .string nm, .bool u, .int .i64 r, .slice R lr cr, .slice (some ⟨bk, o', none⟩) la ca]) := by rw [← hno]; exact HQ.out
              clear hx hxm hs2 hc2 hlt hl2 hm hbb hsum hno hma hax HQ
              go_wp2_with fail
              refine HLI.out.mono ?_
              rintro e W4 ⟨vo, rfl, r1, b1⟩
              obtain ⟨Ao, co, rfl, hr2, hn2, _⟩ := r1
              have O4 := Lib.hid (O3.out.below b1)
              have R4 := Lib.hid hr2
              have HN4 := Lib.hid hn2
              have OR4 : Hid (W4.ownsRow (N + 1) 46 2 (.slice ao no cp) no (pairsC (ow ++ gathL (wf1 nd) (ar.take j)))) := by have := O4.out.1; rw [HNO.out] at this; exact this
              clear b1 hr2 hn2 HLI O3 x0 x1 x2 x3 x4 x5 c5
              go_wp2_with (at_builtin; refine wpList_append_row rfl (.tmp 69) (.tmp 76) 40 rfl (N + 1) 46 i0 (.agg #[.int .i64 0, .int .i64 0]) 2 16 Tryd.underlying40 HI.out hz0 hz1 hz2 rfl (by decide) _ no (pairsC (ow ++ gathL (wf1 nd) (ar.take j))) rfl OR4.out Ao (wfP nd x).length co HN4.out (pairsC (wfP nd x)) rfl (by rw [pairsC_length]) R4.out (pairsC_one _) LB1.out LB2.out O4.out.2.2.1 ?_)
              intro v5 w5 ho5 hg5
              have HR : Hid (RQ w w5 N v5 (ow ++ gathL (wf1 nd) (ar.take (j + 1))) #[.int .i64 5, .string nm, .bool u, .int .i64 r, .slice R lr cr, .slice (some ⟨bk, o', none⟩) la ca]) := by
                show RQ _ _ _ _ _ _
                rw [HT.out]
                exact O4.out.more HN.out (by rw [HNO.out]; exact ho5) hg5
              clear ho5 hg5 O4 OR4 R4 HN4 HT LB1 LB2
              go_wp2
              go_roundw
              case rel => exact ⟨j + 1, by omega, by go_num, HR⟩
              case measure => simp [intOf]; omega
            · have hje : j = la := by omega
              have HR : Hid (RowPr wr (.slice ao (ow ++ gathL (wf1 nd) (ar.take j)).length cp) (ow ++ gathL (wf1 nd) ar)) := by
                have := (rowPr_own HQ.out.1).1
                rw [List.take_of_length_le (by rw [HLA.out]; omega)] at this ⊢
                exact this
              have HF := Lib.hid HQ.out.2.1
              clear HQ
              go_wp2
              go_ret
              exact ⟨_, rfl, HR.out, HF.out⟩
    · have e7 : (k == 7) = false := ne_of7 h7
      have e5 : (k == 5) = false := ne_of7 h5
      have hw0 : ow = [] := by rw [← HOW.out, wf1, if_neg h7, if_neg h5]
      have QT : Hid (RQ w W1 N (.slice none 0 0) (ow ++ gathL (wf1 nd) (ar.take 0)) #[.int .i64 k, .string nm, .bool u, .int .i64 r, .slice R lr cr, .slice A la ca]) := by
        show RQ _ _ _ _ _ _
        rw [hw0, List.take_zero, gathL]
        exact Q1.out
      clear Q1 hw0 h0
      go_enter Tryd.func25, Tryd.ntmps25
      go_wp2
      rw [hWW.out]
      clear n0 n1 n2 n3 n4 n5
      go_loopw [5, 9] (fun v i wr => ∃ j : Nat, j ≤ la ∧ i = .int .i64 j ∧ Hid (RQ w wr N v (ow ++ gathL (wf1 nd) (ar.take j)) #[.int .i64 k, .string nm, .bool u, .int .i64 r, .slice R lr cr, .slice A la ca])) (fun _ i _ => la - (intOf i).toNat)
      case atStart => exact ⟨0, Nat.zero_le _, rfl, QT⟩
      clear QT
      case round =>
        obtain ⟨j, hj, rfl, HQ⟩ := hrel
        obtain ⟨ao, cp, rfl, _⟩ := own_slice HQ.out.1
        have c5 := HQ.out.2.2.2.at_ 5
        simp only [List.getElem?_toArray, List.getElem?_cons_zero, List.getElem?_cons_succ] at c5
        by_cases hjl : j < la
        · have hjL : j < ar.length := by rw [HLA.out]; exact hjl
          obtain ⟨bk, o', cs2, rfl, hlt, hl2, hs2, hc2⟩ := H2.out.get (by decide) hjL
          obtain ⟨x, hx⟩ : ∃ x, ar[j] = x := ⟨_, rfl⟩
          rw [hx] at hs2
          have hxm : x ∈ ar := by rw [← hx]; exact List.getElem_mem _
          obtain ⟨k0, nm0, u0, r0, R0, lr0, cr0, A0, la0, ca0, rfl⟩ := hs2.shape
          have x0 := (HQ.out.2.1.cell (p := ⟨bk, o' + j * 6 + 0, none⟩) hlt).trans (hc2 0 _ rfl)
          rw [Nat.add_zero] at x0
          have x1 := (HQ.out.2.1.cell (p := ⟨bk, o' + j * 6 + 1, none⟩) hlt).trans (hc2 1 _ rfl)
          have x2 := (HQ.out.2.1.cell (p := ⟨bk, o' + j * 6 + 2, none⟩) hlt).trans (hc2 2 _ rfl)
          have x3 := (HQ.out.2.1.cell (p := ⟨bk, o' + j * 6 + 3, none⟩) hlt).trans (hc2 3 _ rfl)
          have x4 := (HQ.out.2.1.cell (p := ⟨bk, o' + j * 6 + 4, none⟩) hlt).trans (hc2 4 _ rfl)
          have x5 := (HQ.out.2.1.cell (p := ⟨bk, o' + j * 6 + 5, none⟩) hlt).trans (hc2 5 _ rfl)
          have hm := gathL_mem (wf1 nd) hxm
          have hma := gathL_mem ownP hxm
          have hbb := HB.out
          rw [List.length_append] at hbb
          have hax : (allP x).length ≤ Big := by
            have h1 := HAL.out
            rw [allP, gath, List.length_append] at h1
            rw [allP]
            omega
          have HLI := Lib.hid (IH.out x _ wr (TyAt.below HQ.out.2.1 n _ _ hs2) hax (HND.out.below HQ.out.2.1) (show (gath (wf1 nd) x).length ≤ Big by omega))
          have HT : Hid (ow ++ gathL (wf1 nd) (ar.take (j + 1)) = (ow ++ gathL (wf1 nd) (ar.take j)) ++ wfP nd x) := by
            show _ = _
            rw [List.take_succ_eq_append_getElem hjL, gathL_append, hx, gathL, gathL, List.append_nil, List.append_assoc]
            rfl
          have hsum : (ow ++ gathL (wf1 nd) (ar.take j)).length + (wfP nd x).length ≤ Big := by
            have h1 : ow.length + (gathL (wf1 nd) (ar.take j ++ ar.drop j)).length ≤ Big := by rw [List.take_append_drop]; exact hbb
            rw [List.drop_eq_getElem_cons hjL, gathL_append, gathL, hx, List.length_append, List.length_append] at h1
            have : (wfP nd x).length = (gath (wf1 nd) x).length := rfl
            rw [List.length_append]
            omega
          unfold Big at hsum
          have LB1 : Hid ((ow ++ gathL (wf1 nd) (ar.take j)).length + (wfP nd x).length ≤ maxLen) := by show _ ≤ maxLen; unfold maxLen; omega
          have LB2 : Hid (((ow ++ gathL (wf1 nd) (ar.take j)).length + (wfP nd x).length) * 16 ≤ 140737488355328) := by show _ ≤ 140737488355328; omega
          obtain ⟨no, hno⟩ : ∃ n, (ow ++ gathL (wf1 nd) (ar.take j)).length = n := ⟨_, rfl⟩
          have HNO := Lib.hid hno
          rw [hno] at LB1 LB2 ⊢
          have O3 : Hid (RQ w wr N (.slice ao no cp) (ow ++ gathL (wf1 nd) (ar.take j)) #[.int .i64 k, .string nm, .bool u, .int .i64 r, .slice R lr cr, .slice (some ⟨bk, o', none⟩) la ca]) := by rw [← hno]; exact HQ.out
          clear hx hxm hs2 hc2 hlt hl2 hm hbb hsum hno hma hax HQ
          go_wp2_with fail
          refine HLI.out.mono ?_
          rintro e W4 ⟨vo, rfl, r1, b1⟩
          obtain ⟨Ao, co, rfl, hr2, hn2, _⟩ := r1
          have O4 := Lib.hid (O3.out.below b1)
          have R4 := Lib.hid hr2
          have HN4 := Lib.hid hn2
          have OR4 : Hid (W4.ownsRow (N + 1) 46 2 (.slice ao no cp) no (pairsC (ow ++ gathL (wf1 nd) (ar.take j)))) := by have := O4.out.1; rw [HNO.out] at this; exact this
          clear b1 hr2 hn2 HLI O3 x0 x1 x2 x3 x4 x5 c5
          go_wp2_with (at_builtin; refine wpList_append_row rfl (.tmp 69) (.tmp 76) 40 rfl (N + 1) 46 i0 (.agg #[.int .i64 0, .int .i64 0]) 2 16 Tryd.underlying40 HI.out hz0 hz1 hz2 rfl (by decide) _ no (pairsC (ow ++ gathL (wf1 nd) (ar.take j))) rfl OR4.out Ao (wfP nd x).length co HN4.out (pairsC (wfP nd x)) rfl (by rw [pairsC_length]) R4.out (pairsC_one _) LB1.out LB2.out O4.out.2.2.1 ?_)
          intro v5 w5 ho5 hg5
          have HR : Hid (RQ w w5 N v5 (ow ++ gathL (wf1 nd) (ar.take (j + 1))) #[.int .i64 k, .string nm, .bool u, .int .i64 r, .slice R lr cr, .slice (some ⟨bk, o', none⟩) la ca]) := by
            show RQ _ _ _ _ _ _
            rw [HT.out]
            exact O4.out.more HN.out (by rw [HNO.out]; exact ho5) hg5
          clear ho5 hg5 O4 OR4 R4 HN4 HT LB1 LB2
          go_wp2
          go_roundw
          case rel => exact ⟨j + 1, by omega, by go_num, HR⟩
          case measure => simp [intOf]; omega
        · have hje : j = la := by omega
          have HR : Hid (RowPr wr (.slice ao (ow ++ gathL (wf1 nd) (ar.take j)).length cp) (ow ++ gathL (wf1 nd) ar)) := by
            have := (rowPr_own HQ.out.1).1
            rw [List.take_of_length_le (by rw [HLA.out]; omega)] at this ⊢
            exact this
          have HF := Lib.hid HQ.out.2.1
          clear HQ
          go_wp2
          go_ret
          exact ⟨_, rfl, HR.out, HF.out⟩
theorem rwf_any (nd : Nds) (mo : Option Nat) : ∀ n, RWf nd mo n
  | 0 => fun _ _ _ h _ _ _ => h.elim
  | n + 1 => rwf_step nd mo n (Lib.hid (rwf_any nd mo n))
end Ts
end Go.Proofs.YtiljpnghahkjhaaDoor

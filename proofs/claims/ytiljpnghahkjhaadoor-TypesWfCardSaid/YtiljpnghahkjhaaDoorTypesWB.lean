/- Layer 7: which regions must outlive which, with structs' needs: what the closure says. -/
import Derived.Test.YtiljpnghahkjhaaDoorRegT
import Derived.Test.YtiljpnghahkjhaaDoorTypesWA
namespace Go.Proofs.YtiljpnghahkjhaaDoor
open Go.RowKit Go.Deep Tr Mp
namespace Ts
set_option maxHeartbeats 16000000 in
set_option maxRecDepth 100000 in
theorem seeW_any (nd : Nds) (M : Value) (c d B : Nat) (n : Nat) : SeeW nd M c d B n := by
  intro x cs W0 W v L h hal hnd hb hc hA hE hbig
  cases n with
  | zero => exact h.elim
  | succ n =>
  have HH := h
  obtain ⟨k, nm, u, r, rs, ar⟩ := x
  obtain ⟨R, cr, A, ca, rfl, ⟨⟨h0, _⟩, h1⟩, h2⟩ := h
  obtain ⟨lr, hlr⟩ : ∃ n, rs.length = n := ⟨_, rfl⟩
  obtain ⟨la, hla⟩ : ∃ n, ar.length = n := ⟨_, rfl⟩
  rw [hlr, hla] at HH ⊢
  obtain ⟨o1, ho1⟩ : ∃ o, Obj.cells #[.int .i64 k, .string nm, .bool u, .int .i64 r, .slice R lr cr, .slice A la ca] 25 = o := ⟨_, rfl⟩
  have I1 : Is (W.alloc o1) W.heap.size 25 #[.int .i64 k, .string nm, .bool u, .int .i64 r, .slice R lr cr, .slice A la ca] := by rw [← ho1]; exact Is.made W _ _
  have HA0 := hA.alloc o1
  have HB0 := hb.alloc hb.size o1
  have K1 : Hid (Kp 46 (some c) B W (W.alloc o1)) := (Kp.refl _ _ _ W).alloc o1
  have hEd : Is (W.alloc o1) d 42 #[M] := (show Is W d 42 #[M] from hE).alloc o1
  have HND := Lib.hid hnd
  obtain ⟨N, hN⟩ : ∃ N, W.heap.size = N := ⟨_, rfl⟩
  obtain ⟨W1, hW1⟩ : ∃ x, W.alloc o1 = x := ⟨_, rfl⟩
  rw [hW1] at HA0 HB0 K1 I1 hEd
  rw [hN] at I1
  have hcN : c ≠ N := by have := hA.cell.lt; omega
  obtain ⟨ao, cp, rfl, _⟩ := own_slice hA.own
  have hWW : Hid (W.alloc (.cells #[.int .i64 k, .string nm, .bool u, .int .i64 r, .slice R lr cr, .slice A la ca] 25) = W1) := by rw [← hW1, ← ho1]; exact rfl
  have HN := Lib.hid hN
  have hBd : Below W0.heap.size W0 W1.drew := ⟨HB0.os, HB0.tape, HB0.output, HB0.size, HB0.block⟩
  have BD := Lib.hid hBd
  have HHH := Lib.hid HH
  have HA1 := Lib.hid HA0
  have HI1 := Lib.hid I1
  have HAA := Lib.hid hA
  have HC := Lib.hid hc
  have n0 := I1.at_ 0
  have n1 := I1.at_ 1
  have n2 := I1.at_ 2
  have n3 := I1.at_ 3
  have n4 := I1.at_ 4
  have n5 := I1.at_ 5
  simp only [List.getElem?_toArray, List.getElem?_cons_zero, List.getElem?_cons_succ] at n0 n1 n2 n3 n4 n5
  by_cases h7 : k = 7
  · rw [wf1_7 h7] at hbig ⊢
    have c0 := HA0.cell.at_ 0
    have f0 := HA0.cell.free 0
    simp only [List.getElem?_toArray, List.getElem?_cons_zero] at c0
    obtain ⟨pl, hpl⟩ : ∃ l, partsP (.mk k nm u r rs ar) = l := ⟨_, rfl⟩
    obtain ⟨ol, hol⟩ : ∃ l, ownP (.mk k nm u r rs ar) = l := ⟨_, rfl⟩
    rw [hpl, hol] at hbig ⊢
    have hol1 : ol.length = 1 := by rw [← hol, own_7 (by omega) (.inl h7)]; rfl
    have hplb : pl.length ≤ Big := by rw [crossP_length, hol1] at hbig; omega
    have HP : Hid (∀ w', Below W0.heap.size W0 w' → Calls Tryd.prog 44 #[.agg #[.int .i64 k, .string nm, .bool u, .int .i64 r, .slice R lr cr, .slice A la ca]] w' fun e w'' => ∃ v, e = .returned v ∧ RowI w'' v pl ∧ Below w'.heap.size w' w'' ∧ Far W0.heap.size w'.heap.size v) := fun w' g => by
      have := parts_far HHH.out g (by rw [hpl]; exact hplb)
      rw [hpl] at this
      exact this
    have HO : Hid (∀ w', Below W0.heap.size W0 w' → Calls Tryd.prog 45 #[.agg #[.int .i64 k, .string nm, .bool u, .int .i64 r, .slice R lr cr, .slice A la ca]] w' fun e w'' => ∃ v, e = .returned v ∧ RowI w'' v ol ∧ Below w'.heap.size w' w'' ∧ Far W0.heap.size w'.heap.size v) := fun w' g => by
      have := own_far HHH.out g
      rw [hol] at this
      exact this
    have HX : Hid (∀ (w' : World) (va vb : Value), W1.drew.heap.size ≤ w'.heap.size → Below W1.drew.heap.size W1.drew w' → RowI w' va pl → RowI w' vb ol → Far W0.heap.size W1.drew.heap.size va → Far W0.heap.size W1.drew.heap.size vb →
        Calls Tryd.prog 43 #[.slice ao L.length cp, va, vb] w' fun e w'' => ∃ v', e = .returned v' ∧ w''.ownsRow B 46 2 v' (L ++ crossP pl ol).length (pairsC (L ++ crossP pl ol)) ∧ Kp 46 none B w' w'') := fun w' va vb hs hb' ra rb fa fb => by
      have a1 := HA1.out.drew
      have hlo : W0.heap.size ≤ B := Nat.le_trans HC.out (Nat.le_of_lt HA1.out.lt)
      exact cross_any (own_below a1.own hb') (Nat.le_trans a1.le hs) ra rb (far_apart fa a1.own hlo (Nat.le_refl _)) (far_apart fb a1.own hlo (Nat.le_refl _)) hbig
    have BR : Hid (Below W1.drew.heap.size W1.drew W1.drew) := Below.refl _ _
    clear h0 h1 h2 hlr hla HH hb hc hA hE HA0 HB0 I1 ho1 hW1 hN hBd hbig hol1 hplb hEd hpl hol hnd HND
    subst h7
    go_enter Tryd.func42, Tryd.ntmps42
    go_wp2_with fail
    rw [hWW.out, HN.out]
    go_region_law
      (first
        | (go_simp; go_at_call 43; refine (HX.out _ _ _ B5.out.size B5.out RP.out RO.out FP.out FO.out).mono ?_; rintro e w6 ⟨v6, rfl, q1, q2⟩; obtain ⟨a6, cp6, rfl, _⟩ := own_slice q1; have O6 := Lib.hid q1; have K6 : Hid (Kp 46 (some c) B W w6) := (K1.out.drew.trans (.of B5.out)).trans q2.any; have C6 := Lib.hid (q2.is (HA1.out.cell.drew.below B5.out HA1.out.cell.lt) (by decide) (by simp)); have c6 := C6.out.at_ 0; have f6 := C6.out.free 0; clear q1 q2)
        | (go_simp; go_at_call 44; refine (HP.out _ (BD.out.trans (B5.out.mono BD.out.size))).mono ?_; rintro e w5 ⟨vp, rfl, r1, b1, g1⟩; have RO := Lib.hid (RO.out.below b1); have RP := Lib.hid r1; have FP := Lib.hid (far_below g1 B5.out.size); have B5 := Lib.hid (B5.out.trans (b1.mono B5.out.size)); have N5 := HI1.out.drew.below B5.out HI1.out.lt; have m0 := N5.at_ 0; have m1 := N5.at_ 1; have m2 := N5.at_ 2; have m3 := N5.at_ 3; have m4 := N5.at_ 4; have m5 := N5.at_ 5; have d0 := (HA1.out.cell.drew.below B5.out HA1.out.cell.lt).at_ 0; simp only [List.getElem?_toArray, List.getElem?_cons_zero, List.getElem?_cons_succ] at m0 m1 m2 m3 m4 m5 d0; clear r1 b1 g1 N5)
        | (go_simp; go_at_call 45; refine (HO.out _ (BD.out.trans (B5.out.mono BD.out.size))).mono ?_; rintro e w5 ⟨vp, rfl, r1, b1, g1⟩; have RP := Lib.hid (RP.out.below b1); have RO := Lib.hid r1; have FO := Lib.hid (far_below g1 B5.out.size); have B5 := Lib.hid (B5.out.trans (b1.mono B5.out.size)); have N5 := HI1.out.drew.below B5.out HI1.out.lt; have m0 := N5.at_ 0; have m1 := N5.at_ 1; have m2 := N5.at_ 2; have m3 := N5.at_ 3; have m4 := N5.at_ 4; have m5 := N5.at_ 5; have d0 := (HA1.out.cell.drew.below B5.out HA1.out.cell.lt).at_ 0; simp only [List.getElem?_toArray, List.getElem?_cons_zero, List.getElem?_cons_succ] at m0 m1 m2 m3 m4 m5 d0; clear r1 b1 g1 N5)
        | (go_simp; go_at_call 44; refine (HP.out _ BD.out).mono ?_; rintro e w5 ⟨vp, rfl, r1, b1, g1⟩; have RP := Lib.hid r1; have FP := Lib.hid g1; have B5 := Lib.hid b1; have N5 := HI1.out.drew.below b1 HI1.out.lt; have m0 := N5.at_ 0; have m1 := N5.at_ 1; have m2 := N5.at_ 2; have m3 := N5.at_ 3; have m4 := N5.at_ 4; have m5 := N5.at_ 5; have d0 := (HA1.out.cell.drew.below b1 HA1.out.cell.lt).at_ 0; simp only [List.getElem?_toArray, List.getElem?_cons_zero, List.getElem?_cons_succ] at m0 m1 m2 m3 m4 m5 d0; clear r1 b1 g1 N5)
        | (go_simp; go_at_call 45; refine (HO.out _ BD.out).mono ?_; rintro e w5 ⟨vo, rfl, r1, b1, g1⟩; have RO := Lib.hid r1; have FO := Lib.hid g1; have B5 := Lib.hid b1; have N5 := HI1.out.drew.below b1 HI1.out.lt; have m0 := N5.at_ 0; have m1 := N5.at_ 1; have m2 := N5.at_ 2; have m3 := N5.at_ 3; have m4 := N5.at_ 4; have m5 := N5.at_ 5; have d0 := (HA1.out.cell.drew.below b1 HA1.out.cell.lt).at_ 0; simp only [List.getElem?_toArray, List.getElem?_cons_zero, List.getElem?_cons_succ] at m0 m1 m2 m3 m4 m5 d0; clear r1 b1 g1 N5))
    all_goals
      have HD : Hid (∃ v', Acc 40 46 2 (w6.setCell ⟨c, 0, none⟩ (.slice a6 (L.length + (crossP pl ol).length) cp6)) c B v' (L ++ crossP pl ol).length (pairsC (L ++ crossP pl ol)) ∧ Kp 46 (some c) B W (w6.setCell ⟨c, 0, none⟩ (.slice a6 (L.length + (crossP pl ol).length) cp6))) := by
        obtain ⟨d1, d2⟩ := HAA.out.done K6.out C6.out O6.out
        rw [← List.length_append]
        exact ⟨_, d1, d2⟩
      clear O6 K6 C6
      go_wp2
      go_end0
      exact ⟨rfl, HD.out⟩
  · have e7 : (k == 7) = false := by rw [beq_eq_false_iff_ne]; exact h7
    have d0 := hEd.at_ 0
    simp only [List.getElem?_toArray, List.getElem?_cons_zero] at d0
    have hdN : d ≠ N := by have := (show Is W d 42 #[M] from hE).lt; omega
    have yd : (W.alloc (.cells #[.int .i64 k, .string nm, .bool u, .int .i64 r, .slice R lr cr, .slice A la ca] 25)).cell? ⟨d, 0, none⟩ = some M := by rw [hWW.out]; exact d0
    by_cases h5 : k = 5
    · obtain ⟨An, cn, hlk0, hln⟩ := hnd W1 nm HB0 h0
      have hlk : (Instr.lookup 42 M (.string nm) false).run Tryd.prog (W.alloc (.cells #[.int .i64 k, .string nm, .bool u, .int .i64 r, .slice R lr cr, .slice A la ca] 25)) = .ok (.slice An (nd nm).length cn) (W.alloc (.cells #[.int .i64 k, .string nm, .bool u, .int .i64 r, .slice R lr cr, .slice A la ca] 25)) := by rw [hWW.out]; exact hlk0
      have HLN := Lib.hid hln
      have hlnle := hln.le
      unfold maxLen at hlnle
      obtain ⟨cL, hcL⟩ : ∃ f : Int × Int → List (Int × Int), (fun p => crossP (slotP (.mk k nm u r rs ar) p.1) (slotP (.mk k nm u r rs ar) p.2)) = f := ⟨_, rfl⟩
      have hw5 : wf1 nd (.mk k nm u r rs ar) = (nd nm).flatMap cL := by rw [wf1, if_neg h7, if_pos h5, ← hcL]
      rw [hw5] at hbig ⊢
      obtain ⟨nl, hnl⟩ : ∃ l, nd nm = l := ⟨_, rfl⟩
      rw [hnl] at hbig hlk HLN hlnle ⊢
      obtain ⟨ln, hln'⟩ : ∃ n, nl.length = n := ⟨_, rfl⟩
      have HLL := Lib.hid hln'
      rw [hln'] at hlk hlnle
      obtain ⟨X, hX⟩ : ∃ X, L ++ nl.flatMap cL = X := ⟨_, rfl⟩
      have HSL : Hid (∀ (w' : World) (i : Int), Below W0.heap.size W0 w' → i ≤ 9223372036854775807 → Calls Tryd.prog 46 #[.agg #[.int .i64 k, .string nm, .bool u, .int .i64 r, .slice R lr cr, .slice A la ca], .int .i64 i] w' fun e w'' => ∃ v, e = .returned v ∧ RowI w'' v (slotP (.mk k nm u r rs ar) i) ∧ Below w'.heap.size w' w'' ∧ Far W0.heap.size w'.heap.size v) := fun w' i g hi => slot_any HHH.out g hal i hi
      have HCL := Lib.hid hcL
      have HXX := Lib.hid hX
      have HST : Hid (∃ v' M', Acc 40 46 2 W1 c B v' M'.length (pairsC M') ∧ Kp 46 (some c) B W W1 ∧ M' ++ (nl.drop 0).flatMap cL = X ∧ M'.length + ((nl.drop 0).flatMap cL).length ≤ Big ∧ Is W1 N 25 #[.int .i64 k, .string nm, .bool u, .int .i64 r, .slice R lr cr, .slice A la ca] ∧ Below W0.heap.size W0 W1) :=
        ⟨_, L, HA0, K1.out, by rw [List.drop_zero]; exact hX, by rw [List.drop_zero, ← List.length_append, hX]; rw [← hX, List.length_append]; exact hbig, I1, HB0⟩
      rw [hX]
      clear h1 h2 hlr hla HH hb hc hA hE HA0 HB0 I1 ho1 hW1 hN hBd hbig hEd hlk0 hln hcL hw5 hnl hln' hX h7 hnd d0
      subst h5
      go_enter Tryd.func42, Tryd.ntmps42
      go_wp2
      rw [hWW.out, HN.out]
      clear yd hlk n0 n1 n2 n3 n4 n5 h0
      go_loopw [23] (fun i wr => ∃ j : Nat, j ≤ ln ∧ i = .int .i64 j ∧ Hid (∃ v' M', Acc 40 46 2 wr c B v' M'.length (pairsC M') ∧ Kp 46 (some c) B W wr ∧ M' ++ (nl.drop j).flatMap cL = X ∧ M'.length + ((nl.drop j).flatMap cL).length ≤ Big ∧ Is wr N 25 #[.int .i64 5, .string nm, .bool u, .int .i64 r, .slice R lr cr, .slice A la ca] ∧ Below W0.heap.size W0 wr)) (fun i _ => ln - (intOf i).toNat)
      case atStart => exact ⟨0, Nat.zero_le _, rfl, HST.out⟩
      clear HST
      case round =>
        obtain ⟨j, hj, rfl, HQ⟩ := hrel
        obtain ⟨v3, M', q1, q2, q3, q4, q5, q6⟩ := HQ.out
        by_cases hjl : j < ln
        · obtain ⟨bk, o', cs2, rfl, hlt, _, hs2, hc2⟩ := HLN.out.get (by decide) (show j < nl.length by rw [HLL.out]; exact hjl)
          obtain ⟨x, y, hxy⟩ : ∃ x y, nl[j]'(by rw [HLL.out]; exact hjl) = (x, y) := ⟨_, _, rfl⟩
          rw [hxy] at hs2
          obtain ⟨hs3, hx63, hy63⟩ : cs2 = [.int .i64 x, .int .i64 y] ∧ x ≤ 9223372036854775807 ∧ y ≤ 9223372036854775807 := hs2
          subst hs3
          have x0 := (q6.cell (p := ⟨bk, o' + j * 2 + 0, none⟩) hlt).trans (hc2 0 _ rfl)
          rw [Nat.add_zero] at x0
          have x1 := (q6.cell (p := ⟨bk, o' + j * 2 + 1, none⟩) hlt).trans (hc2 1 _ rfl)
          obtain ⟨oP, hoP⟩ : ∃ o, Obj.cells #[.int .i64 x, .int .i64 y] 46 = o := ⟨_, rfl⟩
          obtain ⟨w1, hw1⟩ : ∃ w1, wr.alloc oP = w1 := ⟨_, rfl⟩
          have IP : Is w1 wr.heap.size 46 #[.int .i64 x, .int .i64 y] := by rw [← hw1, ← hoP]; exact Is.made wr _ _
          obtain ⟨PB, hPB⟩ : ∃ p, wr.heap.size = p := ⟨_, rfl⟩
          rw [hPB] at IP
          have A1 := q1.alloc oP
          have N1 := q5.alloc oP
          have b1 := q6.alloc q6.size oP
          have K2 : Kp 46 (some c) B W (wr.alloc oP) := q2.alloc oP
          rw [hw1] at A1 N1 b1 K2
          obtain ⟨a3, cp3, rfl, _⟩ := own_slice q1.own
          have hdr : (nl.drop j).flatMap cL = crossP (slotP (.mk 5 nm u r rs ar) x) (slotP (.mk 5 nm u r rs ar) y) ++ (nl.drop (j + 1)).flatMap cL := by
            rw [List.drop_eq_getElem_cons (by rw [HLL.out]; exact hjl), List.flatMap_cons, hxy, ← HCL.out]
          obtain ⟨l1, hl1⟩ : ∃ l, slotP (.mk 5 nm u r rs ar) x = l := ⟨_, rfl⟩
          obtain ⟨l2, hl2⟩ : ∃ l, slotP (.mk 5 nm u r rs ar) y = l := ⟨_, rfl⟩
          rw [hl1, hl2] at hdr
          have HDR := Lib.hid hdr
          have hbg : M'.length + (crossP l1 l2).length ≤ Big := by
            rw [hdr, List.length_append] at q4
            omega
          have HS1 : Hid (∀ w', Below W0.heap.size W0 w' → Calls Tryd.prog 46 #[.agg #[.int .i64 5, .string nm, .bool u, .int .i64 r, .slice R lr cr, .slice A la ca], .int .i64 x] w' fun e w'' => ∃ v, e = .returned v ∧ RowI w'' v l1 ∧ Below w'.heap.size w' w'' ∧ Far W0.heap.size w'.heap.size v) := fun w' g => by rw [← hl1]; exact HSL.out w' x g hx63
          have HS2 : Hid (∀ w', Below W0.heap.size W0 w' → Calls Tryd.prog 46 #[.agg #[.int .i64 5, .string nm, .bool u, .int .i64 r, .slice R lr cr, .slice A la ca], .int .i64 y] w' fun e w'' => ∃ v, e = .returned v ∧ RowI w'' v l2 ∧ Below w'.heap.size w' w'' ∧ Far W0.heap.size w'.heap.size v) := fun w' g => by rw [← hl2]; exact HSL.out w' y g hy63
          obtain ⟨ml, hml⟩ : ∃ m, M'.length = m := ⟨_, rfl⟩
          have HX : Hid (∀ (w' : World) (va vb : Value), Below w1.drew.heap.size w1.drew w' → RowI w' va l1 → RowI w' vb l2 → Far W0.heap.size w1.drew.heap.size va → Far W0.heap.size w1.drew.heap.size vb →
              Calls Tryd.prog 43 #[.slice a3 ml cp3, va, vb] w' fun e w'' => ∃ v', e = .returned v' ∧ w''.ownsRow B 46 2 v' (M' ++ crossP l1 l2).length (pairsC (M' ++ crossP l1 l2)) ∧ Kp 46 none B w' w'') := fun w' va vb hb' ra rb fa fb => by
            have a1 := A1.drew
            have hlo : W0.heap.size ≤ B := Nat.le_trans HC.out (Nat.le_of_lt A1.lt)
            have := cross_any (own_below a1.own hb') (Nat.le_trans a1.le hb'.size) ra rb (far_apart fa a1.own hlo (Nat.le_refl _)) (far_apart fb a1.own hlo (Nat.le_refl _)) hbg
            rw [← hml]
            exact this
          have c0 := A1.cell.at_ 0
          have n0 := N1.at_ 0
          have n1 := N1.at_ 1
          have n2 := N1.at_ 2
          have n3 := N1.at_ 3
          have n4 := N1.at_ 4
          have n5 := N1.at_ 5
          have p0 := IP.at_ 0
          have p1 := IP.at_ 1
          simp only [List.getElem?_toArray, List.getElem?_cons_zero, List.getElem?_cons_succ] at c0 n0 n1 n2 n3 n4 n5 p0 p1
          rw [hml] at c0
          have HA1 := Lib.hid A1
          have HN1 := Lib.hid N1
          have HP1 := Lib.hid IP
          have HB1 : Hid (Below W0.heap.size W0 w1.drew) := ⟨b1.os, b1.tape, b1.output, b1.size, b1.block⟩
          have HK2 := Lib.hid K2
          have X3 := Lib.hid q3
          have G3 := Lib.hid q4
          have HML := Lib.hid hml
          have HWP : Hid (wr.alloc (.cells #[.int .i64 x, .int .i64 y] 46) = w1) := by rw [← hw1, ← hoP]; exact rfl
          have HPB := Lib.hid hPB
          clear HQ q1 q2 q3 q4 q5 q6 hc2 hlt hoP hw1 IP A1 N1 b1 K2 hdr hbg hl1 hl2 hxy hml hPB
          go_wp2_with fail
          rw [HWP.out, HPB.out]
          refine wp_region_T 9 (fun w' => w'.cell? ⟨c, 0, none⟩ = some (.slice a3 ml cp3) ∧ w'.cell? ⟨N, 0, none⟩ = some (.int .i64 5) ∧ w'.cell? ⟨N, 1, none⟩ = some (.string nm) ∧ w'.cell? ⟨N, 2, none⟩ = some (.bool u) ∧ w'.cell? ⟨N, 3, none⟩ = some (.int .i64 r) ∧ w'.cell? ⟨N, 4, none⟩ = some (.slice R lr cr) ∧ w'.cell? ⟨N, 5, none⟩ = some (.slice A la ca) ∧ w'.cell? ⟨PB, 0, none⟩ = some (.int .i64 x) ∧ w'.cell? ⟨PB, 1, none⟩ = some (.int .i64 y)) (by kernel_rfl) ⟨c0, n0, n1, n2, n3, n4, n5, p0, p1⟩ (fun hHeld => ?_)
          refine wpAnyT_take (i := 0) (v := (.slice a3 ml cp3)) rfl (by kernel_rfl) (by kernel_rfl) (by kernel_rfl) (by kernel_rfl) (by kernel_rfl) (fun _ _ _ h => h) (Or.inl ⟨by rfl, ?_⟩) (by assumption) ?_
          · intro w hSw
            go_simp
          try simp only [Act.put, List.setIfInBounds_toArray]
          refine wpAnyT_take (i := 1) (v := (.agg #[.int .i64 5, .string nm, .bool u, .int .i64 r, .slice R lr cr, .slice A la ca])) rfl (by kernel_rfl) (by kernel_rfl) (by kernel_rfl) (by kernel_rfl) (by kernel_rfl) (fun _ _ _ h => h) (Or.inl ⟨by rfl, ?_⟩) (by assumption) ?_
          · intro w hSw
            go_simp
          try simp only [Act.put]
          refine wpAnyT_take (i := 2) (v := (.pointer (some ⟨PB, 0, none⟩))) rfl (by kernel_rfl) (by kernel_rfl) (by kernel_rfl) (by kernel_rfl) (by kernel_rfl) (fun _ _ _ h => h) (Or.inl ⟨by rfl, ?_⟩) (by assumption) ?_
          · intro w hSw
            go_simp
          try simp only [Act.put]
          refine wpAnyT_take (i := 3) (v := (.int .i64 x)) rfl (by kernel_rfl) (by kernel_rfl) (by kernel_rfl) (by kernel_rfl) (by kernel_rfl) (fun _ _ _ h => h) (Or.inl ⟨by rfl, ?_⟩) (by assumption) ?_
          · intro w hSw
            go_simp
          try simp only [Act.put]
          refine wpAnyT_take (i := 5) (v := (.agg #[.int .i64 5, .string nm, .bool u, .int .i64 r, .slice R lr cr, .slice A la ca])) rfl (by kernel_rfl) (by kernel_rfl) (by kernel_rfl) (by kernel_rfl) (by kernel_rfl) (fun _ _ _ h => h) (Or.inl ⟨by rfl, ?_⟩) (by assumption) ?_
          · intro w hSw
            go_simp
          try simp only [Act.put]
          refine wpAnyT_take (i := 6) (v := (.pointer (some ⟨PB, 1, none⟩))) rfl (by kernel_rfl) (by kernel_rfl) (by kernel_rfl) (by kernel_rfl) (by kernel_rfl) (fun _ _ _ h => h) (Or.inl ⟨by rfl, ?_⟩) (by assumption) ?_
          · intro w hSw
            go_simp
          try simp only [Act.put]
          refine wpAnyT_take (i := 7) (v := (.int .i64 y)) rfl (by kernel_rfl) (by kernel_rfl) (by kernel_rfl) (by kernel_rfl) (by kernel_rfl) (fun _ _ _ h => h) (Or.inl ⟨by rfl, ?_⟩) (by assumption) ?_
          · intro w hSw
            go_simp
          try simp only [Act.put]
          clear hHeld c0 n0 n1 n2 n3 n4 n5 p0 p1
          refine wpAnyT_one (i := 4) (by kernel_rfl) rfl (fun K hK => ?_)
          go_simp
          go_at_call 46
          refine (HS1.out _ HB1.out).mono ?_
          rintro e w5 ⟨v5, rfl, r5, b5, g5⟩
          have R5 := Lib.hid r5
          have F5 := Lib.hid g5
          have B5 := Lib.hid b5
          have N5 := Lib.hid (HN1.out.drew.below b5 HN1.out.lt)
          have P5 := Lib.hid (HP1.out.drew.below b5 HP1.out.lt)
          have C5 := Lib.hid (HA1.out.cell.drew.below b5 HA1.out.cell.lt)
          clear r5 b5 g5
          try (go_wp2_with fail)
          refine hK.out _ _ ?_ (fun hHeld => ?_)
          · exact ⟨by rw [C5.out.at_ 0, ← HML.out]; rfl, N5.out.at_ 0, N5.out.at_ 1, N5.out.at_ 2, N5.out.at_ 3, N5.out.at_ 4, N5.out.at_ 5, P5.out.at_ 0, P5.out.at_ 1⟩
          clear hK K
          try simp only [Act.put, List.setIfInBounds_toArray, List.set_cons_zero, List.set_cons_succ]
          clear hHeld N5 P5 C5
          refine wpAnyT_one (i := 8) (by kernel_rfl) rfl (fun K hK => ?_)
          go_simp
          go_at_call 46
          refine (HS2.out _ (HB1.out.trans (B5.out.mono HB1.out.size))).mono ?_
          rintro e w6 ⟨v6, rfl, r6, b6, g6⟩
          have R7 := Lib.hid (R5.out.below b6)
          have R6 := Lib.hid r6
          have F6 := Lib.hid (far_below g6 B5.out.size)
          have B6 := Lib.hid (B5.out.trans (b6.mono B5.out.size))
          have N6 := Lib.hid (HN1.out.drew.below B6.out HN1.out.lt)
          have P6 := Lib.hid (HP1.out.drew.below B6.out HP1.out.lt)
          have C6 := Lib.hid (HA1.out.cell.drew.below B6.out HA1.out.cell.lt)
          clear r6 b6 g6
          try (go_wp2_with fail)
          refine hK.out _ _ ?_ (fun hHeld => ?_)
          · exact ⟨by rw [C6.out.at_ 0, ← HML.out]; rfl, N6.out.at_ 0, N6.out.at_ 1, N6.out.at_ 2, N6.out.at_ 3, N6.out.at_ 4, N6.out.at_ 5, P6.out.at_ 0, P6.out.at_ 1⟩
          clear hK K
          try simp only [Act.put, List.setIfInBounds_toArray, List.set_cons_zero, List.set_cons_succ]
          clear hHeld P6 C6 R5 B5
          refine wpAnyT_late (i := 9) (by kernel_rfl) rfl (by decide) (fun K hK => ?_)
          go_simp
          go_at_call 43
          refine (HX.out _ _ _ B6.out R7.out R6.out F5.out F6.out).mono ?_
          rintro e w7 ⟨v7, rfl, q1, q2⟩
          obtain ⟨a7, cp7, rfl, _⟩ := own_slice q1
          have O7 := Lib.hid q1
          have K7 : Hid (Kp 46 (some c) B W w7) := (HK2.out.drew.trans (.of B6.out)).trans q2.any
          have C7 := Lib.hid (q2.is (HA1.out.cell.drew.below B6.out HA1.out.cell.lt) (by decide) (by simp))
          have N7 := Lib.hid (q2.is N6.out (by decide) (by simp))
          have K17 : Hid (Kp 46 (some c) B w1 w7) := ((Kp.refl _ _ _ w1).drew.trans (.of B6.out)).trans q2.any
          have B7 : Hid (Below W0.heap.size W0 w7) := q2.below (HB1.out.trans (B6.out.mono HB1.out.size)) (Nat.le_trans HC.out (Nat.le_of_lt HA1.out.lt)) (Nat.le_trans HB1.out.size B6.out.size) (fun k e => by cases e)
          clear q1 q2
          try (go_wp2_with fail)
          refine hK.out _ _ ?_
          clear hK K
          try simp only [Act.put, List.setIfInBounds_toArray, List.set_cons_zero, List.set_cons_succ]
          have c7 := C7.out.at_ 0
          have f7 := C7.out.free 0
          simp only [List.getElem?_toArray, List.getElem?_cons_zero] at c7
          refine wpAnyT_late (i := 10) (by kernel_rfl) rfl (by decide) (fun K hK => ?_)
          go_simp
          refine hK.out _ _ ?_
          clear hK K
          try simp only [Act.put, List.setIfInBounds_toArray, List.set_cons_zero, List.set_cons_succ]
          refine wpAnyT_done (by kernel_rfl) ?_ _
          have HR : Hid (∃ v' M'', Acc 40 46 2 (w7.setCell ⟨c, 0, none⟩ (.slice a7 (M'.length + (crossP l1 l2).length) cp7)) c B v' M''.length (pairsC M'') ∧ Kp 46 (some c) B W (w7.setCell ⟨c, 0, none⟩ (.slice a7 (M'.length + (crossP l1 l2).length) cp7)) ∧ M'' ++ (nl.drop (j + 1)).flatMap cL = X ∧ M''.length + ((nl.drop (j + 1)).flatMap cL).length ≤ Big ∧ Is (w7.setCell ⟨c, 0, none⟩ (.slice a7 (M'.length + (crossP l1 l2).length) cp7)) N 25 #[.int .i64 5, .string nm, .bool u, .int .i64 r, .slice R lr cr, .slice A la ca] ∧ Below W0.heap.size W0 (w7.setCell ⟨c, 0, none⟩ (.slice a7 (M'.length + (crossP l1 l2).length) cp7))) := by
            have C7' : Is w7 c 40 #[.slice a3 M'.length cp3] := C7.out
            obtain ⟨d1, d2⟩ := HA1.out.done K17.out C7' O7.out
            have hx := X3.out
            have hg := G3.out
            rw [HDR.out] at hx hg
            rw [List.length_append] at hg
            rw [← List.length_append]
            exact ⟨_, M' ++ crossP l1 l2, d1, HK2.out.trans d2, by rw [List.append_assoc]; exact hx, by rw [List.length_append]; omega, N7.out.aside (p := ⟨c, 0, none⟩) (Ne.symm hcN) _, B7.out.setCell HC.out _⟩
          clear O7 K7 C7 N7 K17 B7 HX HS1 HS2 HA1 HN1 HP1 HB1 HK2 X3 G3 HDR R6 R7 F5 F6 B6 N6 c7 f7
          go_wp2
          go_roundw
          case rel => exact ⟨j + 1, by omega, by go_num, HR⟩
          case measure => simp [intOf]; omega
        · have hje : j = ln := by omega
          subst hje
          rw [List.drop_of_length_le (by rw [HLL.out]; exact Nat.le_refl _), List.flatMap_nil, List.append_nil] at q3
          subst q3
          have HF : Hid (∃ v', Acc 40 46 2 wr c B v' M'.length (pairsC M') ∧ Kp 46 (some c) B W wr) := ⟨_, q1, q2⟩
          clear HQ q1 q2 q4 q5 q6
          go_wp2
          go_end0
          exact ⟨rfl, HF.out⟩
    · have e5 : (k == 5) = false := by rw [beq_eq_false_iff_ne]; exact h5
      have hw0 : wf1 nd (.mk k nm u r rs ar) = [] := by rw [wf1, if_neg h7, if_neg h5]
      rw [hw0, List.append_nil]
      have HD : Hid (∃ v', Acc 40 46 2 W1 c B v' L.length (pairsC L) ∧ Kp 46 (some c) B W W1) := ⟨_, HA0, K1.out⟩
      clear h0 h1 h2 hlr hla HH hb hc hA hE HA0 HB0 I1 ho1 hW1 hN hBd hbig hEd yd hnd hw0 hal d0
      go_enter Tryd.func42, Tryd.ntmps42
      go_wp2
      rw [hWW.out]
      go_end0
      exact ⟨rfl, HD.out⟩
end Ts
end Go.Proofs.YtiljpnghahkjhaaDoor

/- Layer 10: look. -/
import Derived.Test.YtebnonbfjkielaaSubF
namespace Go.Proofs.Ytebnonbfjkielaa
open Go.RowKit Go.Deep Tr Ts Vy Mp
namespace Sb
theorem boxes2 (w : World) (o0 o1 : Obj) (t0 t1 : Nat) (c0 c1 : Array Value) (h0 : o0 = .cells c0 t0) (h1 : o1 = .cells c1 t1) :
    Is ((w.alloc o0).alloc o1) w.heap.size t0 c0 ∧ Is ((w.alloc o0).alloc o1) (w.heap.size + 1) t1 c1 := by
  subst h0 h1
  refine ⟨(Is.made w _ _).alloc _, ?_⟩
  have := Is.made (w.alloc (.cells c0 t0)) t1 c1
  rwa [show (w.alloc (.cells c0 t0)).heap.size = w.heap.size + 1 by simp] at this
section
variable (Z : Ws) {k : Int} (nm : ByteArray) (u : Bool) (r : Int) (rs : List Int) (ar : List Ty) (k' : Int) (nm' : ByteArray) (u' : Bool) (r' : Int) (rs' : List Int) (ar' : List Ty) (v : Nat)
theorem lookP_5 (h : k = 5) : lookP Z (.mk k nm u r rs ar) (.mk k' nm' u' r' rs' ar') v = regsQ Z nm v 0 rs rs' ++ lookQS Z nm rs.length ar ar' v := by rw [lookP, if_pos h]
theorem lookP_7 (h : k = 7) : lookP Z (.mk k nm u r rs ar) (.mk k' nm' u' r' rs' ar') v = sayP r r' v ++ lookQL Z ar ar' (if u then thr v 3 else v) := by rw [lookP, if_neg (by omega), if_pos h]
theorem lookP_8 (h : k = 8) : lookP Z (.mk k nm u r rs ar) (.mk k' nm' u' r' rs' ar') v = sayP r r' v ++ lookQL Z ar ar' v := by rw [lookP, if_neg (by omega), if_neg (by omega), if_pos h]
theorem lookP_0 (h5 : k ≠ 5) (h7 : k ≠ 7) (h8 : k ≠ 8) : lookP Z (.mk k nm u r rs ar) (.mk k' nm' u' r' rs' ar') v = lookQL Z ar ar' v := by rw [lookP, if_neg h5, if_neg h7, if_neg h8]
end
set_option maxHeartbeats 16000000 in
set_option maxRecDepth 100000 in
theorem look_step (W0 : World) (c B : Nat) (o : Value) (Z : Ws) (n : Nat) (HF : Hid (Fix W0 c o Z)) (IH : Hid (LookOk W0 c B o Z n)) (IHS : Hid (LookSOk W0 c B o Z (n + 1))) : LookOk W0 c B o Z (n + 1) := by
  rintro ⟨k, nm, u, r, rs, ar⟩ ⟨k', nm', u', r', rs', ar'⟩ cs ds m v W pv L h h' hsame hv hb hA hbig
  have HH := Lib.hid h
  have HH' := Lib.hid h'
  cases m with
  | zero => exact h'.elim
  | succ m =>
  obtain ⟨R, cr, A, ca, rfl, ⟨h0, h1⟩, h2⟩ := h
  obtain ⟨R', cr', A', ca', rfl, ⟨h0', h1'⟩, h2'⟩ := h'
  rw [sameP, Bool.and_eq_true] at hsame
  obtain ⟨rfl, rfl, rfl, hl5⟩ := head_true hsame.1
  have hsl := sameL_length hsame.2
  have HSM := Lib.hid hsame.2
  obtain ⟨lr, hlr⟩ : ∃ n, rs.length = n := ⟨_, rfl⟩
  obtain ⟨lr', hlr'⟩ : ∃ n, rs'.length = n := ⟨_, rfl⟩
  obtain ⟨la, hla⟩ : ∃ n, ar.length = n := ⟨_, rfl⟩
  have ha := h2.le
  rw [hla] at ha
  unfold maxLen at ha
  have hla' : ar'.length = la := by rw [← hsl]; exact hla
  have HLA := Lib.hid hla
  have HLA' := Lib.hid hla'
  rw [hlr, hla] at HH ⊢
  rw [hlr', hla'] at HH' ⊢
  have H2 := Lib.hid h2
  have H2' := Lib.hid h2'
  rw [allP_mk, List.length_append] at hbig
  obtain ⟨o0, ho0⟩ : ∃ o', (Obj.cells #[.int .i64 k, .string nm, .bool u, .int .i64 r, .slice R lr cr, .slice A la ca] 25) = o' := ⟨_, rfl⟩
  obtain ⟨o1, ho1⟩ : ∃ o', (Obj.cells #[.int .i64 k, .string nm, .bool u, .int .i64 r', .slice R' lr' cr', .slice A' la ca'] 25) = o' := ⟨_, rfl⟩
  obtain ⟨I0, I1⟩ := boxes2 W o0 o1 _ _ _ _ ho0.symm ho1.symm
  have hcN := hA.cell.lt
  have hA4 := (hA.alloc o0).alloc o1
  have hb4 : Below W0.heap.size W0 ((W.alloc o0).alloc o1) := (hb.alloc hb.size o0).alloc (hb.alloc hb.size o0).size o1
  have k4 : Kp 35 (some c) B W ((W.alloc o0).alloc o1) := ((Kp.refl _ _ _ W).alloc o0).alloc o1
  obtain ⟨V, hV⟩ : ∃ V, (W.alloc o0).alloc o1 = V := ⟨_, rfl⟩
  obtain ⟨N, hN⟩ : ∃ x, W.heap.size = x := ⟨_, rfl⟩
  rw [hV] at I0 I1 hA4 hb4 k4
  rw [hN] at I0 I1 hcN
  have HV : Hid ((W.alloc (.cells #[.int .i64 k, .string nm, .bool u, .int .i64 r, .slice R lr cr, .slice A la ca] 25)).alloc (.cells #[.int .i64 k, .string nm, .bool u, .int .i64 r', .slice R' lr' cr', .slice A' la ca'] 25) = V) := by rw [← hV, ← ho0, ← ho1]; exact rfl
  have HN := Lib.hid hN
  have KI : Hid (∀ X, Kp 35 (some c) B V X → Is X N 25 #[.int .i64 k, .string nm, .bool u, .int .i64 r, .slice R lr cr, .slice A la ca] ∧ Is X (N + 1) 25 #[.int .i64 k, .string nm, .bool u, .int .i64 r', .slice R' lr' cr', .slice A' la ca']) := fun X g =>
    ⟨g.is I0 (by decide) (not_some (by omega)), g.is I1 (by decide) (not_some (by omega))⟩
  have HBX : Hid (∀ X, Kp 35 (some c) B V X → Below W0.heap.size W0 X) := fun X g => g.below hb4 (Nat.le_trans HF.out.far (Nat.le_of_lt hA.lt)) hb4.size (fun q e => by injection e with e; subst e; exact HF.out.far)
  have HCC : Hid (∀ X, Kp 35 (some c) B V X → X.cell? ⟨N, 0, none⟩ = some (.int .i64 k) ∧ X.cell? ⟨N, 1, none⟩ = some (.string nm) ∧ X.cell? ⟨N, 2, none⟩ = some (.bool u) ∧ X.cell? ⟨N, 3, none⟩ = some (.int .i64 r) ∧ X.cell? ⟨N, 4, none⟩ = some (.slice R lr cr) ∧ X.cell? ⟨N, 5, none⟩ = some (.slice A la ca)) := fun X g => by
    have J := (KI.out X g).1
    exact ⟨J.at_ 0, J.at_ 1, J.at_ 2, J.at_ 3, J.at_ 4, J.at_ 5⟩
  have HCC' : Hid (∀ X, Kp 35 (some c) B V X → X.cell? ⟨N + 1, 0, none⟩ = some (.int .i64 k) ∧ X.cell? ⟨N + 1, 1, none⟩ = some (.string nm) ∧ X.cell? ⟨N + 1, 2, none⟩ = some (.bool u) ∧ X.cell? ⟨N + 1, 3, none⟩ = some (.int .i64 r') ∧ X.cell? ⟨N + 1, 4, none⟩ = some (.slice R' lr' cr') ∧ X.cell? ⟨N + 1, 5, none⟩ = some (.slice A' la ca')) := fun X g => by
    have J := (KI.out X g).2
    exact ⟨J.at_ 0, J.at_ 1, J.at_ 2, J.at_ 3, J.at_ 4, J.at_ 5⟩
  have A4 := Lib.hid hA4
  have B4 := Lib.hid hb4
  have K4 := Lib.hid k4
  obtain ⟨C2, hC2⟩ : ∃ x, L ++ lookP Z (.mk k nm u r rs ar) (.mk k nm u r' rs' ar') v = x := ⟨_, rfl⟩
  rw [hC2]
  obtain ⟨p0, p1, p2, p3, p4, p5⟩ := HCC.out V (.refl _ _ _ V)
  obtain ⟨s0, s1, s2, s3, s4, s5⟩ := HCC'.out V (.refl _ _ _ V)
  by_cases h5 : k = 5
  · rw [lookP_5 Z nm u r rs ar k nm u r' rs' ar' v h5] at hC2
    have HS := Lib.hid (IHS.out k nm u r rs ar k nm u r' rs' ar' _ _ (m + 1) v V pv L HH.out HH'.out (by rw [hl5 h5]) HSM.out hv hb4 hA4 (by rw [own_5' h5] at hbig; omega))
    rw [hC2] at HS
    subst h5
    clear hb hA hA4 hb4 k4 I0 I1 hC2 ho0 ho1 hV hN hbig hlr hlr' hla hla' h0 h1 h2 h0' h1' h2' hsame hl5 hsl
    go_enter Try.func19, Try.ntmps19
    go_wp2_with fail
    rw [HV.out]
    refine HS.out.mono ?_
    rintro e w3 ⟨rfl, v3, g1, g2⟩
    have HD : Hid (∃ v', Wlk w3 c B o v' C2 ∧ Kp 35 (some c) B W w3) := ⟨v3, g1, K4.out.trans g2⟩
    clear g1 g2 HS A4 K4
    go_wp2
    exact bodyPost_ret (results_none (by kernel_rfl) _ _ _) rfl ⟨rfl, HD.out⟩
  · have e5 : (k == 5) = false := by rw [beq_eq_false_iff_ne]; exact h5
    by_cases h7 : k = 7
    · have HBIG : Hid (L.length + 2 + 2 * (gathL ownP ar).length ≤ Big) := by rw [own_7' h5 (.inl h7)] at hbig; show _ ≤ _; simp at hbig; omega
      rw [lookP_7 Z nm u r rs ar k nm u r' rs' ar' v h7, ← List.append_assoc] at hC2
      subst h7
      cases u with
      | true =>
        rw [if_pos rfl] at hC2
        have hv2 : Hid (thr v 3 < 4) := thr_lt (by decide)
        have HT : Hid (∀ X, Calls Try.prog 24 #[.int .i64 (v : Int), .int .i64 3] X fun e w' => e = .returned (.int .i64 (thr v 3 : Nat)) ∧ X = w') := fun X => through_any (w := X) hv (show 3 < 4 by decide)
        obtain ⟨v2, hz⟩ : ∃ z, thr v 3 = z := ⟨_, rfl⟩
        rw [hz] at hC2 hv2 HT
        have CR0 : Hid (L ++ sayP r r' v ++ lookQL Z (ar.drop 0) (ar'.drop 0) v2 = C2) := by rw [List.drop_zero, List.drop_zero]; exact hC2
        have HSY0 := Lib.hid (say_any c B r r' v V o pv L hv A4.out (by have := HBIG.out; omega))
        clear hz hb hA hA4 hb4 k4 I0 I1 hC2 ho0 ho1 hV hN hbig hlr hlr' hla hla' h0 h1 h2 h0' h1' h2' hsame hl5 hsl
        go_enter Try.func19, Try.ntmps19
        go_wp2_with fail
        rw [HV.out]
        try rw [HN.out]
        refine HSY0.out.mono ?_
        rintro e w2 ⟨rfl, pv2, g1, g2⟩
        have A5 := Lib.hid g1
        have K5 := Lib.hid g2
        have GB0 : Hid ((L ++ sayP r r' v).length + 2 * (gathL ownP (ar.drop 0)).length ≤ Big) := by show _ ≤ _; have h1 := say_le r r' v; have h2 := HBIG.out; rw [List.length_append, List.drop_zero]; omega
        clear g1 g2 HSY0 A4 HBIG p0 p1 p2 p3 p4 p5 s0 s1 s2 s3 s4 s5
        obtain ⟨p0, p1, p2, p3, p4, p5⟩ := HCC.out w2 K5.out
        obtain ⟨s0, s1, s2, s3, s4, s5⟩ := HCC'.out w2 K5.out
        go_wp2_with fail
        refine (HT.out w2).mono ?_
        rintro e w2' ⟨rfl, rfl⟩
        go_wp2
        go_loopw [43] (fun i wr => ∃ j : Nat, j ≤ la ∧ i = .int .i64 j ∧ Hid (∃ pv M', Wlk wr c B o pv M' ∧ M' ++ lookQL Z (ar.drop j) (ar'.drop j) v2 = C2 ∧ M'.length + 2 * (gathL ownP (ar.drop j)).length ≤ Big ∧ Kp 35 (some c) B V wr)) (fun i _ => la - (intOf i).toNat)
        case atStart => exact ⟨0, Nat.zero_le _, rfl, _, _, A5.out, CR0.out, GB0.out, K5.out⟩
        clear A5 K5 CR0 GB0 p0 p1 p2 p3 p4 p5 s0 s1 s2 s3 s4 s5
        case round =>
          obtain ⟨j, hj, rfl, HQ⟩ := hrel
          obtain ⟨pw2, M2, q1, q2, q3, q4⟩ := HQ.out
          have AC := Lib.hid q1
          have CR := Lib.hid q2
          have GB := Lib.hid q3
          have KC := Lib.hid q4
          clear HQ q1 q2 q3 q4
          by_cases hjl : j < la
          · obtain ⟨bk, o', cs2, rfl, hlt, _, hs2, hc2⟩ := H2.out.get (by decide) (show j < ar.length by rw [HLA.out]; exact hjl)
            obtain ⟨bk', o1', ds2, rfl, hlt', _, hs2', hc2'⟩ := H2'.out.get (by decide) (show j < ar'.length by rw [HLA'.out]; exact hjl)
            obtain ⟨x1, hx1⟩ : ∃ x, ar[j]'(by rw [HLA.out]; exact hjl) = x := ⟨_, rfl⟩
            obtain ⟨x2, hx2⟩ : ∃ x, ar'[j]'(by rw [HLA'.out]; exact hjl) = x := ⟨_, rfl⟩
            rw [hx1] at hs2
            rw [hx2] at hs2'
            have hsm : sameP x1 x2 = true := by rw [← hx1, ← hx2]; exact sameL_get HSM.out _ _
            obtain ⟨k0, nm0, u0, r0, R0, lr0, cr0, A0, la0, ca0, rfl⟩ := hs2.shape
            obtain ⟨k1, nm1, u1, r1, R1, lr1, cr1, A1, la1, ca1, rfl⟩ := hs2'.shape
            have HKD : Hid (Kp 35 (some c) B V wr.drew) := KC.out.drew
            have AD := Lib.hid AC.out.drew
            have HX : Hid (∀ X, Kp 35 (some c) B V X → X.cell? ⟨N, 5, none⟩ = some (.slice (some ⟨bk, o', none⟩) la ca) ∧ X.cell? ⟨N + 1, 5, none⟩ = some (.slice (some ⟨bk', o1', none⟩) la ca') ∧ (X.cell? ⟨bk, o' + j * 6, none⟩ = some (.int .i64 k0) ∧ X.cell? ⟨bk, o' + j * 6 + 1, none⟩ = some (.string nm0) ∧ X.cell? ⟨bk, o' + j * 6 + 2, none⟩ = some (.bool u0) ∧ X.cell? ⟨bk, o' + j * 6 + 3, none⟩ = some (.int .i64 r0) ∧ X.cell? ⟨bk, o' + j * 6 + 4, none⟩ = some (.slice R0 lr0 cr0) ∧ X.cell? ⟨bk, o' + j * 6 + 5, none⟩ = some (.slice A0 la0 ca0)) ∧ (X.cell? ⟨bk', o1' + j * 6, none⟩ = some (.int .i64 k1) ∧ X.cell? ⟨bk', o1' + j * 6 + 1, none⟩ = some (.string nm1) ∧ X.cell? ⟨bk', o1' + j * 6 + 2, none⟩ = some (.bool u1) ∧ X.cell? ⟨bk', o1' + j * 6 + 3, none⟩ = some (.int .i64 r1) ∧ X.cell? ⟨bk', o1' + j * 6 + 4, none⟩ = some (.slice R1 lr1 cr1) ∧ X.cell? ⟨bk', o1' + j * 6 + 5, none⟩ = some (.slice A1 la1 ca1))) := fun X g => by
              obtain ⟨J1, J2⟩ := KI.out X g
              exact ⟨J1.at_ 5, J2.at_ 5, ⟨((HBX.out X g).cell hlt).trans (hc2 0 _ rfl), ((HBX.out X g).cell hlt).trans (hc2 1 _ rfl), ((HBX.out X g).cell hlt).trans (hc2 2 _ rfl), ((HBX.out X g).cell hlt).trans (hc2 3 _ rfl), ((HBX.out X g).cell hlt).trans (hc2 4 _ rfl), ((HBX.out X g).cell hlt).trans (hc2 5 _ rfl)⟩, ((HBX.out X g).cell hlt').trans (hc2' 0 _ rfl), ((HBX.out X g).cell hlt').trans (hc2' 1 _ rfl), ((HBX.out X g).cell hlt').trans (hc2' 2 _ rfl), ((HBX.out X g).cell hlt').trans (hc2' 3 _ rfl), ((HBX.out X g).cell hlt').trans (hc2' 4 _ rfl), ((HBX.out X g).cell hlt').trans (hc2' 5 _ rfl)⟩
            have CN : Hid (lookP Z x1 x2 v2 ++ lookQL Z (ar.drop (j + 1)) (ar'.drop (j + 1)) v2 = lookQL Z (ar.drop j) (ar'.drop j) v2) := by
              show _ = _
              rw [List.drop_eq_getElem_cons (show j < ar.length by rw [HLA.out]; exact hjl), List.drop_eq_getElem_cons (show j < ar'.length by rw [HLA'.out]; exact hjl), lookQL, hx1, hx2]
            have HG : Hid ((gathL ownP (ar.drop j)).length = (allP x1).length + (gathL ownP (ar.drop (j + 1))).length) := by
              show _ = _
              rw [List.drop_eq_getElem_cons (show j < ar.length by rw [HLA.out]; exact hjl), gathL_cons, hx1, List.length_append]
            have HSY : Hid (∀ X, Kp 35 (some c) B V X → Wlk X c B o pw2 M2 → Calls Try.prog 19 #[.pointer (some ⟨c, 0, none⟩), .agg #[.int .i64 k0, .string nm0, .bool u0, .int .i64 r0, .slice R0 lr0 cr0, .slice A0 la0 ca0], .agg #[.int .i64 k1, .string nm1, .bool u1, .int .i64 r1, .slice R1 lr1 cr1, .slice A1 la1 ca1], .int .i64 (v2 : Int)] X fun e W' => e = .returned (.tuple #[]) ∧ ∃ v', Wlk W' c B o v' (M2 ++ lookP Z x1 x2 v2) ∧ Kp 35 (some c) B X W') := fun X g g' =>
              IH.out x1 x2 _ _ m v2 X pw2 M2 hs2 hs2' hsm hv2.out (HBX.out X g) g' (by have h1 := GB.out; have h2 := HG.out; omega)
            obtain ⟨d0, d1, ⟨x10, x11, x12, x13, x14, x15⟩, x20, x21, x22, x23, x24, x25⟩ := HX.out wr.drew HKD.out
            have KL : Hid (M2 ++ lookP Z x1 x2 v2 ++ lookQL Z (ar.drop (j + 1)) (ar'.drop (j + 1)) v2 = C2 ∧ (M2 ++ lookP Z x1 x2 v2).length + 2 * (gathL ownP (ar.drop (j + 1))).length ≤ Big) := by
              refine ⟨by rw [List.append_assoc, CN.out]; exact CR.out, ?_⟩
              have h1 := zipS_le (waysP Z x1 v2) (allP x1) (allP x2)
              rw [← look_zip Z hsm v2] at h1
              have h2 := GB.out
              have h3 := HG.out
              rw [List.length_append]
              omega
            clear hlt hlt' hc2 hc2' hx1 hx2 CR GB CN AC KC HG hs2 hs2' hsm
            go_wp2_with fail
            go_region_held3 (fun w' => w'.cell? ⟨N, 5, none⟩ = some (.slice (some ⟨bk, o', none⟩) la ca) ∧ w'.cell? ⟨N + 1, 5, none⟩ = some (.slice (some ⟨bk', o1', none⟩) la ca') ∧ (w'.cell? ⟨bk, o' + j * 6, none⟩ = some (.int .i64 k0) ∧ w'.cell? ⟨bk, o' + j * 6 + 1, none⟩ = some (.string nm0) ∧ w'.cell? ⟨bk, o' + j * 6 + 2, none⟩ = some (.bool u0) ∧ w'.cell? ⟨bk, o' + j * 6 + 3, none⟩ = some (.int .i64 r0) ∧ w'.cell? ⟨bk, o' + j * 6 + 4, none⟩ = some (.slice R0 lr0 cr0) ∧ w'.cell? ⟨bk, o' + j * 6 + 5, none⟩ = some (.slice A0 la0 ca0)) ∧ (w'.cell? ⟨bk', o1' + j * 6, none⟩ = some (.int .i64 k1) ∧ w'.cell? ⟨bk', o1' + j * 6 + 1, none⟩ = some (.string nm1) ∧ w'.cell? ⟨bk', o1' + j * 6 + 2, none⟩ = some (.bool u1) ∧ w'.cell? ⟨bk', o1' + j * 6 + 3, none⟩ = some (.int .i64 r1) ∧ w'.cell? ⟨bk', o1' + j * 6 + 4, none⟩ = some (.slice R1 lr1 cr1) ∧ w'.cell? ⟨bk', o1' + j * 6 + 5, none⟩ = some (.slice A1 la1 ca1)))
              (first
                | exact ⟨d0, d1, ⟨x10, x11, x12, x13, x14, x15⟩, x20, x21, x22, x23, x24, x25⟩
                | exact HX.out _ K3.out)
              (first | (go_at_call 19; refine (HSY.out _ HKD.out AD.out).mono ?_; rintro e w3 ⟨rfl, pw3, g1, g2⟩; have A3 := Lib.hid g1; have K3 := Lib.hid (HKD.out.trans g2); clear g1 g2))
            all_goals
              have HR : Hid (∃ pv M', Wlk w3 c B o pv M' ∧ M' ++ lookQL Z (ar.drop (j + 1)) (ar'.drop (j + 1)) v2 = C2 ∧ M'.length + 2 * (gathL ownP (ar.drop (j + 1))).length ≤ Big ∧ Kp 35 (some c) B V w3) := ⟨_, _, A3.out, KL.out.1, KL.out.2, K3.out⟩
              clear A3 K3 KL HSY HX AD HKD
              go_wp2
              go_roundw
              case rel => exact ⟨j + 1, by omega, by go_num, HR⟩
              case measure => simp [intOf]; omega
          · have hje : j = la := by omega
            have HD : Hid (∃ v', Wlk wr c B o v' C2 ∧ Kp 35 (some c) B W wr) := by
              have h1 := CR.out
              rw [List.drop_of_length_le (by rw [HLA.out]; omega), lookQL, List.append_nil] at h1
              subst h1
              exact ⟨_, AC.out, K4.out.trans KC.out⟩
            clear AC CR GB KC
            go_wp2
            go_end0
            exact ⟨rfl, HD.out⟩
      | false =>
        rw [if_neg (by decide)] at hC2
        have hv2 : Hid (v < 4) := hv
        have CR0 : Hid (L ++ sayP r r' v ++ lookQL Z (ar.drop 0) (ar'.drop 0) v = C2) := by rw [List.drop_zero, List.drop_zero]; exact hC2
        have HSY0 := Lib.hid (say_any c B r r' v V o pv L hv A4.out (by have := HBIG.out; omega))
        clear hb hA hA4 hb4 k4 I0 I1 hC2 ho0 ho1 hV hN hbig hlr hlr' hla hla' h0 h1 h2 h0' h1' h2' hsame hl5 hsl
        go_enter Try.func19, Try.ntmps19
        go_wp2_with fail
        rw [HV.out]
        try rw [HN.out]
        refine HSY0.out.mono ?_
        rintro e w2 ⟨rfl, pv2, g1, g2⟩
        have A5 := Lib.hid g1
        have K5 := Lib.hid g2
        have GB0 : Hid ((L ++ sayP r r' v).length + 2 * (gathL ownP (ar.drop 0)).length ≤ Big) := by show _ ≤ _; have h1 := say_le r r' v; have h2 := HBIG.out; rw [List.length_append, List.drop_zero]; omega
        clear g1 g2 HSY0 A4 HBIG p0 p1 p2 p3 p4 p5 s0 s1 s2 s3 s4 s5
        obtain ⟨p0, p1, p2, p3, p4, p5⟩ := HCC.out w2 K5.out
        obtain ⟨s0, s1, s2, s3, s4, s5⟩ := HCC'.out w2 K5.out
        go_wp2
        go_loopw [43] (fun i wr => ∃ j : Nat, j ≤ la ∧ i = .int .i64 j ∧ Hid (∃ pv M', Wlk wr c B o pv M' ∧ M' ++ lookQL Z (ar.drop j) (ar'.drop j) v = C2 ∧ M'.length + 2 * (gathL ownP (ar.drop j)).length ≤ Big ∧ Kp 35 (some c) B V wr)) (fun i _ => la - (intOf i).toNat)
        case atStart => exact ⟨0, Nat.zero_le _, rfl, _, _, A5.out, CR0.out, GB0.out, K5.out⟩
        clear A5 K5 CR0 GB0 p0 p1 p2 p3 p4 p5 s0 s1 s2 s3 s4 s5
        case round =>
          obtain ⟨j, hj, rfl, HQ⟩ := hrel
          obtain ⟨pw2, M2, q1, q2, q3, q4⟩ := HQ.out
          have AC := Lib.hid q1
          have CR := Lib.hid q2
          have GB := Lib.hid q3
          have KC := Lib.hid q4
          clear HQ q1 q2 q3 q4
          by_cases hjl : j < la
          · obtain ⟨bk, o', cs2, rfl, hlt, _, hs2, hc2⟩ := H2.out.get (by decide) (show j < ar.length by rw [HLA.out]; exact hjl)
            obtain ⟨bk', o1', ds2, rfl, hlt', _, hs2', hc2'⟩ := H2'.out.get (by decide) (show j < ar'.length by rw [HLA'.out]; exact hjl)
            obtain ⟨x1, hx1⟩ : ∃ x, ar[j]'(by rw [HLA.out]; exact hjl) = x := ⟨_, rfl⟩
            obtain ⟨x2, hx2⟩ : ∃ x, ar'[j]'(by rw [HLA'.out]; exact hjl) = x := ⟨_, rfl⟩
            rw [hx1] at hs2
            rw [hx2] at hs2'
            have hsm : sameP x1 x2 = true := by rw [← hx1, ← hx2]; exact sameL_get HSM.out _ _
            obtain ⟨k0, nm0, u0, r0, R0, lr0, cr0, A0, la0, ca0, rfl⟩ := hs2.shape
            obtain ⟨k1, nm1, u1, r1, R1, lr1, cr1, A1, la1, ca1, rfl⟩ := hs2'.shape
            have HKD : Hid (Kp 35 (some c) B V wr.drew) := KC.out.drew
            have AD := Lib.hid AC.out.drew
            have HX : Hid (∀ X, Kp 35 (some c) B V X → X.cell? ⟨N, 5, none⟩ = some (.slice (some ⟨bk, o', none⟩) la ca) ∧ X.cell? ⟨N + 1, 5, none⟩ = some (.slice (some ⟨bk', o1', none⟩) la ca') ∧ (X.cell? ⟨bk, o' + j * 6, none⟩ = some (.int .i64 k0) ∧ X.cell? ⟨bk, o' + j * 6 + 1, none⟩ = some (.string nm0) ∧ X.cell? ⟨bk, o' + j * 6 + 2, none⟩ = some (.bool u0) ∧ X.cell? ⟨bk, o' + j * 6 + 3, none⟩ = some (.int .i64 r0) ∧ X.cell? ⟨bk, o' + j * 6 + 4, none⟩ = some (.slice R0 lr0 cr0) ∧ X.cell? ⟨bk, o' + j * 6 + 5, none⟩ = some (.slice A0 la0 ca0)) ∧ (X.cell? ⟨bk', o1' + j * 6, none⟩ = some (.int .i64 k1) ∧ X.cell? ⟨bk', o1' + j * 6 + 1, none⟩ = some (.string nm1) ∧ X.cell? ⟨bk', o1' + j * 6 + 2, none⟩ = some (.bool u1) ∧ X.cell? ⟨bk', o1' + j * 6 + 3, none⟩ = some (.int .i64 r1) ∧ X.cell? ⟨bk', o1' + j * 6 + 4, none⟩ = some (.slice R1 lr1 cr1) ∧ X.cell? ⟨bk', o1' + j * 6 + 5, none⟩ = some (.slice A1 la1 ca1))) := fun X g => by
              obtain ⟨J1, J2⟩ := KI.out X g
              exact ⟨J1.at_ 5, J2.at_ 5, ⟨((HBX.out X g).cell hlt).trans (hc2 0 _ rfl), ((HBX.out X g).cell hlt).trans (hc2 1 _ rfl), ((HBX.out X g).cell hlt).trans (hc2 2 _ rfl), ((HBX.out X g).cell hlt).trans (hc2 3 _ rfl), ((HBX.out X g).cell hlt).trans (hc2 4 _ rfl), ((HBX.out X g).cell hlt).trans (hc2 5 _ rfl)⟩, ((HBX.out X g).cell hlt').trans (hc2' 0 _ rfl), ((HBX.out X g).cell hlt').trans (hc2' 1 _ rfl), ((HBX.out X g).cell hlt').trans (hc2' 2 _ rfl), ((HBX.out X g).cell hlt').trans (hc2' 3 _ rfl), ((HBX.out X g).cell hlt').trans (hc2' 4 _ rfl), ((HBX.out X g).cell hlt').trans (hc2' 5 _ rfl)⟩
            have CN : Hid (lookP Z x1 x2 v ++ lookQL Z (ar.drop (j + 1)) (ar'.drop (j + 1)) v = lookQL Z (ar.drop j) (ar'.drop j) v) := by
              show _ = _
              rw [List.drop_eq_getElem_cons (show j < ar.length by rw [HLA.out]; exact hjl), List.drop_eq_getElem_cons (show j < ar'.length by rw [HLA'.out]; exact hjl), lookQL, hx1, hx2]
            have HG : Hid ((gathL ownP (ar.drop j)).length = (allP x1).length + (gathL ownP (ar.drop (j + 1))).length) := by
              show _ = _
              rw [List.drop_eq_getElem_cons (show j < ar.length by rw [HLA.out]; exact hjl), gathL_cons, hx1, List.length_append]
            have HSY : Hid (∀ X, Kp 35 (some c) B V X → Wlk X c B o pw2 M2 → Calls Try.prog 19 #[.pointer (some ⟨c, 0, none⟩), .agg #[.int .i64 k0, .string nm0, .bool u0, .int .i64 r0, .slice R0 lr0 cr0, .slice A0 la0 ca0], .agg #[.int .i64 k1, .string nm1, .bool u1, .int .i64 r1, .slice R1 lr1 cr1, .slice A1 la1 ca1], .int .i64 (v : Int)] X fun e W' => e = .returned (.tuple #[]) ∧ ∃ v', Wlk W' c B o v' (M2 ++ lookP Z x1 x2 v) ∧ Kp 35 (some c) B X W') := fun X g g' =>
              IH.out x1 x2 _ _ m v X pw2 M2 hs2 hs2' hsm hv2.out (HBX.out X g) g' (by have h1 := GB.out; have h2 := HG.out; omega)
            obtain ⟨d0, d1, ⟨x10, x11, x12, x13, x14, x15⟩, x20, x21, x22, x23, x24, x25⟩ := HX.out wr.drew HKD.out
            have KL : Hid (M2 ++ lookP Z x1 x2 v ++ lookQL Z (ar.drop (j + 1)) (ar'.drop (j + 1)) v = C2 ∧ (M2 ++ lookP Z x1 x2 v).length + 2 * (gathL ownP (ar.drop (j + 1))).length ≤ Big) := by
              refine ⟨by rw [List.append_assoc, CN.out]; exact CR.out, ?_⟩
              have h1 := zipS_le (waysP Z x1 v) (allP x1) (allP x2)
              rw [← look_zip Z hsm v] at h1
              have h2 := GB.out
              have h3 := HG.out
              rw [List.length_append]
              omega
            clear hlt hlt' hc2 hc2' hx1 hx2 CR GB CN AC KC HG hs2 hs2' hsm
            go_wp2_with fail
            go_region_held3 (fun w' => w'.cell? ⟨N, 5, none⟩ = some (.slice (some ⟨bk, o', none⟩) la ca) ∧ w'.cell? ⟨N + 1, 5, none⟩ = some (.slice (some ⟨bk', o1', none⟩) la ca') ∧ (w'.cell? ⟨bk, o' + j * 6, none⟩ = some (.int .i64 k0) ∧ w'.cell? ⟨bk, o' + j * 6 + 1, none⟩ = some (.string nm0) ∧ w'.cell? ⟨bk, o' + j * 6 + 2, none⟩ = some (.bool u0) ∧ w'.cell? ⟨bk, o' + j * 6 + 3, none⟩ = some (.int .i64 r0) ∧ w'.cell? ⟨bk, o' + j * 6 + 4, none⟩ = some (.slice R0 lr0 cr0) ∧ w'.cell? ⟨bk, o' + j * 6 + 5, none⟩ = some (.slice A0 la0 ca0)) ∧ (w'.cell? ⟨bk', o1' + j * 6, none⟩ = some (.int .i64 k1) ∧ w'.cell? ⟨bk', o1' + j * 6 + 1, none⟩ = some (.string nm1) ∧ w'.cell? ⟨bk', o1' + j * 6 + 2, none⟩ = some (.bool u1) ∧ w'.cell? ⟨bk', o1' + j * 6 + 3, none⟩ = some (.int .i64 r1) ∧ w'.cell? ⟨bk', o1' + j * 6 + 4, none⟩ = some (.slice R1 lr1 cr1) ∧ w'.cell? ⟨bk', o1' + j * 6 + 5, none⟩ = some (.slice A1 la1 ca1)))
              (first
                | exact ⟨d0, d1, ⟨x10, x11, x12, x13, x14, x15⟩, x20, x21, x22, x23, x24, x25⟩
                | exact HX.out _ K3.out)
              (first | (go_at_call 19; refine (HSY.out _ HKD.out AD.out).mono ?_; rintro e w3 ⟨rfl, pw3, g1, g2⟩; have A3 := Lib.hid g1; have K3 := Lib.hid (HKD.out.trans g2); clear g1 g2))
            all_goals
              have HR : Hid (∃ pv M', Wlk w3 c B o pv M' ∧ M' ++ lookQL Z (ar.drop (j + 1)) (ar'.drop (j + 1)) v = C2 ∧ M'.length + 2 * (gathL ownP (ar.drop (j + 1))).length ≤ Big ∧ Kp 35 (some c) B V w3) := ⟨_, _, A3.out, KL.out.1, KL.out.2, K3.out⟩
              clear A3 K3 KL HSY HX AD HKD
              go_wp2
              go_roundw
              case rel => exact ⟨j + 1, by omega, by go_num, HR⟩
              case measure => simp [intOf]; omega
          · have hje : j = la := by omega
            have HD : Hid (∃ v', Wlk wr c B o v' C2 ∧ Kp 35 (some c) B W wr) := by
              have h1 := CR.out
              rw [List.drop_of_length_le (by rw [HLA.out]; omega), lookQL, List.append_nil] at h1
              subst h1
              exact ⟨_, AC.out, K4.out.trans KC.out⟩
            clear AC CR GB KC
            go_wp2
            go_end0
            exact ⟨rfl, HD.out⟩
    · by_cases h8 : k = 8
      · have HBIG : Hid (L.length + 2 + 2 * (gathL ownP ar).length ≤ Big) := by rw [own_7' h5 (.inr (.inl h8))] at hbig; show _ ≤ _; simp at hbig; omega
        rw [lookP_8 Z nm u r rs ar k nm u r' rs' ar' v h8, ← List.append_assoc] at hC2
        subst h8
        have hv2 : Hid (v < 4) := hv
        have CR0 : Hid (L ++ sayP r r' v ++ lookQL Z (ar.drop 0) (ar'.drop 0) v = C2) := by rw [List.drop_zero, List.drop_zero]; exact hC2
        have HSY0 := Lib.hid (say_any c B r r' v V o pv L hv A4.out (by have := HBIG.out; omega))
        clear hb hA hA4 hb4 k4 I0 I1 hC2 ho0 ho1 hV hN hbig hlr hlr' hla hla' h0 h1 h2 h0' h1' h2' hsame hl5 hsl
        go_enter Try.func19, Try.ntmps19
        go_wp2_with fail
        rw [HV.out]
        try rw [HN.out]
        refine HSY0.out.mono ?_
        rintro e w2 ⟨rfl, pv2, g1, g2⟩
        have A5 := Lib.hid g1
        have K5 := Lib.hid g2
        have GB0 : Hid ((L ++ sayP r r' v).length + 2 * (gathL ownP (ar.drop 0)).length ≤ Big) := by show _ ≤ _; have h1 := say_le r r' v; have h2 := HBIG.out; rw [List.length_append, List.drop_zero]; omega
        clear g1 g2 HSY0 A4 HBIG p0 p1 p2 p3 p4 p5 s0 s1 s2 s3 s4 s5
        obtain ⟨p0, p1, p2, p3, p4, p5⟩ := HCC.out w2 K5.out
        obtain ⟨s0, s1, s2, s3, s4, s5⟩ := HCC'.out w2 K5.out
        go_wp2
        go_loopw [43] (fun i wr => ∃ j : Nat, j ≤ la ∧ i = .int .i64 j ∧ Hid (∃ pv M', Wlk wr c B o pv M' ∧ M' ++ lookQL Z (ar.drop j) (ar'.drop j) v = C2 ∧ M'.length + 2 * (gathL ownP (ar.drop j)).length ≤ Big ∧ Kp 35 (some c) B V wr)) (fun i _ => la - (intOf i).toNat)
        case atStart => exact ⟨0, Nat.zero_le _, rfl, _, _, A5.out, CR0.out, GB0.out, K5.out⟩
        clear A5 K5 CR0 GB0 p0 p1 p2 p3 p4 p5 s0 s1 s2 s3 s4 s5
        case round =>
          obtain ⟨j, hj, rfl, HQ⟩ := hrel
          obtain ⟨pw2, M2, q1, q2, q3, q4⟩ := HQ.out
          have AC := Lib.hid q1
          have CR := Lib.hid q2
          have GB := Lib.hid q3
          have KC := Lib.hid q4
          clear HQ q1 q2 q3 q4
          by_cases hjl : j < la
          · obtain ⟨bk, o', cs2, rfl, hlt, _, hs2, hc2⟩ := H2.out.get (by decide) (show j < ar.length by rw [HLA.out]; exact hjl)
            obtain ⟨bk', o1', ds2, rfl, hlt', _, hs2', hc2'⟩ := H2'.out.get (by decide) (show j < ar'.length by rw [HLA'.out]; exact hjl)
            obtain ⟨x1, hx1⟩ : ∃ x, ar[j]'(by rw [HLA.out]; exact hjl) = x := ⟨_, rfl⟩
            obtain ⟨x2, hx2⟩ : ∃ x, ar'[j]'(by rw [HLA'.out]; exact hjl) = x := ⟨_, rfl⟩
            rw [hx1] at hs2
            rw [hx2] at hs2'
            have hsm : sameP x1 x2 = true := by rw [← hx1, ← hx2]; exact sameL_get HSM.out _ _
            obtain ⟨k0, nm0, u0, r0, R0, lr0, cr0, A0, la0, ca0, rfl⟩ := hs2.shape
            obtain ⟨k1, nm1, u1, r1, R1, lr1, cr1, A1, la1, ca1, rfl⟩ := hs2'.shape
            have HKD : Hid (Kp 35 (some c) B V wr.drew) := KC.out.drew
            have AD := Lib.hid AC.out.drew
            have HX : Hid (∀ X, Kp 35 (some c) B V X → X.cell? ⟨N, 5, none⟩ = some (.slice (some ⟨bk, o', none⟩) la ca) ∧ X.cell? ⟨N + 1, 5, none⟩ = some (.slice (some ⟨bk', o1', none⟩) la ca') ∧ (X.cell? ⟨bk, o' + j * 6, none⟩ = some (.int .i64 k0) ∧ X.cell? ⟨bk, o' + j * 6 + 1, none⟩ = some (.string nm0) ∧ X.cell? ⟨bk, o' + j * 6 + 2, none⟩ = some (.bool u0) ∧ X.cell? ⟨bk, o' + j * 6 + 3, none⟩ = some (.int .i64 r0) ∧ X.cell? ⟨bk, o' + j * 6 + 4, none⟩ = some (.slice R0 lr0 cr0) ∧ X.cell? ⟨bk, o' + j * 6 + 5, none⟩ = some (.slice A0 la0 ca0)) ∧ (X.cell? ⟨bk', o1' + j * 6, none⟩ = some (.int .i64 k1) ∧ X.cell? ⟨bk', o1' + j * 6 + 1, none⟩ = some (.string nm1) ∧ X.cell? ⟨bk', o1' + j * 6 + 2, none⟩ = some (.bool u1) ∧ X.cell? ⟨bk', o1' + j * 6 + 3, none⟩ = some (.int .i64 r1) ∧ X.cell? ⟨bk', o1' + j * 6 + 4, none⟩ = some (.slice R1 lr1 cr1) ∧ X.cell? ⟨bk', o1' + j * 6 + 5, none⟩ = some (.slice A1 la1 ca1))) := fun X g => by
              obtain ⟨J1, J2⟩ := KI.out X g
              exact ⟨J1.at_ 5, J2.at_ 5, ⟨((HBX.out X g).cell hlt).trans (hc2 0 _ rfl), ((HBX.out X g).cell hlt).trans (hc2 1 _ rfl), ((HBX.out X g).cell hlt).trans (hc2 2 _ rfl), ((HBX.out X g).cell hlt).trans (hc2 3 _ rfl), ((HBX.out X g).cell hlt).trans (hc2 4 _ rfl), ((HBX.out X g).cell hlt).trans (hc2 5 _ rfl)⟩, ((HBX.out X g).cell hlt').trans (hc2' 0 _ rfl), ((HBX.out X g).cell hlt').trans (hc2' 1 _ rfl), ((HBX.out X g).cell hlt').trans (hc2' 2 _ rfl), ((HBX.out X g).cell hlt').trans (hc2' 3 _ rfl), ((HBX.out X g).cell hlt').trans (hc2' 4 _ rfl), ((HBX.out X g).cell hlt').trans (hc2' 5 _ rfl)⟩
            have CN : Hid (lookP Z x1 x2 v ++ lookQL Z (ar.drop (j + 1)) (ar'.drop (j + 1)) v = lookQL Z (ar.drop j) (ar'.drop j) v) := by
              show _ = _
              rw [List.drop_eq_getElem_cons (show j < ar.length by rw [HLA.out]; exact hjl), List.drop_eq_getElem_cons (show j < ar'.length by rw [HLA'.out]; exact hjl), lookQL, hx1, hx2]
            have HG : Hid ((gathL ownP (ar.drop j)).length = (allP x1).length + (gathL ownP (ar.drop (j + 1))).length) := by
              show _ = _
              rw [List.drop_eq_getElem_cons (show j < ar.length by rw [HLA.out]; exact hjl), gathL_cons, hx1, List.length_append]
            have HSY : Hid (∀ X, Kp 35 (some c) B V X → Wlk X c B o pw2 M2 → Calls Try.prog 19 #[.pointer (some ⟨c, 0, none⟩), .agg #[.int .i64 k0, .string nm0, .bool u0, .int .i64 r0, .slice R0 lr0 cr0, .slice A0 la0 ca0], .agg #[.int .i64 k1, .string nm1, .bool u1, .int .i64 r1, .slice R1 lr1 cr1, .slice A1 la1 ca1], .int .i64 (v : Int)] X fun e W' => e = .returned (.tuple #[]) ∧ ∃ v', Wlk W' c B o v' (M2 ++ lookP Z x1 x2 v) ∧ Kp 35 (some c) B X W') := fun X g g' =>
              IH.out x1 x2 _ _ m v X pw2 M2 hs2 hs2' hsm hv2.out (HBX.out X g) g' (by have h1 := GB.out; have h2 := HG.out; omega)
            obtain ⟨d0, d1, ⟨x10, x11, x12, x13, x14, x15⟩, x20, x21, x22, x23, x24, x25⟩ := HX.out wr.drew HKD.out
            have KL : Hid (M2 ++ lookP Z x1 x2 v ++ lookQL Z (ar.drop (j + 1)) (ar'.drop (j + 1)) v = C2 ∧ (M2 ++ lookP Z x1 x2 v).length + 2 * (gathL ownP (ar.drop (j + 1))).length ≤ Big) := by
              refine ⟨by rw [List.append_assoc, CN.out]; exact CR.out, ?_⟩
              have h1 := zipS_le (waysP Z x1 v) (allP x1) (allP x2)
              rw [← look_zip Z hsm v] at h1
              have h2 := GB.out
              have h3 := HG.out
              rw [List.length_append]
              omega
            clear hlt hlt' hc2 hc2' hx1 hx2 CR GB CN AC KC HG hs2 hs2' hsm
            go_wp2_with fail
            go_region_held3 (fun w' => w'.cell? ⟨N, 5, none⟩ = some (.slice (some ⟨bk, o', none⟩) la ca) ∧ w'.cell? ⟨N + 1, 5, none⟩ = some (.slice (some ⟨bk', o1', none⟩) la ca') ∧ (w'.cell? ⟨bk, o' + j * 6, none⟩ = some (.int .i64 k0) ∧ w'.cell? ⟨bk, o' + j * 6 + 1, none⟩ = some (.string nm0) ∧ w'.cell? ⟨bk, o' + j * 6 + 2, none⟩ = some (.bool u0) ∧ w'.cell? ⟨bk, o' + j * 6 + 3, none⟩ = some (.int .i64 r0) ∧ w'.cell? ⟨bk, o' + j * 6 + 4, none⟩ = some (.slice R0 lr0 cr0) ∧ w'.cell? ⟨bk, o' + j * 6 + 5, none⟩ = some (.slice A0 la0 ca0)) ∧ (w'.cell? ⟨bk', o1' + j * 6, none⟩ = some (.int .i64 k1) ∧ w'.cell? ⟨bk', o1' + j * 6 + 1, none⟩ = some (.string nm1) ∧ w'.cell? ⟨bk', o1' + j * 6 + 2, none⟩ = some (.bool u1) ∧ w'.cell? ⟨bk', o1' + j * 6 + 3, none⟩ = some (.int .i64 r1) ∧ w'.cell? ⟨bk', o1' + j * 6 + 4, none⟩ = some (.slice R1 lr1 cr1) ∧ w'.cell? ⟨bk', o1' + j * 6 + 5, none⟩ = some (.slice A1 la1 ca1)))
              (first
                | exact ⟨d0, d1, ⟨x10, x11, x12, x13, x14, x15⟩, x20, x21, x22, x23, x24, x25⟩
                | exact HX.out _ K3.out)
              (first | (go_at_call 19; refine (HSY.out _ HKD.out AD.out).mono ?_; rintro e w3 ⟨rfl, pw3, g1, g2⟩; have A3 := Lib.hid g1; have K3 := Lib.hid (HKD.out.trans g2); clear g1 g2))
            all_goals
              have HR : Hid (∃ pv M', Wlk w3 c B o pv M' ∧ M' ++ lookQL Z (ar.drop (j + 1)) (ar'.drop (j + 1)) v = C2 ∧ M'.length + 2 * (gathL ownP (ar.drop (j + 1))).length ≤ Big ∧ Kp 35 (some c) B V w3) := ⟨_, _, A3.out, KL.out.1, KL.out.2, K3.out⟩
              clear A3 K3 KL HSY HX AD HKD
              go_wp2
              go_roundw
              case rel => exact ⟨j + 1, by omega, by go_num, HR⟩
              case measure => simp [intOf]; omega
          · have hje : j = la := by omega
            have HD : Hid (∃ v', Wlk wr c B o v' C2 ∧ Kp 35 (some c) B W wr) := by
              have h1 := CR.out
              rw [List.drop_of_length_le (by rw [HLA.out]; omega), lookQL, List.append_nil] at h1
              subst h1
              exact ⟨_, AC.out, K4.out.trans KC.out⟩
            clear AC CR GB KC
            go_wp2
            go_end0
            exact ⟨rfl, HD.out⟩
      · have e7 : (k == 7) = false := by rw [beq_eq_false_iff_ne]; exact h7
        have e8 : (k == 8) = false := by rw [beq_eq_false_iff_ne]; exact h8
        rw [lookP_0 Z nm u r rs ar k nm u r' rs' ar' v h5 h7 h8] at hC2
        have hv2 : Hid (v < 4) := hv
        have CR0 : Hid (L ++ lookQL Z (ar.drop 0) (ar'.drop 0) v = C2) := by rw [List.drop_zero, List.drop_zero]; exact hC2
        have GB0 : Hid (L.length + 2 * (gathL ownP (ar.drop 0)).length ≤ Big) := by show _ ≤ _; rw [List.drop_zero]; omega
        have K5 : Hid (Kp 35 (some c) B V V) := .refl _ _ _ V
        clear h5 h7 h8
        clear hb hA hA4 hb4 k4 I0 I1 hC2 ho0 ho1 hV hN hbig hlr hlr' hla hla' h0 h1 h2 h0' h1' h2' hsame hl5 hsl
        go_enter Try.func19, Try.ntmps19
        go_wp2
        rw [HV.out]
        try rw [HN.out]
        go_loopw [43] (fun i wr => ∃ j : Nat, j ≤ la ∧ i = .int .i64 j ∧ Hid (∃ pv M', Wlk wr c B o pv M' ∧ M' ++ lookQL Z (ar.drop j) (ar'.drop j) v = C2 ∧ M'.length + 2 * (gathL ownP (ar.drop j)).length ≤ Big ∧ Kp 35 (some c) B V wr)) (fun i _ => la - (intOf i).toNat)
        case atStart => exact ⟨0, Nat.zero_le _, rfl, _, _, A4.out, CR0.out, GB0.out, K5.out⟩
        clear A4 K5 CR0 GB0 p0 p1 p2 p3 p4 p5 s0 s1 s2 s3 s4 s5
        case round =>
          obtain ⟨j, hj, rfl, HQ⟩ := hrel
          obtain ⟨pw2, M2, q1, q2, q3, q4⟩ := HQ.out
          have AC := Lib.hid q1
          have CR := Lib.hid q2
          have GB := Lib.hid q3
          have KC := Lib.hid q4
          clear HQ q1 q2 q3 q4
          by_cases hjl : j < la
          · obtain ⟨bk, o', cs2, rfl, hlt, _, hs2, hc2⟩ := H2.out.get (by decide) (show j < ar.length by rw [HLA.out]; exact hjl)
            obtain ⟨bk', o1', ds2, rfl, hlt', _, hs2', hc2'⟩ := H2'.out.get (by decide) (show j < ar'.length by rw [HLA'.out]; exact hjl)
            obtain ⟨x1, hx1⟩ : ∃ x, ar[j]'(by rw [HLA.out]; exact hjl) = x := ⟨_, rfl⟩
            obtain ⟨x2, hx2⟩ : ∃ x, ar'[j]'(by rw [HLA'.out]; exact hjl) = x := ⟨_, rfl⟩
            rw [hx1] at hs2
            rw [hx2] at hs2'
            have hsm : sameP x1 x2 = true := by rw [← hx1, ← hx2]; exact sameL_get HSM.out _ _
            obtain ⟨k0, nm0, u0, r0, R0, lr0, cr0, A0, la0, ca0, rfl⟩ := hs2.shape
            obtain ⟨k1, nm1, u1, r1, R1, lr1, cr1, A1, la1, ca1, rfl⟩ := hs2'.shape
            have HKD : Hid (Kp 35 (some c) B V wr.drew) := KC.out.drew
            have AD := Lib.hid AC.out.drew
            have HX : Hid (∀ X, Kp 35 (some c) B V X → X.cell? ⟨N, 5, none⟩ = some (.slice (some ⟨bk, o', none⟩) la ca) ∧ X.cell? ⟨N + 1, 5, none⟩ = some (.slice (some ⟨bk', o1', none⟩) la ca') ∧ (X.cell? ⟨bk, o' + j * 6, none⟩ = some (.int .i64 k0) ∧ X.cell? ⟨bk, o' + j * 6 + 1, none⟩ = some (.string nm0) ∧ X.cell? ⟨bk, o' + j * 6 + 2, none⟩ = some (.bool u0) ∧ X.cell? ⟨bk, o' + j * 6 + 3, none⟩ = some (.int .i64 r0) ∧ X.cell? ⟨bk, o' + j * 6 + 4, none⟩ = some (.slice R0 lr0 cr0) ∧ X.cell? ⟨bk, o' + j * 6 + 5, none⟩ = some (.slice A0 la0 ca0)) ∧ (X.cell? ⟨bk', o1' + j * 6, none⟩ = some (.int .i64 k1) ∧ X.cell? ⟨bk', o1' + j * 6 + 1, none⟩ = some (.string nm1) ∧ X.cell? ⟨bk', o1' + j * 6 + 2, none⟩ = some (.bool u1) ∧ X.cell? ⟨bk', o1' + j * 6 + 3, none⟩ = some (.int .i64 r1) ∧ X.cell? ⟨bk', o1' + j * 6 + 4, none⟩ = some (.slice R1 lr1 cr1) ∧ X.cell? ⟨bk', o1' + j * 6 + 5, none⟩ = some (.slice A1 la1 ca1))) := fun X g => by
              obtain ⟨J1, J2⟩ := KI.out X g
              exact ⟨J1.at_ 5, J2.at_ 5, ⟨((HBX.out X g).cell hlt).trans (hc2 0 _ rfl), ((HBX.out X g).cell hlt).trans (hc2 1 _ rfl), ((HBX.out X g).cell hlt).trans (hc2 2 _ rfl), ((HBX.out X g).cell hlt).trans (hc2 3 _ rfl), ((HBX.out X g).cell hlt).trans (hc2 4 _ rfl), ((HBX.out X g).cell hlt).trans (hc2 5 _ rfl)⟩, ((HBX.out X g).cell hlt').trans (hc2' 0 _ rfl), ((HBX.out X g).cell hlt').trans (hc2' 1 _ rfl), ((HBX.out X g).cell hlt').trans (hc2' 2 _ rfl), ((HBX.out X g).cell hlt').trans (hc2' 3 _ rfl), ((HBX.out X g).cell hlt').trans (hc2' 4 _ rfl), ((HBX.out X g).cell hlt').trans (hc2' 5 _ rfl)⟩
            have CN : Hid (lookP Z x1 x2 v ++ lookQL Z (ar.drop (j + 1)) (ar'.drop (j + 1)) v = lookQL Z (ar.drop j) (ar'.drop j) v) := by
              show _ = _
              rw [List.drop_eq_getElem_cons (show j < ar.length by rw [HLA.out]; exact hjl), List.drop_eq_getElem_cons (show j < ar'.length by rw [HLA'.out]; exact hjl), lookQL, hx1, hx2]
            have HG : Hid ((gathL ownP (ar.drop j)).length = (allP x1).length + (gathL ownP (ar.drop (j + 1))).length) := by
              show _ = _
              rw [List.drop_eq_getElem_cons (show j < ar.length by rw [HLA.out]; exact hjl), gathL_cons, hx1, List.length_append]
            have HSY : Hid (∀ X, Kp 35 (some c) B V X → Wlk X c B o pw2 M2 → Calls Try.prog 19 #[.pointer (some ⟨c, 0, none⟩), .agg #[.int .i64 k0, .string nm0, .bool u0, .int .i64 r0, .slice R0 lr0 cr0, .slice A0 la0 ca0], .agg #[.int .i64 k1, .string nm1, .bool u1, .int .i64 r1, .slice R1 lr1 cr1, .slice A1 la1 ca1], .int .i64 (v : Int)] X fun e W' => e = .returned (.tuple #[]) ∧ ∃ v', Wlk W' c B o v' (M2 ++ lookP Z x1 x2 v) ∧ Kp 35 (some c) B X W') := fun X g g' =>
              IH.out x1 x2 _ _ m v X pw2 M2 hs2 hs2' hsm hv2.out (HBX.out X g) g' (by have h1 := GB.out; have h2 := HG.out; omega)
            obtain ⟨d0, d1, ⟨x10, x11, x12, x13, x14, x15⟩, x20, x21, x22, x23, x24, x25⟩ := HX.out wr.drew HKD.out
            have KL : Hid (M2 ++ lookP Z x1 x2 v ++ lookQL Z (ar.drop (j + 1)) (ar'.drop (j + 1)) v = C2 ∧ (M2 ++ lookP Z x1 x2 v).length + 2 * (gathL ownP (ar.drop (j + 1))).length ≤ Big) := by
              refine ⟨by rw [List.append_assoc, CN.out]; exact CR.out, ?_⟩
              have h1 := zipS_le (waysP Z x1 v) (allP x1) (allP x2)
              rw [← look_zip Z hsm v] at h1
              have h2 := GB.out
              have h3 := HG.out
              rw [List.length_append]
              omega
            clear hlt hlt' hc2 hc2' hx1 hx2 CR GB CN AC KC HG hs2 hs2' hsm
            go_wp2_with fail
            go_region_held3 (fun w' => w'.cell? ⟨N, 5, none⟩ = some (.slice (some ⟨bk, o', none⟩) la ca) ∧ w'.cell? ⟨N + 1, 5, none⟩ = some (.slice (some ⟨bk', o1', none⟩) la ca') ∧ (w'.cell? ⟨bk, o' + j * 6, none⟩ = some (.int .i64 k0) ∧ w'.cell? ⟨bk, o' + j * 6 + 1, none⟩ = some (.string nm0) ∧ w'.cell? ⟨bk, o' + j * 6 + 2, none⟩ = some (.bool u0) ∧ w'.cell? ⟨bk, o' + j * 6 + 3, none⟩ = some (.int .i64 r0) ∧ w'.cell? ⟨bk, o' + j * 6 + 4, none⟩ = some (.slice R0 lr0 cr0) ∧ w'.cell? ⟨bk, o' + j * 6 + 5, none⟩ = some (.slice A0 la0 ca0)) ∧ (w'.cell? ⟨bk', o1' + j * 6, none⟩ = some (.int .i64 k1) ∧ w'.cell? ⟨bk', o1' + j * 6 + 1, none⟩ = some (.string nm1) ∧ w'.cell? ⟨bk', o1' + j * 6 + 2, none⟩ = some (.bool u1) ∧ w'.cell? ⟨bk', o1' + j * 6 + 3, none⟩ = some (.int .i64 r1) ∧ w'.cell? ⟨bk', o1' + j * 6 + 4, none⟩ = some (.slice R1 lr1 cr1) ∧ w'.cell? ⟨bk', o1' + j * 6 + 5, none⟩ = some (.slice A1 la1 ca1)))
              (first
                | exact ⟨d0, d1, ⟨x10, x11, x12, x13, x14, x15⟩, x20, x21, x22, x23, x24, x25⟩
                | exact HX.out _ K3.out)
              (first | (go_at_call 19; refine (HSY.out _ HKD.out AD.out).mono ?_; rintro e w3 ⟨rfl, pw3, g1, g2⟩; have A3 := Lib.hid g1; have K3 := Lib.hid (HKD.out.trans g2); clear g1 g2))
            all_goals
              have HR : Hid (∃ pv M', Wlk w3 c B o pv M' ∧ M' ++ lookQL Z (ar.drop (j + 1)) (ar'.drop (j + 1)) v = C2 ∧ M'.length + 2 * (gathL ownP (ar.drop (j + 1))).length ≤ Big ∧ Kp 35 (some c) B V w3) := ⟨_, _, A3.out, KL.out.1, KL.out.2, K3.out⟩
              clear A3 K3 KL HSY HX AD HKD
              go_wp2
              go_roundw
              case rel => exact ⟨j + 1, by omega, by go_num, HR⟩
              case measure => simp [intOf]; omega
          · have hje : j = la := by omega
            have HD : Hid (∃ v', Wlk wr c B o v' C2 ∧ Kp 35 (some c) B W wr) := by
              have h1 := CR.out
              rw [List.drop_of_length_le (by rw [HLA.out]; omega), lookQL, List.append_nil] at h1
              subst h1
              exact ⟨_, AC.out, K4.out.trans KC.out⟩
            clear AC CR GB KC
            go_wp2
            go_end0
            exact ⟨rfl, HD.out⟩
theorem look_all (W0 : World) (c B : Nat) (o : Value) (Z : Ws) (HF : Hid (Fix W0 c o Z)) : ∀ n, LookOk W0 c B o Z n
  | 0 => fun _ _ _ _ _ _ _ _ _ h _ _ _ _ _ _ => h.elim
  | n + 1 => look_step W0 c B o Z n HF (Lib.hid (look_all W0 c B o Z HF n)) (Lib.hid (lookS_step W0 c B o Z n HF (Lib.hid (look_all W0 c B o Z HF n))))
end Sb
end Go.Proofs.Ytebnonbfjkielaa

/- Layer 8: the walk of look. -/
import Derived.Test.YtelmdidgmpbnmaaVaryE
namespace Go.Proofs.Ytelmdidgmpbnmaa
open Go.RowKit Go.Deep Tr Mp
namespace Vy
theorem look_5 {W : Ws} {k : Nat} {f : ByteArray → Option Nat} {kd : Int} (h : kd = 5) (nm : ByteArray) (u : Bool) (r : Int) (rs : List Int) (ar : List Ty) (v : Nat) (cur : List Nat) :
    look W k f (.mk kd nm u r rs ar) v cur = lookS W k f nm rs.length ar v (regsP W k nm v 0 rs cur) := by rw [look, if_pos h]
theorem look_7 {W : Ws} {k : Nat} {f : ByteArray → Option Nat} {kd : Int} (h : kd = 7) (nm : ByteArray) (u : Bool) (r : Int) (rs : List Int) (ar : List Ty) (v : Nat) (cur : List Nat) :
    look W k f (.mk kd nm u r rs ar) v cur = lookL W k f ar (if u then thr v 3 else v) (lifeP k r v cur) := by rw [look, if_neg (by omega), if_pos h]
theorem look_8 {W : Ws} {k : Nat} {f : ByteArray → Option Nat} {kd : Int} (h : kd = 8) (nm : ByteArray) (u : Bool) (r : Int) (rs : List Int) (ar : List Ty) (v : Nat) (cur : List Nat) :
    look W k f (.mk kd nm u r rs ar) v cur = lookL W k f ar v (lifeP k r v cur) := by rw [look, if_neg (by omega), if_neg (by omega), if_pos h]
theorem look_9 {W : Ws} {k : Nat} {f : ByteArray → Option Nat} {kd : Int} (h : kd = 9) (nm : ByteArray) (u : Bool) (r : Int) (rs : List Int) (ar : List Ty) (v : Nat) (cur : List Nat) :
    look W k f (.mk kd nm u r rs ar) v cur = lookL W k f ar v (paramP f nm v cur) := by rw [look, if_neg (by omega), if_neg (by omega), if_neg (by omega), if_pos h]
theorem look_0 {W : Ws} {k : Nat} {f : ByteArray → Option Nat} {kd : Int} (h5 : kd ≠ 5) (h7 : kd ≠ 7) (h8 : kd ≠ 8) (h9 : kd ≠ 9) (nm : ByteArray) (u : Bool) (r : Int) (rs : List Int) (ar : List Ty) (v : Nat) (cur : List Nat) :
    look W k f (.mk kd nm u r rs ar) v cur = lookL W k f ar v cur := by rw [look, if_neg h5, if_neg h7, if_neg h8, if_neg h9]
theorem look_box (w : World) (oF oT : Obj) (p : Pl) (o : Option Nat) (cs : Array Value) (h1 : oF = .cells (fldC p o) 54) (h2 : oT = .cells cs 34) :
    Is ((w.alloc oF).alloc oT) w.heap.size 54 (fldC p o) ∧ Is ((w.alloc oF).alloc oT) (w.heap.size + 1) 34 cs := by
  subst h1 h2
  refine ⟨(Is.made w _ _).alloc _, ?_⟩
  have := Is.made (w.alloc (.cells (fldC p o) 54)) 34 cs
  rwa [show (w.alloc (.cells (fldC p o) 54)).heap.size = w.heap.size + 1 by simp] at this
set_option maxHeartbeats 8000000 in
set_option maxRecDepth 100000 in
theorem look_step (n : Nat) (IH : Hid (LookOk n)) (IHS : Hid (LookSOk (n + 1))) : LookOk (n + 1) := by
  rintro ⟨kd, nm, u, r, rs, ar⟩ cs v W0 w p o W cur h hv he
  have HH := h
  obtain ⟨A, ca, B, cb, rfl, ⟨h0, h1⟩, h2⟩ := h
  obtain ⟨lr, hlr⟩ : ∃ n, rs.length = n := ⟨_, rfl⟩
  obtain ⟨la, hla⟩ : ∃ n, ar.length = n := ⟨_, rfl⟩
  have ha := h2.le
  rw [hla] at ha
  unfold maxLen at ha
  have HLA := Lib.hid hla
  rw [hlr, hla] at HH ⊢
  have H0 := Lib.hid h0
  have H2 := Lib.hid h2
  obtain ⟨oF, hoF⟩ : ∃ o', (Obj.cells (fldC p o) 54) = o' := ⟨_, rfl⟩
  obtain ⟨oT, hoT⟩ : ∃ o', (Obj.cells #[.int .i64 kd, .string nm, .bool u, .int .i64 r, .slice A lr ca, .slice B la cb] 34) = o' := ⟨_, rfl⟩
  obtain ⟨I0, I1⟩ := look_box w oF oT p o _ hoF.symm hoT.symm
  have hRlt : p.R < w.heap.size := he.fr.row.lt
  have E2 := Lib.hid ((he.alloc oF).alloc oT)
  have G2 : Hid (w.grownBy ((w.alloc oF).alloc oT) (some p.R)) := (World.grownBy_alloc w oF _).trans (World.grownBy_alloc _ oT _)
  obtain ⟨w2, hw2⟩ : ∃ x, (w.alloc oF).alloc oT = x := ⟨_, rfl⟩
  obtain ⟨F, hF⟩ : ∃ x, w.heap.size = x := ⟨_, rfl⟩
  rw [hw2] at E2 G2 I0 I1
  rw [hF] at I0 I1 hRlt
  have KF : Hid (∀ w', w2.grownBy w' (some p.R) → Is w' F 54 (fldC p o)) := fun w' g => I0.grown g (by intro e; injection e with e; omega)
  have KT : Hid (∀ w', w2.grownBy w' (some p.R) → Is w' (F + 1) 34 #[.int .i64 kd, .string nm, .bool u, .int .i64 r, .slice A lr ca, .slice B la cb]) := fun w' g => I1.grown g (by intro e; injection e with e; omega)
  have HW2 : Hid ((w.alloc (.cells #[.map o, .func (.func 21) #[] #[.pointer (some ⟨p.K, 0, none⟩), .pointer (some ⟨p.S, 0, none⟩)], .func (.func 22) #[] #[.pointer (some ⟨p.M, 0, none⟩), .pointer (some ⟨p.S, 0, none⟩)]] 54)).alloc (.cells #[.int .i64 kd, .string nm, .bool u, .int .i64 r, .slice A lr ca, .slice B la cb] 34) = w2) := by rw [← hw2, ← hoF, ← hoT]; exact rfl
  have HF := Lib.hid hF
  have HS := Lib.hid (IHS.out kd nm u r rs ar _ v W0 w2 p o W cur HH hv E2.out)
  obtain ⟨fin, hfin⟩ : ∃ c, look W p.k p.f (.mk kd nm u r rs ar) v cur = c := ⟨_, rfl⟩
  have CF := Lib.hid hfin
  rw [hfin]
  rw [show fldC p o = #[.map o, .func (.func 21) #[] #[.pointer (some ⟨p.K, 0, none⟩), .pointer (some ⟨p.S, 0, none⟩)], .func (.func 22) #[] #[.pointer (some ⟨p.M, 0, none⟩), .pointer (some ⟨p.S, 0, none⟩)]] from rfl]
  clear h0 h1 h2 hlr hla he I0 I1 hfin hoF hoT HH hw2 hF
  have e12 := grown_refl w2 (some p.R)
  by_cases h5 : kd = 5
  · have CF5 : Hid (lookS W p.k p.f nm rs.length ar v (regsP W p.k nm v 0 rs cur) = fin) := (look_5 h5 nm u r rs ar v cur).symm.trans CF.out
    subst h5
    go_enter Try.func23, Try.ntmps23
    go_wp2_with fail
    rw [HW2.out]
    refine HS.out.mono ?_
    rintro e w3 ⟨rfl, f3, g3⟩
    have F3 : Hid (Fr p w3 fin) := by rw [← CF5.out]; exact f3
    have G3 : Hid (w.grownBy w3 (some p.R)) := G2.out.trans g3
    clear f3 g3
    go_wp2
    refine bodyPost_ret (results_none (by kernel_rfl) _ _ _) rfl ?_
    exact ⟨rfl, F3.out, G3.out⟩
  · have h5' : (kd == 5) = false := by rw [beq_eq_false_iff_ne]; exact h5
    by_cases h7 : kd = 7
    · have CL : Hid (lookL W p.k p.f ar (if u then thr v 3 else v) (lifeP p.k r v cur) = fin) := (look_7 h7 nm u r rs ar v cur).symm.trans CF.out
      subst h7
      have HL := Lib.hid (life_any E2.out.fr r hv)
      go_enter Try.func23, Try.ntmps23
      go_wp2_with fail
      rw [HW2.out, HF.out]
      refine HL.out.mono ?_
      rintro e wt ⟨rfl, f3, g3⟩
      have GT : Hid (w2.grownBy wt (some p.R)) := g3
      have ET : Hid (Env W0 wt p o W (lifeP p.k r v cur)) := E2.out.next g3 f3
      have t2 := (KT.out wt g3).at_ 2
      have t5 := (KT.out wt g3).at_ 5
      simp only [List.getElem?_toArray, List.getElem?_cons_zero, List.getElem?_cons_succ] at t2 t5
      clear f3 g3 HL CF HS E2 e12
      cases u with
      | true =>
        have HT := Lib.hid (through_any (w := wt) hv (b := 3) (by decide))
        have hv2 : thr v 3 < 4 := thr_lt (by decide)
        rw [if_pos rfl] at CL
        go_wp2_with fail
        refine HT.out.mono ?_
        rintro e w' ⟨rfl, rfl⟩
        clear HT hv
        obtain ⟨v2, hv2e⟩ : ∃ x, thr v 3 = x := ⟨_, rfl⟩
        rw [hv2e] at CL hv2 ⊢
        clear hv2e
        go_wp2
        go_loopw [47] (fun i wr => ∃ j : Nat, j ≤ la ∧ i = .int .i64 j ∧ Hid (∃ c, Env W0 wr p o W c ∧ lookL W p.k p.f (ar.drop j) v2 c = fin ∧ w2.grownBy wr (some p.R))) (fun i _ => la - (intOf i).toNat)
        case atStart => exact ⟨0, Nat.zero_le _, rfl, _, ET.out, CL.out, GT.out⟩
        clear ET CL GT t5
        case round =>
          obtain ⟨j, hj, rfl, HC⟩ := hrel
          obtain ⟨c, hce, hcr, hcg⟩ := HC.out
          have EC := Lib.hid hce
          have CR := Lib.hid hcr
          have CG := Lib.hid hcg
          clear HC hce hcr hcg
          by_cases hjl : j < la
          · obtain ⟨bk, o', cs2, rfl, hlt, _, hs2, hc2⟩ := H2.out.get (by decide) (show j < ar.length by rw [HLA.out]; exact hjl)
            obtain ⟨x, hx⟩ : ∃ x, ar[j]'(by rw [HLA.out]; exact hjl) = x := ⟨_, rfl⟩
            rw [hx] at hs2
            obtain ⟨k0, nm0, u0, r0, R0, lr0, cr0, A0, la0, ca0, rfl⟩ := hs2.shape
            have x0 := (EC.out.bel.cell (p := ⟨bk, o' + j * 6 + 0, none⟩) hlt).trans (hc2 0 _ rfl)
            rw [Nat.add_zero] at x0
            have x1 := (EC.out.bel.cell (p := ⟨bk, o' + j * 6 + 1, none⟩) hlt).trans (hc2 1 _ rfl)
            have x2 := (EC.out.bel.cell (p := ⟨bk, o' + j * 6 + 2, none⟩) hlt).trans (hc2 2 _ rfl)
            have x3 := (EC.out.bel.cell (p := ⟨bk, o' + j * 6 + 3, none⟩) hlt).trans (hc2 3 _ rfl)
            have x4 := (EC.out.bel.cell (p := ⟨bk, o' + j * 6 + 4, none⟩) hlt).trans (hc2 4 _ rfl)
            have x5 := (EC.out.bel.cell (p := ⟨bk, o' + j * 6 + 5, none⟩) hlt).trans (hc2 5 _ rfl)
            obtain ⟨oN, hoN⟩ : ∃ o', (Obj.cells #[.int .i64 k0, .string nm0, .bool u0, .int .i64 r0, .slice R0 lr0 cr0, .slice A0 la0 ca0] 34) = o' := ⟨_, rfl⟩
            have EN := Lib.hid (EC.out.alloc oN)
            have GN : Hid (w2.grownBy (wr.alloc oN) (some p.R)) := CG.out.trans (World.grownBy_alloc wr oN _)
            have HX := Lib.hid hx
            have HS2 := Lib.hid hs2
            have HON := Lib.hid hoN
            have HFW : Hid (F < wr.heap.size) := (KF.out wr CG.out).lt
            have HTW : Hid (F + 1 < wr.heap.size) := (KT.out wr CG.out).lt
            have f0 := (KF.out _ GN.out).at_ 0
            have f1 := (KF.out _ GN.out).at_ 1
            have f2 := (KF.out _ GN.out).at_ 2
            simp only [fldC, List.getElem?_toArray, List.getElem?_cons_zero, List.getElem?_cons_succ] at f0 f1 f2
            rw [← hoN] at f0 f1 f2
            have HLI := Lib.hid (IH.out x _ v2 W0 (wr.alloc oN) p o W c HS2.out hv2 EN.out)
            have CN : Hid (lookL W p.k p.f (ar.drop (j + 1)) v2 (look W p.k p.f x v2 c) = fin) := by
              have := CR.out
              rw [List.drop_eq_getElem_cons (by rw [HLA.out]; exact hjl), lookL, HX.out] at this
              exact this
            clear hx hs2 hc2 hlt hoN EC CR CG
            go_wp2_with fail
            rw [HON.out]
            refine HLI.out.mono ?_
            rintro e w3 ⟨rfl, f3, g3⟩
            have HR : Hid (∃ c, Env W0 w3 p o W c ∧ lookL W p.k p.f (ar.drop (j + 1)) v2 c = fin ∧ w2.grownBy w3 (some p.R)) := ⟨_, EN.out.next g3 f3, CN.out, GN.out.trans g3⟩
            clear EN CN HLI GN f3 g3 f0 f1 f2 x0 x1 x2 x3 x4 x5
            go_wp2
            go_roundw
            case rel => exact ⟨j + 1, by omega, by go_num, HR⟩
            case measure => simp [intOf]; omega
          · have hje : j = la := by omega
            subst hje
            have C2 : Hid (c = fin) := by
              have := CR.out
              rw [List.drop_of_length_le (by rw [HLA.out]; exact Nat.le_refl _), lookL] at this
              exact this
            have FF : Hid (Fr p wr fin) := by rw [← C2.out]; exact EC.out.fr
            have GF : Hid (w.grownBy wr (some p.R)) := G2.out.trans CG.out
            clear CR C2 EC CG
            go_wp2
            go_end0
            exact ⟨rfl, FF.out, GF.out⟩
      | false =>
        have hv2 := hv
        rw [if_neg (by decide)] at CL
        go_wp2
        go_loopw [47] (fun i wr => ∃ j : Nat, j ≤ la ∧ i = .int .i64 j ∧ Hid (∃ c, Env W0 wr p o W c ∧ lookL W p.k p.f (ar.drop j) v c = fin ∧ w2.grownBy wr (some p.R))) (fun i _ => la - (intOf i).toNat)
        case atStart => exact ⟨0, Nat.zero_le _, rfl, _, ET.out, CL.out, GT.out⟩
        clear ET CL GT t5
        case round =>
          obtain ⟨j, hj, rfl, HC⟩ := hrel
          obtain ⟨c, hce, hcr, hcg⟩ := HC.out
          have EC := Lib.hid hce
          have CR := Lib.hid hcr
          have CG := Lib.hid hcg
          clear HC hce hcr hcg
          by_cases hjl : j < la
          · obtain ⟨bk, o', cs2, rfl, hlt, _, hs2, hc2⟩ := H2.out.get (by decide) (show j < ar.length by rw [HLA.out]; exact hjl)
            obtain ⟨x, hx⟩ : ∃ x, ar[j]'(by rw [HLA.out]; exact hjl) = x := ⟨_, rfl⟩
            rw [hx] at hs2
            obtain ⟨k0, nm0, u0, r0, R0, lr0, cr0, A0, la0, ca0, rfl⟩ := hs2.shape
            have x0 := (EC.out.bel.cell (p := ⟨bk, o' + j * 6 + 0, none⟩) hlt).trans (hc2 0 _ rfl)
            rw [Nat.add_zero] at x0
            have x1 := (EC.out.bel.cell (p := ⟨bk, o' + j * 6 + 1, none⟩) hlt).trans (hc2 1 _ rfl)
            have x2 := (EC.out.bel.cell (p := ⟨bk, o' + j * 6 + 2, none⟩) hlt).trans (hc2 2 _ rfl)
            have x3 := (EC.out.bel.cell (p := ⟨bk, o' + j * 6 + 3, none⟩) hlt).trans (hc2 3 _ rfl)
            have x4 := (EC.out.bel.cell (p := ⟨bk, o' + j * 6 + 4, none⟩) hlt).trans (hc2 4 _ rfl)
            have x5 := (EC.out.bel.cell (p := ⟨bk, o' + j * 6 + 5, none⟩) hlt).trans (hc2 5 _ rfl)
            obtain ⟨oN, hoN⟩ : ∃ o', (Obj.cells #[.int .i64 k0, .string nm0, .bool u0, .int .i64 r0, .slice R0 lr0 cr0, .slice A0 la0 ca0] 34) = o' := ⟨_, rfl⟩
            have EN := Lib.hid (EC.out.alloc oN)
            have GN : Hid (w2.grownBy (wr.alloc oN) (some p.R)) := CG.out.trans (World.grownBy_alloc wr oN _)
            have HX := Lib.hid hx
            have HS2 := Lib.hid hs2
            have HON := Lib.hid hoN
            have HFW : Hid (F < wr.heap.size) := (KF.out wr CG.out).lt
            have HTW : Hid (F + 1 < wr.heap.size) := (KT.out wr CG.out).lt
            have f0 := (KF.out _ GN.out).at_ 0
            have f1 := (KF.out _ GN.out).at_ 1
            have f2 := (KF.out _ GN.out).at_ 2
            simp only [fldC, List.getElem?_toArray, List.getElem?_cons_zero, List.getElem?_cons_succ] at f0 f1 f2
            rw [← hoN] at f0 f1 f2
            have HLI := Lib.hid (IH.out x _ v W0 (wr.alloc oN) p o W c HS2.out hv2 EN.out)
            have CN : Hid (lookL W p.k p.f (ar.drop (j + 1)) v (look W p.k p.f x v c) = fin) := by
              have := CR.out
              rw [List.drop_eq_getElem_cons (by rw [HLA.out]; exact hjl), lookL, HX.out] at this
              exact this
            clear hx hs2 hc2 hlt hoN EC CR CG
            go_wp2_with fail
            rw [HON.out]
            refine HLI.out.mono ?_
            rintro e w3 ⟨rfl, f3, g3⟩
            have HR : Hid (∃ c, Env W0 w3 p o W c ∧ lookL W p.k p.f (ar.drop (j + 1)) v c = fin ∧ w2.grownBy w3 (some p.R)) := ⟨_, EN.out.next g3 f3, CN.out, GN.out.trans g3⟩
            clear EN CN HLI GN f3 g3 f0 f1 f2 x0 x1 x2 x3 x4 x5
            go_wp2
            go_roundw
            case rel => exact ⟨j + 1, by omega, by go_num, HR⟩
            case measure => simp [intOf]; omega
          · have hje : j = la := by omega
            subst hje
            have C2 : Hid (c = fin) := by
              have := CR.out
              rw [List.drop_of_length_le (by rw [HLA.out]; exact Nat.le_refl _), lookL] at this
              exact this
            have FF : Hid (Fr p wr fin) := by rw [← C2.out]; exact EC.out.fr
            have GF : Hid (w.grownBy wr (some p.R)) := G2.out.trans CG.out
            clear CR C2 EC CG
            go_wp2
            go_end0
            exact ⟨rfl, FF.out, GF.out⟩
    · have h7' : (kd == 7) = false := by rw [beq_eq_false_iff_ne]; exact h7
      by_cases h8 : kd = 8
      · have CL : Hid (lookL W p.k p.f ar v (lifeP p.k r v cur) = fin) := (look_8 h8 nm u r rs ar v cur).symm.trans CF.out
        subst h8
        have HL := Lib.hid (life_any E2.out.fr r hv)
        go_enter Try.func23, Try.ntmps23
        go_wp2_with fail
        rw [HW2.out, HF.out]
        refine HL.out.mono ?_
        rintro e wt ⟨rfl, f3, g3⟩
        have GT : Hid (w2.grownBy wt (some p.R)) := g3
        have ET : Hid (Env W0 wt p o W (lifeP p.k r v cur)) := E2.out.next g3 f3
        have t5 := (KT.out wt g3).at_ 5
        simp only [List.getElem?_toArray, List.getElem?_cons_zero, List.getElem?_cons_succ] at t5
        have hv2 := hv
        clear f3 g3 HL CF HS E2 e12
        go_wp2
        go_loopw [47] (fun i wr => ∃ j : Nat, j ≤ la ∧ i = .int .i64 j ∧ Hid (∃ c, Env W0 wr p o W c ∧ lookL W p.k p.f (ar.drop j) v c = fin ∧ w2.grownBy wr (some p.R))) (fun i _ => la - (intOf i).toNat)
        case atStart => exact ⟨0, Nat.zero_le _, rfl, _, ET.out, CL.out, GT.out⟩
        clear ET CL GT t5
        case round =>
          obtain ⟨j, hj, rfl, HC⟩ := hrel
          obtain ⟨c, hce, hcr, hcg⟩ := HC.out
          have EC := Lib.hid hce
          have CR := Lib.hid hcr
          have CG := Lib.hid hcg
          clear HC hce hcr hcg
          by_cases hjl : j < la
          · obtain ⟨bk, o', cs2, rfl, hlt, _, hs2, hc2⟩ := H2.out.get (by decide) (show j < ar.length by rw [HLA.out]; exact hjl)
            obtain ⟨x, hx⟩ : ∃ x, ar[j]'(by rw [HLA.out]; exact hjl) = x := ⟨_, rfl⟩
            rw [hx] at hs2
            obtain ⟨k0, nm0, u0, r0, R0, lr0, cr0, A0, la0, ca0, rfl⟩ := hs2.shape
            have x0 := (EC.out.bel.cell (p := ⟨bk, o' + j * 6 + 0, none⟩) hlt).trans (hc2 0 _ rfl)
            rw [Nat.add_zero] at x0
            have x1 := (EC.out.bel.cell (p := ⟨bk, o' + j * 6 + 1, none⟩) hlt).trans (hc2 1 _ rfl)
            have x2 := (EC.out.bel.cell (p := ⟨bk, o' + j * 6 + 2, none⟩) hlt).trans (hc2 2 _ rfl)
            have x3 := (EC.out.bel.cell (p := ⟨bk, o' + j * 6 + 3, none⟩) hlt).trans (hc2 3 _ rfl)
            have x4 := (EC.out.bel.cell (p := ⟨bk, o' + j * 6 + 4, none⟩) hlt).trans (hc2 4 _ rfl)
            have x5 := (EC.out.bel.cell (p := ⟨bk, o' + j * 6 + 5, none⟩) hlt).trans (hc2 5 _ rfl)
            obtain ⟨oN, hoN⟩ : ∃ o', (Obj.cells #[.int .i64 k0, .string nm0, .bool u0, .int .i64 r0, .slice R0 lr0 cr0, .slice A0 la0 ca0] 34) = o' := ⟨_, rfl⟩
            have EN := Lib.hid (EC.out.alloc oN)
            have GN : Hid (w2.grownBy (wr.alloc oN) (some p.R)) := CG.out.trans (World.grownBy_alloc wr oN _)
            have HX := Lib.hid hx
            have HS2 := Lib.hid hs2
            have HON := Lib.hid hoN
            have HFW : Hid (F < wr.heap.size) := (KF.out wr CG.out).lt
            have HTW : Hid (F + 1 < wr.heap.size) := (KT.out wr CG.out).lt
            have f0 := (KF.out _ GN.out).at_ 0
            have f1 := (KF.out _ GN.out).at_ 1
            have f2 := (KF.out _ GN.out).at_ 2
            simp only [fldC, List.getElem?_toArray, List.getElem?_cons_zero, List.getElem?_cons_succ] at f0 f1 f2
            rw [← hoN] at f0 f1 f2
            have HLI := Lib.hid (IH.out x _ v W0 (wr.alloc oN) p o W c HS2.out hv2 EN.out)
            have CN : Hid (lookL W p.k p.f (ar.drop (j + 1)) v (look W p.k p.f x v c) = fin) := by
              have := CR.out
              rw [List.drop_eq_getElem_cons (by rw [HLA.out]; exact hjl), lookL, HX.out] at this
              exact this
            clear hx hs2 hc2 hlt hoN EC CR CG
            go_wp2_with fail
            rw [HON.out]
            refine HLI.out.mono ?_
            rintro e w3 ⟨rfl, f3, g3⟩
            have HR : Hid (∃ c, Env W0 w3 p o W c ∧ lookL W p.k p.f (ar.drop (j + 1)) v c = fin ∧ w2.grownBy w3 (some p.R)) := ⟨_, EN.out.next g3 f3, CN.out, GN.out.trans g3⟩
            clear EN CN HLI GN f3 g3 f0 f1 f2 x0 x1 x2 x3 x4 x5
            go_wp2
            go_roundw
            case rel => exact ⟨j + 1, by omega, by go_num, HR⟩
            case measure => simp [intOf]; omega
          · have hje : j = la := by omega
            subst hje
            have C2 : Hid (c = fin) := by
              have := CR.out
              rw [List.drop_of_length_le (by rw [HLA.out]; exact Nat.le_refl _), lookL] at this
              exact this
            have FF : Hid (Fr p wr fin) := by rw [← C2.out]; exact EC.out.fr
            have GF : Hid (w.grownBy wr (some p.R)) := G2.out.trans CG.out
            clear CR C2 EC CG
            go_wp2
            go_end0
            exact ⟨rfl, FF.out, GF.out⟩
      · have h8' : (kd == 8) = false := by rw [beq_eq_false_iff_ne]; exact h8
        by_cases h9 : kd = 9
        · have CL : Hid (lookL W p.k p.f ar v (paramP p.f nm v cur) = fin) := (look_9 h9 nm u r rs ar v cur).symm.trans CF.out
          subst h9
          have HL := Lib.hid (param_any E2.out.fr H0.out hv)
          go_enter Try.func23, Try.ntmps23
          go_wp2_with fail
          rw [HW2.out, HF.out]
          refine HL.out.mono ?_
          rintro e wt ⟨rfl, f3, g3⟩
          have GT : Hid (w2.grownBy wt (some p.R)) := g3
          have ET : Hid (Env W0 wt p o W (paramP p.f nm v cur)) := E2.out.next g3 f3
          have t5 := (KT.out wt g3).at_ 5
          simp only [List.getElem?_toArray, List.getElem?_cons_zero, List.getElem?_cons_succ] at t5
          have hv2 := hv
          clear f3 g3 HL CF HS E2 e12
          go_wp2
          go_loopw [47] (fun i wr => ∃ j : Nat, j ≤ la ∧ i = .int .i64 j ∧ Hid (∃ c, Env W0 wr p o W c ∧ lookL W p.k p.f (ar.drop j) v c = fin ∧ w2.grownBy wr (some p.R))) (fun i _ => la - (intOf i).toNat)
          case atStart => exact ⟨0, Nat.zero_le _, rfl, _, ET.out, CL.out, GT.out⟩
          clear ET CL GT t5
          case round =>
            obtain ⟨j, hj, rfl, HC⟩ := hrel
            obtain ⟨c, hce, hcr, hcg⟩ := HC.out
            have EC := Lib.hid hce
            have CR := Lib.hid hcr
            have CG := Lib.hid hcg
            clear HC hce hcr hcg
            by_cases hjl : j < la
            · obtain ⟨bk, o', cs2, rfl, hlt, _, hs2, hc2⟩ := H2.out.get (by decide) (show j < ar.length by rw [HLA.out]; exact hjl)
              obtain ⟨x, hx⟩ : ∃ x, ar[j]'(by rw [HLA.out]; exact hjl) = x := ⟨_, rfl⟩
              rw [hx] at hs2
              obtain ⟨k0, nm0, u0, r0, R0, lr0, cr0, A0, la0, ca0, rfl⟩ := hs2.shape
              have x0 := (EC.out.bel.cell (p := ⟨bk, o' + j * 6 + 0, none⟩) hlt).trans (hc2 0 _ rfl)
              rw [Nat.add_zero] at x0
              have x1 := (EC.out.bel.cell (p := ⟨bk, o' + j * 6 + 1, none⟩) hlt).trans (hc2 1 _ rfl)
              have x2 := (EC.out.bel.cell (p := ⟨bk, o' + j * 6 + 2, none⟩) hlt).trans (hc2 2 _ rfl)
              have x3 := (EC.out.bel.cell (p := ⟨bk, o' + j * 6 + 3, none⟩) hlt).trans (hc2 3 _ rfl)
              have x4 := (EC.out.bel.cell (p := ⟨bk, o' + j * 6 + 4, none⟩) hlt).trans (hc2 4 _ rfl)
              have x5 := (EC.out.bel.cell (p := ⟨bk, o' + j * 6 + 5, none⟩) hlt).trans (hc2 5 _ rfl)
              obtain ⟨oN, hoN⟩ : ∃ o', (Obj.cells #[.int .i64 k0, .string nm0, .bool u0, .int .i64 r0, .slice R0 lr0 cr0, .slice A0 la0 ca0] 34) = o' := ⟨_, rfl⟩
              have EN := Lib.hid (EC.out.alloc oN)
              have GN : Hid (w2.grownBy (wr.alloc oN) (some p.R)) := CG.out.trans (World.grownBy_alloc wr oN _)
              have HX := Lib.hid hx
              have HS2 := Lib.hid hs2
              have HON := Lib.hid hoN
              have HFW : Hid (F < wr.heap.size) := (KF.out wr CG.out).lt
              have HTW : Hid (F + 1 < wr.heap.size) := (KT.out wr CG.out).lt
              have f0 := (KF.out _ GN.out).at_ 0
              have f1 := (KF.out _ GN.out).at_ 1
              have f2 := (KF.out _ GN.out).at_ 2
              simp only [fldC, List.getElem?_toArray, List.getElem?_cons_zero, List.getElem?_cons_succ] at f0 f1 f2
              rw [← hoN] at f0 f1 f2
              have HLI := Lib.hid (IH.out x _ v W0 (wr.alloc oN) p o W c HS2.out hv2 EN.out)
              have CN : Hid (lookL W p.k p.f (ar.drop (j + 1)) v (look W p.k p.f x v c) = fin) := by
                have := CR.out
                rw [List.drop_eq_getElem_cons (by rw [HLA.out]; exact hjl), lookL, HX.out] at this
                exact this
              clear hx hs2 hc2 hlt hoN EC CR CG
              go_wp2_with fail
              rw [HON.out]
              refine HLI.out.mono ?_
              rintro e w3 ⟨rfl, f3, g3⟩
              have HR : Hid (∃ c, Env W0 w3 p o W c ∧ lookL W p.k p.f (ar.drop (j + 1)) v c = fin ∧ w2.grownBy w3 (some p.R)) := ⟨_, EN.out.next g3 f3, CN.out, GN.out.trans g3⟩
              clear EN CN HLI GN f3 g3 f0 f1 f2 x0 x1 x2 x3 x4 x5
              go_wp2
              go_roundw
              case rel => exact ⟨j + 1, by omega, by go_num, HR⟩
              case measure => simp [intOf]; omega
            · have hje : j = la := by omega
              subst hje
              have C2 : Hid (c = fin) := by
                have := CR.out
                rw [List.drop_of_length_le (by rw [HLA.out]; exact Nat.le_refl _), lookL] at this
                exact this
              have FF : Hid (Fr p wr fin) := by rw [← C2.out]; exact EC.out.fr
              have GF : Hid (w.grownBy wr (some p.R)) := G2.out.trans CG.out
              clear CR C2 EC CG
              go_wp2
              go_end0
              exact ⟨rfl, FF.out, GF.out⟩
        · have h9' : (kd == 9) = false := by rw [beq_eq_false_iff_ne]; exact h9
          have CL : Hid (lookL W p.k p.f ar v cur = fin) := (look_0 h5 h7 h8 h9 nm u r rs ar v cur).symm.trans CF.out
          have GT : Hid (w2.grownBy w2 (some p.R)) := e12
          have ET : Hid (Env W0 w2 p o W cur) := E2.out
          have hv2 := hv
          clear CF HS E2 e12
          go_enter Try.func23, Try.ntmps23
          go_wp2
          rw [HW2.out, HF.out]
          go_loopw [47] (fun i wr => ∃ j : Nat, j ≤ la ∧ i = .int .i64 j ∧ Hid (∃ c, Env W0 wr p o W c ∧ lookL W p.k p.f (ar.drop j) v c = fin ∧ w2.grownBy wr (some p.R))) (fun i _ => la - (intOf i).toNat)
          case atStart => exact ⟨0, Nat.zero_le _, rfl, _, ET.out, CL.out, GT.out⟩
          clear ET CL GT
          case round =>
            obtain ⟨j, hj, rfl, HC⟩ := hrel
            obtain ⟨c, hce, hcr, hcg⟩ := HC.out
            have EC := Lib.hid hce
            have CR := Lib.hid hcr
            have CG := Lib.hid hcg
            clear HC hce hcr hcg
            by_cases hjl : j < la
            · obtain ⟨bk, o', cs2, rfl, hlt, _, hs2, hc2⟩ := H2.out.get (by decide) (show j < ar.length by rw [HLA.out]; exact hjl)
              obtain ⟨x, hx⟩ : ∃ x, ar[j]'(by rw [HLA.out]; exact hjl) = x := ⟨_, rfl⟩
              rw [hx] at hs2
              obtain ⟨k0, nm0, u0, r0, R0, lr0, cr0, A0, la0, ca0, rfl⟩ := hs2.shape
              have x0 := (EC.out.bel.cell (p := ⟨bk, o' + j * 6 + 0, none⟩) hlt).trans (hc2 0 _ rfl)
              rw [Nat.add_zero] at x0
              have x1 := (EC.out.bel.cell (p := ⟨bk, o' + j * 6 + 1, none⟩) hlt).trans (hc2 1 _ rfl)
              have x2 := (EC.out.bel.cell (p := ⟨bk, o' + j * 6 + 2, none⟩) hlt).trans (hc2 2 _ rfl)
              have x3 := (EC.out.bel.cell (p := ⟨bk, o' + j * 6 + 3, none⟩) hlt).trans (hc2 3 _ rfl)
              have x4 := (EC.out.bel.cell (p := ⟨bk, o' + j * 6 + 4, none⟩) hlt).trans (hc2 4 _ rfl)
              have x5 := (EC.out.bel.cell (p := ⟨bk, o' + j * 6 + 5, none⟩) hlt).trans (hc2 5 _ rfl)
              obtain ⟨oN, hoN⟩ : ∃ o', (Obj.cells #[.int .i64 k0, .string nm0, .bool u0, .int .i64 r0, .slice R0 lr0 cr0, .slice A0 la0 ca0] 34) = o' := ⟨_, rfl⟩
              have EN := Lib.hid (EC.out.alloc oN)
              have GN : Hid (w2.grownBy (wr.alloc oN) (some p.R)) := CG.out.trans (World.grownBy_alloc wr oN _)
              have HX := Lib.hid hx
              have HS2 := Lib.hid hs2
              have HON := Lib.hid hoN
              have HFW : Hid (F < wr.heap.size) := (KF.out wr CG.out).lt
              have HTW : Hid (F + 1 < wr.heap.size) := (KT.out wr CG.out).lt
              have f0 := (KF.out _ GN.out).at_ 0
              have f1 := (KF.out _ GN.out).at_ 1
              have f2 := (KF.out _ GN.out).at_ 2
              simp only [fldC, List.getElem?_toArray, List.getElem?_cons_zero, List.getElem?_cons_succ] at f0 f1 f2
              rw [← hoN] at f0 f1 f2
              have HLI := Lib.hid (IH.out x _ v W0 (wr.alloc oN) p o W c HS2.out hv2 EN.out)
              have CN : Hid (lookL W p.k p.f (ar.drop (j + 1)) v (look W p.k p.f x v c) = fin) := by
                have := CR.out
                rw [List.drop_eq_getElem_cons (by rw [HLA.out]; exact hjl), lookL, HX.out] at this
                exact this
              clear hx hs2 hc2 hlt hoN EC CR CG
              go_wp2_with fail
              rw [HON.out]
              refine HLI.out.mono ?_
              rintro e w3 ⟨rfl, f3, g3⟩
              have HR : Hid (∃ c, Env W0 w3 p o W c ∧ lookL W p.k p.f (ar.drop (j + 1)) v c = fin ∧ w2.grownBy w3 (some p.R)) := ⟨_, EN.out.next g3 f3, CN.out, GN.out.trans g3⟩
              clear EN CN HLI GN f3 g3 f0 f1 f2 x0 x1 x2 x3 x4 x5
              go_wp2
              go_roundw
              case rel => exact ⟨j + 1, by omega, by go_num, HR⟩
              case measure => simp [intOf]; omega
            · have hje : j = la := by omega
              subst hje
              have C2 : Hid (c = fin) := by
                have := CR.out
                rw [List.drop_of_length_le (by rw [HLA.out]; exact Nat.le_refl _), lookL] at this
                exact this
              have FF : Hid (Fr p wr fin) := by rw [← C2.out]; exact EC.out.fr
              have GF : Hid (w.grownBy wr (some p.R)) := G2.out.trans CG.out
              clear CR C2 EC CG
              go_wp2
              go_end0
              exact ⟨rfl, FF.out, GF.out⟩
end Vy
end Go.Proofs.Ytelmdidgmpbnmaa

/- Layer 8: the walks of look and lookStruct. -/
import Derived.Deep.RegionHeld3
import Derived.Test.YtelmdidgmpbnmaaVaryD
namespace Go.Proofs.Ytelmdidgmpbnmaa
open Go.RowKit Go.Deep Tr Mp
namespace Vy
/-- The closures, and the ways, as the struct 'fields' has them. -/
def fldC (p : Pl) (o : Option Nat) : Array Value := #[.map o, .func (.func 21) #[] #[.pointer (some ⟨p.K, 0, none⟩), .pointer (some ⟨p.S, 0, none⟩)], .func (.func 22) #[] #[.pointer (some ⟨p.M, 0, none⟩), .pointer (some ⟨p.S, 0, none⟩)]]
structure Env (W0 w : World) (p : Pl) (o : Option Nat) (W : Ws) (cur : List Nat) : Prop where
  ways : WaysAt W0 (.map o) W
  sub : WSub W W
  bel : Below W0.heap.size W0 w
  far : W0.heap.size ≤ p.R
  fr : Fr p w cur
def LookOk (n : Nat) : Prop := ∀ (x : Ty) (cs : List Value) (v : Nat) (W0 w : World) (p : Pl) (o : Option Nat) (W : Ws) (cur : List Nat), TyAt W0 n x cs → v < 4 → Env W0 w p o W cur →
  Calls Try.prog 23 #[.agg (fldC p o), .agg cs.toArray, .int .i64 (v : Int)] w fun e w' => e = .returned (.tuple #[]) ∧ Fr p w' (look W p.k p.f x v cur) ∧ w.grownBy w' (some p.R)
def LookSOk (n : Nat) : Prop := ∀ (kd : Int) (nm : ByteArray) (u : Bool) (r : Int) (rs : List Int) (ar : List Ty) (cs : List Value) (v : Nat) (W0 w : World) (p : Pl) (o : Option Nat) (W : Ws) (cur : List Nat), TyAt W0 n (.mk kd nm u r rs ar) cs → v < 4 → Env W0 w p o W cur →
  Calls Try.prog 25 #[.agg (fldC p o), .agg cs.toArray, .int .i64 (v : Int)] w fun e w' => e = .returned (.tuple #[]) ∧ Fr p w' (lookS W p.k p.f nm rs.length ar v (regsP W p.k nm v 0 rs cur)) ∧ w.grownBy w' (some p.R)
section
variable {W0 w w' : World} {p : Pl} {o : Option Nat} {W : Ws} {cur cur' : List Nat}
theorem Env.next (h : Env W0 w p o W cur) (hg : w.grownBy w' (some p.R)) (hf : Fr p w' cur') : Env W0 w' p o W cur' :=
  ⟨h.ways, h.sub, h.bel.grown hg h.bel.size (fun j hj => by cases hj; exact h.far), h.far, hf⟩
theorem Env.alloc (h : Env W0 w p o W cur) (x : Obj) : Env W0 (w.alloc x) p o W cur := ⟨h.ways, h.sub, h.bel.alloc h.bel.size x, h.far, h.fr.alloc x⟩
theorem Env.drew (h : Env W0 w p o W cur) : Env W0 w.drew p o W cur := ⟨h.ways, h.sub, ⟨h.bel.os, h.bel.tape, h.bel.output, h.bel.size, h.bel.block⟩, h.far, h.fr.drew⟩
end
theorem grown_drew {x y : World} {r : Option Nat} (h : x.grownBy y r) : x.grownBy y.drew r := ⟨h.os, h.tape, h.output, h.size, h.block⟩
theorem bel_drew {B : Nat} {x y : World} (h : Below B x y) : Below B x y.drew := ⟨h.os, h.tape, h.output, h.size, h.block⟩
set_option maxHeartbeats 4000000 in
set_option maxRecDepth 100000 in
theorem lookS_step (n : Nat) (IH : Hid (LookOk n)) : LookSOk (n + 1) := by
  intro kd nm u r rs ar cs v W0 w p o W cur h hv he
  obtain ⟨A, ca, B, cb, rfl, ⟨h0, h1⟩, h2⟩ := h
  obtain ⟨lr, hlr⟩ : ∃ n, rs.length = n := ⟨_, rfl⟩
  obtain ⟨la, hla⟩ : ∃ n, ar.length = n := ⟨_, rfl⟩
  have hr := h1.le
  have ha := h2.le
  rw [hlr] at hr
  rw [hla] at ha
  unfold maxLen at hr ha
  have HLR := Lib.hid hlr
  have HLA := Lib.hid hla
  rw [hlr, hla]
  have H0 := Lib.hid h0
  have H1 := Lib.hid h1
  have H2 := Lib.hid h2
  have HE := Lib.hid he
  obtain ⟨oF, hoF⟩ : ∃ o', (Obj.cells (fldC p o) 54) = o' := ⟨_, rfl⟩
  obtain ⟨oT, hoT⟩ : ∃ o', (Obj.cells #[.int .i64 kd, .string nm, .bool u, .int .i64 r, .slice A lr ca, .slice B la cb] 34) = o' := ⟨_, rfl⟩
  have I0 : Is ((w.alloc oF).alloc oT) w.heap.size 54 (fldC p o) := by rw [← hoF]; exact (Is.made w _ _).alloc _
  have I1 : Is ((w.alloc oF).alloc oT) (w.heap.size + 1) 34 #[.int .i64 kd, .string nm, .bool u, .int .i64 r, .slice A lr ca, .slice B la cb] := by
    rw [← hoT]
    have := Is.made (w.alloc oF) 34 #[.int .i64 kd, .string nm, .bool u, .int .i64 r, .slice A lr ca, .slice B la cb]
    rwa [show (w.alloc oF).heap.size = w.heap.size + 1 by simp] at this
  have hRlt : p.R < w.heap.size := he.fr.row.lt
  have E2 := Lib.hid ((he.alloc oF).alloc oT)
  have G2 : Hid (w.grownBy ((w.alloc oF).alloc oT) (some p.R)) := (World.grownBy_alloc w oF _).trans (World.grownBy_alloc _ oT _)
  have HI0 := Lib.hid I0
  have HI1 := Lib.hid I1
  have HOF := Lib.hid hoF
  have HOT := Lib.hid hoT
  obtain ⟨cur1, hcur1⟩ : ∃ c, regsP W p.k nm v 0 rs cur = c := ⟨_, rfl⟩
  obtain ⟨fin, hfin⟩ : ∃ c, lookS W p.k p.f nm lr ar v cur1 = c := ⟨_, rfl⟩
  have C1 := Lib.hid hcur1
  have CF := Lib.hid hfin
  rw [hcur1, hfin]
  clear h0 h1 h2 hlr hla he I0 I1 hcur1 hfin hoF hoT
  go_enter Try.func25, Try.ntmps25
  go_wp2
  rw [HOF.out, HOT.out]
  obtain ⟨w2, hw2⟩ : ∃ x, (w.alloc oF).alloc oT = x := ⟨_, rfl⟩
  rw [hw2] at E2 G2 HI0 HI1 ⊢
  clear hw2 HOF HOT
  obtain ⟨F, hF⟩ : ∃ x, w.heap.size = x := ⟨_, rfl⟩
  rw [hF] at HI0 HI1 hRlt ⊢
  clear hF
  have KF : Hid (∀ w', w2.grownBy w' (some p.R) → Is w' F 54 (fldC p o)) := fun w' g => HI0.out.grown g (by intro e; injection e with e; omega)
  have KT : Hid (∀ w', w2.grownBy w' (some p.R) → Is w' (F + 1) 34 #[.int .i64 kd, .string nm, .bool u, .int .i64 r, .slice A lr ca, .slice B la cb]) := fun w' g => HI1.out.grown g (by intro e; injection e with e; omega)
  have HF4 : Hid (∀ i, wayOf W nm i < 4) := fun i => E2.out.sub.few nm i
  go_loopw [13] (fun i wr => ∃ q : Nat, q ≤ lr ∧ i = .int .i64 q ∧ Hid (∃ c, Env W0 wr p o W c ∧ regsP W p.k nm v q (rs.drop q) c = cur1 ∧ w2.grownBy wr (some p.R))) (fun i _ => lr - (intOf i).toNat)
  case atStart => exact ⟨0, Nat.zero_le _, rfl, cur, E2.out, C1.out, grown_refl _ _⟩
  case round =>
    obtain ⟨q, hq, rfl, HC⟩ := hrel
    obtain ⟨c, hce, hcr, hcg⟩ := HC.out
    have EC := Lib.hid hce
    have CR := Lib.hid hcr
    have CG := Lib.hid hcg
    have f0 := (KF.out wr hcg).at_ 0
    have f1 := (KF.out wr hcg).at_ 1
    have t1 := (KT.out wr hcg).at_ 1
    have t5 := (KT.out wr hcg).at_ 5
    simp only [fldC, List.getElem?_toArray, List.getElem?_cons_zero, List.getElem?_cons_succ] at f0 f1 t1 t5
    clear HC hce hcr hcg
    by_cases hql : q < lr
    · obtain ⟨bk, o', rfl, _, hc⟩ := int_at (H1.out.below EC.out.bel (fun _ _ _ h => h)) (show q < rs.length by rw [HLR.out]; exact hql)
      obtain ⟨r1, hr1⟩ : ∃ x, rs[q]'(by rw [HLR.out]; exact hql) = x := ⟨_, rfl⟩
      obtain ⟨y, hy⟩ : ∃ x, wayOf W nm q = x := ⟨_, rfl⟩
      have hy4 := HF4.out q
      rw [hy] at hy4
      rw [hr1] at hc
      have HO := of_any (EC.out.drew.ways.below EC.out.drew.bel) H0.out q
      rw [hy] at HO
      have HO := Lib.hid HO
      have HT := Lib.hid (through_any (w := wr.drew) hv hy4)
      have HLI := Lib.hid (life_any EC.out.drew.fr r1 (thr_lt (a := v) hy4))
      have CN : Hid (regsP W p.k nm v (q + 1) (rs.drop (q + 1)) (lifeP p.k r1 (thr v y) c) = cur1) := by
        have := CR.out
        rw [List.drop_eq_getElem_cons (by rw [HLR.out]; exact hql), regsP, hr1, hy] at this
        exact this
      clear hr1 hy t5
      go_wp2_with fail
      go_region_held3 (fun w' => w'.cell? ⟨F, 0, none⟩ = some (.map o) ∧ w'.cell? ⟨F, 1, none⟩ = some (.func (.func 21) #[] #[.pointer (some ⟨p.K, 0, none⟩), .pointer (some ⟨p.S, 0, none⟩)]) ∧ w'.cell? ⟨F + 1, 1, none⟩ = some (.string nm))
        (first
          | exact ⟨f0, f1, t1⟩
          | exact ⟨(KF.out _ G3.out).at_ 0, (KF.out _ G3.out).at_ 1, (KT.out _ G3.out).at_ 1⟩)
        (first
          | (go_at_call 9; refine HO.out.mono ?_; rintro e w' ⟨rfl, rfl⟩)
          | (go_at_call 7; refine HT.out.mono ?_; rintro e w' ⟨rfl, rfl⟩)
          | (refine HLI.out.mono ?_; rintro e w3 ⟨rfl, f3, g3⟩; have F3 := Lib.hid f3; have G3 : Hid (w2.grownBy w3 (some p.R)) := (grown_drew CG.out).trans g3; have E3 : Hid (Env W0 w3 p o W (lifeP p.k r1 (thr v y) c)) := EC.out.drew.next g3 f3; clear f3 g3))
      all_goals
        have HR : Hid (∃ c, Env W0 w3 p o W c ∧ regsP W p.k nm v (q + 1) (rs.drop (q + 1)) c = cur1 ∧ w2.grownBy w3 (some p.R)) := ⟨_, E3.out, CN.out, G3.out⟩
        clear EC CR CG HO HT HLI CN F3 G3 E3
        go_wp2
        go_roundw
        case rel => exact ⟨q + 1, by omega, by go_num, HR⟩
        case measure => simp [intOf]; omega
    · have hqe : q = lr := by omega
      subst hqe
      have C2 : Hid (c = cur1) := by
        have := CR.out
        rw [List.drop_of_length_le (by rw [HLR.out]; exact Nat.le_refl _), regsP] at this
        exact this
      have EC : Hid (Env W0 wr p o W cur1) := by rw [← C2.out]; exact EC.out
      clear t1 f0 f1 C2 CR C1 HI0 HI1 E2
      go_wp2
      go_loopw [34] (fun i wr => ∃ j : Nat, j ≤ la ∧ i = .int .i64 j ∧ Hid (∃ c, Env W0 wr p o W c ∧ lookS W p.k p.f nm (q + j) (ar.drop j) v c = fin ∧ w2.grownBy wr (some p.R))) (fun i _ => la - (intOf i).toNat)
      case atStart => exact ⟨0, Nat.zero_le _, rfl, cur1, EC.out, CF.out, CG.out⟩
      clear EC CG CF t5
      case round =>
        obtain ⟨j, hj, rfl, HC⟩ := hrel
        obtain ⟨c, hce, hcr, hcg⟩ := HC.out
        have EC := Lib.hid hce
        have CR := Lib.hid hcr
        have CG := Lib.hid hcg
        clear HC hce hcr hcg
        by_cases hjl : j < la
        · obtain ⟨bk, o', cs2, rfl, hlt, _, hs2, hc2⟩ := H2.out.get (by decide) (show j < ar.length by rw [HLA.out]; exact hjl)
          obtain ⟨x, hx⟩ : ∃ x, ar[j]'(by rw [HLA.out]; exact hjl) = x := ⟨_, rfl⟩
          rw [hx] at hs2
          obtain ⟨k0, nm0, u0, r0, R0, lr0, cr0, A0, la0, ca0, rfl⟩ := hs2.shape
          have x0 := (EC.out.bel.cell (p := ⟨bk, o' + j * 6 + 0, none⟩) hlt).trans (hc2 0 _ rfl)
          rw [Nat.add_zero] at x0
          have x1 := (EC.out.bel.cell (p := ⟨bk, o' + j * 6 + 1, none⟩) hlt).trans (hc2 1 _ rfl)
          have x2 := (EC.out.bel.cell (p := ⟨bk, o' + j * 6 + 2, none⟩) hlt).trans (hc2 2 _ rfl)
          have x3 := (EC.out.bel.cell (p := ⟨bk, o' + j * 6 + 3, none⟩) hlt).trans (hc2 3 _ rfl)
          have x4 := (EC.out.bel.cell (p := ⟨bk, o' + j * 6 + 4, none⟩) hlt).trans (hc2 4 _ rfl)
          have x5 := (EC.out.bel.cell (p := ⟨bk, o' + j * 6 + 5, none⟩) hlt).trans (hc2 5 _ rfl)
          obtain ⟨oN, hoN⟩ : ∃ o', (Obj.cells #[.int .i64 k0, .string nm0, .bool u0, .int .i64 r0, .slice R0 lr0 cr0, .slice A0 la0 ca0] 34) = o' := ⟨_, rfl⟩
          have IN : Hid (Is (wr.alloc oN) wr.heap.size 34 #[.int .i64 k0, .string nm0, .bool u0, .int .i64 r0, .slice R0 lr0 cr0, .slice A0 la0 ca0]) := by rw [← hoN]; exact Is.made wr _ _
          have EN := Lib.hid (EC.out.alloc oN)
          have GN : Hid (w2.grownBy (wr.alloc oN) (some p.R)) := CG.out.trans (World.grownBy_alloc wr oN _)
          have HRN : Hid (p.R < wr.heap.size) := EC.out.fr.row.lt
          have HX := Lib.hid hx
          have HS2 := Lib.hid hs2
          have HON := Lib.hid hoN
          clear hx hs2 hc2 hlt hoN EC
          go_wp2_with fail
          rw [HON.out]
          obtain ⟨wn, hwn⟩ : ∃ x, wr.alloc oN = x := ⟨_, rfl⟩
          obtain ⟨N, hN⟩ : ∃ N, wr.heap.size = N := ⟨_, rfl⟩
          rw [hwn] at EN GN IN ⊢
          rw [hN] at IN HRN ⊢
          clear HON hwn hN x0 x1 x2 x3 x4 x5 CG
          obtain ⟨y, hy⟩ : ∃ x, wayOf W nm (q + j) = x := ⟨_, rfl⟩
          have hy4 := HF4.out (q + j)
          rw [hy] at hy4
          have HO := of_sum (EN.out.drew.ways.below EN.out.drew.bel) H0.out (q := q) (j := j) (by unfold maxLen; omega) (by unfold maxLen; omega)
          rw [hy] at HO
          have HO := Lib.hid HO
          have HT := Lib.hid (through_any (w := wn.drew) hv hy4)
          have HLI := Lib.hid (IH.out x _ (thr v y) W0 wn.drew p o W c HS2.out (thr_lt hy4) EN.out.drew)
          have CN : Hid (lookS W p.k p.f nm (q + (j + 1)) (ar.drop (j + 1)) v (look W p.k p.f x (thr v y) c) = fin) := by
            have := CR.out
            rw [List.drop_eq_getElem_cons (by rw [HLA.out]; exact hjl), lookS, HX.out, hy] at this
            exact this
          have f0 := (KF.out wn GN.out).at_ 0
          have f1 := (KF.out wn GN.out).at_ 1
          have f2 := (KF.out wn GN.out).at_ 2
          have t1 := (KT.out wn GN.out).at_ 1
          have t4 := (KT.out wn GN.out).at_ 4
          have n0 := IN.out.at_ 0
          have n1 := IN.out.at_ 1
          have n2 := IN.out.at_ 2
          have n3 := IN.out.at_ 3
          have n4 := IN.out.at_ 4
          have n5 := IN.out.at_ 5
          simp only [fldC, List.getElem?_toArray, List.getElem?_cons_zero, List.getElem?_cons_succ] at f0 f1 f2 t1 t4 n0 n1 n2 n3 n4 n5
          clear hy
          go_region_held3 (fun w' => (w'.cell? ⟨F, 0, none⟩ = some (.map o) ∧ w'.cell? ⟨F, 1, none⟩ = some (.func (.func 21) #[] #[.pointer (some ⟨p.K, 0, none⟩), .pointer (some ⟨p.S, 0, none⟩)]) ∧ w'.cell? ⟨F, 2, none⟩ = some (.func (.func 22) #[] #[.pointer (some ⟨p.M, 0, none⟩), .pointer (some ⟨p.S, 0, none⟩)]) ∧ w'.cell? ⟨F + 1, 1, none⟩ = some (.string nm) ∧ w'.cell? ⟨F + 1, 4, none⟩ = some (.slice A q ca)) ∧
              w'.cell? ⟨N, 0, none⟩ = some (.int .i64 k0) ∧ w'.cell? ⟨N, 1, none⟩ = some (.string nm0) ∧ w'.cell? ⟨N, 2, none⟩ = some (.bool u0) ∧ w'.cell? ⟨N, 3, none⟩ = some (.int .i64 r0) ∧ w'.cell? ⟨N, 4, none⟩ = some (.slice R0 lr0 cr0) ∧ w'.cell? ⟨N, 5, none⟩ = some (.slice A0 la0 ca0))
            (first
              | exact ⟨⟨f0, f1, f2, t1, t4⟩, n0, n1, n2, n3, n4, n5⟩
              | exact ⟨⟨(KF.out _ G3.out).at_ 0, (KF.out _ G3.out).at_ 1, (KF.out _ G3.out).at_ 2, (KT.out _ G3.out).at_ 1, (KT.out _ G3.out).at_ 4⟩, I3.out.at_ 0, I3.out.at_ 1, I3.out.at_ 2, I3.out.at_ 3, I3.out.at_ 4, I3.out.at_ 5⟩)
            (first
              | (go_at_call 9; refine HO.out.mono ?_; rintro e w' ⟨rfl, rfl⟩)
              | (go_at_call 7; refine HT.out.mono ?_; rintro e w' ⟨rfl, rfl⟩)
              | (go_at_call 23; refine HLI.out.mono ?_; rintro e w3 ⟨rfl, f3, g3⟩; have F3 := Lib.hid f3; have G3 : Hid (w2.grownBy w3 (some p.R)) := (grown_drew GN.out).trans g3; have I3 := Lib.hid (IN.out.drew.grown g3 (by intro e; injection e with e; exact absurd HRN.out (by omega))); have E3 : Hid (Env W0 w3 p o W (look W p.k p.f x (thr v y) c)) := EN.out.drew.next g3 f3; clear f3 g3))
          all_goals
            have HR : Hid (∃ c, Env W0 w3 p o W c ∧ lookS W p.k p.f nm (q + (j + 1)) (ar.drop (j + 1)) v c = fin ∧ w2.grownBy w3 (some p.R)) := ⟨_, E3.out, CN.out, G3.out⟩
            clear EN CR HO HT HLI CN F3 G3 E3 I3 IN
            go_wp2
            go_roundw
            case rel => exact ⟨j + 1, by omega, by go_num, HR⟩
            case measure => simp [intOf]; omega
        · have hje : j = la := by omega
          subst hje
          have C2 : Hid (c = fin) := by
            have := CR.out
            rw [List.drop_of_length_le (by rw [HLA.out]; exact Nat.le_refl _), lookS] at this
            exact this
          have FF : Hid (Fr p wr fin) := by rw [← C2.out]; exact EC.out.fr
          have GF : Hid (w.grownBy wr (some p.R)) := G2.out.trans CG.out
          clear CR C2 EC CG
          go_wp2
          go_end0
          exact ⟨rfl, FF.out, GF.out⟩
end Vy
end Go.Proofs.Ytelmdidgmpbnmaa

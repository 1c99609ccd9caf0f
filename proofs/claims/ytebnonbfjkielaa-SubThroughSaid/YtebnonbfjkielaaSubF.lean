/- Layer 10: lookStruct. -/
import Derived.Test.YtebnonbfjkielaaSubE
namespace Go.Proofs.Ytebnonbfjkielaa
open Go.RowKit Go.Deep Tr Ts Vy Mp
namespace Sb
theorem boxes4 (w : World) (o0 o1 o2 o3 : Obj) (t0 t1 t2 t3 : Nat) (c0 c1 c2 c3 : Array Value) (h0 : o0 = .cells c0 t0) (h1 : o1 = .cells c1 t1) (h2 : o2 = .cells c2 t2) (h3 : o3 = .cells c3 t3) :
    Is ((((w.alloc o0).alloc o1).alloc o2).alloc o3) w.heap.size t0 c0 ∧ Is ((((w.alloc o0).alloc o1).alloc o2).alloc o3) (w.heap.size + 1) t1 c1 ∧ Is ((((w.alloc o0).alloc o1).alloc o2).alloc o3) (w.heap.size + 2) t2 c2 ∧ Is ((((w.alloc o0).alloc o1).alloc o2).alloc o3) (w.heap.size + 3) t3 c3 := by
  subst h0 h1 h2 h3
  refine ⟨(((Is.made w _ _).alloc _).alloc _).alloc _, ?_, ?_, ?_⟩
  · have := Is.made (w.alloc (.cells c0 t0)) t1 c1
    rw [show (w.alloc (.cells c0 t0)).heap.size = w.heap.size + 1 by simp] at this
    exact (this.alloc _).alloc _
  · have := Is.made ((w.alloc (.cells c0 t0)).alloc (.cells c1 t1)) t2 c2
    rw [show ((w.alloc (.cells c0 t0)).alloc (.cells c1 t1)).heap.size = w.heap.size + 2 by simp] at this
    exact this.alloc _
  · have := Is.made (((w.alloc (.cells c0 t0)).alloc (.cells c1 t1)).alloc (.cells c2 t2)) t3 c3
    rwa [show (((w.alloc (.cells c0 t0)).alloc (.cells c1 t1)).alloc (.cells c2 t2)).heap.size = w.heap.size + 3 by simp] at this
theorem sameL_length {l m : List Ty} (h : sameL l m = true) : l.length = m.length := by
  by_cases e : l.length = m.length
  · exact e
  · rw [sameL_len e] at h; cases h
theorem sameL_get : ∀ {l m : List Ty}, sameL l m = true → ∀ {i : Nat} (h : i < l.length) (h' : i < m.length), sameP l[i] m[i] = true
  | x :: l, y :: m, h, 0, _, _ => by rw [sameL, Bool.and_eq_true] at h; exact h.1
  | x :: l, y :: m, h, i + 1, h1, h2 => by rw [sameL, Bool.and_eq_true] at h; exact sameL_get h.2 (Nat.lt_of_succ_lt_succ h1) (Nat.lt_of_succ_lt_succ h2)
  | [], _, _, _, h, _ => absurd h (Nat.not_lt_zero _)
  | _ :: _, [], _, _, _, h => absurd h (Nat.not_lt_zero _)
theorem not_some {a b : Nat} (h : a ≠ b) : some a ≠ some b := fun e => h (Option.some.inj e)
set_option maxHeartbeats 16000000 in
set_option maxRecDepth 100000 in
theorem lookS_step (W0 : World) (c B : Nat) (o : Value) (Z : Ws) (n : Nat) (HF : Hid (Fix W0 c o Z)) (IH : Hid (LookOk W0 c B o Z n)) : LookSOk W0 c B o Z (n + 1) := by
  intro k nm u r rs ar k' nm' u' r' rs' ar' cs ds m v W pv L h h' hlen hsame hv hb hA hbig
  cases m with
  | zero => exact h'.elim
  | succ m =>
  obtain ⟨R, cr, A, ca, rfl, ⟨h0, h1⟩, h2⟩ := h
  obtain ⟨R', cr', A', ca', rfl, ⟨h0', h1'⟩, h2'⟩ := h'
  have hsl := sameL_length hsame
  obtain ⟨lr, hlr⟩ : ∃ n, rs.length = n := ⟨_, rfl⟩
  obtain ⟨la, hla⟩ : ∃ n, ar.length = n := ⟨_, rfl⟩
  have hr := h1.le
  have ha := h2.le
  rw [hlr] at hr
  rw [hla] at ha
  unfold maxLen at hr ha
  have hlr' : rs'.length = lr := by rw [← hlen]; exact hlr
  have hla' : ar'.length = la := by rw [← hsl]; exact hla
  have HLR := Lib.hid hlr
  have HLA := Lib.hid hla
  have HLR' := Lib.hid hlr'
  have HLA' := Lib.hid hla'
  rw [hlr', hla', hlr, hla]
  rw [hlr] at hbig
  have HNM := Lib.hid h0.1
  have H1 := Lib.hid h1
  have H1' := Lib.hid h1'
  have H2 := Lib.hid h2
  have H2' := Lib.hid h2'
  have HSM := Lib.hid hsame
  obtain ⟨o0, ho0⟩ : ∃ o', (Obj.cells #[.pointer (some ⟨c, 0, none⟩)] 51) = o' := ⟨_, rfl⟩
  obtain ⟨o1, ho1⟩ : ∃ o', (Obj.cells #[.int .i64 k, .string nm, .bool u, .int .i64 r, .slice R lr cr, .slice A la ca] 25) = o' := ⟨_, rfl⟩
  obtain ⟨o2, ho2⟩ : ∃ o', (Obj.cells #[.int .i64 k', .string nm', .bool u', .int .i64 r', .slice R' lr cr', .slice A' la ca'] 25) = o' := ⟨_, rfl⟩
  obtain ⟨o3, ho3⟩ : ∃ o', (Obj.cells #[.int .i64 (v : Int)] 3) = o' := ⟨_, rfl⟩
  obtain ⟨I0, I1, I2, I3⟩ := boxes4 W o0 o1 o2 o3 _ _ _ _ _ _ _ _ ho0.symm ho1.symm ho2.symm ho3.symm
  have hcN := hA.cell.lt
  have hA4 := (((hA.alloc o0).alloc o1).alloc o2).alloc o3
  have hb4 : Below W0.heap.size W0 ((((W.alloc o0).alloc o1).alloc o2).alloc o3) := (((hb.alloc hb.size o0).alloc (hb.alloc hb.size o0).size o1).alloc ((hb.alloc hb.size o0).alloc (hb.alloc hb.size o0).size o1).size o2).alloc (((hb.alloc hb.size o0).alloc (hb.alloc hb.size o0).size o1).alloc ((hb.alloc hb.size o0).alloc (hb.alloc hb.size o0).size o1).size o2).size o3
  have k4 : Kp 35 (some c) B W ((((W.alloc o0).alloc o1).alloc o2).alloc o3) := (((((Kp.refl _ _ _ W).alloc o0).alloc o1).alloc o2).alloc o3)
  obtain ⟨V, hV⟩ : ∃ V, (((W.alloc o0).alloc o1).alloc o2).alloc o3 = V := ⟨_, rfl⟩
  obtain ⟨N, hN⟩ : ∃ x, W.heap.size = x := ⟨_, rfl⟩
  rw [hV] at I0 I1 I2 I3 hA4 hb4 k4
  rw [hN] at I0 I1 I2 I3 hcN
  have HV : Hid ((((W.alloc (.cells #[.pointer (some ⟨c, 0, none⟩)] 51)).alloc (.cells #[.int .i64 k, .string nm, .bool u, .int .i64 r, .slice R lr cr, .slice A la ca] 25)).alloc (.cells #[.int .i64 k', .string nm', .bool u', .int .i64 r', .slice R' lr cr', .slice A' la ca'] 25)).alloc (.cells #[.int .i64 (v : Int)] 3) = V) := by rw [← hV, ← ho0, ← ho1, ← ho2, ← ho3]; exact rfl
  have HN := Lib.hid hN
  -- what stands in later worlds
  have KI : Hid (∀ X, Kp 35 (some c) B V X → Is X N 51 #[.pointer (some ⟨c, 0, none⟩)] ∧ Is X (N + 1) 25 #[.int .i64 k, .string nm, .bool u, .int .i64 r, .slice R lr cr, .slice A la ca] ∧ Is X (N + 1 + 1) 25 #[.int .i64 k', .string nm', .bool u', .int .i64 r', .slice R' lr cr', .slice A' la ca'] ∧ Is X (N + 1 + 1 + 1) 3 #[.int .i64 (v : Int)]) := fun X g =>
    ⟨g.is I0 (by decide) (not_some (by omega)), g.is I1 (by decide) (not_some (by omega)), g.is I2 (by decide) (not_some (by omega)), g.is I3 (by decide) (not_some (by omega))⟩
  have HBX : Hid (∀ X, Kp 35 (some c) B V X → Below W0.heap.size W0 X) := fun X g => g.below hb4 (Nat.le_trans HF.out.far (Nat.le_of_lt hA.lt)) hb4.size (fun q e => by injection e with e; subst e; exact HF.out.far)
  have A4 := Lib.hid hA4
  have K4 := Lib.hid k4
  have HBIG := Lib.hid hbig
  have HOF : Hid (∀ (q j : Nat) (X : World), q ≤ maxLen → j ≤ maxLen → Below W0.heap.size W0 X → Calls Try.prog 26 #[o, .string nm, .int .i64 (IntKind.i64.wrap ((q : Int) + (j : Int)))] X fun e w' => e = .returned (.int .i64 (wayOf Z nm (q + j) : Nat)) ∧ X = w') := fun q j X hq hj hX => of_sum (HF.out.ways.below hX) HNM.out hq hj
  have HO1 : Hid (∀ (q : Nat) (X : World), Below W0.heap.size W0 X → Calls Try.prog 26 #[o, .string nm, .int .i64 (q : Int)] X fun e w' => e = .returned (.int .i64 (wayOf Z nm q : Nat)) ∧ X = w') := fun q X hX => of_any (HF.out.ways.below hX) HNM.out q
  obtain ⟨C1, hC1⟩ : ∃ x, L ++ regsQ Z nm v 0 rs rs' = x := ⟨_, rfl⟩
  obtain ⟨C2, hC2⟩ : ∃ x, C1 ++ lookQS Z nm lr ar ar' v = x := ⟨_, rfl⟩
  have HC1 := Lib.hid hC1
  have HC2 := Lib.hid hC2
  rw [show L ++ (regsQ Z nm v 0 rs rs' ++ lookQS Z nm lr ar ar' v) = C2 by rw [← List.append_assoc, hC1, hC2]]
  clear h0 h1 h2 h0' h1' h2' hlr hla hlr' hla' hlen hsl hsame hb hA hA4 hb4 k4 I0 I1 I2 I3 hC1 hC2 ho0 ho1 ho2 ho3 hV hN hbig
  go_enter Try.func22, Try.ntmps22
  go_wp2
  rw [HV.out]
  try rw [HN.out]
  have a0 := (KI.out V (.refl _ _ _ V)).2.1.at_ 4
  simp only [List.getElem?_toArray, List.getElem?_cons_zero, List.getElem?_cons_succ] at a0
  go_loopw [15] (fun i wr => ∃ q : Nat, q ≤ lr ∧ i = .int .i64 q ∧ Hid (∃ pv M, Wlk wr c B o pv M ∧ M ++ regsQ Z nm v q (rs.drop q) (rs'.drop q) = C1 ∧ M.length + (2 * (lr - q) + 2 * (gathL ownP ar).length) ≤ Big ∧ Kp 35 (some c) B V wr)) (fun i _ => lr - (intOf i).toNat)
  case atStart => exact ⟨0, Nat.zero_le _, rfl, pv, L, A4.out, HC1.out, by have := HBIG.out; omega, .refl _ _ _ _⟩
  case round =>
    obtain ⟨q, hq, rfl, HQ⟩ := hrel
    obtain ⟨pw, M, q1, q2, q3, q4⟩ := HQ.out
    have AC := Lib.hid q1
    have CR := Lib.hid q2
    have GB := Lib.hid q3
    have KC := Lib.hid q4
    clear HQ q1 q2 q3 q4 a0
    by_cases hql : q < lr
    · obtain ⟨bk, o', rfl, hlt, hc⟩ := int_at H1.out (show q < rs.length by rw [HLR.out]; exact hql)
      obtain ⟨bk', o1', rfl, hlt', hc'⟩ := int_at H1'.out (show q < rs'.length by rw [HLR'.out]; exact hql)
      obtain ⟨r1, hr1⟩ : ∃ x, rs[q]'(by rw [HLR.out]; exact hql) = x := ⟨_, rfl⟩
      obtain ⟨r2, hr2⟩ : ∃ x, rs'[q]'(by rw [HLR'.out]; exact hql) = x := ⟨_, rfl⟩
      rw [hr1] at hc
      rw [hr2] at hc'
      obtain ⟨y, hy⟩ : ∃ x, wayOf Z nm q = x := ⟨_, rfl⟩
      have hy4 := HF.out.few nm q
      rw [hy] at hy4
      have HKD : Hid (Kp 35 (some c) B V wr.drew) := KC.out.drew
      have AD := Lib.hid AC.out.drew
      -- the cells, wherever the walk's struct and rows alone have changed
      have HX : Hid (∀ X, Kp 35 (some c) B V X → X.cell? ⟨N, 0, none⟩ = some (.pointer (some ⟨c, 0, none⟩)) ∧ X.cell? ⟨N + 1, 1, none⟩ = some (.string nm) ∧ X.cell? ⟨N + 1, 4, none⟩ = some (.slice (some ⟨bk, o', none⟩) lr cr) ∧ X.cell? ⟨N + 1 + 1, 4, none⟩ = some (.slice (some ⟨bk', o1', none⟩) lr cr') ∧ X.cell? ⟨N + 1 + 1 + 1, 0, none⟩ = some (.int .i64 (v : Int)) ∧ X.cell? ⟨bk, o' + q, none⟩ = some (.int .i64 r1) ∧ X.cell? ⟨bk', o1' + q, none⟩ = some (.int .i64 r2)) := fun X g => by
        obtain ⟨J0, J1, J2, J3⟩ := KI.out X g
        exact ⟨J0.at_ 0, J1.at_ 1, J1.at_ 4, J2.at_ 4, J3.at_ 0, ((HBX.out X g).cell hlt).trans hc, ((HBX.out X g).cell hlt').trans hc'⟩
      have HIN : Hid (∀ X, Kp 35 (some c) B V X → X.cell? ⟨c, 0, none⟩ = some o → Calls Try.prog 25 #[.int .i64 (q : Int), .pointer (some ⟨N + 1 + 1 + 1, 0, none⟩), .pointer (some ⟨N, 0, none⟩), .pointer (some ⟨N + 1, 0, none⟩)] X fun e w' => e = .returned (.int .i64 (thr v y : Nat)) ∧ Below X.heap.size X w') := fun X g hcc =>
        in_any (q : Int) (Lib.hid fun Y hY => hy ▸ HO1.out q Y hY) hv hy4 (HBX.out X g) (HX.out X g).2.2.2.2.1 (HX.out X g).1 (HX.out X g).2.1 hcc
      have CN : Hid (sayP r1 r2 (thr v y) ++ regsQ Z nm v (q + 1) (rs.drop (q + 1)) (rs'.drop (q + 1)) = regsQ Z nm v q (rs.drop q) (rs'.drop q)) := by
        show _ = _
        rw [List.drop_eq_getElem_cons (show q < rs.length by rw [HLR.out]; exact hql), List.drop_eq_getElem_cons (show q < rs'.length by rw [HLR'.out]; exact hql), regsQ, hr1, hr2, hy]
      have hth : thr v y < 4 := thr_lt hy4
      obtain ⟨z, hz⟩ : ∃ z, thr v y = z := ⟨_, rfl⟩
      rw [hz] at CN HIN hth
      have HSY : Hid (∀ X, Wlk X c B o pw M → Calls Try.prog 23 #[.pointer (some ⟨c, 0, none⟩), .int .i64 r1, .int .i64 r2, .int .i64 (z : Int)] X fun e W' => e = .returned (.tuple #[]) ∧ ∃ v', Wlk W' c B o v' (M ++ sayP r1 r2 z) ∧ Kp 35 (some c) B X W') := fun X g => say_any c B r1 r2 z X o pw M hth g (by have := GB.out; omega)
      have HO := Lib.hid (HIN.out wr.drew HKD.out (AD.out.cell.at_ 0))
      obtain ⟨d0, d1, d2, d3, d4, d5, d6⟩ := HX.out wr.drew HKD.out
      have KL : Hid (M ++ sayP r1 r2 z ++ regsQ Z nm v (q + 1) (rs.drop (q + 1)) (rs'.drop (q + 1)) = C1 ∧ (M ++ sayP r1 r2 z).length + (2 * (lr - (q + 1)) + 2 * (gathL ownP ar).length) ≤ Big) := by
        refine ⟨by rw [List.append_assoc, CN.out]; exact CR.out, ?_⟩
        have h1 := say_le r1 r2 z
        have h2 := GB.out
        rw [List.length_append]
        omega
      clear hlt hlt' hc hc' hr1 hr2 hy hz hy4 hth HIN CR GB CN AC KC
      go_wp2_with fail
      go_region_held3 (fun w' => w'.cell? ⟨N, 0, none⟩ = some (.pointer (some ⟨c, 0, none⟩)) ∧ w'.cell? ⟨N + 1, 1, none⟩ = some (.string nm) ∧ w'.cell? ⟨N + 1, 4, none⟩ = some (.slice (some ⟨bk, o', none⟩) lr cr) ∧ w'.cell? ⟨N + 1 + 1, 4, none⟩ = some (.slice (some ⟨bk', o1', none⟩) lr cr') ∧ w'.cell? ⟨N + 1 + 1 + 1, 0, none⟩ = some (.int .i64 (v : Int)) ∧ w'.cell? ⟨bk, o' + q, none⟩ = some (.int .i64 r1) ∧ w'.cell? ⟨bk', o1' + q, none⟩ = some (.int .i64 r2))
        (first
          | exact ⟨d0, d1, d2, d3, d4, d5, d6⟩
          | exact HX.out _ K2.out
          | exact HX.out _ K3.out)
        (first
          | (go_at_call 23; refine (HSY.out _ A2.out).mono ?_; rintro e w3 ⟨rfl, pw3, g1, g2⟩; have A3 := Lib.hid g1; have K3 := Lib.hid (K2.out.trans g2); clear g1 g2)
          | (go_at_call 25; refine HO.out.mono ?_; rintro e w2 ⟨rfl, b2⟩; have A2 := Lib.hid (AD.out.below b2); have K2 : Hid (Kp 35 (some c) B V w2) := HKD.out.trans (.of b2); clear b2))
      all_goals
        have HR : Hid (∃ pv M', Wlk w3 c B o pv M' ∧ M' ++ regsQ Z nm v (q + 1) (rs.drop (q + 1)) (rs'.drop (q + 1)) = C1 ∧ M'.length + (2 * (lr - (q + 1)) + 2 * (gathL ownP ar).length) ≤ Big ∧ Kp 35 (some c) B V w3) := ⟨_, _, A3.out, KL.out.1, KL.out.2, K3.out⟩
        clear A3 K3 A2 K2 KL HO HSY HX AD HKD
        go_wp2
        go_roundw
        case rel => exact ⟨q + 1, by omega, by go_num, HR⟩
        case measure => simp [intOf]; omega
    · have hqe : q = lr := by omega
      subst hqe
      have E1 : Hid (M = C1 ∧ M.length + 2 * (gathL ownP ar).length ≤ Big) := by
        have h1 := CR.out
        rw [List.drop_of_length_le (by rw [HLR.out]; exact Nat.le_refl _), regsQ] at h1
        · rw [List.append_nil] at h1
          exact ⟨h1, by have := GB.out; omega⟩
        · intro _ _ _ _ e; cases e
      have EL := E1.out.1
      have HGB : Hid (M.length + 2 * (gathL ownP ar).length ≤ Big) := E1.out.2
      subst EL
      have a5 := (KI.out wr KC.out).2.1.at_ 5
      simp only [List.getElem?_toArray, List.getElem?_cons_zero, List.getElem?_cons_succ] at a5
      clear CR GB E1 HC1 A4 HBIG
      go_wp2
      go_loopw [37] (fun i wr => ∃ j : Nat, j ≤ la ∧ i = .int .i64 j ∧ Hid (∃ pv M', Wlk wr c B o pv M' ∧ M' ++ lookQS Z nm (q + j) (ar.drop j) (ar'.drop j) v = C2 ∧ M'.length + 2 * (gathL ownP (ar.drop j)).length ≤ Big ∧ Kp 35 (some c) B V wr)) (fun i _ => la - (intOf i).toNat)
      case atStart => exact ⟨0, Nat.zero_le _, rfl, pw, M, AC.out, HC2.out, HGB.out, KC.out⟩
      clear AC KC HGB HC2 a5
      case round =>
        obtain ⟨j, hj, rfl, HQ⟩ := hrel
        obtain ⟨pw2, M2, q1, q2, q3, q4⟩ := HQ.out
        have AC := Lib.hid q1
        have CR := Lib.hid q2
        have GB := Lib.hid q3
        have KC := Lib.hid q4
        clear HQ q1 q2 q3 q4
        by_cases hjl : j < la
        · obtain ⟨bk, o', cs2, rfl, hlt, _, hs2, hc2⟩ := H2.out.get (by decide) (show j < ar.length by rw [HLA.out]; exact hjl)
          obtain ⟨bk', o1', ds2, rfl, hlt', _, hs2', hc2'⟩ := H2'.out.get (by decide) (show j < ar'.length by rw [HLA'.out]; exact hjl)
          obtain ⟨x1, hx1⟩ : ∃ x, ar[j]'(by rw [HLA.out]; exact hjl) = x := ⟨_, rfl⟩
          obtain ⟨x2, hx2⟩ : ∃ x, ar'[j]'(by rw [HLA'.out]; exact hjl) = x := ⟨_, rfl⟩
          rw [hx1] at hs2
          rw [hx2] at hs2'
          have hsm : sameP x1 x2 = true := by rw [← hx1, ← hx2]; exact sameL_get HSM.out _ _
          obtain ⟨k0, nm0, u0, r0, R0, lr0, cr0, A0, la0, ca0, rfl⟩ := hs2.shape
          obtain ⟨k1, nm1, u1, r1, R1, lr1, cr1, A1, la1, ca1, rfl⟩ := hs2'.shape
          obtain ⟨y, hy⟩ : ∃ x, wayOf Z nm (q + j) = x := ⟨_, rfl⟩
          have hy4 := HF.out.few nm (q + j)
          rw [hy] at hy4
          have HKD : Hid (Kp 35 (some c) B V wr.drew) := KC.out.drew
          have AD := Lib.hid AC.out.drew
          have HX : Hid (∀ X, Kp 35 (some c) B V X → X.cell? ⟨N, 0, none⟩ = some (.pointer (some ⟨c, 0, none⟩)) ∧ X.cell? ⟨N + 1, 1, none⟩ = some (.string nm) ∧ X.cell? ⟨N + 1, 4, none⟩ = some (.slice R q cr) ∧ X.cell? ⟨N + 1, 5, none⟩ = some (.slice (some ⟨bk, o', none⟩) la ca) ∧ X.cell? ⟨N + 1 + 1, 5, none⟩ = some (.slice (some ⟨bk', o1', none⟩) la ca') ∧ X.cell? ⟨N + 1 + 1 + 1, 0, none⟩ = some (.int .i64 (v : Int)) ∧ (X.cell? ⟨bk, o' + j * 6, none⟩ = some (.int .i64 k0) ∧ X.cell? ⟨bk, o' + j * 6 + 1, none⟩ = some (.string nm0) ∧ X.cell? ⟨bk, o' + j * 6 + 2, none⟩ = some (.bool u0) ∧ X.cell? ⟨bk, o' + j * 6 + 3, none⟩ = some (.int .i64 r0) ∧ X.cell? ⟨bk, o' + j * 6 + 4, none⟩ = some (.slice R0 lr0 cr0) ∧ X.cell? ⟨bk, o' + j * 6 + 5, none⟩ = some (.slice A0 la0 ca0)) ∧ (X.cell? ⟨bk', o1' + j * 6, none⟩ = some (.int .i64 k1) ∧ X.cell? ⟨bk', o1' + j * 6 + 1, none⟩ = some (.string nm1) ∧ X.cell? ⟨bk', o1' + j * 6 + 2, none⟩ = some (.bool u1) ∧ X.cell? ⟨bk', o1' + j * 6 + 3, none⟩ = some (.int .i64 r1) ∧ X.cell? ⟨bk', o1' + j * 6 + 4, none⟩ = some (.slice R1 lr1 cr1) ∧ X.cell? ⟨bk', o1' + j * 6 + 5, none⟩ = some (.slice A1 la1 ca1))) := fun X g => by
            obtain ⟨J0, J1, J2, J3⟩ := KI.out X g
            exact ⟨J0.at_ 0, J1.at_ 1, J1.at_ 4, J1.at_ 5, J2.at_ 5, J3.at_ 0, ⟨((HBX.out X g).cell hlt).trans (hc2 0 _ rfl), ((HBX.out X g).cell hlt).trans (hc2 1 _ rfl), ((HBX.out X g).cell hlt).trans (hc2 2 _ rfl), ((HBX.out X g).cell hlt).trans (hc2 3 _ rfl), ((HBX.out X g).cell hlt).trans (hc2 4 _ rfl), ((HBX.out X g).cell hlt).trans (hc2 5 _ rfl)⟩, ((HBX.out X g).cell hlt').trans (hc2' 0 _ rfl), ((HBX.out X g).cell hlt').trans (hc2' 1 _ rfl), ((HBX.out X g).cell hlt').trans (hc2' 2 _ rfl), ((HBX.out X g).cell hlt').trans (hc2' 3 _ rfl), ((HBX.out X g).cell hlt').trans (hc2' 4 _ rfl), ((HBX.out X g).cell hlt').trans (hc2' 5 _ rfl)⟩
          have HIN : Hid (∀ X, Kp 35 (some c) B V X → X.cell? ⟨c, 0, none⟩ = some o → Calls Try.prog 25 #[.int .i64 (IntKind.i64.wrap ((q : Int) + (j : Int))), .pointer (some ⟨N + 1 + 1 + 1, 0, none⟩), .pointer (some ⟨N, 0, none⟩), .pointer (some ⟨N + 1, 0, none⟩)] X fun e w' => e = .returned (.int .i64 (thr v y : Nat)) ∧ Below X.heap.size X w') := fun X g hcc =>
            in_any _ (Lib.hid fun Y hY => hy ▸ HOF.out q j Y (by unfold maxLen; omega) (by unfold maxLen; omega) hY) hv hy4 (HBX.out X g) (HX.out X g).2.2.2.2.2.1 (HX.out X g).1 (HX.out X g).2.1 hcc
          have CN : Hid (lookP Z x1 x2 (thr v y) ++ lookQS Z nm (q + (j + 1)) (ar.drop (j + 1)) (ar'.drop (j + 1)) v = lookQS Z nm (q + j) (ar.drop j) (ar'.drop j) v) := by
            show _ = _
            rw [List.drop_eq_getElem_cons (show j < ar.length by rw [HLA.out]; exact hjl), List.drop_eq_getElem_cons (show j < ar'.length by rw [HLA'.out]; exact hjl), lookQS, hx1, hx2, hy]
            rfl
          have HG : Hid ((gathL ownP (ar.drop j)).length = (allP x1).length + (gathL ownP (ar.drop (j + 1))).length) := by
            show _ = _
            rw [List.drop_eq_getElem_cons (show j < ar.length by rw [HLA.out]; exact hjl), gathL_cons, hx1, List.length_append]
          have hth : thr v y < 4 := thr_lt hy4
          obtain ⟨z, hz⟩ : ∃ z, thr v y = z := ⟨_, rfl⟩
          rw [hz] at CN HIN hth
          have HSY : Hid (∀ X, Kp 35 (some c) B V X → Wlk X c B o pw2 M2 → Calls Try.prog 19 #[.pointer (some ⟨c, 0, none⟩), .agg #[.int .i64 k0, .string nm0, .bool u0, .int .i64 r0, .slice R0 lr0 cr0, .slice A0 la0 ca0], .agg #[.int .i64 k1, .string nm1, .bool u1, .int .i64 r1, .slice R1 lr1 cr1, .slice A1 la1 ca1], .int .i64 (z : Int)] X fun e W' => e = .returned (.tuple #[]) ∧ ∃ v', Wlk W' c B o v' (M2 ++ lookP Z x1 x2 z) ∧ Kp 35 (some c) B X W') := fun X g g' =>
            IH.out x1 x2 _ _ m z X pw2 M2 hs2 hs2' hsm hth (HBX.out X g) g' (by have h1 := GB.out; have h2 := HG.out; omega)
          have HO := Lib.hid (HIN.out wr.drew HKD.out (AD.out.cell.at_ 0))
          obtain ⟨d0, d1, d2, d3, d4, d5, ⟨x10, x11, x12, x13, x14, x15⟩, x20, x21, x22, x23, x24, x25⟩ := HX.out wr.drew HKD.out
          have KL : Hid (M2 ++ lookP Z x1 x2 z ++ lookQS Z nm (q + (j + 1)) (ar.drop (j + 1)) (ar'.drop (j + 1)) v = C2 ∧ (M2 ++ lookP Z x1 x2 z).length + 2 * (gathL ownP (ar.drop (j + 1))).length ≤ Big) := by
            refine ⟨by rw [List.append_assoc, CN.out]; exact CR.out, ?_⟩
            have h1 := zipS_le (waysP Z x1 z) (allP x1) (allP x2)
            rw [← look_zip Z hsm z] at h1
            have h2 := GB.out
            have h3 := HG.out
            rw [List.length_append]
            omega
          clear hlt hlt' hc2 hc2' hx1 hx2 hy hz hy4 hth HIN CR GB CN AC KC HG hs2 hs2' hsm
          go_wp2_with fail
          go_region_held3 (fun w' => w'.cell? ⟨N, 0, none⟩ = some (.pointer (some ⟨c, 0, none⟩)) ∧ w'.cell? ⟨N + 1, 1, none⟩ = some (.string nm) ∧ w'.cell? ⟨N + 1, 4, none⟩ = some (.slice R q cr) ∧ w'.cell? ⟨N + 1, 5, none⟩ = some (.slice (some ⟨bk, o', none⟩) la ca) ∧ w'.cell? ⟨N + 1 + 1, 5, none⟩ = some (.slice (some ⟨bk', o1', none⟩) la ca') ∧ w'.cell? ⟨N + 1 + 1 + 1, 0, none⟩ = some (.int .i64 (v : Int)) ∧ (w'.cell? ⟨bk, o' + j * 6, none⟩ = some (.int .i64 k0) ∧ w'.cell? ⟨bk, o' + j * 6 + 1, none⟩ = some (.string nm0) ∧ w'.cell? ⟨bk, o' + j * 6 + 2, none⟩ = some (.bool u0) ∧ w'.cell? ⟨bk, o' + j * 6 + 3, none⟩ = some (.int .i64 r0) ∧ w'.cell? ⟨bk, o' + j * 6 + 4, none⟩ = some (.slice R0 lr0 cr0) ∧ w'.cell? ⟨bk, o' + j * 6 + 5, none⟩ = some (.slice A0 la0 ca0)) ∧ (w'.cell? ⟨bk', o1' + j * 6, none⟩ = some (.int .i64 k1) ∧ w'.cell? ⟨bk', o1' + j * 6 + 1, none⟩ = some (.string nm1) ∧ w'.cell? ⟨bk', o1' + j * 6 + 2, none⟩ = some (.bool u1) ∧ w'.cell? ⟨bk', o1' + j * 6 + 3, none⟩ = some (.int .i64 r1) ∧ w'.cell? ⟨bk', o1' + j * 6 + 4, none⟩ = some (.slice R1 lr1 cr1) ∧ w'.cell? ⟨bk', o1' + j * 6 + 5, none⟩ = some (.slice A1 la1 ca1)))
            (first
              | exact ⟨d0, d1, d2, d3, d4, d5, ⟨x10, x11, x12, x13, x14, x15⟩, x20, x21, x22, x23, x24, x25⟩
              | exact HX.out _ K2.out
              | exact HX.out _ K3.out)
            (first
              | (go_at_call 19; refine (HSY.out _ K2.out A2.out).mono ?_; rintro e w3 ⟨rfl, pw3, g1, g2⟩; have A3 := Lib.hid g1; have K3 := Lib.hid (K2.out.trans g2); clear g1 g2)
              | (go_at_call 25; refine HO.out.mono ?_; rintro e w2 ⟨rfl, b2⟩; have A2 := Lib.hid (AD.out.below b2); have K2 : Hid (Kp 35 (some c) B V w2) := HKD.out.trans (.of b2); clear b2))
          all_goals
            have HR : Hid (∃ pv M', Wlk w3 c B o pv M' ∧ M' ++ lookQS Z nm (q + (j + 1)) (ar.drop (j + 1)) (ar'.drop (j + 1)) v = C2 ∧ M'.length + 2 * (gathL ownP (ar.drop (j + 1))).length ≤ Big ∧ Kp 35 (some c) B V w3) := ⟨_, _, A3.out, KL.out.1, KL.out.2, K3.out⟩
            clear A3 K3 A2 K2 KL HO HSY HX AD HKD
            go_wp2
            go_roundw
            case rel => exact ⟨j + 1, by omega, by go_num, HR⟩
            case measure => simp [intOf]; omega
        · have hje : j = la := by omega
          have HD : Hid (∃ v', Wlk wr c B o v' C2 ∧ Kp 35 (some c) B W wr) := by
            have h1 := CR.out
            rw [List.drop_of_length_le (by rw [HLA.out]; omega), lookQS, List.append_nil] at h1
            subst h1
            exact ⟨_, AC.out, K4.out.trans KC.out⟩
          clear AC CR GB KC
          go_wp2
          go_end0
          exact ⟨rfl, HD.out⟩
end Sb
end Go.Proofs.Ytebnonbfjkielaa

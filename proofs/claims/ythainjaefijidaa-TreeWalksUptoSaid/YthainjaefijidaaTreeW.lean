/- The walks of layer 3's reference: what is seen in statements. -/
import Derived.Test.YthainjaefijidaaTreeV
namespace Go.Proofs.Ythainjaefijidaa
open Go.RowKit Go.Deep
namespace Tr
set_option maxHeartbeats 16000000 in
set_option maxRecDepth 100000 in
theorem seenB_step (n : Nat) (IH : Hid (n = 0 ∨ ∃ k, n = k + 1 ∧ SeenE k ∧ SeenBl k)) : SeenBl n := by
    intro l A c w h hbig
    obtain ⟨i0, hi0, hz0, hz1, hz2⟩ := info_parts info_int
    have HI := Lib.hid hi0
    have HL := Lib.hid h
    have hlm := h.le
    unfold maxLen at hlm
    have BIG := Lib.hid hbig
    obtain ⟨ll, hll⟩ : ∃ n, l.length = n := ⟨_, rfl⟩
    have HLL := Lib.hid hll
    obtain ⟨H, hH⟩ : ∃ x, w.heap.size = x := ⟨_, rfl⟩
    have HH := Lib.hid hH
    rw [hll] at hlm
    rw [hll, hH]
    clear h hll hH hi0 hbig
    go_enter Try.func13, Try.ntmps13
    go_wp2
    go_loopw [3, 4] (fun v i wr => ∃ k : Nat, k ≤ ll ∧ i = .int .i64 k ∧ Hid (Below H w wr) ∧ Hid (wr.ownsRow H 3 1 v (seenB (l.take k)).length (intsI (seenB (l.take k))))) (fun _ i _ => ll - (intOf i).toNat)
    case atStart => exact ⟨0, Nat.zero_le _, rfl, Below.refl _ _, ⟨rfl, .inl ⟨rfl, rfl⟩⟩⟩
    case round =>
          obtain ⟨q, hq, rfl, HB, HO⟩ := hrel
          by_cases hql : q < ll
          · obtain ⟨bk, o, cs, rfl, hbk, hl2, hs2, hc2⟩ := HL.out.get (by decide) (show q < l.length by rw [HLL.out]; exact hql)
            have hst := seenB_take l (show q < l.length by rw [HLL.out]; exact hql)
            rcases IH.out with rfl | ⟨k, rfl, IHE, IHB⟩
            · exact hs2.elim
            · obtain ⟨⟨k0, nm, ty, p, e, b, el, ot, ln, cl⟩, hse⟩ : ∃ s, l[q]'(by rw [HLL.out]; exact hql) = s := ⟨_, rfl⟩
              rw [hse] at hs2 hst
              obtain ⟨ts, P, cp, E, ce, B, cb, L, cL, rfl, t0, t1, t2, t3, t4⟩ := hs2
              have hty := t0.one.1
              match ts, hty with
              | [y0, y1, y2, y3, y4, y5, y6, y7], _ =>
              have hbkH : bk < H := by rw [← HH.out]; exact hbk
              have HX : Hid (∀ (W : World), Below H w W → ∀ (j : Nat) (u : Value), ([.int .i64 k0, .string nm] ++ [y0, y1, y2, y3, y4, y5, y6, y7] ++ [.slice P p.length cp, .slice E e.length ce, .slice B b.length cb, .slice L el.length cL, .bool ot, .int .i64 ln, .int .i64 cl] : List Value)[j]? = some u → W.cell? ⟨bk, o + q * 17 + j, none⟩ = some u) :=
                  fun W hW j u hu => (hW.cell (p := ⟨bk, o + q * 17 + j, none⟩) hbkH).trans (hc2 j u hu)
              have hss : seenS (.mk k0 nm ty p e b el ot ln cl) = seenL p ++ seenL e ++ seenB b ++ seenB el := rfl
              rw [hss] at hst
              have hbg : (seenB (l.take q)).length + (seenL p).length + (seenL e).length + (seenB b).length + (seenB el).length ≤ 2000000 := by
                have h1 := seenB_le l (q + 1)
                rw [hst] at h1
                simp only [List.length_append] at h1
                have h2 := BIG.out
                omega
              have BG := Lib.hid hbg
              have HST := Lib.hid hst
              have hpm := t1.le
              have hem := t2.le
              unfold maxLen at hpm hem
              have T1 := Lib.hid t1
              have T2 := Lib.hid t2
              have T3 := Lib.hid t3
              have T4 := Lib.hid t4
              obtain ⟨lp, hlp⟩ : ∃ n, p.length = n := ⟨_, rfl⟩
              obtain ⟨le, hle⟩ : ∃ n, e.length = n := ⟨_, rfl⟩
              obtain ⟨lb, hlb⟩ : ∃ n, b.length = n := ⟨_, rfl⟩
              obtain ⟨lel, hlel⟩ : ∃ n, el.length = n := ⟨_, rfl⟩
              have HLP := Lib.hid hlp
              have HLE := Lib.hid hle
              have HLB := Lib.hid hlb
              have HLEL := Lib.hid hlel
              rw [hlp, hle, hlb, hlel] at HX
              rw [hlp] at hpm
              rw [hle] at hem
              obtain ⟨S0, hS0⟩ : ∃ s, seenB (l.take q) = s := ⟨_, rfl⟩
              rw [hS0] at HO BG HST
              clear hlp hle hlb hlel t0 t1 t2 t3 t4 hc2 hse hl2 hss hst hbg hS0
              go_wp2
              go_loopw [3, 5] (fun v i wi => ∃ j : Nat, j ≤ lp ∧ i = .int .i64 j ∧ Hid (Below H w wi) ∧ Hid (wi.ownsRow H 3 1 v (S0 ++ seenL (p.take j)).length (intsI (S0 ++ seenL (p.take j))))) (fun _ i _ => lp - (intOf i).toNat)
              case atStart =>
                refine ⟨0, Nat.zero_le _, rfl, HB, ?_⟩
                show World.ownsRow _ _ _ _ _ _ _
                rw [List.take_zero, show seenL [] = [] from rfl, List.append_nil]
                exact HO.out
              case round =>
                clear HB HO
                obtain ⟨j, hj, rfl, HB, HO⟩ := hrel
                have x10 := HX.out _ HB.out 10 _ rfl
                have hszr : H ≤ wr.heap.size := by have := HB.out.size; have := HH.out; omega
                obtain ⟨ao, cpo, rfl, _⟩ := own_slice HO.out
                obtain ⟨no, hno⟩ : ∃ n, (S0 ++ seenL (p.take j)).length = n := ⟨_, rfl⟩
                have hnb : no ≤ 2000000 := by
                  have h1 := BG.out
                  have h2 := seenL_le p j
                  rw [← hno]
                  simp only [List.length_append]
                  omega
                have HNO := Lib.hid hno
                rw [hno] at HO
                rw [hno]
                clear hno
                by_cases hjt : j < lp
                · obtain ⟨bk2, o2, cs2, hA2, _, hl2, hs2, hc2⟩ := (T1.out.below (P' := ExAt wr k) (by rw [HH.out]; exact HB.out) (fun x _ cs h => ExAt.below (by rw [HH.out]; exact HB.out) k x cs h)).get (by decide) (show j < p.length by rw [HLP.out]; exact hjt)
                  have hst := seenL_take p (show j < p.length by rw [HLP.out]; exact hjt)
                  obtain ⟨sx, hsx⟩ : ∃ s, seen (p[j]'(by rw [HLP.out]; exact hjt)) = s := ⟨_, rfl⟩
                  have hsl : no + sx.length ≤ 2000000 := by
                    have h1 := seenL_le p (j + 1)
                    rw [hst, List.length_append, hsx] at h1
                    have h2 := BG.out
                    have h3 := HNO.out
                    simp only [List.length_append] at h3
                    omega
                  rw [hA2] at x10
                  have HA2 := Lib.hid hA2
                  match cs2, hl2 with
                  | [v0, v1, v2, v3, v4, v5, v6, v7, v8], _ =>
                    have z0 := hc2 0 _ rfl
                    rw [Nat.add_zero] at z0
                    have z1 := hc2 1 _ rfl
                    have z2 := hc2 2 _ rfl
                    have z3 := hc2 3 _ rfl
                    have z4 := hc2 4 _ rfl
                    have z5 := hc2 5 _ rfl
                    have z6 := hc2 6 _ rfl
                    have z7 := hc2 7 _ rfl
                    have z8 := hc2 8 _ rfl
                    have HS := IHE _ _ wr hs2 (by rw [hsx]; omega)
                    rw [hsx] at HS hst
                    have HS := Lib.hid HS
                    have HST := Lib.hid hst
                    clear hc2 hs2 hsx hst hA2
                    go_wp2_with fail
                    refine HS.out.mono ?_
                    rintro e w3 ⟨vs, rfl, q1, q2⟩
                    obtain ⟨av, cs3, rfl, hna⟩ := own_slice q1
                    have R3 := Lib.hid (own_row q1)
                    have HB3 := Lib.hid (HB.out.trans (q2.mono hszr))
                    have HO3 := Lib.hid (own_below HO.out q2)
                    have hsz3 : H ≤ w3.heap.size := by have := q2.size; omega
                    have HNA := Lib.hid hna
                    clear q1 q2 z0 z1 z2 z3 z4 z5 z6 z7 z8 hna
                    go_wp2_with (at_builtin; refine wpList_append_row rfl (.tmp 23) (.tmp 32) 33 rfl H 3 i0 (.int .i64 0) 1 8 Try.underlying33 HI.out hz0 hz1 hz2 rfl (by decide) _ no _ rfl HO3.out av sx.length cs3 (fun e => (HNA.out e).1) (intsI sx) rfl (by rw [intsI_length, Nat.mul_one]) R3.out (intsI_one _) (by unfold maxLen; omega) (by omega) hsz3 ?_)
                    intro v9 w4 ho4 hg4
                    have HO4 : Hid (w4.ownsRow H 3 1 v9 (S0 ++ seenL (p.take (j + 1))).length (intsI (S0 ++ seenL (p.take (j + 1))))) := by
                      show World.ownsRow _ _ _ _ _ _ _
                      rw [HST.out, show S0 ++ (seenL (p.take j) ++ sx) = S0 ++ seenL (p.take j) ++ sx from (List.append_assoc _ _ _).symm, intsI_append _ sx, List.length_append (bs := sx), HNO.out]
                      exact ho4
                    have HB4 : Hid (Below H w w4) := below_own HB3.out HO3.out (Nat.le_refl _) hsz3 hg4
                    clear ho4 hg4
                    go_wp2
                    go_roundw
                    case rel => exact ⟨j + 1, by omega, by go_num, HB4, HO4⟩
                    case measure => simp [intOf]; omega
                · obtain rfl : j = lp := by omega
                  have h1 := HO.out
                  have h2 := HNO.out
                  rw [show p.take j = p from List.take_of_length_le (by rw [HLP.out]; omega)] at h1 h2
                  clear HO HNO
                  have HO := Lib.hid h1
                  have HNO := Lib.hid h2
                  rw [← h2] at HO
                  rw [← h2]
                  clear h1 h2
                  obtain ⟨S1, hS1⟩ : ∃ s, S0 ++ seenL p = s := ⟨_, rfl⟩
                  rw [hS1] at HO HNO
                  have hl1 : S1.length = S0.length + (seenL p).length := by rw [← hS1, List.length_append]
                  have BG1 : Hid (S1.length + (seenL e).length + (seenB b).length + (seenB el).length ≤ 2000000) := by
                    have h1 := BG.out
                    show _ ≤ _
                    omega
                  have HST1 : Hid (seenB (l.take (q + 1)) = S1 ++ seenL e ++ seenB b ++ seenB el) := by
                    show _ = _
                    rw [HST.out, ← hS1]
                    simp only [List.append_assoc]
                  rw [hS1]
                  clear BG hl1 HST HNO hS1
                  have BG := BG1
                  go_wp2
                  go_loopw [3, 6] (fun v i wi => ∃ j : Nat, j ≤ le ∧ i = .int .i64 j ∧ Hid (Below H w wi) ∧ Hid (wi.ownsRow H 3 1 v (S1 ++ seenL (e.take j)).length (intsI (S1 ++ seenL (e.take j))))) (fun _ i _ => le - (intOf i).toNat)
                  case atStart =>
                    refine ⟨0, Nat.zero_le _, rfl, HB, ?_⟩
                    show World.ownsRow _ _ _ _ _ _ _
                    rw [List.take_zero, show seenL [] = [] from rfl, List.append_nil]
                    exact HO.out
                  case round =>
                    clear HB HO
                    obtain ⟨j, hj, rfl, HB, HO⟩ := hrel
                    have x11 := HX.out _ HB.out 11 _ rfl
                    have hszr : H ≤ wr.heap.size := by have := HB.out.size; have := HH.out; omega
                    obtain ⟨ao, cpo, rfl, _⟩ := own_slice HO.out
                    obtain ⟨no, hno⟩ : ∃ n, (S1 ++ seenL (e.take j)).length = n := ⟨_, rfl⟩
                    have hnb : no ≤ 2000000 := by
                      have h1 := BG.out
                      have h2 := seenL_le e j
                      rw [← hno]
                      simp only [List.length_append]
                      omega
                    have HNO := Lib.hid hno
                    rw [hno] at HO
                    rw [hno]
                    clear hno
                    by_cases hjt : j < le
                    · obtain ⟨bk2, o2, cs2, hA2, _, hl2, hs2, hc2⟩ := (T2.out.below (P' := ExAt wr k) (by rw [HH.out]; exact HB.out) (fun x _ cs h => ExAt.below (by rw [HH.out]; exact HB.out) k x cs h)).get (by decide) (show j < e.length by rw [HLE.out]; exact hjt)
                      have hst := seenL_take e (show j < e.length by rw [HLE.out]; exact hjt)
                      obtain ⟨sx, hsx⟩ : ∃ s, seen (e[j]'(by rw [HLE.out]; exact hjt)) = s := ⟨_, rfl⟩
                      have hsl : no + sx.length ≤ 2000000 := by
                        have h1 := seenL_le e (j + 1)
                        rw [hst, List.length_append, hsx] at h1
                        have h2 := BG.out
                        have h3 := HNO.out
                        simp only [List.length_append] at h3
                        omega
                      rw [hA2] at x11
                      have HA2 := Lib.hid hA2
                      match cs2, hl2 with
                      | [v0, v1, v2, v3, v4, v5, v6, v7, v8], _ =>
                        have z0 := hc2 0 _ rfl
                        rw [Nat.add_zero] at z0
                        have z1 := hc2 1 _ rfl
                        have z2 := hc2 2 _ rfl
                        have z3 := hc2 3 _ rfl
                        have z4 := hc2 4 _ rfl
                        have z5 := hc2 5 _ rfl
                        have z6 := hc2 6 _ rfl
                        have z7 := hc2 7 _ rfl
                        have z8 := hc2 8 _ rfl
                        have HS := IHE _ _ wr hs2 (by rw [hsx]; omega)
                        rw [hsx] at HS hst
                        have HS := Lib.hid HS
                        have HST := Lib.hid hst
                        clear hc2 hs2 hsx hst hA2
                        go_wp2_with fail
                        refine HS.out.mono ?_
                        rintro e w3 ⟨vs, rfl, q1, q2⟩
                        obtain ⟨av, cs3, rfl, hna⟩ := own_slice q1
                        have R3 := Lib.hid (own_row q1)
                        have HB3 := Lib.hid (HB.out.trans (q2.mono hszr))
                        have HO3 := Lib.hid (own_below HO.out q2)
                        have hsz3 : H ≤ w3.heap.size := by have := q2.size; omega
                        have HNA := Lib.hid hna
                        clear q1 q2 z0 z1 z2 z3 z4 z5 z6 z7 z8 hna
                        go_wp2_with (at_builtin; refine wpList_append_row rfl (.tmp 44) (.tmp 53) 33 rfl H 3 i0 (.int .i64 0) 1 8 Try.underlying33 HI.out hz0 hz1 hz2 rfl (by decide) _ no _ rfl HO3.out av sx.length cs3 (fun e => (HNA.out e).1) (intsI sx) rfl (by rw [intsI_length, Nat.mul_one]) R3.out (intsI_one _) (by unfold maxLen; omega) (by omega) hsz3 ?_)
                        intro v9 w4 ho4 hg4
                        have HO4 : Hid (w4.ownsRow H 3 1 v9 (S1 ++ seenL (e.take (j + 1))).length (intsI (S1 ++ seenL (e.take (j + 1))))) := by
                          show World.ownsRow _ _ _ _ _ _ _
                          rw [HST.out, show S1 ++ (seenL (e.take j) ++ sx) = S1 ++ seenL (e.take j) ++ sx from (List.append_assoc _ _ _).symm, intsI_append _ sx, List.length_append (bs := sx), HNO.out]
                          exact ho4
                        have HB4 : Hid (Below H w w4) := below_own HB3.out HO3.out (Nat.le_refl _) hsz3 hg4
                        clear ho4 hg4
                        go_wp2
                        go_roundw
                        case rel => exact ⟨j + 1, by omega, by go_num, HB4, HO4⟩
                        case measure => simp [intOf]; omega
                    · obtain rfl : j = le := by omega
                      have h1 := HO.out
                      have h2 := HNO.out
                      rw [show e.take j = e from List.take_of_length_le (by rw [HLE.out]; omega)] at h1 h2
                      clear HO HNO
                      have HO := Lib.hid h1
                      have HNO := Lib.hid h2
                      rw [← h2] at HO
                      rw [← h2]
                      clear h1 h2
                      obtain ⟨S2, hS2⟩ : ∃ s, S1 ++ seenL e = s := ⟨_, rfl⟩
                      rw [hS2] at HO HNO
                      have hl2' : S2.length = S1.length + (seenL e).length := by rw [← hS2, List.length_append]
                      have BG2 : Hid (S2.length + (seenB b).length + (seenB el).length ≤ 2000000) := by
                        have h1 := BG.out
                        show _ ≤ _
                        omega
                      have HST2 : Hid (seenB (l.take (q + 1)) = S2 ++ seenB b ++ seenB el) := by
                        show _ = _
                        rw [HST1.out, ← hS2]
                      rw [hS2]
                      clear BG BG1 hl2' HST1 HNO hS2
                      have BG := BG2
                      have HSB : Hid (∀ W, Below H w W → Calls Try.prog 13 #[.slice B lb cb] W fun e w' => ∃ v, e = .returned v ∧ w'.ownsRow W.heap.size 3 1 v (seenB b).length (intsI (seenB b)) ∧ Below W.heap.size W w') := fun W hW => by
                        have := IHB b B cb W (T3.out.below (P' := StAt W k) (by rw [HH.out]; exact hW) (fun x _ cs h => StAt.below (by rw [HH.out]; exact hW) k x cs h)) (by have := BG.out; omega)
                        rw [HLB.out] at this
                        exact this
                      have HSL : Hid (∀ W, Below H w W → Calls Try.prog 13 #[.slice L lel cL] W fun e w' => ∃ v, e = .returned v ∧ w'.ownsRow W.heap.size 3 1 v (seenB el).length (intsI (seenB el)) ∧ Below W.heap.size W w') := fun W hW => by
                        have := IHB el L cL W (T4.out.below (P' := StAt W k) (by rw [HH.out]; exact hW) (fun x _ cs h => StAt.below (by rw [HH.out]; exact hW) k x cs h)) (by have := BG.out; omega)
                        rw [HLEL.out] at this
                        exact this
                      have x12 := HX.out _ HB.out 12 _ rfl
                      have x13 := HX.out _ HB.out 13 _ rfl
                      obtain ⟨nb, hnb⟩ : ∃ n, (seenB b).length = n := ⟨_, rfl⟩
                      obtain ⟨nel, hnel⟩ : ∃ n, (seenB el).length = n := ⟨_, rfl⟩
                      obtain ⟨n3, hn3⟩ : ∃ n, S2.length = n := ⟨_, rfl⟩
                      have HNB := Lib.hid hnb
                      have HNEL := Lib.hid hnel
                      have HN3 := Lib.hid hn3
                      rw [hnb] at HSB
                      rw [hnel] at HSL
                      rw [hn3] at HO
                      have hsum : n3 + nb + nel ≤ 2000000 := by
                        have h1 := BG.out
                        omega
                      clear hnb hnel
                      rw [hn3]
                      clear hn3
                      go_wp2_with fail
                      go_region_held3 (fun w' => w'.cell? ⟨bk, o + q * 17 + 12, none⟩ = some (.slice B lb cb) ∧ w'.cell? ⟨bk, o + q * 17 + 13, none⟩ = some (.slice L lel cL))
                        (first
                          | exact ⟨HX.out _ (below_drew HB.out) 12 _ rfl, HX.out _ (below_drew HB.out) 13 _ rfl⟩
                          | exact ⟨HX.out _ HB5.out 12 _ rfl, HX.out _ HB5.out 13 _ rfl⟩
                          | exact ⟨HX.out _ HB4.out 12 _ rfl, HX.out _ HB4.out 13 _ rfl⟩
                          | exact ⟨HX.out _ HB3.out 12 _ rfl, HX.out _ HB3.out 13 _ rfl⟩
                          | exact ⟨HX.out _ HB2.out 12 _ rfl, HX.out _ HB2.out 13 _ rfl⟩)
                        (first
                          | (go_at_call 13; refine (HSL.out _ HB3.out).mono ?_; rintro e w4 ⟨vb4, rfl, q1, q2⟩; obtain ⟨bv4, cb4, rfl, hbv⟩ := own_slice q1; have HBV4 := Lib.hid hbv; have R4 := Lib.hid (own_row q1); have HB4 := Lib.hid (HB3.out.trans (q2.mono hsz3)); have O4 := Lib.hid (own_below O3.out q2); have hsz4 : H ≤ w4.heap.size := Nat.le_trans hsz3 q2.size; clear q1 q2 hbv)
                          | (go_at_call 13; refine (HSB.out _ (below_drew HB.out)).mono ?_; rintro e w2 ⟨vb, rfl, q1, q2⟩; obtain ⟨bv, cb2, rfl, hbv⟩ := own_slice q1; have HBV := Lib.hid hbv; have R2 := Lib.hid (own_row q1); have HB2 := Lib.hid ((below_drew HB.out).trans (q2.mono hszr)); have O2 := Lib.hid (own_below HO.out.drew q2); have hsz2 : H ≤ w2.heap.size := Nat.le_trans hszr q2.size; clear q1 q2 hbv)
                          | (refine step_append_row (by rfl) (.tmp 55) (.tmp 61) 33 (by rfl) H 3 i0 (.int .i64 0) 1 8 Try.underlying33 HI.out hz0 hz1 hz2 rfl (by decide) _ n3 _ (by rfl) O2.out bv nb cb2 (fun e => (HBV.out e).1) (intsI (seenB b)) (by rfl) (by rw [intsI_length, HNB.out, Nat.mul_one]) R2.out (intsI_one _) (by unfold maxLen; omega) (by omega) hsz2 ?_; intro v3 w3 ho3 hg3; have HB3 := Lib.hid (below_own HB2.out O2.out (Nat.le_refl _) hsz2 hg3); have O3 := Lib.hid ho3; have hsz3 : H ≤ w3.heap.size := Nat.le_trans hsz2 hg3.size; clear ho3 hg3)
                          | (refine step_append_row (by rfl) (.tmp 62) (.tmp 68) 33 (by rfl) H 3 i0 (.int .i64 0) 1 8 Try.underlying33 HI.out hz0 hz1 hz2 rfl (by decide) _ (n3 + nb) _ (by rfl) O4.out bv4 nel cb4 (fun e => (HBV4.out e).1) (intsI (seenB el)) (by rfl) (by rw [intsI_length, HNEL.out, Nat.mul_one]) R4.out (intsI_one _) (by unfold maxLen; omega) (by omega) hsz4 ?_; intro v5 w5 ho5 hg5; have HB5 := Lib.hid (below_own HB4.out O4.out (Nat.le_refl _) hsz4 hg5); have O5 := Lib.hid ho5; clear ho5 hg5))
                      all_goals
                        have HF : Hid (w5.ownsRow H 3 1 v5 (seenB (l.take (q + 1))).length (intsI (seenB (l.take (q + 1))))) := by
                          have h1 := O5.out
                          rw [← HN3.out, ← HNB.out, ← HNEL.out] at h1
                          show World.ownsRow _ _ _ _ _ _ _
                          rw [HST2.out, intsI_append _ (seenB el), intsI_append _ (seenB b), List.length_append (bs := seenB el), List.length_append (bs := seenB b)]
                          exact h1
                        clear O5 O4 O3 O2
                        go_wp2
                        go_roundw
                        case rel => exact ⟨q + 1, by omega, by go_num, HB5, HF⟩
                        case measure => simp [intOf]; omega
          · have hqe : q = ll := by omega
            have h1 := HO.out
            rw [show l.take q = l from List.take_of_length_le (by rw [HLL.out]; omega)] at h1
            have HF := Lib.hid h1
            clear h1
            go_wp2
            go_ret
            exact ⟨_, rfl, HF.out, HB.out⟩
end Tr
end Go.Proofs.Ythainjaefijidaa

/- The walk of FlowMore. -/
import Derived.Test.YtbeepedobnaojaaDoorFlowX
namespace Go.Proofs.YtbeepedobnaojaaDoor
open Go.RowKit Lf Go.Deep Sv Tr
namespace Fl
set_option maxHeartbeats 8000000 in
set_option maxRecDepth 100000 in
theorem flowMore_walk {w : World} (hT : TabAt w) {vs vg vk ve : Value} {p : Pb} (h : PbAt w vs vg vk ve p) {vm : Value} {more : Ls} (hmo : LsAt w vm more) :
    Calls Tryd.prog 7 #[pbV vs vg vk ve p.width, vm] w fun x w' => x = .returned (.bool true) ∧ Below w.heap.size w w' := by
  obtain ⟨i0, hi0, hz0, hz1, hz2⟩ := info_parts info_int
  have HI0 := Lib.hid hi0
  clear hi0
  obtain ⟨i9, hi9, hy0, hy1, hy2⟩ := info_parts info_ints
  have HI9 := Lib.hid hi9
  clear hi9
  obtain ⟨As, cs, rfl, hmaxs, hgs⟩ := h.s.form
  obtain ⟨Ag, cg, rfl, hmaxg, hgg⟩ := h.g.form
  obtain ⟨Ak, ck, rfl, hmaxk, hgk⟩ := h.k.form
  obtain ⟨Ae4, ce, rfl, hmaxe, hge⟩ := rowI_form h.e
  obtain ⟨nk, hnk⟩ : ∃ x, p.kill.length = x := ⟨_, rfl⟩
  obtain ⟨Am, cm, rfl, hmaxm, hgm⟩ := hmo.form
  obtain ⟨lm, hlm⟩ : ∃ x, more.length = x := ⟨_, rfl⟩
  have HLM := Lib.hid hlm
  have HMO0 := Lib.hid hmo
  unfold maxLen at hmaxm
  rw [hlm] at hmaxm
  obtain ⟨V, hV⟩ : ∃ V, w.alloc (.cells #[.slice As p.succ.length cs, .int .i64 p.width, .slice Ag p.gen.length cg, .slice Ak p.kill.length ck, .slice Ae4 p.entry.length ce] 25) = V := ⟨_, rfl⟩
  have hL := lw0_start hT h
  rw [hV] at hL
  obtain ⟨n, hn⟩ : ∃ x, p.succ.length = x := ⟨_, rfl⟩
  obtain ⟨ng, hng⟩ : ∃ x, p.gen.length = x := ⟨_, rfl⟩
  obtain ⟨le, hle⟩ : ∃ x, p.entry.length = x := ⟨_, rfl⟩
  have HN := Lib.hid hn
  have HNG := Lib.hid hng
  have HLE := Lib.hid hle
  obtain ⟨H, hH⟩ : ∃ x, w.heap.size = x := ⟨_, rfl⟩
  simp only [hn, hng, hnk, hle, hlm, hH] at hL hV hmaxs hmaxg hmaxk hmaxe HMO0 ⊢
  unfold maxLen at hmaxs hmaxg hmaxk hmaxe
  have HL := Lib.hid hL
  have HV := Lib.hid hV
  have HH := Lib.hid hH
  have HFL := Lib.hid (fun (X : World) (hx : TabAt X) => flowed_any hx)
  have hSM := (fun (X : World) (hx : Lw0 w X H (.slice As n cs) (.slice Ag ng cg) (.slice Ak nk ck) (.slice Ae4 le ce) p) => small_any hx.at_)
  unfold pbV at hSM ⊢
  obtain ⟨wd, hwd⟩ : ∃ x, p.width = x := ⟨_, rfl⟩
  have HWD := Lib.hid hwd
  rw [hwd] at hSM HV ⊢
  have HSM := Lib.hid hSM
  clear hT h hmo hlm hgm hV hL hH hn hng hnk hle hwd hSM hgs hgg hgk hge
  go_enter Tryd.func7, Tryd.ntmps7
  go_wp2_with fail
  rw [HV.out, HH.out]
  refine (HFL.out V HL.out.tab).mono ?_
  rintro x w1 ⟨rfl, q1⟩
  have HL1 := Lib.hid (HL.out.next q1)
  clear q1
  have d0 := HL1.out.box.at_ 0
  have d1 := HL1.out.box.at_ 1
  have d2 := HL1.out.box.at_ 2
  have d3 := HL1.out.box.at_ 3
  have d4 := HL1.out.box.at_ 4
  rw [HWD.out] at d1
  simp at d0 d1 d2 d3 d4
  go_wp2_with fail
  refine (HSM.out w1 HL1.out).mono ?_
  rintro x w2 ⟨rfl, q2⟩
  have HL2 := Lib.hid (HL1.out.next q2)
  clear q2 d0 d1 d2 d3 d4
  obtain ⟨bs, hbs⟩ : ∃ b, smallB p = b := ⟨_, rfl⟩
  have HBS := Lib.hid hbs
  rw [hbs]
  clear hbs
  cases bs with
  | false =>
    go_wp2_with fail
    refine (HFL.out w2 HL2.out.tab).mono ?_
    rintro x w3 ⟨rfl, q3⟩
    have HL3 := Lib.hid (HL2.out.next q3)
    clear q3
    go_wp2
    go_ret
    exact ⟨rfl, HL3.out.since⟩
  | true =>
    have hsm := small_iff HBS.out
    have hn30 : n ≤ 30 := by have := hsm.s; rw [HN.out] at this; exact this
    have d0 := HL2.out.box.at_ 0
    have d1 := HL2.out.box.at_ 1
    have d2 := HL2.out.box.at_ 2
    have d3 := HL2.out.box.at_ 3
    have d4 := HL2.out.box.at_ 4
    rw [HWD.out] at d1
    simp at d0 d1 d2 d3 d4
    have HSMA := Lib.hid hsm
    clear hsm
    by_cases h7 : lm ≤ 30
    · have e7 : decide ((30 : Int) < lm) = false := decide_eq_false (by omega)
      have hrc := fun (X : World) (hx : Lw0 w X H (.slice As n cs) (.slice Ag ng cg) (.slice Ak nk ck) (.slice Ae4 le ce) p) => rcheck_any hx.at_ (by have := HN.out; omega)
      unfold pbV at hrc
      rw [HWD.out] at hrc
      have HRC := Lib.hid hrc
      clear hrc
      go_wp2_with fail
      refine (HRC.out w2 HL2.out).mono ?_
      rintro x w3 ⟨rfl, q3⟩
      have HL3 := Lib.hid (HL2.out.next q3)
      clear q3 d0 d1 d2 d3 d4 HRC
      by_cases hc0 : codeP p = 0
      · have HC0 := Lib.hid hc0
        rw [hc0]
        clear hc0
        have d0 := HL3.out.box.at_ 0
        have d1 := HL3.out.box.at_ 1
        have d2 := HL3.out.box.at_ 2
        have d3 := HL3.out.box.at_ 3
        have d4 := HL3.out.box.at_ 4
        rw [HWD.out] at d1
        simp at d0 d1 d2 d3 d4
        obtain ⟨QB, hQB⟩ : ∃ x, w3.heap.size = x := ⟨_, rfl⟩
        have HQB := Lib.hid hQB
        have HS0 : Hid (Below QB w3 (w3.alloc (.cells #[.slice As n cs, .int .i64 wd, .slice none 0 0, .slice Ak nk ck, .slice Ae4 le ce] 25)) ∧ ∃ v, Is (w3.alloc (.cells #[.slice As n cs, .int .i64 wd, .slice none 0 0, .slice Ak nk ck, .slice Ae4 le ce] 25)) QB 25 #[.slice As n cs, .int .i64 wd, v, .slice Ak nk ck, .slice Ae4 le ce] ∧ Rws (w3.alloc (.cells #[.slice As n cs, .int .i64 wd, .slice none 0 0, .slice Ak nk ck, .slice Ae4 le ce] 25)) (QB + 1) v ((List.range 0).map (moreRow p more))) := by
          rw [← hQB]
          exact ⟨(Below.refl _ _).alloc (Nat.le_refl _) _, _, Is.made _ _ _, Rws.none _ _⟩
        clear hQB
        go_wp2
        rw [HQB.out]
        go_loopw [6] (fun i wr => ∃ i0 : Nat, i0 ≤ n ∧ i = .int .i64 i0 ∧ Hid (Below QB w3 wr ∧ ∃ v, Is wr QB 25 #[.slice As n cs, .int .i64 wd, v, .slice Ak nk ck, .slice Ae4 le ce] ∧ Rws wr (QB + 1) v ((List.range i0).map (moreRow p more)))) (fun i _ => n - (intOf i).toNat)
        case atStart => exact ⟨0, Nat.zero_le _, rfl, HS0⟩
        clear HS0 d0 d1 d2 d3 d4
        case round =>
          obtain ⟨i, hi, rfl, HQ⟩ := hrel
          obtain ⟨hb, gv, hq, hrws⟩ := HQ.out
          have HLo := Lib.hid (HL3.out.next (HQB.out.symm ▸ hb))
          obtain ⟨xs0, hx0, _⟩ := hrws.rows
          obtain ⟨ao, co, rfl, _⟩ := own_slice hx0
          simp only [List.length_map, List.length_range] at hq hrws hx0
          have HBQ := Lib.hid hb
          have HIQ := Lib.hid hq
          have HRW := Lib.hid hrws
          clear hb hq hrws hx0 HQ
          have d0 := HLo.out.box.at_ 0
          have d2 := HLo.out.box.at_ 2
          simp at d0 d2
          by_cases hin : i < n
          · obtain ⟨wo, rfl⟩ : ∃ wo : World, wo = wr := ⟨_, rfl⟩
            obtain ⟨B2, hB2⟩ : ∃ x, wo.heap.size = x := ⟨_, rfl⟩
            have HB2 := Lib.hid hB2
            clear hB2
            by_cases hig : i < ng
            · obtain ⟨Ag2, cg2, eg2, _, hgg⟩ := HLo.out.at_.g.form
              have hngl : p.gen.length = ng := HNG.out
              rw [hngl] at eg2
              cases eg2
              obtain ⟨bk, o, u, hA5, hbk, hcell, hrow⟩ := hgg i (by omega)
              subst hA5
              obtain ⟨A2, c2, rfl, hra, hnil⟩ := rowI_cells hrow
              obtain ⟨gl, hgl⟩ : ∃ x, (p.gen[i]'(by omega)) = x := ⟨_, rfl⟩
              have HGL : Hid (p.gen.getD i [] = gl) := by show _ = _; rw [getD_at (by omega), hgl]
              rw [hgl] at hcell hra hnil
              have hg8 : gl.length ≤ 8 := hgl ▸ HSMA.out.sg _ (List.getElem_mem (by omega))
              obtain ⟨lg, hlg⟩ : ∃ x, gl.length = x := ⟨_, rfl⟩
              have HLG := Lib.hid hlg
              rw [hlg] at hcell hnil hg8
              have HRA := Lib.hid hra
              have HNIL := Lib.hid hnil
              have hb2 : B2 ≤ wo.heap.size := by rw [HB2.out]; exact Nat.le_refl _
              clear hrow hra hnil hgl hgg hngl hlg
              go_wp2_with (at_builtin; refine wpList_append_row rfl _ _ 23 rfl B2 3 i0 (.int .i64 0) 1 8 Tryd.underlying23 HI0.out hz0 hz1 hz2 rfl (by decide) _ 0 [] rfl ⟨rfl, .inl ⟨rfl, rfl⟩⟩ A2 lg c2 HNIL.out (intsC gl) rfl (by rw [intsC_length, HLG.out, Nat.mul_one]) HRA.out (intsC_one _) (by unfold maxLen; omega) (by omega) hb2 ?_)
              intro v1 w5 hown hgr
              have HIR : Hid (IRow w5 B2 v1 (p.gen.getD i [] ++ ((mrow p more i).take 0).map (remW p.width))) := by
                show World.ownsRow _ _ _ _ _ _ _
                rw [HGL.out, List.take_zero, List.map_nil, List.append_nil, HLG.out]
                exact hown
              have HBI : Hid (Below B2 wo w5) := (Below.refl B2 wo).grown hgr hb2 (fun k hk => by cases hk)
              obtain ⟨a1, c1, rfl, _⟩ := own_slice hown
              clear hown hgr hb2 HRA HNIL hcell hbk
              go_wp2
              go_loopw [7, 8] (fun v k1 wr => ∃ k : Nat, k ≤ (mrow p more i).length ∧ k1 = .int .i64 k ∧ Hid (IRow wr B2 v (p.gen.getD i [] ++ ((mrow p more i).take k).map (remW p.width))) ∧ Hid (Below B2 wo wr)) (fun _ k1 _ => (mrow p more i).length - (intOf k1).toNat)
              case atStart => exact ⟨0, Nat.zero_le _, rfl, HIR, HBI⟩
              clear HIR HBI d0 d2
              case round =>
                obtain ⟨k, hk, rfl, HIR, HBI⟩ := hrel
                have hk8 : k ≤ 8 := Nat.le_trans hk (mrow_len p more i)
                have hb4 : Below QB w3 wr := HBQ.out.trans (HBI.out.mono (by have := HIQ.out.lt; have := HB2.out; omega))
                have HL5 := Lib.hid (HL3.out.next (HQB.out.symm ▸ hb4))
                have d1 := HL5.out.box.at_ 1
                rw [HWD.out] at d1
                simp at d1
                obtain ⟨Am2, cm2, em, _, hgm⟩ := (HMO0.out.below (HH.out.symm ▸ HL3.out.since)).form
                rw [HLM.out] at em
                cases em
                by_cases hkm : k < (mrow p more i).length
                · have hil : i < lm := by
                    apply Nat.lt_of_not_le
                    intro hle
                    rw [mrow_out (by rw [HLM.out]; exact hle)] at hkm
                    simp at hkm
                  have hw0 : 0 < wd := by
                    rw [← HWD.out]
                    by_cases h : 0 < p.width
                    · exact h
                    · rw [mrow_no h] at hkm
                      simp at hkm
                  have hmi := mrow_in (more := more) (i := i) (show 0 < p.width by rw [HWD.out]; exact hw0) (by rw [HLM.out]; exact hil)
                  obtain ⟨bk, o, u, hA5, hbk, hcell, hrow⟩ := hgm i (by rw [HLM.out]; exact hil)
                  subst hA5
                  obtain ⟨A5, c5, rfl, hm5, hget5⟩ := rowI_form hrow
                  obtain ⟨ml, hml⟩ : ∃ x, (more[i]'(by rw [HLM.out]; exact hil)) = x := ⟨_, rfl⟩
                  rw [hml] at hmi hcell hm5 hget5
                  obtain ⟨l5, hl5⟩ : ∃ x, ml.length = x := ⟨_, rfl⟩
                  have hkb : k < 8 ∧ k < l5 := by rw [hmi, List.length_take, hl5] at hkm; omega
                  obtain ⟨b9, o9, hA9, hb9, hc9⟩ := hget5 k (by omega)
                  subst hA9
                  obtain ⟨x, hx⟩ : ∃ x, ml[k]'(by omega) = x := ⟨_, rfl⟩
                  rw [hx] at hc9
                  rw [hl5] at hcell hm5
                  unfold maxLen at hm5
                  have hnx : (mrow p more i).take (k + 1) = (mrow p more i).take k ++ [x] := by
                    rw [List.take_succ_eq_append_getElem hkm]
                    congr 1
                    rw [List.cons.injEq]
                    refine ⟨?_, rfl⟩
                    simp only [hmi, List.getElem_take]
                    exact hx
                  have hwd4 : wd ≤ 4000 := by have := (code_ok (by have := HN.out; omega) HC0.out).high; rw [HWD.out] at this; exact this
                  have hwdu : IntKind.u64.wrap wd = wd := by rw [IntKind.wrap_u64]; omega
                  have hdz : (wd == 0) = false := by simp; omega
                  have hwz : ¬wd = 0 := by omega
                  obtain ⟨rl, hrl⟩ : ∃ q, p.gen.getD i [] ++ ((mrow p more i).take k).map (remW p.width) = q := ⟨_, rfl⟩
                  have hnew : p.gen.getD i [] ++ ((mrow p more i).take (k + 1)).map (remW p.width) = rl ++ [remW wd x] := by
                    rw [← hrl, hnx, List.map_append, List.append_assoc, HWD.out]
                    rfl
                  have HNEW := Lib.hid hnew
                  have HIR2 : Hid (IRow wr B2 _ rl) := hrl ▸ HIR.out
                  obtain ⟨a6, c6, rfl, _⟩ := own_slice HIR2.out
                  obtain ⟨q, hq⟩ : ∃ q, rl.length = q := ⟨_, rfl⟩
                  have hq16 : q ≤ 40 := by
                    rw [← hq, ← hrl, List.length_append, List.length_map, List.length_take]
                    have h1 : (p.gen.getD i []).length ≤ 8 := by
                      rw [List.getD_eq_getElem?_getD]
                      cases hh : p.gen[i]? with
                      | none => exact Nat.zero_le _
                      | some l => exact HSMA.out.sg l (List.mem_of_getElem? hh)
                    omega
                  have HRL := Lib.hid hq
                  have HO1 : Hid (wr.ownsRow B2 3 1 (.slice a6 q c6) q (intsC rl)) := by
                    have := HIR2.out
                    unfold IRow at this
                    rw [hq] at this
                    exact this
                  rw [hq]
                  have hszB : B2 ≤ wr.heap.size := by have := HBI.out.size; have := HB2.out; omega
                  obtain ⟨hk81, hk82⟩ := hkb
                  clear hnew hnx hmi hml hl5 hx hrow hget5 hgm HIR HIR2 hrl hq hm5
                  have hb4' : Below w3.heap.size w3 wr := HQB.out.symm ▸ hb4
                  have HSK : Hid (∀ X, Below w3.heap.size w3 X → X.cell? ⟨H, 1, none⟩ = some (.int .i64 wd) ∧ X.cell? ⟨bk, o + i, none⟩ = some (.slice (some ⟨b9, o9, none⟩) l5 c5) ∧ X.cell? ⟨b9, o9 + k, none⟩ = some (.int .i64 x)) := fun X hX => by
                    have hB := (HL3.out.next hX).box
                    exact ⟨by rw [hB.at_, ← HWD.out]; rfl, (hX.cell (p := ⟨bk, o + i, none⟩) hbk).trans hcell, (hX.cell (p := ⟨b9, o9 + k, none⟩) hb9).trans hc9⟩
                  have g1 := (hb4'.cell (p := ⟨bk, o + i, none⟩) hbk).trans hcell
                  have g2 := (hb4'.cell (p := ⟨b9, o9 + k, none⟩) hb9).trans hc9
                  obtain ⟨R, hR⟩ : ∃ R, remW wd x = R := ⟨_, rfl⟩
                  have hRe : IntKind.i64.wrap ((IntKind.u64.wrap x).tmod wd) = R := by rw [← hR]; unfold remW; rw [hwdu]
                  rw [hR] at HNEW
                  have hszQ : w3.heap.size ≤ wr.heap.size := hb4'.size
                  have hQ2 : w3.heap.size ≤ B2 := by have := HIQ.out.lt; have := HB2.out; have := HQB.out; omega
                  have D0 : Hid (Below w3.heap.size w3 wr) := hb4'
                  have DD : Hid (Below w3.heap.size w3 wr.drew) := hb4'.drew
                  have D1 : Hid (Below w3.heap.size w3 (wr.drew.alloc (.cells #[.int .i64 R] 3))) := DD.out.alloc hszQ _
                  have OWD : Hid ((wr.drew.alloc (.cells #[.int .i64 R] 3)).ownsRow B2 3 1 (.slice a6 q c6) q (intsC rl)) := World.ownsRow.alloc (HO1.out.drew) _
                  have RAD : Hid (RowAt (wr.drew.alloc (.cells #[.int .i64 R] 3)) (some ⟨wr.drew.heap.size, 0, none⟩) [.int .i64 R]) := fun _ => ⟨_, 0, rfl, by simp, fun j u hu => by
                    rw [(Is.made wr.drew 3 #[.int .i64 R]).at_, Nat.zero_add]
                    simpa using hu⟩
                  have HON : Hid (wr.drew.ownsRow B2 3 1 (.slice a6 q c6) q (intsC rl)) := HO1.out.drew
                  clear hR hb4 hb4' hcell hc9
                  go_wp2_with fail
                  go_region_held3 (fun X => X.cell? ⟨H, 1, none⟩ = some (.int .i64 wd) ∧ X.cell? ⟨bk, o + i, none⟩ = some (.slice (some ⟨b9, o9, none⟩) l5 c5) ∧ X.cell? ⟨b9, o9 + k, none⟩ = some (.int .i64 x))
                    (first
                      | exact HSK.out _ D6.out
                      | exact HSK.out _ D1.out
                      | exact HSK.out _ DD.out
                      | exact HSK.out _ D0.out)
                    (first
                      | (refine step_append_row (by rfl) _ _ 23 (by rfl) B2 3 i0 (.int .i64 0) 1 8 Tryd.underlying23 HI0.out hz0 hz1 hz2 rfl (by decide) _ q (intsC rl) (by rfl) OWD.out (some ⟨wr.drew.heap.size, 0, none⟩) 1 1 (fun e => by cases e) [.int .i64 R] (by rfl) (by rfl) RAD.out (fun u hu => by simp at hu; subst hu; rfl) (by unfold maxLen; omega) (by omega) (by simp; omega) ?_; intro v2 w6 hown2 hgr; have D6 : Hid (Below w3.heap.size w3 w6) := (below_on DD.out HON.out hQ2 hszQ hgr); have HBI6 : Hid (Below B2 wo w6) := (below_on HBI.out.drew HON.out (Nat.le_refl _) hszB hgr)))
                  all_goals
                    have HIR6 : Hid (IRow w6 B2 v2 (p.gen.getD i [] ++ ((mrow p more i).take (k + 1)).map (remW p.width))) := by
                      show World.ownsRow _ _ _ _ _ _ _
                      rw [HNEW.out, intsC_append, List.length_append, HRL.out]
                      exact hown2
                    clear hown2 hgr HSK D0 DD D1 D6 OWD RAD HON g1 g2 d1
                    go_wp2
                    go_roundw
                    case rel => exact ⟨k + 1, by omega, by go_num, HIR6, HBI6⟩
                    case measure => simp [intOf]; omega
                · have hke : k = (mrow p more i).length := by omega
                  have hrowE : p.gen.getD i [] ++ ((mrow p more i).take k).map (remW p.width) = moreRow p more i := by rw [hke, List.take_length, moreRow_eq]
                  have hir : IRow wr B2 _ (moreRow p more i) := hrowE ▸ HIR.out
                  obtain ⟨a6, c6, rfl, _⟩ := own_slice hir
                  have hiq := HIQ.out.below HBI.out (by have := HIQ.out.lt; have := HB2.out; omega)
                  have hQB2 : QB + 1 ≤ B2 := by have := HIQ.out.lt; have := HB2.out; omega
                  have hu2 := hir.mono hQB2
                  obtain ⟨xs, hxx⟩ := (HRW.out.below (HB2.out.symm ▸ HBI.out)).rows
                  have hHOX := hxx.1
                  simp only [List.length_map, List.length_range] at hHOX
                  have HOX := Lib.hid hHOX
                  have hPB := fun (v2 : Value) (w6 : World) (o : Obj) => push_box (v2 := v2) (w6 := w6) (o := o) hb4 hiq hu2 (show ((List.range i).map (moreRow p more)).length = i by simp) hxx
                  have hszw : QB + 1 ≤ wr.heap.size := by have := hiq.lt; omega
                  have f2 := hiq.at_ 2
                  simp at f2
                  obtain ⟨q6, hq6⟩ : ∃ x, (moreRow p more i).length = x := ⟨_, rfl⟩
                  have hq30 : q6 ≤ 2 ^ 62 := by
                    rw [← hq6, moreRow_eq, List.length_append, List.length_map]
                    have h1 : (p.gen.getD i []).length ≤ 8 := by
                      rw [List.getD_eq_getElem?_getD]
                      cases hh : p.gen[i]? with
                      | none => exact Nat.zero_le _
                      | some l => exact HSMA.out.sg l (List.mem_of_getElem? hh)
                    have h2 := mrow_len p more i
                    omega
                  rw [hq6] at hPB ⊢
                  have HPB := Lib.hid hPB
                  have d0 := HL5.out.box.at_ 0
                  simp at d0
                  have HC2 : Hid (∀ u ∈ ([.slice a6 q6 c6] : List Value), u.oneCell' = true) := fun u hu => by simp at hu; subst hu; rfl
                  have HC3 : Hid (i + 1 ≤ maxLen) := by show _ ≤ _; unfold maxLen; omega
                  have HC4 : Hid ((i + 1) * 24 ≤ 140737488355328) := by show _ ≤ _; omega
                  have HC5 : Hid (QB + 1 ≤ (wr.alloc (.cells #[.slice a6 q6 c6] 23)).heap.size) := by show _ ≤ _; simp; omega
                  clear hrowE hir hu2 hxx hHOX hPB hiq hq6 HIR
                  by_cases hil : i < lm
                  · obtain ⟨bk, o, u, hA5, hbk, hcell, hrow⟩ := hgm i (by rw [HLM.out]; exact hil)
                    subst hA5
                    obtain ⟨A5, c5, rfl, hm5, _⟩ := rowI_form hrow
                    obtain ⟨l5, hl5⟩ : ∃ x, (more[i]'(by rw [HLM.out]; exact hil)).length = x := ⟨_, rfl⟩
                    have hkl : ¬(k < l5 ∧ k < 8 ∧ 0 < wd) := fun ⟨h1, h2, h3⟩ => by
                      rw [mrow_in (show 0 < p.width by rw [HWD.out]; exact h3) (by rw [HLM.out]; exact hil), List.length_take, hl5] at hke
                      omega
                    rw [hl5] at hcell hm5
                    unfold maxLen at hm5
                    have g1 := ((HQB.out.symm ▸ hb4 : Below w3.heap.size w3 wr).cell (p := ⟨bk, o + i, none⟩) hbk).trans hcell
                    clear hke hcell hrow hl5
                    by_cases h1 : k < l5
                    · by_cases h2 : k < 8
                      · have h3 : ¬0 < wd := fun h => hkl ⟨h1, h2, h⟩
                        have e3 : decide (0 < wd) = false := decide_eq_false h3
                        clear hkl
                        clear hgm hb4
                        go_wp2_with (at_builtin; go_loud (refine wpList_append_own _ rfl _ _ 22 rfl (QB + 1) 23 i9 (.slice none 0 0) 1 24 Tryd.underlying22 HI9.out hy0 hy1 hy2 rfl (by decide) (.slice ao i co) i xs rfl (HOX.out.alloc _) ⟨wr.heap.size, 0, none⟩ 1 1 [.slice a6 q6 c6] rfl rfl (cells_made _ _ _) HC2.out HC3.out HC4.out HC5.out ?_))
                        intro v2 w6 hown2 hgr _
                        obtain ⟨a7, c7, rfl, _⟩ := own_slice hown2
                        have hpush := HPB.out _ w6 _ hown2 hgr
                        obtain ⟨p1, p2, p3, p4, p5⟩ := hpush
                        have HR9 : Hid (Below QB w3 (w6.setCell ⟨QB, 2, none⟩ (.slice a7 (i + 1) c7)) ∧ ∃ v, Is (w6.setCell ⟨QB, 2, none⟩ (.slice a7 (i + 1) c7)) QB 25 #[.slice As n cs, .int .i64 wd, v, .slice Ak nk ck, .slice Ae4 le ce] ∧ Rws (w6.setCell ⟨QB, 2, none⟩ (.slice a7 (i + 1) c7)) (QB + 1) v ((List.range (i + 1)).map (moreRow p more))) :=
                          ⟨p3, _, p4, by rw [List.range_succ, List.map_append]; exact p5⟩
                        clear p3 p4 p5 hown2 hgr HPB
                        go_wp2
                        go_roundw
                        case rel => exact ⟨i + 1, by omega, by go_num, HR9⟩
                        case measure => simp [intOf]; omega
                      · clear hkl
                        clear hgm hb4
                        go_wp2_with (at_builtin; go_loud (refine wpList_append_own _ rfl _ _ 22 rfl (QB + 1) 23 i9 (.slice none 0 0) 1 24 Tryd.underlying22 HI9.out hy0 hy1 hy2 rfl (by decide) (.slice ao i co) i xs rfl (HOX.out.alloc _) ⟨wr.heap.size, 0, none⟩ 1 1 [.slice a6 q6 c6] rfl rfl (cells_made _ _ _) HC2.out HC3.out HC4.out HC5.out ?_))
                        intro v2 w6 hown2 hgr _
                        obtain ⟨a7, c7, rfl, _⟩ := own_slice hown2
                        have hpush := HPB.out _ w6 _ hown2 hgr
                        obtain ⟨p1, p2, p3, p4, p5⟩ := hpush
                        have HR9 : Hid (Below QB w3 (w6.setCell ⟨QB, 2, none⟩ (.slice a7 (i + 1) c7)) ∧ ∃ v, Is (w6.setCell ⟨QB, 2, none⟩ (.slice a7 (i + 1) c7)) QB 25 #[.slice As n cs, .int .i64 wd, v, .slice Ak nk ck, .slice Ae4 le ce] ∧ Rws (w6.setCell ⟨QB, 2, none⟩ (.slice a7 (i + 1) c7)) (QB + 1) v ((List.range (i + 1)).map (moreRow p more))) :=
                          ⟨p3, _, p4, by rw [List.range_succ, List.map_append]; exact p5⟩
                        clear p3 p4 p5 hown2 hgr HPB
                        go_wp2
                        go_roundw
                        case rel => exact ⟨i + 1, by omega, by go_num, HR9⟩
                        case measure => simp [intOf]; omega
                    · clear hkl
                      clear hgm hb4
                      go_wp2_with (at_builtin; go_loud (refine wpList_append_own _ rfl _ _ 22 rfl (QB + 1) 23 i9 (.slice none 0 0) 1 24 Tryd.underlying22 HI9.out hy0 hy1 hy2 rfl (by decide) (.slice ao i co) i xs rfl (HOX.out.alloc _) ⟨wr.heap.size, 0, none⟩ 1 1 [.slice a6 q6 c6] rfl rfl (cells_made _ _ _) HC2.out HC3.out HC4.out HC5.out ?_))
                      intro v2 w6 hown2 hgr _
                      obtain ⟨a7, c7, rfl, _⟩ := own_slice hown2
                      have hpush := HPB.out _ w6 _ hown2 hgr
                      obtain ⟨p1, p2, p3, p4, p5⟩ := hpush
                      have HR9 : Hid (Below QB w3 (w6.setCell ⟨QB, 2, none⟩ (.slice a7 (i + 1) c7)) ∧ ∃ v, Is (w6.setCell ⟨QB, 2, none⟩ (.slice a7 (i + 1) c7)) QB 25 #[.slice As n cs, .int .i64 wd, v, .slice Ak nk ck, .slice Ae4 le ce] ∧ Rws (w6.setCell ⟨QB, 2, none⟩ (.slice a7 (i + 1) c7)) (QB + 1) v ((List.range (i + 1)).map (moreRow p more))) :=
                        ⟨p3, _, p4, by rw [List.range_succ, List.map_append]; exact p5⟩
                      clear p3 p4 p5 hown2 hgr HPB
                      go_wp2
                      go_roundw
                      case rel => exact ⟨i + 1, by omega, by go_num, HR9⟩
                      case measure => simp [intOf]; omega
                  · clear hke
                    clear hgm hb4
                    go_wp2_with (at_builtin; go_loud (refine wpList_append_own _ rfl _ _ 22 rfl (QB + 1) 23 i9 (.slice none 0 0) 1 24 Tryd.underlying22 HI9.out hy0 hy1 hy2 rfl (by decide) (.slice ao i co) i xs rfl (HOX.out.alloc _) ⟨wr.heap.size, 0, none⟩ 1 1 [.slice a6 q6 c6] rfl rfl (cells_made _ _ _) HC2.out HC3.out HC4.out HC5.out ?_))
                    intro v2 w6 hown2 hgr _
                    obtain ⟨a7, c7, rfl, _⟩ := own_slice hown2
                    have hpush := HPB.out _ w6 _ hown2 hgr
                    obtain ⟨p1, p2, p3, p4, p5⟩ := hpush
                    have HR9 : Hid (Below QB w3 (w6.setCell ⟨QB, 2, none⟩ (.slice a7 (i + 1) c7)) ∧ ∃ v, Is (w6.setCell ⟨QB, 2, none⟩ (.slice a7 (i + 1) c7)) QB 25 #[.slice As n cs, .int .i64 wd, v, .slice Ak nk ck, .slice Ae4 le ce] ∧ Rws (w6.setCell ⟨QB, 2, none⟩ (.slice a7 (i + 1) c7)) (QB + 1) v ((List.range (i + 1)).map (moreRow p more))) :=
                      ⟨p3, _, p4, by rw [List.range_succ, List.map_append]; exact p5⟩
                    clear p3 p4 p5 hown2 hgr HPB
                    go_wp2
                    go_roundw
                    case rel => exact ⟨i + 1, by omega, by go_num, HR9⟩
                    case measure => simp [intOf]; omega
            · have HIR : Hid (IRow wo B2 (.slice none 0 0) (p.gen.getD i [] ++ ((mrow p more i).take 0).map (remW p.width))) := by
                show World.ownsRow _ _ _ _ _ _ _
                have : p.gen.getD i [] = [] := by rw [List.getD_eq_getElem?_getD, List.getElem?_eq_none (by have := HNG.out; omega)]; rfl
                rw [this, List.take_zero, List.map_nil]
                exact ⟨rfl, .inl ⟨rfl, rfl⟩⟩
              have HBI : Hid (Below B2 wo wo) := Below.refl _ _
              go_wp2
              go_loopw [7, 8] (fun v k1 wr => ∃ k : Nat, k ≤ (mrow p more i).length ∧ k1 = .int .i64 k ∧ Hid (IRow wr B2 v (p.gen.getD i [] ++ ((mrow p more i).take k).map (remW p.width))) ∧ Hid (Below B2 wo wr)) (fun _ k1 _ => (mrow p more i).length - (intOf k1).toNat)
              case atStart => exact ⟨0, Nat.zero_le _, rfl, HIR, HBI⟩
              clear HIR HBI d0 d2
              case round =>
                obtain ⟨k, hk, rfl, HIR, HBI⟩ := hrel
                have hk8 : k ≤ 8 := Nat.le_trans hk (mrow_len p more i)
                have hb4 : Below QB w3 wr := HBQ.out.trans (HBI.out.mono (by have := HIQ.out.lt; have := HB2.out; omega))
                have HL5 := Lib.hid (HL3.out.next (HQB.out.symm ▸ hb4))
                have d1 := HL5.out.box.at_ 1
                rw [HWD.out] at d1
                simp at d1
                obtain ⟨Am2, cm2, em, _, hgm⟩ := (HMO0.out.below (HH.out.symm ▸ HL3.out.since)).form
                rw [HLM.out] at em
                cases em
                by_cases hkm : k < (mrow p more i).length
                · have hil : i < lm := by
                    apply Nat.lt_of_not_le
                    intro hle
                    rw [mrow_out (by rw [HLM.out]; exact hle)] at hkm
                    simp at hkm
                  have hw0 : 0 < wd := by
                    rw [← HWD.out]
                    by_cases h : 0 < p.width
                    · exact h
                    · rw [mrow_no h] at hkm
                      simp at hkm
                  have hmi := mrow_in (more := more) (i := i) (show 0 < p.width by rw [HWD.out]; exact hw0) (by rw [HLM.out]; exact hil)
                  obtain ⟨bk, o, u, hA5, hbk, hcell, hrow⟩ := hgm i (by rw [HLM.out]; exact hil)
                  subst hA5
                  obtain ⟨A5, c5, rfl, hm5, hget5⟩ := rowI_form hrow
                  obtain ⟨ml, hml⟩ : ∃ x, (more[i]'(by rw [HLM.out]; exact hil)) = x := ⟨_, rfl⟩
                  rw [hml] at hmi hcell hm5 hget5
                  obtain ⟨l5, hl5⟩ : ∃ x, ml.length = x := ⟨_, rfl⟩
                  have hkb : k < 8 ∧ k < l5 := by rw [hmi, List.length_take, hl5] at hkm; omega
                  obtain ⟨b9, o9, hA9, hb9, hc9⟩ := hget5 k (by omega)
                  subst hA9
                  obtain ⟨x, hx⟩ : ∃ x, ml[k]'(by omega) = x := ⟨_, rfl⟩
                  rw [hx] at hc9
                  rw [hl5] at hcell hm5
                  unfold maxLen at hm5
                  have hnx : (mrow p more i).take (k + 1) = (mrow p more i).take k ++ [x] := by
                    rw [List.take_succ_eq_append_getElem hkm]
                    congr 1
                    rw [List.cons.injEq]
                    refine ⟨?_, rfl⟩
                    simp only [hmi, List.getElem_take]
                    exact hx
                  have hwd4 : wd ≤ 4000 := by have := (code_ok (by have := HN.out; omega) HC0.out).high; rw [HWD.out] at this; exact this
                  have hwdu : IntKind.u64.wrap wd = wd := by rw [IntKind.wrap_u64]; omega
                  have hdz : (wd == 0) = false := by simp; omega
                  have hwz : ¬wd = 0 := by omega
                  obtain ⟨rl, hrl⟩ : ∃ q, p.gen.getD i [] ++ ((mrow p more i).take k).map (remW p.width) = q := ⟨_, rfl⟩
                  have hnew : p.gen.getD i [] ++ ((mrow p more i).take (k + 1)).map (remW p.width) = rl ++ [remW wd x] := by
                    rw [← hrl, hnx, List.map_append, List.append_assoc, HWD.out]
                    rfl
                  have HNEW := Lib.hid hnew
                  have HIR2 : Hid (IRow wr B2 _ rl) := hrl ▸ HIR.out
                  obtain ⟨a6, c6, rfl, _⟩ := own_slice HIR2.out
                  obtain ⟨q, hq⟩ : ∃ q, rl.length = q := ⟨_, rfl⟩
                  have hq16 : q ≤ 40 := by
                    rw [← hq, ← hrl, List.length_append, List.length_map, List.length_take]
                    have h1 : (p.gen.getD i []).length ≤ 8 := by
                      rw [List.getD_eq_getElem?_getD]
                      cases hh : p.gen[i]? with
                      | none => exact Nat.zero_le _
                      | some l => exact HSMA.out.sg l (List.mem_of_getElem? hh)
                    omega
                  have HRL := Lib.hid hq
                  have HO1 : Hid (wr.ownsRow B2 3 1 (.slice a6 q c6) q (intsC rl)) := by
                    have := HIR2.out
                    unfold IRow at this
                    rw [hq] at this
                    exact this
                  rw [hq]
                  have hszB : B2 ≤ wr.heap.size := by have := HBI.out.size; have := HB2.out; omega
                  obtain ⟨hk81, hk82⟩ := hkb
                  clear hnew hnx hmi hml hl5 hx hrow hget5 hgm HIR HIR2 hrl hq hm5
                  have hb4' : Below w3.heap.size w3 wr := HQB.out.symm ▸ hb4
                  have HSK : Hid (∀ X, Below w3.heap.size w3 X → X.cell? ⟨H, 1, none⟩ = some (.int .i64 wd) ∧ X.cell? ⟨bk, o + i, none⟩ = some (.slice (some ⟨b9, o9, none⟩) l5 c5) ∧ X.cell? ⟨b9, o9 + k, none⟩ = some (.int .i64 x)) := fun X hX => by
                    have hB := (HL3.out.next hX).box
                    exact ⟨by rw [hB.at_, ← HWD.out]; rfl, (hX.cell (p := ⟨bk, o + i, none⟩) hbk).trans hcell, (hX.cell (p := ⟨b9, o9 + k, none⟩) hb9).trans hc9⟩
                  have g1 := (hb4'.cell (p := ⟨bk, o + i, none⟩) hbk).trans hcell
                  have g2 := (hb4'.cell (p := ⟨b9, o9 + k, none⟩) hb9).trans hc9
                  obtain ⟨R, hR⟩ : ∃ R, remW wd x = R := ⟨_, rfl⟩
                  have hRe : IntKind.i64.wrap ((IntKind.u64.wrap x).tmod wd) = R := by rw [← hR]; unfold remW; rw [hwdu]
                  rw [hR] at HNEW
                  have hszQ : w3.heap.size ≤ wr.heap.size := hb4'.size
                  have hQ2 : w3.heap.size ≤ B2 := by have := HIQ.out.lt; have := HB2.out; have := HQB.out; omega
                  have D0 : Hid (Below w3.heap.size w3 wr) := hb4'
                  have DD : Hid (Below w3.heap.size w3 wr.drew) := hb4'.drew
                  have D1 : Hid (Below w3.heap.size w3 (wr.drew.alloc (.cells #[.int .i64 R] 3))) := DD.out.alloc hszQ _
                  have OWD : Hid ((wr.drew.alloc (.cells #[.int .i64 R] 3)).ownsRow B2 3 1 (.slice a6 q c6) q (intsC rl)) := World.ownsRow.alloc (HO1.out.drew) _
                  have RAD : Hid (RowAt (wr.drew.alloc (.cells #[.int .i64 R] 3)) (some ⟨wr.drew.heap.size, 0, none⟩) [.int .i64 R]) := fun _ => ⟨_, 0, rfl, by simp, fun j u hu => by
                    rw [(Is.made wr.drew 3 #[.int .i64 R]).at_, Nat.zero_add]
                    simpa using hu⟩
                  have HON : Hid (wr.drew.ownsRow B2 3 1 (.slice a6 q c6) q (intsC rl)) := HO1.out.drew
                  clear hR hb4 hb4' hcell hc9
                  go_wp2_with fail
                  go_region_held3 (fun X => X.cell? ⟨H, 1, none⟩ = some (.int .i64 wd) ∧ X.cell? ⟨bk, o + i, none⟩ = some (.slice (some ⟨b9, o9, none⟩) l5 c5) ∧ X.cell? ⟨b9, o9 + k, none⟩ = some (.int .i64 x))
                    (first
                      | exact HSK.out _ D6.out
                      | exact HSK.out _ D1.out
                      | exact HSK.out _ DD.out
                      | exact HSK.out _ D0.out)
                    (first
                      | (refine step_append_row (by rfl) _ _ 23 (by rfl) B2 3 i0 (.int .i64 0) 1 8 Tryd.underlying23 HI0.out hz0 hz1 hz2 rfl (by decide) _ q (intsC rl) (by rfl) OWD.out (some ⟨wr.drew.heap.size, 0, none⟩) 1 1 (fun e => by cases e) [.int .i64 R] (by rfl) (by rfl) RAD.out (fun u hu => by simp at hu; subst hu; rfl) (by unfold maxLen; omega) (by omega) (by simp; omega) ?_; intro v2 w6 hown2 hgr; have D6 : Hid (Below w3.heap.size w3 w6) := (below_on DD.out HON.out hQ2 hszQ hgr); have HBI6 : Hid (Below B2 wo w6) := (below_on HBI.out.drew HON.out (Nat.le_refl _) hszB hgr)))
                  all_goals
                    have HIR6 : Hid (IRow w6 B2 v2 (p.gen.getD i [] ++ ((mrow p more i).take (k + 1)).map (remW p.width))) := by
                      show World.ownsRow _ _ _ _ _ _ _
                      rw [HNEW.out, intsC_append, List.length_append, HRL.out]
                      exact hown2
                    clear hown2 hgr HSK D0 DD D1 D6 OWD RAD HON g1 g2 d1
                    go_wp2
                    go_roundw
                    case rel => exact ⟨k + 1, by omega, by go_num, HIR6, HBI6⟩
                    case measure => simp [intOf]; omega
                · have hke : k = (mrow p more i).length := by omega
                  have hrowE : p.gen.getD i [] ++ ((mrow p more i).take k).map (remW p.width) = moreRow p more i := by rw [hke, List.take_length, moreRow_eq]
                  have hir : IRow wr B2 _ (moreRow p more i) := hrowE ▸ HIR.out
                  obtain ⟨a6, c6, rfl, _⟩ := own_slice hir
                  have hiq := HIQ.out.below HBI.out (by have := HIQ.out.lt; have := HB2.out; omega)
                  have hQB2 : QB + 1 ≤ B2 := by have := HIQ.out.lt; have := HB2.out; omega
                  have hu2 := hir.mono hQB2
                  obtain ⟨xs, hxx⟩ := (HRW.out.below (HB2.out.symm ▸ HBI.out)).rows
                  have hHOX := hxx.1
                  simp only [List.length_map, List.length_range] at hHOX
                  have HOX := Lib.hid hHOX
                  have hPB := fun (v2 : Value) (w6 : World) (o : Obj) => push_box (v2 := v2) (w6 := w6) (o := o) hb4 hiq hu2 (show ((List.range i).map (moreRow p more)).length = i by simp) hxx
                  have hszw : QB + 1 ≤ wr.heap.size := by have := hiq.lt; omega
                  have f2 := hiq.at_ 2
                  simp at f2
                  obtain ⟨q6, hq6⟩ : ∃ x, (moreRow p more i).length = x := ⟨_, rfl⟩
                  have hq30 : q6 ≤ 2 ^ 62 := by
                    rw [← hq6, moreRow_eq, List.length_append, List.length_map]
                    have h1 : (p.gen.getD i []).length ≤ 8 := by
                      rw [List.getD_eq_getElem?_getD]
                      cases hh : p.gen[i]? with
                      | none => exact Nat.zero_le _
                      | some l => exact HSMA.out.sg l (List.mem_of_getElem? hh)
                    have h2 := mrow_len p more i
                    omega
                  rw [hq6] at hPB ⊢
                  have HPB := Lib.hid hPB
                  have d0 := HL5.out.box.at_ 0
                  simp at d0
                  have HC2 : Hid (∀ u ∈ ([.slice a6 q6 c6] : List Value), u.oneCell' = true) := fun u hu => by simp at hu; subst hu; rfl
                  have HC3 : Hid (i + 1 ≤ maxLen) := by show _ ≤ _; unfold maxLen; omega
                  have HC4 : Hid ((i + 1) * 24 ≤ 140737488355328) := by show _ ≤ _; omega
                  have HC5 : Hid (QB + 1 ≤ (wr.alloc (.cells #[.slice a6 q6 c6] 23)).heap.size) := by show _ ≤ _; simp; omega
                  clear hrowE hir hu2 hxx hHOX hPB hiq hq6 HIR
                  by_cases hil : i < lm
                  · obtain ⟨bk, o, u, hA5, hbk, hcell, hrow⟩ := hgm i (by rw [HLM.out]; exact hil)
                    subst hA5
                    obtain ⟨A5, c5, rfl, hm5, _⟩ := rowI_form hrow
                    obtain ⟨l5, hl5⟩ : ∃ x, (more[i]'(by rw [HLM.out]; exact hil)).length = x := ⟨_, rfl⟩
                    have hkl : ¬(k < l5 ∧ k < 8 ∧ 0 < wd) := fun ⟨h1, h2, h3⟩ => by
                      rw [mrow_in (show 0 < p.width by rw [HWD.out]; exact h3) (by rw [HLM.out]; exact hil), List.length_take, hl5] at hke
                      omega
                    rw [hl5] at hcell hm5
                    unfold maxLen at hm5
                    have g1 := ((HQB.out.symm ▸ hb4 : Below w3.heap.size w3 wr).cell (p := ⟨bk, o + i, none⟩) hbk).trans hcell
                    clear hke hcell hrow hl5
                    by_cases h1 : k < l5
                    · by_cases h2 : k < 8
                      · have h3 : ¬0 < wd := fun h => hkl ⟨h1, h2, h⟩
                        have e3 : decide (0 < wd) = false := decide_eq_false h3
                        clear hkl
                        clear hgm hb4
                        go_wp2_with (at_builtin; go_loud (refine wpList_append_own _ rfl _ _ 22 rfl (QB + 1) 23 i9 (.slice none 0 0) 1 24 Tryd.underlying22 HI9.out hy0 hy1 hy2 rfl (by decide) (.slice ao i co) i xs rfl (HOX.out.alloc _) ⟨wr.heap.size, 0, none⟩ 1 1 [.slice a6 q6 c6] rfl rfl (cells_made _ _ _) HC2.out HC3.out HC4.out HC5.out ?_))
                        intro v2 w6 hown2 hgr _
                        obtain ⟨a7, c7, rfl, _⟩ := own_slice hown2
                        have hpush := HPB.out _ w6 _ hown2 hgr
                        obtain ⟨p1, p2, p3, p4, p5⟩ := hpush
                        have HR9 : Hid (Below QB w3 (w6.setCell ⟨QB, 2, none⟩ (.slice a7 (i + 1) c7)) ∧ ∃ v, Is (w6.setCell ⟨QB, 2, none⟩ (.slice a7 (i + 1) c7)) QB 25 #[.slice As n cs, .int .i64 wd, v, .slice Ak nk ck, .slice Ae4 le ce] ∧ Rws (w6.setCell ⟨QB, 2, none⟩ (.slice a7 (i + 1) c7)) (QB + 1) v ((List.range (i + 1)).map (moreRow p more))) :=
                          ⟨p3, _, p4, by rw [List.range_succ, List.map_append]; exact p5⟩
                        clear p3 p4 p5 hown2 hgr HPB
                        go_wp2
                        go_roundw
                        case rel => exact ⟨i + 1, by omega, by go_num, HR9⟩
                        case measure => simp [intOf]; omega
                      · clear hkl
                        clear hgm hb4
                        go_wp2_with (at_builtin; go_loud (refine wpList_append_own _ rfl _ _ 22 rfl (QB + 1) 23 i9 (.slice none 0 0) 1 24 Tryd.underlying22 HI9.out hy0 hy1 hy2 rfl (by decide) (.slice ao i co) i xs rfl (HOX.out.alloc _) ⟨wr.heap.size, 0, none⟩ 1 1 [.slice a6 q6 c6] rfl rfl (cells_made _ _ _) HC2.out HC3.out HC4.out HC5.out ?_))
                        intro v2 w6 hown2 hgr _
                        obtain ⟨a7, c7, rfl, _⟩ := own_slice hown2
                        have hpush := HPB.out _ w6 _ hown2 hgr
                        obtain ⟨p1, p2, p3, p4, p5⟩ := hpush
                        have HR9 : Hid (Below QB w3 (w6.setCell ⟨QB, 2, none⟩ (.slice a7 (i + 1) c7)) ∧ ∃ v, Is (w6.setCell ⟨QB, 2, none⟩ (.slice a7 (i + 1) c7)) QB 25 #[.slice As n cs, .int .i64 wd, v, .slice Ak nk ck, .slice Ae4 le ce] ∧ Rws (w6.setCell ⟨QB, 2, none⟩ (.slice a7 (i + 1) c7)) (QB + 1) v ((List.range (i + 1)).map (moreRow p more))) :=
                          ⟨p3, _, p4, by rw [List.range_succ, List.map_append]; exact p5⟩
                        clear p3 p4 p5 hown2 hgr HPB
                        go_wp2
                        go_roundw
                        case rel => exact ⟨i + 1, by omega, by go_num, HR9⟩
                        case measure => simp [intOf]; omega
                    · clear hkl
                      clear hgm hb4
                      go_wp2_with (at_builtin; go_loud (refine wpList_append_own _ rfl _ _ 22 rfl (QB + 1) 23 i9 (.slice none 0 0) 1 24 Tryd.underlying22 HI9.out hy0 hy1 hy2 rfl (by decide) (.slice ao i co) i xs rfl (HOX.out.alloc _) ⟨wr.heap.size, 0, none⟩ 1 1 [.slice a6 q6 c6] rfl rfl (cells_made _ _ _) HC2.out HC3.out HC4.out HC5.out ?_))
                      intro v2 w6 hown2 hgr _
                      obtain ⟨a7, c7, rfl, _⟩ := own_slice hown2
                      have hpush := HPB.out _ w6 _ hown2 hgr
                      obtain ⟨p1, p2, p3, p4, p5⟩ := hpush
                      have HR9 : Hid (Below QB w3 (w6.setCell ⟨QB, 2, none⟩ (.slice a7 (i + 1) c7)) ∧ ∃ v, Is (w6.setCell ⟨QB, 2, none⟩ (.slice a7 (i + 1) c7)) QB 25 #[.slice As n cs, .int .i64 wd, v, .slice Ak nk ck, .slice Ae4 le ce] ∧ Rws (w6.setCell ⟨QB, 2, none⟩ (.slice a7 (i + 1) c7)) (QB + 1) v ((List.range (i + 1)).map (moreRow p more))) :=
                        ⟨p3, _, p4, by rw [List.range_succ, List.map_append]; exact p5⟩
                      clear p3 p4 p5 hown2 hgr HPB
                      go_wp2
                      go_roundw
                      case rel => exact ⟨i + 1, by omega, by go_num, HR9⟩
                      case measure => simp [intOf]; omega
                  · clear hke
                    clear hgm hb4
                    go_wp2_with (at_builtin; go_loud (refine wpList_append_own _ rfl _ _ 22 rfl (QB + 1) 23 i9 (.slice none 0 0) 1 24 Tryd.underlying22 HI9.out hy0 hy1 hy2 rfl (by decide) (.slice ao i co) i xs rfl (HOX.out.alloc _) ⟨wr.heap.size, 0, none⟩ 1 1 [.slice a6 q6 c6] rfl rfl (cells_made _ _ _) HC2.out HC3.out HC4.out HC5.out ?_))
                    intro v2 w6 hown2 hgr _
                    obtain ⟨a7, c7, rfl, _⟩ := own_slice hown2
                    have hpush := HPB.out _ w6 _ hown2 hgr
                    obtain ⟨p1, p2, p3, p4, p5⟩ := hpush
                    have HR9 : Hid (Below QB w3 (w6.setCell ⟨QB, 2, none⟩ (.slice a7 (i + 1) c7)) ∧ ∃ v, Is (w6.setCell ⟨QB, 2, none⟩ (.slice a7 (i + 1) c7)) QB 25 #[.slice As n cs, .int .i64 wd, v, .slice Ak nk ck, .slice Ae4 le ce] ∧ Rws (w6.setCell ⟨QB, 2, none⟩ (.slice a7 (i + 1) c7)) (QB + 1) v ((List.range (i + 1)).map (moreRow p more))) :=
                      ⟨p3, _, p4, by rw [List.range_succ, List.map_append]; exact p5⟩
                    clear p3 p4 p5 hown2 hgr HPB
                    go_wp2
                    go_roundw
                    case rel => exact ⟨i + 1, by omega, by go_num, HR9⟩
                    case measure => simp [intOf]; omega
          · have hie : n = i := by omega
            subst hie
            have hpm : PbAt wr (.slice As n cs) (.slice ao n co) (.slice Ak nk ck) (.slice Ae4 le ce) (morePb p more) := by
              have h4 := HLo.out.at_
              refine ⟨h4.s, ?_, h4.k, h4.e⟩
              have := HRW.out.ls
              show LsAt wr _ ((List.range p.succ.length).map (moreRow p more))
              rw [HN.out]
              exact this
            have hn64 : p.succ.length ≤ 64 := by have := HN.out; omega
            have hok := code_ok hn64 HC0.out
            obtain ⟨m, hm⟩ : ∃ m : Nat, p.width = m := ⟨p.width.toNat, (Int.toNat_of_nonneg hok.low).symm⟩
            have hfw := forward_all HLo.out.tab HLo.out.at_ HC0.out hn64 hm
            have hfq := fun (X : World) (hX : Below wr.heap.size wr X) => forward_all (m := m) (HLo.out.tab.below hX HLo.out.tab.pos) (hpm.below hX) (more_code hn64 HC0.out) hn64 hm
            rw [HN.out] at hfw
            unfold pbV at hfw hfq
            have hmw : (morePb p more).width = wd := HWD.out
            have hms : (morePb p more).succ.length = n := HN.out
            rw [HWD.out] at hfw
            simp only [hmw, hms] at hfq
            have HFW := Lib.hid hfw
            have HFQ := Lib.hid hfq
            have HOK := Lib.hid hok
            have HM := Lib.hid hm
            clear hfw hfq hok hm hpm hmw hms
            have d1 := HLo.out.box.at_ 1
            have d3 := HLo.out.box.at_ 3
            have d4 := HLo.out.box.at_ 4
            rw [HWD.out] at d1
            simp at d1 d3 d4
            go_wp2_with fail
            refine HFW.out.mono ?_
            rintro x w4 ⟨a, Y, rfl, q1, q2, q3⟩
            have HL4 := Lib.hid (HLo.out.next q2)
            have HA4 := Lib.hid q1
            have HY4 := Lib.hid q3
            have HB4 := Lib.hid q2
            have HIQ4 := HIQ.out.below q2 HIQ.out.lt
            have e0 := HIQ4.at_ 0
            have e1 := HIQ4.at_ 1
            have e2 := HIQ4.at_ 2
            have e3 := HIQ4.at_ 3
            have e4 := HIQ4.at_ 4
            simp at e0 e1 e2 e3 e4
            clear d0 d1 d2 d3 d4 q1 q2 q3 HFW HIQ4
            go_wp2_with fail
            refine (HFQ.out w4 HB4.out).mono ?_
            rintro x w5 ⟨b, Z, rfl, r1, r2, r3⟩
            have HL5 := Lib.hid (HL4.out.next r2)
            have HA5 := Lib.hid (HA4.out.below r2)
            have HZ5 := Lib.hid r1
            have HYZ : Hid (∀ e j, e < m → j < n → ansB n m Y (j : Int) (e : Int) = true → ansB n m Z (j : Int) (e : Int) = true) := fun e j he hj hy => by
              rw [ans_nat hj he] at hy ⊢
              refine (r3 e j he hj).2 ?_
              exact fwd_mono (p := p) (q := morePb p more) rfl rfl rfl (fun i' hi' => more_has HOK.out.gen hi') ((HY4.out e j he hj).1 hy)
            have f0 := HL5.out.box.at_ 0
            have f1 := HL5.out.box.at_ 1
            rw [HWD.out] at f1
            simp at f0 f1
            have hm4 : m ≤ 4000 := by have := HOK.out.high; have := HM.out; omega
            have hmwd : wd = m := by have := HM.out; have := HWD.out; omega
            clear e0 e1 e2 e3 e4 r1 r2 r3 HFQ
            subst hmwd
            go_wp2
            go_loopw [13] (fun i wr => ∃ j : Nat, j ≤ n ∧ i = .int .i64 j ∧ Hid (Below w5.heap.size w5 wr)) (fun i _ => n - (intOf i).toNat)
            case atStart => exact ⟨0, Nat.zero_le _, rfl, Below.refl _ _⟩
            clear f0 f1
            case round =>
              obtain ⟨j, hj, rfl, HB6⟩ := hrel
              have HL6 := Lib.hid (HL5.out.next HB6.out)
              have f0 := HL6.out.box.at_ 0
              have f1 := HL6.out.box.at_ 1
              rw [HWD.out] at f1
              simp at f0 f1
              by_cases hjn : j < n
              · go_wp2
                go_loopw [14] (fun i wr => ∃ e : Nat, e ≤ m ∧ i = .int .i64 e ∧ Hid (Below w5.heap.size w5 wr)) (fun i _ => m - (intOf i).toNat)
                case atStart => exact ⟨0, Nat.zero_le _, rfl, HB6⟩
                clear f0 f1 HB6 HL6
                case round =>
                  obtain ⟨e, he, rfl, HB6⟩ := hrel
                  have HL6 := Lib.hid (HL5.out.next HB6.out)
                  have f1 := HL6.out.box.at_ 1
                  rw [HWD.out] at f1
                  simp at f1
                  by_cases hem : e < m
                  · have h1 := has_any (HA5.out.below HB6.out) (by omega) (j : Int) (e : Int)
                    have h2 := has_any (HZ5.out.below HB6.out) (by omega) (j : Int) (e : Int)
                    obtain ⟨by1, hby⟩ : ∃ b, ansB n m Y (j : Int) (e : Int) = b := ⟨_, rfl⟩
                    rw [hby] at h1
                    have H1 := Lib.hid h1
                    cases by1 with
                    | false =>
                      clear h1 h2 hby
                      go_wp2_with fail
                      refine H1.out.mono ?_
                      rintro x w7 ⟨rfl, rfl⟩
                      go_wp2
                      go_roundw
                      case rel => exact ⟨e + 1, by omega, by go_num, HB6⟩
                      case measure => simp [intOf]; omega
                    | true =>
                      rw [HYZ.out e j hem hjn hby] at h2
                      have H2 := Lib.hid h2
                      clear h1 h2 hby
                      go_wp2_with fail
                      refine H1.out.mono ?_
                      rintro x w7 ⟨rfl, rfl⟩
                      go_wp2_with fail
                      refine H2.out.mono ?_
                      rintro x w7 ⟨rfl, rfl⟩
                      go_wp2
                      go_roundw
                      case rel => exact ⟨e + 1, by omega, by go_num, HB6⟩
                      case measure => simp [intOf]; omega
                  · have hee : e = m := by omega
                    subst hee
                    go_wp2
                    go_roundw
                    case rel => exact ⟨j + 1, by omega, by go_num, HB6⟩
                    case measure => simp [intOf]; omega
              · have hjn : n = j := by omega
                subst hjn
                go_wp2
                go_ret
                exact ⟨rfl, HL6.out.since⟩
      · obtain ⟨cc, hcc⟩ : ∃ c, codeP p = c := ⟨_, rfl⟩
        rw [hcc] at hc0 ⊢
        have hne := bad_core cc hc0
        clear hcc hc0
        go_wp2_with fail
        refine (HFL.out w3 HL3.out.tab).mono ?_
        rintro x w4 ⟨rfl, q4⟩
        have HL4 := Lib.hid (HL3.out.next q4)
        clear q4
        go_wp2
        go_ret
        exact ⟨rfl, HL4.out.since⟩
    · have e7 : decide ((30 : Int) < lm) = true := decide_eq_true (by omega)
      go_wp2_with fail
      refine (HFL.out w2 HL2.out.tab).mono ?_
      rintro x w3 ⟨rfl, q3⟩
      have HL3 := Lib.hid (HL2.out.next q3)
      clear q3
      go_wp2
      go_ret
      exact ⟨rfl, HL3.out.since⟩
end Fl
end Go.Proofs.YtbeepedobnaojaaDoor

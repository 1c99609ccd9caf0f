/- The reference: Way. -/
import Derived.Test.YtbeepedobnaojaaDoorFlowP
namespace Go.Proofs.YtbeepedobnaojaaDoor
open Go.RowKit Lf Go.Deep Sv Tr
namespace Fl
def WayOk (p : Pb) (n : Nat) (e : Int) (t : Nat) (s : Nat) : Prop := ∀ (W : World) (vs vg vk ve : Value), PbAt W vs vg vk ve p → ∀ f : Nat, f < n →
  Calls Tryd.prog 18 #[pbV vs vg vk ve p.width, .int .i64 e, .int .i64 f, .int .i64 t, .int .i64 s] W fun x w' => x = .returned (.bool (way p e s f t)) ∧ Below W.heap.size W w'
theorem eq_nat (a b : Nat) : ((a : Int) == (b : Int)) = (a == b) := by
  rw [Bool.eq_iff_iff, beq_iff_eq, beq_iff_eq]
  omega
theorem way_zero {p : Pb} {n : Nat} {e : Int} {t : Nat} : WayOk p n e t 0 := by
  intro W vs vg vk ve _ f _
  have hw : way p e 0 f t = (f == t) := rfl
  rw [hw]
  unfold pbV
  by_cases hft : f = t
  · subst hft
    rw [show (f == f) = true by simp]
    go_enter Tryd.func18, Tryd.ntmps18
    go_wp2
    go_ret
    exact ⟨rfl, (Below.refl _ _).alloc (Nat.le_refl _) _⟩
  · have hb : ((f : Int) == (t : Int)) = false := by rw [eq_nat]; simp; exact hft
    rw [show (f == t) = false by simp; exact hft]
    go_enter Tryd.func18, Tryd.ntmps18
    go_wp2
    go_ret
    exact ⟨rfl, (Below.refl _ _).alloc (Nat.le_refl _) _⟩
set_option maxHeartbeats 4000000 in
set_option maxRecDepth 100000 in
theorem way_step {p : Pb} {n : Nat} {e : Int} {t : Nat} {s : Nat} (hs : s ≤ 100) (hp : lsOk p.succ.length p.succ = true) (hn : p.succ.length = n) (IH : Hid (WayOk p n e t s)) : WayOk p n e t (s + 1) := by
  intro W vs vg vk ve h f hf
  rw [way_succ]
  by_cases hft : f = t
  · subst hft
    rw [show (f == f) = true by simp, Bool.true_or]
    unfold pbV
    clear IH h
    go_enter Tryd.func18, Tryd.ntmps18
    go_wp2
    go_ret
    exact ⟨rfl, (Below.refl _ _).alloc (Nat.le_refl _) _⟩
  · have hb : ((f : Int) == (t : Int)) = false := by rw [eq_nat]; simp; exact hft
    have hb0 : (((s : Int) + 1) == 0) = false := by simp; omega
    rw [show (f == t) = false by simp; exact hft, Bool.false_or]
    obtain ⟨V, hV⟩ : ∃ V, W.alloc (.cells #[vs, .int .i64 p.width, vg, vk, ve] 25) = V := ⟨_, rfl⟩
    have hB0 : Below W.heap.size W V := hV ▸ (Below.refl _ W).alloc (Nat.le_refl _) _
    have hI0 : Bx V W.heap.size vs vg vk ve p.width := hV ▸ Is.made W _ _
    have hP := h.below hB0
    have H1 := has_ref hP.k f e
    have H2 := fun q => has_ref ((hP.below (below_dn V q)).g) f e
    obtain ⟨b1, hb1⟩ : ∃ b, hasL p.kill f e = b := ⟨_, rfl⟩
    obtain ⟨b2, hb2⟩ : ∃ b, hasL p.gen f e = b := ⟨_, rfl⟩
    rw [hb1] at H1 ⊢
    simp only [hb2] at H2 ⊢
    obtain ⟨As, cs, rfl, hmaxs, hgets⟩ := hP.s.form
    obtain ⟨bk, o, u, rfl, hbk, hcell, hrow⟩ := hgets f (by omega)
    obtain ⟨A2, c2, rfl, hmax2, hget2⟩ := rowI_form hrow
    obtain ⟨li, hli⟩ : ∃ x, (p.succ[f]'(by omega)) = x := ⟨_, rfl⟩
    rw [hli] at hcell hmax2 hget2
    have hLI : p.succ.getD f [] = li := by rw [getD_at (by omega), hli]
    have HLO : Hid (∀ x ∈ li, 0 ≤ x ∧ x < (n : Int)) := fun x hx => by
      have := row_ok hp (hLI.symm ▸ hx : x ∈ p.succ.getD f [])
      rw [hn] at this
      exact this
    rw [hLI]
    obtain ⟨n2, hn2⟩ : ∃ x, li.length = x := ⟨_, rfl⟩
    have HN2 := Lib.hid hn2
    have HG2 := Lib.hid hget2
    rw [hn2] at hcell hmax2
    unfold maxLen at hmax2
    obtain ⟨wd, hwd⟩ : ∃ c, p.width = c := ⟨_, rfl⟩
    have HWD := Lib.hid hwd
    have HP := Lib.hid hP
    obtain ⟨H, hH⟩ : ∃ x, W.heap.size = x := ⟨_, rfl⟩
    simp only [hwd, hn, hH] at hV hI0 HP hB0 ⊢
    have HI := Lib.hid hI0
    have hHV : H < V.heap.size := hI0.lt
    have HV := Lib.hid hV
    have HH := Lib.hid hH
    have HB := Lib.hid hB0
    have HH1 := Lib.hid H1
    have HH2 := Lib.hid H2
    have d0 := (hI0 : Is _ _ _ _).at_ 0
    have d2 := (hI0 : Is _ _ _ _).at_ 2
    have d3 := (hI0 : Is _ _ _ _).at_ 3
    simp at d0 d2 d3
    have e3 := d3
    rw [← hV] at e3
    obtain ⟨res, hres⟩ : ∃ b, anyB li (fun x => way p e s x t) = b := ⟨_, rfl⟩
    have HRES := Lib.hid hres
    rw [hres]
    clear h hB0 hI0 hP H1 H2 hb1 hb2 hV hrow hget2 hli hLI hn2 hH hwd hgets hp hres hmaxs
    unfold pbV
    cases b1 with
    | true =>
      cases b2 with
      | false =>
        go_enter Tryd.func18, Tryd.ntmps18
        go_wp2_with fail
        rw [HV.out, HH.out]
        refine HH1.out.mono ?_
        rintro x w1 ⟨rfl, q, rfl⟩
        clear e3
        go_wp2_with fail
        refine (HH2.out q).mono ?_
        rintro x w1 ⟨rfl, q2, rfl⟩
        go_wp2
        go_ret
        exact ⟨rfl, HB.out.trans ((below_dn V _).mono (Nat.le_of_lt hHV))⟩
      | true =>
        go_enter Tryd.func18, Tryd.ntmps18
        go_wp2_with fail
        rw [HV.out, HH.out]
        refine HH1.out.mono ?_
        rintro x w1 ⟨rfl, q, rfl⟩
        clear e3
        go_wp2_with fail
        refine (HH2.out q).mono ?_
        rintro x w1 ⟨rfl, q2, rfl⟩
        go_wp2
        go_loopw [11] (fun i wr => ∃ k : Nat, k ≤ n2 ∧ i = .int .i64 k ∧ Hid (Below V.heap.size V wr) ∧ Hid (anyB (li.take k) (fun x => way p e s x t) = false)) (fun i _ => n2 - (intOf i).toNat)
        case atStart => exact ⟨0, Nat.zero_le _, rfl, below_dn V _, rfl⟩
        clear d0 d2 d3
        case round =>
          obtain ⟨k, hk, rfl, HB2, HA⟩ := hrel
          have I2 := (HI.out : Is _ _ _ _).below HB2.out hHV
          have d0 := I2.at_ 0
          have d1 := I2.at_ 1
          have d2 := I2.at_ 2
          have d3 := I2.at_ 3
          have d4 := I2.at_ 4
          simp at d0 d1 d2 d3 d4
          have g1 := (HB2.out.cell (p := ⟨bk, o + f, none⟩) hbk).trans hcell
          by_cases hlk : k < n2
          · obtain ⟨bk2, o2, rfl, hbk2, hc2⟩ := HG2.out k (by rw [HN2.out]; exact hlk)
            have hin := HLO.out _ (List.getElem_mem (show k < li.length by rw [HN2.out]; exact hlk))
            obtain ⟨x, hx⟩ : ∃ x : Nat, (li[k]'(by rw [HN2.out]; exact hlk)) = (x : Int) := ⟨_, (Int.toNat_of_nonneg hin.1).symm⟩
            rw [hx] at hin hc2
            have g2 := (HB2.out.cell (p := ⟨bk2, o2 + k, none⟩) hbk2).trans hc2
            have HSK : Hid (∀ X, Below V.heap.size V X → X.cell? ⟨H, 0, none⟩ = some (.slice (some ⟨bk, o, none⟩) n cs) ∧ X.cell? ⟨H, 1, none⟩ = some (.int .i64 wd) ∧ X.cell? ⟨H, 2, none⟩ = some vg ∧ X.cell? ⟨H, 3, none⟩ = some vk ∧ X.cell? ⟨H, 4, none⟩ = some ve ∧ X.cell? ⟨bk, o + f, none⟩ = some (.slice (some ⟨bk2, o2, none⟩) n2 c2) ∧ X.cell? ⟨bk2, o2 + k, none⟩ = some (.int .i64 (x : Int))) := fun X hX => by
              have I2 := (HI.out : Is _ _ _ _).below hX hHV
              exact ⟨I2.at_ 0, I2.at_ 1, I2.at_ 2, I2.at_ 3, I2.at_ 4, (hX.cell hbk).trans hcell, (hX.cell hbk2).trans hc2⟩
            have DD : Hid (Below V.heap.size V wr.drew) := HB2.out.drew
            have hnx : anyB (li.take (k + 1)) (fun x => way p e s x t) = way p e s x t := by
              unfold anyB
              rw [List.take_succ_eq_append_getElem (show k < li.length by rw [HN2.out]; exact hlk), List.any_append, hx]
              have := HA.out
              unfold anyB at this
              rw [this]
              simp
            have hall : way p e s x t = true → anyB li (fun x => way p e s x t) = true := fun hw => by
              unfold anyB
              rw [List.any_eq_true]
              exact ⟨_, List.getElem_mem (show k < li.length by rw [HN2.out]; exact hlk), by rw [hx]; exact hw⟩
            have hw := IH.out wr.drew _ _ _ _ (HP.out.below HB2.out.drew) x (by omega)
            rw [HWD.out] at hw
            obtain ⟨bw, hbw⟩ : ∃ b, way p e s x t = b := ⟨_, rfl⟩
            rw [hbw] at hw hnx hall
            unfold pbV at hw
            have hws : IntKind.i64.wrap (s : Int) = (s : Int) := IntWalk.i64_in _ (by omega)
            rw [← hws] at hw
            have HW := Lib.hid hw
            clear hws
            have HNX := Lib.hid hnx
            have HALL := Lib.hid hall
            clear hin hx hc2 hnx hall hw hbw
            go_wp2_with fail
            go_region_held3 (fun X => X.cell? ⟨H, 0, none⟩ = some (.slice (some ⟨bk, o, none⟩) n cs) ∧ X.cell? ⟨H, 1, none⟩ = some (.int .i64 wd) ∧ X.cell? ⟨H, 2, none⟩ = some vg ∧ X.cell? ⟨H, 3, none⟩ = some vk ∧ X.cell? ⟨H, 4, none⟩ = some ve ∧ X.cell? ⟨bk, o + f, none⟩ = some (.slice (some ⟨bk2, o2, none⟩) n2 c2) ∧ X.cell? ⟨bk2, o2 + k, none⟩ = some (.int .i64 (x : Int)))
              (first
                | exact HSK.out _ HB3.out
                | exact HSK.out _ DD.out
                | exact HSK.out _ HB2.out)
              (first | (go_at_call 18; refine HW.out.mono ?_; rintro y w3 ⟨rfl, hb3⟩; have HB3 : Hid (Below V.heap.size V w3) := DD.out.trans (hb3.mono DD.out.size)))
            all_goals
              have HB3 : Hid (Below V.heap.size V w3) := HB2.out.drew.trans (hb3.mono HB2.out.size)
              clear hb3 HW
              cases bw with
              | true =>
                have hrt : res = true := by rw [← HRES.out]; exact HALL.out rfl
                subst hrt
                clear HNX HALL
                go_wp2
                go_ret
                exact ⟨rfl, HB.out.trans (HB3.out.mono (Nat.le_of_lt hHV))⟩
              | false =>
                clear HALL
                go_wp2
                go_roundw
                case rel => exact ⟨k + 1, by omega, by go_num, HB3, HNX⟩
                case measure => simp [intOf]; omega
          · have hke : k = n2 := by omega
            subst hke
            have hrf : res = false := by
              rw [← HRES.out]
              have := HA.out
              rw [← HN2.out, List.take_length] at this
              exact this
            subst hrf
            clear HA
            go_wp2
            go_ret
            exact ⟨rfl, HB.out.trans (HB2.out.mono (Nat.le_of_lt hHV))⟩
    | false =>
      go_enter Tryd.func18, Tryd.ntmps18
      go_wp2_with fail
      rw [HV.out, HH.out]
      refine HH1.out.mono ?_
      rintro x w1 ⟨rfl, q, rfl⟩
      clear e3
      go_wp2
      go_loopw [11] (fun i wr => ∃ k : Nat, k ≤ n2 ∧ i = .int .i64 k ∧ Hid (Below V.heap.size V wr) ∧ Hid (anyB (li.take k) (fun x => way p e s x t) = false)) (fun i _ => n2 - (intOf i).toNat)
      case atStart => exact ⟨0, Nat.zero_le _, rfl, below_dn V _, rfl⟩
      clear d0 d2 d3
      case round =>
        obtain ⟨k, hk, rfl, HB2, HA⟩ := hrel
        have I2 := (HI.out : Is _ _ _ _).below HB2.out hHV
        have d0 := I2.at_ 0
        have d1 := I2.at_ 1
        have d2 := I2.at_ 2
        have d3 := I2.at_ 3
        have d4 := I2.at_ 4
        simp at d0 d1 d2 d3 d4
        have g1 := (HB2.out.cell (p := ⟨bk, o + f, none⟩) hbk).trans hcell
        by_cases hlk : k < n2
        · obtain ⟨bk2, o2, rfl, hbk2, hc2⟩ := HG2.out k (by rw [HN2.out]; exact hlk)
          have hin := HLO.out _ (List.getElem_mem (show k < li.length by rw [HN2.out]; exact hlk))
          obtain ⟨x, hx⟩ : ∃ x : Nat, (li[k]'(by rw [HN2.out]; exact hlk)) = (x : Int) := ⟨_, (Int.toNat_of_nonneg hin.1).symm⟩
          rw [hx] at hin hc2
          have g2 := (HB2.out.cell (p := ⟨bk2, o2 + k, none⟩) hbk2).trans hc2
          have HSK : Hid (∀ X, Below V.heap.size V X → X.cell? ⟨H, 0, none⟩ = some (.slice (some ⟨bk, o, none⟩) n cs) ∧ X.cell? ⟨H, 1, none⟩ = some (.int .i64 wd) ∧ X.cell? ⟨H, 2, none⟩ = some vg ∧ X.cell? ⟨H, 3, none⟩ = some vk ∧ X.cell? ⟨H, 4, none⟩ = some ve ∧ X.cell? ⟨bk, o + f, none⟩ = some (.slice (some ⟨bk2, o2, none⟩) n2 c2) ∧ X.cell? ⟨bk2, o2 + k, none⟩ = some (.int .i64 (x : Int))) := fun X hX => by
            have I2 := (HI.out : Is _ _ _ _).below hX hHV
            exact ⟨I2.at_ 0, I2.at_ 1, I2.at_ 2, I2.at_ 3, I2.at_ 4, (hX.cell hbk).trans hcell, (hX.cell hbk2).trans hc2⟩
          have DD : Hid (Below V.heap.size V wr.drew) := HB2.out.drew
          have hnx : anyB (li.take (k + 1)) (fun x => way p e s x t) = way p e s x t := by
            unfold anyB
            rw [List.take_succ_eq_append_getElem (show k < li.length by rw [HN2.out]; exact hlk), List.any_append, hx]
            have := HA.out
            unfold anyB at this
            rw [this]
            simp
          have hall : way p e s x t = true → anyB li (fun x => way p e s x t) = true := fun hw => by
            unfold anyB
            rw [List.any_eq_true]
            exact ⟨_, List.getElem_mem (show k < li.length by rw [HN2.out]; exact hlk), by rw [hx]; exact hw⟩
          have hw := IH.out wr.drew _ _ _ _ (HP.out.below HB2.out.drew) x (by omega)
          rw [HWD.out] at hw
          obtain ⟨bw, hbw⟩ : ∃ b, way p e s x t = b := ⟨_, rfl⟩
          rw [hbw] at hw hnx hall
          unfold pbV at hw
          have hws : IntKind.i64.wrap (s : Int) = (s : Int) := IntWalk.i64_in _ (by omega)
          rw [← hws] at hw
          have HW := Lib.hid hw
          clear hws
          have HNX := Lib.hid hnx
          have HALL := Lib.hid hall
          clear hin hx hc2 hnx hall hw hbw
          go_wp2_with fail
          go_region_held3 (fun X => X.cell? ⟨H, 0, none⟩ = some (.slice (some ⟨bk, o, none⟩) n cs) ∧ X.cell? ⟨H, 1, none⟩ = some (.int .i64 wd) ∧ X.cell? ⟨H, 2, none⟩ = some vg ∧ X.cell? ⟨H, 3, none⟩ = some vk ∧ X.cell? ⟨H, 4, none⟩ = some ve ∧ X.cell? ⟨bk, o + f, none⟩ = some (.slice (some ⟨bk2, o2, none⟩) n2 c2) ∧ X.cell? ⟨bk2, o2 + k, none⟩ = some (.int .i64 (x : Int)))
            (first
              | exact HSK.out _ HB3.out
              | exact HSK.out _ DD.out
              | exact HSK.out _ HB2.out)
            (first | (go_at_call 18; refine HW.out.mono ?_; rintro y w3 ⟨rfl, hb3⟩; have HB3 : Hid (Below V.heap.size V w3) := DD.out.trans (hb3.mono DD.out.size)))
          all_goals
            have HB3 : Hid (Below V.heap.size V w3) := HB2.out.drew.trans (hb3.mono HB2.out.size)
            clear hb3 HW
            cases bw with
            | true =>
              have hrt : res = true := by rw [← HRES.out]; exact HALL.out rfl
              subst hrt
              clear HNX HALL
              go_wp2
              go_ret
              exact ⟨rfl, HB.out.trans (HB3.out.mono (Nat.le_of_lt hHV))⟩
            | false =>
              clear HALL
              go_wp2
              go_roundw
              case rel => exact ⟨k + 1, by omega, by go_num, HB3, HNX⟩
              case measure => simp [intOf]; omega
        · have hke : k = n2 := by omega
          subst hke
          have hrf : res = false := by
            rw [← HRES.out]
            have := HA.out
            rw [← HN2.out, List.take_length] at this
            exact this
          subst hrf
          clear HA
          go_wp2
          go_ret
          exact ⟨rfl, HB.out.trans (HB2.out.mono (Nat.le_of_lt hHV))⟩
theorem way_any {p : Pb} {n : Nat} {e : Int} {t : Nat} (hp : lsOk p.succ.length p.succ = true) (hn : p.succ.length = n) : ∀ s, s ≤ 100 → WayOk p n e t s
  | 0, _ => way_zero
  | s + 1, h => way_step (by omega) hp hn (way_any hp hn s (by omega))
end Fl
end Go.Proofs.YtbeepedobnaojaaDoor

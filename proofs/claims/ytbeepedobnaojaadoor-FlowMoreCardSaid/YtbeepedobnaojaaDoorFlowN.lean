/- The reference: Check, leaves. -/
import Derived.Deep.RegionLaw
import Derived.Test.YtbeepedobnaojaaDoorFlowM
namespace Go.Proofs.YtbeepedobnaojaaDoor
open Go.RowKit Lf Go.Deep Sv Tr
namespace Fl
theorem below_then {w V : World} (h : Below w.heap.size w V) (q : Nat) : Below w.heap.size w (V.drewN q) := ⟨h.os, h.tape, h.output, h.size, h.block⟩
set_option maxHeartbeats 2000000 in
theorem leaves_ref {w : World} {vs vg vk ve : Value} {p : Pb} (h : PbAt w vs vg vk ve p) (i : Nat) (e : Int) (b : Bool) :
    Calls Tryd.prog 33 #[pbV vs vg vk ve p.width, .int .i64 i, .int .i64 e, .bool b] w fun x w' => x = .returned (.bool (leavesB p e i b)) ∧ Below w.heap.size w w' := by
  obtain ⟨V, hV⟩ : ∃ V, w.alloc (.cells #[vs, .int .i64 p.width, vg, vk, ve] 25) = V := ⟨_, rfl⟩
  have hB0 : Below w.heap.size w V := hV ▸ (Below.refl _ w).alloc (Nat.le_refl _) _
  have hI0 : Bx V w.heap.size vs vg vk ve p.width := hV ▸ Is.made w _ _
  have hp := h.below hB0
  have H1 := has_ref hp.g i e
  have H2 := fun q => has_ref ((hp.below (below_dn V q)).k) i e
  unfold leavesB
  obtain ⟨b1, hb1⟩ : ∃ b, hasL p.gen i e = b := ⟨_, rfl⟩
  obtain ⟨b2, hb2⟩ : ∃ b, hasL p.kill i e = b := ⟨_, rfl⟩
  obtain ⟨wd, hwd⟩ : ∃ c, p.width = c := ⟨_, rfl⟩
  rw [hb1] at H1 ⊢
  simp only [hb2] at H2 ⊢
  rw [hwd] at hV hI0 ⊢
  have d2 := (hI0 : Is _ _ _ _).at_ 2
  have d3 := (hI0 : Is _ _ _ _).at_ 3
  simp at d2 d3
  have HV := Lib.hid hV
  have HB := Lib.hid hB0
  have HH1 := Lib.hid H1
  have HH2 := Lib.hid H2
  clear h hp H1 H2 hb1 hb2 hwd hB0 hI0
  rw [← hV] at d2
  clear hV
  unfold pbV
  cases b1 with
  | true =>
    go_enter Tryd.func33, Tryd.ntmps33
    go_wp2_with fail
    rw [HV.out]
    refine HH1.out.mono ?_
    rintro x w1 ⟨rfl, q, rfl⟩
    go_wp2
    go_ret
    exact ⟨rfl, below_then HB.out _⟩
  | false =>
    cases b with
    | false =>
      go_enter Tryd.func33, Tryd.ntmps33
      go_wp2_with fail
      rw [HV.out]
      refine HH1.out.mono ?_
      rintro x w1 ⟨rfl, q, rfl⟩
      go_wp2
      go_ret
      exact ⟨rfl, below_then HB.out _⟩
    | true =>
      go_enter Tryd.func33, Tryd.ntmps33
      go_wp2_with fail
      rw [HV.out]
      refine HH1.out.mono ?_
      rintro x w1 ⟨rfl, q, rfl⟩
      clear d2
      go_wp2_with fail
      refine (HH2.out q).mono ?_
      rintro x w1 ⟨rfl, q2, rfl⟩
      go_wp2
      go_ret
      exact ⟨by simp, below_then HB.out _⟩
theorem rcheck_low {w : World} {vs vg vk ve : Value} {p : Pb} (h : PbAt w vs vg vk ve p) (hn : p.succ.length ≤ 64) (hw : p.width < 0 ∨ 4000 < p.width) :
    Calls Tryd.prog 12 #[pbV vs vg vk ve p.width] w fun e w' => e = .returned (.int .i64 2) ∧ Below w.heap.size w w' := by
  obtain ⟨A, c, rfl, _⟩ := h.s
  obtain ⟨n, hn0⟩ : ∃ n, p.succ.length = n := ⟨_, rfl⟩
  obtain ⟨wd, hwd⟩ : ∃ n, p.width = n := ⟨_, rfl⟩
  rw [hn0] at hn ⊢
  rw [hwd] at hw ⊢
  clear h hn0 hwd
  unfold pbV
  by_cases h0 : wd < 0
  · clear hw
    go_enter Tryd.func12, Tryd.ntmps12
    go_wp2
    go_ret
    exact ⟨rfl, (Below.refl _ _).alloc (Nat.le_refl _) _⟩
  · have h1 : 4000 < wd := by omega
    have hd : decide (wd < 0) = false := decide_eq_false h0
    clear hw
    go_enter Tryd.func12, Tryd.ntmps12
    go_wp2
    go_ret
    exact ⟨rfl, (Below.refl _ _).alloc (Nat.le_refl _) _⟩
set_option maxHeartbeats 2000000 in
theorem rcheck_rest {w : World} {vs vg vk ve : Value} {p : Pb} (h : PbAt w vs vg vk ve p) (hn : p.succ.length ≤ 64) (hw0 : 0 ≤ p.width) (hw1 : p.width ≤ 4000) :
    Calls Tryd.prog 12 #[pbV vs vg vk ve p.width] w fun e w' =>
      e = .returned (.int .i64 (if okB p then 0 else 14)) ∧ Below w.heap.size w w' := by
  obtain ⟨V, hV⟩ : ∃ V, w.alloc (.cells #[vs, .int .i64 p.width, vg, vk, ve] 25) = V := ⟨_, rfl⟩
  have hB0 : Below w.heap.size w V := hV ▸ (Below.refl _ w).alloc (Nat.le_refl _) _
  have hI0 : Bx V w.heap.size vs vg vk ve p.width := hV ▸ Is.made w _ _
  have h := h.below hB0
  have HC1 : Hid (∀ W', Below V.heap.size V W' → Calls Tryd.prog 29 #[vs, .int .i64 p.succ.length, .int .i64 p.succ.length] W' fun e w2 => e = .returned (.bool (lsOk p.succ.length p.succ)) ∧ Below V.heap.size V w2) := fun W' hb =>
    (in_ref (h.s.below hb) _ _).mono fun e w2 ⟨h1, q, h2⟩ => ⟨by rw [h1, decide_eq_true (Int.le_refl _), Bool.and_true], h2 ▸ hb.trans ((below_dn W' q).mono hb.size)⟩
  have HC2 : Hid (∀ W', Below V.heap.size V W' → Calls Tryd.prog 29 #[vg, .int .i64 p.succ.length, .int .i64 p.width] W' fun e w2 => e = .returned (.bool (lsOk p.width p.gen && decide ((p.gen.length : Int) ≤ p.succ.length))) ∧ Below V.heap.size V w2) := fun W' hb =>
    (in_ref (h.g.below hb) _ _).mono fun e w2 ⟨h1, q, h2⟩ => ⟨h1, h2 ▸ hb.trans ((below_dn W' q).mono hb.size)⟩
  have HC3 : Hid (∀ W', Below V.heap.size V W' → Calls Tryd.prog 29 #[vk, .int .i64 p.succ.length, .int .i64 p.width] W' fun e w2 => e = .returned (.bool (lsOk p.width p.kill && decide ((p.kill.length : Int) ≤ p.succ.length))) ∧ Below V.heap.size V w2) := fun W' hb =>
    (in_ref (h.k.below hb) _ _).mono fun e w2 ⟨h1, q, h2⟩ => ⟨h1, h2 ▸ hb.trans ((below_dn W' q).mono hb.size)⟩
  have HC4 : Hid (∀ W', Below V.heap.size V W' → Calls Tryd.prog 29 #[.slice (some ⟨W'.heap.size, 0, none⟩) 1 1, .int .i64 1, .int .i64 p.width] (W'.alloc (.cells #[ve] 23)) fun e w2 => e = .returned (.bool (rowOk p.width p.entry)) ∧ Below V.heap.size V w2) := fun W' hb =>
    (in_ref (one_row (h.e.below hb)) _ _).mono fun e w2 ⟨h1, q, h2⟩ => ⟨by rw [h1, lsOk_one]; simp, h2 ▸ (hb.alloc hb.size _).trans ((below_dn _ q).mono (by simp; have := hb.size; omega))⟩
  have hok : okB p = (lsOk p.succ.length p.succ && (lsOk p.width p.gen && decide ((p.gen.length : Int) ≤ p.succ.length)) && (lsOk p.width p.kill && decide ((p.kill.length : Int) ≤ p.succ.length)) && rowOk p.width p.entry) := by
    unfold okB
    rw [show decide (p.gen.length ≤ p.succ.length) = decide ((p.gen.length : Int) ≤ p.succ.length) from decide_eq_decide.2 (by omega), show decide (p.kill.length ≤ p.succ.length) = decide ((p.kill.length : Int) ≤ p.succ.length) from decide_eq_decide.2 (by omega)]
    cases decide ((p.gen.length : Int) ≤ p.succ.length) <;> cases decide ((p.kill.length : Int) ≤ p.succ.length) <;> simp
  rw [hok]
  obtain ⟨A, c, rfl, _⟩ := h.s
  obtain ⟨A2, c2, rfl, _⟩ := h.g
  obtain ⟨A3, c3, rfl, _⟩ := h.k
  obtain ⟨A4, c4, rfl, _⟩ := h.e
  obtain ⟨b1, hb1⟩ : ∃ b, lsOk p.succ.length p.succ = b := ⟨_, rfl⟩
  obtain ⟨b2, hb2⟩ : ∃ b, (lsOk p.width p.gen && decide ((p.gen.length : Int) ≤ p.succ.length)) = b := ⟨_, rfl⟩
  obtain ⟨b3, hb3⟩ : ∃ b, (lsOk p.width p.kill && decide ((p.kill.length : Int) ≤ p.succ.length)) = b := ⟨_, rfl⟩
  obtain ⟨b4, hb4⟩ : ∃ b, rowOk p.width p.entry = b := ⟨_, rfl⟩
  rw [hb1] at HC1 ⊢
  rw [hb2] at HC2 ⊢
  rw [hb3] at HC3 ⊢
  rw [hb4] at HC4 ⊢
  obtain ⟨n, hn0⟩ : ∃ n, p.succ.length = n := ⟨_, rfl⟩
  obtain ⟨ng, hg0⟩ : ∃ n, p.gen.length = n := ⟨_, rfl⟩
  obtain ⟨nk, hk0⟩ : ∃ n, p.kill.length = n := ⟨_, rfl⟩
  obtain ⟨ne, he0⟩ : ∃ n, p.entry.length = n := ⟨_, rfl⟩
  obtain ⟨wd, hwd⟩ : ∃ n, p.width = n := ⟨_, rfl⟩
  simp only [hn0, hg0, hk0, he0, hwd] at hn hw0 hw1 HC1 HC2 HC3 HC4 hV hI0 ⊢
  obtain ⟨H, hH⟩ : ∃ x, w.heap.size = x := ⟨_, rfl⟩
  rw [hH] at hI0 hB0 ⊢
  have hHV : H < V.heap.size := hI0.lt
  have HH := Lib.hid hH
  have HV := Lib.hid hV
  have HI := Lib.hid hI0
  have HB := Lib.hid hB0
  clear h hn0 hg0 hk0 he0 hwd hb1 hb2 hb3 hb4 hH hV hI0 hB0 hok
  unfold pbV
  have hd : decide (wd < 0) = false := decide_eq_false (by omega)
  have hd2 : decide (4000 < wd) = false := decide_eq_false (by omega)
  go_enter Tryd.func12, Tryd.ntmps12
  go_wp2_with fail
  rw [HV.out, HH.out]
  refine (HC1.out _ (Below.refl _ _)).mono ?_
  rintro e w1 ⟨rfl, q1⟩
  have B1 := Lib.hid q1
  have I1 := (HI.out : Is _ _ _ _).below q1 hHV
  have d0 := I1.at_ 0
  have d1 := I1.at_ 1
  have d2 := I1.at_ 2
  simp at d0 d1 d2
  clear q1 I1
  cases b1 with
  | false =>
    go_wp2
    go_ret
    exact ⟨rfl, HB.out.trans (B1.out.mono (Nat.le_of_lt hHV))⟩
  | true =>
    go_wp2_with fail
    refine (HC2.out _ B1.out).mono ?_
    rintro e w2 ⟨rfl, q2⟩
    clear d0 d1 d2
    have B2 := Lib.hid q2
    have I2 := (HI.out : Is _ _ _ _).below q2 hHV
    have d1 := I2.at_ 1
    have d3 := I2.at_ 3
    simp at d1 d3
    clear q2 I2
    cases b2 with
    | false =>
      go_wp2
      go_ret
      exact ⟨rfl, HB.out.trans (B2.out.mono (Nat.le_of_lt hHV))⟩
    | true =>
      go_wp2_with fail
      refine (HC3.out _ B2.out).mono ?_
      rintro e w3 ⟨rfl, q3⟩
      clear d1 d3
      have B3 := Lib.hid q3
      have I3 := (HI.out : Is _ _ _ _).below q3 hHV
      have d1 := I3.at_ 1
      have d4 := I3.at_ 4
      have d5 := (I3.alloc (.cells #[.slice A4 ne c4] 23)).at_ 1
      simp at d1 d4 d5
      clear q3 I3
      cases b3 with
      | false =>
        go_wp2
        go_ret
        exact ⟨rfl, HB.out.trans (B3.out.mono (Nat.le_of_lt hHV))⟩
      | true =>
        have HC5 := Lib.hid (HC4.out _ B3.out)
        go_wp2_with fail
        refine HC5.out.mono ?_
        rintro e w4 ⟨rfl, q4⟩
        have B4 := Lib.hid q4
        clear q4
        cases b4 with
        | false =>
          go_wp2
          go_ret
          exact ⟨rfl, HB.out.trans (B4.out.mono (Nat.le_of_lt hHV))⟩
        | true =>
          go_wp2
          go_ret
          exact ⟨rfl, HB.out.trans (B4.out.mono (Nat.le_of_lt hHV))⟩
theorem rcheck_any {w : World} {vs vg vk ve : Value} {p : Pb} (h : PbAt w vs vg vk ve p) (hn : p.succ.length ≤ 64) :
    Calls Tryd.prog 12 #[pbV vs vg vk ve p.width] w fun e w' => e = .returned (.int .i64 (codeP p)) ∧ Below w.heap.size w w' := by
  by_cases hw : p.width < 0 ∨ 4000 < p.width
  · refine (rcheck_low h hn hw).mono ?_
    rintro e w' ⟨rfl, hb⟩
    exact ⟨by unfold codeP; rw [if_pos hw], hb⟩
  · refine (rcheck_rest h hn (by omega) (by omega)).mono ?_
    rintro e w' ⟨rfl, hb⟩
    exact ⟨by unfold codeP; rw [if_neg hw], hb⟩
end Fl
end Go.Proofs.YtbeepedobnaojaaDoor

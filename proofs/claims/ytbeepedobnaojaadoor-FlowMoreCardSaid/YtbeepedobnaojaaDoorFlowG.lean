/- May it be a problem: Check; the reference's Check. -/
import Derived.Test.YtbeepedobnaojaaDoorFlowF
namespace Go.Proofs.YtbeepedobnaojaaDoor
open Go.RowKit Lf Go.Deep Sv Tr
namespace Fl
/-- A problem, as it is handed in. -/
structure PbAt (w : World) (vs vg vk ve : Value) (p : Pb) : Prop where
  s : LsAt w vs p.succ
  g : LsAt w vg p.gen
  k : LsAt w vk p.kill
  e : RowI w ve p.entry
def pbV (vs vg vk ve : Value) (wd : Int) : Value := .agg #[vs, .int .i64 wd, vg, vk, ve]
section
variable {w w' : World} {vs vg vk ve : Value} {p : Pb}
theorem PbAt.below (h : PbAt w vs vg vk ve p) (hb : Below w.heap.size w w') : PbAt w' vs vg vk ve p := ⟨h.s.below hb, h.g.below hb, h.k.below hb, h.e.below hb⟩
end
def okB (p : Pb) : Bool := decide (p.gen.length ≤ p.succ.length) && decide (p.kill.length ≤ p.succ.length) && lsOk p.succ.length p.succ && lsOk p.width p.gen && lsOk p.width p.kill && rowOk p.width p.entry
def codeP (p : Pb) : Int := if p.width < 0 ∨ 4000 < p.width then 2 else if okB p then 0 else 14
theorem code_ok {p : Pb} (hn : p.succ.length ≤ 64) (h : codeP p = 0) : p.Ok := by
  unfold codeP at h
  split at h
  · cases h
  · rename_i hw
    split at h
    · rename_i ho
      unfold okB at ho
      simp only [Bool.and_eq_true, decide_eq_true_eq] at ho
      obtain ⟨⟨⟨⟨⟨h1, h2⟩, h3⟩, h4⟩, h5⟩, h6⟩ := ho
      exact ⟨by omega, by omega, by omega, h1, h2, h3, h4, h5, h6⟩
    · cases h
theorem one_row {w : World} {v : Value} {l : List Int} (h : RowI w v l) : LsAt (w.alloc (.cells #[v] 23)) (.slice (some ⟨w.heap.size, 0, none⟩) 1 1) [l] := by
  have hb : Below w.heap.size w (w.alloc (.cells #[v] 23)) := (Below.refl _ _).alloc (Nat.le_refl _) _
  refine ⟨_, _, rfl, [v], ⟨by simp, by unfold maxLen; simp⟩, ⟨fun _ => ⟨w.heap.size, 0, rfl, by simp, fun i u hu => ?_⟩, fun u hu => ?_⟩, fun i hi => ?_⟩
  · rw [(Is.made w 23 #[v]).at_]
    rw [Nat.zero_add]
    simpa using hu
  · simp at hu
    subst hu
    obtain ⟨A, c, rfl, _⟩ := h
    rfl
  · have hi : i < 1 := hi
    obtain rfl : i = 0 := by omega
    exact ⟨v, rfl, h.below hb⟩
theorem lsOk_one (m : Int) (l : List Int) : lsOk m [l] = rowOk m l := by simp [lsOk]
theorem check_low {w : World} {vs vg vk ve : Value} {p : Pb} (h : PbAt w vs vg vk ve p) (hn : p.succ.length ≤ 64) (hw : p.width < 0 ∨ 4000 < p.width) :
    Calls Tryd.prog 13 #[pbV vs vg vk ve p.width] w fun e w' => e = .returned (.int .i64 2) ∧ Below w.heap.size w w' := by
  obtain ⟨A, c, rfl, _⟩ := h.s
  obtain ⟨n, hn0⟩ : ∃ n, p.succ.length = n := ⟨_, rfl⟩
  obtain ⟨wd, hwd⟩ : ∃ n, p.width = n := ⟨_, rfl⟩
  rw [hn0] at hn ⊢
  rw [hwd] at hw ⊢
  clear h hn0 hwd
  unfold pbV
  by_cases h0 : wd < 0
  · clear hw
    go_enter Tryd.func13, Tryd.ntmps13
    go_wp2
    go_ret
    exact ⟨rfl, (Below.refl _ _).alloc (Nat.le_refl _) _⟩
  · have h1 : 4000 < wd := by omega
    have hd : decide (wd < 0) = false := decide_eq_false h0
    clear hw
    go_enter Tryd.func13, Tryd.ntmps13
    go_wp2
    go_ret
    exact ⟨rfl, (Below.refl _ _).alloc (Nat.le_refl _) _⟩
theorem check_many {w : World} {vs vg vk ve : Value} {p : Pb} (h : PbAt w vs vg vk ve p) (hn : p.succ.length ≤ 64) (hw0 : 0 ≤ p.width) (hw1 : p.width ≤ 4000) (hm : p.succ.length < p.gen.length ∨ p.succ.length < p.kill.length) :
    Calls Tryd.prog 13 #[pbV vs vg vk ve p.width] w fun e w' => e = .returned (.int .i64 14) ∧ Below w.heap.size w w' := by
  obtain ⟨A, c, rfl, _⟩ := h.s
  obtain ⟨A2, c2, rfl, _⟩ := h.g
  obtain ⟨A3, c3, rfl, _⟩ := h.k
  obtain ⟨n, hn0⟩ : ∃ n, p.succ.length = n := ⟨_, rfl⟩
  obtain ⟨ng, hg0⟩ : ∃ n, p.gen.length = n := ⟨_, rfl⟩
  obtain ⟨nk, hk0⟩ : ∃ n, p.kill.length = n := ⟨_, rfl⟩
  obtain ⟨wd, hwd⟩ : ∃ n, p.width = n := ⟨_, rfl⟩
  rw [hn0] at hn hm ⊢
  rw [hg0] at hm ⊢
  rw [hk0] at hm ⊢
  rw [hwd] at hw0 hw1 ⊢
  clear h hn0 hg0 hk0 hwd
  unfold pbV
  have hd : decide (wd < 0) = false := decide_eq_false (by omega)
  have hd2 : decide (4000 < wd) = false := decide_eq_false (by omega)
  by_cases h0 : n < ng
  · clear hm
    go_enter Tryd.func13, Tryd.ntmps13
    go_wp2
    go_ret
    exact ⟨rfl, (Below.refl _ _).alloc (Nat.le_refl _) _⟩
  · have h1 : n < nk := by omega
    clear hm
    go_enter Tryd.func13, Tryd.ntmps13
    go_wp2
    go_ret
    exact ⟨rfl, (Below.refl _ _).alloc (Nat.le_refl _) _⟩
/-- The box of a problem that came in. -/
def Bx (w : World) (H : Nat) (vs vg vk ve : Value) (wd : Int) : Prop := Is w H 25 #[vs, .int .i64 wd, vg, vk, ve]
set_option maxHeartbeats 2000000 in
theorem check_rest {w : World} {vs vg vk ve : Value} {p : Pb} (h : PbAt w vs vg vk ve p) (hn : p.succ.length ≤ 64) (hw0 : 0 ≤ p.width) (hw1 : p.width ≤ 4000) (hg : p.gen.length ≤ p.succ.length) (hk : p.kill.length ≤ p.succ.length) :
    Calls Tryd.prog 13 #[pbV vs vg vk ve p.width] w fun e w' =>
      e = .returned (.int .i64 (if lsOk p.succ.length p.succ && lsOk p.width p.gen && lsOk p.width p.kill && rowOk p.width p.entry then 0 else 14)) ∧ Below w.heap.size w w' := by
  obtain ⟨V, hV⟩ : ∃ V, w.alloc (.cells #[vs, .int .i64 p.width, vg, vk, ve] 25) = V := ⟨_, rfl⟩
  have hB0 : Below w.heap.size w V := hV ▸ (Below.refl _ w).alloc (Nat.le_refl _) _
  have hI0 : Bx V w.heap.size vs vg vk ve p.width := hV ▸ Is.made w _ _
  have h := h.below hB0
  have HC1 : Hid (∀ W', Below V.heap.size V W' → Calls Tryd.prog 30 #[.int .i64 p.succ.length, vs] W' fun e w2 => e = .returned (.bool (lsOk p.succ.length p.succ)) ∧ Below V.heap.size V w2) := fun W' hb =>
    (below_any (h.s.below hb)).mono fun e w2 ⟨h1, h2⟩ => ⟨h1, h2 ▸ hb.alloc hb.size _⟩
  have HC2 : Hid (∀ W', Below V.heap.size V W' → Calls Tryd.prog 30 #[.int .i64 p.width, vg] W' fun e w2 => e = .returned (.bool (lsOk p.width p.gen)) ∧ Below V.heap.size V w2) := fun W' hb =>
    (below_any (h.g.below hb)).mono fun e w2 ⟨h1, h2⟩ => ⟨h1, h2 ▸ hb.alloc hb.size _⟩
  have HC3 : Hid (∀ W', Below V.heap.size V W' → Calls Tryd.prog 30 #[.int .i64 p.width, vk] W' fun e w2 => e = .returned (.bool (lsOk p.width p.kill)) ∧ Below V.heap.size V w2) := fun W' hb =>
    (below_any (h.k.below hb)).mono fun e w2 ⟨h1, h2⟩ => ⟨h1, h2 ▸ hb.alloc hb.size _⟩
  have HC4 : Hid (∀ W', Below V.heap.size V W' → Calls Tryd.prog 30 #[.int .i64 p.width, .slice (some ⟨W'.heap.size, 0, none⟩) 1 1] (W'.alloc (.cells #[ve] 23)) fun e w2 => e = .returned (.bool (rowOk p.width p.entry)) ∧ Below V.heap.size V w2) := fun W' hb =>
    (below_any (one_row (h.e.below hb))).mono fun e w2 ⟨h1, h2⟩ => ⟨by rw [h1, lsOk_one], h2 ▸ (hb.alloc hb.size _).alloc (by simp; have := hb.size; omega) _⟩
  obtain ⟨A, c, rfl, _⟩ := h.s
  obtain ⟨A2, c2, rfl, _⟩ := h.g
  obtain ⟨A3, c3, rfl, _⟩ := h.k
  obtain ⟨A4, c4, rfl, _⟩ := h.e
  obtain ⟨b1, hb1⟩ : ∃ b, lsOk p.succ.length p.succ = b := ⟨_, rfl⟩
  obtain ⟨b2, hb2⟩ : ∃ b, lsOk p.width p.gen = b := ⟨_, rfl⟩
  obtain ⟨b3, hb3⟩ : ∃ b, lsOk p.width p.kill = b := ⟨_, rfl⟩
  obtain ⟨b4, hb4⟩ : ∃ b, rowOk p.width p.entry = b := ⟨_, rfl⟩
  rw [hb1] at HC1 ⊢
  rw [hb2] at HC2 ⊢
  rw [hb3] at HC3 ⊢
  rw [hb4] at HC4 ⊢
  obtain ⟨n, hn0⟩ : ∃ n, p.succ.length = n := ⟨_, rfl⟩
  obtain ⟨ng, hg0⟩ : ∃ n, p.gen.length = n := ⟨_, rfl⟩
  obtain ⟨nk, hk0⟩ : ∃ n, p.kill.length = n := ⟨_, rfl⟩
  obtain ⟨ne, he0⟩ : ∃ n, p.entry.length = n := ⟨_, rfl⟩
  obtain ⟨wd, hwd⟩ : ∃ n, p.width = n := ⟨_, rfl⟩
  simp only [hn0, hg0, hk0, he0, hwd] at hn hg hk hw0 hw1 HC1 HC2 HC3 HC4 hV hI0 ⊢
  obtain ⟨H, hH⟩ : ∃ x, w.heap.size = x := ⟨_, rfl⟩
  rw [hH] at hI0 hB0 ⊢
  have hHV : H < V.heap.size := hI0.lt
  have HH := Lib.hid hH
  have HV := Lib.hid hV
  have HI := Lib.hid hI0
  have HB := Lib.hid hB0
  clear h hn0 hg0 hk0 he0 hwd hb1 hb2 hb3 hb4 hH hV hI0 hB0
  unfold pbV
  have hd : decide (wd < 0) = false := decide_eq_false (by omega)
  have hd2 : decide (4000 < wd) = false := decide_eq_false (by omega)
  have hd3 : decide (n < ng) = false := decide_eq_false (by omega)
  have hd4 : decide (n < nk) = false := decide_eq_false (by omega)
  go_enter Tryd.func13, Tryd.ntmps13
  go_wp2_with fail
  rw [HV.out, HH.out]
  refine (HC1.out _ (Below.refl _ _)).mono ?_
  rintro e w1 ⟨rfl, q1⟩
  have B1 := Lib.hid q1
  have I1 := (HI.out : Is _ _ _ _).below q1 hHV
  have d0 := I1.at_ 0
  have d1 := I1.at_ 1
  have d2 := I1.at_ 2
  simp at d0 d1 d2
  clear q1 I1
  cases b1 with
  | false =>
    go_wp2
    go_ret
    exact ⟨rfl, HB.out.trans (B1.out.mono (Nat.le_of_lt hHV))⟩
  | true =>
    go_wp2_with fail
    refine (HC2.out _ B1.out).mono ?_
    rintro e w2 ⟨rfl, q2⟩
    clear d0 d1 d2
    have B2 := Lib.hid q2
    have I2 := (HI.out : Is _ _ _ _).below q2 hHV
    have d1 := I2.at_ 1
    have d3 := I2.at_ 3
    simp at d1 d3
    clear q2 I2
    cases b2 with
    | false =>
      go_wp2
      go_ret
      exact ⟨rfl, HB.out.trans (B2.out.mono (Nat.le_of_lt hHV))⟩
    | true =>
      go_wp2_with fail
      refine (HC3.out _ B2.out).mono ?_
      rintro e w3 ⟨rfl, q3⟩
      clear d1 d3
      have B3 := Lib.hid q3
      have I3 := (HI.out : Is _ _ _ _).below q3 hHV
      have d1 := I3.at_ 1
      have d4 := I3.at_ 4
      simp at d1 d4
      clear q3 I3
      cases b3 with
      | false =>
        go_wp2
        go_ret
        exact ⟨rfl, HB.out.trans (B3.out.mono (Nat.le_of_lt hHV))⟩
      | true =>
        have HC5 := Lib.hid (HC4.out _ B3.out)
        go_wp2_with fail
        refine HC5.out.mono ?_
        rintro e w4 ⟨rfl, q4⟩
        have B4 := Lib.hid q4
        clear q4
        cases b4 with
        | false =>
          go_wp2
          go_ret
          exact ⟨rfl, HB.out.trans (B4.out.mono (Nat.le_of_lt hHV))⟩
        | true =>
          go_wp2
          go_ret
          exact ⟨rfl, HB.out.trans (B4.out.mono (Nat.le_of_lt hHV))⟩
theorem check_any {w : World} {vs vg vk ve : Value} {p : Pb} (h : PbAt w vs vg vk ve p) (hn : p.succ.length ≤ 64) :
    Calls Tryd.prog 13 #[pbV vs vg vk ve p.width] w fun e w' => e = .returned (.int .i64 (codeP p)) ∧ Below w.heap.size w w' := by
  by_cases hw : p.width < 0 ∨ 4000 < p.width
  · refine (check_low h hn hw).mono ?_
    rintro e w' ⟨rfl, hb⟩
    exact ⟨by unfold codeP; rw [if_pos hw], hb⟩
  · by_cases hm : p.succ.length < p.gen.length ∨ p.succ.length < p.kill.length
    · refine (check_many h hn (by omega) (by omega) hm).mono ?_
      rintro e w' ⟨rfl, hb⟩
      refine ⟨?_, hb⟩
      unfold codeP
      rw [if_neg hw, if_neg]
      unfold okB
      rcases hm with h | h
      · rw [decide_eq_false (by omega : ¬p.gen.length ≤ p.succ.length)]; simp
      · rw [decide_eq_false (by omega : ¬p.kill.length ≤ p.succ.length)]; simp
    · refine (check_rest h hn (by omega) (by omega) (by omega) (by omega)).mono ?_
      rintro e w' ⟨rfl, hb⟩
      refine ⟨?_, hb⟩
      unfold codeP okB
      rw [if_neg hw, decide_eq_true (by omega : p.gen.length ≤ p.succ.length), decide_eq_true (by omega : p.kill.length ≤ p.succ.length)]
      simp only [Bool.true_and]
end Fl
end Go.Proofs.YtbeepedobnaojaaDoor

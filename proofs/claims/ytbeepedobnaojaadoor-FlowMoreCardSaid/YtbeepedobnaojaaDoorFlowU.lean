/- The walks of layer 15's laws: FlowForward, FlowBackward. -/
import Derived.Test.YtbeepedobnaojaaDoorFlowT
namespace Go.Proofs.YtbeepedobnaojaaDoor
open Go.RowKit Lf Go.Deep Sv Tr
namespace Fl
theorem forward_all {w : World} (hT : TabAt w) {vs vg vk ve : Value} {p : Pb} (h : PbAt w vs vg vk ve p) (ho : codeP p = 0) (hn : p.succ.length ≤ 64) {m : Nat} (hm : p.width = m) :
    Calls Tryd.prog 11 #[pbV vs vg vk ve p.width] w fun e w' =>
      ∃ a Y, e = .returned (.tuple #[.pointer (some ⟨a, 0, none⟩), .int .i64 0]) ∧ Ans w' a p.succ.length m Y ∧ Below w.heap.size w w' ∧ ∀ x j, x < m → j < p.succ.length → ((Y x).testBit j = true ↔ Fwd p (x : Int) j) := by
  by_cases h0 : 0 < p.succ.length
  · refine (forward_any hT h ho h0 hn hm).mono ?_
    rintro e w' ⟨a, Y, rfl, q1, q2, q3⟩
    exact ⟨a, Y, rfl, q1, q2, fun x j hx _ => q3 x j hx⟩
  · have h00 : p.succ.length = 0 := by omega
    refine (forward_none h ho h00 hm).mono ?_
    rintro e w' ⟨a, b, rfl, q1, q2⟩
    rw [h00]
    exact ⟨a, fun _ => 0, rfl, ⟨⟨b, q1, fun h => absurd h (Nat.lt_irrefl 0)⟩, fun _ _ => Nat.two_pow_pos _⟩, q2, fun x j _ hj => absurd hj (Nat.not_lt_zero _)⟩
theorem backward_all {w : World} (hT : TabAt w) {vs vg vk ve : Value} {p : Pb} (h : PbAt w vs vg vk ve p) (ho : codeP p = 0) (hn : p.succ.length ≤ 64) {m : Nat} (hm : p.width = m) :
    Calls Tryd.prog 16 #[pbV vs vg vk ve p.width] w fun e w' =>
      ∃ a Y, e = .returned (.tuple #[.pointer (some ⟨a, 0, none⟩), .int .i64 0]) ∧ Ans w' a p.succ.length m Y ∧ Below w.heap.size w w' ∧ ∀ x j, x < m → j < p.succ.length → ((Y x).testBit j = true ↔ Bwd p (x : Int) j) := by
  by_cases h0 : 0 < p.succ.length
  · refine (backward_any hT h ho h0 hn hm).mono ?_
    rintro e w' ⟨a, Y, rfl, q1, q2, q3⟩
    exact ⟨a, Y, rfl, q1, q2, fun x j hx _ => q3 x j hx⟩
  · have h00 : p.succ.length = 0 := by omega
    refine (backward_none h ho h00 hm).mono ?_
    rintro e w' ⟨a, b, rfl, q1, q2⟩
    rw [h00]
    exact ⟨a, fun _ => 0, rfl, ⟨⟨b, q1, fun h => absurd h (Nat.lt_irrefl 0)⟩, fun _ _ => Nat.two_pow_pos _⟩, q2, fun x j _ hj => absurd hj (Nat.not_lt_zero _)⟩
/-- What stands behind a law's box: all of a problem, wherever it is looked at. -/
structure Lw0 (w V : World) (H : Nat) (vs vg vk ve : Value) (p : Pb) : Prop where
  since : Below H w V
  box : Is V H 25 #[vs, .int .i64 p.width, vg, vk, ve]
  at_ : PbAt V vs vg vk ve p
  tab : TabAt V
theorem Lw0.next {w V V' : World} {H : Nat} {vs vg vk ve : Value} {p : Pb} (h : Lw0 w V H vs vg vk ve p) (hb : Below V.heap.size V V') : Lw0 w V' H vs vg vk ve p :=
  ⟨h.since.trans (hb.mono (Nat.le_of_lt h.box.lt)), h.box.below hb h.box.lt, h.at_.below hb, h.tab.below hb h.tab.pos⟩
theorem lw0_start {w : World} {vs vg vk ve : Value} {p : Pb} (hT : TabAt w) (h : PbAt w vs vg vk ve p) : Lw0 w (w.alloc (.cells #[vs, .int .i64 p.width, vg, vk, ve] 25)) w.heap.size vs vg vk ve p := by
  have hb : Below w.heap.size w (w.alloc (.cells #[vs, .int .i64 p.width, vg, vk, ve] 25)) := (Below.refl _ _).alloc (Nat.le_refl _) _
  exact ⟨hb, Is.made _ _ _, h.below hb, hT.below hb hT.pos⟩
set_option maxHeartbeats 2000000 in
theorem flowForward_walk {w : World} (hT : TabAt w) {vs vg vk ve : Value} {p : Pb} (h : PbAt w vs vg vk ve p) :
    Calls Tryd.prog 3 #[pbV vs vg vk ve p.width] w fun x w' => x = .returned (.bool true) ∧ Below w.heap.size w w' := by
  obtain ⟨V, hV⟩ : ∃ V, w.alloc (.cells #[vs, .int .i64 p.width, vg, vk, ve] 25) = V := ⟨_, rfl⟩
  have hL := lw0_start hT h
  rw [hV] at hL
  obtain ⟨H, hH⟩ : ∃ x, w.heap.size = x := ⟨_, rfl⟩
  rw [hH] at hL ⊢
  have HL := Lib.hid hL
  have HV := Lib.hid hV
  have HH := Lib.hid hH
  have HFL := Lib.hid (fun (X : World) (hx : TabAt X) => flowed_any hx)
  have HSM := Lib.hid (fun (X : World) (hx : Lw0 w X H vs vg vk ve p) => small_any hx.at_)
  clear hT h hV hL hH
  unfold pbV at HSM ⊢
  obtain ⟨wd, hwd⟩ : ∃ x, p.width = x := ⟨_, rfl⟩
  have HWD := Lib.hid hwd
  rw [hwd] at HSM HV ⊢
  clear hwd
  go_enter Tryd.func3, Tryd.ntmps3
  go_wp2_with fail
  rw [HV.out, HH.out]
  refine (HFL.out V HL.out.tab).mono ?_
  rintro e w1 ⟨rfl, q1⟩
  have HL1 := Lib.hid (HL.out.next q1)
  clear q1
  have d0 := HL1.out.box.at_ 0
  have d1 := HL1.out.box.at_ 1
  have d2 := HL1.out.box.at_ 2
  have d3 := HL1.out.box.at_ 3
  have d4 := HL1.out.box.at_ 4
  rw [HWD.out] at d1
  simp at d0 d1 d2 d3 d4
  go_wp2_with fail
  refine (HSM.out w1 HL1.out).mono ?_
  rintro e w2 ⟨rfl, q2⟩
  have HL2 := Lib.hid (HL1.out.next q2)
  clear q2 d0 d1 d2 d3 d4
  obtain ⟨bs, hbs⟩ : ∃ b, smallB p = b := ⟨_, rfl⟩
  have HBS := Lib.hid hbs
  rw [hbs]
  clear hbs
  cases bs with
  | false =>
    go_wp2_with fail
    refine (HFL.out w2 HL2.out.tab).mono ?_
    rintro e w3 ⟨rfl, q3⟩
    have HL3 := Lib.hid (HL2.out.next q3)
    clear q3
    go_wp2
    go_ret
    exact ⟨rfl, HL3.out.since⟩
  | true =>
    have hsm := small_iff HBS.out
    have hn64 : p.succ.length ≤ 64 := by have := hsm.s; omega
    have hck := fun (X : World) (hx : Lw0 w X H vs vg vk ve p) => check_any hx.at_ hn64
    have hrc := fun (X : World) (hx : Lw0 w X H vs vg vk ve p) => rcheck_any hx.at_ hn64
    by_cases hc0 : codeP p = 0
    · have hok := code_ok hn64 hc0
      obtain ⟨m, hm⟩ : ∃ m : Nat, p.width = m := ⟨p.width.toNat, (Int.toNat_of_nonneg hok.low).symm⟩
      have hm4 : m ≤ 4000 := by have := hok.high; omega
      have hfw := fun (X : World) (hx : Lw0 w X H vs vg vk ve p) => forward_all hx.tab hx.at_ hc0 hn64 hm
      have hsame := fun (X : World) (hx : Lw0 w X H vs vg vk ve p) (a : Nat) (Y : Nat → Nat) (hA : Ans X a p.succ.length m Y) (hy : ∀ x j, x < m → j < p.succ.length → ((Y x).testBit j = true ↔ Fwd p (x : Int) j)) =>
        same_fwd hA hx.at_ hc0 rfl hn64 hm hm4 (fun e i he hi => by rw [Bool.eq_iff_iff, hy e i he hi, frounds_end hok.s])
      rw [hc0] at hck hrc
      unfold pbV at hck hrc hfw hsame
      rw [HWD.out] at hck hrc hfw hsame
      have HCK := Lib.hid hck
      have HRC := Lib.hid hrc
      have HFW := Lib.hid hfw
      have HSAME := Lib.hid hsame
      clear hck hrc hfw hsame hm hok hsm hc0
      have d0 := HL2.out.box.at_ 0
      have d1 := HL2.out.box.at_ 1
      have d2 := HL2.out.box.at_ 2
      have d3 := HL2.out.box.at_ 3
      have d4 := HL2.out.box.at_ 4
      rw [HWD.out] at d1
      simp at d0 d1 d2 d3 d4
      go_wp2_with fail
      refine (HFW.out w2 HL2.out).mono ?_
      rintro e w3 ⟨a, Y, rfl, q1, q2, q3⟩
      have HL3 := Lib.hid (HL2.out.next q2)
      have HA3 := Lib.hid q1
      have HY3 := Lib.hid q3
      clear d0 d1 d2 d3 d4 q1 q2 q3 HFW
      have d0 := HL3.out.box.at_ 0
      have d1 := HL3.out.box.at_ 1
      have d2 := HL3.out.box.at_ 2
      have d3 := HL3.out.box.at_ 3
      have d4 := HL3.out.box.at_ 4
      rw [HWD.out] at d1
      simp at d0 d1 d2 d3 d4
      go_wp2_with fail
      refine (HRC.out w3 HL3.out).mono ?_
      rintro e w4 ⟨rfl, q4⟩
      have HL4 := Lib.hid (HL3.out.next q4)
      have HA4 := Lib.hid (HA3.out.below q4)
      clear d0 d1 d2 d3 d4 q4 HRC HA3
      have d0 := HL4.out.box.at_ 0
      have d1 := HL4.out.box.at_ 1
      have d2 := HL4.out.box.at_ 2
      have d3 := HL4.out.box.at_ 3
      have d4 := HL4.out.box.at_ 4
      rw [HWD.out] at d1
      simp at d0 d1 d2 d3 d4
      go_wp2_with fail
      refine (HCK.out w4 HL4.out).mono ?_
      rintro e w5 ⟨rfl, q5⟩
      have HL5 := Lib.hid (HL4.out.next q5)
      have HA5 := Lib.hid (HA4.out.below q5)
      clear d0 d1 d2 d3 d4 q5 HCK HA4
      have d0 := HL5.out.box.at_ 0
      have d1 := HL5.out.box.at_ 1
      have d2 := HL5.out.box.at_ 2
      have d3 := HL5.out.box.at_ 3
      have d4 := HL5.out.box.at_ 4
      rw [HWD.out] at d1
      simp at d0 d1 d2 d3 d4
      go_wp2_with fail
      refine (HSAME.out w5 HL5.out a Y HA5.out HY3.out).mono ?_
      rintro e w6 ⟨rfl, q6⟩
      have HL6 := Lib.hid (HL5.out.next q6)
      clear d0 d1 d2 d3 d4 q6 HSAME
      go_wp2
      go_ret
      exact ⟨rfl, HL6.out.since⟩
    · have hbad := fun (X : World) (hx : Lw0 w X H vs vg vk ve p) => forward_bad hx.at_ hc0 hn64
      obtain ⟨cc, hcc⟩ : ∃ c, codeP p = c := ⟨_, rfl⟩
      rw [hcc] at hbad hck hrc hc0
      have hne := bad_core cc hc0
      unfold pbV at hck hrc hbad
      rw [HWD.out] at hck hrc hbad
      have HCK := Lib.hid hck
      have HRC := Lib.hid hrc
      have HFW := Lib.hid hbad
      clear hck hrc hbad hsm hc0 hcc
      have d0 := HL2.out.box.at_ 0
      have d1 := HL2.out.box.at_ 1
      have d2 := HL2.out.box.at_ 2
      have d3 := HL2.out.box.at_ 3
      have d4 := HL2.out.box.at_ 4
      rw [HWD.out] at d1
      simp at d0 d1 d2 d3 d4
      go_wp2_with fail
      refine (HFW.out w2 HL2.out).mono ?_
      rintro e w3 ⟨rfl, q2⟩
      have HL3 := Lib.hid (HL2.out.next q2)
      clear d0 d1 d2 d3 d4 q2 HFW
      have d0 := HL3.out.box.at_ 0
      have d1 := HL3.out.box.at_ 1
      have d2 := HL3.out.box.at_ 2
      have d3 := HL3.out.box.at_ 3
      have d4 := HL3.out.box.at_ 4
      rw [HWD.out] at d1
      simp at d0 d1 d2 d3 d4
      go_wp2_with fail
      refine (HRC.out w3 HL3.out).mono ?_
      rintro e w4 ⟨rfl, q4⟩
      have HL4 := Lib.hid (HL3.out.next q4)
      clear d0 d1 d2 d3 d4 q4 HRC
      have d0 := HL4.out.box.at_ 0
      have d1 := HL4.out.box.at_ 1
      have d2 := HL4.out.box.at_ 2
      have d3 := HL4.out.box.at_ 3
      have d4 := HL4.out.box.at_ 4
      rw [HWD.out] at d1
      simp at d0 d1 d2 d3 d4
      go_wp2_with fail
      refine (HCK.out w4 HL4.out).mono ?_
      rintro e w5 ⟨rfl, q5⟩
      have HL5 := Lib.hid (HL4.out.next q5)
      clear d0 d1 d2 d3 d4 q5 HCK
      go_wp2
      go_ret
      exact ⟨rfl, HL5.out.since⟩
set_option maxHeartbeats 2000000 in
theorem flowBackward_walk {w : World} (hT : TabAt w) {vs vg vk ve : Value} {p : Pb} (h : PbAt w vs vg vk ve p) :
    Calls Tryd.prog 4 #[pbV vs vg vk ve p.width] w fun x w' => x = .returned (.bool true) ∧ Below w.heap.size w w' := by
  obtain ⟨V, hV⟩ : ∃ V, w.alloc (.cells #[vs, .int .i64 p.width, vg, vk, ve] 25) = V := ⟨_, rfl⟩
  have hL := lw0_start hT h
  rw [hV] at hL
  obtain ⟨H, hH⟩ : ∃ x, w.heap.size = x := ⟨_, rfl⟩
  rw [hH] at hL ⊢
  have HL := Lib.hid hL
  have HV := Lib.hid hV
  have HH := Lib.hid hH
  have HFL := Lib.hid (fun (X : World) (hx : TabAt X) => flowed_any hx)
  have HSM := Lib.hid (fun (X : World) (hx : Lw0 w X H vs vg vk ve p) => small_any hx.at_)
  clear hT h hV hL hH
  unfold pbV at HSM ⊢
  obtain ⟨wd, hwd⟩ : ∃ x, p.width = x := ⟨_, rfl⟩
  have HWD := Lib.hid hwd
  rw [hwd] at HSM HV ⊢
  clear hwd
  go_enter Tryd.func4, Tryd.ntmps4
  go_wp2_with fail
  rw [HV.out, HH.out]
  refine (HFL.out V HL.out.tab).mono ?_
  rintro e w1 ⟨rfl, q1⟩
  have HL1 := Lib.hid (HL.out.next q1)
  clear q1
  have d0 := HL1.out.box.at_ 0
  have d1 := HL1.out.box.at_ 1
  have d2 := HL1.out.box.at_ 2
  have d3 := HL1.out.box.at_ 3
  have d4 := HL1.out.box.at_ 4
  rw [HWD.out] at d1
  simp at d0 d1 d2 d3 d4
  go_wp2_with fail
  refine (HSM.out w1 HL1.out).mono ?_
  rintro e w2 ⟨rfl, q2⟩
  have HL2 := Lib.hid (HL1.out.next q2)
  clear q2 d0 d1 d2 d3 d4
  obtain ⟨bs, hbs⟩ : ∃ b, smallB p = b := ⟨_, rfl⟩
  have HBS := Lib.hid hbs
  rw [hbs]
  clear hbs
  cases bs with
  | false =>
    go_wp2_with fail
    refine (HFL.out w2 HL2.out.tab).mono ?_
    rintro e w3 ⟨rfl, q3⟩
    have HL3 := Lib.hid (HL2.out.next q3)
    clear q3
    go_wp2
    go_ret
    exact ⟨rfl, HL3.out.since⟩
  | true =>
    have hsm := small_iff HBS.out
    have hn64 : p.succ.length ≤ 64 := by have := hsm.s; omega
    have hrc := fun (X : World) (hx : Lw0 w X H vs vg vk ve p) => rcheck_any hx.at_ hn64
    by_cases hc0 : codeP p = 0
    · have hok := code_ok hn64 hc0
      obtain ⟨m, hm⟩ : ∃ m : Nat, p.width = m := ⟨p.width.toNat, (Int.toNat_of_nonneg hok.low).symm⟩
      have hm4 : m ≤ 4000 := by have := hok.high; omega
      have hfw := fun (X : World) (hx : Lw0 w X H vs vg vk ve p) => backward_all hx.tab hx.at_ hc0 hn64 hm
      have hsame := fun (X : World) (hx : Lw0 w X H vs vg vk ve p) (a : Nat) (Y : Nat → Nat) (hA : Ans X a p.succ.length m Y) (hy : ∀ x j, x < m → j < p.succ.length → ((Y x).testBit j = true ↔ Bwd p (x : Int) j)) =>
        same_bwd hA hx.at_ hc0 rfl hn64 hm hm4 (fun e i he hi => by rw [Bool.eq_iff_iff, hy e i he hi, brounds_end hok.s hok.gen])
      rw [hc0] at hrc
      unfold pbV at hrc hfw hsame
      rw [HWD.out] at hrc hfw hsame
      have HRC := Lib.hid hrc
      have HFW := Lib.hid hfw
      have HSAME := Lib.hid hsame
      clear hrc hfw hsame hm hok hsm hc0
      have d0 := HL2.out.box.at_ 0
      have d1 := HL2.out.box.at_ 1
      have d2 := HL2.out.box.at_ 2
      have d3 := HL2.out.box.at_ 3
      have d4 := HL2.out.box.at_ 4
      rw [HWD.out] at d1
      simp at d0 d1 d2 d3 d4
      go_wp2_with fail
      refine (HFW.out w2 HL2.out).mono ?_
      rintro e w3 ⟨a, Y, rfl, q1, q2, q3⟩
      have HL3 := Lib.hid (HL2.out.next q2)
      have HA3 := Lib.hid q1
      have HY3 := Lib.hid q3
      clear d0 d1 d2 d3 d4 q1 q2 q3 HFW
      have d0 := HL3.out.box.at_ 0
      have d1 := HL3.out.box.at_ 1
      have d2 := HL3.out.box.at_ 2
      have d3 := HL3.out.box.at_ 3
      have d4 := HL3.out.box.at_ 4
      rw [HWD.out] at d1
      simp at d0 d1 d2 d3 d4
      go_wp2_with fail
      refine (HRC.out w3 HL3.out).mono ?_
      rintro e w4 ⟨rfl, q4⟩
      have HL4 := Lib.hid (HL3.out.next q4)
      have HA4 := Lib.hid (HA3.out.below q4)
      clear d0 d1 d2 d3 d4 q4 HRC HA3
      have d0 := HL4.out.box.at_ 0
      have d1 := HL4.out.box.at_ 1
      have d2 := HL4.out.box.at_ 2
      have d3 := HL4.out.box.at_ 3
      have d4 := HL4.out.box.at_ 4
      rw [HWD.out] at d1
      simp at d0 d1 d2 d3 d4
      go_wp2_with fail
      refine (HSAME.out w4 HL4.out a Y HA4.out HY3.out).mono ?_
      rintro e w6 ⟨rfl, q6⟩
      have HL6 := Lib.hid (HL4.out.next q6)
      clear d0 d1 d2 d3 d4 q6 HSAME
      go_wp2
      go_ret
      exact ⟨rfl, HL6.out.since⟩
    · have hbad := fun (X : World) (hx : Lw0 w X H vs vg vk ve p) => backward_bad hx.at_ hc0 hn64
      obtain ⟨cc, hcc⟩ : ∃ c, codeP p = c := ⟨_, rfl⟩
      rw [hcc] at hbad hrc hc0
      have hne := bad_core cc hc0
      unfold pbV at hrc hbad
      rw [HWD.out] at hrc hbad
      have HRC := Lib.hid hrc
      have HFW := Lib.hid hbad
      clear hrc hbad hsm hc0 hcc
      have d0 := HL2.out.box.at_ 0
      have d1 := HL2.out.box.at_ 1
      have d2 := HL2.out.box.at_ 2
      have d3 := HL2.out.box.at_ 3
      have d4 := HL2.out.box.at_ 4
      rw [HWD.out] at d1
      simp at d0 d1 d2 d3 d4
      go_wp2_with fail
      refine (HFW.out w2 HL2.out).mono ?_
      rintro e w3 ⟨rfl, q2⟩
      have HL3 := Lib.hid (HL2.out.next q2)
      clear d0 d1 d2 d3 d4 q2 HFW
      have d0 := HL3.out.box.at_ 0
      have d1 := HL3.out.box.at_ 1
      have d2 := HL3.out.box.at_ 2
      have d3 := HL3.out.box.at_ 3
      have d4 := HL3.out.box.at_ 4
      rw [HWD.out] at d1
      simp at d0 d1 d2 d3 d4
      go_wp2_with fail
      refine (HRC.out w3 HL3.out).mono ?_
      rintro e w4 ⟨rfl, q4⟩
      have HL4 := Lib.hid (HL3.out.next q4)
      clear d0 d1 d2 d3 d4 q4 HRC
      go_wp2
      go_ret
      exact ⟨rfl, HL4.out.since⟩
end Fl
end Go.Proofs.YtbeepedobnaojaaDoor

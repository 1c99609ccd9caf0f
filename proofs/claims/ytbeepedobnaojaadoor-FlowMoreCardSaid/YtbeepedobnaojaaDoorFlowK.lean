/- No nodes. -/
import Derived.Test.YtbeepedobnaojaaDoorFlowJ
namespace Go.Proofs.YtbeepedobnaojaaDoor
open Go.RowKit Lf Go.Deep Sv Tr
namespace Fl
set_option maxHeartbeats 8000000 in
set_option maxRecDepth 100000 in
theorem forward_none {w : World} {vs vg vk ve : Value} {p : Pb} (h : PbAt w vs vg vk ve p) (ho : codeP p = 0) (h0 : p.succ.length = 0) {m : Nat} (hm : p.width = m) :
    Calls Tryd.prog 11 #[pbV vs vg vk ve p.width] w fun e w' =>
      ∃ a b, e = .returned (.tuple #[.pointer (some ⟨a, 0, none⟩), .int .i64 0]) ∧ Is w' a 48 #[.int .i64 0, .slice (some ⟨b, 0, none⟩) m m] ∧ Below w.heap.size w w' := by
  have hok := code_ok (by omega) ho
  have hm4 : m ≤ 4000 := by have := hok.high; omega
  have e0 : p.succ = [] := List.eq_nil_of_length_eq_zero h0
  have e1 : p.gen = [] := List.eq_nil_of_length_eq_zero (by have := hok.gen; omega)
  have e2 : p.kill = [] := List.eq_nil_of_length_eq_zero (by have := hok.kill; omega)
  obtain ⟨V, hV⟩ : ∃ V, w.alloc (.cells #[vs, .int .i64 p.width, vg, vk, ve] 25) = V := ⟨_, rfl⟩
  have hB0 : Below w.heap.size w V := hV ▸ (Below.refl _ w).alloc (Nat.le_refl _) _
  have hI0 : Bx V w.heap.size vs vg vk ve p.width := hV ▸ Is.made w _ _
  have hP := h.below hB0
  have hC := check_any hP (by omega)
  have hs := hP.s
  have hg := hP.g
  have hk := hP.k
  rw [e0] at hs
  rw [e1] at hg
  rw [e2] at hk
  rw [ho] at hC
  obtain ⟨As, cs, rfl, hs'⟩ := hs
  simp only [List.length_nil] at hV hI0 hC ⊢
  have hs : LsAt V (.slice As 0 cs) [] := ⟨As, cs, rfl, hs'⟩
  have HC := Lib.hid hC
  obtain ⟨H, hH⟩ : ∃ x, w.heap.size = x := ⟨_, rfl⟩
  rw [hH] at hI0 hB0 ⊢
  have hHV : H < V.heap.size := hI0.lt
  have HH := Lib.hid hH
  have HV := Lib.hid hV
  have HI := Lib.hid hI0
  have HB := Lib.hid hB0
  rw [hm] at HC HV HI ⊢
  clear h ho hV hB0 hI0 hP hC hH hok hm h0 e0 e1 e2 hs'
  unfold pbV at HC ⊢
  go_enter Tryd.func11, Tryd.ntmps11
  go_wp2_with fail
  rw [HV.out, HH.out]
  refine HC.out.mono ?_
  rintro e w1 ⟨rfl, q1⟩
  have B1 := Lib.hid q1
  have I1 := (HI.out : Is _ _ _ _).below q1 hHV
  have d0 := I1.at_ 0
  have d1 := I1.at_ 1
  simp at d0 d1
  clear q1 I1
  have HS := Lib.hid (newSets_any w1 (m := m) (n := 0) (q := 0) (by omega) (by omega) (by omega))
  go_wp2_with fail
  refine HS.out.mono ?_
  rintro e w2 ⟨rfl, q2⟩
  obtain ⟨b, hb⟩ : ∃ b, w1.heap.size = b := ⟨_, rfl⟩
  have bb := q2.since
  rw [hb] at bb ⊢
  have B2 : Hid (Below V.heap.size V w2) := B1.out.trans (bb.mono (hb ▸ B1.out.size))
  clear q2 HS d0 d1 hb
  have I2 := (HI.out : Is _ _ _ _).below B2.out hHV
  have d0 := I2.at_ 0
  have d1 := I2.at_ 1
  simp at d0 d1
  obtain ⟨a, ha⟩ : ∃ a, w2.heap.size = a := ⟨_, rfl⟩
  obtain ⟨w3, hw3⟩ : ∃ w3, w2.alloc (.cells #[.int .i64 0, .slice (some ⟨b, 0, none⟩) m m] 48) = w3 := ⟨_, rfl⟩
  have b3 : Below a w2 w3 := hw3 ▸ (Below.refl a w2).alloc (by omega) _
  have an : Is w3 a 48 #[.int .i64 0, .slice (some ⟨b, 0, none⟩) m m] := by rw [← hw3, ← ha]; exact Is.made w2 _ _
  have B3 : Hid (Below V.heap.size V w3) := B2.out.trans (b3.mono (by have := B2.out.size; omega))
  have HA := Lib.hid an
  have HW3 := Lib.hid hw3
  have HAA := Lib.hid ha
  clear bb ha hw3 b3 an I2
  have box : ∀ X, Below w3.heap.size w3 X → X.cell? ⟨H, 0, none⟩ = some (.slice As 0 cs) ∧ X.cell? ⟨H, 1, none⟩ = some (.int .i64 m) ∧ X.cell? ⟨H, 2, none⟩ = some vg ∧ X.cell? ⟨H, 3, none⟩ = some vk := fun X hb => by
    have hI := (HI.out : Is _ _ _ _).below (B3.out.trans (hb.mono B3.out.size)) hHV
    exact ⟨hI.at_ 0, hI.at_ 1, hI.at_ 2, hI.at_ 3⟩
  have HBOX := Lib.hid box
  have HST : Hid (∀ X, Below w3.heap.size w3 X → Calls Tryd.prog 23 #[.slice As 0 cs] X fun e w' => ∃ c, e = .returned (.slice (some ⟨c, 0, none⟩) 0 0) ∧ Hid (Below X.heap.size X w')) := fun X hb =>
    (steps_none (hs.below (B3.out.trans (hb.mono B3.out.size)))).mono fun e w' ⟨h1, h2⟩ => ⟨_, h1, h2.since⟩
  have HTG : Hid (∀ X, Below w3.heap.size w3 X → Calls Tryd.prog 24 #[vg, .int .i64 m, .int .i64 0] X fun e w' => ∃ c, e = .returned (.slice (some ⟨c, 0, none⟩) m m) ∧ Hid (c = X.heap.size ∧ Part X w' c m m 0)) := fun X hb =>
    (turned_none (hg.below (B3.out.trans (hb.mono B3.out.size))) hm4).mono fun e w' ⟨h1, h2⟩ => ⟨_, h1, rfl, h2⟩
  have HTK : Hid (∀ X, Below w3.heap.size w3 X → Calls Tryd.prog 24 #[vk, .int .i64 m, .int .i64 0] X fun e w' => ∃ c, e = .returned (.slice (some ⟨c, 0, none⟩) m m) ∧ Hid (c = X.heap.size ∧ Part X w' c m m 0)) := fun X hb =>
    (turned_none (hk.below (B3.out.trans (hb.mono B3.out.size))) hm4).mono fun e w' ⟨h1, h2⟩ => ⟨_, h1, rfl, h2⟩
  have D3 : Hid (Below w3.heap.size w3 w3) := Below.refl _ _
  have DD : Hid (Below w3.heap.size w3 w3.drew) := D3.out.drew
  clear d0 d1 box hs hg hk
  have dd := HBOX.out _ D3.out
  obtain ⟨d0, d1, d2, d3⟩ := dd
  go_wp2_with fail
  rw [HW3.out, HAA.out]
  go_region_held3 (fun X => X.cell? ⟨H, 0, none⟩ = some (.slice As 0 cs) ∧ X.cell? ⟨H, 1, none⟩ = some (.int .i64 m) ∧ X.cell? ⟨H, 2, none⟩ = some vg ∧ X.cell? ⟨H, 3, none⟩ = some vk)
    (first
      | exact HBOX.out _ D6.out
      | exact HBOX.out _ D5.out
      | exact HBOX.out _ D4.out
      | exact HBOX.out _ DD.out
      | exact HBOX.out _ D3.out)
    (first
      | (go_at_call 24; refine (HTK.out _ D5.out).mono ?_; rintro e w6 ⟨f, rfl, Q6⟩; have D6 : Hid (Below w3.heap.size w3 w6) := (D5.out.trans ((Q6.out.1 ▸ Q6.out.2.since).mono D5.out.size)))
      | (go_at_call 24; refine (HTG.out _ D4.out).mono ?_; rintro e w5 ⟨d, rfl, Q5⟩; have D5 : Hid (Below w3.heap.size w3 w5) := (D4.out.trans ((Q5.out.1 ▸ Q5.out.2.since).mono D4.out.size)))
      | (go_at_call 23; refine (HST.out _ DD.out).mono ?_; rintro e w4 ⟨c, rfl, Q4⟩; have D4 : Hid (Below w3.heap.size w3 w4) := (DD.out.trans (Q4.out.mono DD.out.size))))
  obtain ⟨hd, p5⟩ := Q5.out
  obtain ⟨hf, p6⟩ := Q6.out
  have b6 : Below w5.heap.size w5 w6 := hf ▸ p6.since
  have HX : Hid (Is w6 a 48 #[.int .i64 0, .slice (some ⟨b, 0, none⟩) m m] ∧ (∀ k, k < m → ∃ x, w6.cell? ⟨d, k, none⟩ = some (.slice x 0 0)) ∧ (∀ k, k < m → ∃ x, w6.cell? ⟨f, k, none⟩ = some (.slice x 0 0)) ∧ d < w6.heap.size ∧ f < w6.heap.size) := by
    refine ⟨HA.out.below D6.out HA.out.lt, fun k hk => ?_, fun k hk => ?_, ?_, ?_⟩
    · obtain ⟨cs, h1, h2, h3⟩ := p5.outer
      exact ⟨_, (((h1.below b6 h1.lt).at_ k).trans (h3 k hk))⟩
    · obtain ⟨cs, h1, h2, h3⟩ := p6.outer
      exact ⟨_, ((h1.at_ k).trans (h3 k hk))⟩
    · obtain ⟨cs, h1, h2, h3⟩ := p5.outer
      exact Nat.lt_of_lt_of_le h1.lt b6.size
    · obtain ⟨cs, h1, h2, h3⟩ := p6.outer
      exact h1.lt
  have B6 : Hid (Below H w w6) := (HB.out.trans (B3.out.mono (Nat.le_of_lt hHV))).trans (D6.out.mono (by have := B3.out.size; omega))
  have dd := (HI.out : Is _ _ _ _).below (B3.out.trans (D6.out.mono B3.out.size)) hHV
  have d0 := dd.at_ 0
  have d1 := dd.at_ 1
  simp at d0 d1
  have hHw : H < w6.heap.size := dd.lt
  have HDD := Lib.hid dd
  clear HBOX HST HTG HTK D3 DD Q4 Q5 Q6 D4 D5 D6 hd hf p5 p6 b6 HA HW3 HAA B3 dd
  go_wp2
  go_loopw [66] (fun i wr => ∃ k : Nat, k ≤ m ∧ i = .int .i64 k ∧ Hid (Below w6.heap.size w6 wr)) (fun i _ => m - (intOf i).toNat)
  case atStart => exact ⟨0, Nat.zero_le _, rfl, Below.refl _ _⟩
  case round =>
    obtain ⟨g, hg, rfl, HQ⟩ := hrel
    by_cases hlg : g < m
    · obtain ⟨_, hx1, hx2, hx3, hx4⟩ := HX.out
      obtain ⟨x1, hc1⟩ := hx1 g hlg
      obtain ⟨x2, hc2⟩ := hx2 g hlg
      have c1 := (HQ.out.cell (p := ⟨d, g, none⟩) hx3).trans hc1
      have c2 := (HQ.out.cell (p := ⟨f, g, none⟩) hx4).trans hc2
      clear hx1 hx2 hc1 hc2
      go_wp2_with fail
      refine (flood_none _ _ _ _ _).mono ?_
      rintro e w8 ⟨rfl, q8⟩
      have HR : Hid (Below w6.heap.size w6 w8) := HQ.out.trans (q8.mono HQ.out.size)
      clear q8 c1 c2 HQ
      go_wp2
      go_loopw [103] (fun i wr => i = .int .i64 0 ∧ wr = w8) (fun i _ => 1 - (intOf i).toNat)
      case atStart => exact ⟨rfl, rfl⟩
      case round =>
        obtain ⟨rfl, rfl⟩ := hrel
        go_wp2
        go_roundw
        case rel => exact ⟨g + 1, by omega, by go_num, HR⟩
        case measure => simp [intOf]; omega
    · have hge : g = m := by omega
      subst hge
      have HF : Hid (Is wr a 48 #[.int .i64 0, .slice (some ⟨b, 0, none⟩) g g] ∧ Below H w wr) := ⟨HX.out.1.below HQ.out HX.out.1.lt, B6.out.trans (HQ.out.mono (Nat.le_of_lt hHw))⟩
      clear HQ
      go_wp2
      go_ret2
      exact ⟨a, b, rfl, HF.out.1, HF.out.2⟩
set_option maxHeartbeats 8000000 in
set_option maxRecDepth 100000 in
theorem backward_none {w : World} {vs vg vk ve : Value} {p : Pb} (h : PbAt w vs vg vk ve p) (ho : codeP p = 0) (h0 : p.succ.length = 0) {m : Nat} (hm : p.width = m) :
    Calls Tryd.prog 16 #[pbV vs vg vk ve p.width] w fun e w' =>
      ∃ a b, e = .returned (.tuple #[.pointer (some ⟨a, 0, none⟩), .int .i64 0]) ∧ Is w' a 48 #[.int .i64 0, .slice (some ⟨b, 0, none⟩) m m] ∧ Below w.heap.size w w' := by
  have hok := code_ok (by omega) ho
  have hm4 : m ≤ 4000 := by have := hok.high; omega
  have e0 : p.succ = [] := List.eq_nil_of_length_eq_zero h0
  have e1 : p.gen = [] := List.eq_nil_of_length_eq_zero (by have := hok.gen; omega)
  have e2 : p.kill = [] := List.eq_nil_of_length_eq_zero (by have := hok.kill; omega)
  obtain ⟨V, hV⟩ : ∃ V, w.alloc (.cells #[vs, .int .i64 p.width, vg, vk, ve] 25) = V := ⟨_, rfl⟩
  have hB0 : Below w.heap.size w V := hV ▸ (Below.refl _ w).alloc (Nat.le_refl _) _
  have hI0 : Bx V w.heap.size vs vg vk ve p.width := hV ▸ Is.made w _ _
  have hP := h.below hB0
  have hC := check_any hP (by omega)
  have hs := hP.s
  have hg := hP.g
  have hk := hP.k
  rw [e0] at hs
  rw [e1] at hg
  rw [e2] at hk
  rw [ho] at hC
  obtain ⟨As, cs, rfl, hs'⟩ := hs
  simp only [List.length_nil] at hV hI0 hC ⊢
  have hs : LsAt V (.slice As 0 cs) [] := ⟨As, cs, rfl, hs'⟩
  have HC := Lib.hid hC
  obtain ⟨H, hH⟩ : ∃ x, w.heap.size = x := ⟨_, rfl⟩
  rw [hH] at hI0 hB0 ⊢
  have hHV : H < V.heap.size := hI0.lt
  have HH := Lib.hid hH
  have HV := Lib.hid hV
  have HI := Lib.hid hI0
  have HB := Lib.hid hB0
  rw [hm] at HC HV HI ⊢
  clear h ho hV hB0 hI0 hP hC hH hok hm h0 e0 e1 e2 hs'
  unfold pbV at HC ⊢
  go_enter Tryd.func16, Tryd.ntmps16
  go_wp2_with fail
  rw [HV.out, HH.out]
  refine HC.out.mono ?_
  rintro e w1 ⟨rfl, q1⟩
  have B1 := Lib.hid q1
  have I1 := (HI.out : Is _ _ _ _).below q1 hHV
  have d0 := I1.at_ 0
  have d1 := I1.at_ 1
  simp at d0 d1
  clear q1 I1
  have HS := Lib.hid (newSets_any w1 (m := m) (n := 0) (q := 0) (by omega) (by omega) (by omega))
  go_wp2_with fail
  refine HS.out.mono ?_
  rintro e w2 ⟨rfl, q2⟩
  obtain ⟨b, hb⟩ : ∃ b, w1.heap.size = b := ⟨_, rfl⟩
  have bb := q2.since
  rw [hb] at bb ⊢
  have B2 : Hid (Below V.heap.size V w2) := B1.out.trans (bb.mono (hb ▸ B1.out.size))
  clear q2 HS d0 d1 hb
  have I2 := (HI.out : Is _ _ _ _).below B2.out hHV
  have d0 := I2.at_ 0
  have d1 := I2.at_ 1
  simp at d0 d1
  obtain ⟨a, ha⟩ : ∃ a, w2.heap.size = a := ⟨_, rfl⟩
  obtain ⟨w3, hw3⟩ : ∃ w3, w2.alloc (.cells #[.int .i64 0, .slice (some ⟨b, 0, none⟩) m m] 48) = w3 := ⟨_, rfl⟩
  have b3 : Below a w2 w3 := hw3 ▸ (Below.refl a w2).alloc (by omega) _
  have an : Is w3 a 48 #[.int .i64 0, .slice (some ⟨b, 0, none⟩) m m] := by rw [← hw3, ← ha]; exact Is.made w2 _ _
  have B3 : Hid (Below V.heap.size V w3) := B2.out.trans (b3.mono (by have := B2.out.size; omega))
  have HA := Lib.hid an
  have HW3 := Lib.hid hw3
  have HAA := Lib.hid ha
  clear bb ha hw3 b3 an I2
  have box : ∀ X, Below w3.heap.size w3 X → X.cell? ⟨H, 0, none⟩ = some (.slice As 0 cs) ∧ X.cell? ⟨H, 1, none⟩ = some (.int .i64 m) ∧ X.cell? ⟨H, 2, none⟩ = some vg ∧ X.cell? ⟨H, 3, none⟩ = some vk := fun X hb => by
    have hI := (HI.out : Is _ _ _ _).below (B3.out.trans (hb.mono B3.out.size)) hHV
    exact ⟨hI.at_ 0, hI.at_ 1, hI.at_ 2, hI.at_ 3⟩
  have HBOX := Lib.hid box
  have HST : Hid (∀ X, Below w3.heap.size w3 X → Calls Tryd.prog 24 #[.slice As 0 cs, .int .i64 (0 : Nat), .int .i64 0] X fun e w' => ∃ c, e = .returned (.slice (some ⟨c, 0, none⟩) 0 0) ∧ Hid (Below X.heap.size X w')) := fun X hb =>
    (turned_none (m := 0) (hs.below (B3.out.trans (hb.mono B3.out.size))) (by omega)).mono fun e w' ⟨h1, h2⟩ => ⟨_, h1, h2.since⟩
  have HTG : Hid (∀ X, Below w3.heap.size w3 X → Calls Tryd.prog 24 #[vg, .int .i64 m, .int .i64 0] X fun e w' => ∃ c, e = .returned (.slice (some ⟨c, 0, none⟩) m m) ∧ Hid (c = X.heap.size ∧ Part X w' c m m 0)) := fun X hb =>
    (turned_none (hg.below (B3.out.trans (hb.mono B3.out.size))) hm4).mono fun e w' ⟨h1, h2⟩ => ⟨_, h1, rfl, h2⟩
  have HTK : Hid (∀ X, Below w3.heap.size w3 X → Calls Tryd.prog 24 #[vk, .int .i64 m, .int .i64 0] X fun e w' => ∃ c, e = .returned (.slice (some ⟨c, 0, none⟩) m m) ∧ Hid (c = X.heap.size ∧ Part X w' c m m 0)) := fun X hb =>
    (turned_none (hk.below (B3.out.trans (hb.mono B3.out.size))) hm4).mono fun e w' ⟨h1, h2⟩ => ⟨_, h1, rfl, h2⟩
  have D3 : Hid (Below w3.heap.size w3 w3) := Below.refl _ _
  have DD : Hid (Below w3.heap.size w3 w3.drew) := D3.out.drew
  clear d0 d1 box hs hg hk
  have dd := HBOX.out _ D3.out
  obtain ⟨d0, d1, d2, d3⟩ := dd
  go_wp2_with fail
  rw [HW3.out, HAA.out]
  go_region_held3 (fun X => X.cell? ⟨H, 0, none⟩ = some (.slice As 0 cs) ∧ X.cell? ⟨H, 1, none⟩ = some (.int .i64 m) ∧ X.cell? ⟨H, 2, none⟩ = some vg ∧ X.cell? ⟨H, 3, none⟩ = some vk)
    (first
      | exact HBOX.out _ D6.out
      | exact HBOX.out _ D5.out
      | exact HBOX.out _ D4.out
      | exact HBOX.out _ DD.out
      | exact HBOX.out _ D3.out)
    (first
      | (go_at_call 24; refine (HTK.out _ D5.out).mono ?_; rintro e w6 ⟨f, rfl, Q6⟩; have D6 : Hid (Below w3.heap.size w3 w6) := (D5.out.trans ((Q6.out.1 ▸ Q6.out.2.since).mono D5.out.size)))
      | (go_at_call 24; refine (HTG.out _ D4.out).mono ?_; rintro e w5 ⟨d, rfl, Q5⟩; have D5 : Hid (Below w3.heap.size w3 w5) := (D4.out.trans ((Q5.out.1 ▸ Q5.out.2.since).mono D4.out.size)))
      | (go_at_call 24; refine (HST.out _ DD.out).mono ?_; rintro e w4 ⟨c, rfl, Q4⟩; have D4 : Hid (Below w3.heap.size w3 w4) := (DD.out.trans (Q4.out.mono DD.out.size))))
  obtain ⟨hd, p5⟩ := Q5.out
  obtain ⟨hf, p6⟩ := Q6.out
  have b6 : Below w5.heap.size w5 w6 := hf ▸ p6.since
  have HX : Hid (Is w6 a 48 #[.int .i64 0, .slice (some ⟨b, 0, none⟩) m m] ∧ (∀ k, k < m → ∃ x, w6.cell? ⟨d, k, none⟩ = some (.slice x 0 0)) ∧ (∀ k, k < m → ∃ x, w6.cell? ⟨f, k, none⟩ = some (.slice x 0 0)) ∧ d < w6.heap.size ∧ f < w6.heap.size) := by
    refine ⟨HA.out.below D6.out HA.out.lt, fun k hk => ?_, fun k hk => ?_, ?_, ?_⟩
    · obtain ⟨cs, h1, h2, h3⟩ := p5.outer
      exact ⟨_, (((h1.below b6 h1.lt).at_ k).trans (h3 k hk))⟩
    · obtain ⟨cs, h1, h2, h3⟩ := p6.outer
      exact ⟨_, ((h1.at_ k).trans (h3 k hk))⟩
    · obtain ⟨cs, h1, h2, h3⟩ := p5.outer
      exact Nat.lt_of_lt_of_le h1.lt b6.size
    · obtain ⟨cs, h1, h2, h3⟩ := p6.outer
      exact h1.lt
  have B6 : Hid (Below H w w6) := (HB.out.trans (B3.out.mono (Nat.le_of_lt hHV))).trans (D6.out.mono (by have := B3.out.size; omega))
  have dd := (HI.out : Is _ _ _ _).below (B3.out.trans (D6.out.mono B3.out.size)) hHV
  have d0 := dd.at_ 0
  have d1 := dd.at_ 1
  simp at d0 d1
  have hHw : H < w6.heap.size := dd.lt
  have HDD := Lib.hid dd
  clear HBOX HST HTG HTK D3 DD Q4 Q5 Q6 D4 D5 D6 hd hf p5 p6 b6 HA HW3 HAA B3 dd
  go_wp2
  go_loopw [47] (fun i wr => ∃ k : Nat, k ≤ m ∧ i = .int .i64 k ∧ Hid (Below w6.heap.size w6 wr)) (fun i _ => m - (intOf i).toNat)
  case atStart => exact ⟨0, Nat.zero_le _, rfl, Below.refl _ _⟩
  case round =>
    obtain ⟨g, hg, rfl, HQ⟩ := hrel
    by_cases hlg : g < m
    · obtain ⟨_, hx1, hx2, hx3, hx4⟩ := HX.out
      obtain ⟨x1, hc1⟩ := hx1 g hlg
      obtain ⟨x2, hc2⟩ := hx2 g hlg
      have c1 := (HQ.out.cell (p := ⟨d, g, none⟩) hx3).trans hc1
      have c2 := (HQ.out.cell (p := ⟨f, g, none⟩) hx4).trans hc2
      clear hx1 hx2 hc1 hc2
      have HFW : Hid (Calls Tryd.prog 27 #[.slice x1 0 0, .slice x2 0 0, .slice (some ⟨c, 0, none⟩) 0 0] wr.drew fun e w' => e = .returned (.slice none 0 0) ∧ Hid (Below w6.heap.size w6 w')) :=
        (flood_none _ _ _ _ 0).mono fun e w' ⟨h1, h2⟩ => ⟨h1, HQ.out.trans (((Below.refl _ wr).drew.trans h2).mono HQ.out.size)⟩
      go_wp2_with fail
      go_region_law ((go_simp; go_at_call 27; refine HFW.out.mono ?_; rintro e w8 ⟨rfl, HR⟩))
      all_goals
        clear c1 c2 HFW HQ
        go_wp2
        simp only [List.getElem_toArray, List.getElem_cons_zero, List.getElem_cons_succ, Act.put, List.setIfInBounds_toArray, List.set_cons_zero, List.set_cons_succ]
        go_loopw [61] (fun i wr => i = .int .i64 0 ∧ wr = w8) (fun i _ => 1 - (intOf i).toNat)
        case atStart => exact ⟨rfl, rfl⟩
        case round =>
          obtain ⟨rfl, rfl⟩ := hrel
          go_wp2
          go_roundw
          case rel => exact ⟨g + 1, by omega, by go_num, HR⟩
          case measure => simp [intOf]; omega
    · have hge : g = m := by omega
      subst hge
      have HF : Hid (Is wr a 48 #[.int .i64 0, .slice (some ⟨b, 0, none⟩) g g] ∧ Below H w wr) := ⟨HX.out.1.below HQ.out HX.out.1.lt, B6.out.trans (HQ.out.mono (Nat.le_of_lt hHw))⟩
      clear HQ
      go_wp2
      go_ret2
      exact ⟨a, b, rfl, HF.out.1, HF.out.2⟩
end Fl
end Go.Proofs.YtbeepedobnaojaaDoor

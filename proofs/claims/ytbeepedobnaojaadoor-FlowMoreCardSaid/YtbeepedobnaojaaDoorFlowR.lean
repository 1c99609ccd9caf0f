/- The law's small. -/
import Derived.Test.YtbeepedobnaojaaDoorFlowQ
namespace Go.Proofs.YtbeepedobnaojaaDoor
open Go.RowKit Lf Go.Deep Sv Tr
namespace Fl
def shortB (ls : Ls) : Bool := ls.all fun l => decide (l.length ≤ 8)
def smallB (p : Pb) : Bool := (decide (p.succ.length ≤ 30) && decide (p.gen.length ≤ 40) && decide (p.kill.length ≤ 40) && decide (p.entry.length ≤ 20) && decide (p.width ≤ 70)) && (shortB p.succ && shortB p.gen && shortB p.kill)
structure Small (p : Pb) : Prop where
  s : p.succ.length ≤ 30
  g : p.gen.length ≤ 40
  k : p.kill.length ≤ 40
  e : p.entry.length ≤ 20
  w : p.width ≤ 70
  ss : ∀ l ∈ p.succ, l.length ≤ 8
  sg : ∀ l ∈ p.gen, l.length ≤ 8
  sk : ∀ l ∈ p.kill, l.length ≤ 8
theorem shortB_iff {ls : Ls} : shortB ls = true ↔ ∀ l ∈ ls, l.length ≤ 8 := by
  unfold shortB
  rw [List.all_eq_true]
  exact ⟨fun h l hl => by simpa using h l hl, fun h l hl => by simpa using h l hl⟩
theorem small_iff {p : Pb} (h : smallB p = true) : Small p := by
  unfold smallB at h
  simp only [Bool.and_eq_true, decide_eq_true_eq, shortB_iff] at h
  obtain ⟨⟨⟨⟨⟨h1, h2⟩, h3⟩, h4⟩, h5⟩, ⟨h6, h7⟩, h8⟩ := h
  exact ⟨h1, h2, h3, h4, h5, h6, h7, h8⟩
/-- One of the three lists. -/
def three (p : Pb) (i : Nat) : Ls := if i = 0 then p.succ else if i = 1 then p.gen else p.kill
set_option maxHeartbeats 4000000 in
theorem small_any {w : World} {vs vg vk ve : Value} {p : Pb} (h : PbAt w vs vg vk ve p) :
    Calls Tryd.prog 10 #[pbV vs vg vk ve p.width] w fun x w' => x = .returned (.bool (smallB p)) ∧ Below w.heap.size w w' := by
  obtain ⟨A1, c1, rfl, hm1, hg1⟩ := h.s.form
  obtain ⟨A2, c2, rfl, hm2, hg2⟩ := h.g.form
  obtain ⟨A3, c3, rfl, hm3, hg3⟩ := h.k.form
  obtain ⟨A4, c4, rfl, hm4, hg4⟩ := rowI_form h.e
  unfold maxLen at hm1 hm2 hm3 hm4
  obtain ⟨n1, hn1⟩ : ∃ x, p.succ.length = x := ⟨_, rfl⟩
  obtain ⟨n2, hn2⟩ : ∃ x, p.gen.length = x := ⟨_, rfl⟩
  obtain ⟨n3, hn3⟩ : ∃ x, p.kill.length = x := ⟨_, rfl⟩
  obtain ⟨n4, hn4⟩ : ∃ x, p.entry.length = x := ⟨_, rfl⟩
  obtain ⟨wd, hwd⟩ : ∃ x, p.width = x := ⟨_, rfl⟩
  by_cases hb : n1 ≤ 30 ∧ n2 ≤ 40 ∧ n3 ≤ 40 ∧ n4 ≤ 20 ∧ wd ≤ 70
  · have hsm : smallB p = (shortB p.succ && shortB p.gen && shortB p.kill) := by
      unfold smallB
      rw [hn1, hn2, hn3, hn4, hwd, decide_eq_true hb.1, decide_eq_true hb.2.1, decide_eq_true hb.2.2.1, decide_eq_true hb.2.2.2.1, decide_eq_true hb.2.2.2.2]
      simp
    rw [hsm]
    obtain ⟨b, hbb⟩ : ∃ x, (shortB p.succ && shortB p.gen && shortB p.kill) = x := ⟨_, rfl⟩
    have HBB := Lib.hid hbb
    rw [hbb]
    have N1 := Lib.hid hn1
    have N2 := Lib.hid hn2
    have N3 := Lib.hid hn3
    have G1 := Lib.hid hg1
    have G2 := Lib.hid hg2
    have G3 := Lib.hid hg3
    simp only [hn1, hn2, hn3, hn4, hwd] at hm1 hm2 hm3 hm4 ⊢
    clear h hg1 hg2 hg3 hg4 hn1 hn2 hn3 hn4 hwd hsm hbb
    unfold pbV
    obtain ⟨hb1, hb2, hb3, hb4, hb5⟩ := hb
    have hd1 : decide ((30 : Int) < n1) = false := decide_eq_false (by omega)
    have hd2 : decide ((40 : Int) < n2) = false := decide_eq_false (by omega)
    have hd3 : decide ((40 : Int) < n3) = false := decide_eq_false (by omega)
    have hd4 : decide ((20 : Int) < n4) = false := decide_eq_false (by omega)
    have hd5 : decide ((70 : Int) < wd) = false := decide_eq_false (by omega)
    obtain ⟨V, hV⟩ : ∃ V, (w.alloc (.cells #[.slice A1 n1 c1, .int .i64 wd, .slice A2 n2 c2, .slice A3 n3 c3, .slice A4 n4 c4] 25)).alloc (.cells #[.slice A1 n1 c1, .slice A2 n2 c2, .slice A3 n3 c3] 22) = V := ⟨_, rfl⟩
    have hB : Below w.heap.size w V := hV ▸ ((Below.refl _ w).alloc (Nat.le_refl _) _).alloc (by simp) _
    have hI : Is V (w.heap.size + 1) 22 #[.slice A1 n1 c1, .slice A2 n2 c2, .slice A3 n3 c3] := by
      rw [← hV]
      have := Is.made (w.alloc (.cells #[.slice A1 n1 c1, .int .i64 wd, .slice A2 n2 c2, .slice A3 n3 c3, .slice A4 n4 c4] 25)) 22 #[.slice A1 n1 c1, .slice A2 n2 c2, .slice A3 n3 c3]
      simpa using this
    have HT : Hid (∀ i, i < 3 → ∃ A n c, V.cell? ⟨w.heap.size + 1, i, none⟩ = some (.slice A n c) ∧ (three p i).length = n ∧ n ≤ 40 ∧ ∀ j, (hj : j < (three p i).length) → ∃ bk o u, A = some ⟨bk, o, none⟩ ∧ bk < w.heap.size ∧ w.cell? ⟨bk, o + j, none⟩ = some u ∧ RowI w u (three p i)[j]) := fun i hi => by
      rcases (by omega : i = 0 ∨ i = 1 ∨ i = 2) with rfl | rfl | rfl
      · exact ⟨A1, n1, c1, hI.at_ 0, N1.out, by omega, G1.out⟩
      · exact ⟨A2, n2, c2, hI.at_ 1, N2.out, by omega, G2.out⟩
      · exact ⟨A3, n3, c3, hI.at_ 2, N3.out, by omega, G3.out⟩
    have HBT : Hid (b = true ↔ ∀ i, i < 3 → shortB (three p i) = true) := by
      show b = true ↔ _
      rw [← HBB.out, Bool.and_eq_true, Bool.and_eq_true]
      constructor
      · rintro ⟨⟨h1, h2⟩, h3⟩ i hi
        rcases (by omega : i = 0 ∨ i = 1 ∨ i = 2) with rfl | rfl | rfl
        · exact h1
        · exact h2
        · exact h3
      · intro h
        exact ⟨⟨h 0 (by omega), h 1 (by omega)⟩, h 2 (by omega)⟩
    obtain ⟨H, hH⟩ : ∃ x, w.heap.size = x := ⟨_, rfl⟩
    rw [hH] at HT hB ⊢
    have HV := Lib.hid hV
    have HH := Lib.hid hH
    have HB := Lib.hid hB
    clear hV hB hI hH N1 N2 N3 G1 G2 G3 HBB
    go_enter Tryd.func10, Tryd.ntmps10
    go_wp2
    rw [HV.out, HH.out]
    go_loopw [4] (fun i wr => ∃ k : Nat, k ≤ 3 ∧ i = .int .i64 k ∧ wr = V ∧ Hid (∀ j, j < k → shortB (three p j) = true)) (fun i _ => 3 - (intOf i).toNat)
    case atStart => exact ⟨0, Nat.zero_le _, rfl, rfl, fun j hj => absurd hj (Nat.not_lt_zero _)⟩
    case round =>
      obtain ⟨i, hi, rfl, rfl, HD⟩ := hrel
      by_cases hi3 : i < 3
      · obtain ⟨A, n, c, hc, hn, hn40, hget⟩ := HT.out i hi3
        have HN := Lib.hid hn
        have HG := Lib.hid hget
        clear hn hget
        go_wp2
        go_loopw [5] (fun x wr' => ∃ k : Nat, k ≤ n ∧ x = .int .i64 k ∧ wr' = wr ∧ Hid (∀ l ∈ (three p i).take k, l.length ≤ 8)) (fun i _ => n - (intOf i).toNat)
        case atStart => exact ⟨0, Nat.zero_le _, rfl, rfl, fun l hl => by simp at hl⟩
        case round =>
          obtain ⟨k, hk, rfl, rfl, HK⟩ := hrel
          by_cases hkn : k < n
          · obtain ⟨bk, o, u, rfl, hbk, hcell, hrow⟩ := HG.out k (by rw [HN.out]; exact hkn)
            obtain ⟨A', c', rfl, hm', _⟩ := rowI_form hrow
            obtain ⟨li, hli⟩ : ∃ x, ((three p i)[k]'(by rw [HN.out]; exact hkn)).length = x := ⟨_, rfl⟩
            rw [hli] at hcell hm'
            unfold maxLen at hm'
            have hcc := (HB.out.cell (p := ⟨bk, o + k, none⟩) hbk).trans hcell
            have HLI := Lib.hid hli
            clear hrow hli hcell
            by_cases h8 : li ≤ 8
            · have HK2 : Hid (∀ l ∈ (three p i).take (k + 1), l.length ≤ 8) := fun l hl => by
                rw [List.take_succ_eq_append_getElem (show k < (three p i).length by rw [HN.out]; exact hkn), List.mem_append, List.mem_singleton] at hl
                rcases hl with hl | rfl
                · exact HK.out l hl
                · rw [HLI.out]; exact h8
              have hd : decide ((8 : Int) < li) = false := decide_eq_false (by omega)
              clear HK
              go_wp2
              go_roundw
              case rel => exact ⟨k + 1, by omega, by go_num, trivial, HK2⟩
              case measure => simp [intOf]; omega
            · have hbf : b = false := by
                cases hq : b with
                | false => rfl
                | true =>
                  have h1 := (HBT.out.1 hq) i hi3
                  have h2 := shortB_iff.1 h1 _ (List.getElem_mem (show k < (three p i).length by rw [HN.out]; exact hkn))
                  rw [HLI.out] at h2
                  omega
              subst hbf
              have hd : decide ((8 : Int) < li) = true := decide_eq_true (by omega)
              clear HK HD HBT
              go_wp2
              go_ret
              exact ⟨rfl, HB.out⟩
          · have hke : k = n := by omega
            subst hke
            have HD2 : Hid (∀ j, j < i + 1 → shortB (three p j) = true) := fun j hj => by
              by_cases hji : j = i
              · subst hji
                have := HK.out
                rw [← HN.out, List.take_length] at this
                exact shortB_iff.2 this
              · exact HD.out j (by omega)
            clear HK HD
            go_wp2
            go_roundw
            case rel => exact ⟨i + 1, by omega, by go_num, trivial, HD2⟩
            case measure => simp [intOf]; omega
      · have hie : i = 3 := by omega
        subst hie
        have hbt : b = true := HBT.out.2 HD.out
        subst hbt
        clear HD HBT
        go_wp2
        go_ret
        exact ⟨rfl, HB.out⟩
  · have hsm : smallB p = false := by
      cases hq : smallB p with
      | false => rfl
      | true =>
        have := small_iff hq
        exact absurd ⟨hn1 ▸ this.s, hn2 ▸ this.g, hn3 ▸ this.k, hn4 ▸ this.e, hwd ▸ this.w⟩ hb
    rw [hsm]
    simp only [hn1, hn2, hn3, hn4, hwd] at hm1 hm2 hm3 hm4 ⊢
    clear h hg1 hg2 hg3 hg4 hn1 hn2 hn3 hn4 hwd hsm
    unfold pbV
    have hd1 : n1 ≤ 30 ∨ decide ((30 : Int) < n1) = true := by by_cases h : n1 ≤ 30; exact .inl h; exact .inr (decide_eq_true (by omega))
    rcases hd1 with h1 | h1
    · have d1 : decide ((30 : Int) < n1) = false := decide_eq_false (by omega)
      rcases (by by_cases h : n2 ≤ 40; exact .inl h; exact .inr (decide_eq_true (by omega)) : n2 ≤ 40 ∨ decide ((40 : Int) < n2) = true) with h2 | h2
      · have d2 : decide ((40 : Int) < n2) = false := decide_eq_false (by omega)
        rcases (by by_cases h : n3 ≤ 40; exact .inl h; exact .inr (decide_eq_true (by omega)) : n3 ≤ 40 ∨ decide ((40 : Int) < n3) = true) with h3 | h3
        · have d3 : decide ((40 : Int) < n3) = false := decide_eq_false (by omega)
          rcases (by by_cases h : n4 ≤ 20; exact .inl h; exact .inr (decide_eq_true (by omega)) : n4 ≤ 20 ∨ decide ((20 : Int) < n4) = true) with h4 | h4
          · have d4 : decide ((20 : Int) < n4) = false := decide_eq_false (by omega)
            have d5 : decide ((70 : Int) < wd) = true := decide_eq_true (by omega)
            clear hb
            go_enter Tryd.func10, Tryd.ntmps10
            go_wp2
            go_ret
            exact ⟨rfl, (Below.refl _ _).alloc (Nat.le_refl _) _⟩
          · clear hb
            go_enter Tryd.func10, Tryd.ntmps10
            go_wp2
            go_ret
            exact ⟨rfl, (Below.refl _ _).alloc (Nat.le_refl _) _⟩
        · clear hb
          go_enter Tryd.func10, Tryd.ntmps10
          go_wp2
          go_ret
          exact ⟨rfl, (Below.refl _ _).alloc (Nat.le_refl _) _⟩
      · clear hb
        go_enter Tryd.func10, Tryd.ntmps10
        go_wp2
        go_ret
        exact ⟨rfl, (Below.refl _ _).alloc (Nat.le_refl _) _⟩
    · clear hb
      go_enter Tryd.func10, Tryd.ntmps10
      go_wp2
      go_ret
      exact ⟨rfl, (Below.refl _ _).alloc (Nat.le_refl _) _⟩
end Fl
end Go.Proofs.YtbeepedobnaojaaDoor

/- Rows of whole numbers held against each other, by the reference. -/
import Derived.BigQuiet
import Derived.Test.YtbeepedobnaojaaDoorBox
import Derived.Test.YtbeepedobnaojaaDoorChecked
import Derived.Test.YtbeepedobnaojaaDoorRowAt
namespace Go.Proofs.YtbeepedobnaojaaDoor
open Go.RowKit Go.Deep
namespace Tr
theorem below_drewN (w : World) (q : Nat) : Below w.heap.size w (w.drewN q) := ⟨rfl, rfl, rfl, Nat.le_refl _, fun _ _ => rfl⟩

theorem ints_eq {w : World} {u v : Value} {l m : List Int} (hu : RowI w u l) (hv : RowI w v m) :
    Calls Tryd.prog 31 #[u, v] w fun e w' => e = .returned (.bool (decide (l = m))) ∧ ∃ q, w.drewN q = w' := by
  obtain ⟨A1, c1, rfl, h1⟩ := hu
  obtain ⟨A2, c2, rfl, h2⟩ := hv
  have hle := h1.le
  unfold maxLen at hle
  have H1 := Lib.hid h1
  have H2 := Lib.hid h2
  obtain ⟨n, hln⟩ : ∃ n, l.length = n := ⟨_, rfl⟩
  have HLN := Lib.hid hln
  by_cases hlm : m.length = n
  · have HLM := Lib.hid hlm
    rw [hln] at hle
    rw [hln, hlm]
    obtain ⟨b, hb⟩ : ∃ b, decide (l = m) = b := ⟨_, rfl⟩
    have HB := Lib.hid hb
    rw [hb]
    clear h1 h2 hln hlm hb
    go_enter Tryd.func31, Tryd.ntmps31
    go_wp2
    go_loopw [5] (fun i wr => ∃ k q : Nat, k ≤ n ∧ i = .int .i64 k ∧ wr = w.drewN q ∧ Hid (l.take k = m.take k)) (fun i _ => n - (intOf i).toNat)
    case atStart => exact ⟨0, 0, Nat.zero_le _, rfl, rfl, rfl⟩
    case round =>
      obtain ⟨k, q, hk, rfl, rfl, HT⟩ := hrel
      by_cases hlt : k < n
      · have hkl : k < l.length := by rw [HLN.out]; exact hlt
        have hkm : k < m.length := by rw [HLM.out]; exact hlt
        obtain ⟨b1, o1, rfl, _, d1⟩ := int_at H1.out hkl
        obtain ⟨b2, o2, rfl, _, d2⟩ := int_at H2.out hkm
        obtain ⟨x, hx⟩ : ∃ x, l[k] = x := ⟨_, rfl⟩
        obtain ⟨y, hy⟩ : ∃ x, m[k] = x := ⟨_, rfl⟩
        rw [hx] at d1
        rw [hy] at d2
        have HX := Lib.hid hx
        have HY := Lib.hid hy
        clear hx hy
        by_cases hxy : x = y
        · subst hxy
          have HT2 : Hid (l.take (k + 1) = m.take (k + 1)) := by
            show _ = _
            rw [List.take_succ_eq_append_getElem hkl, List.take_succ_eq_append_getElem hkm, HT.out, HX.out, HY.out]
          clear HX HY HT hkl hkm
          go_wp2_with fail
          go_quiet (fail)
          go_wp2
          go_roundw
          case rel => exact ⟨k + 1, _, by omega, by go_num, rfl, HT2⟩
          case measure => simp [intOf]; omega
        · have hb : b = false := by
            rw [← HB.out]
            refine decide_eq_false fun e => hxy ?_
            rw [← HX.out, ← HY.out]
            subst e
            rfl
          subst hb
          have hne : (x == y) = false := by rw [beq_eq_false_iff_ne]; exact hxy
          clear HX HY HT hkl hkm
          go_wp2_with fail
          go_quiet (fail)
          go_wp2
          go_ret
          exact ⟨rfl, _, (World.drewN_drewN ..).symm⟩
      · have hkm : k = n := by omega
        subst hkm
        have hb : b = true := by
          rw [← HB.out]
          refine decide_eq_true ?_
          have := HT.out
          rwa [List.take_of_length_le (by rw [HLN.out]; exact Nat.le_refl _), List.take_of_length_le (by rw [HLM.out]; exact Nat.le_refl _)] at this
        subst hb
        clear HT
        go_wp2
        go_ret
        exact ⟨rfl, q, rfl⟩
  · have hd : decide (l = m) = false := decide_eq_false (fun e => hlm (by rw [← e, hln]))
    rw [hd, hln]
    obtain ⟨n2, hn2⟩ : ∃ n, m.length = n := ⟨_, rfl⟩
    rw [hn2] at hlm ⊢
    have hne : ((n : Int) == (n2 : Int)) = false := by rw [beq_eq_false_iff_ne]; omega
    clear h1 h2 hln hd hn2
    go_enter Tryd.func31, Tryd.ntmps31
    go_wp2
    go_ret
    exact ⟨rfl, 0, rfl⟩
end Tr
end Go.Proofs.YtbeepedobnaojaaDoor

/- The reference: has, in. -/
import Derived.BigQuiet
import Derived.Test.YtbeepedobnaojaaDoorFlowL
namespace Go.Proofs.YtbeepedobnaojaaDoor
open Go.RowKit Lf Go.Deep Sv Tr
namespace Fl
theorem below_dn (w : World) (q : Nat) : Below w.heap.size w (w.drewN q) := ⟨rfl, rfl, rfl, Nat.le_refl _, fun _ _ => rfl⟩
theorem has_ref {w : World} {v : Value} {ls : Ls} (h : LsAt w v ls) (i : Nat) (e : Int) :
    Calls Tryd.prog 32 #[v, .int .i64 i, .int .i64 e] w fun x w' => x = .returned (.bool (hasL ls i e)) ∧ ∃ q, w.drewN q = w' := by
  obtain ⟨A, c, rfl, hmax, hget⟩ := h.form
  obtain ⟨len, hlen⟩ : ∃ n, ls.length = n := ⟨_, rfl⟩
  have HL := Lib.hid hlen
  by_cases hi : i < len
  · obtain ⟨bk, o, u, rfl, hbk, hc, hrow⟩ := hget i (by omega)
    obtain ⟨A2, c2, rfl, hmax2, hget2⟩ := rowI_form hrow
    have hh : hasL ls i e = (ls[i]'(by omega)).contains e := by unfold hasL; rw [getD_at (by omega)]
    rw [hh]
    obtain ⟨l, hl⟩ : ∃ l, (ls[i]'(by omega)) = l := ⟨_, rfl⟩
    rw [hl] at hc hmax2 hget2 ⊢
    rw [hlen]
    clear hh
    obtain ⟨n, hn⟩ : ∃ n, l.length = n := ⟨_, rfl⟩
    have HN := Lib.hid hn
    have HG := Lib.hid hget2
    rw [hn] at hc hmax2
    unfold maxLen at hmax2
    obtain ⟨b, hb⟩ : ∃ b, l.contains e = b := ⟨_, rfl⟩
    have HBB := Lib.hid hb
    rw [hb]
    clear h hlen hget hrow hl hn hget2 hb
    go_enter Tryd.func32, Tryd.ntmps32
    go_wp2
    go_loopw [7] (fun i wr => ∃ k q : Nat, k ≤ n ∧ i = .int .i64 k ∧ wr = w.drewN q ∧ Hid (∀ y ∈ l.take k, y ≠ e)) (fun i _ => n - (intOf i).toNat)
    case atStart => exact ⟨0, 0, Nat.zero_le _, rfl, rfl, fun y hy => by simp at hy⟩
    case round =>
      obtain ⟨k, q, hk, rfl, rfl, HT⟩ := hrel
      by_cases hlt : k < n
      · have hkl : k < l.length := by rw [HN.out]; exact hlt
        obtain ⟨bk2, o2, rfl, hbk2, hc2⟩ := HG.out k hkl
        obtain ⟨x, hx⟩ : ∃ x, l[k] = x := ⟨_, rfl⟩
        rw [hx] at hc2
        have HX := Lib.hid hx
        clear hx
        by_cases hxe : x = e
        · subst hxe
          have hbt : b = true := by
            rw [← HBB.out]
            simp only [List.contains_iff_mem]
            exact HX.out ▸ List.getElem_mem hkl
          subst hbt
          clear HX HT
          go_wp2
          go_ret
          exact ⟨rfl, _, rfl⟩
        · have HT2 : Hid (∀ y ∈ l.take (k + 1), y ≠ e) := fun y hy => by
            rw [List.take_succ_eq_append_getElem hkl, List.mem_append, List.mem_singleton] at hy
            rcases hy with hy | rfl
            · exact HT.out y hy
            · rw [HX.out]; exact hxe
          have hbe : (x == e) = false := by simp; exact hxe
          clear HX HT
          go_wp2
          go_roundw
          case rel => exact ⟨k + 1, _, by omega, by go_num, rfl, HT2⟩
          case measure => simp [intOf]; omega
      · have hke : k = n := by omega
        subst hke
        have hbf : b = false := by
          rw [← HBB.out]
          cases hq : l.contains e with
          | false => rfl
          | true =>
            have := HT.out e (by rw [← HN.out, List.take_length]; simpa using hq)
            exact absurd rfl this
        subst hbf
        clear HT
        go_wp2
        go_ret
        exact ⟨rfl, _, rfl⟩
  · have hh : hasL ls i e = false := by
      cases hq : hasL ls i e with
      | false => rfl
      | true => have := has_lt hq; omega
    rw [hh, hlen]
    unfold maxLen at hmax
    rw [hlen] at hmax
    clear h hget hlen hh
    have hd : decide ((len : Int) ≤ (i : Int)) = true := decide_eq_true (by omega)
    go_enter Tryd.func32, Tryd.ntmps32
    go_wp2
    go_ret
    exact ⟨rfl, 0, rfl⟩
set_option maxHeartbeats 2000000 in
theorem in_ref {w : World} {v : Value} {ls : Ls} (h : LsAt w v ls) (n most : Int) :
    Calls Tryd.prog 29 #[v, .int .i64 n, .int .i64 most] w fun x w' => x = .returned (.bool (lsOk most ls && decide ((ls.length : Int) ≤ n))) ∧ ∃ q, w.drewN q = w' := by
  obtain ⟨A, c, rfl, hmax, hget⟩ := h.form
  obtain ⟨len, hlen⟩ : ∃ n, ls.length = n := ⟨_, rfl⟩
  have HL := Lib.hid hlen
  have HG := Lib.hid hget
  rw [hlen] at hmax ⊢
  unfold maxLen at hmax
  obtain ⟨b, hb⟩ : ∃ b, lsOk most ls = b := ⟨_, rfl⟩
  have HBB := Lib.hid hb
  rw [hb]
  clear h hlen hget hb
  go_enter Tryd.func29, Tryd.ntmps29
  go_wp2
  go_loopw [7] (fun i wr => ∃ k q : Nat, k ≤ len ∧ i = .int .i64 k ∧ wr = w.drewN q ∧ Hid (∀ y ∈ ls.take k, rowOk most y = true)) (fun i _ => len - (intOf i).toNat)
  case atStart => exact ⟨0, 0, Nat.zero_le _, rfl, rfl, fun y hy => by simp at hy⟩
  case round =>
    obtain ⟨i, q, hk, rfl, rfl, HT⟩ := hrel
    by_cases hi : i < len
    · obtain ⟨bk, o, u, rfl, hbk, hc, hrow⟩ := HG.out i (by rw [HL.out]; exact hi)
      obtain ⟨A2, c2, rfl, hmax2, hget2⟩ := rowI_form hrow
      obtain ⟨l, hl⟩ : ∃ l, (ls[i]'(by rw [HL.out]; exact hi)) = l := ⟨_, rfl⟩
      rw [hl] at hc hmax2 hget2
      have HLI := Lib.hid hl
      obtain ⟨n2, hn⟩ : ∃ n, l.length = n := ⟨_, rfl⟩
      have HN := Lib.hid hn
      have HG2 := Lib.hid hget2
      rw [hn] at hc hmax2
      unfold maxLen at hmax2
      clear hrow hl hn hget2
      go_wp2
      go_loopw [8] (fun i wr => ∃ k q : Nat, k ≤ n2 ∧ i = .int .i64 k ∧ wr = w.drewN q ∧ Hid (∀ y ∈ l.take k, (decide (0 ≤ y) && decide (y < most)) = true)) (fun i _ => n2 - (intOf i).toNat)
      case atStart => exact ⟨0, q, Nat.zero_le _, rfl, rfl, fun y hy => by simp at hy⟩
      case round =>
        obtain ⟨k, q2, hk2, rfl, rfl, HT1⟩ := hrel
        by_cases hlt : k < n2
        · have hkl : k < l.length := by rw [HN.out]; exact hlt
          obtain ⟨bk2, o2, rfl, hbk2, hc2⟩ := HG2.out k hkl
          obtain ⟨x, hx⟩ : ∃ x, l[k] = x := ⟨_, rfl⟩
          rw [hx] at hc2
          have HX := Lib.hid hx
          clear hx
          by_cases hx0 : x < 0 ∨ most ≤ x
          · have hbf : b = false := by
              rw [← HBB.out]
              cases hq : lsOk most ls with
              | false => rfl
              | true =>
                have h1 := List.all_eq_true.1 hq _ (List.getElem_mem (show i < ls.length by rw [HL.out]; exact hi))
                rw [HLI.out] at h1
                have h2 := List.all_eq_true.1 h1 _ (List.getElem_mem hkl)
                rw [HX.out] at h2
                simp at h2
                omega
            subst hbf
            clear HX HT HT1 HLI
            by_cases hneg : x < 0
            · have hd : decide (x < 0) = true := decide_eq_true hneg
              clear hx0
              go_wp2
              go_ret
              exact ⟨rfl, _, rfl⟩
            · have hd : decide (x < 0) = false := decide_eq_false hneg
              have hge : most ≤ x := by omega
              have hd2 : decide (most ≤ x) = true := decide_eq_true hge
              clear hx0
              go_wp2
              go_ret
              exact ⟨rfl, _, rfl⟩
          · have HT2 : Hid (∀ y ∈ l.take (k + 1), (decide (0 ≤ y) && decide (y < most)) = true) := fun y hy => by
              rw [List.take_succ_eq_append_getElem hkl, List.mem_append, List.mem_singleton] at hy
              rcases hy with hy | rfl
              · exact HT1.out y hy
              · rw [HX.out]; simp; omega
            have hd : decide (x < 0) = false := decide_eq_false (by omega)
            have hd2 : decide (most ≤ x) = false := decide_eq_false (by omega)
            clear HX HT1 hx0
            go_wp2
            go_roundw
            case rel => exact ⟨k + 1, _, by omega, by go_num, rfl, HT2⟩
            case measure => simp [intOf]; omega
        · have hke : k = n2 := by omega
          subst hke
          have HT3 : Hid (∀ y ∈ ls.take (i + 1), rowOk most y = true) := fun y hy => by
            rw [List.take_succ_eq_append_getElem (show i < ls.length by rw [HL.out]; exact hi), List.mem_append, List.mem_singleton] at hy
            rcases hy with hy | rfl
            · exact HT.out y hy
            · rw [HLI.out]
              have := HT1.out
              rw [← HN.out, List.take_length] at this
              exact List.all_eq_true.2 this
          clear HT HT1 HLI
          go_wp2
          go_roundw
          case rel => exact ⟨i + 1, _, by omega, by go_num, rfl, HT3⟩
          case measure => simp [intOf]; omega
    · have hke : i = len := by omega
      subst hke
      have hbt : b = true := by
        rw [← HBB.out]
        have := HT.out
        rw [← HL.out, List.take_length] at this
        exact List.all_eq_true.2 this
      subst hbt
      clear HT
      go_wp2
      go_ret
      exact ⟨by simp, _, rfl⟩
end Fl
end Go.Proofs.YtbeepedobnaojaaDoor

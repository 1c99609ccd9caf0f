/- Layer 7: a type's own regions, is it copied; the words of texts. -/
import Derived.Test.YtiljpnghahkjhaaDoorTypesB0
namespace Go.Proofs.YtiljpnghahkjhaaDoor
open Go.RowKit Go.Deep Tr
namespace Ts
theorem own_any {n : Nat} {x : Ty} {cs : List Value} {w : World} (h : TyAt w n x cs) : Calls Tryd.prog 45 #[.agg cs.toArray] w fun e w' => ∃ v, e = .returned v ∧ RowI w' v (ownP x) ∧ Below w.heap.size w w' := by
  cases n with
  | zero => exact h.elim
  | succ n =>
    obtain ⟨k, nm, u, r, rs, ar⟩ := x
    obtain ⟨R, cr, A, ca, rfl, ⟨h0, h1⟩, h2⟩ := h
    obtain ⟨lr, hlr⟩ : ∃ n, rs.length = n := ⟨_, rfl⟩
    obtain ⟨la, hla⟩ : ∃ n, ar.length = n := ⟨_, rfl⟩
    have B0 := Lib.hid (box_in w [.int .i64 k, .string nm, .bool u, .int .i64 r, .slice R rs.length cr, .slice A ar.length ca])
    have HR : Hid (RowI (w.alloc (.cells #[.int .i64 k, .string nm, .bool u, .int .i64 r, .slice R rs.length cr, .slice A ar.length ca] 25)) (.slice R rs.length cr) rs) := ⟨R, cr, rfl, h1.below B0.out fun _ _ _ h => h⟩
    rw [hlr, hla] at B0 HR ⊢
    clear h0 h1 h2 hlr hla
    by_cases h5 : k = 5
    · rw [own_5 h5]
      subst h5
      go_enter Tryd.func45, Tryd.ntmps45
      go_wp2
      go_ret
      exact ⟨_, rfl, HR.out, B0.out⟩
    · have e5 : (k == 5) = false := by rw [beq_eq_false_iff_ne]; exact h5
      by_cases h7 : k = 7 ∨ k = 8 ∨ k = 9
      · rw [own_7 h5 h7]
        clear HR
        rcases h7 with rfl | rfl | rfl
        all_goals
          go_enter Tryd.func45, Tryd.ntmps45
          go_wp2
          go_ret
          exact ⟨_, rfl, row_one1 _ _ (by simp) r, B0.out.alloc (by simp) _⟩
      · rw [own_0 h5 h7]
        clear HR
        have e7 : (k == 7) = false := by rw [beq_eq_false_iff_ne]; omega
        have e8 : (k == 8) = false := by rw [beq_eq_false_iff_ne]; omega
        have e9 : (k == 9) = false := by rw [beq_eq_false_iff_ne]; omega
        clear h7 h5
        go_enter Tryd.func45, Tryd.ntmps45
        go_wp2
        go_ret
        exact ⟨_, rfl, RowI.nil _, B0.out⟩
end Ts
end Go.Proofs.YtiljpnghahkjhaaDoor

/- Layer 7: the reference's own regions of a type; rows. -/
import Derived.Test.YtiljpnghahkjhaaDoorHold
import Derived.Test.YtiljpnghahkjhaaDoorTypesA
import Derived.Test.YtiljpnghahkjhaaDoorTypeO
namespace Go.Proofs.YtiljpnghahkjhaaDoor
open Go.RowKit Go.Deep Tr
namespace Ts
theorem own_5 {k : Int} (h : k = 5) (nm : ByteArray) (u : Bool) (r : Int) (rs : List Int) (ar : List Ty) : ownP (.mk k nm u r rs ar) = rs := by rw [ownP, if_pos h]
theorem own_7 {k : Int} (h5 : k ≠ 5) (h : k = 7 ∨ k = 8 ∨ k = 9) (nm : ByteArray) (u : Bool) (r : Int) (rs : List Int) (ar : List Ty) : ownP (.mk k nm u r rs ar) = [r] := by rw [ownP, if_neg h5, if_pos h]
theorem own_0 {k : Int} (h5 : k ≠ 5) (h : ¬(k = 7 ∨ k = 8 ∨ k = 9)) (nm : ByteArray) (u : Bool) (r : Int) (rs : List Int) (ar : List Ty) : ownP (.mk k nm u r rs ar) = [] := by rw [ownP, if_neg h5, if_neg h]
theorem row_lit {w : World} (l : List Int) (hl : l.length ≤ maxLen) : RowI (w.alloc (.cells (intsC l).toArray 3)) (.slice (some ⟨w.heap.size, 0, none⟩) l.length l.length) l := rowI_mk (row_one 3 (intsC l)) hl
theorem row_one1 (w : World) (b : Nat) (hb : w.heap.size = b) (r : Int) : RowI (w.alloc (.cells #[.int .i64 r] 3)) (.slice (some ⟨b, 0, none⟩) 1 1) [r] := by
  rw [← hb]
  exact row_lit [r] (by unfold maxLen; simp)
theorem box_in (w : World) (cs : List Value) : Below w.heap.size w (w.alloc (.cells cs.toArray 25)) := (Below.refl _ w).alloc (Nat.le_refl _) _
theorem info_int : (Tryd.prog.info? 3).map (fun i => (i.zero, i.size, i.bytes)) = some (some (.int .i64 0), 1, 8) := by kernel_rfl
theorem rown_any {n : Nat} {x : Ty} {cs : List Value} {w : World} (h : TyAt w n x cs) : Calls Tryd.prog 33 #[.agg cs.toArray] w fun e w' => ∃ v, e = .returned v ∧ RowI w' v (ownP x) ∧ Below w.heap.size w w' := by
  cases n with
  | zero => exact h.elim
  | succ n =>
    obtain ⟨k, nm, u, r, rs, ar⟩ := x
    obtain ⟨R, cr, A, ca, rfl, ⟨h0, h1⟩, h2⟩ := h
    obtain ⟨lr, hlr⟩ : ∃ n, rs.length = n := ⟨_, rfl⟩
    obtain ⟨la, hla⟩ : ∃ n, ar.length = n := ⟨_, rfl⟩
    have B0 := Lib.hid (box_in w [.int .i64 k, .string nm, .bool u, .int .i64 r, .slice R rs.length cr, .slice A ar.length ca])
    have HR : Hid (RowI (w.alloc (.cells #[.int .i64 k, .string nm, .bool u, .int .i64 r, .slice R rs.length cr, .slice A ar.length ca] 25)) (.slice R rs.length cr) rs) := ⟨R, cr, rfl, h1.below B0.out fun _ _ _ h => h⟩
    rw [hlr, hla] at B0 HR ⊢
    clear h0 h1 h2 hlr hla
    by_cases h5 : k = 5
    · rw [own_5 h5]
      subst h5
      go_enter Tryd.func33, Tryd.ntmps33
      go_wp2
      go_ret
      exact ⟨_, rfl, HR.out, B0.out⟩
    · have e5 : (k == 5) = false := by rw [beq_eq_false_iff_ne]; exact h5
      by_cases h7 : k = 7 ∨ k = 8 ∨ k = 9
      · rw [own_7 h5 h7]
        clear HR
        rcases h7 with rfl | rfl | rfl
        all_goals
          go_enter Tryd.func33, Tryd.ntmps33
          go_wp2
          go_ret
          exact ⟨_, rfl, row_one1 _ _ (by simp) r, B0.out.alloc (by simp) _⟩
      · rw [own_0 h5 h7]
        clear HR
        by_cases hk : 7 ≤ k
        · have hk9 : 9 < k := by omega
          clear h7 h5
          go_enter Tryd.func33, Tryd.ntmps33
          go_wp2
          go_ret
          exact ⟨_, rfl, RowI.nil _, B0.out⟩
        · have hk7 : k < 7 := by omega
          clear h7 h5 hk
          go_enter Tryd.func33, Tryd.ntmps33
          go_wp2
          go_ret
          exact ⟨_, rfl, RowI.nil _, B0.out⟩
end Ts
end Go.Proofs.YtiljpnghahkjhaaDoor

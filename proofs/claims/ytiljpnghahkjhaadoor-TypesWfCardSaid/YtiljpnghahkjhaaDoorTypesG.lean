/- Layer 7: where regions lie: own, slot. -/
import Derived.Test.YtiljpnghahkjhaaDoorTypesF
namespace Go.Proofs.YtiljpnghahkjhaaDoor
open Go.RowKit Go.Deep Tr
namespace Ts
/-- A slice that lies below lo, or from hi on. -/
def Far (lo hi : Nat) (v : Value) : Prop := ∀ bk o n c, v = .slice (some ⟨bk, o, none⟩) n c → 0 < n → bk < lo ∨ hi ≤ bk
theorem far_in {w : World} {A : Option Addr} {c hi : Nat} {l : List Int} (h : ListAt w 1 IntAt A l) : Far w.heap.size hi (.slice A l.length c) := fun bk o n c' e h0 => by
  injection e with e1 e2 e3
  subst e1 e2
  obtain ⟨bk', o', e, hl, _⟩ := int_at h h0
  injection e with e
  injection e with e1 _ _
  subst e1
  exact .inl hl
theorem far_nil {lo hi : Nat} : Far lo hi (.slice none 0 0) := fun bk o n c e _ => by injection e with e _ _; cases e
theorem far_new {lo hi b n c : Nat} (h : hi ≤ b) : Far lo hi (.slice (some ⟨b, 0, none⟩) n c) := fun bk o n' c' e _ => by
  injection e with e _ _
  injection e with e
  injection e with e _ _
  subst e
  exact .inr h
theorem far_of {lo hi : Nat} {v : Value} (h : New hi v) : Far lo hi v := fun bk o n c e _ => .inr (h bk (by rw [e]; rfl))
theorem far_apart {lo hi B : Nat} {W : World} {sz n : Nat} {te : TypeId} {v va : Value} {xs : List Value} (h : Far lo hi va) (ho : W.ownsRow B te sz v n xs) (hlo : lo ≤ B) (hhi : W.heap.size ≤ hi) : Apart v va := fun bk o n' c e h0 e2 => by
  have h1 := ho.lt bk e2
  rcases h bk o n' c e h0 with h2 | h2 <;> omega
theorem own_far {n : Nat} {x : Ty} {cs : List Value} {W0 w : World} (h : TyAt W0 n x cs) (hb : Below W0.heap.size W0 w) : Calls Tryd.prog 45 #[.agg cs.toArray] w fun e w' => ∃ v, e = .returned v ∧ RowI w' v (ownP x) ∧ Below w.heap.size w w' ∧ Far W0.heap.size w.heap.size v := by
  cases n with
  | zero => exact h.elim
  | succ n =>
    obtain ⟨k, nm, u, r, rs, ar⟩ := x
    obtain ⟨R, cr, A, ca, rfl, ⟨h0, h1⟩, h2⟩ := h
    obtain ⟨lr, hlr⟩ : ∃ n, rs.length = n := ⟨_, rfl⟩
    obtain ⟨la, hla⟩ : ∃ n, ar.length = n := ⟨_, rfl⟩
    have B0 := Lib.hid (box_in w [.int .i64 k, .string nm, .bool u, .int .i64 r, .slice R rs.length cr, .slice A ar.length ca])
    have HR : Hid (RowI (w.alloc (.cells #[.int .i64 k, .string nm, .bool u, .int .i64 r, .slice R rs.length cr, .slice A ar.length ca] 25)) (.slice R rs.length cr) rs) := ⟨R, cr, rfl, h1.below (hb.trans (B0.out.mono hb.size)) fun _ _ _ h => h⟩
    have HF : Hid (Far W0.heap.size w.heap.size (.slice R rs.length cr)) := far_in h1
    rw [hlr, hla] at B0 HR ⊢
    rw [hlr] at HF
    clear h0 h1 h2 hlr hla hb
    by_cases h5 : k = 5
    · rw [own_5 h5]
      subst h5
      go_enter Tryd.func45, Tryd.ntmps45
      go_wp2
      go_ret
      exact ⟨_, rfl, HR.out, B0.out, HF.out⟩
    · have e5 : (k == 5) = false := by rw [beq_eq_false_iff_ne]; exact h5
      by_cases h7 : k = 7 ∨ k = 8 ∨ k = 9
      · rw [own_7 h5 h7]
        clear HR HF
        rcases h7 with rfl | rfl | rfl
        all_goals
          go_enter Tryd.func45, Tryd.ntmps45
          go_wp2
          go_ret
          exact ⟨_, rfl, row_one1 _ _ (by simp) r, B0.out.alloc (by simp) _, far_new (Nat.le_succ _)⟩
      · rw [own_0 h5 h7]
        clear HR HF
        have e7 : (k == 7) = false := by rw [beq_eq_false_iff_ne]; omega
        have e8 : (k == 8) = false := by rw [beq_eq_false_iff_ne]; omega
        have e9 : (k == 9) = false := by rw [beq_eq_false_iff_ne]; omega
        clear h7 h5
        go_enter Tryd.func45, Tryd.ntmps45
        go_wp2
        go_ret
        exact ⟨_, rfl, RowI.nil _, B0.out, far_nil⟩
theorem slot_0 (k : Int) (nm : ByteArray) (u : Bool) (r : Int) (rs : List Int) (ar : List Ty) : slotP (.mk k nm u r rs ar) 0 = [0] := by rw [slotP, if_pos rfl]
theorem slot_1 (k : Int) (nm : ByteArray) (u : Bool) (r : Int) (rs : List Int) (ar : List Ty) {j : Nat} (h : j < rs.length) : slotP (.mk k nm u r rs ar) ((j : Int) + 1) = [rs[j]] := by
  rw [slotP, if_neg (by omega), if_pos ⟨by omega, by omega⟩]
  rw [show ((j : Int) + 1 - 1).toNat = j by omega]
  simp [List.getD_eq_getElem?_getD, h]
theorem slot_2 (k : Int) (nm : ByteArray) (u : Bool) (r : Int) (rs : List Int) (ar : List Ty) {j : Nat} (h : j < ar.length) {i : Int} (hi : i = (rs.length : Int) + (j : Int) + 1) : slotP (.mk k nm u r rs ar) i = allP ar[j] := by
  rw [slotP, if_neg (by omega), if_neg (by omega), if_pos ⟨by omega, by omega⟩]
  rw [show (i - rs.length - 1).toNat = j by omega, List.getElem?_eq_getElem h]
theorem slot_3 (k : Int) (nm : ByteArray) (u : Bool) (r : Int) (rs : List Int) (ar : List Ty) {i : Int} (h : i < 0 ∨ (rs.length : Int) + ar.length < i) : slotP (.mk k nm u r rs ar) i = [] := by
  rw [slotP, if_neg (by omega), if_neg (by omega), if_neg (by omega)]
end Ts
end Go.Proofs.YtiljpnghahkjhaaDoor

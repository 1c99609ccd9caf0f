/- Layer 7: lifetimes put in, plain. -/
import Derived.Test.YtiljpnghahkjhaaDoorTypesID
import Derived.Test.YtiljpnghahkjhaaDoorTypesW
namespace Go.Proofs.YtiljpnghahkjhaaDoor
open Tr
namespace Ts
mutual
theorem inst_id {φ : Int → Int} (h : ∀ r, φ r = r) : ∀ x : Ty, instP φ x = x
  | .mk k nm u r rs ar => by
    have e1 : (if k = 9 then r else regM φ k r) = r := by
      unfold regM
      split
      · rfl
      · split
        · exact h r
        · rfl
    have e2 : rowM φ k rs = rs := by
      unfold rowM
      split
      · have : (fun r => φ r) = id := funext h
        show rs.map (fun r => φ r) = rs
        rw [this, List.map_id]
      · rfl
    rw [instP, e1, e2, inst_idL h ar]
theorem inst_idL {φ : Int → Int} (h : ∀ r, φ r = r) : ∀ l : List Ty, instL φ l = l
  | [] => by rw [instL]
  | x :: l => by rw [instL, inst_id h x, inst_idL h l]
end
mutual
theorem inst_two {φ ψ χ : Int → Int} : ∀ x : Ty, (∀ r ∈ allP x, ψ (φ r) = χ r) → instP ψ (instP φ x) = instP χ x
  | .mk k nm u r rs ar => fun h => by
    have ho : ∀ q ∈ ownP (.mk k nm u r rs ar), ψ (φ q) = χ q := fun q hq => h q (by
      show q ∈ gath ownP (.mk k nm u r rs ar)
      rw [gath]
      exact List.mem_append_left _ hq)
    have hl : ∀ q ∈ gathL ownP ar, ψ (φ q) = χ q := fun q hq => h q (by
      show q ∈ gath ownP (.mk k nm u r rs ar)
      rw [gath]
      exact List.mem_append_right _ hq)
    rw [ownP] at ho
    rw [instP, instP, instP, inst_twoL ar hl]
    have e1 : (if k = 9 then (if k = 9 then r else regM φ k r) else regM ψ k (if k = 9 then r else regM φ k r)) = (if k = 9 then r else regM χ k r) := by
      by_cases h9 : k = 9
      · rw [if_pos h9, if_pos h9, if_pos h9]
      · rw [if_neg h9, if_neg h9, if_neg h9]
        unfold regM
        by_cases h7 : k = 7 ∨ k = 8 ∨ k = 9
        · rw [if_pos h7, if_pos h7, if_pos h7]
          rw [if_neg (by omega), if_pos h7] at ho
          exact ho r List.mem_cons_self
        · rw [if_neg h7, if_neg h7, if_neg h7]
    have e2 : rowM ψ k (rowM φ k rs) = rowM χ k rs := by
      unfold rowM
      by_cases h5 : k = 5
      · rw [if_pos h5, if_pos h5, if_pos h5, List.map_map]
        rw [if_pos h5] at ho
        exact List.map_congr_left ho
      · rw [if_neg h5, if_neg h5, if_neg h5]
    rw [e1, e2]
theorem inst_twoL {φ ψ χ : Int → Int} : ∀ l : List Ty, (∀ r ∈ gathL ownP l, ψ (φ r) = χ r) → instL ψ (instL φ l) = instL χ l
  | [], _ => by rw [instL, instL, instL]
  | x :: l, h => by
    rw [gathL] at h
    rw [instL, instL, instL, inst_two x (fun q hq => h q (List.mem_append_left _ hq)), inst_twoL l (fun q hq => h q (List.mem_append_right _ hq))]
end
theorem slim_inst (φ : Int → Int) : ∀ (m : Nat) (x : Ty), Slim m x → Slim m (instP φ x)
  | 0, _, h => h.elim
  | m + 1, .mk k nm u r rs ar, h => by
    obtain ⟨h1, h2, h3, h4⟩ := h
    rw [instP]
    refine ⟨h1, by rw [rowM_len]; exact h2, by rw [instL_map, List.length_map]; exact h3, fun y hy => ?_⟩
    rw [instL_map] at hy
    obtain ⟨z, hz, rfl⟩ := List.mem_map.1 hy
    exact slim_inst φ m z (h4 z hz)
mutual
theorem same_refl : ∀ x : Ty, sameP x x = true
  | .mk k nm u r rs ar => by
    rw [sameP, same_reflL ar, Bool.and_true]
    unfold headP
    simp
theorem same_reflL : ∀ l : List Ty, sameL l l = true
  | [] => by rw [sameL]
  | x :: l => by rw [sameL, same_refl x, same_reflL l]; rfl
end
theorem equal_refl (x : Ty) : equalP x x = true := by unfold equalP; rw [same_refl]; simp
end Ts
end Go.Proofs.YtiljpnghahkjhaaDoor

/- A world of which only some blocks are looked at: what lies in these alone stands while others change. -/
import Derived.Test.YtiljpnghahkjhaaDoorTypeA
namespace Go.Proofs.YtiljpnghahkjhaaDoor
open Go.RowKit Go.Deep
namespace Tr
/-- The world w, of which the blocks outside Q hold nothing. -/
def only (Q : Nat → Bool) (w : World) : World := { w with heap := w.heap.mapIdx fun i o => if Q i then o else .cells #[] 0 (0, 0) }
section
variable {Q Q' : Nat → Bool} {w w' : World}
theorem only_size : (only Q w).heap.size = w.heap.size := by simp [only]
theorem only_in {b : Nat} (h : Q b = true) : (only Q w).heap[b]? = w.heap[b]? := by
  simp only [only, Array.getElem?_mapIdx]
  cases w.heap[b]? <;> simp [h]
theorem only_out {p : Addr} (h : Q p.block = false) : (only Q w).cell? p = none := by
  have e : (only Q w).heap[p.block]? = (w.heap[p.block]?).map fun _ => .cells #[] 0 (0, 0) := by
    simp only [only, Array.getElem?_mapIdx]
    cases w.heap[p.block]? <;> simp [h]
  unfold World.cell?
  rw [e]
  cases w.heap[p.block]? <;> simp
theorem cell_block {p : Addr} (h : w'.heap[p.block]? = w.heap[p.block]?) : w'.cell? p = w.cell? p := by
  unfold World.cell?
  rw [h]
theorem RowAt.cells {A : Option Addr} {xs : List Value} (h : RowAt w A xs) (hs : w.heap.size ≤ w'.heap.size) (hc : ∀ (p : Addr) (u : Value), w.cell? p = some u → w'.cell? p = some u) : RowAt w' A xs := fun h0 => by
  obtain ⟨bk, o, e, hl, hu⟩ := h h0
  exact ⟨bk, o, e, Nat.lt_of_lt_of_le hl hs, fun i u hi => hc _ _ (hu i u hi)⟩
theorem ListAt.cells {α : Type} {sz : Nat} {P P' : α → List Value → Prop} {A : Option Addr} {l : List α} (h : ListAt w sz P A l) (hs : w.heap.size ≤ w'.heap.size) (hc : ∀ (p : Addr) (u : Value), w.cell? p = some u → w'.cell? p = some u)
    (hP : ∀ x ∈ l, ∀ cs, P x cs → P' x cs) : ListAt w' sz P' A l := by
  obtain ⟨xs, h1, h2, h3⟩ := h
  exact ⟨xs, h1, ⟨h2.1.cells hs hc, h2.2⟩, fun i hi => hP _ (List.getElem_mem hi) _ (h3 i hi)⟩
theorem TyAt.cells (hs : w.heap.size ≤ w'.heap.size) (hc : ∀ (p : Addr) (u : Value), w.cell? p = some u → w'.cell? p = some u) : ∀ (n : Nat) (x : Ty) (cs : List Value), TyAt w n x cs → TyAt w' n x cs
  | 0, _, _, h => h
  | n + 1, .mk _ _ _ _ _ _, cs, h => by
    obtain ⟨R, cr, A, ca, e, h1, h2⟩ := h
    exact ⟨R, cr, A, ca, e, ⟨h1.1, h1.2.cells hs hc fun _ _ _ h => h⟩, h2.cells hs hc fun x _ cs h => TyAt.cells hs hc n x cs h⟩
theorem only_sub (hQ : ∀ b, b < w.heap.size → Q b = true → Q' b = true) (_ : w.heap.size ≤ w'.heap.size) (hb : ∀ b, b < w.heap.size → Q b = true → w'.heap[b]? = w.heap[b]?) (p : Addr) (u : Value) (h : (only Q w).cell? p = some u) : (only Q' w').cell? p = some u := by
  cases hq : Q p.block with
  | false => rw [only_out hq] at h; cases h
  | true =>
    rw [cell_block (only_in hq)] at h
    have hl : p.block < w.heap.size := by
      rcases Nat.lt_or_ge p.block w.heap.size with h1 | h1
      · exact h1
      · unfold World.cell? at h
        rw [Array.getElem?_eq_none h1] at h
        cases h
    rw [cell_block (only_in (hQ _ hl hq)), cell_block (hb _ hl hq)]
    exact h
/-- What lies in Q alone lies there, whole. -/
theorem TyAt.whole {n : Nat} {x : Ty} {cs : List Value} (h : TyAt (only Q w) n x cs) : TyAt w n x cs := by
  refine TyAt.cells (Nat.le_of_eq only_size) (fun p u hu => ?_) n x cs h
  cases hq : Q p.block with
  | false => rw [only_out hq] at hu; cases hu
  | true => rw [← cell_block (w := w) (only_in hq)]; exact hu
/-- It stands where these blocks stand, and in more of them. -/
theorem TyAt.kept {n : Nat} {x : Ty} {cs : List Value} (h : TyAt (only Q w) n x cs) (hQ : ∀ b, b < w.heap.size → Q b = true → Q' b = true) (hs : w.heap.size ≤ w'.heap.size) (hb : ∀ b, b < w.heap.size → Q b = true → w'.heap[b]? = w.heap[b]?) : TyAt (only Q' w') n x cs :=
  TyAt.cells (by rw [only_size, only_size]; exact hs) (only_sub hQ hs hb) n x cs h
theorem TyAt.all {n : Nat} {x : Ty} {cs : List Value} (h : TyAt w n x cs) : TyAt (only (fun _ => true) w) n x cs :=
  TyAt.cells (by rw [only_size]; exact Nat.le_refl _) (fun p u hu => by rw [cell_block (only_in rfl)]; exact hu) n x cs h
end
end Tr
end Go.Proofs.YtiljpnghahkjhaaDoor

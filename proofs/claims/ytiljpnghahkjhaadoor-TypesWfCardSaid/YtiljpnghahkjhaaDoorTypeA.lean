/- Types with regions (api.Type) as they lie in memory. -/
import Derived.Test.YtiljpnghahkjhaaDoorRowAt
namespace Go.Proofs.YtiljpnghahkjhaaDoor
open Go.RowKit
namespace Tr
inductive Ty | mk (kind : Int) (name : ByteArray) (uniq : Bool) (region : Int) (regions : List Int) (args : List Ty)
instance : Inhabited Ty := ⟨.mk 0 ⟨#[]⟩ false 0 [] []⟩
def TyAt (w : World) : Nat → Ty → List Value → Prop
  | 0, _, _ => False
  | n + 1, .mk k nm u r rs ar, cs => ∃ R cr A ca, cs = [.int .i64 k, .string nm, .bool u, .int .i64 r, .slice R rs.length cr, .slice A ar.length ca] ∧ ((nm.size ≤ maxLen ∧ rs.length ≤ cr) ∧ ListAt w 1 IntAt R rs) ∧ ListAt w 6 (TyAt w n) A ar
theorem TyAt.below {w w' : World} (hb : Below w.heap.size w w') : ∀ (n : Nat) (x : Ty) (cs : List Value), TyAt w n x cs → TyAt w' n x cs
  | 0, _, _, h => h
  | n + 1, .mk _ _ _ _ _ _, cs, h => by
    obtain ⟨R, cr, A, ca, e, h1, h2⟩ := h
    exact ⟨R, cr, A, ca, e, ⟨h1.1, h1.2.below hb fun _ _ _ h => h⟩, h2.below hb fun x _ cs h => TyAt.below hb n x cs h⟩
theorem TyAt.one {w : World} : ∀ {n : Nat} {x : Ty} {cs : List Value}, TyAt w n x cs → cs.length = 6 ∧ ∀ u ∈ cs, u.oneCell' = true
  | 0, _, _, h => h.elim
  | n + 1, .mk _ _ _ _ _ _, cs, h => by
    obtain ⟨R, cr, A, ca, rfl, _⟩ := h
    exact ⟨rfl, fun u hu => by simp at hu; rcases hu with rfl | rfl | rfl | rfl | rfl | rfl <;> rfl⟩
theorem TyAt.shape {w : World} : ∀ {n : Nat} {x : Ty} {cs : List Value}, TyAt w n x cs → ∃ (k : Int) (nm : ByteArray) (u : Bool) (r : Int) (R : Option Addr) (lr cr : Nat) (A : Option Addr) (la ca : Nat),
    cs = [.int .i64 k, .string nm, .bool u, .int .i64 r, .slice R lr cr, .slice A la ca]
  | 0, _, _, h => h.elim
  | n + 1, .mk _ _ _ _ _ _, cs, h => by
    obtain ⟨R, cr, A, ca, rfl, _⟩ := h
    exact ⟨_, _, _, _, _, _, _, _, _, _, rfl⟩
theorem TyAt.up {w : World} : ∀ (n : Nat) (x : Ty) (cs : List Value), TyAt w n x cs → TyAt w (n + 1) x cs
  | 0, _, _, h => h.elim
  | n + 1, .mk _ _ _ _ _ _, cs, h => by
    obtain ⟨R, cr, A, ca, e, h1, h2⟩ := h
    exact ⟨R, cr, A, ca, e, h1, h2.mono fun x _ cs h => TyAt.up n x cs h⟩
end Tr
end Go.Proofs.YtiljpnghahkjhaaDoor

/- Layer 7: the words of a type's text; is a type copied. -/
import Derived.Test.YtiljpnghahkjhaaDoorTypesS
import Derived.Test.YtiljpnghahkjhaaDoorTypesG
namespace Go.Proofs.YtiljpnghahkjhaaDoor
open Go.RowKit Go.Deep Tr
namespace Ts
def decB (r : Int) : ByteArray := ⟨(Lib.decDigits r.toNat).toArray⟩
theorem dec_small (r : Int) (h0 : 0 ≤ r) (h1 : r < 100) (w : World) : Calls Tryd.prog 58 #[.int .i64 r] w fun e w' => e = .returned (.string (decB r)) ∧ w' = w := by
  have hf := format_small r.toNat (by omega) w
  rw [show ((r.toNat : Nat) : Int) = r by omega] at hf
  have HF := Lib.hid hf
  clear hf
  unfold decB
  go_enter Tryd.func58, Tryd.ntmps58
  go_wp2_with fail
  refine HF.out.mono ?_
  rintro e W1 ⟨rfl, rfl⟩
  go_wp2
  go_ret
  exact ⟨rfl, rfl⟩
def bInt : ByteArray := ⟨#[105, 110, 116]⟩
def bAmp : ByteArray := ⟨#[38]⟩
def wordP (k : Int) : ByteArray := if k = 1 then bInt else ⟨#[]⟩
theorem word_any {w : World} {k : Int} (hk : k = 1 ∨ k = 7) (nm : ByteArray) (u : Bool) (r : Int) (R : Option Addr) (lr cr : Nat) (A : Option Addr) (la ca : Nat) :
    Calls Tryd.prog 56 #[.agg #[.int .i64 k, .string nm, .bool u, .int .i64 r, .slice R lr cr, .slice A la ca]] w fun e w' => e = .returned (.string (wordP k)) ∧ Below w.heap.size w w' := by
  have B0 := Lib.hid (box_in w [.int .i64 k, .string nm, .bool u, .int .i64 r, .slice R lr cr, .slice A la ca])
  rcases hk with rfl | rfl
  · rw [show wordP 1 = ⟨#[105, 110, 116]⟩ from rfl]
    go_enter Tryd.func56, Tryd.ntmps56
    go_wp2
    go_ret
    exact ⟨rfl, B0.out⟩
  · rw [show wordP 7 = ⟨#[]⟩ from rfl]
    go_enter Tryd.func56, Tryd.ntmps56
    go_wp2
    go_ret
    exact ⟨rfl, B0.out⟩
theorem mark_any (w : World) (nm : ByteArray) (u : Bool) (r : Int) (R : Option Addr) (lr cr : Nat) (A : Option Addr) (la ca : Nat) :
    Calls Tryd.prog 57 #[.agg #[.int .i64 7, .string nm, .bool u, .int .i64 r, .slice R lr cr, .slice A la ca]] w fun e w' => e = .returned (.string bAmp) ∧ Below w.heap.size w w' := by
  have B0 := Lib.hid (box_in w [.int .i64 7, .string nm, .bool u, .int .i64 r, .slice R lr cr, .slice A la ca])
  unfold bAmp
  go_enter Tryd.func57, Tryd.ntmps57
  go_wp2
  go_ret
  exact ⟨rfl, B0.out⟩
theorem copies_7 (w : World) (nm : ByteArray) (u : Bool) (r : Int) (R : Option Addr) (lr cr : Nat) (A : Option Addr) (la ca : Nat) :
    Calls Tryd.prog 20 #[.agg #[.int .i64 7, .string nm, .bool u, .int .i64 r, .slice R lr cr, .slice A la ca]] w fun e w' => e = .returned (.bool !u) ∧ Below w.heap.size w w' := by
  have B0 := Lib.hid (box_in w [.int .i64 7, .string nm, .bool u, .int .i64 r, .slice R lr cr, .slice A la ca])
  go_enter Tryd.func20, Tryd.ntmps20
  go_wp2
  go_ret
  exact ⟨rfl, B0.out⟩
end Ts
end Go.Proofs.YtiljpnghahkjhaaDoor

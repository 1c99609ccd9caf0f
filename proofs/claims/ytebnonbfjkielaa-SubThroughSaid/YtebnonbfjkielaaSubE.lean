/- Layer 10: the closure of lookStruct; what the walks say. -/
import Derived.Test.YtebnonbfjkielaaSubD
namespace Go.Proofs.Ytebnonbfjkielaa
open Go.RowKit Go.Deep Tr Ts Vy Mp
namespace Sb
theorem bel_drew {B : Nat} {x y : World} (h : Below B x y) : Below B x y.drew := ⟨h.os, h.tape, h.output, h.size, h.block⟩
/-- What stands for all of a walk: the ways, and where the walk's struct lies. -/
structure Fix (W0 : World) (c : Nat) (o : Value) (W : Ws) : Prop where
  ways : WaysAt W0 o W
  few : ∀ s i, wayOf W s i < 4
  far : W0.heap.size ≤ c
def LookOk (W0 : World) (c B : Nat) (o : Value) (Z : Ws) (n : Nat) : Prop := ∀ (x y : Ty) (cs ds : List Value) (m v : Nat) (W : World) (pv : Value) (L : Ps), TyAt W0 n x cs → TyAt W0 m y ds → sameP x y = true → v < 4 → Below W0.heap.size W0 W → Wlk W c B o pv L → L.length + 2 * (allP x).length ≤ Big →
  Calls Try.prog 19 #[.pointer (some ⟨c, 0, none⟩), .agg cs.toArray, .agg ds.toArray, .int .i64 (v : Int)] W fun e W' => e = .returned (.tuple #[]) ∧ ∃ v', Wlk W' c B o v' (L ++ lookP Z x y v) ∧ Kp 35 (some c) B W W'
def LookSOk (W0 : World) (c B : Nat) (o : Value) (Z : Ws) (n : Nat) : Prop := ∀ (k : Int) (nm : ByteArray) (u : Bool) (r : Int) (rs : List Int) (ar : List Ty) (k' : Int) (nm' : ByteArray) (u' : Bool) (r' : Int) (rs' : List Int) (ar' : List Ty) (cs ds : List Value) (m v : Nat) (W : World) (pv : Value) (L : Ps), TyAt W0 n (.mk k nm u r rs ar) cs → TyAt W0 m (.mk k' nm' u' r' rs' ar') ds → rs.length = rs'.length → sameL ar ar' = true → v < 4 → Below W0.heap.size W0 W → Wlk W c B o pv L → L.length + (2 * rs.length + 2 * (gathL ownP ar).length) ≤ Big →
  Calls Try.prog 22 #[.pointer (some ⟨c, 0, none⟩), .agg cs.toArray, .agg ds.toArray, .int .i64 (v : Int)] W fun e W' => e = .returned (.tuple #[]) ∧ ∃ v', Wlk W' c B o v' (L ++ (regsQ Z nm v 0 rs rs' ++ lookQS Z nm rs.length ar ar' v)) ∧ Kp 35 (some c) B W W'
set_option maxHeartbeats 4000000 in
set_option maxRecDepth 100000 in
theorem in_any {W0 W : World} {c p0 p1 p3 v y : Nat} {o : Value} {nm : ByteArray} (s : Int)
    (HO : Hid (∀ X, Below W0.heap.size W0 X → Calls Try.prog 26 #[o, .string nm, .int .i64 s] X fun e w' => e = .returned (.int .i64 (y : Int)) ∧ X = w')) (hv : v < 4) (hy : y < 4) (hb : Below W0.heap.size W0 W)
    (h3 : W.cell? ⟨p3, 0, none⟩ = some (.int .i64 v)) (h0 : W.cell? ⟨p0, 0, none⟩ = some (.pointer (some ⟨c, 0, none⟩))) (h1 : W.cell? ⟨p1, 1, none⟩ = some (.string nm)) (hc : W.cell? ⟨c, 0, none⟩ = some o) :
    Calls Try.prog 25 #[.int .i64 s, .pointer (some ⟨p3, 0, none⟩), .pointer (some ⟨p0, 0, none⟩), .pointer (some ⟨p1, 0, none⟩)] W fun e w' => e = .returned (.int .i64 (thr v y : Nat)) ∧ Below W.heap.size W w' := by
  have HOW := Lib.hid (HO.out W.drew (bel_drew hb))
  have HT := Lib.hid (through_any (w := W.drew) hv hy)
  have HB : Hid (Below W.heap.size W W.drew) := bel_drew (.refl _ _)
  clear HO hb
  go_enter Try.func25, Try.ntmps25
  go_wp2_with fail
  go_region_held3 (fun w' => w'.cell? ⟨p3, 0, none⟩ = some (.int .i64 v) ∧ w'.cell? ⟨p0, 0, none⟩ = some (.pointer (some ⟨c, 0, none⟩)) ∧ w'.cell? ⟨p1, 1, none⟩ = some (.string nm) ∧ w'.cell? ⟨c, 0, none⟩ = some o)
    (exact ⟨h3, h0, h1, hc⟩)
    (first
    | (go_at_call 26; refine HOW.out.mono ?_; rintro e w' ⟨rfl, rfl⟩)
    | (go_at_call 24; refine HT.out.mono ?_; rintro e w' ⟨rfl, rfl⟩))
  all_goals
    go_wp2
    go_ret
    exact ⟨rfl, HB.out⟩
end Sb
end Go.Proofs.Ytebnonbfjkielaa

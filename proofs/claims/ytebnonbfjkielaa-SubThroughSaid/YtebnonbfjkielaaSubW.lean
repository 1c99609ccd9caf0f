/- Layer 10: three types made one after another, three variables made whenever: the states. -/
import Derived.Test.YtebnonbfjkielaaSubV
import Derived.Test.YtebnonbfjkielaaSubP
namespace Go.Proofs.Ytebnonbfjkielaa
open Go.RowKit Go.Deep Tr Ts Vy Mp
namespace Sb
def zero6 : List Value := [.int .i64 0, .string ⟨#[]⟩, .bool false, .int .i64 0, .slice none 0 0, .slice none 0 0]
def Got (y : Ty) (T : List (Ty × List Value)) (v : Value) : Prop := ∃ (k : Int) (nm : ByteArray) (u : Bool) (r : Int) (R : Option Addr) (lr cr : Nat) (A : Option Addr) (la ca : Nat), v = .agg #[.int .i64 k, .string nm, .bool u, .int .i64 r, .slice R lr cr, .slice A la ca] ∧ (y, [.int .i64 k, .string nm, .bool u, .int .i64 r, .slice R lr cr, .slice A la ca]) ∈ T
def Vrb (c : Cm) (v : Value) : Prop := ∃ p, v = .pointer (some ⟨p, 0, none⟩) ∧ c p = some zero6
structure Grd (V : World) (n : Nat) (y1 y2 y3 : Ty) (j : Nat) (b4 b5 b6 : Bool) (v1 v2 v3 v4 v5 v6 : Value) (c : Cm) (T : List (Ty × List Value)) (w : World) : Prop where
  stt : Stt V n c T w
  g1 : 0 < j → Got y1 T v1
  g2 : 1 < j → Got y2 T v2
  g3 : 2 < j → Got y3 T v3
  x4 : b4 = true → Vrb c v4
  x5 : b5 = true → Vrb c v5
  x6 : b6 = true → Vrb c v6
  n45 : b4 = true → b5 = true → v4 ≠ v5
  n46 : b4 = true → b6 = true → v4 ≠ v6
  n56 : b5 = true → b6 = true → v5 ≠ v6
def GrdX (V : World) (n : Nat) (y1 y2 y3 : Ty) (j : Nat) (b4 b5 b6 : Bool) (v1 v2 v3 v4 v5 v6 : Value) (w : World) : Prop := ∃ c T, Grd V n y1 y2 y3 j b4 b5 b6 v1 v2 v3 v4 v5 v6 c T w
section
variable {V w w' : World} {n j : Nat} {y1 y2 y3 : Ty} {b4 b5 b6 : Bool} {v1 v2 v3 v4 v5 v6 v : Value} {c : Cm} {T : List (Ty × List Value)}
theorem Got.more {y : Ty} {a : Ty × List Value} (h : Got y T v) : Got y (a :: T) v := by
  obtain ⟨k, nm, u, r, R, lr, cr, A, la, ca, e, h⟩ := h
  exact ⟨k, nm, u, r, R, lr, cr, A, la, ca, e, List.mem_cons_of_mem _ h⟩
theorem Grd.first (h : Below V.heap.size V w) : GrdX V n y1 y2 y3 0 false false false v1 v2 v3 v4 v5 v6 w :=
  ⟨_, _, Stt.start h, by simp, by simp, by simp, by simp, by simp, by simp, by simp, by simp, by simp⟩
theorem Grd.call1 {k : Int} {nm : ByteArray} {u : Bool} {r : Int} {R : Option Addr} {lr cr : Nat} {A : Option Addr} {la ca : Nat} (h : Grd V n y1 y2 y3 0 b4 b5 b6 v1 v2 v3 v4 v5 v6 c T w) (st : Stt V n c ((y1, [.int .i64 k, .string nm, .bool u, .int .i64 r, .slice R lr cr, .slice A la ca]) :: T) w') : GrdX V n y1 y2 y3 1 b4 b5 b6 (.agg #[.int .i64 k, .string nm, .bool u, .int .i64 r, .slice R lr cr, .slice A la ca]) v2 v3 v4 v5 v6 w' :=
  ⟨_, _, st, fun _ => ⟨_, _, _, _, _, _, _, _, _, _, rfl, List.mem_cons_self⟩, fun h => absurd h (by decide), fun h => absurd h (by decide), h.x4, h.x5, h.x6, h.n45, h.n46, h.n56⟩
theorem Grd.call2 {k : Int} {nm : ByteArray} {u : Bool} {r : Int} {R : Option Addr} {lr cr : Nat} {A : Option Addr} {la ca : Nat} (h : Grd V n y1 y2 y3 1 b4 b5 b6 v1 v2 v3 v4 v5 v6 c T w) (st : Stt V n c ((y2, [.int .i64 k, .string nm, .bool u, .int .i64 r, .slice R lr cr, .slice A la ca]) :: T) w') : GrdX V n y1 y2 y3 2 b4 b5 b6 v1 (.agg #[.int .i64 k, .string nm, .bool u, .int .i64 r, .slice R lr cr, .slice A la ca]) v3 v4 v5 v6 w' :=
  ⟨_, _, st, fun _ => (h.g1 (by decide)).more, fun _ => ⟨_, _, _, _, _, _, _, _, _, _, rfl, List.mem_cons_self⟩, fun h => absurd h (by decide), h.x4, h.x5, h.x6, h.n45, h.n46, h.n56⟩
theorem Grd.call3 {k : Int} {nm : ByteArray} {u : Bool} {r : Int} {R : Option Addr} {lr cr : Nat} {A : Option Addr} {la ca : Nat} (h : Grd V n y1 y2 y3 2 b4 b5 b6 v1 v2 v3 v4 v5 v6 c T w) (st : Stt V n c ((y3, [.int .i64 k, .string nm, .bool u, .int .i64 r, .slice R lr cr, .slice A la ca]) :: T) w') : GrdX V n y1 y2 y3 3 b4 b5 b6 v1 v2 (.agg #[.int .i64 k, .string nm, .bool u, .int .i64 r, .slice R lr cr, .slice A la ca]) v4 v5 v6 w' :=
  ⟨_, _, st, fun _ => (h.g1 (by decide)).more, fun _ => (h.g2 (by decide)).more, fun _ => ⟨_, _, _, _, _, _, _, _, _, _, rfl, List.mem_cons_self⟩, h.x4, h.x5, h.x6, h.n45, h.n46, h.n56⟩
theorem Vrb.new (c : Cm) (p : Nat) : Vrb (updC c p zero6) (.pointer (some ⟨p, 0, none⟩)) := ⟨p, rfl, updC_same _ _ _⟩
theorem Vrb.keep (h : Vrb c v) (st : Stt V n c T w) : Vrb (updC c w.heap.size zero6) v := by
  obtain ⟨p, e, hp⟩ := h
  have := (st.var p _ hp).2.lt
  exact ⟨p, e, updC_on c (by omega) hp⟩
theorem Vrb.ne (h : Vrb c v) (st : Stt V n c T w) : v ≠ .pointer (some ⟨w.heap.size, 0, none⟩) := by
  obtain ⟨p, rfl, hp⟩ := h
  have := (st.var p _ hp).2.lt
  intro e
  injection e with e
  injection e with e
  injection e with e
  omega
theorem Grd.new4 (h : Grd V n y1 y2 y3 j false b5 b6 v1 v2 v3 v4 v5 v6 c T w) : GrdX V n y1 y2 y3 j true b5 b6 v1 v2 v3 (.pointer (some ⟨w.heap.size, 0, none⟩)) v5 v6 (w.alloc (.cells zero6.toArray 25)) :=
  ⟨_, _, h.stt.alloc zero6, h.g1, h.g2, h.g3, fun _ => Vrb.new _ _, fun e => (h.x5 e).keep h.stt, fun e => (h.x6 e).keep h.stt, fun _ e => ((h.x5 e).ne h.stt).symm, fun _ e => ((h.x6 e).ne h.stt).symm, h.n56⟩
theorem Grd.new5 (h : Grd V n y1 y2 y3 j b4 false b6 v1 v2 v3 v4 v5 v6 c T w) : GrdX V n y1 y2 y3 j b4 true b6 v1 v2 v3 v4 (.pointer (some ⟨w.heap.size, 0, none⟩)) v6 (w.alloc (.cells zero6.toArray 25)) :=
  ⟨_, _, h.stt.alloc zero6, h.g1, h.g2, h.g3, fun e => (h.x4 e).keep h.stt, fun _ => Vrb.new _ _, fun e => (h.x6 e).keep h.stt, fun e _ => (h.x4 e).ne h.stt, h.n46, fun _ e => ((h.x6 e).ne h.stt).symm⟩
theorem Grd.new6 (h : Grd V n y1 y2 y3 j b4 b5 false v1 v2 v3 v4 v5 v6 c T w) : GrdX V n y1 y2 y3 j b4 b5 true v1 v2 v3 v4 v5 (.pointer (some ⟨w.heap.size, 0, none⟩)) (w.alloc (.cells zero6.toArray 25)) :=
  ⟨_, _, h.stt.alloc zero6, h.g1, h.g2, h.g3, fun e => (h.x4 e).keep h.stt, fun e => (h.x5 e).keep h.stt, fun _ => Vrb.new _ _, h.n45, fun e _ => (h.x4 e).ne h.stt, fun e _ => (h.x5 e).ne h.stt⟩
end
end Sb
end Go.Proofs.Ytebnonbfjkielaa

/- Layer 10: types made one after another, while variables for them are made and written. -/
import Derived.Deep.DeepCutAuto
import Derived.Test.YtebnonbfjkielaaSubC0
import Derived.Test.YtebnonbfjkielaaSubK
namespace Go.Proofs.Ytebnonbfjkielaa
open Go.RowKit Go.Deep Tr Ts Vy Mp
namespace Sb
abbrev Cm := Nat → Option (List Value)
def updC (c : Cm) (p : Nat) (l : List Value) : Cm := fun b => if b = p then some l else c b
theorem updC_same (c : Cm) (p : Nat) (l : List Value) : updC c p l p = some l := if_pos rfl
theorem updC_other (c : Cm) {p b : Nat} (h : b ≠ p) (l : List Value) : updC c p l b = c b := if_neg h
def qC (c : Cm) (b : Nat) : Bool := (c b).isNone
/-- c: variables (blocks) that were made since V, with what they hold; T: types that were made, apart from these. -/
structure Stt (V : World) (n : Nat) (c : Cm) (T : List (Ty × List Value)) (w : World) : Prop where
  bel : Below V.heap.size V w
  var : ∀ p l, c p = some l → V.heap.size ≤ p ∧ Is w p 25 l.toArray
  tree : ∀ y ds, (y, ds) ∈ T → TyAt (only (qC c) w) n y ds
section
variable {V w W' : World} {n : Nat} {c : Cm} {T : List (Ty × List Value)}
theorem Stt.start (h : Below V.heap.size V w) : Stt V n (fun _ => none) [] w := ⟨h, fun _ _ h => (by cases h), fun _ _ h => (by cases h)⟩
theorem Stt.drew (h : Stt V n c T w) : Stt V n c T w.drew :=
  ⟨⟨h.bel.os, h.bel.tape, h.bel.output, h.bel.size, h.bel.block⟩, h.var, fun y ds hy => (h.tree y ds hy).kept (fun _ _ hq => hq) (Nat.le_refl _) (fun _ _ _ => rfl)⟩
theorem Stt.alloc (h : Stt V n c T w) (l : List Value) : Stt V n (updC c w.heap.size l) T (w.alloc (.cells l.toArray 25)) := by
  refine ⟨h.bel.alloc h.bel.size _, fun p m e => ?_, fun y ds hy => ?_⟩
  · by_cases hp : p = w.heap.size
    · subst hp
      rw [updC_same] at e
      injection e with e
      subst e
      exact ⟨h.bel.size, Is.made w _ _⟩
    · rw [updC_other _ hp] at e
      obtain ⟨h1, h2⟩ := h.var p m e
      exact ⟨h1, h2.alloc _⟩
  · refine (h.tree y ds hy).kept (fun b hb hq => ?_) (by simp) (fun b hb _ => Below.heap_alloc w _ b hb)
    unfold qC at hq ⊢
    rw [updC_other _ (by omega)]
    exact hq
theorem Stt.put (h : Stt V n c T w) {p : Nat} {u0 u1 u2 u3 u4 u5 : Value} (hp : c p = some [u0, u1, u2, u3, u4, u5]) (v0 v1 v2 v3 v4 v5 : Value) :
    Stt V n (updC c p [v0, v1, v2, v3, v4, v5]) T ((((((w.setCell ⟨p, 0, none⟩ v0).setCell ⟨p, 1, none⟩ v1).setCell ⟨p, 2, none⟩ v2).setCell ⟨p, 3, none⟩ v3).setCell ⟨p, 4, none⟩ v4).setCell ⟨p, 5, none⟩ v5) := by
  obtain ⟨h1, h2⟩ := h.var p _ hp
  have hbut : But p w ((((((w.setCell ⟨p, 0, none⟩ v0).setCell ⟨p, 1, none⟩ v1).setCell ⟨p, 2, none⟩ v2).setCell ⟨p, 3, none⟩ v3).setCell ⟨p, 4, none⟩ v4).setCell ⟨p, 5, none⟩ v5) :=
    ((((((But.refl p w).put 0 v0).put 1 v1).put 2 v2).put 3 v3).put 4 v4).put 5 v5
  have his : Is ((((((w.setCell ⟨p, 0, none⟩ v0).setCell ⟨p, 1, none⟩ v1).setCell ⟨p, 2, none⟩ v2).setCell ⟨p, 3, none⟩ v3).setCell ⟨p, 4, none⟩ v4).setCell ⟨p, 5, none⟩ v5) p 25 #[v0, v1, v2, v3, v4, v5] :=
    (((((h2.put 0 v0).put 1 v1).put 2 v2).put 3 v3).put 4 v4).put 5 v5
  refine ⟨h.bel.trans ((hbut.below h1).mono (Nat.le_refl _)), fun q m e => ?_, fun y ds hy => ?_⟩
  · by_cases hq : q = p
    · subst hq
      rw [updC_same] at e
      injection e with e
      subst e
      exact ⟨h1, his⟩
    · rw [updC_other _ hq] at e
      obtain ⟨h3, h4⟩ := h.var q m e
      exact ⟨h3, hbut.is h4 hq⟩
  · refine (h.tree y ds hy).kept (fun b _ hq => ?_) (Nat.le_of_eq hbut.size.symm) (fun b _ hq => hbut.block b (fun e => ?_))
    · unfold qC at hq ⊢
      by_cases hb : b = p
      · subst hb
        rw [hp] at hq
        cases hq
      · rw [updC_other _ hb]
        exact hq
    · subst e
      unfold qC at hq
      rw [hp] at hq
      cases hq
theorem Stt.call {y : Ty} {ds : List Value} (h : Stt V n c T w) (ht : TyAt (only (qW V.heap.size w.heap.size) W') n y ds) (hb : Below w.heap.size w W') : Stt V n c ((y, ds) :: T) W' := by
  refine ⟨h.bel.trans (hb.mono h.bel.size), fun p m e => ?_, fun z es hz => ?_⟩
  · obtain ⟨h1, h2⟩ := h.var p m e
    exact ⟨h1, h2.below hb h2.lt⟩
  · rcases List.mem_cons.1 hz with e | hz
    · injection e with e1 e2
      subst e1 e2
      refine ht.kept (fun b hb1 hq => ?_) (Nat.le_refl _) (fun _ _ _ => rfl)
      unfold qC
      cases hc : c b with
      | none => rfl
      | some m =>
        obtain ⟨h1, h2⟩ := h.var b m hc
        have := h2.lt
        simp only [qW, Bool.or_eq_true, decide_eq_true_eq] at hq
        omega
    · exact (h.tree z es hz).kept (fun _ _ hq => hq) hb.size (fun b hb1 _ => hb.block b hb1)
theorem updC_at (c : Cm) {p b : Nat} (l : List Value) (h : b = p) : updC c p l b = some l := if_pos h
theorem updC_on (c : Cm) {p b : Nat} {l m : List Value} (h : b ≠ p) (k : c b = some m) : updC c p l b = some m := (updC_other c h l).trans k
/-- A call that makes a type, where variables stand about. -/
theorem call_stt {y : Ty} {f : Nat} {args : Array Value} {K : Ending → World → Prop} (hs : Stt V n c T w)
    (HR : ∀ V', Below V.heap.size V V' → Calls Try.prog f args V' fun e W' => ∃ ds : List Value, e = .returned (.agg ds.toArray) ∧ TyAt (only (qW V.heap.size V'.heap.size) W') n y ds ∧ Below V'.heap.size V' W')
    (k : ∀ (k : Int) (nm : ByteArray) (u : Bool) (r : Int) (R : Option Addr) (lr cr : Nat) (A : Option Addr) (la ca : Nat) (W' : World), w.heap.size ≤ W'.heap.size → Stt V n c ((y, [.int .i64 k, .string nm, .bool u, .int .i64 r, .slice R lr cr, .slice A la ca]) :: T) W' → K (.returned (.agg #[.int .i64 k, .string nm, .bool u, .int .i64 r, .slice R lr cr, .slice A la ca])) W') : Calls Try.prog f args w K :=
  (HR w hs.bel).mono fun e W' ⟨ds, he, ht, hb⟩ => by
    obtain ⟨k', nm, u, r, R, lr, cr, A, la, ca, rfl⟩ := ht.shape
    subst he
    exact k k' nm u r R lr cr A la ca W' hb.size (hs.call ht hb)
/-- What is wanted behind two of them. -/
def Two (V : World) (n : Nat) (y1 y2 : Ty) (s5 s6 : Value) (wx : World) : Prop := ∃ p q d1 d2, s5 = .pointer (some ⟨p, 0, none⟩) ∧ s6 = .pointer (some ⟨q, 0, none⟩) ∧ Below V.heap.size V wx ∧ (Is wx p 25 (List.toArray d1) ∧ TyAt wx n y1 d1) ∧ Is wx q 25 (List.toArray d2) ∧ TyAt wx n y2 d2
theorem Stt.two {y1 y2 : Ty} {d1 d2 : List Value} (h : Stt V n c T w) {p q : Nat} (hp : c p = some d1) (hq : c q = some d2) (h1 : (y1, d1) ∈ T) (h2 : (y2, d2) ∈ T) : Two V n y1 y2 (.pointer (some ⟨p, 0, none⟩)) (.pointer (some ⟨q, 0, none⟩)) w :=
  ⟨p, q, d1, d2, rfl, rfl, h.bel, ⟨(h.var p _ hp).2, (h.tree y1 d1 h1).whole⟩, (h.var q _ hq).2, (h.tree y2 d2 h2).whole⟩
theorem Stt.got (h : Stt V n c T w) (p : Nat) (l : List Value) (X : Prop) (hc : c p = some l) (k : Is w p 25 l.toArray → X) : X := k (h.var p l hc).2
theorem size_al (w : World) (o : Obj) : (w.alloc o).heap.size = w.heap.size + 1 := by simp
theorem size_set6 (w : World) (p0 p1 p2 p3 p4 p5 : Addr) (v0 v1 v2 v3 v4 v5 : Value) : ((((((w.setCell p0 v0).setCell p1 v1).setCell p2 v2).setCell p3 v3).setCell p4 v4).setCell p5 v5).heap.size = w.heap.size := by simp [World.setCell]
theorem bel_al (h : Below V.heap.size V w) (o : Obj) : Below V.heap.size V (w.alloc o) := h.alloc h.size o
end
end Sb
end Go.Proofs.Ytebnonbfjkielaa

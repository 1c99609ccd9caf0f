/- Layer 8, plain: what fields say of slots; ways of structs; the least that hold. -/
import Derived.Test.YtebnonbfjkielaaTypeA
namespace Go.Proofs.Ytebnonbfjkielaa
namespace Vy
open Tr (Ty)
/-- What is said by a: is all of it said by b? -/
def Sub (a b : Nat) : Prop := a ||| b = b
def thr (a b : Nat) : Nat := if a = 0 then 0 else if b = 0 then 0 else if a = 1 then b else if a = 3 then 3 else if b = 3 then 3 else if a = b then 1 else 2
theorem thr_lt {a b : Nat} (hb : b < 4) : thr a b < 4 := by
  unfold thr
  repeat' split
  all_goals omega
theorem thr_fin : ∀ a b a' b' : Fin 4, a.1 ||| a'.1 = a'.1 → b.1 ||| b'.1 = b'.1 → thr a.1 b.1 ||| thr a'.1 b'.1 = thr a'.1 b'.1 := by decide +kernel
theorem thr_sub {a b a' b' : Nat} (ha : a < 4) (hb : b < 4) (ha' : a' < 4) (hb' : b' < 4) (h : Sub a a') (k : Sub b b') : Sub (thr a b) (thr a' b') := thr_fin ⟨a, ha⟩ ⟨b, hb⟩ ⟨a', ha'⟩ ⟨b', hb'⟩ h k
theorem Sub.refl (a : Nat) : Sub a a := Nat.or_self a
theorem Sub.trans {a b c : Nat} (h : Sub a b) (k : Sub b c) : Sub a c := by
  unfold Sub at *
  rw [← k, ← Nat.or_assoc, h]
theorem sub_or {a b : Nat} : Sub a (a ||| b) := by unfold Sub; rw [← Nat.or_assoc, Nat.or_self]
theorem or_sub {a b a' b' : Nat} (h : Sub a a') (k : Sub b b') : Sub (a ||| b) (a' ||| b') := by
  unfold Sub at *
  rw [show a ||| b ||| (a' ||| b') = (a ||| a') ||| (b ||| b') by rw [Nat.or_assoc, Nat.or_assoc, ← Nat.or_assoc b, Nat.or_comm b a', Nat.or_assoc a' b], h, k]
theorem or_lt {a b : Nat} (ha : a < 4) (hb : b < 4) : a ||| b < 4 := Nat.or_lt_two_pow (n := 2) ha hb
theorem Sub.le {a b : Nat} (h : Sub a b) : a ≤ b := by unfold Sub at h; rw [← h]; exact Nat.left_le_or
theorem Sub.zero (b : Nat) : Sub 0 b := Nat.zero_or b
theorem Sub.three {a : Nat} (h : a < 4) : Sub a 3 := by
  have : ∀ a : Fin 4, a.1 ||| 3 = 3 := by decide +kernel
  exact this ⟨a, h⟩
/-! Rows of ways. -/
def SubL (a b : List Nat) : Prop := a.length = b.length ∧ ∀ i, Sub (a.getD i 0) (b.getD i 0)
def Few (a : List Nat) : Prop := ∀ i, a.getD i 0 < 4
theorem SubL.refl (a : List Nat) : SubL a a := ⟨rfl, fun _ => .refl _⟩
theorem SubL.trans {a b c : List Nat} (h : SubL a b) (k : SubL b c) : SubL a c := ⟨h.1.trans k.1, fun i => (h.2 i).trans (k.2 i)⟩
def orAt (l : List Nat) (i v : Nat) : List Nat := l.set i (l.getD i 0 ||| v)
theorem orAt_length (l : List Nat) (i v : Nat) : (orAt l i v).length = l.length := by simp [orAt]
theorem orAt_get (l : List Nat) (i v j : Nat) : (orAt l i v).getD j 0 = if j = i ∧ j < l.length then l.getD j 0 ||| v else l.getD j 0 := by
  unfold orAt
  simp only [List.getD_eq_getElem?_getD, List.getElem?_set]
  by_cases h : i = j
  · subst h
    by_cases hl : i < l.length
    · simp [hl]
    · simp [hl]
  · have : ¬(j = i) := fun e => h e.symm
    simp [h, this]
theorem orAt_few {l : List Nat} {i v : Nat} (h : Few l) (hv : v < 4) : Few (orAt l i v) := fun j => by
  rw [orAt_get]
  split
  · exact or_lt (h j) hv
  · exact h j
theorem orAt_more (l : List Nat) (i v : Nat) : SubL l (orAt l i v) := ⟨(orAt_length _ _ _).symm, fun j => by
  rw [orAt_get]
  split
  · exact sub_or
  · exact .refl _⟩
theorem orAt_sub {l m : List Nat} {i v u : Nat} (h : SubL l m) (k : Sub v u) : SubL (orAt l i v) (orAt m i u) := ⟨by rw [orAt_length, orAt_length, h.1], fun j => by
  rw [orAt_get, orAt_get, h.1]
  split
  · exact or_sub (h.2 j) k
  · exact h.2 j⟩
/-! Ways of structs. -/
abbrev Ws := ByteArray → Option (List Nat)
def wayOf (W : Ws) (nm : ByteArray) (i : Nat) : Nat := match W nm with | none => 3 | some l => l.getD i 3
structure WSub (W W' : Ws) : Prop where
  few : ∀ nm i, wayOf W nm i < 4
  few' : ∀ nm i, wayOf W' nm i < 4
  sub : ∀ nm i, Sub (wayOf W nm i) (wayOf W' nm i)
def lifeP (k : Nat) (r : Int) (v : Nat) (cur : List Nat) : List Nat := if 1 ≤ r ∧ r ≤ k then orAt cur (r - 1).toNat v else cur
def paramP (f : ByteArray → Option Nat) (nm : ByteArray) (v : Nat) (cur : List Nat) : List Nat := match f nm with | none => cur | some i => orAt cur i v
def regsP (W : Ws) (k : Nat) (nm : ByteArray) (v : Nat) : Nat → List Int → List Nat → List Nat
  | _, [], cur => cur
  | i, r :: l, cur => regsP W k nm v (i + 1) l (lifeP k r (thr v (wayOf W nm i)) cur)
mutual
def look (W : Ws) (k : Nat) (f : ByteArray → Option Nat) : Ty → Nat → List Nat → List Nat
  | .mk kd nm u r rs ar, v, cur =>
    if kd = 5 then lookS W k f nm rs.length ar v (regsP W k nm v 0 rs cur)
    else if kd = 7 then lookL W k f ar (if u then thr v 3 else v) (lifeP k r v cur)
    else if kd = 8 then lookL W k f ar v (lifeP k r v cur)
    else if kd = 9 then lookL W k f ar v (paramP f nm v cur)
    else lookL W k f ar v cur
def lookL (W : Ws) (k : Nat) (f : ByteArray → Option Nat) : List Ty → Nat → List Nat → List Nat
  | [], _, cur => cur
  | x :: l, v, cur => lookL W k f l v (look W k f x v cur)
def lookS (W : Ws) (k : Nat) (f : ByteArray → Option Nat) (nm : ByteArray) : Nat → List Ty → Nat → List Nat → List Nat
  | _, [], _, cur => cur
  | i, x :: l, v, cur => lookS W k f nm (i + 1) l v (look W k f x (thr v (wayOf W nm i)) cur)
end
/-- What all of these steps keep: lengths, numbers below 4; they say no less; with more they say no less. -/
structure Step (g g' : List Nat → List Nat) : Prop where
  len : ∀ l, (g l).length = l.length
  few : ∀ l, Few l → Few (g l)
  more : ∀ l, SubL l (g l)
  sub : ∀ l m, SubL l m → SubL (g l) (g' m)
theorem Step.comp {g g' h h' : List Nat → List Nat} (a : Step g g') (b : Step h h') : Step (fun l => h (g l)) (fun l => h' (g' l)) :=
  ⟨fun _ => (b.len _).trans (a.len _), fun l f => b.few _ (a.few l f), fun l => (a.more l).trans (b.more _), fun _ _ k => b.sub _ _ (a.sub _ _ k)⟩
theorem Step.id : Step (fun l => l) (fun l => l) := ⟨fun _ => rfl, fun _ h => h, fun _ => .refl _, fun _ _ h => h⟩
theorem step_life (k : Nat) (r : Int) {v u : Nat} (hv : v < 4) (h : Sub v u) : Step (lifeP k r v) (lifeP k r u) := by
  unfold lifeP
  split
  · exact ⟨fun l => orAt_length _ _ _, fun l f => orAt_few f hv, fun l => orAt_more _ _ _, fun l m g => orAt_sub g h⟩
  · exact .id
theorem step_param (f : ByteArray → Option Nat) (nm : ByteArray) {v u : Nat} (hv : v < 4) (h : Sub v u) : Step (paramP f nm v) (paramP f nm u) := by
  unfold paramP
  split
  · exact .id
  · exact ⟨fun l => orAt_length _ _ _, fun l f => orAt_few f hv, fun l => orAt_more _ _ _, fun l m g => orAt_sub g h⟩
theorem step_regs {W W' : Ws} (hW : WSub W W') (k : Nat) (nm : ByteArray) {v u : Nat} (hv : v < 4) (hu : u < 4) (h : Sub v u) : ∀ (l : List Int) (i : Nat), Step (regsP W k nm v i l) (regsP W' k nm u i l)
  | [], _ => .id
  | r :: l, i => by
    show Step (fun cur => regsP W k nm v (i + 1) l (lifeP k r (thr v (wayOf W nm i)) cur)) (fun cur => regsP W' k nm u (i + 1) l (lifeP k r (thr u (wayOf W' nm i)) cur))
    exact (step_life k r (thr_lt (hW.few nm i)) (thr_sub hv (hW.few nm i) hu (hW.few' nm i) h (hW.sub nm i))).comp (step_regs hW k nm hv hu h l (i + 1))
mutual
theorem step_look {W W' : Ws} (hW : WSub W W') (k : Nat) (f : ByteArray → Option Nat) : ∀ (x : Ty) {v u : Nat}, v < 4 → u < 4 → Sub v u → Step (look W k f x v) (look W' k f x u)
  | .mk kd nm un r rs ar, v, u, hv, hu, h => by
    by_cases h5 : kd = 5
    · have e : ∀ (W : Ws) v, look W k f (.mk kd nm un r rs ar) v = fun cur => lookS W k f nm rs.length ar v (regsP W k nm v 0 rs cur) := fun W v => by
        funext cur; rw [look, if_pos h5]
      rw [e, e]
      exact (step_regs hW k nm hv hu h rs 0).comp (step_lookS hW k f nm ar rs.length hv hu h)
    by_cases h7 : kd = 7
    · have e : ∀ (W : Ws) v, look W k f (.mk kd nm un r rs ar) v = fun cur => lookL W k f ar (if un then thr v 3 else v) (lifeP k r v cur) := fun W v => by
        funext cur; rw [look, if_neg h5, if_pos h7]
      rw [e, e]
      have h1 : (if un = true then thr v 3 else v) < 4 := by split; exact thr_lt (by decide); exact hv
      have h2 : (if un = true then thr u 3 else u) < 4 := by split; exact thr_lt (by decide); exact hu
      have h3 : Sub (if un = true then thr v 3 else v) (if un = true then thr u 3 else u) := by
        split
        · exact thr_sub hv (by decide) hu (by decide) h (.refl _)
        · exact h
      exact (step_life k r hv h).comp (step_lookL hW k f ar h1 h2 h3)
    by_cases h8 : kd = 8
    · have e : ∀ (W : Ws) v, look W k f (.mk kd nm un r rs ar) v = fun cur => lookL W k f ar v (lifeP k r v cur) := fun W v => by
        funext cur; rw [look, if_neg h5, if_neg h7, if_pos h8]
      rw [e, e]
      exact (step_life k r hv h).comp (step_lookL hW k f ar hv hu h)
    by_cases h9 : kd = 9
    · have e : ∀ (W : Ws) v, look W k f (.mk kd nm un r rs ar) v = fun cur => lookL W k f ar v (paramP f nm v cur) := fun W v => by
        funext cur; rw [look, if_neg h5, if_neg h7, if_neg h8, if_pos h9]
      rw [e, e]
      exact (step_param f nm hv h).comp (step_lookL hW k f ar hv hu h)
    have e : ∀ (W : Ws) v, look W k f (.mk kd nm un r rs ar) v = fun cur => lookL W k f ar v cur := fun W v => by
      funext cur; rw [look, if_neg h5, if_neg h7, if_neg h8, if_neg h9]
    rw [e, e]
    exact step_lookL hW k f ar hv hu h
theorem step_lookL {W W' : Ws} (hW : WSub W W') (k : Nat) (f : ByteArray → Option Nat) : ∀ (l : List Ty) {v u : Nat}, v < 4 → u < 4 → Sub v u → Step (lookL W k f l v) (lookL W' k f l u)
  | [], v, u, _, _, _ => by
    have e : ∀ (W : Ws) v, lookL W k f [] v = fun l => l := fun W v => by funext cur; rw [lookL]
    rw [e, e]
    exact .id
  | x :: l, v, u, hv, hu, h => by
    have e : ∀ (W : Ws) v, lookL W k f (x :: l) v = fun cur => lookL W k f l v (look W k f x v cur) := fun W v => by funext cur; rw [lookL]
    rw [e, e]
    exact (step_look hW k f x hv hu h).comp (step_lookL hW k f l hv hu h)
theorem step_lookS {W W' : Ws} (hW : WSub W W') (k : Nat) (f : ByteArray → Option Nat) (nm : ByteArray) : ∀ (l : List Ty) (i : Nat) {v u : Nat}, v < 4 → u < 4 → Sub v u → Step (lookS W k f nm i l v) (lookS W' k f nm i l u)
  | [], i, v, u, _, _, _ => by
    have e : ∀ (W : Ws) v, lookS W k f nm i [] v = fun l => l := fun W v => by funext cur; rw [lookS]
    rw [e, e]
    exact .id
  | x :: l, i, v, u, hv, hu, h => by
    have e : ∀ (W : Ws) v, lookS W k f nm i (x :: l) v = fun cur => lookS W k f nm (i + 1) l v (look W k f x (thr v (wayOf W nm i)) cur) := fun W v => by funext cur; rw [lookS]
    rw [e, e]
    exact (step_look hW k f x (thr_lt (hW.few nm i)) (thr_lt (hW.few' nm i)) (thr_sub hv (hW.few nm i) hu (hW.few' nm i) h (hW.sub nm i))).comp (step_lookS hW k f nm l (i + 1) hv hu h)
end
theorem lookL_append (W : Ws) (k : Nat) (f : ByteArray → Option Nat) : ∀ (l m : List Ty) (v : Nat) (cur : List Nat), lookL W k f (l ++ m) v cur = lookL W k f m v (lookL W k f l v cur)
  | [], m, v, cur => by rw [List.nil_append, lookL]
  | x :: l, m, v, cur => by rw [List.cons_append, lookL, lookL, lookL_append W k f l m]
end Vy
end Go.Proofs.Ytebnonbfjkielaa

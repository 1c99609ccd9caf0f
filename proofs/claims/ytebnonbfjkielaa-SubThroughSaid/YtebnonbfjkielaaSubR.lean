/- Layer 10: what is known of types with regions of a list. -/
import Derived.Test.YtebnonbfjkielaaSubP
import Derived.Laws.Bits64b
namespace Go.Proofs.Ytebnonbfjkielaa
open Go.RowKit Go.Deep Tr Ts Vy Mp
namespace Sb
theorem head_mid {k k1 k2 : Int} {a a1 a2 : ByteArray} {u u1 u2 : Bool} {n n1 n2 : Nat} (h : headP k a u n k1 a1 u1 n1 = true) (g : headP k a u n k2 a2 u2 n2 = true) : headP k1 a1 u1 n1 k2 a2 u2 n2 = true := by
  obtain ⟨rfl, rfl, rfl, h5⟩ := head_true h
  obtain ⟨rfl, rfl, rfl, g5⟩ := head_true g
  exact decide_eq_true ⟨rfl, rfl, rfl, fun e => (h5 e).symm.trans (g5 e)⟩
mutual
theorem same_mid : ∀ {x y z : Ty}, sameP x y = true → sameP x z = true → sameP y z = true
  | .mk _ _ _ _ _ _, .mk _ _ _ _ _ _, .mk _ _ _ _ _ _, h, g => by
    rw [sameP, Bool.and_eq_true] at h g ⊢
    exact ⟨head_mid h.1 g.1, same_midL h.2 g.2⟩
theorem same_midL : ∀ {l m o : List Ty}, sameL l m = true → sameL l o = true → sameL m o = true
  | [], [], [], _, _ => by rw [sameL]
  | x :: l, y :: m, z :: o, h, g => by
    rw [sameL, Bool.and_eq_true] at h g ⊢
    exact ⟨same_mid h.1 g.1, same_midL h.2 g.2⟩
  | [], _ :: _, _, h, _ => by rw [sameL] at h; cases h
  | _ :: _, [], _, h, _ => by rw [sameL] at h; cases h
  | [], [], _ :: _, _, g => by rw [sameL] at g; cases g
  | _ :: _, _ :: _, [], _, g => by rw [sameL] at g; cases g
end
mutual
theorem ways_same {W : Ws} : ∀ {x y : Ty}, sameP x y = true → ∀ v, waysP W x v = waysP W y v
  | .mk k nm u r rs ar, .mk k' nm' u' r' rs' ar', h, v => by
    rw [sameP, Bool.and_eq_true] at h
    obtain ⟨rfl, rfl, rfl, h5⟩ := head_true h.1
    rw [waysP, waysP]
    by_cases e5 : k = 5
    · rw [if_pos e5, if_pos e5, h5 e5, ways_sameS nm h.2]
    · rw [if_neg e5, if_neg e5, ways_sameL h.2, ways_sameL h.2]
theorem ways_sameL {W : Ws} : ∀ {l m : List Ty}, sameL l m = true → ∀ v, waysQL W l v = waysQL W m v
  | [], [], _, _ => rfl
  | x :: l, y :: m, h, v => by
    rw [sameL, Bool.and_eq_true] at h
    rw [waysQL, waysQL, ways_same h.1, ways_sameL h.2]
  | [], _ :: _, h, _ => by rw [sameL] at h; cases h
  | _ :: _, [], h, _ => by rw [sameL] at h; cases h
theorem ways_sameS {W : Ws} (nm : ByteArray) : ∀ {l m : List Ty}, sameL l m = true → ∀ q v, waysQS W nm q l v = waysQS W nm q m v
  | [], [], _, _, _ => rfl
  | x :: l, y :: m, h, q, v => by
    rw [sameL, Bool.and_eq_true] at h
    rw [waysQS, waysQS, ways_same h.1, ways_sameS nm h.2]
  | [], _ :: _, h, _, _ => by rw [sameL] at h; cases h
  | _ :: _, [], h, _, _ => by rw [sameL] at h; cases h
end
/-- A type with regions as they come of a list. -/
structure Reg (x y : Ty) (X : List Int) : Prop where
  same : sameP x y = true
  all : allP y = regsOf X (allP x).length
theorem reg_of (x : Ty) (X : List Int) : Reg x (withP x (regsOf X (allP x).length)) X := by
  obtain ⟨h1, h2⟩ := with_all x (regsOf X (allP x).length) (by rw [regsOf_length]; exact Nat.le_refl _)
  exact ⟨h1, by rw [h2, List.take_of_length_le (by rw [regsOf_length]; exact Nat.le_refl _)]⟩
theorem Reg.len {x y : Ty} {X : List Int} (h : Reg x y X) : (allP y).length = (allP x).length := by rw [h.all, regsOf_length]
theorem Reg.range {x y : Ty} {X : List Int} (h : Reg x y X) : ∀ r ∈ allP y, 0 ≤ r ∧ r < 8 := by rw [h.all]; exact regsOf_range _ _
theorem Reg.big {x y : Ty} {X : List Int} (h : Reg x y X) (hs : Slim 6 x) : 2 * (allP y).length ≤ Big := by rw [h.len]; exact all_big hs
theorem zipS_in : ∀ (ws : List Nat) (l m : List Int), (∀ r ∈ l, 0 ≤ r ∧ r < 8) → (∀ r ∈ m, 0 ≤ r ∧ r < 8) → InR (zipS ws l m)
  | [], _, _, _, _ => by rw [zipS]; exact fun _ h => (by cases h)
  | _ :: _, [], _, _, _ => by rw [zipS]; exact fun _ h => (by cases h)
  | _ :: _, _ :: _, [], _, _ => by rw [zipS]; exact fun _ h => (by cases h)
  | w :: ws, x :: l, y :: m, h, k => by
    rw [zipS]
    intro p hp
    have hx := h x List.mem_cons_self
    have hy := k y List.mem_cons_self
    rcases List.mem_append.1 hp with hp | hp
    · unfold sayP at hp
      split at hp
      · simp at hp; subst hp; exact ⟨hx, hy⟩
      · split at hp
        · simp at hp; subst hp; exact ⟨hy, hx⟩
        · split at hp
          · simp at hp
            rcases hp with rfl | rfl
            · exact ⟨hx, hy⟩
            · exact ⟨hy, hx⟩
          · cases hp
    · exact zipS_in ws l m (fun r hr => h r (List.mem_cons_of_mem _ hr)) (fun r hr => k r (List.mem_cons_of_mem _ hr)) p hp
section
variable {x y z : Ty} {X Y : List Int} (h : Reg x y X) (g : Reg x z Y)
include h g
theorem reg_same : sameP y z = true := same_mid h.same g.same
theorem reg_in (Z : Ws) (v : Nat) : InR (lookP Z y z v) := by
  rw [look_zip Z (reg_same h g)]
  exact zipS_in _ _ _ h.range g.range
theorem reg_more (S : Nat → Nat) (a b : Nat) (ho : outB S (lookP (waysOf (a ||| b)) y z 1) = true) : outB S (lookP (waysOf a) y z 1) = true := by
  rw [outB_iff, look_zip _ (reg_same h g)] at ho ⊢
  have hle := ways_le (ways_more a b) y (v := 1) (v' := 1) (by decide) (by decide) (.refl _)
  exact more_zip _ _ _ _ hle.len hle.sub hle.few ho
theorem reg_both (S : Nat → Nat) (a : Nat) : (outB S (lookP (waysOf a) y z 1) && outB S (lookP (waysOf a) z y 1)) = outB S (lookP (waysOf a) y z 3) := by
  have hs := reg_same h g
  have hs' := reg_same g h
  have hw : waysP (waysOf a) z 1 = waysP (waysOf a) y 1 := ways_same hs' 1
  have hle := ways_le (show WLe (waysOf a) (waysOf a) from fun s i => ⟨waysOf_few a s i, waysOf_few a s i, .refl _⟩) y (v := 1) (v' := 1) (by decide) (by decide) (.refl _)
  have hb := both_zip (R := RelS S) (waysP (waysOf a) y 1) (allP y) (allP z) hle.few (by rw [h.len, g.len])
  rw [← ways_inv (waysOf a) y 1, show inv 1 = 3 from rfl, ← hw, ← look_zip _ hs', hw, ← look_zip _ hs, ← look_zip _ hs, ← outB_iff, ← outB_iff, ← outB_iff] at hb
  cases h1 : outB S (lookP (waysOf a) y z 3) with
  | true => rw [h1] at hb; obtain ⟨e1, e2⟩ := hb.2 rfl; rw [e1, e2]; rfl
  | false =>
    rw [h1] at hb
    cases h2 : outB S (lookP (waysOf a) y z 1) with
    | false => rfl
    | true =>
      cases h3 : outB S (lookP (waysOf a) z y 1) with
      | false => rfl
      | true => have := hb.1 ⟨h2, h3⟩; cases this
end
end Sb
end Go.Proofs.Ytebnonbfjkielaa

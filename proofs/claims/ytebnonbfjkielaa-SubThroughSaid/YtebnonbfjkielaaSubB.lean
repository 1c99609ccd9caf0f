/- Layer 10, plain: the laws. -/
import Derived.Test.YtebnonbfjkielaaTypesR
import Derived.Test.YtebnonbfjkielaaSubA
namespace Go.Proofs.Ytebnonbfjkielaa
open Tr Ts Vy
namespace Sb
theorem head_true {k k' : Int} {nm nm' : ByteArray} {u u' : Bool} {n n' : Nat} (h : headP k nm u n k' nm' u' n' = true) : k = k' ∧ nm = nm' ∧ u = u' ∧ (k = 5 → n = n') := of_decide_eq_true h
theorem own_len {k : Int} {nm nm' : ByteArray} {u u' : Bool} {r r' : Int} {rs rs' : List Int} {ar ar' : List Ty} (h : k = 5 → rs.length = rs'.length) : (ownP (.mk k nm u r rs ar)).length = (ownP (.mk k nm' u' r' rs' ar')).length := by
  rw [ownP, ownP]
  split
  · exact h (by assumption)
  · split <;> rfl
theorem allP_mk (k : Int) (nm : ByteArray) (u : Bool) (r : Int) (rs : List Int) (ar : List Ty) : allP (.mk k nm u r rs ar) = ownP (.mk k nm u r rs ar) ++ gathL ownP ar := by show gath ownP _ = _; rw [gath]
theorem gathL_cons (x : Ty) (l : List Ty) : gathL ownP (x :: l) = allP x ++ gathL ownP l := by rw [gathL]; rfl
mutual
theorem all_same : ∀ {x y : Ty}, sameP x y = true → (allP x).length = (allP y).length
  | .mk k nm u r rs ar, .mk k' nm' u' r' rs' ar', h => by
    rw [sameP, Bool.and_eq_true] at h
    obtain ⟨rfl, rfl, rfl, h5⟩ := head_true h.1
    rw [allP_mk, allP_mk, List.length_append, List.length_append, all_sameL h.2, own_len h5]
theorem all_sameL : ∀ {l m : List Ty}, sameL l m = true → (gathL ownP l).length = (gathL ownP m).length
  | [], [], _ => rfl
  | x :: l, y :: m, h => by
    rw [sameL, Bool.and_eq_true] at h
    rw [gathL_cons, gathL_cons, List.length_append, List.length_append, all_same h.1, all_sameL h.2]
  | [], _ :: _, h => by rw [sameL] at h; cases h
  | _ :: _, [], h => by rw [sameL] at h; cases h
end
section
variable (W : Ws)
mutual
theorem ways_len : ∀ (x : Ty) (v : Nat), (waysP W x v).length = (allP x).length
  | .mk k nm u r rs ar, v => by
    rw [allP_mk, List.length_append, waysP, ownP]
    by_cases h5 : k = 5
    · rw [if_pos h5, if_pos h5, List.length_append, regsW_length, ways_lenS nm]
    · rw [if_neg h5, if_neg h5]
      by_cases h7 : k = 7
      · rw [if_pos h7, if_pos (show k = 7 ∨ k = 8 ∨ k = 9 from .inl h7), List.length_cons, ways_lenL]; simp [Nat.add_comm]
      · rw [if_neg h7]
        by_cases h8 : k = 8
        · rw [if_pos h8, if_pos (show k = 7 ∨ k = 8 ∨ k = 9 from .inr (.inl h8)), List.length_cons, ways_lenL]; simp [Nat.add_comm]
        · rw [if_neg h8]
          by_cases h9 : k = 9
          · rw [if_pos h9, if_pos (show k = 7 ∨ k = 8 ∨ k = 9 from .inr (.inr h9)), List.length_cons, ways_lenL]; simp [Nat.add_comm]
          · rw [if_neg h9, if_neg (by omega), ways_lenL]; simp
theorem ways_lenL : ∀ (l : List Ty) (v : Nat), (waysQL W l v).length = (gathL ownP l).length
  | [], _ => by rw [waysQL, gathL]; rfl
  | x :: l, v => by rw [waysQL, gathL_cons, List.length_append, List.length_append, ways_len x, ways_lenL l]
theorem ways_lenS (nm : ByteArray) : ∀ (l : List Ty) (q v : Nat), (waysQS W nm q l v).length = (gathL ownP l).length
  | [], _, _ => by rw [waysQS, gathL]; rfl
  | x :: l, q, v => by rw [waysQS, gathL_cons, List.length_append, List.length_append, ways_len x, ways_lenS nm l]
end
theorem zipS_none (x y : Int) (ws : List Nat) (l m : List Int) : zipS (0 :: ws) (x :: l) (y :: m) = zipS ws l m := by rw [zipS]; rfl
theorem zipS_one (w : Nat) (x y : Int) (ws : List Nat) (l m : List Int) : zipS (w :: ws) (x :: l) (y :: m) = sayP x y w ++ zipS ws l m := by rw [zipS]
mutual
theorem look_zip : ∀ {x y : Ty}, sameP x y = true → ∀ v, lookP W x y v = zipS (waysP W x v) (allP x) (allP y)
  | .mk k nm u r rs ar, .mk k' nm' u' r' rs' ar', h, v => by
    rw [sameP, Bool.and_eq_true] at h
    obtain ⟨rfl, rfl, rfl, h5⟩ := head_true h.1
    rw [allP_mk, allP_mk, waysP, ownP, ownP, lookP]
    by_cases e5 : k = 5
    · simp only [if_pos e5]
      rw [zipS_append _ _ _ (regsW_length _ _ _ _ _) (by rw [regsW_length]; exact h5 e5), ← regsQ_zip W nm v rs rs' 0 (h5 e5), look_zipS nm h.2]
    · simp only [if_neg e5]
      by_cases e7 : k = 7
      · simp only [if_pos e7, if_pos (show k = 7 ∨ k = 8 ∨ k = 9 from .inl e7)]
        rw [List.singleton_append, List.singleton_append, zipS_one, look_zipL h.2]
      · simp only [if_neg e7]
        by_cases e8 : k = 8
        · simp only [if_pos e8, if_pos (show k = 7 ∨ k = 8 ∨ k = 9 from .inr (.inl e8))]
          rw [List.singleton_append, List.singleton_append, zipS_one, look_zipL h.2]
        · simp only [if_neg e8]
          by_cases e9 : k = 9
          · simp only [if_pos e9, if_pos (show k = 7 ∨ k = 8 ∨ k = 9 from .inr (.inr e9))]
            rw [List.singleton_append, List.singleton_append, zipS_none, look_zipL h.2]
          · simp only [if_neg e9, if_neg (show ¬(k = 7 ∨ k = 8 ∨ k = 9) by omega)]
            rw [List.nil_append, List.nil_append, look_zipL h.2]
theorem look_zipL : ∀ {l m : List Ty}, sameL l m = true → ∀ v, lookQL W l m v = zipS (waysQL W l v) (gathL ownP l) (gathL ownP m)
  | [], [], _, v => by rw [lookQL, waysQL, gathL, zipS]
  | x :: l, y :: m, h, v => by
    rw [sameL, Bool.and_eq_true] at h
    rw [lookQL, waysQL, gathL_cons, gathL_cons, zipS_append _ _ _ (ways_len W x v) (by rw [ways_len W x v]; exact all_same h.1), look_zip h.1, look_zipL h.2]
  | [], _ :: _, h, _ => by rw [sameL] at h; cases h
  | _ :: _, [], h, _ => by rw [sameL] at h; cases h
theorem look_zipS (nm : ByteArray) : ∀ {l m : List Ty}, sameL l m = true → ∀ q v, lookQS W nm q l m v = zipS (waysQS W nm q l v) (gathL ownP l) (gathL ownP m)
  | [], [], _, q, v => by rw [lookQS, waysQS, gathL, zipS]
  | x :: l, y :: m, h, q, v => by
    rw [sameL, Bool.and_eq_true] at h
    rw [lookQS, waysQS, gathL_cons, gathL_cons, zipS_append _ _ _ (ways_len W x _) (by rw [ways_len W x _]; exact all_same h.1), look_zip h.1, look_zipS nm h.2]
  | [], _ :: _, h, _, _ => by rw [sameL] at h; cases h
  | _ :: _, [], h, _, _ => by rw [sameL] at h; cases h
end
end
theorem say_le (x y : Int) (v : Nat) : (sayP x y v).length ≤ 2 := by
  unfold sayP
  split
  · simp
  · split
    · simp
    · split <;> simp
theorem zipS_le : ∀ (ws : List Nat) (l m : List Int), (zipS ws l m).length ≤ 2 * l.length
  | [], _, _ => by rw [zipS]; exact Nat.zero_le _
  | _ :: _, [], _ => by rw [zipS]; exact Nat.zero_le _
  | _ :: _, _ :: _, [] => by rw [zipS]; exact Nat.zero_le _
  | w :: ws, x :: l, y :: m => by
    have h1 := say_le x y w
    have h2 := zipS_le ws l m
    rw [zipS, List.length_append, List.length_cons]
    omega
/-! The laws. -/
theorem zip_self : ∀ (ws : List Nat) (l : List Int), ∀ p ∈ zipS ws l l, p.1 = p.2
  | [], _, p, h => by rw [zipS] at h; cases h
  | _ :: _, [], p, h => by rw [zipS] at h; cases h
  | w :: ws, x :: l, p, h => by
    rw [zipS] at h
    rcases List.mem_append.1 h with h | h
    · unfold sayP at h
      split at h
      · simp at h; rw [h]
      · split at h
        · simp at h; rw [h]
        · split at h
          · simp at h; rw [h]
          · cases h
    · exact zip_self ws l p h
/-- All pairs are so. -/
def Outl (R : Int → Int → Prop) (l : Ps) : Prop := ∀ p ∈ l, R p.1 p.2
section
variable {R : Int → Int → Prop}
theorem outl_nil : Outl R [] := fun _ h => by cases h
theorem outl_append {l m : Ps} : Outl R (l ++ m) ↔ Outl R l ∧ Outl R m := by
  unfold Outl
  constructor
  · exact fun h => ⟨fun p hp => h p (List.mem_append_left _ hp), fun p hp => h p (List.mem_append_right _ hp)⟩
  · rintro ⟨h, k⟩ p hp
    rcases List.mem_append.1 hp with hp | hp
    · exact h p hp
    · exact k p hp
def SayR (R : Int → Int → Prop) (x y : Int) (v : Nat) : Prop := (v = 1 ∨ v = 3 → R x y) ∧ (v = 2 ∨ v = 3 → R y x)
theorem outl_say (x y : Int) (v : Nat) : Outl R (sayP x y v) ↔ SayR R x y v := by
  unfold sayP SayR Outl
  split
  · subst v; simp
  · split
    · subst v; simp
    · split
      · subst v; simp
      · constructor
        · intro _
          exact ⟨fun h => by omega, fun h => by omega⟩
        · intro _ p hp
          cases hp
theorem through_zip (hR : ∀ x y z, R x y → R y z → R x z) : ∀ (ws : List Nat) (a b d : List Int), a.length = b.length → b.length = d.length → Outl R (zipS ws a b) → Outl R (zipS ws b d) → Outl R (zipS ws a d)
  | [], _, _, _, _, _, _, _ => by rw [zipS]; exact outl_nil
  | w :: ws, [], _, d, _, _, _, _ => by rw [zipS]; exact outl_nil
  | w :: ws, x :: a, [], _, h, _, _, _ => by simp at h
  | w :: ws, x :: a, y :: b, [], _, h, _, _ => by simp at h
  | w :: ws, x :: a, y :: b, z :: d, h1, h2, h, k => by
    rw [zipS, outl_append, outl_say] at h k ⊢
    exact ⟨⟨fun e => hR _ _ _ (h.1.1 e) (k.1.1 e), fun e => hR _ _ _ (k.1.2 e) (h.1.2 e)⟩, through_zip hR ws a b d (by simpa using h1) (by simpa using h2) h.2 k.2⟩
/-- Elementwise: as Inv through what the other one says. -/
def inv (v : Nat) : Nat := if v = 0 then 0 else 3
theorem both_zip : ∀ (ws : List Nat) (a b : List Int), (∀ w ∈ ws, w < 4) → a.length = b.length → (Outl R (zipS ws a b) ∧ Outl R (zipS ws b a) ↔ Outl R (zipS (ws.map inv) a b))
  | [], _, _, _, _ => by simp only [List.map_nil, zipS]; exact ⟨fun _ => outl_nil, fun _ => ⟨outl_nil, outl_nil⟩⟩
  | w :: ws, [], [], _, _ => by simp only [List.map_cons, zipS]; exact ⟨fun _ => outl_nil, fun _ => ⟨outl_nil, outl_nil⟩⟩
  | w :: ws, [], _ :: _, _, h => by simp at h
  | w :: ws, _ :: _, [], _, h => by simp at h
  | w :: ws, x :: a, y :: b, hw, h => by
    have ih := both_zip ws a b (fun v hv => hw v (List.mem_cons_of_mem _ hv)) (by simpa using h)
    have h4 := hw w List.mem_cons_self
    rw [List.map_cons, zipS, zipS, zipS, outl_append, outl_append, outl_append, ← ih, outl_say, outl_say, outl_say]
    unfold SayR inv
    by_cases w0 : w = 0
    · subst w0; simp
    · rw [if_neg w0]
      by_cases w1 : w = 1
      · subst w1; simp; constructor
        · rintro ⟨⟨p1, p2⟩, p3, p4⟩; exact ⟨⟨p1, p3⟩, p2, p4⟩
        · rintro ⟨⟨p1, p3⟩, p2, p4⟩; exact ⟨⟨p1, p2⟩, p3, p4⟩
      · by_cases w2 : w = 2
        · subst w2; simp; constructor
          · rintro ⟨⟨p1, p2⟩, p3, p4⟩; exact ⟨⟨p3, p1⟩, p2, p4⟩
          · rintro ⟨⟨p1, p3⟩, p2, p4⟩; exact ⟨⟨p3, p2⟩, p1, p4⟩
        · have w3 : w = 3 := by omega
          subst w3; simp; constructor
          · rintro ⟨⟨⟨p1, p2⟩, p3⟩, ⟨p4, p5⟩, p6⟩; exact ⟨⟨p1, p2⟩, p3, p6⟩
          · rintro ⟨⟨p1, p2⟩, p3, p6⟩; exact ⟨⟨⟨p1, p2⟩, p3⟩, ⟨p2, p1⟩, p6⟩
theorem more_zip : ∀ (ws vs : List Nat) (a b : List Int), ws.length = vs.length → (∀ i, Vy.Sub (ws.getD i 0) (vs.getD i 0)) → (∀ w ∈ vs, w < 4) → Outl R (zipS vs a b) → Outl R (zipS ws a b)
  | [], _, _, _, _, _, _, _ => by rw [zipS]; exact outl_nil
  | w :: ws, [], _, _, h, _, _, _ => by simp at h
  | w :: ws, v :: vs, [], _, _, _, _, _ => by rw [zipS]; exact outl_nil
  | w :: ws, v :: vs, x :: a, [], _, _, _, _ => by rw [zipS]; exact outl_nil
  | w :: ws, v :: vs, x :: a, y :: b, h, hs, h4, ho => by
    rw [zipS, outl_append, outl_say] at ho ⊢
    have h0 : Vy.Sub w v := by simpa using hs 0
    have hv := h4 v List.mem_cons_self
    refine ⟨?_, more_zip ws vs a b (by simpa using h) (fun i => by simpa using hs (i + 1)) (fun u hu => h4 u (List.mem_cons_of_mem _ hu)) ho.2⟩
    have hle := h0.le
    unfold Vy.Sub at h0
    refine ⟨fun e => ho.1.1 ?_, fun e => ho.1.2 ?_⟩
    · have hh : ∀ w v : Fin 4, w.1 ||| v.1 = v.1 → (w.1 = 1 ∨ w.1 = 3) → (v.1 = 1 ∨ v.1 = 3) := by decide
      exact hh ⟨w, by omega⟩ ⟨v, hv⟩ h0 e
    · have hh : ∀ w v : Fin 4, w.1 ||| v.1 = v.1 → (w.1 = 2 ∨ w.1 = 3) → (v.1 = 2 ∨ v.1 = 3) := by decide
      exact hh ⟨w, by omega⟩ ⟨v, hv⟩ h0 e
end
end Sb
end Go.Proofs.Ytebnonbfjkielaa

/- Layer 10, plain: ways in an other start, with more; types with other regions. -/
import Derived.Test.YtebnonbfjkielaaSubB
namespace Go.Proofs.Ytebnonbfjkielaa
open Tr Ts Vy
namespace Sb
theorem thr_inv {v y : Nat} : thr (inv v) y = inv (thr v y) := by
  by_cases hv : v = 0
  · subst hv; simp [thr, inv]
  · by_cases hy : y = 0
    · subst hy; simp [thr, inv]
    · have h3 : thr 3 y = 3 := by simp [thr, hy]
      have hn : thr v y ≠ 0 := by
        unfold thr
        rw [if_neg hv, if_neg hy]
        split
        · exact hy
        · split
          · omega
          · split
            · omega
            · split <;> omega
      rw [show inv v = 3 from if_neg hv, h3, show inv (thr v y) = 3 from if_neg hn]
theorem regsW_inv (W : Ws) (nm : ByteArray) (v : Nat) : ∀ (i n : Nat), regsW W nm (inv v) i n = (regsW W nm v i n).map inv
  | _, 0 => rfl
  | i, n + 1 => by rw [regsW, regsW, List.map_cons, regsW_inv W nm v (i + 1) n, thr_inv]
mutual
theorem ways_inv (W : Ws) : ∀ (x : Ty) (v : Nat), waysP W x (inv v) = (waysP W x v).map inv
  | .mk k nm u r rs ar, v => by
    rw [waysP, waysP]
    by_cases h5 : k = 5
    · rw [if_pos h5, if_pos h5, List.map_append, regsW_inv, ways_invS W nm]
    · rw [if_neg h5, if_neg h5]
      by_cases h7 : k = 7
      · rw [if_pos h7, if_pos h7, List.map_cons]
        cases u with
        | true => rw [if_pos rfl, if_pos rfl, thr_inv, ways_invL W]
        | false => rw [if_neg (by decide), if_neg (by decide), ways_invL W]
      · rw [if_neg h7, if_neg h7]
        by_cases h8 : k = 8
        · rw [if_pos h8, if_pos h8, List.map_cons, ways_invL W]
        · rw [if_neg h8, if_neg h8]
          by_cases h9 : k = 9
          · rw [if_pos h9, if_pos h9, List.map_cons, ways_invL W]; rfl
          · rw [if_neg h9, if_neg h9, ways_invL W]
theorem ways_invL (W : Ws) : ∀ (l : List Ty) (v : Nat), waysQL W l (inv v) = (waysQL W l v).map inv
  | [], _ => by rw [waysQL, waysQL]; rfl
  | x :: l, v => by rw [waysQL, waysQL, List.map_append, ways_inv W x, ways_invL W l]
theorem ways_invS (W : Ws) (nm : ByteArray) : ∀ (l : List Ty) (q v : Nat), waysQS W nm q l (inv v) = (waysQS W nm q l v).map inv
  | [], _, _ => by rw [waysQS, waysQS]; rfl
  | x :: l, q, v => by rw [waysQS, waysQS, List.map_append, ← ways_inv W x, ways_invS W nm l, thr_inv]
end
/-- Ways that are ways, and no more than others. -/
def WLe (W W' : Ws) : Prop := ∀ s i, wayOf W s i < 4 ∧ wayOf W' s i < 4 ∧ Vy.Sub (wayOf W s i) (wayOf W' s i)
/-- Lists of ways, one no more than the other. -/
inductive LLe : List Nat → List Nat → Prop
  | nil : LLe [] []
  | cons {w v : Nat} {l m : List Nat} : w < 4 → v < 4 → Vy.Sub w v → LLe l m → LLe (w :: l) (v :: m)
theorem LLe.append {l m l' m' : List Nat} (h : LLe l m) (k : LLe l' m') : LLe (l ++ l') (m ++ m') := by
  induction h with
  | nil => exact k
  | cons a b c _ ih => exact .cons a b c ih
theorem LLe.len {l m : List Nat} (h : LLe l m) : l.length = m.length := by
  induction h with
  | nil => rfl
  | cons _ _ _ _ ih => simp [ih]
theorem LLe.sub {l m : List Nat} (h : LLe l m) : ∀ i, Vy.Sub (l.getD i 0) (m.getD i 0) := by
  induction h with
  | nil => intro i; exact .refl _
  | cons _ _ c _ ih =>
    intro i
    cases i with
    | zero => simpa using c
    | succ i => simpa using ih i
theorem LLe.few {l m : List Nat} (h : LLe l m) : ∀ w ∈ m, w < 4 := by
  induction h with
  | nil => intro w h; cases h
  | cons _ b _ _ ih =>
    intro w h
    rcases List.mem_cons.1 h with rfl | h
    · exact b
    · exact ih w h
theorem regs_le {W W' : Ws} (hW : WLe W W') (nm : ByteArray) {v v' : Nat} (hv : v < 4) (hv' : v' < 4) (h : Vy.Sub v v') : ∀ (i n : Nat), LLe (regsW W nm v i n) (regsW W' nm v' i n)
  | _, 0 => .nil
  | i, n + 1 => by
    obtain ⟨h1, h2, h3⟩ := hW nm i
    rw [regsW, regsW]
    exact .cons (thr_lt h1) (thr_lt h2) (thr_sub hv h1 hv' h2 h h3) (regs_le hW nm hv hv' h (i + 1) n)
mutual
theorem ways_le {W W' : Ws} (hW : WLe W W') : ∀ (x : Ty) {v v' : Nat}, v < 4 → v' < 4 → Vy.Sub v v' → LLe (waysP W x v) (waysP W' x v')
  | .mk k nm u r rs ar, v, v', hv, hv', h => by
    rw [waysP, waysP]
    by_cases h5 : k = 5
    · rw [if_pos h5, if_pos h5]
      exact (regs_le hW nm hv hv' h 0 _).append (ways_leS hW nm ar _ hv hv' h)
    · rw [if_neg h5, if_neg h5]
      by_cases h7 : k = 7
      · rw [if_pos h7, if_pos h7]
        refine .cons hv hv' h ?_
        cases u with
        | true => exact ways_leL hW ar (thr_lt (by decide)) (thr_lt (by decide)) (thr_sub hv (by decide) hv' (by decide) h (.refl _))
        | false => exact ways_leL hW ar hv hv' h
      · rw [if_neg h7, if_neg h7]
        by_cases h8 : k = 8
        · rw [if_pos h8, if_pos h8]
          exact .cons hv hv' h (ways_leL hW ar hv hv' h)
        · rw [if_neg h8, if_neg h8]
          by_cases h9 : k = 9
          · rw [if_pos h9, if_pos h9]
            exact .cons (by decide) (by decide) (.refl _) (ways_leL hW ar hv hv' h)
          · rw [if_neg h9, if_neg h9]
            exact ways_leL hW ar hv hv' h
theorem ways_leL {W W' : Ws} (hW : WLe W W') : ∀ (l : List Ty) {v v' : Nat}, v < 4 → v' < 4 → Vy.Sub v v' → LLe (waysQL W l v) (waysQL W' l v')
  | [], _, _, _, _, _ => by rw [waysQL, waysQL]; exact .nil
  | x :: l, v, v', hv, hv', h => by
    rw [waysQL, waysQL]
    exact (ways_le hW x hv hv' h).append (ways_leL hW l hv hv' h)
theorem ways_leS {W W' : Ws} (hW : WLe W W') (nm : ByteArray) : ∀ (l : List Ty) (q : Nat) {v v' : Nat}, v < 4 → v' < 4 → Vy.Sub v v' → LLe (waysQS W nm q l v) (waysQS W' nm q l v')
  | [], _, _, _, _, _, _ => by rw [waysQS, waysQS]; exact .nil
  | x :: l, q, v, v', hv, hv', h => by
    obtain ⟨h1, h2, h3⟩ := hW nm q
    rw [waysQS, waysQS]
    exact (ways_le hW x (thr_lt h1) (thr_lt h2) (thr_sub hv h1 hv' h2 h h3)).append (ways_leS hW nm l (q + 1) hv hv' h)
end
/-! A type with other regions. -/
theorem own_5' {k : Int} (h : k = 5) (nm : ByteArray) (u : Bool) (r : Int) (rs : List Int) (ar : List Ty) : ownP (.mk k nm u r rs ar) = rs := by rw [ownP, if_pos h]
theorem own_7' {k : Int} (h5 : k ≠ 5) (h : k = 7 ∨ k = 8 ∨ k = 9) (nm : ByteArray) (u : Bool) (r : Int) (rs : List Int) (ar : List Ty) : ownP (.mk k nm u r rs ar) = [r] := by rw [ownP, if_neg h5, if_pos h]
theorem own_0' {k : Int} (h5 : k ≠ 5) (h : ¬(k = 7 ∨ k = 8 ∨ k = 9)) (nm : ByteArray) (u : Bool) (r : Int) (rs : List Int) (ar : List Ty) : ownP (.mk k nm u r rs ar) = [] := by rw [ownP, if_neg h5, if_neg h]
mutual
def withP : Ty → List Int → Ty
  | .mk k nm u r rs ar, l =>
    if k = 5 then .mk k nm u r (l.take rs.length) (withL ar (l.drop rs.length))
    else if k = 7 ∨ k = 8 ∨ k = 9 then .mk k nm u (l.headD 0) rs (withL ar (l.drop 1))
    else .mk k nm u r rs (withL ar l)
def withL : List Ty → List Int → List Ty
  | [], _ => []
  | x :: ar, l => withP x l :: withL ar (l.drop (allP x).length)
end
theorem withL_len : ∀ (ar : List Ty) (l : List Int), (withL ar l).length = ar.length
  | [], _ => by rw [withL]
  | x :: ar, l => by rw [withL, List.length_cons, List.length_cons, withL_len ar]
mutual
theorem with_all : ∀ (x : Ty) (l : List Int), (allP x).length ≤ l.length → sameP x (withP x l) = true ∧ allP (withP x l) = l.take (allP x).length
  | .mk k nm u r rs ar, l, h => by
    rw [allP_mk, List.length_append] at h ⊢
    rw [withP]
    by_cases h5 : k = 5
    · rw [if_pos h5, own_5' h5] at *
      obtain ⟨a, b⟩ := with_allL ar (l.drop rs.length) (by rw [List.length_drop]; omega)
      rw [sameP, a, allP_mk, own_5' h5, b, Bool.and_true]
      refine ⟨decide_eq_true ⟨rfl, rfl, rfl, fun _ => by rw [List.length_take]; omega⟩, ?_⟩
      rw [List.take_add]
    · rw [if_neg h5]
      by_cases h7 : k = 7 ∨ k = 8 ∨ k = 9
      · rw [if_pos h7]
        rw [own_7' h5 h7] at h ⊢
        simp only [List.length_cons, List.length_nil, Nat.zero_add] at h ⊢
        obtain ⟨a, b⟩ := with_allL ar (l.drop 1) (by rw [List.length_drop]; omega)
        rw [sameP, a, allP_mk, own_7' h5 h7, b, Bool.and_true]
        refine ⟨decide_eq_true ⟨rfl, rfl, rfl, fun _ => rfl⟩, ?_⟩
        cases l with
        | nil => simp at h
        | cons z l => rw [Nat.add_comm]; rfl
      · rw [if_neg h7]
        rw [own_0' h5 h7] at h ⊢
        simp only [List.length_nil, Nat.zero_add] at h ⊢
        obtain ⟨a, b⟩ := with_allL ar l h
        rw [sameP, a, allP_mk, own_0' h5 h7, b, Bool.and_true]
        exact ⟨decide_eq_true ⟨rfl, rfl, rfl, fun _ => rfl⟩, rfl⟩
theorem with_allL : ∀ (ar : List Ty) (l : List Int), (gathL ownP ar).length ≤ l.length → sameL ar (withL ar l) = true ∧ gathL ownP (withL ar l) = l.take (gathL ownP ar).length
  | [], l, _ => by
    rw [withL, sameL]
    exact ⟨rfl, by simp [gathL]⟩
  | x :: ar, l, h => by
    rw [gathL_cons, List.length_append] at h
    obtain ⟨a, b⟩ := with_all x l (by omega)
    obtain ⟨a', b'⟩ := with_allL ar (l.drop (allP x).length) (by rw [List.length_drop]; omega)
    rw [withL, sameL, a, a', gathL_cons, gathL_cons, b, b', List.length_append]
    exact ⟨rfl, by rw [List.take_add]⟩
end
end Sb
end Go.Proofs.Ytebnonbfjkielaa

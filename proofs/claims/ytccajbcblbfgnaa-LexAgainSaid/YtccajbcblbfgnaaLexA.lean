/- Plain mathematics of layer 1: bytes, spans, places. -/
import Derived.WalkKit
namespace Go.Proofs.Ytccajbcblbfgnaa
namespace Lx
abbrev Bs := List UInt8
def blankB (b : UInt8) : Bool := b.toNat == 32 || b.toNat == 9 || b.toNat == 10 || b.toNat == 13
def smallB (b : UInt8) : Bool := decide (97 ≤ b.toNat) && decide (b.toNat ≤ 122)
def letterB (b : UInt8) : Bool := smallB b || (decide (65 ≤ b.toNat) && decide (b.toNat ≤ 90)) || b.toNat == 95
def digitB (b : UInt8) : Bool := decide (48 ≤ b.toNat) && decide (b.toNat ≤ 57)
def innerB (b : UInt8) : Bool := letterB b || digitB b
def lineB (b : UInt8) : Bool := b.toNat != 10
/-- The first k bytes are of the kind: the next one is, just if the span goes on. -/
theorem tw_iff (P : UInt8 → Bool) : ∀ (l : Bs) (k : Nat) (hk : k < l.length), k ≤ (l.takeWhile P).length → (P l[k] = true ↔ k < (l.takeWhile P).length)
  | [], k, hk, _ => by simp at hk
  | b :: r, 0, _, _ => by
    rw [List.takeWhile_cons]
    by_cases h : P b = true <;> simp [h]
  | b :: r, k + 1, hk, h => by
    rw [List.takeWhile_cons] at h ⊢
    by_cases hb : P b = true
    · rw [if_pos hb] at h ⊢
      have := tw_iff P r k (by simpa using hk) (by simpa using h)
      simpa using this
    · rw [if_neg hb] at h; simp at h
/-- The place behind some bytes. -/
def adv : Nat × Nat → Bs → Nat × Nat
  | p, [] => p
  | p, b :: r => adv (if b.toNat = 10 then (p.1 + 1, 1) else (p.1, p.2 + 1)) r
theorem adv_append (p : Nat × Nat) (a b : Bs) : adv p (a ++ b) = adv (adv p a) b := by
  induction a generalizing p with
  | nil => rfl
  | cons x r ih => exact ih _
theorem adv_snoc (p : Nat × Nat) (a : Bs) (b : UInt8) : adv p (a ++ [b]) = if b.toNat = 10 then ((adv p a).1 + 1, 1) else ((adv p a).1, (adv p a).2 + 1) := by
  rw [adv_append]; rfl
theorem adv_take (p : Nat × Nat) (l : Bs) (k : Nat) (hk : k < l.length) : adv p (l.take (k + 1)) = if l[k].toNat = 10 then ((adv p (l.take k)).1 + 1, 1) else ((adv p (l.take k)).1, (adv p (l.take k)).2 + 1) := by
  rw [List.take_succ_eq_append_getElem hk, adv_snoc]
/-- Neither number grows by more than the bytes. -/
theorem adv_le (p : Nat × Nat) (l : Bs) : (adv p l).1 ≤ p.1 + l.length ∧ (adv p l).2 ≤ p.2 + l.length + 1 := by
  induction l generalizing p with
  | nil => exact ⟨by simp [adv], by simp [adv]⟩
  | cons b r ih =>
    by_cases h : b.toNat = 10
    · have := ih (p.1 + 1, 1)
      simp only [adv, List.length_cons, if_pos h]
      simp only at this
      omega
    · have := ih (p.1, p.2 + 1)
      simp only [adv, List.length_cons, if_neg h]
      simp only at this
      omega
/-- What stands behind a text's first n bytes; a text's bytes. -/
def bs (s : ByteArray) : Bs := s.data.toList
def cutB (s : ByteArray) (n : Nat) : ByteArray := ⟨((bs s).drop n).toArray⟩
theorem bs_len (s : ByteArray) : (bs s).length = s.size := rfl
theorem bs_mk (l : Bs) : bs ⟨l.toArray⟩ = l := rfl
theorem mk_bs (s : ByteArray) : (⟨(bs s).toArray⟩ : ByteArray) = s := rfl
theorem bs_inj {a b : ByteArray} (h : bs a = bs b) : a = b := by rw [← mk_bs a, ← mk_bs b, h]
theorem bs_cutB (s : ByteArray) (n : Nat) : bs (cutB s n) = (bs s).drop n := rfl
theorem cutB_size (s : ByteArray) (n : Nat) : (cutB s n).size = s.size - n := by rw [← bs_len, bs_cutB, List.length_drop, bs_len]
theorem cutB_cutB (s : ByteArray) (a b : Nat) : cutB (cutB s a) b = cutB s (a + b) := bs_inj (by simp [bs_cutB])
theorem cutB_zero (s : ByteArray) : cutB s 0 = s := rfl
theorem bs_extract (s : ByteArray) (a b : Nat) : bs (s.extract a b) = ((bs s).take b).drop a := by
  unfold bs
  simp [List.extract_eq_take_drop, List.drop_take]
theorem extract_cutB (s : ByteArray) (n : Nat) : s.extract n s.size = cutB s n := bs_inj (by rw [bs_extract, bs_cutB, List.take_of_length_le (by rw [bs_len]; exact Nat.le_refl _)])
theorem tw_le (P : UInt8 → Bool) (l : Bs) : (l.takeWhile P).length ≤ l.length := (List.takeWhile_sublist P).length_le
/-- How many bytes may stand ahead of a token; true: in a remark. -/
def sk : Bool → Bs → Nat
  | _, [] => 0
  | true, b :: r => 1 + sk (lineB b) r
  | false, b :: r => if blankB b then 1 + sk false r else if b.toNat = 47 ∧ r.head?.map UInt8.toNat = some 47 then 1 + sk true r else 0
def twL (P : UInt8 → Bool) (l : Bs) : Nat := (l.takeWhile P).length
theorem twL_cons (P : UInt8 → Bool) (b : UInt8) (r : Bs) : twL P (b :: r) = if P b then twL P r + 1 else 0 := by
  unfold twL
  rw [List.takeWhile_cons]
  split <;> rfl
theorem sk_le : ∀ (f : Bool) (l : Bs), sk f l ≤ l.length
  | _, [] => by simp [sk]
  | true, b :: r => by
    have := sk_le (lineB b) r
    simp only [sk, List.length_cons]; omega
  | false, b :: r => by
    have := sk_le false r
    have := sk_le true r
    simp only [sk, List.length_cons]
    split
    · omega
    · split <;> omega
theorem sk_blank (l : Bs) : sk false l = twL blankB l + sk false (l.drop (twL blankB l)) := by
  induction l with
  | nil => rfl
  | cons b r ih =>
    rw [twL_cons]
    by_cases h : blankB b = true
    · simp only [sk, if_pos h, List.drop_succ_cons]
      omega
    · simp [h]
theorem sk_true (l : Bs) : sk true l = twL lineB l + sk false (l.drop (twL lineB l)) := by
  induction l with
  | nil => rfl
  | cons b r ih =>
    rw [twL_cons]
    by_cases h : lineB b = true
    · rw [if_pos h]
      simp only [sk, List.drop_succ_cons, h]
      omega
    · have hb : blankB b = true := by
        unfold lineB at h; unfold blankB
        simp at h; simp [h]
      have hf : lineB b = false := by simpa using h
      simp [sk, hf, hb]
def slash2 : Bs := [47, 47]
theorem slash2_iff (l : Bs) : slash2.isPrefixOf l = true ↔ ∃ r, l = 47 :: 47 :: r := by
  rw [List.isPrefixOf_iff_prefix]
  constructor
  · rintro ⟨r, rfl⟩; exact ⟨r, rfl⟩
  · rintro ⟨r, rfl⟩; exact ⟨r, rfl⟩
theorem sk_line (l : Bs) (h : slash2.isPrefixOf l = true) : sk false l = twL lineB l + sk false (l.drop (twL lineB l)) := by
  rw [← sk_true]
  obtain ⟨r, rfl⟩ := (slash2_iff l).1 h
  rfl
theorem line_pos (l : Bs) (h : slash2.isPrefixOf l = true) : 2 ≤ twL lineB l := by
  obtain ⟨r, rfl⟩ := (slash2_iff l).1 h
  rw [twL_cons, twL_cons]
  simp [show lineB 47 = true from rfl]
theorem slash_blank (l : Bs) (h : slash2.isPrefixOf l = true) : twL blankB l = 0 := by
  obtain ⟨r, rfl⟩ := (slash2_iff l).1 h
  rfl
theorem sk_stop (l : Bs) (h : slash2.isPrefixOf l = false) (hb : twL blankB l = 0) : sk false l = 0 := by
  match l with
  | [] => rfl
  | b :: r =>
    rw [twL_cons] at hb
    have h0 : ¬ blankB b = true := by intro h; simp [h] at hb
    simp only [sk, if_neg h0]
    rw [if_neg]
    rintro ⟨h1, h2⟩
    match r, h2 with
    | c :: r, h2 =>
      have e1 : b = 47 := UInt8.toNat_inj.1 h1
      have e2 : c = 47 := UInt8.toNat_inj.1 (by simpa using h2)
      subst e1; subst e2
      simp [slash2] at h

/-! ### One token -/
/-- A token without its place: its kind, how many bytes it has, its value; or what is wrong. -/
structure T where
  kind : Nat
  len : Nat
  val : Nat
  code : Nat
def bad (c : Nat) : T := ⟨0, 0, 0, c⟩
def wholeS (z : Bool) : Nat → Nat → Bs → Nat × Nat
  | _, v, [] => (v, 0)
  | i, v, b :: r => if digitB b = false ∨ (i = 1 ∧ z = true) then (0, 1) else if 9223372036854775807 < v * 10 + (b.toNat - 48) then (0, 2) else wholeS z (i + 1) (v * 10 + (b.toNat - 48)) r
def hexV (b : UInt8) : Option Nat := if digitB b then some (b.toNat - 48) else if 97 ≤ b.toNat ∧ b.toNat ≤ 102 then some (b.toNat - 87) else none
def hexS : Nat → Bs → Nat × Nat
  | v, [] => (v, 0)
  | v, b :: r => match hexV b with
    | some d => hexS (v * 16 + d) r
    | none => (0, 1)
def zero0 (l : Bs) : Bool := l.head?.map UInt8.toNat == some 48
def numS (l : Bs) : T :=
  if l.length = 18 ∧ ([48, 102] : Bs).isPrefixOf l = true then
    (if (hexS 0 (l.drop 2)).2 = 0 then ⟨4, 18, (hexS 0 (l.drop 2)).1, 0⟩ else bad (hexS 0 (l.drop 2)).2)
  else if (wholeS (zero0 l) 0 0 l).2 = 0 then ⟨3, l.length, (wholeS (zero0 l) 0 0 l).1, 0⟩ else bad (wholeS (zero0 l) 0 0 l).2
def nameS (n : Nat) : T := if 24 < n then bad 2 else ⟨1, n, 0, 0⟩
def lifeS (r : Bs) : T :=
  if twL innerB r = 0 ∨ (r.head?.map smallB) ≠ some true then bad 1 else if 24 < twL innerB r then bad 2 else ⟨2, twL innerB r + 1, 0, 0⟩
def marksL : List Bs := [[45, 62], [61, 61], [38, 38], [40], [41], [123], [125], [60], [62], [44], [59], [58], [61], [38], [124], [43], [45], [42], [47], [33], [46]]
def markS (l : Bs) : T := match marksL.find? (fun m => m.isPrefixOf l) with
  | some m => ⟨5, m.length, 0, 0⟩
  | none => bad 1
/-- The token with which a text begins that isn't empty. -/
def tokS : Bs → T
  | [] => bad 1
  | b :: r => if letterB b then nameS (twL innerB (b :: r)) else if digitB b then numS ((b :: r).takeWhile innerB) else if b.toNat = 39 then lifeS r else markS (b :: r)

theorem digit_v {b : UInt8} (h : digitB b = true) : 48 ≤ b.toNat ∧ b.toNat ≤ 57 := by
  unfold digitB at h; simpa using h
/-- The first mark with which a text begins: which it is; 21: none. -/
def markI (l : Bs) : Nat := marksL.findIdx (fun m => m.isPrefixOf l)
theorem markI_le (l : Bs) : markI l ≤ 21 := List.findIdx_le_length
theorem markI_hit (l : Bs) (k : Nat) (hk : k < 21) (h : k ≤ markI l) : (marksL.getD k []).isPrefixOf l = true ↔ markI l = k := by
  have hk' : k < marksL.length := hk
  have e : marksL.getD k [] = marksL[k] := by simp [List.getD, List.getElem?_eq_getElem hk']
  rw [e]
  constructor
  · intro hp
    by_cases hlt : k < markI l
    · have := List.not_of_lt_findIdx (p := fun m : Bs => m.isPrefixOf l) hlt
      rw [hp] at this; exact absurd this (by decide)
    · omega
  · intro he
    have hl : marksL.findIdx (fun m : Bs => m.isPrefixOf l) < marksL.length := by show markI l < _; omega
    have := List.findIdx_getElem (p := fun m : Bs => m.isPrefixOf l) (w := hl)
    have e2 : marksL.findIdx (fun m : Bs => m.isPrefixOf l) = k := he
    simp only [e2] at this
    exact this
theorem find_at {α : Type} (p : α → Bool) : ∀ l : List α, l.find? p = l[l.findIdx p]?
  | [] => rfl
  | a :: r => by
    rw [List.find?_cons, List.findIdx_cons]
    cases h : p a with
    | true => rfl
    | false => simp [find_at p r]
theorem markS_eq (l : Bs) : markS l = if markI l = 21 then bad 1 else ⟨5, (marksL.getD (markI l) []).length, 0, 0⟩ := by
  unfold markS
  rw [find_at]
  have hle := markI_le l
  by_cases h : markI l = 21
  · rw [if_pos h, List.getElem?_eq_none (by show 21 ≤ markI l; omega)]
  · rw [if_neg h]
    have hl : markI l < marksL.length := by show markI l < 21; omega
    have e : marksL[marksL.findIdx fun m : Bs => m.isPrefixOf l]? = some (marksL.getD (markI l) []) := by
      show marksL[markI l]? = _
      simp [List.getD, List.getElem?_eq_getElem hl]
    rw [e]
theorem numS_len (l : Bs) : (numS l).len ≤ l.length ∧ ((numS l).code = 0 → 0 < l.length → 1 ≤ (numS l).len) := by
  unfold numS
  split
  · rename_i h
    split
    · exact ⟨by show 18 ≤ _; omega, fun _ _ => by show 1 ≤ 18; omega⟩
    · rename_i h2
      exact ⟨Nat.zero_le _, fun h3 _ => absurd h3 h2⟩
  · split
    · exact ⟨Nat.le_refl _, fun _ h => h⟩
    · rename_i h2
      exact ⟨Nat.zero_le _, fun h3 _ => absurd h3 h2⟩
theorem nameS_len (n : Nat) : (nameS n).len ≤ n ∧ ((nameS n).code = 0 → (nameS n).len = n) := by
  unfold nameS; split
  · exact ⟨Nat.zero_le _, fun h => absurd h (show ¬ (2 : Nat) = 0 by decide)⟩
  · exact ⟨Nat.le_refl _, fun _ => rfl⟩
theorem twL_le (P : UInt8 → Bool) (l : Bs) : twL P l ≤ l.length := tw_le P l
theorem lifeS_len (r : Bs) : (lifeS r).len ≤ r.length + 1 ∧ ((lifeS r).code = 0 → 1 ≤ (lifeS r).len) := by
  have := twL_le innerB r
  unfold lifeS
  split
  · exact ⟨Nat.zero_le _, fun h => absurd h (show ¬ (1 : Nat) = 0 by decide)⟩
  · split
    · exact ⟨Nat.zero_le _, fun h => absurd h (show ¬ (2 : Nat) = 0 by decide)⟩
    · exact ⟨by show twL innerB r + 1 ≤ _; omega, fun _ => by show 1 ≤ twL innerB r + 1; omega⟩
theorem marksL_pos : ∀ m ∈ marksL, 1 ≤ m.length := by decide
theorem markS_len (l : Bs) : (markS l).len ≤ l.length ∧ ((markS l).code = 0 → 1 ≤ (markS l).len) := by
  unfold markS
  split
  · rename_i m h
    have h1 := List.find?_some h
    have h2 := List.mem_of_find?_eq_some h
    rw [List.isPrefixOf_iff_prefix] at h1
    exact ⟨h1.length_le, fun _ => marksL_pos m h2⟩
  · exact ⟨Nat.zero_le _, fun h => absurd h (show ¬ (1 : Nat) = 0 by decide)⟩
theorem tw_take (P : UInt8 → Bool) (l : Bs) : l.takeWhile P = l.take (twL P l) := by
  induction l with
  | nil => rfl
  | cons b r ih =>
    rw [twL_cons, List.takeWhile_cons]
    by_cases h : P b = true
    · rw [if_pos h, if_pos h, List.take_succ_cons, ← ih]
    · rw [if_neg h, if_neg h]; rfl
/-- A token is no longer than the text; one that is right is not empty. -/
theorem tokS_len (l : Bs) (h0 : 0 < l.length) : ((tokS l).code = 0 → 1 ≤ (tokS l).len) ∧ (tokS l).len ≤ l.length := by
  match l, h0 with
  | b :: r, _ =>
    have hle := twL_le innerB (b :: r)
    simp only [tokS]
    by_cases hl : letterB b = true
    · rw [if_pos hl]
      have hp : 1 ≤ twL innerB (b :: r) := by rw [twL_cons, if_pos (by unfold innerB; rw [hl]; rfl)]; omega
      have := nameS_len (twL innerB (b :: r))
      exact ⟨fun h => by rw [this.2 h]; exact hp, by omega⟩
    · rw [if_neg hl]
      by_cases hd : digitB b = true
      · rw [if_pos hd]
        have hp : 1 ≤ twL innerB (b :: r) := by rw [twL_cons, if_pos (by unfold innerB; rw [hd, Bool.or_true])]; omega
        have := numS_len ((b :: r).takeWhile innerB)
        have hlen : ((b :: r).takeWhile innerB).length = twL innerB (b :: r) := rfl
        rw [hlen] at this
        exact ⟨fun h => this.2 h (by omega), by omega⟩
      · rw [if_neg hd]
        by_cases h39 : b.toNat = 39
        · rw [if_pos h39]
          have := lifeS_len r
          exact ⟨this.2, by rw [List.length_cons]; exact this.1⟩
        · rw [if_neg h39]
          have := markS_len (b :: r)
          exact ⟨this.2, this.1⟩

/-! ### A text's tokens -/
structure Tok where
  kind : Nat
  text : ByteArray
  line : Nat
  col : Nat
  val : Nat
/-- What is answered: the tokens; what is wrong, and where. -/
structure Res where
  toks : List Tok
  code : Nat
  line : Nat
  col : Nat
def lexGo : Nat → Bs → Nat × Nat → List Tok → Res
  | 0, _, _, _ => ⟨[], 0, 0, 0⟩
  | f + 1, l, p, out =>
    let l1 := l.drop (sk false l)
    let p1 := adv p (l.take (sk false l))
    if l1 = [] then ⟨out ++ [⟨0, ⟨#[]⟩, p1.1, p1.2, 0⟩], 0, 0, 0⟩
    else if out.length = 8000 then ⟨[], 2, p1.1, p1.2⟩
    else if (tokS l1).code ≠ 0 then ⟨[], (tokS l1).code, p1.1, p1.2⟩
    else lexGo f (l1.drop (tokS l1).len) (adv p1 (l1.take (tokS l1).len)) (out ++ [⟨(tokS l1).kind, ⟨(l1.take (tokS l1).len).toArray⟩, p1.1, p1.2, (tokS l1).val⟩])
def lexAll (l : Bs) : Res := if 20000 < l.length then ⟨[], 2, 0, 0⟩ else lexGo (l.length + 1) l (1, 1) []
end Lx
end Go.Proofs.Ytccajbcblbfgnaa

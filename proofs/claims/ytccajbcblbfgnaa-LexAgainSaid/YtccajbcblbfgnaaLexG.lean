/- Plain mathematics of layer 1: the texts of a text's tokens, put together, have the same tokens. -/
import Derived.Test.YtccajbcblbfgnaaLexV
import Derived.Test.YtccajbcblbfgnaaLexJ
namespace Go.Proofs.Ytccajbcblbfgnaa
open Lx
/-- What may stand behind a token's text: nothing, or a blank first. -/
def Rest (r : Bs) : Prop := r = [] ∨ ∃ q, r = 32 :: q
theorem rest_no {P : UInt8 → Bool} (h : P 32 = false) {r : Bs} (hr : Rest r) : twL P r = 0 := by
  rcases hr with rfl | ⟨q, rfl⟩
  · rfl
  · rw [twL_cons, h]; rfl
theorem tw_rest (P : UInt8 → Bool) (h : P 32 = false) (a r : Bs) (ha : ∀ b ∈ a, P b = true) (hr : Rest r) : (a ++ r).takeWhile P = a ∧ twL P (a ++ r) = a.length := by
  have h2 : (a ++ r).takeWhile P = a := by
    induction a with
    | nil =>
      have := rest_no h hr
      rw [List.nil_append, tw_take, this]; rfl
    | cons b q ih =>
      rw [List.cons_append, List.takeWhile_cons, if_pos (ha b List.mem_cons_self), ih fun c hc => ha c (List.mem_cons_of_mem _ hc)]
  exact ⟨h2, by unfold twL; rw [h2]⟩
/-- A text that is one token, whatever may stand behind it. -/
structure Whole (x : Bs) (t : T) : Prop where
  ne : x ≠ []
  len : t.len = x.length
  code : t.code = 0
  tok : ∀ r, Rest r → tokS (x ++ r) = t
  skip : ∀ r, Rest r → sk false (x ++ r) = 0
theorem sk_zero {b : UInt8} {r : Bs} (hb : blankB b = false) (h : ¬ (b.toNat = 47 ∧ r.head?.map UInt8.toNat = some 47)) : sk false (b :: r) = 0 := by
  simp only [sk, hb]
  rw [if_neg (by decide), if_neg h]
theorem letter_v {b : UInt8} (h : letterB b = true) : (97 ≤ b.toNat ∧ b.toNat ≤ 122) ∨ (65 ≤ b.toNat ∧ b.toNat ≤ 90) ∨ b.toNat = 95 := by
  unfold letterB smallB at h
  simp at h; omega
theorem not_blank {b : UInt8} (h : b.toNat ≠ 32 ∧ b.toNat ≠ 9 ∧ b.toNat ≠ 10 ∧ b.toNat ≠ 13) : blankB b = false := by
  unfold blankB; simp [h]
theorem inner_letter {b : UInt8} (h : letterB b = true) : innerB b = true := by unfold innerB; rw [h]; rfl
theorem inner_digit {b : UInt8} (h : digitB b = true) : innerB b = true := by unfold innerB; rw [h, Bool.or_true]
theorem take_tw (P : UInt8 → Bool) (l : Bs) : ∀ b ∈ l.take (twL P l), P b = true := by rw [← tw_take]; exact tw_all P l
theorem whole_name (b : UInt8) (r : Bs) (hl : letterB b = true) (hc : (nameS (twL innerB (b :: r))).code = 0) : Whole ((b :: r).take (twL innerB (b :: r))) (nameS (twL innerB (b :: r))) := by
  have hlen := (nameS_len _).2 hc
  have hle := twL_le innerB (b :: r)
  obtain ⟨n, hn⟩ : ∃ n, twL innerB (b :: r) = n + 1 := ⟨twL innerB (b :: r) - 1, by rw [twL_cons, if_pos (inner_letter hl)]; omega⟩
  have hall := take_tw innerB (b :: r)
  have hv := letter_v hl
  rw [hn] at hc hlen hle hall ⊢
  have hx : ((b :: r).take (n + 1)).length = n + 1 := by rw [List.length_take]; omega
  refine ⟨by simp, by rw [hlen, hx], hc, fun q hq => ?_, fun q hq => ?_⟩
  · have h2 := (tw_rest innerB (by decide) _ q hall hq).2
    rw [hx] at h2
    rw [List.take_succ_cons, List.cons_append] at h2 ⊢
    simp only [tokS]
    rw [if_pos hl, h2]
  · rw [List.take_succ_cons, List.cons_append]
    exact sk_zero (not_blank (by omega)) (by omega)
theorem whole_num (b : UInt8) (r : Bs) (hl : ¬ letterB b = true) (hd : digitB b = true) (hc : (numS ((b :: r).takeWhile innerB)).code = 0) : Whole ((b :: r).take (numS ((b :: r).takeWhile innerB)).len) (numS ((b :: r).takeWhile innerB)) := by
  have hlen : (numS ((b :: r).takeWhile innerB)).len = ((b :: r).takeWhile innerB).length := by
    generalize (b :: r).takeWhile innerB = l at hc
    unfold numS at hc ⊢
    split
    · rename_i h1
      rw [if_pos h1] at hc
      split
      · exact h1.1.symm
      · rename_i h2; rw [if_neg h2] at hc; exact absurd hc h2
    · rename_i h1
      rw [if_neg h1] at hc
      split
      · rfl
      · rename_i h2; rw [if_neg h2] at hc; exact absurd hc h2
  have hle := twL_le innerB (b :: r)
  have htw : ((b :: r).takeWhile innerB).length = twL innerB (b :: r) := rfl
  obtain ⟨n, hn⟩ : ∃ n, twL innerB (b :: r) = n + 1 := ⟨twL innerB (b :: r) - 1, by rw [twL_cons, if_pos (inner_digit hd)]; omega⟩
  have hall := take_tw innerB (b :: r)
  have hv := digit_v hd
  have he := tw_take innerB (b :: r)
  rw [hlen, htw]
  rw [he] at hlen hc ⊢
  rw [hn] at hlen hle hall hc ⊢
  have hx : ((b :: r).take (n + 1)).length = n + 1 := by rw [List.length_take]; omega
  refine ⟨by simp, hlen, hc, fun q hq => ?_, fun q hq => ?_⟩
  · have h2 := (tw_rest innerB (by decide) _ q hall hq).1
    rw [List.take_succ_cons, List.cons_append] at h2 ⊢
    simp only [tokS]
    rw [if_neg hl, if_pos hd, h2]
  · rw [List.take_succ_cons, List.cons_append]
    exact sk_zero (not_blank (by omega)) (by omega)
theorem whole_life (b : UInt8) (r : Bs) (h39 : b.toNat = 39) (hc : (lifeS r).code = 0) : Whole ((b :: r).take (lifeS r).len) (lifeS r) := by
  have hle := twL_le innerB r
  have hb : b = 39 := UInt8.toNat_inj.1 (by rw [h39]; rfl)
  have h0 : ¬ (twL innerB r = 0 ∨ (r.head?.map smallB) ≠ some true) := by
    intro h; unfold lifeS at hc; rw [if_pos h] at hc; exact absurd hc (show ¬ (1 : Nat) = 0 by decide)
  have h1 : ¬ 24 < twL innerB r := by
    intro h; unfold lifeS at hc; rw [if_neg h0, if_pos h] at hc; exact absurd hc (show ¬ (2 : Nat) = 0 by decide)
  have he : lifeS r = ⟨2, twL innerB r + 1, 0, 0⟩ := by unfold lifeS; rw [if_neg h0, if_neg h1]
  have hall := take_tw innerB r
  have hx : (r.take (twL innerB r)).length = twL innerB r := by rw [List.length_take]; omega
  rw [he]
  simp only [List.take_succ_cons]
  refine ⟨by simp, by rw [List.length_cons, hx], rfl, fun q hq => ?_, fun q hq => ?_⟩
  · have h2 := (tw_rest innerB (by decide) _ q hall hq).2
    rw [hx] at h2
    rw [List.cons_append]
    subst hb
    have hh : (r.take (twL innerB r) ++ q).head?.map smallB = r.head?.map smallB := by
      match r, h0 with
      | [], h0 => exact absurd (.inl rfl) h0
      | c :: r', h0 =>
        cases hk : twL innerB (c :: r') with
        | zero => exact absurd (.inl hk) h0
        | succ k => rfl
    have ht : tokS (39 :: (r.take (twL innerB r) ++ q)) = lifeS (r.take (twL innerB r) ++ q) := by
      simp only [tokS]
      rw [if_neg (by decide), if_neg (by decide), if_pos (by decide)]
    rw [ht]
    unfold lifeS
    rw [hh, h2, if_neg h0, if_neg h1]
  · rw [List.cons_append]
    exact sk_zero (not_blank (by omega)) (by omega)
def markOk (m : Bs) : Bool :=
  match m with
  | [] => false
  | b :: r => !letterB b && !digitB b && b.toNat != 39 && !blankB b && (b.toNat != 47 || r.isEmpty) &&
      decide (marksL.find? (fun x => x.isPrefixOf m) = some m) && decide (marksL.find? (fun x => x.isPrefixOf (m ++ [32])) = some m)
theorem marks_ok : ∀ m ∈ marksL, markOk m = true := by decide
theorem marks_two : ∀ m ∈ marksL, m.length ≤ 2 := by decide
theorem prefix_short (x a q : Bs) (h : x.length ≤ a.length) : x.isPrefixOf (a ++ q) = x.isPrefixOf a := by
  rw [Bool.eq_iff_iff, List.isPrefixOf_iff_prefix, List.isPrefixOf_iff_prefix]
  constructor
  · intro hp
    rw [List.prefix_iff_eq_take] at hp ⊢
    rw [List.take_append_of_le_length h] at hp
    exact hp
  · intro hp; exact hp.trans (List.prefix_append _ _)
theorem find_congr {l : List Bs} {p q : Bs → Bool} (h : ∀ x ∈ l, p x = q x) : l.find? p = l.find? q := by
  induction l with
  | nil => rfl
  | cons a r ih =>
    rw [List.find?_cons, List.find?_cons, h a List.mem_cons_self]
    cases q a with
    | true => rfl
    | false => exact ih fun x hx => h x (List.mem_cons_of_mem _ hx)
theorem whole_mark (l : Bs) (hc : (markS l).code = 0) : Whole (l.take (markS l).len) (markS l) := by
  unfold markS at hc ⊢
  cases hf : marksL.find? (fun m => m.isPrefixOf l) with
  | none => rw [hf] at hc; exact absurd hc (show ¬ (1 : Nat) = 0 by decide)
  | some m =>
    have h1 := List.find?_some hf
    have h2 := List.mem_of_find?_eq_some hf
    rw [List.isPrefixOf_iff_prefix, List.prefix_iff_eq_take] at h1
    have hok := marks_ok m h2
    have hm2 := marks_two m h2
    simp only
    rw [← h1]
    match m, hok, h2, hm2 with
    | b :: r, hok, h2, hm2 =>
      simp only [markOk, Bool.and_eq_true, Bool.not_eq_true', Bool.or_eq_true, decide_eq_true_eq, bne_iff_ne, List.isEmpty_iff] at hok
      obtain ⟨⟨⟨⟨⟨⟨hl, hd⟩, h39⟩, hbl⟩, h47⟩, hA⟩, hB⟩ := hok
      refine ⟨by simp, rfl, rfl, fun q hq => ?_, fun q hq => ?_⟩
      · have hfind : marksL.find? (fun x => x.isPrefixOf ((b :: r) ++ q)) = some (b :: r) := by
          rcases hq with rfl | ⟨q', rfl⟩
          · rw [List.append_nil]; exact hA
          · rw [show (b :: r) ++ 32 :: q' = ((b :: r) ++ [32]) ++ q' from by simp]
            rw [← hB]
            exact find_congr fun x hx => prefix_short x _ q' (by have := marks_two x hx; simp; omega)
        have ht : tokS ((b :: r) ++ q) = markS ((b :: r) ++ q) := by
          show (if letterB b = true then _ else if digitB b = true then _ else if b.toNat = 39 then _ else markS (b :: (r ++ q))) = _
          rw [if_neg (by rw [hl]; decide), if_neg (by rw [hd]; decide), if_neg h39]; rfl
        rw [ht]
        unfold markS
        rw [hfind]
      · rw [List.cons_append]
        refine sk_zero hbl ?_
        rintro ⟨ha, hb⟩
        rcases h47 with h | h
        · exact h ha
        · subst h
          rw [List.nil_append] at hb
          rcases hq with rfl | ⟨q', rfl⟩
          · cases hb
          · simp at hb
/-- A right token's text is a whole one. -/
theorem whole_tok (l : Bs) (h0 : l ≠ []) (hc : (tokS l).code = 0) : Whole (l.take (tokS l).len) (tokS l) := by
  match l, h0 with
  | b :: r, _ =>
    simp only [tokS] at hc ⊢
    by_cases hl : letterB b = true
    · rw [if_pos hl] at hc ⊢
      rw [(nameS_len _).2 hc]
      exact whole_name b r hl hc
    · rw [if_neg hl] at hc ⊢
      by_cases hd : digitB b = true
      · rw [if_pos hd] at hc ⊢
        exact whole_num b r hl hd hc
      · rw [if_neg hd] at hc ⊢
        by_cases h39 : b.toNat = 39
        · rw [if_pos h39] at hc ⊢
          exact whole_life b r h39 hc
        · rw [if_neg h39] at hc ⊢
          exact whole_mark (b :: r) hc
/-- What is the same of a token, wherever it stands. -/
def core (t : Tok) : Nat × ByteArray × Nat := (t.kind, t.text, t.val)
/-- A token that is whole. -/
def Fine (t : Tok) : Prop := ∃ u : T, Whole (bs t.text) u ∧ t.kind = u.kind ∧ t.val = u.val
theorem lexGo_fine : ∀ (f : Nat) (l : Bs) (p : Nat × Nat) (out : List Tok), l.length < f → out.length ≤ 8000 → (∀ t ∈ out, Fine t) → (lexGo f l p out).code = 0 →
    (lexGo f l p out).line = 0 ∧ (lexGo f l p out).col = 0 ∧ ∃ (ts : List Tok) (x y : Nat), (lexGo f l p out).toks = ts ++ [⟨0, ⟨#[]⟩, x, y, 0⟩] ∧ (∀ t ∈ ts, Fine t) ∧ ts.length ≤ 8000 ∧ (ts.map fun t => t.text.size).sum ≤ l.length + (out.map fun t => t.text.size).sum
  | 0, _, _, _, h, _, _, _ => absurd h (by omega)
  | f + 1, l, p, out, hf, ho, hfine, hc => by
    have hsk := sk_le false l
    simp only [lexGo] at hc ⊢
    split
    · exact ⟨rfl, rfl, out, _, _, rfl, hfine, ho, by omega⟩
    · rename_i h1
      rw [if_neg h1] at hc
      split
      · rename_i h2
        rw [if_pos h2] at hc
        exact absurd hc (show ¬ (2 : Nat) = 0 by decide)
      · rename_i h2
        rw [if_neg h2] at hc
        split
        · rename_i h3
          rw [if_pos h3] at hc
          exact absurd hc h3
        · rename_i h3
          rw [if_neg h3] at hc
          have h3' : (tokS (l.drop (sk false l))).code = 0 := Classical.byContradiction h3
          have hlen := tokS_len (l.drop (sk false l)) (List.length_pos_iff.2 h1)
          have hl1 := hlen.1 h3'
          have hl2 := hlen.2
          rw [List.length_drop] at hl2
          have hw := whole_tok _ h1 h3'
          generalize tokS (l.drop (sk false l)) = t at *
          have hd : ((l.drop (sk false l)).drop t.len).length = l.length - sk false l - t.len := by rw [List.length_drop, List.length_drop]
          have ih := lexGo_fine f _ _ _ (by rw [hd]; omega) (by rw [List.length_append]; simp; omega) (fun x hx => by
            rcases List.mem_append.1 hx with hx | hx
            · exact hfine x hx
            · rw [List.mem_singleton.1 hx]
              exact ⟨t, hw, rfl, rfl⟩) hc
          obtain ⟨ha, hb, ts, x, y, h5, h6, h7, h8⟩ := ih
          refine ⟨ha, hb, ts, x, y, h5, h6, h7, ?_⟩
          rw [hd, List.map_append, List.sum_append] at h8
          have htx : ((⟨((l.drop (sk false l)).take t.len).toArray⟩ : ByteArray)).size = t.len := by
            show ((l.drop (sk false l)).take t.len).length = t.len
            rw [List.length_take, List.length_drop]; omega
          simp only [List.map_cons, List.map_nil, List.sum_cons, List.sum_nil] at h8
          rw [htx] at h8
          omega
def textsOf (ts : List Tok) : List Bs := ts.map fun t => bs t.text
/-- Whole tokens' texts, a blank between each two, are cut into the same. -/
theorem lexGo_join : ∀ (ts : List Tok) (f : Nat) (p : Nat × Nat) (out : List Tok), (∀ t ∈ ts, Fine t) → (Lib.join (textsOf ts) [32]).length < f → out.length + ts.length ≤ 8000 →
    ∃ (us : List Tok) (x y : Nat), lexGo f (Lib.join (textsOf ts) [32]) p out = ⟨out ++ us ++ [⟨0, ⟨#[]⟩, x, y, 0⟩], 0, 0, 0⟩ ∧ us.map core = ts.map core
  | [], f, p, out, _, hf, _ => by
    obtain ⟨f', rfl⟩ : ∃ f', f = f' + 1 := ⟨f - 1, by omega⟩
    exact ⟨[], p.1, p.2, by simp [textsOf, Lib.join_nil, lexGo, sk, adv], rfl⟩
  | t :: r, f, p, out, hfine, hf, ho => by
    obtain ⟨f', rfl⟩ : ∃ f', f = f' + 1 := ⟨f - 1, by omega⟩
    obtain ⟨u, hw, hk, hv⟩ := hfine t List.mem_cons_self
    have hrest : ∃ q, Lib.join (textsOf (t :: r)) [32] = bs t.text ++ q ∧ Rest q ∧ (r = [] → q = []) ∧ (r ≠ [] → q = 32 :: Lib.join (textsOf r) [32]) := by
      cases r with
      | nil => exact ⟨[], by simp [textsOf, Lib.join_one], .inl rfl, fun _ => rfl, fun h => absurd rfl h⟩
      | cons a r =>
        refine ⟨32 :: Lib.join (textsOf (a :: r)) [32], ?_, .inr ⟨_, rfl⟩, (fun h => by cases h), fun _ => rfl⟩
        show Lib.join (bs t.text :: textsOf (a :: r)) [32] = _
        show Lib.join (bs t.text :: bs a.text :: textsOf r) [32] = _ ++ 32 :: Lib.join (bs a.text :: textsOf r) [32]
        rw [Lib.join_cons, Lib.join_cons]
        simp [Lib.joinTail]
    obtain ⟨q, hj, hq, hq1, hq2⟩ := hrest
    rw [hj] at hf ⊢
    have hsk := hw.skip q hq
    have htok := hw.tok q hq
    have hne : bs t.text ++ q ≠ [] := fun h => hw.ne (List.append_eq_nil_iff.1 h).1
    have hlen := hw.len
    rw [List.length_append] at hf
    simp only [List.length_cons] at ho
    have hstep : lexGo (f' + 1) (bs t.text ++ q) p out = lexGo f' q (adv p (bs t.text)) (out ++ [⟨u.kind, t.text, p.1, p.2, u.val⟩]) := by
      simp only [lexGo]
      rw [hsk, List.drop_zero, List.take_zero]
      simp only [adv]
      rw [if_neg hne, if_neg (by omega), htok, if_neg (fun h => h hw.code), hlen, List.drop_left, List.take_left]
      rfl
    rw [hstep]
    have hpos : 0 < (bs t.text).length := List.length_pos_iff.2 hw.ne
    by_cases hr : r = []
    · rw [hq1 hr]
      subst hr
      obtain ⟨f'', rfl⟩ : ∃ f'', f' = f'' + 1 := ⟨f' - 1, by omega⟩
      refine ⟨[⟨u.kind, t.text, p.1, p.2, u.val⟩], (adv p (bs t.text)).1, (adv p (bs t.text)).2, by simp [lexGo, sk, adv], ?_⟩
      simp [core, hk, hv]
    · rw [hq2 hr] at hf ⊢
      simp only [List.length_cons] at hf
      rw [lexGo_skip f' _ _ _ 1 (by simp [sk, show blankB 32 = true from rfl])]
      obtain ⟨us, x, y, h1, h2⟩ := lexGo_join r f' (adv (adv p (bs t.text)) [32]) (out ++ [⟨u.kind, t.text, p.1, p.2, u.val⟩]) (fun x hx => hfine x (List.mem_cons_of_mem _ hx)) (by omega) (by rw [List.length_append]; simp; omega)
      refine ⟨⟨u.kind, t.text, p.1, p.2, u.val⟩ :: us, x, y, ?_, ?_⟩
      · show lexGo f' (Lib.join (textsOf r) [32]) (adv (adv p (bs t.text)) [32]) _ = _
        rw [h1]; simp
      · simp [core, hk, hv] at h2 ⊢
        exact h2
theorem join_size (ts : List Tok) : (Lib.join (textsOf ts) [32]).length ≤ (ts.map fun t => t.text.size).sum + ts.length := by
  cases ts with
  | nil => simp [textsOf, Lib.join_nil]
  | cons t r =>
    show (Lib.join (bs t.text :: textsOf r) [32]).length ≤ _
    rw [Lib.join_cons]
    have hr : ∀ r : List Tok, (Lib.joinTail [32] (textsOf r)).length = (r.map fun t => t.text.size).sum + r.length := by
      intro r
      induction r with
      | nil => rfl
      | cons a r ih =>
        simp only [Lib.joinTail, textsOf, List.map_cons, List.flatten_cons, List.length_append, List.sum_cons, List.length_cons, List.length_nil, bs_len] at ih ⊢
        omega
    rw [List.length_append, hr]
    simp only [List.map_cons, List.sum_cons, List.length_cons, bs_len]
    omega
/-- The law's mathematics. -/
theorem lex_again (l : Bs) (hl : l.length ≤ 9000) (hc : (lexAll l).code = 0) :
    (lexAll l).line = 0 ∧ (lexAll l).col = 0 ∧ ∃ (ts us : List Tok) (e e' : Tok), (lexAll l).toks = ts ++ [e] ∧ (Lib.join (textsOf ts) [32]).length ≤ 18000 ∧ ts.length ≤ 8000 ∧
      lexAll (Lib.join (textsOf ts) [32]) = ⟨us ++ [e'], 0, 0, 0⟩ ∧ (us ++ [e']).map core = (ts ++ [e]).map core := by
  have h0 : lexAll l = lexGo (l.length + 1) l (1, 1) [] := if_neg (by omega)
  rw [h0] at hc ⊢
  obtain ⟨ha, hb, ts, x, y, h1, h2, h3, h4⟩ := lexGo_fine _ l (1, 1) [] (Nat.lt_succ_self _) (Nat.zero_le _) (fun t ht => by cases ht) hc
  have hs := join_size ts
  have hts : ts.length ≤ 9000 := by
    have : ∀ ts : List Tok, (∀ t ∈ ts, Fine t) → ts.length ≤ (ts.map fun t => t.text.size).sum := by
      intro ts
      induction ts with
      | nil => intro _; exact Nat.zero_le _
      | cons t r ih =>
        intro h
        obtain ⟨u, hw, _⟩ := h t List.mem_cons_self
        have hp : 0 < t.text.size := by rw [← bs_len]; exact List.length_pos_iff.2 hw.ne
        have := ih fun x hx => h x (List.mem_cons_of_mem _ hx)
        simp only [List.length_cons, List.map_cons, List.sum_cons]
        omega
    have := this ts h2
    simp at h4
    omega
  simp at h4
  have hj : (Lib.join (textsOf ts) [32]).length ≤ 18000 := by omega
  obtain ⟨us, x', y', h5, h6⟩ := lexGo_join ts ((Lib.join (textsOf ts) [32]).length + 1) (1, 1) [] h2 (Nat.lt_succ_self _) (by simp; omega)
  refine ⟨ha, hb, ts, us, _, ⟨0, ⟨#[]⟩, x', y', 0⟩, h1, hj, h3, ?_, ?_⟩
  · have e : lexAll (Lib.join (textsOf ts) [32]) = lexGo ((Lib.join (textsOf ts) [32]).length + 1) (Lib.join (textsOf ts) [32]) (1, 1) [] := if_neg (by omega)
    rw [e, h5]; simp
  · rw [List.map_append, List.map_append, h6]; rfl
end Go.Proofs.Ytccajbcblbfgnaa

/- The walk of the reference of layer 1: all tokens. -/
import Derived.Test.YtccajbcblbfgnaaLexU
import Derived.Test.YtccajbcblbfgnaaLexL
namespace Go.Proofs.Ytccajbcblbfgnaa
open Go.RowKit Lx
theorem lexGo_skip (f : Nat) (l : Bs) (p : Nat × Nat) (out : List Tok) (n : Nat) (h : sk false l = n + sk false (l.drop n)) : lexGo f l p out = lexGo f (l.drop n) (adv p (l.take n)) out := by
  cases f with
  | zero => rfl
  | succ f =>
    have e1 : l.drop (sk false l) = (l.drop n).drop (sk false (l.drop n)) := by rw [h, List.drop_drop]
    have e2 : adv p (l.take (sk false l)) = adv (adv p (l.take n)) ((l.drop n).take (sk false (l.drop n))) := by rw [h, List.take_add, adv_append]
    simp only [lexGo]
    rw [e1, e2]
theorem tw_all (P : UInt8 → Bool) (l : Bs) : ∀ b ∈ l.takeWhile P, P b = true := by
  induction l with
  | nil => intro b h; cases h
  | cons x r ih =>
    rw [List.takeWhile_cons]
    by_cases h : P x = true
    · rw [if_pos h]
      intro b hb
      rcases List.mem_cons.1 hb with rfl | hb
      · exact h
      · exact ih b hb
    · rw [if_neg h]; intro b hb; cases hb
theorem inner_line {b : UInt8} (h : innerB b = true) : lineB b = true := by
  unfold lineB
  rw [bne_iff_ne]
  intro e
  unfold innerB letterB smallB digitB at h
  rw [e] at h
  exact absurd h (by decide)
theorem take_inner (l : Bs) (n : Nat) (h : n ≤ twL innerB l) : ∀ b ∈ l.take n, lineB b = true := by
  intro b hb
  refine inner_line (tw_all innerB l b ?_)
  rw [tw_take]
  have e : l.take n = (l.take (twL innerB l)).take n := by rw [List.take_take, Nat.min_eq_left h]
  rw [e] at hb
  exact List.mem_of_mem_take hb
theorem marks_line : ∀ m ∈ marksL, ∀ b ∈ m, lineB b = true := by decide
/-- No token has a line's end. -/
theorem tok_line (l : Bs) (hc : (tokS l).code = 0) : ∀ b ∈ l.take (tokS l).len, lineB b = true := by
  match l with
  | [] => intro b hb; cases hb
  | x :: r =>
    simp only [tokS] at hc ⊢
    by_cases hl : letterB x = true
    · rw [if_pos hl] at hc ⊢
      exact take_inner _ _ (nameS_len _).1
    · rw [if_neg hl] at hc ⊢
      by_cases hd : digitB x = true
      · rw [if_pos hd] at hc ⊢
        exact take_inner _ _ (numS_len _).1
      · rw [if_neg hd] at hc ⊢
        by_cases h39 : x.toNat = 39
        · rw [if_pos h39] at hc ⊢
          unfold lifeS at hc ⊢
          split at hc
          · exact absurd hc (show ¬ (1 : Nat) = 0 by decide)
          · rename_i h1
            split at hc
            · exact absurd hc (show ¬ (2 : Nat) = 0 by decide)
            · rename_i h2
              rw [if_neg h1, if_neg h2]
              simp only [List.take_succ_cons]
              intro b hb
              rcases List.mem_cons.1 hb with rfl | hb
              · unfold lineB; rw [h39]; rfl
              · exact take_inner r _ (Nat.le_refl _) b hb
        · rw [if_neg h39] at hc ⊢
          unfold markS at hc ⊢
          cases hf : marksL.find? (fun m => m.isPrefixOf (x :: r)) with
          | none => rw [hf] at hc; exact absurd hc (show ¬ (1 : Nat) = 0 by decide)
          | some m =>
            have h1 := List.find?_some hf
            have h2 := List.mem_of_find?_eq_some hf
            rw [List.isPrefixOf_iff_prefix, List.prefix_iff_eq_take] at h1
            intro b hb
            simp only at hb
            rw [← h1] at hb
            exact marks_line m h2 b hb
theorem adv_line (p : Nat × Nat) (l : Bs) (h : ∀ b ∈ l, lineB b = true) : adv p l = (p.1, p.2 + l.length) := by
  induction l generalizing p with
  | nil => rfl
  | cons b r ih =>
    have hb : ¬ b.toNat = 10 := by have := h b List.mem_cons_self; unfold lineB at this; simpa using this
    simp only [adv, if_neg hb]
    rw [ih _ fun b hb => h b (List.mem_cons_of_mem _ hb)]
    simp; omega
/-- What is known of the reference ahead of a byte. -/
structure RI (s : ByteArray) (w : World) (f k line frm : Nat) (out : List Tok) (v : Value) (wr : World) : Prop where
  go : lexGo (s.size + 1) (bs s) (1, 1) [] = lexGo f ((bs s).drop k) (line, k - frm + 1) out
  fuel : s.size - k < f
  le : k ≤ s.size
  few : out.length ≤ k
  max : out.length ≤ 8000
  frm_le : frm ≤ k
  line_le : line ≤ k + 1
  err : Is wr w.heap.size 33 err0
  own : wr.ownsRow w.heap.size 61 5 v out.length (rowC out)
  below : Below w.heap.size w wr
theorem ri_start (s : ByteArray) (w : World) : RI s w (s.size + 1) 0 1 0 [] (.slice none 0 0) (w.alloc (.cells err0 33)) :=
  ⟨rfl, by omega, by omega, by simp, by simp, by omega, by omega, Is.made w _ _, World.ownsRow_nil _ _ _ _, (Below.refl _ _).alloc (Nat.le_refl _) _⟩
theorem sk_one {l r : Bs} {b : UInt8} (hl : l = b :: r) (h : blankB b = true) : sk false l = 1 + sk false (l.drop 1) := by
  subst hl; simp [sk, h]
theorem ri_newline {s : ByteArray} {w : World} {f k line frm : Nat} {out : List Tok} {v : Value} {wr : World} (h : RI s w f k line frm out v wr) (hk : k < s.size) (hb : s[k].toNat = 10) : RI s w f (k + 1) (line + 1) (k + 1) out v wr := by
  have h1 := h.fuel
  have h2 := h.few
  have h3 := h.line_le
  refine ⟨?_, by omega, by omega, by omega, h.max, by omega, by omega, h.err, h.own, h.below⟩
  have hd := drop_at s k hk
  rw [h.go, lexGo_skip f _ _ _ 1 (sk_one hd (by unfold blankB; rw [hb]; rfl)), List.drop_drop, hd]
  simp only [List.take_succ_cons, List.take_zero, adv, if_pos hb]
  rw [show k + 1 - (k + 1) + 1 = 1 from by omega]
theorem ri_blank {s : ByteArray} {w : World} {f k line frm : Nat} {out : List Tok} {v : Value} {wr : World} (h : RI s w f k line frm out v wr) (hk : k < s.size) (h10 : ¬ s[k].toNat = 10) (hb : blankB s[k] = true) : RI s w f (k + 1) line frm out v wr := by
  have h1 := h.fuel
  have h2 := h.few
  have h3 := h.line_le
  have h4 := h.frm_le
  refine ⟨?_, by omega, by omega, by omega, h.max, by omega, by omega, h.err, h.own, h.below⟩
  have hd := drop_at s k hk
  rw [h.go, lexGo_skip f _ _ _ 1 (sk_one hd hb), List.drop_drop, hd]
  simp only [List.take_succ_cons, List.take_zero, adv, if_neg h10]
  rw [show k + 1 - frm + 1 = k - frm + 1 + 1 from by omega]
theorem ri_remark {s : ByteArray} {w : World} {f k line frm : Nat} {out : List Tok} {v : Value} {wr : World} (h : RI s w f k line frm out v wr) (hp : slash2.isPrefixOf ((bs s).drop k) = true) : RI s w f (k + twL lineB ((bs s).drop k)) line frm out v wr := by
  have h0 := h.le
  have h1 := h.fuel
  have h2 := h.few
  have h3 := h.line_le
  have h4 := h.frm_le
  have h5 := twAt_le lineB s k h0
  refine ⟨?_, by omega, by omega, by omega, h.max, by omega, by omega, h.err, h.own, h.below⟩
  rw [h.go, lexGo_skip f _ _ _ _ (sk_line _ hp), List.drop_drop, adv_line _ _ (fun b hb => by rw [← tw_take] at hb; exact (tw_all lineB _ b hb)), List.length_take, drop_len]
  rw [show k + twL lineB ((bs s).drop k) - frm + 1 = k - frm + 1 + min (twL lineB ((bs s).drop k)) (s.size - k) from by omega]
/-- What lexGo is where a token stands. -/
theorem ri_at {s : ByteArray} {w : World} {f k line frm : Nat} {out : List Tok} {v : Value} {wr : World} (h : RI s w f k line frm out v wr) (hk : k < s.size) (hb : blankB s[k] = false) (hp : slash2.isPrefixOf ((bs s).drop k) = false) (T_ : T) (hT : tokS ((bs s).drop k) = T_) :
    ∃ f', f = f' + 1 ∧ lexGo (s.size + 1) (bs s) (1, 1) [] = if out.length = 8000 then ⟨[], 2, line, k - frm + 1⟩ else if T_.code ≠ 0 then ⟨[], T_.code, line, k - frm + 1⟩
      else lexGo f' ((bs s).drop (k + T_.len)) (adv (line, k - frm + 1) (((bs s).drop k).take T_.len)) (out ++ [⟨T_.kind, takeB (cutB s k) T_.len, line, k - frm + 1, T_.val⟩]) := by
  have h1 := h.fuel
  refine ⟨f - 1, by omega, ?_⟩
  have e : f = (f - 1) + 1 := by omega
  have hd := drop_at s k hk
  have hz : sk false ((bs s).drop k) = 0 := sk_stop _ hp (by rw [hd, twL_cons, hb]; rfl)
  rw [h.go, e]
  simp only [lexGo]
  rw [hz, List.drop_zero, List.take_zero]
  simp only [adv]
  rw [if_neg (by rw [hd]; simp), hT, List.drop_drop]
  rfl
theorem ri_next {s : ByteArray} {w : World} {f k line frm : Nat} {out : List Tok} {v v' : Value} {wr w' : World} {T_ : T} (h : RI s w f k line frm out v wr) (hk : k < s.size) (hb : blankB s[k] = false) (hp : slash2.isPrefixOf ((bs s).drop k) = false) (hT : tokS ((bs s).drop k) = T_)
    (h8 : ¬ out.length = 8000) (hc : T_.code = 0) (herr : Is w' w.heap.size 33 err0)
    (hown : w'.ownsRow w.heap.size 61 5 v' (out.length + 1) (rowC out ++ tokC ⟨T_.kind, takeB (cutB s k) T_.len, line, k - frm + 1, T_.val⟩)) (hbel : Below w.heap.size w w') :
    RI s w (f - 1) (k + T_.len) line frm (out ++ [⟨T_.kind, takeB (cutB s k) T_.len, line, k - frm + 1, T_.val⟩]) v' w' ∧ 1 ≤ T_.len ∧ k + T_.len ≤ s.size := by
  obtain ⟨f', hf, hgo⟩ := ri_at h hk hb hp T_ hT
  have h1 := h.fuel
  have h2 := h.few
  have h3 := h.line_le
  have h4 := h.frm_le
  have h5 := h.max
  have hlen := tokS_len ((bs s).drop k) (by rw [drop_len]; omega)
  rw [hT, drop_len] at hlen
  have hl1 := hlen.1 hc
  have hl2 := hlen.2
  have hlen3 : ∀ t : Tok, (out ++ [t]).length = out.length + 1 := fun t => by simp
  refine ⟨⟨?_, by omega, by omega, by rw [hlen3]; omega, by rw [hlen3]; omega, by omega, by omega, herr, by rw [hlen3, rowC_snoc]; exact hown, hbel⟩, hl1, by omega⟩
  rw [hgo, if_neg h8, if_neg (fun h => h hc)]
  have hl := tok_line ((bs s).drop k) (by rw [hT]; exact hc)
  rw [hT] at hl
  rw [adv_line _ _ hl, List.length_take, drop_len]
  rw [show k + T_.len - frm + 1 = k - frm + 1 + min T_.len (s.size - k) from by omega, show f - 1 = f' from by omega]
theorem ri_end {s : ByteArray} {w : World} {f k line frm : Nat} {out : List Tok} {v : Value} {wr : World} (h : RI s w f k line frm out v wr) (hk : k = s.size) : lexGo (s.size + 1) (bs s) (1, 1) [] = ⟨out ++ [⟨0, ⟨#[]⟩, line, k - frm + 1, 0⟩], 0, 0, 0⟩ := by
  have h1 := h.fuel
  obtain ⟨f', hf⟩ : ∃ f', f = f' + 1 := ⟨f - 1, by omega⟩
  rw [h.go, hf, List.drop_of_length_le (by rw [bs_len]; omega)]
  rfl
theorem rtok_info : (Try.prog.info? 61).map (fun i => (i.zero, i.size, i.bytes)) = some (some (.agg tok0), 5, 48) := by kernel_rfl
theorem rerr (v : Value) (c l k : Nat) (x : Int) (h : x = k) : Ending.returned (.tuple #[v, .agg #[.int .i64 c, .int .i64 l, .int .i64 x]]) = .returned (.tuple #[v, .agg #[.int .i64 (c : Nat), .int .i64 (l : Nat), .int .i64 (k : Nat)]]) := by rw [h]
theorem slash_at (s : ByteArray) (k : Nat) (hk : k < s.size) (h : slash2.isPrefixOf ((bs s).drop k) = true) : ∃ h1 : k + 1 < s.size, s[k].toNat = 47 ∧ s[k + 1].toNat = 47 := by
  obtain ⟨r, hr⟩ := (slash2_iff _).1 h
  have hl := congrArg List.length hr
  rw [drop_len] at hl
  simp only [List.length_cons] at hl
  have h1 : k + 1 < s.size := by omega
  have hd := drop_at s k hk
  rw [drop_at s (k + 1) h1, hr] at hd
  injection hd with a b
  injection b with b _
  exact ⟨h1, by rw [← a]; rfl, by rw [← b]; rfl⟩
theorem slash_not (s : ByteArray) (k : Nat) (hk : k < s.size) (h : ¬ slash2.isPrefixOf ((bs s).drop k) = true) : ¬ s[k].toNat = 47 ∨ (s[k].toNat = 47 ∧ s.size ≤ k + 1) ∨ (s[k].toNat = 47 ∧ ∃ h1 : k + 1 < s.size, ¬ s[k + 1].toNat = 47) := by
  by_cases h47 : s[k].toNat = 47
  · by_cases h1 : k + 1 < s.size
    · refine .inr (.inr ⟨h47, h1, fun hb => h ?_⟩)
      rw [slash2_iff]
      refine ⟨(bs s).drop (k + 1 + 1), ?_⟩
      rw [drop_at s k hk, drop_at s (k + 1) h1, show s[k] = 47 from UInt8.toNat_inj.1 (by rw [h47]; rfl), show s[k + 1] = 47 from UInt8.toNat_inj.1 (by rw [hb]; rfl)]
    · exact .inr (.inl ⟨h47, by omega⟩)
  · exact .inl h47
set_option maxRecDepth 100000 in
set_option maxHeartbeats 2000000 in
theorem rall_small (s : ByteArray) (hs : s.size ≤ 20000) (w : World) (R : Res) (hR : lexGo (s.size + 1) (bs s) (1, 1) [] = R) :
    Calls Try.prog 10 #[.string s] w fun e w' => ∃ v, e = .returned (.tuple #[v, .agg #[.int .i64 R.code, .int .i64 R.line, .int .i64 R.col]]) ∧ w'.ownsRow w.heap.size 61 5 v R.toks.length (rowC R.toks) ∧ Below w.heap.size w w' := by
  have HR := Lib.hid hR
  clear hR
  obtain ⟨i0, hi, hz0, hz1, hz2'⟩ := info_parts rtok_info
  go_enter Try.func10, Try.ntmps10
  go_wp2
  go_loopg [4, 5, 6, 7] s.size (fun g v l fr at_ wr => ∃ (f k line frm : Nat) (out : List Tok), g = s.size - k ∧ l = .int .i64 line ∧ fr = .int .i64 frm ∧ at_ = .int .i64 k ∧ RI s w f k line frm out v wr)
  case atStart => exact ⟨_, 0, 1, 0, [], rfl, rfl, rfl, rfl, ri_start s w⟩
  case round =>
    obtain ⟨f, k, line, frm, out, hg, rfl, rfl, rfl, hI⟩ := hrel
    have HG := Lib.hid hg
    have HI := Lib.hid hI
    have h1 := hI.le
    have h2 := hI.frm_le
    have h3 := hI.line_le
    have h4 := hI.max
    clear hg hI
    by_cases hlt : k < s.size
    · by_cases h10 : s[k].toNat = 10
      · have e10 : ((s[k].toNat : Int) == 10) = true := by rw [beq_iff_eq]; omega
        have HN := Lib.hid (ri_newline HI.out hlt h10)
        clear h10
        go_wp2_with fail
        go_roundg (s.size - (k + 1))
        case measure => rw [HG.out]; omega
        case rel => exact ⟨f, k + 1, line + 1, k + 1, out, rfl, by go_num, by go_num, by go_num, HN.out⟩
      · have e10 : ((s[k].toNat : Int) == 10) = false := by rw [beq_eq_false_iff_ne]; omega
        by_cases hbl : blankB s[k] = true
        · have HN := Lib.hid (ri_blank HI.out hlt h10 hbl)
          have hor : s[k].toNat = 32 ∨ s[k].toNat = 9 ∨ s[k].toNat = 13 := by unfold blankB at hbl; simp at hbl; omega
          clear hbl h10
          rcases hor with hv | hv | hv
          · have e32 : ((s[k].toNat : Int) == 32) = true := by rw [beq_iff_eq]; omega
            clear hv
            go_wp2_with fail
            go_roundg (s.size - (k + 1))
            case measure => rw [HG.out]; omega
            case rel => exact ⟨f, k + 1, line, frm, out, rfl, by go_num, by go_num, by go_num, HN.out⟩
          · have e32 : ((s[k].toNat : Int) == 32) = false := by rw [beq_eq_false_iff_ne]; omega
            have e9 : ((s[k].toNat : Int) == 9) = true := by rw [beq_iff_eq]; omega
            clear hv
            go_wp2_with fail
            go_roundg (s.size - (k + 1))
            case measure => rw [HG.out]; omega
            case rel => exact ⟨f, k + 1, line, frm, out, rfl, by go_num, by go_num, by go_num, HN.out⟩
          · have e32 : ((s[k].toNat : Int) == 32) = false := by rw [beq_eq_false_iff_ne]; omega
            have e9 : ((s[k].toNat : Int) == 9) = false := by rw [beq_eq_false_iff_ne]; omega
            have e13 : ((s[k].toNat : Int) == 13) = true := by rw [beq_iff_eq]; omega
            clear hv
            go_wp2_with fail
            go_roundg (s.size - (k + 1))
            case measure => rw [HG.out]; omega
            case rel => exact ⟨f, k + 1, line, frm, out, rfl, by go_num, by go_num, by go_num, HN.out⟩
        · have hnb : ¬ s[k].toNat = 32 ∧ ¬ s[k].toNat = 9 ∧ ¬ s[k].toNat = 13 := by unfold blankB at hbl; simp at hbl; omega
          obtain ⟨hb1, hb2, hb3⟩ := hnb
          have e32 : ((s[k].toNat : Int) == 32) = false := by rw [beq_eq_false_iff_ne]; omega
          have e9 : ((s[k].toNat : Int) == 9) = false := by rw [beq_eq_false_iff_ne]; omega
          have e13 : ((s[k].toNat : Int) == 13) = false := by rw [beq_eq_false_iff_ne]; omega
          have HBF := Lib.hid (eq_false_of_ne_true hbl)
          clear hb1 hb2 hb3 hbl h10
          by_cases hp : slash2.isPrefixOf ((bs s).drop k) = true
          · obtain ⟨hk1, h47, h47b⟩ := slash_at s k hlt hp
            have e47 : ((s[k].toNat : Int) == 47) = true := by rw [beq_iff_eq]; omega
            have e47b : ((s[k + 1].toNat : Int) == 47) = true := by rw [beq_iff_eq]; omega
            have HN := Lib.hid (ri_remark HI.out hp)
            have hrl := twAt_le lineB s k (by omega)
            have hrp := line_pos _ hp
            clear h47 h47b
            obtain ⟨wo, hwo⟩ : ∃ wo, wo = wr := ⟨_, rfl⟩
            subst hwo
            go_wp2_with fail
            go_loop [7] (fun n => ∃ i : Nat, i ≤ twL lineB ((bs s).drop k) ∧ n = .int .i64 ((k + i : Nat) : Int)) (fun n => s.size - (intOf n).toNat)
            case atStart => exact ⟨0, Nat.zero_le _, rfl⟩
            case round =>
              obtain ⟨i, hi9, rfl⟩ := hrel
              obtain ⟨j, hj⟩ : ∃ j, j = k + i := ⟨_, rfl⟩
              rw [← hj]
              by_cases hjl : j < s.size
              · have hib : lineB s[j] = true ↔ i < twL lineB ((bs s).drop k) := by subst hj; exact spanAt_iff lineB s k i hjl hi9
                by_cases hln : lineB s[j] = true
                · have hil := hib.1 hln
                  have en : ((s[j].toNat : Int) == 10) = false := by unfold lineB at hln; rw [bne_iff_ne] at hln; rw [beq_eq_false_iff_ne]; omega
                  have en2 : ((s[j].toNat : Int) != 10) = true := by unfold lineB at hln; rw [bne_iff_ne] at hln; rw [bne_iff_ne]; omega
                  have HJ := Lib.hid hj
                  clear hib hln hj
                  go_wp2_with fail
                  go_round
                  case rel => exact ⟨i + 1, by omega, by have := HJ.out; go_num⟩
                  case measure => simp [intOf]; omega
                · have hil : i = twL lineB ((bs s).drop k) := by
                    have : ¬ i < twL lineB ((bs s).drop k) := fun h => hln (hib.2 h)
                    omega
                  have en : ((s[j].toNat : Int) == 10) = true := by unfold lineB at hln; rw [beq_iff_eq]; simp at hln; omega
                  have en2 : ((s[j].toNat : Int) != 10) = false := by unfold lineB at hln; rw [bne_eq_false_iff_eq]; simp at hln; omega
                  have hi2 : 2 ≤ i := by omega
                  rw [← hil, ← hj] at HN
                  have HJ := Lib.hid hj
                  clear hib hln hj hil
                  go_wp2_with fail
                  go_roundg (s.size - j)
                  case measure => rw [HG.out]; have := HJ.out; omega
                  case rel => exact ⟨f, j, line, frm, out, rfl, rfl, rfl, rfl, HN.out⟩
              · have hil : i = twL lineB ((bs s).drop k) := by omega
                have hi2 : 2 ≤ i := by omega
                rw [← hil, ← hj] at HN
                have HJ := Lib.hid hj
                have hjs : s.size ≤ j := by omega
                clear hj hil
                go_wp2_with fail
                go_roundg (s.size - j)
                case measure => rw [HG.out]; have := HJ.out; omega
                case rel => exact ⟨f, j, line, frm, out, rfl, rfl, rfl, rfl, HN.out⟩
          · have HPF := Lib.hid (eq_false_of_ne_true hp)
            obtain ⟨t, hT⟩ : ∃ t, tokS ((bs s).drop k) = t := ⟨_, rfl⟩
            obtain ⟨f', hf', hat⟩ := ri_at HI.out hlt HBF.out HPF.out t hT
            have HT := Lib.hid hT
            have HAT := Lib.hid hat
            have hsl := slash_not s k hlt hp
            clear hf' hat hT hp
            obtain ⟨ao, cp, rfl⟩ := own_slice HI.out.own
            have e0 := HI.out.err.at_ 0
            have e1 := HI.out.err.at_ 1
            have e2 := HI.out.err.at_ 2
            have g0 := HI.out.err.free 0
            have g1 := HI.out.err.free 1
            have g2 := HI.out.err.free 2
            simp only [err0, List.getElem?_toArray, List.getElem?_cons_zero, List.getElem?_cons_succ] at e0 e1 e2
            rcases hsl with h47 | ⟨h47, hk1⟩ | ⟨h47, hk1, h47b⟩
            · have e47 : ((s[k].toNat : Int) == 47) = false := by rw [beq_eq_false_iff_ne]; omega
              clear h47
              by_cases h8 : out.length = 8000
              · have h8b : ((out.length : Int) == 8000) = true := by rw [beq_iff_eq]; omega
                have H8 := Lib.hid h8
                clear h8
                go_wp2_with fail
                refine bodyPost_ret (v := .tuple #[.slice none 0 0, .agg #[.int .i64 2, .int .i64 line, .int .i64 ((k : Int) - frm + 1)]]) (by simp [results, Try.results10, go_sem, e0, e1, e2]) rfl ⟨.slice none 0 0, ?_, ?_, ?_⟩
                · rw [← HR.out, HAT.out, if_pos H8.out]; exact rerr _ _ _ _ _ (by simp only []; omega)
                · rw [← HR.out, HAT.out, if_pos H8.out]; exact World.ownsRow_nil _ _ _ _
                · exact ((HI.out.below.setCell (Nat.le_refl _) _).setCell (Nat.le_refl _) _).setCell (Nat.le_refl _) _
              · have h8b : ((out.length : Int) == 8000) = false := by rw [beq_eq_false_iff_ne]; omega
                have h8' : out.length < 8000 := by omega
                have H8 := Lib.hid h8
                clear h8
                go_wp2_with fail
                refine (rone_any s k hlt (by omega) _).mono ?_
                rintro e w2 ⟨rfl, hb2⟩
                rw [HT.out]
                unfold rtokV
                have hsz1 := HI.out.err.lt
                have hsz2 := hb2.size
                have herr := HI.out.err.below hb2 hsz1
                have hown := own_below HI.out.own hb2
                have hbel := HI.out.below.trans (hb2.mono HI.out.below.size)
                have e0 := herr.at_ 0
                have e1 := herr.at_ 1
                have e2 := herr.at_ 2
                have g0 := herr.free 0
                have g1 := herr.free 1
                have g2 := herr.free 2
                simp only [err0, List.getElem?_toArray, List.getElem?_cons_zero, List.getElem?_cons_succ] at e0 e1 e2
                have HE := Lib.hid herr
                have HO := Lib.hid hown
                have HB := Lib.hid hbel
                clear herr hown hbel hb2
                have hz3 : w.heap.size < w2.heap.size := by omega
                by_cases hc : t.code = 0
                · have hcz : ((t.code : Int) == 0) = true := by rw [beq_iff_eq]; omega
                  have hcz2 : ((t.code : Int) != 0) = false := by rw [bne_eq_false_iff_eq]; omega
                  rw [if_pos hc]
                  have HK := Lib.hid hc
                  clear hc
                  go_wp2_with (at_builtin; refine wpList_append_own _ rfl (.tmp 102) (.tmp 104) 31 rfl w.heap.size 61 i0 (.agg tok0) 5 48 Try.underlying31 hi hz0 hz1 hz2' rfl (by decide) _ _ _ rfl ((HO.out.alloc _).alloc _) ⟨w2.heap.size + 1, 0, none⟩ 1 1 [.int .i64 t.kind, .string (takeB (cutB s k) t.len), .int .i64 line, .int .i64 ((k : Int) - frm + 1), .int .u64 t.val] rfl rfl ?da1 ?da2 ?da3 ?da4 ?da5 ?_)
                  case da1 => exact cells_made2 _ _ _ _
                  case da2 => intro u hu; simp at hu; rcases hu with rfl | rfl | rfl | rfl | rfl <;> rfl
                  case da3 => unfold maxLen; omega
                  case da4 => omega
                  case da5 => have := HB.out.size; simp <;> omega
                  intro v2 w3 hown3 hgr _
                  have herr3 : Is w3 w.heap.size 33 err0 := (HE.out.alloc _).on (HO.out.alloc _) (by decide) rfl hgr
                  have hb3 := below_on (HB.out.alloc HB.out.size _) (HO.out.alloc _) (Nat.le_refl _) (by have := HB.out.size; simp; omega) hgr
                  have hcol : (.int .i64 ((k : Int) - frm + 1) : Value) = .int .i64 ((k - frm + 1 : Nat) : Int) := by congr 1; omega
                  rw [hcol] at hown3
                  have HN := Lib.hid (ri_next HI.out hlt HBF.out HPF.out HT.out H8.out HK.out herr3 hown3 hb3)
                  clear hown3 hgr herr3 hb3 hcol
                  go_wp2_with fail
                  have hn2 := HN.out.2.1
                  have hn3 := HN.out.2.2
                  go_roundg (s.size - (k + t.len))
                  case measure => rw [HG.out]; omega
                  case rel => exact ⟨f - 1, k + t.len, line, frm, _, rfl, rfl, rfl, by go_num, HN.out.1⟩
                · have hcz : ((t.code : Int) == 0) = false := by rw [beq_eq_false_iff_ne]; omega
                  have hcz2 : ((t.code : Int) != 0) = true := by rw [bne_iff_ne]; omega
                  rw [if_neg hc]
                  have HK := Lib.hid hc
                  clear hc
                  go_wp2_with fail
                  refine bodyPost_ret (v := .tuple #[.slice none 0 0, .agg #[.int .i64 t.code, .int .i64 line, .int .i64 ((k : Int) - frm + 1)]]) (by simp [results, Try.results10, go_sem, e0, e1, e2, hz3]) rfl ⟨.slice none 0 0, ?_, ?_, ?_⟩
                  · rw [← HR.out, HAT.out, if_neg H8.out, if_pos HK.out]; exact rerr _ _ _ _ _ (by simp only []; omega)
                  · rw [← HR.out, HAT.out, if_neg H8.out, if_pos HK.out]; exact World.ownsRow_nil _ _ _ _
                  · exact (((HB.out.setCell (Nat.le_refl _) _).setCell (Nat.le_refl _) _).setCell (Nat.le_refl _) _).alloc (by have := HB.out.size; simp <;> omega) _
            · have e47 : ((s[k].toNat : Int) == 47) = true := by rw [beq_iff_eq]; omega
              clear h47
              by_cases h8 : out.length = 8000
              · have h8b : ((out.length : Int) == 8000) = true := by rw [beq_iff_eq]; omega
                have H8 := Lib.hid h8
                clear h8
                go_wp2_with fail
                refine bodyPost_ret (v := .tuple #[.slice none 0 0, .agg #[.int .i64 2, .int .i64 line, .int .i64 ((k : Int) - frm + 1)]]) (by simp [results, Try.results10, go_sem, e0, e1, e2]) rfl ⟨.slice none 0 0, ?_, ?_, ?_⟩
                · rw [← HR.out, HAT.out, if_pos H8.out]; exact rerr _ _ _ _ _ (by simp only []; omega)
                · rw [← HR.out, HAT.out, if_pos H8.out]; exact World.ownsRow_nil _ _ _ _
                · exact ((HI.out.below.setCell (Nat.le_refl _) _).setCell (Nat.le_refl _) _).setCell (Nat.le_refl _) _
              · have h8b : ((out.length : Int) == 8000) = false := by rw [beq_eq_false_iff_ne]; omega
                have h8' : out.length < 8000 := by omega
                have H8 := Lib.hid h8
                clear h8
                go_wp2_with fail
                refine (rone_any s k hlt (by omega) _).mono ?_
                rintro e w2 ⟨rfl, hb2⟩
                rw [HT.out]
                unfold rtokV
                have hsz1 := HI.out.err.lt
                have hsz2 := hb2.size
                have herr := HI.out.err.below hb2 hsz1
                have hown := own_below HI.out.own hb2
                have hbel := HI.out.below.trans (hb2.mono HI.out.below.size)
                have e0 := herr.at_ 0
                have e1 := herr.at_ 1
                have e2 := herr.at_ 2
                have g0 := herr.free 0
                have g1 := herr.free 1
                have g2 := herr.free 2
                simp only [err0, List.getElem?_toArray, List.getElem?_cons_zero, List.getElem?_cons_succ] at e0 e1 e2
                have HE := Lib.hid herr
                have HO := Lib.hid hown
                have HB := Lib.hid hbel
                clear herr hown hbel hb2
                have hz3 : w.heap.size < w2.heap.size := by omega
                by_cases hc : t.code = 0
                · have hcz : ((t.code : Int) == 0) = true := by rw [beq_iff_eq]; omega
                  have hcz2 : ((t.code : Int) != 0) = false := by rw [bne_eq_false_iff_eq]; omega
                  rw [if_pos hc]
                  have HK := Lib.hid hc
                  clear hc
                  go_wp2_with (at_builtin; refine wpList_append_own _ rfl (.tmp 102) (.tmp 104) 31 rfl w.heap.size 61 i0 (.agg tok0) 5 48 Try.underlying31 hi hz0 hz1 hz2' rfl (by decide) _ _ _ rfl ((HO.out.alloc _).alloc _) ⟨w2.heap.size + 1, 0, none⟩ 1 1 [.int .i64 t.kind, .string (takeB (cutB s k) t.len), .int .i64 line, .int .i64 ((k : Int) - frm + 1), .int .u64 t.val] rfl rfl ?db1 ?db2 ?db3 ?db4 ?db5 ?_)
                  case db1 => exact cells_made2 _ _ _ _
                  case db2 => intro u hu; simp at hu; rcases hu with rfl | rfl | rfl | rfl | rfl <;> rfl
                  case db3 => unfold maxLen; omega
                  case db4 => omega
                  case db5 => have := HB.out.size; simp <;> omega
                  intro v2 w3 hown3 hgr _
                  have herr3 : Is w3 w.heap.size 33 err0 := (HE.out.alloc _).on (HO.out.alloc _) (by decide) rfl hgr
                  have hb3 := below_on (HB.out.alloc HB.out.size _) (HO.out.alloc _) (Nat.le_refl _) (by have := HB.out.size; simp; omega) hgr
                  have hcol : (.int .i64 ((k : Int) - frm + 1) : Value) = .int .i64 ((k - frm + 1 : Nat) : Int) := by congr 1; omega
                  rw [hcol] at hown3
                  have HN := Lib.hid (ri_next HI.out hlt HBF.out HPF.out HT.out H8.out HK.out herr3 hown3 hb3)
                  clear hown3 hgr herr3 hb3 hcol
                  go_wp2_with fail
                  have hn2 := HN.out.2.1
                  have hn3 := HN.out.2.2
                  go_roundg (s.size - (k + t.len))
                  case measure => rw [HG.out]; omega
                  case rel => exact ⟨f - 1, k + t.len, line, frm, _, rfl, rfl, rfl, by go_num, HN.out.1⟩
                · have hcz : ((t.code : Int) == 0) = false := by rw [beq_eq_false_iff_ne]; omega
                  have hcz2 : ((t.code : Int) != 0) = true := by rw [bne_iff_ne]; omega
                  rw [if_neg hc]
                  have HK := Lib.hid hc
                  clear hc
                  go_wp2_with fail
                  refine bodyPost_ret (v := .tuple #[.slice none 0 0, .agg #[.int .i64 t.code, .int .i64 line, .int .i64 ((k : Int) - frm + 1)]]) (by simp [results, Try.results10, go_sem, e0, e1, e2, hz3]) rfl ⟨.slice none 0 0, ?_, ?_, ?_⟩
                  · rw [← HR.out, HAT.out, if_neg H8.out, if_pos HK.out]; exact rerr _ _ _ _ _ (by simp only []; omega)
                  · rw [← HR.out, HAT.out, if_neg H8.out, if_pos HK.out]; exact World.ownsRow_nil _ _ _ _
                  · exact (((HB.out.setCell (Nat.le_refl _) _).setCell (Nat.le_refl _) _).setCell (Nat.le_refl _) _).alloc (by have := HB.out.size; simp <;> omega) _
            · have e47 : ((s[k].toNat : Int) == 47) = true := by rw [beq_iff_eq]; omega
              have e47b : ((s[k + 1].toNat : Int) == 47) = false := by rw [beq_eq_false_iff_ne]; omega
              clear h47 h47b
              by_cases h8 : out.length = 8000
              · have h8b : ((out.length : Int) == 8000) = true := by rw [beq_iff_eq]; omega
                have H8 := Lib.hid h8
                clear h8
                go_wp2_with fail
                refine bodyPost_ret (v := .tuple #[.slice none 0 0, .agg #[.int .i64 2, .int .i64 line, .int .i64 ((k : Int) - frm + 1)]]) (by simp [results, Try.results10, go_sem, e0, e1, e2]) rfl ⟨.slice none 0 0, ?_, ?_, ?_⟩
                · rw [← HR.out, HAT.out, if_pos H8.out]; exact rerr _ _ _ _ _ (by simp only []; omega)
                · rw [← HR.out, HAT.out, if_pos H8.out]; exact World.ownsRow_nil _ _ _ _
                · exact ((HI.out.below.setCell (Nat.le_refl _) _).setCell (Nat.le_refl _) _).setCell (Nat.le_refl _) _
              · have h8b : ((out.length : Int) == 8000) = false := by rw [beq_eq_false_iff_ne]; omega
                have h8' : out.length < 8000 := by omega
                have H8 := Lib.hid h8
                clear h8
                go_wp2_with fail
                refine (rone_any s k hlt (by omega) _).mono ?_
                rintro e w2 ⟨rfl, hb2⟩
                rw [HT.out]
                unfold rtokV
                have hsz1 := HI.out.err.lt
                have hsz2 := hb2.size
                have herr := HI.out.err.below hb2 hsz1
                have hown := own_below HI.out.own hb2
                have hbel := HI.out.below.trans (hb2.mono HI.out.below.size)
                have e0 := herr.at_ 0
                have e1 := herr.at_ 1
                have e2 := herr.at_ 2
                have g0 := herr.free 0
                have g1 := herr.free 1
                have g2 := herr.free 2
                simp only [err0, List.getElem?_toArray, List.getElem?_cons_zero, List.getElem?_cons_succ] at e0 e1 e2
                have HE := Lib.hid herr
                have HO := Lib.hid hown
                have HB := Lib.hid hbel
                clear herr hown hbel hb2
                have hz3 : w.heap.size < w2.heap.size := by omega
                by_cases hc : t.code = 0
                · have hcz : ((t.code : Int) == 0) = true := by rw [beq_iff_eq]; omega
                  have hcz2 : ((t.code : Int) != 0) = false := by rw [bne_eq_false_iff_eq]; omega
                  rw [if_pos hc]
                  have HK := Lib.hid hc
                  clear hc
                  go_wp2_with (at_builtin; refine wpList_append_own _ rfl (.tmp 102) (.tmp 104) 31 rfl w.heap.size 61 i0 (.agg tok0) 5 48 Try.underlying31 hi hz0 hz1 hz2' rfl (by decide) _ _ _ rfl ((HO.out.alloc _).alloc _) ⟨w2.heap.size + 1, 0, none⟩ 1 1 [.int .i64 t.kind, .string (takeB (cutB s k) t.len), .int .i64 line, .int .i64 ((k : Int) - frm + 1), .int .u64 t.val] rfl rfl ?dc1 ?dc2 ?dc3 ?dc4 ?dc5 ?_)
                  case dc1 => exact cells_made2 _ _ _ _
                  case dc2 => intro u hu; simp at hu; rcases hu with rfl | rfl | rfl | rfl | rfl <;> rfl
                  case dc3 => unfold maxLen; omega
                  case dc4 => omega
                  case dc5 => have := HB.out.size; simp <;> omega
                  intro v2 w3 hown3 hgr _
                  have herr3 : Is w3 w.heap.size 33 err0 := (HE.out.alloc _).on (HO.out.alloc _) (by decide) rfl hgr
                  have hb3 := below_on (HB.out.alloc HB.out.size _) (HO.out.alloc _) (Nat.le_refl _) (by have := HB.out.size; simp; omega) hgr
                  have hcol : (.int .i64 ((k : Int) - frm + 1) : Value) = .int .i64 ((k - frm + 1 : Nat) : Int) := by congr 1; omega
                  rw [hcol] at hown3
                  have HN := Lib.hid (ri_next HI.out hlt HBF.out HPF.out HT.out H8.out HK.out herr3 hown3 hb3)
                  clear hown3 hgr herr3 hb3 hcol
                  go_wp2_with fail
                  have hn2 := HN.out.2.1
                  have hn3 := HN.out.2.2
                  go_roundg (s.size - (k + t.len))
                  case measure => rw [HG.out]; omega
                  case rel => exact ⟨f - 1, k + t.len, line, frm, _, rfl, rfl, rfl, by go_num, HN.out.1⟩
                · have hcz : ((t.code : Int) == 0) = false := by rw [beq_eq_false_iff_ne]; omega
                  have hcz2 : ((t.code : Int) != 0) = true := by rw [bne_iff_ne]; omega
                  rw [if_neg hc]
                  have HK := Lib.hid hc
                  clear hc
                  go_wp2_with fail
                  refine bodyPost_ret (v := .tuple #[.slice none 0 0, .agg #[.int .i64 t.code, .int .i64 line, .int .i64 ((k : Int) - frm + 1)]]) (by simp [results, Try.results10, go_sem, e0, e1, e2, hz3]) rfl ⟨.slice none 0 0, ?_, ?_, ?_⟩
                  · rw [← HR.out, HAT.out, if_neg H8.out, if_pos HK.out]; exact rerr _ _ _ _ _ (by simp only []; omega)
                  · rw [← HR.out, HAT.out, if_neg H8.out, if_pos HK.out]; exact World.ownsRow_nil _ _ _ _
                  · exact (((HB.out.setCell (Nat.le_refl _) _).setCell (Nat.le_refl _) _).setCell (Nat.le_refl _) _).alloc (by have := HB.out.size; simp <;> omega) _
    · have hks : k = s.size := by omega
      have HEND := Lib.hid ((HR.out.symm.trans (ri_end HI.out hks)))
      obtain ⟨ao, cp, rfl⟩ := own_slice HI.out.own
      clear hks
      go_wp2_with (at_builtin; refine wpList_append_own _ rfl (.tmp 107) (.tmp 114) 31 rfl w.heap.size 61 i0 (.agg tok0) 5 48 Try.underlying31 hi hz0 hz1 hz2' rfl (by decide) _ _ _ rfl (HI.out.own.alloc _) ⟨wr.heap.size, 0, none⟩ 1 1 [.int .i64 0, .string ⟨#[]⟩, .int .i64 line, .int .i64 ((k : Int) - frm + 1), .int .u64 0] rfl rfl ?c1 ?c2 ?c3 ?c4 ?c5 ?_)
      case c1 => exact cells_made _ _ _
      case c2 => intro u hu; simp at hu; rcases hu with rfl | rfl | rfl | rfl | rfl <;> rfl
      case c3 => unfold maxLen; omega
      case c4 => omega
      case c5 => have := HI.out.below.size; simp <;> omega
      intro v2 w2 hown2 hgr _
      have he3 := HI.out.err.on HI.out.own (by decide) rfl hgr
      have hb3 := below_on HI.out.below HI.out.own (Nat.le_refl _) HI.out.below.size hgr
      have e0 := he3.at_ 0
      have e1 := he3.at_ 1
      have e2 := he3.at_ 2
      have g0 := he3.free 0
      have g1 := he3.free 1
      have g2 := he3.free 2
      simp only [err0, List.getElem?_toArray, List.getElem?_cons_zero, List.getElem?_cons_succ] at e0 e1 e2
      go_wp2
      refine bodyPost_ret (v := .tuple #[v2, .agg #[.int .i64 0, .int .i64 0, .int .i64 0]]) (by simp [results, Try.results10, go_sem, e0, e1, e2]) rfl ⟨v2, ?_, ?_, ?_⟩
      · rw [HEND.out]; rfl
      · rw [HEND.out]
        have hcol : (.int .i64 ((k : Int) - frm + 1) : Value) = .int .i64 ((k - frm + 1 : Nat) : Int) := by congr 1; omega
        rw [hcol] at hown2
        exact own_put (by rw [List.length_append, rowC_snoc]; exact hown2) he3 (by decide)
      · exact ((hb3.setCell (Nat.le_refl _) _).setCell (Nat.le_refl _) _).setCell (Nat.le_refl _) _
theorem rall_any (s : ByteArray) (hs : s.size ≤ maxLen) (w : World) :
    Calls Try.prog 10 #[.string s] w fun e w' => ∃ v, e = .returned (.tuple #[v, .agg #[.int .i64 (lexAll (bs s)).code, .int .i64 (lexAll (bs s)).line, .int .i64 (lexAll (bs s)).col]]) ∧ w'.ownsRow w.heap.size 61 5 v (lexAll (bs s)).toks.length (rowC (lexAll (bs s)).toks) ∧ Below w.heap.size w w' := by
  unfold maxLen at hs
  by_cases h : 20000 < s.size
  · have hR : lexAll (bs s) = ⟨[], 2, 0, 0⟩ := if_pos (by rw [bs_len]; exact h)
    rw [hR]
    clear hR
    go_enter Try.func10, Try.ntmps10
    go_wp2
    refine bodyPost_ret (v := .tuple #[.slice none 0 0, .agg #[.int .i64 2, .int .i64 0, .int .i64 0]]) (by simp [results, Try.results10, go_sem]) rfl ⟨.slice none 0 0, rfl, World.ownsRow_nil _ _ _ _, (Below.refl _ _).alloc (Nat.le_refl _) _⟩
  · exact rall_small s (by omega) w _ (if_neg (by rw [bs_len]; exact h)).symm
end Go.Proofs.Ytccajbcblbfgnaa

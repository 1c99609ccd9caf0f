/- The walk of layer 1's All: a text's tokens. -/
import Derived.Test.YtccajbcblbfgnaaLexM
namespace Go.Proofs.Ytccajbcblbfgnaa
open Go.RowKit Lx
def tokC (t : Tok) : List Value := [.int .i64 t.kind, .string t.text, .int .i64 t.line, .int .i64 t.col, .int .u64 t.val]
def rowC (l : List Tok) : List Value := l.flatMap tokC
theorem rowC_len (l : List Tok) : (rowC l).length = l.length * 5 := by
  induction l with
  | nil => rfl
  | cons t r ih => simp only [rowC, List.flatMap_cons, List.length_append, List.length_cons] at ih ⊢; rw [ih]; simp [tokC]; omega
def err0 : Array Value := #[.int .i64 0, .int .i64 0, .int .i64 0]
theorem tok_info : (Try.prog.info? 42).map (fun i => (i.zero, i.size, i.bytes)) = some (some (.agg tok0), 5, 48) := by kernel_rfl
/-- What is known ahead of a token. -/
structure LI (s : ByteArray) (w : World) (f k : Nat) (out : List Tok) (v : Value) (wr : World) : Prop where
  go : lexGo (s.size + 1) (bs s) (1, 1) [] = lexGo f ((bs s).drop k) (adv (1, 1) ((bs s).take k)) out
  fuel : s.size - k < f
  le : k ≤ s.size
  few : out.length ≤ k
  max : out.length ≤ 8000
  cur : Is wr (w.heap.size + 1) 56 (curs (cutB s k) (adv (1, 1) ((bs s).take k)))
  err : Is wr w.heap.size 28 err0
  own : wr.ownsRow w.heap.size 42 5 v out.length (rowC out)
  below : Below w.heap.size w wr
/-- What lexGo is behind what may stand ahead of a token. -/
def lexAt (s : ByteArray) (f j : Nat) (out : List Tok) : Res :=
  if (bs s).drop j = [] then ⟨out ++ [⟨0, ⟨#[]⟩, (adv (1, 1) ((bs s).take j)).1, (adv (1, 1) ((bs s).take j)).2, 0⟩], 0, 0, 0⟩
  else if out.length = 8000 then ⟨[], 2, (adv (1, 1) ((bs s).take j)).1, (adv (1, 1) ((bs s).take j)).2⟩
  else if (tokS ((bs s).drop j)).code ≠ 0 then ⟨[], (tokS ((bs s).drop j)).code, (adv (1, 1) ((bs s).take j)).1, (adv (1, 1) ((bs s).take j)).2⟩
  else lexGo f ((bs s).drop (j + (tokS ((bs s).drop j)).len)) (adv (1, 1) ((bs s).take (j + (tokS ((bs s).drop j)).len)))
    (out ++ [⟨(tokS ((bs s).drop j)).kind, takeB (cutB s j) (tokS ((bs s).drop j)).len, (adv (1, 1) ((bs s).take j)).1, (adv (1, 1) ((bs s).take j)).2, (tokS ((bs s).drop j)).val⟩])
theorem lexGo_at (s : ByteArray) (f k j : Nat) (out : List Tok) (hj : j = k + sk false ((bs s).drop k)) : lexGo (f + 1) ((bs s).drop k) (adv (1, 1) ((bs s).take k)) out = lexAt s f j out := by
  subst hj
  have e1 : ((bs s).drop k).drop (sk false ((bs s).drop k)) = (bs s).drop (k + sk false ((bs s).drop k)) := by rw [List.drop_drop]
  have e2 : adv (adv (1, 1) ((bs s).take k)) (((bs s).drop k).take (sk false ((bs s).drop k))) = adv (1, 1) ((bs s).take (k + sk false ((bs s).drop k))) := by rw [← adv_append, ← List.take_add]
  have e3 : ∀ j n, adv (adv (1, 1) ((bs s).take j)) (((bs s).drop j).take n) = adv (1, 1) ((bs s).take (j + n)) := fun j n => by rw [← adv_append, ← List.take_add]
  unfold lexAt
  simp only [lexGo]
  rw [e1, e2, e3, List.drop_drop]
  rfl
structure LJ (s : ByteArray) (w : World) (f j : Nat) (out : List Tok) (v : Value) (wr : World) : Prop where
  go : lexGo (s.size + 1) (bs s) (1, 1) [] = lexAt s f j out
  fuel : s.size - j ≤ f
  le : j ≤ s.size
  few : out.length ≤ j
  max : out.length ≤ 8000
  cur : Is wr (w.heap.size + 1) 56 (curs (cutB s j) (adv (1, 1) ((bs s).take j)))
  err : Is wr w.heap.size 28 err0
  own : wr.ownsRow w.heap.size 42 5 v out.length (rowC out)
  below : Below w.heap.size w wr
theorem li_start (s : ByteArray) (w : World) : LI s w (s.size + 1) 0 [] (.slice none 0 0) ((w.alloc (.cells err0 28)).alloc (.cells (curs s (1, 1)) 56)) := by
  refine ⟨rfl, by omega, by omega, by simp, by simp, ?_, (Is.made w _ _).alloc _, World.ownsRow_nil _ _ _ _, ((Below.refl _ _).alloc (Nat.le_refl _) _).alloc (by simp) _⟩
  have := Is.made (w.alloc (.cells err0 28)) 56 (curs s (1, 1))
  rw [show (w.alloc (.cells err0 28)).heap.size = w.heap.size + 1 from by simp] at this
  exact this
theorem li_skip {s : ByteArray} {w : World} {f k : Nat} {out : List Tok} {v : Value} {wr w1 : World} (h : LI s w f k out v wr)
    (hi : Is w1 (w.heap.size + 1) 56 (curs (cutB (cutB s k) (skN (cutB s k))) (adv (adv (1, 1) ((bs s).take k)) ((bs (cutB s k)).take (skN (cutB s k)))))) (hb : But (w.heap.size + 1) wr w1) :
    LJ s w (f - 1) (k + skN (cutB s k)) out v w1 := by
  have hn := skN_le (cutB s k)
  rw [cutB_size] at hn
  have h1 := h.le
  have h2 := h.fuel
  have h3 := h.few
  obtain ⟨f', hf⟩ : ∃ f', f = f' + 1 := ⟨f - 1, by omega⟩
  refine ⟨?_, by omega, by omega, by omega, h.max, ?_, hb.is h.err (by omega), own_but h.own hb h.cur (by decide), h.below.trans ((hb.below (B := w.heap.size) (by omega)))⟩
  · rw [h.go, hf, lexGo_at s f' k _ out rfl]; rfl
  · rw [curs_step] at hi; exact hi
theorem own_slice {w : World} {base : Nat} {e : TypeId} {size n : Nat} {v : Value} {xs : List Value} (h : w.ownsRow base e size v n xs) : ∃ ao c, v = .slice ao n c := by
  rcases h.2 with ⟨rfl, rfl⟩ | ⟨g, cap, cur, rfl, _⟩
  · exact ⟨_, _, rfl⟩
  · exact ⟨_, _, rfl⟩
theorem rowC_snoc (l : List Tok) (t : Tok) : rowC (l ++ [t]) = rowC l ++ tokC t := by simp [rowC]
theorem lj_end {s : ByteArray} {w : World} {f j : Nat} {out : List Tok} {v : Value} {wr : World} {R : Res} (h : LJ s w f j out v wr) (hj : j = s.size) (hR : lexGo (s.size + 1) (bs s) (1, 1) [] = R) :
    R = ⟨out ++ [⟨0, ⟨#[]⟩, (adv (1, 1) ((bs s).take j)).1, (adv (1, 1) ((bs s).take j)).2, 0⟩], 0, 0, 0⟩ := by
  rw [← hR, h.go]
  unfold lexAt
  rw [if_pos (by rw [List.drop_of_length_le (by rw [bs_len]; omega)])]
theorem lj_many {s : ByteArray} {w : World} {f j : Nat} {out : List Tok} {v : Value} {wr : World} {R : Res} (h : LJ s w f j out v wr) (hj : j < s.size) (h8 : out.length = 8000) (hR : lexGo (s.size + 1) (bs s) (1, 1) [] = R) :
    R = ⟨[], 2, (adv (1, 1) ((bs s).take j)).1, (adv (1, 1) ((bs s).take j)).2⟩ := by
  rw [← hR, h.go]
  unfold lexAt
  rw [if_neg (fun e => by have := congrArg List.length e; rw [List.length_drop, bs_len] at this; simp at this; omega), if_pos h8]
theorem lj_bad {s : ByteArray} {w : World} {f j : Nat} {out : List Tok} {v : Value} {wr : World} {R : Res} {t : T} (h : LJ s w f j out v wr) (hj : j < s.size) (h8 : ¬ out.length = 8000) (ht : tokS (bs (cutB s j)) = t) (hc : ¬ t.code = 0)
    (hR : lexGo (s.size + 1) (bs s) (1, 1) [] = R) : R = ⟨[], t.code, (adv (1, 1) ((bs s).take j)).1, (adv (1, 1) ((bs s).take j)).2⟩ := by
  rw [← hR, h.go]
  have ht' : tokS ((bs s).drop j) = t := ht
  unfold lexAt
  rw [if_neg (fun e => by have := congrArg List.length e; rw [List.length_drop, bs_len] at this; simp at this; omega), if_neg h8, ht', if_pos hc]
/-- A token as it is put down. -/
def tokAt (s : ByteArray) (j : Nat) (t : T) : Tok := ⟨t.kind, takeB (cutB s j) t.len, (adv (1, 1) ((bs s).take j)).1, (adv (1, 1) ((bs s).take j)).2, t.val⟩
theorem lj_next {s : ByteArray} {w : World} {f j : Nat} {out : List Tok} {v : Value} {wr : World} {t : T} (h : LJ s w f j out v wr) (hj : j < s.size) (h8 : ¬ out.length = 8000) (ht : tokS (bs (cutB s j)) = t) (hc : t.code = 0) :
    lexGo (s.size + 1) (bs s) (1, 1) [] = lexGo f ((bs s).drop (j + t.len)) (adv (1, 1) ((bs s).take (j + t.len))) (out ++ [tokAt s j t]) := by
  rw [h.go]
  have ht' : tokS ((bs s).drop j) = t := ht
  unfold lexAt
  rw [if_neg (fun e => by have := congrArg List.length e; rw [List.length_drop, bs_len] at this; simp at this; omega), if_neg h8, ht', if_neg (fun h => h hc)]
  rfl
theorem own_put {w : World} {base b : Nat} {e t : TypeId} {size n : Nat} {v : Value} {xs : List Value} {cs : Array Value} {u0 u1 u2 : Value} (h : w.ownsRow base e size v n xs) (hi : Is w b t cs) (hne : e ≠ t) :
    (((w.setCell ⟨b, 0, none⟩ u0).setCell ⟨b, 1, none⟩ u1).setCell ⟨b, 2, none⟩ u2).ownsRow base e size v n xs :=
  own_but h ((((But.refl b w).put 0 u0).put 1 u1).put 2 u2) hi hne
set_option maxHeartbeats 1000000 in
theorem lall_small (s : ByteArray) (hs : s.size ≤ 20000) (w : World) (R : Res) (hR : lexGo (s.size + 1) (bs s) (1, 1) [] = R) :
    Calls Try.prog 9 #[.string s] w fun e w' => ∃ v, e = .returned (.tuple #[v, .agg #[.int .i64 R.code, .int .i64 R.line, .int .i64 R.col]]) ∧ w'.ownsRow w.heap.size 42 5 v R.toks.length (rowC R.toks) ∧ Below w.heap.size w w' := by
  have HR := Lib.hid hR
  clear hR
  obtain ⟨i0, hi, hz0, hz1, hz2'⟩ := info_parts tok_info
  go_enter Try.func9, Try.ntmps9
  go_wp2
  go_loopg [4] s.size (fun g v wr => ∃ (f k : Nat) (out : List Tok), g = s.size - k ∧ LI s w f k out v wr)
  case atStart => exact ⟨_, 0, [], rfl, li_start s w⟩
  case round =>
    obtain ⟨f, k, out, hg, hI⟩ := hrel
    have HG := Lib.hid hg
    have HI := Lib.hid hI
    have h1 := hI.le
    have ha := adv_le (1, 1) ((bs s).take k)
    rw [List.length_take, bs_len, Nat.min_eq_left h1] at ha
    simp only at ha
    clear hg hI
    go_wp2_with fail
    refine (skip_any _ (cutB s k) _ (by rw [cutB_size]; unfold maxLen; omega) (by rw [cutB_size]; omega) (by rw [cutB_size]; omega) _ HI.out.cur).mono ?_
    rintro e w1 ⟨rfl, hi1, hb1⟩
    have HJ := Lib.hid (li_skip HI.out hi1 hb1)
    have hkj : k ≤ k + skN (cutB s k) := by omega
    clear hi1 hb1
    generalize k + skN (cutB s k) = j at HJ hkj
    have c0 := HJ.out.cur.at_ 0
    have c1 := HJ.out.cur.at_ 1
    have c2 := HJ.out.cur.at_ 2
    have f0 := HJ.out.cur.free 0
    have f1 := HJ.out.cur.free 1
    have f2 := HJ.out.cur.free 2
    have e0 := HJ.out.err.at_ 0
    have e1 := HJ.out.err.at_ 1
    have e2 := HJ.out.err.at_ 2
    have g0 := HJ.out.err.free 0
    have g1 := HJ.out.err.free 1
    have g2 := HJ.out.err.free 2
    simp only [curs, err0, List.getElem?_toArray, List.getElem?_cons_zero, List.getElem?_cons_succ] at c0 c1 c2 e0 e1 e2
    obtain ⟨ao, cp, rfl⟩ := own_slice HJ.out.own
    by_cases hz : j = s.size
    · have he : (cutB s j).toList = [] := by rw [ByteArray.toList_eq]; show (bs s).drop j = []; rw [hz, List.drop_of_length_le (by rw [bs_len]; exact Nat.le_refl _)]
      have he2 : (cutB s j).toList.isEmpty = true := by rw [he]; rfl
      have HZ := Lib.hid hz
      clear hz
      go_wp2_with (at_builtin; refine wpList_append_own _ rfl (.tmp 19) (.tmp 23) 23 rfl w.heap.size 42 i0 (.agg tok0) 5 48 Try.underlying23 hi hz0 hz1 hz2' rfl (by decide) _ _ _ rfl (HJ.out.own.alloc _) ⟨w1.heap.size, 0, none⟩ 1 1 [.int .i64 0, .string ⟨#[]⟩, .int .i64 (adv (1, 1) (List.take j (bs s))).fst, .int .i64 (adv (1, 1) (List.take j (bs s))).snd, .int .u64 0] rfl rfl ?c1 ?c2 ?c3 ?c4 ?c5 ?_)
      case c1 => exact cells_made _ _ _
      case c2 => intro u hu; simp at hu; rcases hu with rfl | rfl | rfl | rfl | rfl <;> rfl
      case c3 => have := HJ.out.max; unfold maxLen; omega
      case c4 => have := HJ.out.max; omega
      case c5 => have := HJ.out.below.size; simp; omega
      intro v2 w2 hown2 hgr _
      have he3 := HJ.out.err.on HJ.out.own (by decide) rfl hgr
      have hb3 := below_on HJ.out.below HJ.out.own (Nat.le_refl _) HJ.out.below.size hgr
      have e0 := he3.at_ 0
      have e1 := he3.at_ 1
      have e2 := he3.at_ 2
      have g0 := he3.free 0
      have g1 := he3.free 1
      have g2 := he3.free 2
      simp only [err0, List.getElem?_toArray, List.getElem?_cons_zero, List.getElem?_cons_succ] at e0 e1 e2
      go_wp2
      refine bodyPost_ret (v := .tuple #[v2, .agg #[.int .i64 0, .int .i64 0, .int .i64 0]]) (by simp [results, Try.results9, go_sem, e0, e1, e2]) rfl ⟨v2, ?_, ?_, ?_⟩
      · rw [lj_end HJ.out HZ.out HR.out]; rfl
      · rw [lj_end HJ.out HZ.out HR.out]
        exact own_put (by rw [List.length_append, rowC_snoc]; exact hown2) he3 (by decide)
      · exact ((hb3.setCell (Nat.le_refl _) _).setCell (Nat.le_refl _) _).setCell (Nat.le_refl _) _
    · have hjl : j < s.size := by have := HJ.out.le; omega
      have hsz : (cutB s j).size ≤ 20000 := by rw [cutB_size]; omega
      have hs0 : 0 < (cutB s j).size := by rw [cutB_size]; omega
      have hne : ¬ (cutB s j).toList = [] := by
        rw [ByteArray.toList_eq]; intro e
        have := congrArg List.length e
        simp only [List.length_nil] at this
        have : (cutB s j).size = 0 := this
        omega
      have he2 : (cutB s j).toList.isEmpty = false := by
        cases h : (cutB s j).toList with
        | nil => exact absurd h hne
        | cons a r => rfl
      by_cases h8 : out.length = 8000
      · have h8b : ((out.length : Int) == 8000) = true := by rw [beq_iff_eq]; omega
        have H8 := Lib.hid h8
        clear h8
        go_wp2_with fail
        go_region
        go_wp2
        refine bodyPost_ret (v := .tuple #[.slice none 0 0, .agg #[.int .i64 2, .int .i64 (adv (1, 1) (List.take j (bs s))).fst, .int .i64 (adv (1, 1) (List.take j (bs s))).snd]]) (by simp [results, Try.results9, go_sem, e0, e1, e2]) rfl ⟨.slice none 0 0, ?_, ?_, ?_⟩
        · rw [lj_many HJ.out hjl H8.out HR.out]; rfl
        · rw [lj_many HJ.out hjl H8.out HR.out]; exact World.ownsRow_nil _ _ _ _
        · exact (((HJ.out.below.setCell (Nat.le_refl _) _).setCell (Nat.le_refl _) _).setCell (Nat.le_refl _) _).drew
      · have h8b : ((out.length : Int) == 8000) = false := by rw [beq_eq_false_iff_ne]; omega
        have hm := HJ.out.max
        have h8' : out.length < 8000 := by omega
        have H8 := Lib.hid h8
        clear h8
        go_wp2_with fail
        refine (first_any _ hs0 (by unfold maxLen; omega) _).mono ?_
        rintro e w2 ⟨rfl, hb2⟩
        have hsz1 := HJ.out.cur.lt
        have hsz2 := hb2.size
        have hcur := HJ.out.cur.below hb2 hsz1
        have herr := HJ.out.err.below hb2 (by omega)
        have hown := own_below HJ.out.own hb2
        have hbel := HJ.out.below.trans (hb2.mono HJ.out.below.size)
        have c0 := hcur.at_ 0
        have c1 := hcur.at_ 1
        have c2 := hcur.at_ 2
        have f0 := hcur.free 0
        have f1 := hcur.free 1
        have f2 := hcur.free 2
        have e0 := herr.at_ 0
        have e1 := herr.at_ 1
        have e2 := herr.at_ 2
        have g0 := herr.free 0
        have g1 := herr.free 1
        have g2 := herr.free 2
        simp only [curs, err0, List.getElem?_toArray, List.getElem?_cons_zero, List.getElem?_cons_succ] at c0 c1 c2 e0 e1 e2
        have HC := Lib.hid hcur
        have HE := Lib.hid herr
        have HO := Lib.hid hown
        have HB := Lib.hid hbel
        clear hcur herr hown hbel
        obtain ⟨t, ht⟩ : ∃ t, tokS (bs (cutB s j)) = t := ⟨_, rfl⟩
        rw [ht]
        have HT := Lib.hid ht
        clear ht
        unfold tokV
        have hz2 : w.heap.size + 1 < w2.heap.size := by omega
        have hz3 : w.heap.size < w2.heap.size := by omega
        by_cases hc : t.code = 0
        · have hcz : ((t.code : Int) == 0) = true := by rw [beq_iff_eq]; omega
          have hcz2 : ((t.code : Int) != 0) = false := by rw [bne_eq_false_iff_eq]; omega
          have HK := Lib.hid hc
          clear hc
          have hlen := tokS_len (bs (cutB s j)) (by rw [bs_len]; exact hs0)
          rw [HT.out, bs_len] at hlen
          obtain ⟨hlen1, hlen2⟩ := hlen
          have hlen3 := hlen1 HK.out
          clear hlen1
          go_wp2_with (at_builtin; refine wpList_append_own _ rfl (.tmp 47) (.tmp 49) 23 rfl w.heap.size 42 i0 (.agg tok0) 5 48 Try.underlying23 hi hz0 hz1 hz2' rfl (by decide) _ _ _ rfl ((HO.out.alloc _).alloc _) ⟨w2.heap.size + 1, 0, none⟩ 1 1 (tokC (tokAt s j t)) rfl rfl ?d1 ?d2 ?d3 ?d4 ?d5 ?_)
          case d1 => exact cells_made2 _ _ _ _
          case d2 => intro u hu; simp [tokC] at hu; rcases hu with rfl | rfl | rfl | rfl | rfl <;> rfl
          case d3 => unfold maxLen; omega
          case d4 => omega
          case d5 => have := HB.out.size; simp <;> omega
          intro v2 w3 hown3 hgr _
          have hcur3 : Is w3 (w.heap.size + 1) 56 (curs (cutB s j) (adv (1, 1) ((bs s).take j))) := (HC.out.alloc _).on (HO.out.alloc _) (by decide) rfl hgr
          have herr3 : Is w3 w.heap.size 28 err0 := (HE.out.alloc _).on (HO.out.alloc _) (by decide) rfl hgr
          have hb3 := below_on (HB.out.alloc HB.out.size _) (HO.out.alloc _) (Nat.le_refl _) (by have := HB.out.size; simp; omega) hgr
          have htk3 : w3.cell? ⟨w2.heap.size, 1, none⟩ = some (.string (takeB (cutB s j) t.len)) := (fresh_on HO.out hgr).at_ 1
          go_wp2_with fail
          rw [takeB_size hlen2]
          refine (pass_any _ (cutB s j) _ t.len hlen2 (by unfold maxLen; omega) ?_ ?_ _ hcur3).mono ?_
          · have := adv_le (1, 1) ((bs s).take j); rw [List.length_take, bs_len] at this; omega
          · have := adv_le (1, 1) ((bs s).take j); rw [List.length_take, bs_len] at this; omega
          rintro e w4 ⟨rfl, hi4, hb4⟩
          rw [curs_step] at hi4
          rw [cutB_size] at hlen2
          have hout : (out ++ [tokAt s j t]).length = out.length + 1 := by simp
          have hLI : LI s w (f - 1) (j + t.len) (out ++ [tokAt s j t]) v2 w4 := by
            refine ⟨lj_next HJ.out hjl H8.out HT.out HK.out, ?_, by omega, ?_, by omega, hi4, hb4.is herr3 (by omega), ?_, hb3.trans (hb4.below (by omega))⟩
            · have := HJ.out.fuel; omega
            · have := HJ.out.few; omega
            · rw [hout, rowC_snoc]
              exact own_but hown3 hb4 hcur3 (by decide)
          have HLI := Lib.hid hLI
          clear hLI hi4 hb4 hout
          go_wp2_with fail
          go_roundg (s.size - (j + t.len))
          case measure => rw [HG.out]; omega
          case rel => exact ⟨f - 1, j + t.len, out ++ [tokAt s j t], rfl, HLI.out⟩
        · have hcz : ((t.code : Int) == 0) = false := by rw [beq_eq_false_iff_ne]; omega
          have hcz2 : ((t.code : Int) != 0) = true := by rw [bne_iff_ne]; omega
          have HK := Lib.hid hc
          clear hc
          go_wp2_with fail
          go_region
          go_wp2
          refine bodyPost_ret (v := .tuple #[.slice none 0 0, .agg #[.int .i64 t.code, .int .i64 (adv (1, 1) (List.take j (bs s))).fst, .int .i64 (adv (1, 1) (List.take j (bs s))).snd]]) (by simp [results, Try.results9, go_sem, e0, e1, e2, hz3]) rfl ⟨.slice none 0 0, ?_, ?_, ?_⟩
          · rw [lj_bad HJ.out hjl H8.out HT.out HK.out HR.out]
          · rw [lj_bad HJ.out hjl H8.out HT.out HK.out HR.out]; exact World.ownsRow_nil _ _ _ _
          · exact (((((HB.out.setCell (Nat.le_refl _) _).setCell (Nat.le_refl _) _).setCell (Nat.le_refl _) _).alloc (by have := HB.out.size; simp <;> omega) _)).drew
theorem lall_any (s : ByteArray) (hs : s.size ≤ maxLen) (w : World) :
    Calls Try.prog 9 #[.string s] w fun e w' => ∃ v, e = .returned (.tuple #[v, .agg #[.int .i64 (lexAll (bs s)).code, .int .i64 (lexAll (bs s)).line, .int .i64 (lexAll (bs s)).col]]) ∧ w'.ownsRow w.heap.size 42 5 v (lexAll (bs s)).toks.length (rowC (lexAll (bs s)).toks) ∧ Below w.heap.size w w' := by
  unfold maxLen at hs
  by_cases h : 20000 < s.size
  · have hR : lexAll (bs s) = ⟨[], 2, 0, 0⟩ := if_pos (by rw [bs_len]; exact h)
    rw [hR]
    clear hR
    go_enter Try.func9, Try.ntmps9
    go_wp2
    refine bodyPost_ret (v := .tuple #[.slice none 0 0, .agg #[.int .i64 2, .int .i64 0, .int .i64 0]]) (by simp [results, Try.results9, go_sem]) rfl ⟨.slice none 0 0, rfl, World.ownsRow_nil _ _ _ _, (Below.refl _ _).alloc (Nat.le_refl _) _⟩
  · exact lall_small s (by omega) w _ (if_neg (by rw [bs_len]; exact h)).symm
end Go.Proofs.Ytccajbcblbfgnaa

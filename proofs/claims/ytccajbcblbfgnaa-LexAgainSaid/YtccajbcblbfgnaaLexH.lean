/- The walk of layer 1's law LexAgain. -/
import Derived.Test.YtccajbcblbfgnaaLexG
import Derived.Test.YtccajbcblbfgnaaLexZ
import Derived.Deep.QuietTactic
import Derived.BigQuiet
namespace Go.Proofs.Ytccajbcblbfgnaa
open Go.RowKit Lx
theorem lexAgain_cut (s : ByteArray) (hs : s.size ≤ maxLen) (w : World) (h : ¬ (lexAll (bs s)).code = 0 ∨ ((lexAll (bs s)).code = 0 ∧ (lexAll (bs s)).line = 0 ∧ (lexAll (bs s)).col = 0 ∧ 9000 < s.size)) :
    Calls Try.prog 4 #[.string s] w fun e w' => e = .returned (.bool true) ∧ Below w.heap.size w w' := by
  have HA := Lib.hid fun w => lall_any s hs w
  unfold maxLen at hs
  obtain ⟨R, hR⟩ : ∃ R, lexAll (bs s) = R := ⟨_, rfl⟩
  rw [hR] at h HA
  clear hR
  obtain ⟨ts, c, l, k⟩ := R
  simp only at h HA
  rcases h with h | ⟨rfl, rfl, rfl, h⟩
  · have hc : ((c : Int) == 0) = false := by rw [beq_eq_false_iff_ne]; omega
    have hc2 : ¬ c = 0 := h
    clear h
    go_enter Try.func4, Try.ntmps4
    go_wp2_with fail
    refine (HA.out _).mono ?_
    rintro e x1 ⟨v1, rfl, o1, q1⟩
    go_wp2_with fail
    refine (cut_any _).mono ?_
    rintro e x2 ⟨rfl, q2⟩
    have hi := (Is.made x1 28 #[.int .i64 c, .int .i64 l, .int .i64 k]).below q2 (by simp)
    have c0 := hi.at_ 0
    have c1 := hi.at_ 1
    have c2 := hi.at_ 2
    simp only [List.getElem?_toArray, List.getElem?_cons_zero, List.getElem?_cons_succ] at c0 c1 c2
    go_wp2_with fail
    refine (cut_any _).mono ?_
    rintro e x3 ⟨rfl, q3⟩
    have q12 := q1.trans ((((Below.refl x1.heap.size x1).alloc (Nat.le_refl _) (.cells #[.int .i64 c, .int .i64 l, .int .i64 k] 28)).trans (q2.mono (by simp))).mono q1.size)
    have q13 := q12.trans (q3.mono q12.size)
    clear q12 hi c0 c1 c2
    go_wp2
    go_ret
    exact ⟨rfl, q13⟩
  · go_enter Try.func4, Try.ntmps4
    go_wp2_with fail
    refine (HA.out _).mono ?_
    rintro e x1 ⟨v1, rfl, o1, q1⟩
    go_wp2_with fail
    refine (cut_any _).mono ?_
    rintro e x2 ⟨rfl, q2⟩
    have hi := (Is.made x1 28 #[.int .i64 0, .int .i64 0, .int .i64 0]).below q2 (by simp)
    have c0 := hi.at_ 0
    have c1 := hi.at_ 1
    have c2 := hi.at_ 2
    simp only [List.getElem?_toArray, List.getElem?_cons_zero, List.getElem?_cons_succ] at c0 c1 c2
    go_wp2_with fail
    refine (cut_any _).mono ?_
    rintro e x3 ⟨rfl, q3⟩
    have q12 := q1.trans ((((Below.refl x1.heap.size x1).alloc (Nat.le_refl _) (.cells #[.int .i64 0, .int .i64 0, .int .i64 0] 28)).trans (q2.mono (by simp))).mono q1.size)
    have q13 := q12.trans (q3.mono q12.size)
    clear q12 hi c0 c1 c2
    go_wp2
    go_ret
    exact ⟨rfl, q13⟩
def strC (ts : List Tok) : List Value := ts.map fun t => .string t.text
theorem str_info : (Try.prog.info? 9).map (fun i => (i.zero, i.size, i.bytes)) = some (some (.string ⟨#[]⟩), 1, 16) := by kernel_rfl
theorem strs_own {w : World} {base : Nat} {e : TypeId} {v : Value} {n : Nat} {ts : List Tok} (h : w.ownsRow base e 1 v n (strC ts)) : ∃ A c, v = .slice A (ts.map fun t => t.text).length c ∧ Strs w A (ts.map fun t => t.text) ∧ (ts.map fun t => t.text).length ≤ c := by
  have hn : n = (ts.map fun t => t.text).length := by have := h.1; simp [strC] at this; simp; omega
  subst hn
  rcases h.2 with ⟨rfl, hn⟩ | ⟨g, cap, cur, rfl, hg, hh, hc, r⟩
  · exact ⟨none, 0, by rw [hn], fun h => absurd h (by omega), by omega⟩
  · refine ⟨_, _, rfl, fun _ => ⟨_, rfl, lt_of_block hh, fun i hi => ?_⟩, hc⟩
    rw [add_plain', Nat.zero_add, h.cellAt i (by omega)]
    simp only [List.length_map] at hi
    simp [strC, hi]
set_option maxRecDepth 100000 in
set_option maxHeartbeats 2000000 in
theorem lexAgain_go (s : ByteArray) (hs : s.size ≤ 9000) (w : World) (ts us : List Tok) (z z' : Tok) (hA : lexAll (bs s) = ⟨ts ++ [z], 0, 0, 0⟩) (h8 : ts.length ≤ 8000) (L : List ByteArray) (hL : (ts.map fun t => t.text) = L) (hj : (joinB L).length ≤ 18000)
    (hB : lexAll (joinB L) = ⟨us ++ [z'], 0, 0, 0⟩) (hE : (us ++ [z']).map core = (ts ++ [z]).map core) :
    Calls Try.prog 4 #[.string s] w fun e w' => e = .returned (.bool true) ∧ Below w.heap.size w w' := by
  have H1 := Lib.hid fun w => lall_any s (Nat.le_trans hs (by decide)) w
  have H2 := Lib.hid fun w => lall_any ⟨(joinB L).toArray⟩ (Nat.le_trans hj (by decide)) w
  rw [hA] at H1
  rw [show bs ⟨(joinB L).toArray⟩ = joinB L from rfl, hB] at H2
  have HL := Lib.hid hL
  have hl5 : L.length ≤ 8000 := by rw [← hL]; simpa using h8
  have HE := Lib.hid hE
  have HJ := Lib.hid hj
  clear hA hB hE hj hL
  obtain ⟨i1, hi1, hz10, hz11, hz12⟩ := info_parts str_info
  obtain ⟨m, hm⟩ : ∃ m, (ts ++ [z]).length = m := ⟨_, rfl⟩
  have hm0 : m = ts.length + 1 := by rw [← hm]; simp
  have hm1 : m ≤ ts.length + 1 := by omega
  have hm2 : ts.length + 1 ≤ m := by omega
  have HMM := Lib.hid hm
  have hmu : (us ++ [z']).length = m := by rw [← hm]; simpa using congrArg List.length HE.out
  have HM2 := Lib.hid hmu
  clear hmu
  clear hm0 hm
  go_enter Try.func4, Try.ntmps4
  go_wp2_with fail
  refine (H1.out _).mono ?_
  rintro e x1 ⟨v1, rfl, o1, q1⟩
  obtain ⟨A1, c1, rfl, t1⟩ := toks_of o1
  rw [HMM.out]
  go_wp2_with fail
  refine (cut_any _).mono ?_
  rintro e x2 ⟨rfl, q2⟩
  have hi := (Is.made x1 28 #[.int .i64 0, .int .i64 0, .int .i64 0]).below q2 (by simp)
  have c0 := hi.at_ 0
  have c1' := hi.at_ 1
  have c2 := hi.at_ 2
  simp only [List.getElem?_toArray, List.getElem?_cons_zero, List.getElem?_cons_succ] at c0 c1' c2
  have q12 := (((Below.refl x1.heap.size x1).alloc (Nat.le_refl _) (.cells #[.int .i64 0, .int .i64 0, .int .i64 0] 28)).trans (q2.mono (by simp)))
  have T1 := Lib.hid (t1.below q12)
  have Q2 := Lib.hid (q1.trans (q12.mono q1.size))
  clear t1 o1 q12 q2 q1
  go_wp2_with fail
  clear hi c0 c1' c2
  go_loopw [5, 6] (fun v i wr => ∃ k : Nat, k ≤ ts.length ∧ i = .int .i64 k ∧ Hid (wr.ownsRow x2.heap.size 9 1 v k (strC (ts.take k))) ∧ Hid (Below x2.heap.size x2 wr)) (fun _ i _ => ts.length - (intOf i).toNat)
  case atStart => exact ⟨0, Nat.zero_le _, rfl, World.ownsRow_nil _ _ _ _, Below.refl _ _⟩
  case round =>
    obtain ⟨k, hk, rfl, HO, HB⟩ := hrel
    by_cases hlt : k < ts.length
    · have hkm : k < m := by omega
      obtain ⟨g, rfl, hg, hc⟩ := T1.out (by rw [HMM.out]; omega)
      have hck := hc k (by rw [HMM.out]; omega) 1 (by omega)
      have hgt : (ts ++ [z])[k]'(by rw [HMM.out]; omega) = ts[k] := List.getElem_append_left hlt
      rw [hgt] at hck
      have hcell : wr.cell? ⟨g, k * 5 + 1, none⟩ = some (.string ts[k].text) := (HB.out.cell (p := ⟨g, _, none⟩) hg).trans hck
      obtain ⟨x, hx⟩ : ∃ x, ts[k].text = x := ⟨_, rfl⟩
      rw [hx] at hcell
      have hstr : strC (ts.take (k + 1)) = strC (ts.take k) ++ [.string x] := by
        unfold strC
        rw [List.take_succ_eq_append_getElem hlt, List.map_append, ← hx]; rfl
      have HST := Lib.hid hstr
      clear hck hc hgt hx hstr
      obtain ⟨ao, cp, rfl⟩ := own_slice HO.out
      go_wp2_with (at_builtin; refine wpList_append_own _ rfl (.tmp 35) (.tmp 41) 39 rfl x2.heap.size 9 i1 (.string ⟨#[]⟩) 1 16 Try.underlying39 hi1 hz10 hz11 hz12 rfl (by decide) _ _ _ rfl (HO.out.alloc _) ⟨wr.heap.size, 0, none⟩ 1 1 [.string x] rfl rfl ?c1 ?c2 ?c3 ?c4 ?c5 ?_)
      case c1 => exact cells_made _ _ _
      case c2 => intro u hu; simp at hu; subst hu; rfl
      case c3 => unfold maxLen; omega
      case c4 => omega
      case c5 => have := HB.out.size; simp <;> omega
      intro v2 w2 hown2 hgr _
      have hb3 := below_on HB.out HO.out (Nat.le_refl _) HB.out.size hgr
      have HO2 := Lib.hid hown2
      have HB2 := Lib.hid hb3
      clear hown2 hb3 hgr hcell
      go_wp2_with fail
      go_roundw
      case rel => exact ⟨k + 1, by omega, by go_num, by rw [HST.out]; exact HO2.out, HB2.out⟩
      case measure => simp [intOf]; omega
    · have hkt : k = ts.length := by omega
      have hown := HO.out
      rw [hkt, List.take_of_length_le (Nat.le_refl _)] at hown
      have hown' := strs_own hown
      rw [HL.out] at hown'
      obtain ⟨A5, c5, rfl, hs5, hc5⟩ := hown'
      have HS5 := Lib.hid hs5
      clear hkt hown hs5
      go_wp2_with fail
      refine (lput_any _ A5 c5 _ HS5.out hc5 (by omega) (Nat.le_trans HJ.out (by decide))).mono ?_
      rintro e x3 ⟨rfl, q3⟩
      go_wp2_with fail
      refine (H2.out _).mono ?_
      rintro e x4 ⟨v4, rfl, o4, q4⟩
      obtain ⟨A4, c4, rfl, t4⟩ := toks_of o4
      rw [HM2.out]
      have q34 := q3.trans (q4.mono q3.size)
      have T4 := Lib.hid (t4.below ((Below.refl x4.heap.size x4).alloc (Nat.le_refl _) (.cells #[.int .i64 0, .int .i64 0, .int .i64 0] 28)))
      have QW := Lib.hid ((HB.out.trans (q34.mono HB.out.size)).alloc (Nat.le_trans HB.out.size q34.size) (.cells #[.int .i64 0, .int .i64 0, .int .i64 0] 28))
      clear t4 o4 q34 q3 q4
      go_wp2_with fail
      obtain ⟨wo, hwo⟩ : ∃ wo, wo = x4.alloc (.cells #[.int .i64 0, .int .i64 0, .int .i64 0] 28) := ⟨_, rfl⟩
      rw [← hwo] at T4 QW ⊢
      clear hwo
      have T1W := Lib.hid (T1.out.below QW.out)
      have QWW := Lib.hid (Q2.out.trans (QW.out.mono Q2.out.size))
      go_loopw [9] (fun i wr => ∃ k q : Nat, k ≤ m ∧ i = .int .i64 k ∧ wr = wo.drewN q) (fun i _ => m - (intOf i).toNat)
      case atStart => exact ⟨0, 0, Nat.zero_le _, rfl, rfl⟩
      case round =>
        obtain ⟨j, q, hj, rfl, hw⟩ := hrel
        have HW := Lib.hid hw
        by_cases hjl : j < m
        · have hcw : ∀ p : Addr, wr.cell? p = wo.cell? p := fun p => by rw [hw]; rfl
          clear hw
          obtain ⟨ga, rfl, _, ca⟩ := T1W.out (by rw [HMM.out]; omega)
          obtain ⟨gb, rfl, _, cb⟩ := T4.out (by rw [HM2.out]; omega)
          have hja : j < (ts ++ [z]).length := by rw [HMM.out]; exact hjl
          have hjb : j < (us ++ [z']).length := by rw [HM2.out]; exact hjl
          have hcore : core (us ++ [z'])[j] = core (ts ++ [z])[j] := by
            have h1 := congrArg (fun l : List (Nat × ByteArray × Nat) => l[j]?) HE.out
            simp only [List.getElem?_map, List.getElem?_eq_getElem hja, List.getElem?_eq_getElem hjb, Option.map_some, Option.some.injEq] at h1
            exact h1
          have a0 := (hcw _).trans (ca j hja 0 (by omega))
          have a1 := (hcw _).trans (ca j hja 1 (by omega))
          have a4 := (hcw _).trans (ca j hja 4 (by omega))
          have b0 := (hcw _).trans (cb j hjb 0 (by omega))
          have b1 := (hcw _).trans (cb j hjb 1 (by omega))
          have b4 := (hcw _).trans (cb j hjb 4 (by omega))
          obtain ⟨t, ht⟩ : ∃ t, (ts ++ [z])[j] = t := ⟨_, rfl⟩
          obtain ⟨u, hu⟩ : ∃ u, (us ++ [z'])[j] = u := ⟨_, rfl⟩
          rw [ht] at a0 a1 a4 hcore
          rw [hu] at b0 b1 b4 hcore
          have hk1 : u.kind = t.kind := congrArg (·.1) hcore
          have hk2 : u.text = t.text := congrArg (·.2.1) hcore
          have hk3 : u.val = t.val := congrArg (·.2.2) hcore
          simp only [tokC, List.getElem?_cons_zero, List.getElem?_cons_succ, Nat.add_zero] at a0 a1 a4 b0 b1 b4
          rw [hk1] at b0
          rw [hk2] at b1
          rw [hk3] at b4
          clear ca cb hcw hcore hk1 hk2 hk3 ht hu hja hjb
          go_wp2_with fail
          go_quiet (fail)
          go_wp2_with fail
          go_roundw
          case rel => exact ⟨j + 1, q + nq, by omega, by go_num, by rw [HW.out]; exact World.drewN_drewN _ _ _⟩
          case measure => simp [intOf]; omega
        · clear hw
          go_wp2
          go_ret
          exact ⟨rfl, by rw [HW.out]; exact below_drewN QWW.out q⟩
theorem lexAgain_walk (s : ByteArray) (hs : s.size ≤ maxLen) (w : World) :
    Calls Try.prog 4 #[.string s] w fun e w' => e = .returned (.bool true) ∧ Below w.heap.size w w' := by
  by_cases hc : (lexAll (bs s)).code = 0
  · by_cases h9 : 9000 < s.size
    · have h2 : (lexAll (bs s)).line = 0 ∧ (lexAll (bs s)).col = 0 := by
        by_cases h20 : 20000 < s.size
        · have e : lexAll (bs s) = ⟨[], 2, 0, 0⟩ := if_pos (by rw [bs_len]; exact h20)
          rw [e]; exact ⟨rfl, rfl⟩
        · have e : lexAll (bs s) = lexGo ((bs s).length + 1) (bs s) (1, 1) [] := if_neg (by rw [bs_len]; exact h20)
          rw [e] at hc ⊢
          have := lexGo_fine _ (bs s) (1, 1) [] (Nat.lt_succ_self _) (Nat.zero_le _) (fun t ht => by cases ht) hc
          exact ⟨this.1, this.2.1⟩
      exact lexAgain_cut s hs w (.inr ⟨hc, h2.1, h2.2, h9⟩)
    · obtain ⟨ha, hb, ts, us, z, z', h1, h2, h3, h4, h5⟩ := lex_again (bs s) (by rw [bs_len]; omega) hc
      have hR : lexAll (bs s) = ⟨ts ++ [z], 0, 0, 0⟩ := by
        generalize lexAll (bs s) = R at *
        obtain ⟨a, b, c, d⟩ := R
        simp only at ha hb hc h1
        rw [h1, ha, hb, hc]
      have hj : textsOf ts = (ts.map fun t => t.text).map bs := by simp [textsOf]
      rw [hj] at h2 h4
      exact lexAgain_go s (by omega) w ts us z z' hR h3 _ rfl h2 h4 h5
  · exact lexAgain_cut s hs w (.inl hc)
end Go.Proofs.Ytccajbcblbfgnaa

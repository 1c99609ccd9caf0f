/- Layer 13: which rights a use ends. -/
import Derived.Test.YtbhjdpaicfnfcaaHeapC
namespace Go.Proofs.Ytbhjdpaicfnfcaa
open Go.RowKit Go.Deep Tr
namespace Hp
theorem not_int {w : World} {b : Nat} {t : TypeId} {cs : Array Value} (h : Is w b t cs) (ht : t ≠ 3) : ¬IntB w b := by
  rintro ⟨cs', f, e⟩
  have h' : w.heap[b]? = _ := h
  rw [h'] at e
  injection e with e
  injection e with _ e _
  exact ht e
theorem map_not_int {w : World} {P : Program} {k b n m : Nat} {f : Int → Option Value} (h : MapIn w P k b n m f) : ¬IntB w b := by
  rintro ⟨cs', g, e⟩
  obtain ⟨D, ⟨es, clock, h2, _⟩, _⟩ := h
  rw [h2] at e
  cases e
theorem PathAt.mod {S : Nat → Prop} {w w' : World} {A : Option Addr} {l : List Int} (h : PathAt w A l) (hm : Mod S w w') (hS : ∀ k, S k → ¬IntB w k) : PathAt w' A l := by
  obtain ⟨⟨xs, h1, h2, h3⟩, h4⟩ := h
  have hlen : xs.length = l.length := by rw [h1.1, Nat.mul_one]
  refine ⟨⟨xs, h1, ⟨fun h0 => ?_, h2.2⟩, h3⟩, fun h0 => ?_⟩
  · obtain ⟨bk, o, e, hl, hc⟩ := h2.1 h0
    obtain ⟨a, ea, hb⟩ := h4 (by omega)
    rw [e] at ea
    injection ea with ea
    subst ea
    have hk : w'.heap[bk]? = w.heap[bk]? := hm.block bk hl fun hs => hS bk hs hb
    refine ⟨bk, o, e, Nat.lt_of_lt_of_le hl hm.size, fun i u hu => ?_⟩
    rw [← hc i u hu]
    unfold World.cell?
    rw [hk]
  · obtain ⟨a, ea, cs, f, hb⟩ := h4 h0
    have hlt : a.block < w.heap.size := by
      rcases Nat.lt_or_ge a.block w.heap.size with h5 | h5
      · exact h5
      · rw [Array.getElem?_eq_none h5] at hb; cases hb
    exact ⟨a, ea, cs, f, (hm.block _ hlt fun hs => hS _ hs ⟨cs, f, hb⟩).trans hb⟩
theorem PathAt.below {w w' : World} {A : Option Addr} {l : List Int} (h : PathAt w A l) (hb : Below w.heap.size w w') : PathAt w' A l :=
  h.mod (S := fun _ => False) ⟨hb.os, hb.tape, hb.output, hb.size, fun k hk _ => hb.block k hk⟩ (fun _ h => h.elim)
theorem PathAt.nil (w : World) (A : Option Addr) : PathAt w A [] := ⟨ListAt.none _ _ _ _, fun h => absurd h (by simp)⟩
theorem PathAt.row {w : World} {A : Option Addr} {l : List Int} (h : PathAt w A l) (c : Nat) : RowI w (.slice A l.length c) l := ⟨A, c, rfl, h.1⟩
theorem HdAt.mod {S : Nat → Prop} {w w' : World} {h : Hd} {cs : List Value} (hh : HdAt w h cs) (hm : Mod S w w') (hS : ∀ k, S k → ¬IntB w k) : HdAt w' h cs := by
  obtain ⟨A, c, e, h1, h2⟩ := hh
  exact ⟨A, c, e, h1, h2.mod hm hS⟩
theorem HdAt.below {w w' : World} {h : Hd} {cs : List Value} (hh : HdAt w h cs) (hb : Below w.heap.size w w') : HdAt w' h cs := by
  obtain ⟨A, c, e, h1, h2⟩ := hh
  exact ⟨A, c, e, h1, h2.below hb⟩
/-- The boxes of what a use is. -/
structure UseEnv (w : World) (wb pb : Nat) (wt : Bool) (pa : List Int) : Prop where
  w1 : Is w wb 4 #[.bool wt]
  p1 : ∃ al A c tg, Is w pb 29 #[.int .i64 al, .slice A pa.length c, .int .i64 tg] ∧ pa.length ≤ c ∧ PathAt w A pa
theorem UseEnv.mod {S : Nat → Prop} {w w' : World} {wb pb : Nat} {wt : Bool} {pa : List Int} (h : UseEnv w wb pb wt pa) (hm : Mod S w w') (hS : ∀ k, S k → ¬IntB w k) (h1 : ¬S wb) (h2 : ¬S pb) : UseEnv w' wb pb wt pa := by
  obtain ⟨w1, al, A, c, tg, p1, p2, p3⟩ := h
  exact ⟨hm.is w1 h1, al, A, c, tg, hm.is p1 h2, p2, p3.mod hm hS⟩
theorem UseEnv.below {w w' : World} {wb pb : Nat} {wt : Bool} {pa : List Int} (h : UseEnv w wb pb wt pa) (hb : Below w.heap.size w w') : UseEnv w' wb pb wt pa :=
  h.mod (S := fun _ => False) ⟨hb.os, hb.tape, hb.output, hb.size, fun k hk _ => hb.block k hk⟩ (fun _ h => h.elim) (fun h => h.elim) (fun h => h.elim)
/-- Does a use end a right? -/
def dl (wt : Bool) (pa : List Int) (r : Hd) : Bool := (wt || r.uniq) && (begB r.path pa || begB pa r.path)
set_option maxHeartbeats 4000000
set_option maxRecDepth 100000
theorem use2_any {w : World} {wb pb : Nat} {wt : Bool} {pa : List Int} (hE : UseEnv w wb pb wt pa) {r : Hd} {cs : List Value} (hr : HdAt w r cs) :
    Calls Try.prog 66 #[.agg cs.toArray, .pointer (some ⟨wb, 0, none⟩), .pointer (some ⟨pb, 0, none⟩)] w fun e w' => e = .returned (.bool (dl wt pa r)) ∧ Below w.heap.size w w' := by
  obtain ⟨tag, path, uq⟩ := r
  obtain ⟨A, c, rfl, hc, hp⟩ := hr
  obtain ⟨w1, al, A2, c2, tg, p1, hc2, hp2⟩ := hE
  have B0 : Below w.heap.size w (w.alloc (.cells #[.int .i64 tag, .slice A path.length c, .bool uq] 96)) := (Below.refl _ w).alloc (Nat.le_refl _) _
  have H1 := begins_any ((hp.below B0).row c) ((hp2.below B0).row c2) (by rintro _ _ _ e; injection e with _ e1 e2; subst e1 e2; exact hc2)
  have H2 := fun q => begins_any (w := (w.alloc (.cells #[.int .i64 tag, .slice A path.length c, .bool uq] 96)).drewN q) (((hp2.below B0).below (below_drewN _ q)).row c2) (((hp.below B0).below (below_drewN _ q)).row c) (by rintro _ _ _ e; injection e with _ e1 e2; subst e1 e2; exact hc)
  have n0 := (w1.below B0 w1.lt).at_ 0
  have m0 := (p1.below B0 p1.lt).at_ 0
  have m1 := (p1.below B0 p1.lt).at_ 1
  have m2 := (p1.below B0 p1.lt).at_ 2
  simp at n0 m0 m1 m2
  obtain ⟨b1, hb1⟩ : ∃ b, begB path pa = b := ⟨_, rfl⟩
  obtain ⟨b2, hb2⟩ : ∃ b, begB pa path = b := ⟨_, rfl⟩
  have hdl : dl wt pa ⟨tag, path, uq⟩ = ((wt || uq) && (b1 || b2)) := by unfold dl; rw [hb1, hb2]
  rw [hdl]
  rw [hb1] at H1
  rw [hb2] at H2
  obtain ⟨l1, hl1⟩ : ∃ n, path.length = n := ⟨_, rfl⟩
  obtain ⟨l2, hl2⟩ : ∃ n, pa.length = n := ⟨_, rfl⟩
  obtain ⟨V, hV⟩ : ∃ V, w.alloc (.cells #[.int .i64 tag, .slice A path.length c, .bool uq] 96) = V := ⟨_, rfl⟩
  rw [hV] at H1 H2 n0 m0 m1 m2 B0
  have HV : Hid (w.alloc (.cells #[.int .i64 tag, .slice A l1 c, .bool uq] 96) = V) := by rw [← hl1]; exact hV
  simp only [hl1, hl2] at H1 H2 m1 ⊢
  have HH1 := Lib.hid H1
  have HH2 := Lib.hid H2
  have HB := Lib.hid B0
  have k0 : V.cell? ⟨w.heap.size, 2, none⟩ = some (.bool uq) := by
    have := (Is.made w 96 #[.int .i64 tag, .slice A l1 c, .bool uq]).at_ 2
    rw [HV.out] at this
    exact this
  have k1 : V.cell? ⟨w.heap.size, 1, none⟩ = some (.slice A l1 c) := by
    have := (Is.made w 96 #[.int .i64 tag, .slice A l1 c, .bool uq]).at_ 1
    rw [HV.out] at this
    exact this
  clear hp hp2 w1 p1 hb1 hb2 hdl hl1 hl2 hV H1 H2 B0 hc hc2
  have N0 := n0
  have M1 := m1
  rw [← HV.out] at n0 m1
  cases wt <;> cases uq
  case false.false =>
    go_enter Try.func66, Try.ntmps66
    go_wp2
    go_ret
    exact ⟨rfl, by rw [HV.out]; exact HB.out⟩
  all_goals
    cases b1
    · go_enter Try.func66, Try.ntmps66
      go_wp2_with fail
      rw [HV.out]
      refine HH1.out.mono ?_
      rintro e w1 ⟨rfl, q, rfl⟩
      clear n0 m1
      go_wp2_with fail
      refine (HH2.out q).mono ?_
      rintro e w1 ⟨rfl, q2, rfl⟩
      go_wp2
      go_ret
      exact ⟨by cases b2 <;> rfl, HB.out.trans ((below_drewN _ _).mono HB.out.size)⟩
    · go_enter Try.func66, Try.ntmps66
      go_wp2_with fail
      rw [HV.out]
      refine HH1.out.mono ?_
      rintro e w1 ⟨rfl, q, rfl⟩
      clear n0 m1
      go_wp2
      go_ret
      exact ⟨by cases b2 <;> rfl, HB.out.trans ((below_drewN _ _).mono HB.out.size)⟩
def delF (wb pb : Nat) : Value := .func (.func 66) #[] #[.pointer (some ⟨wb, 0, none⟩), .pointer (some ⟨pb, 0, none⟩)]
/-- The first right that goes. -/
def Fst (wt : Bool) (pa : List Int) (S : List Hd) (x : Int) : Prop := (x = -1 ∧ ∀ k (h : k < S.length), dl wt pa S[k] = false) ∨ ∃ k : Nat, x = k ∧ ∃ h : k < S.length, dl wt pa S[k] = true ∧ ∀ j (h' : j < k), dl wt pa (S[j]'(Nat.lt_trans h' h)) = false
theorem index_any {w : World} {wb pb : Nat} {wt : Bool} {pa : List Int} (hE : UseEnv w wb pb wt pa) {A : Option Addr} {c : Nat} {S : List Hd} (h : ListAt w 3 (HdAt w) A S) (hl : S.length ≤ 1000) :
    Calls Try.prog 73 #[.slice A S.length c, delF wb pb] w fun e w' => ∃ x, e = .returned (.int .i64 x) ∧ Fst wt pa S x ∧ Below w.heap.size w w' := by
  have HL := Lib.hid h
  have HE := Lib.hid hE
  obtain ⟨n, hn⟩ : ∃ n, S.length = n := ⟨_, rfl⟩
  have HN := Lib.hid hn
  rw [hn] at hl ⊢
  clear h hE hn
  unfold delF
  go_enter Try.func73, Try.ntmps73
  go_wp2
  go_loopw [8] (fun i wr' => ∃ a : Nat, a ≤ n ∧ i = .int .i64 a ∧ Hid (Below w.heap.size w wr') ∧ Hid (∀ k (h : k < S.length), k < a → dl wt pa S[k] = false)) (fun i _ => n - (intOf i).toNat)
  case atStart => exact ⟨0, Nat.zero_le _, rfl, Below.refl _ _, fun k _ h => absurd h (Nat.not_lt_zero _)⟩
  case round =>
    obtain ⟨a, han, rfl, HB, HT⟩ := hrel
    by_cases hlt : a < n
    · have haS : a < S.length := by rw [HN.out]; omega
      obtain ⟨bk, o, cs, rfl, hlt2, _, hsx, hc⟩ := HL.out.get (by decide) haS
      obtain ⟨hd, hhd⟩ : ∃ x, S[a] = x := ⟨_, rfl⟩
      rw [hhd] at hsx
      have hU := use2_any (HE.out.below HB.out) (hsx.below HB.out)
      obtain ⟨A', c', rfl, _⟩ := hsx
      obtain ⟨tag, path, uq⟩ := hd
      obtain ⟨lp, hlp⟩ : ∃ x, path.length = x := ⟨_, rfl⟩
      have x0 := (HB.out.cell (p := ⟨bk, o + a * 3 + 0, none⟩) hlt2).trans (hc 0 _ rfl)
      have x1 := (HB.out.cell (p := ⟨bk, o + a * 3 + 1, none⟩) hlt2).trans (hc 1 _ rfl)
      have x2 := (HB.out.cell (p := ⟨bk, o + a * 3 + 2, none⟩) hlt2).trans (hc 2 _ rfl)
      obtain ⟨bb, hbb⟩ : ∃ b, dl wt pa ⟨tag, path, uq⟩ = b := ⟨_, rfl⟩
      have HDL : Hid (dl wt pa S[a] = bb) := by show dl wt pa S[a] = bb; rw [hhd]; exact hbb
      rw [hbb] at hU
      simp only [Nat.add_zero] at x0
      simp only [hlp] at x1 hU
      have HU := Lib.hid hU
      clear hc hlt2 hhd hlp hU hbb
      go_wp2_with fail
      refine HU.out.mono ?_
      rintro e w1 ⟨rfl, q1⟩
      have HB2 : Hid (Below w.heap.size w w1) := HB.out.trans (q1.mono HB.out.size)
      clear q1 x0 x1 x2 HB HU
      cases bb with
      | true =>
        have HF : Hid (Fst wt pa S (a : Int)) := .inr ⟨a, rfl, haS, HDL.out, fun j hj => HT.out j _ hj⟩
        clear HT HDL haS
        go_wp2
        go_ret
        exact ⟨_, rfl, HF.out, HB2.out⟩
      | false =>
        have HT2 : Hid (∀ k (h : k < S.length), k < a + 1 → dl wt pa S[k] = false) := fun k hk hka => by
          by_cases e : k = a
          · subst e; exact HDL.out
          · exact HT.out k hk (by omega)
        clear HT HDL haS
        go_wp2
        go_roundw
        case rel => exact ⟨a + 1, by omega, by go_num, HB2, HT2⟩
        case measure => simp [intOf]; omega
    · have hae : a = n := by omega
      subst hae
      have HF : Hid (Fst wt pa S (-1)) := .inl ⟨rfl, fun k hk => HT.out k hk (by rw [← HN.out]; exact hk)⟩
      clear HT
      go_wp2
      go_ret
      exact ⟨_, rfl, HF.out, HB.out⟩
end Hp
end Go.Proofs.Ytbhjdpaicfnfcaa

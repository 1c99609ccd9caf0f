/- Layer 13: a use of a pointer by its right. -/
import Derived.Deep.DeepCutAuto
import Derived.Test.YtbhjdpaicfnfcaaHeapE
namespace Go.Proofs.Ytbhjdpaicfnfcaa
open Go.RowKit Go.Deep Tr
namespace Hp
/-- The rights of an allocation, in a block of their own. -/
structure Stk (w : World) (g cap : Nat) (S : List Hd) : Prop where
  cells : ∃ cur, Is w g 96 cur ∧ cur.size = cap * 3 ∧ RowH w cur 0 S
  le : S.length ≤ cap
  max : cap ≤ maxLen
theorem Stk.mod {P : Nat → Prop} {w w' : World} {g cap : Nat} {S : List Hd} (h : Stk w g cap S) (hm : Mod P w w') (hS : ∀ k, P k → ¬IntB w k) (hg : ¬P g) : Stk w' g cap S := by
  obtain ⟨cur, h1, h2, h3⟩ := h.cells
  exact ⟨⟨cur, hm.is h1 hg, h2, h3.mod hm hS⟩, h.le, h.max⟩
theorem Stk.below {w w' : World} {g cap : Nat} {S : List Hd} (h : Stk w g cap S) (hb : Below w.heap.size w w') : Stk w' g cap S := by
  obtain ⟨cur, h1, h2, h3⟩ := h.cells
  exact ⟨⟨cur, h1.below hb h1.lt, h2, h3.below hb⟩, h.le, h.max⟩
theorem Stk.list {w : World} {g cap : Nat} {S : List Hd} (h : Stk w g cap S) (hl : S.length ≤ 1000) : ListAt w 3 (HdAt w) (some ⟨g, 0, none⟩) S := by
  obtain ⟨cur, h1, _, h3⟩ := h.cells
  exact h3.list h1 hl
def useOk (S : List Hd) (pa : List Int) (wt : Bool) (p : Nat) (b : Bool) : Bool := b && (match S[p]? with | some r => begB r.path pa && (!wt || r.uniq) | none => false)
def left (S : List Hd) (pa : List Int) (wt : Bool) (p : Nat) : List Hd := S.take (p + 1) ++ (S.drop (p + 1)).filter fun r => !dl wt pa r
theorem below_drw (w : World) : Below w.heap.size w w.drew := ⟨rfl, rfl, rfl, Nat.le_refl _, fun _ _ => rfl⟩
set_option maxHeartbeats 8000000
set_option maxRecDepth 100000
theorem RowH.append {w : World} {cur : Array Value} {o : Nat} {L M : List Hd} (h : RowH w cur o L) (k : RowH w cur (o + L.length * 3) M) : RowH w cur o (L ++ M) := fun i hi => by
  by_cases hiL : i < L.length
  · obtain ⟨cs, h1, h2⟩ := h i hiL
    exact ⟨cs, by rw [List.getElem_append_left hiL]; exact h1, h2⟩
  · rw [List.length_append] at hi
    obtain ⟨cs, h1, h2⟩ := k (i - L.length) (by omega)
    refine ⟨cs, by rw [List.getElem_append_right (by omega)]; exact h1, fun j u hj => ?_⟩
    have := h2 j u hj
    rwa [show o + L.length * 3 + (i - L.length) * 3 + j = o + i * 3 + j by omega] at this
theorem RowH.take {w : World} {cur : Array Value} {o : Nat} {L : List Hd} (h : RowH w cur o L) (k : Nat) : RowH w cur o (L.take k) := fun i hi => by
  rw [List.length_take] at hi
  obtain ⟨cs, h1, h2⟩ := h i (by omega)
  exact ⟨cs, by rw [List.getElem_take]; exact h1, h2⟩
theorem RowH.drop {w : World} {cur : Array Value} {o : Nat} {L : List Hd} (h : RowH w cur o L) (k : Nat) : RowH w cur (o + k * 3) (L.drop k) := fun i hi => by
  rw [List.length_drop] at hi
  obtain ⟨cs, h1, h2⟩ := h (k + i) (by omega)
  refine ⟨cs, by rw [List.getElem_drop]; exact h1, fun j u hj => ?_⟩
  have := h2 j u hj
  rwa [show o + (k + i) * 3 + j = o + k * 3 + i * 3 + j by omega] at this
theorem left_le (S : List Hd) (pa : List Int) (wt : Bool) (p : Nat) : (left S pa wt p).length ≤ S.length := by
  unfold left
  rw [List.length_append]
  have h1 := List.length_filter_le (fun r => !dl wt pa r) (S.drop (p + 1))
  rw [List.length_drop] at h1
  rw [List.length_take]
  omega
theorem left_len (S : List Hd) (pa : List Int) (wt : Bool) {p : Nat} (h : p < S.length) : (left S pa wt p).length = p + 1 + ((S.drop (p + 1)).filter fun r => !dl wt pa r).length := by
  unfold left
  rw [List.length_append, List.length_take]
  omega
/-- Behind a use: what is left of the rights. -/
theorem Stk.left {w w2 : World} {g cap p : Nat} {S : List Hd} {cur cur' : Array Value} {wt : Bool} {pa : List Int} (h : Stk w g cap S) (hc : Is w g 96 cur) (hp : p < S.length) (h1 : Is w2 g 96 cur') (h2 : cur'.size = cur.size) (h3 : ∀ q, q < (p + 1) * 3 → cur'[q]? = cur[q]?)
    (h4 : RowH w2 cur' ((p + 1) * 3) ((S.drop (p + 1)).filter fun r => !dl wt pa r)) (hm : Mod (fun k => k = g) w w2) : Stk w2 g cap (left S pa wt p) := by
  obtain ⟨cur0, c1, c2, c3⟩ := h.cells
  have e : cur0 = cur := by
    have : w.heap[g]? = _ := c1
    rw [show w.heap[g]? = _ from hc] at this
    injection this with this
    injection this with this
    exact this.symm
  subst e
  refine ⟨⟨cur', h1, by rw [h2, c2], ?_⟩, Nat.le_trans (left_le ..) h.le, h.max⟩
  refine RowH.append (((c3.take (p + 1)).cells (cur' := cur') fun i _ hi => ?_).mod hm fun k e => by subst e; exact not_int c1 (by decide)) ?_
  · rw [List.length_take] at hi
    exact h3 i (by omega)
  · rw [List.length_take, Nat.min_eq_left (by omega), Nat.zero_add]
    exact h4
theorem delete_zero {w : World} {wb pb : Nat} {wt : Bool} {pa : List Int} (hE : UseEnv w wb pb wt pa) (A : Option Addr) (c : Nat) :
    Calls Try.prog 65 #[.slice A 0 c, delF wb pb] w fun e w' => e = .returned (.slice A 0 c) ∧ Below w.heap.size w w' := by
  have HX := Lib.hid (index_any hE (c := c) (S := []) (ListAt.none _ _ _ A) (by simp))
  simp only [List.length_nil] at HX
  clear hE
  unfold delF at HX ⊢
  go_enter Try.func65, Try.ntmps65
  go_wp2_with fail
  refine HX.out.mono ?_
  rintro e w1 ⟨x, rfl, hx, q1⟩
  rcases hx with ⟨rfl, hno⟩ | ⟨k, rfl, hk, _⟩
  · have HQ := Lib.hid q1
    clear HX q1 hno
    go_wp2
    go_ret
    exact ⟨rfl, HQ.out⟩
  · simp at hk
theorem cuse_any {w : World} {cb g cap : Nat} {S : List Hd} {v0 v1 v2 v3 v4 v5 v6 : Value} (hc : Is w cb 78 #[v0, v1, v2, v3, v4, v5, v6, .slice (some ⟨g, 0, none⟩) S.length cap]) (hs : Stk w g cap S) (hl : S.length ≤ 900)
    (hso : ∀ i j (hi : i < S.length) (hj : j < S.length), i ≤ j → S[i].tag ≤ S[j].tag) (al tg : Int) {A : Option Addr} {c : Nat} {pa : List Int} (hp : PathAt w A pa) (hcc : pa.length ≤ c) (wt : Bool) :
    Calls Try.prog 49 #[.pointer (some ⟨cb, 0, none⟩), .agg #[.int .i64 al, .slice A pa.length c, .int .i64 tg], .bool wt] w fun e w' => ∃ p b, Srch S tg p b ∧
      ((useOk S pa wt p b = false ∧ e = .returned (.int .i64 2) ∧ Below w.heap.size w w') ∨
       (useOk S pa wt p b = true ∧ e = .returned (.int .i64 0) ∧ Is w' cb 78 #[v0, v1, v2, v3, v4, v5, v6, .slice (some ⟨g, 0, none⟩) (left S pa wt p).length cap] ∧ Stk w' g cap (left S pa wt p) ∧ Mod (fun k => k = cb ∨ k = g) w w')) := by
  obtain ⟨o1, ho1⟩ : ∃ o, Obj.cells #[.int .i64 al, .slice A pa.length c, .int .i64 tg] 29 = o := ⟨_, rfl⟩
  obtain ⟨o2, ho2⟩ : ∃ o, Obj.cells #[.bool wt] 4 = o := ⟨_, rfl⟩
  have B2 : Below w.heap.size w ((w.alloc o1).alloc o2) := ((Below.refl _ w).alloc (Nat.le_refl _) o1).alloc (by simp) o2
  have hN : (w.alloc o1).heap.size = w.heap.size + 1 := by simp
  have i1 : Is ((w.alloc o1).alloc o2) w.heap.size 29 #[.int .i64 al, .slice A pa.length c, .int .i64 tg] := by rw [← ho1]; exact (Is.made w _ _).alloc _
  have i2 : Is ((w.alloc o1).alloc o2) (w.heap.size + 1) 4 #[.bool wt] := by rw [← ho2]; exact hN ▸ Is.made (w.alloc o1) _ _
  have HS0 : Hid (w.heap.size + 1 + 1 = ((w.alloc o1).alloc o2).heap.size) := by show _ = _; simp
  obtain ⟨V, hV⟩ : ∃ V, (w.alloc o1).alloc o2 = V := ⟨_, rfl⟩
  rw [hV] at B2 i1 i2 HS0
  obtain ⟨lp, hlp⟩ : ∃ x, pa.length = x := ⟨_, rfl⟩
  obtain ⟨n, hn⟩ : ∃ x, S.length = x := ⟨_, rfl⟩
  have HV : Hid ((w.alloc (.cells #[.int .i64 al, .slice A lp c, .int .i64 tg] 29)).alloc (.cells #[.bool wt] 4) = V) := by rw [← hlp, ho1, ho2]; exact hV
  have E0 : UseEnv V (w.heap.size + 1) w.heap.size wt pa := ⟨i2, al, A, c, tg, i1, hcc, hp.below B2⟩
  have hSR : ∀ X, Below V.heap.size V X → Calls Try.prog 61 #[.slice (some ⟨g, 0, none⟩) n cap, .int .i64 tg, .func (.func 62) #[] #[]] X fun e w' =>
      ∃ p b, e = .returned (.tuple #[.int .i64 ((p : Nat) : Int), .bool b]) ∧ Srch S tg p b ∧ Below X.heap.size X w' := fun X hX => by
    rw [← hn]
    exact search_any ((hs.below (B2.trans (hX.mono B2.size))).list (by omega)) (by omega) hso tg
  have hC : ∀ X, Below V.heap.size V X → Is X cb 78 #[v0, v1, v2, v3, v4, v5, v6, .slice (some ⟨g, 0, none⟩) n cap] ∧ Stk X g cap S ∧ UseEnv X (w.heap.size + 1) w.heap.size wt pa ∧ Is X w.heap.size 29 #[.int .i64 al, .slice A lp c, .int .i64 tg] ∧ Is X (w.heap.size + 1) 4 #[.bool wt] ∧ PathAt X A pa := fun X hX => by
    rw [← hn, ← hlp]
    exact ⟨(hc.below B2 hc.lt).below hX (Nat.lt_of_lt_of_le hc.lt B2.size), hs.below (B2.trans (hX.mono B2.size)), E0.below hX, i1.below hX i1.lt, i2.below hX i2.lt, hp.below (B2.trans (hX.mono B2.size))⟩
  have I1 := Lib.hid i1
  have HB := Lib.hid B2
  have HSR := Lib.hid hSR
  have HC := Lib.hid hC
  have HLP := Lib.hid hlp
  have HN := Lib.hid hn
  have c7 := (hC V (Below.refl _ _)).1.at_ 7
  have p2 := i1.at_ 2
  simp at c7 p2
  rw [hlp]
  rw [hlp] at hcc
  rw [hn] at hl
  clear hc hs hso hp ho1 ho2 B2 hN i1 i2 hV hlp hn E0 hSR hC
  go_enter Try.func49, Try.ntmps49
  go_wp2_with fail
  rw [HV.out]
  go_cut [7, 8] (fun sn sb wx => ∃ (p : Nat) (b : Bool), sn = .int .i64 p ∧ sb = .bool b ∧ Hid (Srch S tg p b ∧ Below V.heap.size V wx))
  case first =>
    go_region_law
      (first
        | (go_simp; go_at_call 61; refine (HSR.out _ (below_drw _)).mono ?_; rintro e w1 ⟨p, b, rfl, hsr, q1⟩))
    all_goals
      have HF : Hid (Srch S tg p b ∧ Below V.heap.size V w1) := ⟨hsr, (below_drw V).trans q1⟩
      clear hsr q1
      go_wp2_with fail
      go_meet
      exact ⟨p, b, rfl, rfl, HF⟩
  case rest =>
    obtain ⟨p, b, rfl, rfl, HF⟩ := hcut
    obtain ⟨hcx, hsx, hex, hpx, hwx, hax⟩ := HC.out wc HF.out.2
    cases b with
    | false =>
      have HR : Hid (Srch S tg p false) := HF.out.1
      have HB3 : Hid (Below w.heap.size w wc) := HB.out.trans (HF.out.2.mono HB.out.size)
      clear hcx hsx hex hpx hwx hax c7 p2 HF
      go_wp2_with fail
      go_quiet (fail)
      go_wp2
      go_ret
      exact ⟨p, false, HR.out, .inl ⟨rfl, rfl, HB3.out.trans ((below_drewN _ _).mono HB3.out.size)⟩⟩
    | true =>
      obtain ⟨hpn, htg⟩ := HF.out.1.2.2.2.1 rfl
      have HR : Hid (Srch S tg p true) := HF.out.1
      have HB3 : Hid (Below w.heap.size w wc) := HB.out.trans (HF.out.2.mono HB.out.size)
      obtain ⟨cur, hcur, hcs, hrow⟩ := hsx.cells
      obtain ⟨cs, hh, hcc2⟩ := hrow p hpn
      obtain ⟨hd, hhd⟩ : ∃ x, S[p] = x := ⟨_, rfl⟩
      rw [hhd] at hh
      have hgp : S[p]? = some hd := by rw [List.getElem?_eq_getElem hpn, hhd]
      obtain ⟨tag, path, uq⟩ := hd
      obtain ⟨A', c', rfl, hcq, hpq⟩ := id hh
      have x1 := (hcur.at_ (0 + p * 3 + 1)).trans (hcc2 1 _ rfl)
      have x2 := (hcur.at_ (0 + p * 3 + 2)).trans (hcc2 2 _ rfl)
      simp only [Nat.zero_add] at x1 x2
      have hpn2 : p < n := by rw [← HN.out]; exact hpn
      have HBG : Hid (∀ q, Calls Try.prog 64 #[.slice A' path.length c', .slice A pa.length c] (wc.drewN q) fun e W' => e = .returned (.bool (begB path pa)) ∧ ∃ m, W' = wc.drewN m) := fun q =>
        (begins_any ((hpq.below (below_drewN _ q)).row c') ((hax.below (below_drewN _ q)).row c) (by rintro _ _ _ e; injection e with _ e1 e2; subst e1 e2; rw [HLP.out]; exact hcc)).mono fun e W' ⟨h1, m, h2⟩ => ⟨h1, q + m, by rw [← h2]; exact World.drewN_drewN ..⟩
      obtain ⟨bg, hbg⟩ : ∃ x, begB path pa = x := ⟨_, rfl⟩
      obtain ⟨lq, hlq⟩ : ∃ x, path.length = x := ⟨_, rfl⟩
      have HUO : Hid (∀ bb, (bg && (!wt || uq)) = bb → useOk S pa wt p true = bb) := fun bb h => by
        unfold useOk
        rw [hgp, Bool.true_and]
        show (begB path pa && (!wt || uq)) = bb
        rw [hbg]
        exact h
      rw [hbg, HLP.out] at HBG
      simp only [hlq] at x1 HBG
      have d7 := hcx.at_ 7
      have e1 := hpx.at_ 1
      have e2 := hwx.at_ 0
      simp at d7 e1 e2
      have HCX := Lib.hid hcx
      have HSX := Lib.hid hsx
      have HEX := Lib.hid hex
      have HFB := Lib.hid HF.out.2
      clear hcx hsx hex hpx hwx hax c7 p2 HF hcur hcs hrow hh hcc2 hhd hgp hcq hpq htg hpn hbg hlq
      cases bg with
      | false =>
        have HU := Lib.hid (HUO.out false (by simp))
        clear HUO
        go_wp2_with fail
        go_quiet ((go_at_call 64; with_reducible exact HBG.out _))
        go_wp2
        go_ret
        exact ⟨p, true, HR.out, .inl ⟨HU.out, rfl, HB3.out.trans ((below_drewN _ _).mono HB3.out.size)⟩⟩
      | true =>
        cases hwu : (!wt || uq) with
        | false =>
          have HU := Lib.hid (HUO.out false (by rw [hwu]; rfl))
          have hwt : wt = true := by cases wt <;> simp_all
          have huq : uq = false := by cases uq <;> simp_all
          subst hwt huq
          clear HUO hwu
          go_wp2_with fail
          go_quiet ((go_at_call 64; with_reducible exact HBG.out _))
          go_wp2
          go_ret
          exact ⟨p, true, HR.out, .inl ⟨HU.out, rfl, HB3.out.trans ((below_drewN _ _).mono HB3.out.size)⟩⟩
        | true =>
          have HU := Lib.hid (HUO.out true (by rw [hwu]; rfl))
          clear HUO
          obtain ⟨L, hL⟩ : ∃ L, left S pa wt p = L := ⟨_, rfl⟩
          have HL := Lib.hid hL
          have HLL : Hid (L.length ≤ n) := by show L.length ≤ n; rw [← hL, ← HN.out]; exact left_le ..
          have hle := HSX.out.le
          rw [HN.out] at hle
          have hmx : cap ≤ 9223372036854775807 := by
            have := HSX.out.max
            unfold maxLen at this
            omega
          have HD0 : Hid (∀ X A, Below V.heap.size V X → n = p + 1 → Calls Try.prog 65 #[.slice A 0 0, delF (w.heap.size + 1) w.heap.size] X fun e w' => ∃ m c2, e = .returned (.slice A m c2) ∧
              Is w' cb 78 #[v0, v1, v2, v3, v4, v5, v6, .slice (some ⟨g, 0, none⟩) n cap] ∧ Stk w' g cap L ∧ L.length = p + 1 + m ∧ Mod (fun k => k = g) X w' ∧ g ≠ cb) := fun X A hX hnp => by
            obtain ⟨hcx, hsx, hex, _⟩ := HC.out X hX
            obtain ⟨cur, k1, k2, k3⟩ := hsx.cells
            have hgc : g ≠ cb := fun e => (is_ne k1 hcx (by decide)) e
            have hpS : p < S.length := by rw [HN.out]; exact hpn2
            have hd : S.drop (p + 1) = [] := List.drop_eq_nil_of_le (by rw [HN.out]; omega)
            rw [← HL.out]
            refine (delete_zero hex A 0).mono fun e w' ⟨h1, h2⟩ => ⟨0, 0, h1, hcx.below h2 hcx.lt, hsx.left k1 hpS (k1.below h2 k1.lt) rfl (fun _ _ => rfl) ?_ (.of h2), ?_, .of h2, hgc⟩
            · rw [hd]; exact fun i hi => absurd hi (Nat.not_lt_zero _)
            · rw [left_len _ _ _ hpS, hd]; rfl
          have HD1 : Hid (∀ X, Below V.heap.size V X → p + 1 < cap → Calls Try.prog 65 #[.slice (some ⟨g, (p + 1) * 3, none⟩) (n - (p + 1)) (cap - (p + 1)), delF (w.heap.size + 1) w.heap.size] X fun e w' => ∃ m c2, e = .returned (.slice (some ⟨g, (p + 1) * 3, none⟩) m c2) ∧
              Is w' cb 78 #[v0, v1, v2, v3, v4, v5, v6, .slice (some ⟨g, 0, none⟩) n cap] ∧ Stk w' g cap L ∧ L.length = p + 1 + m ∧ Mod (fun k => k = g) X w' ∧ g ≠ cb) := fun X hX hpc => by
            obtain ⟨hcx, hsx, hex, _⟩ := HC.out X hX
            obtain ⟨cur, k1, k2, k3⟩ := hsx.cells
            have hgc : g ≠ cb := fun e => (is_ne k1 hcx (by decide)) e
            have hpS : p < S.length := by rw [HN.out]; exact hpn2
            have hlen : (S.drop (p + 1)).length = n - (p + 1) := by rw [List.length_drop, HN.out]
            have hdel := delete_any (c := cap - (p + 1)) hex k1 (k3.drop (p + 1)) (by rw [hlen]; omega) (by rw [hlen, k2]; omega) (by rw [hlen]; omega)
            rw [hlen, Nat.zero_add] at hdel
            rw [← HL.out]
            exact hdel.mono fun e w' ⟨c2, cur', h1, h2, h3, h4, h5, h6⟩ => ⟨_, c2, h1, h6.is hcx (fun e => hgc e.symm), hsx.left k1 hpS h2 h3 h4 h5 h6, left_len _ _ _ hpS, h6, hgc⟩
          have HC7 : Hid (∀ X, Below V.heap.size V X → X.cell? ⟨cb, 7, none⟩ = some (.slice (some ⟨g, 0, none⟩) n cap)) := fun X hX => by
            have := (HC.out X hX).1.at_ 7
            simpa using this
          unfold delF at HD0 HD1
          clear hL HC HCX HSX HEX HB3
          cases wt
          case' true =>
            have huq : uq = true := by cases uq <;> simp_all
            subst huq
          all_goals
            clear hwu
            go_wp2_with fail
            go_quiet ((go_at_call 64; with_reducible exact HBG.out _))
            rename_i nq
            obtain ⟨X, hX⟩ : ∃ X, wc.drewN nq = X := ⟨_, rfl⟩
            rw [hX]
            have HXB : Hid (Below V.heap.size V X) := by rw [← hX]; exact HFB.out.trans ((below_drewN _ _).mono HFB.out.size)
            have b7 := HC7.out X HXB.out
            have HWX : Hid (Below w.heap.size w X) := HB.out.trans (HXB.out.mono HB.out.size)
            clear d7 e1 e2 x1 x2 hX HFB HBG
            by_cases hcap : cap = p + 1
            · have hnp : n = p + 1 := by omega
              subst hcap hnp
              go_wp2_with fail
              refine (HD0.out X _ HXB.out trivial).mono ?_
              rintro e w2 ⟨m, c2, rfl, hd⟩
              have hm : p + 1 + m ≤ p + 1 := by
                have h1 := HLL.out
                rw [hd.2.2.1] at h1
                omega
              have HD := Lib.hid hd
              have r7 := hd.1.at_ 7
              have rf : ∀ i, w2.frozen? ⟨cb, i, none⟩ = false := fun i => hd.1.free i
              simp at r7
              clear hd b7 HD0 HD1
              go_wp2
              go_ret
              refine ⟨p, true, HR.out, .inr ⟨HU.out, rfl, ?_, ?_, ?_⟩⟩
              · rw [HL.out, HD.out.2.2.1]
                have := HD.out.1.put 7 (.slice (some ⟨g, 0, none⟩) (p + 1 + m) (p + 1))
                simpa using this
              · rw [HL.out]
                exact HD.out.2.1.mod (P := fun k => k = cb) ((Mod.refl (fun k => k = cb) w2).put (fun _ => rfl) _ _) (fun k e => by subst e; exact not_int HD.out.1 (by decide)) HD.out.2.2.2.2
              · exact ((Mod.of HWX.out).andThen HD.out.2.2.2.1 (fun i _ h => .inr h)).put (fun _ => .inl rfl) _ _
            · have hcap2 : p + 1 < cap := by omega
              have hcap3 : p + 1 ≤ cap := by omega
              clear hcap
              go_wp2_with fail
              refine (HD1.out X HXB.out hcap2).mono ?_
              rintro e w2 ⟨m, c2, rfl, hd⟩
              have hm : p + 1 + m ≤ cap := by
                have h1 := HLL.out
                rw [hd.2.2.1] at h1
                omega
              have HD := Lib.hid hd
              have r7 := hd.1.at_ 7
              have rf : ∀ i, w2.frozen? ⟨cb, i, none⟩ = false := fun i => hd.1.free i
              simp at r7
              clear hd b7 HD0 HD1
              go_wp2
              go_ret
              refine ⟨p, true, HR.out, .inr ⟨HU.out, rfl, ?_, ?_, ?_⟩⟩
              · rw [HL.out, HD.out.2.2.1]
                have := HD.out.1.put 7 (.slice (some ⟨g, 0, none⟩) (p + 1 + m) cap)
                simpa using this
              · rw [HL.out]
                exact HD.out.2.1.mod (P := fun k => k = cb) ((Mod.refl (fun k => k = cb) w2).put (fun _ => rfl) _ _) (fun k e => by subst e; exact not_int HD.out.1 (by decide)) HD.out.2.2.2.2
              · exact ((Mod.of HWX.out).andThen HD.out.2.2.2.1 (fun i _ h => .inr h)).put (fun _ => .inl rfl) _ _
end Hp
end Go.Proofs.Ytbhjdpaicfnfcaa

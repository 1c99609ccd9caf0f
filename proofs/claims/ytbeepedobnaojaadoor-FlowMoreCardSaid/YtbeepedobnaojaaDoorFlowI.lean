/- Backward: what is still to come. -/
import Derived.Test.YtbeepedobnaojaaDoorFlowH
namespace Go.Proofs.YtbeepedobnaojaaDoor
open Go.RowKit Lf Go.Deep Sv Tr
namespace Fl
/-- The first q nodes that were come to are laid. -/
def B3 (L : List Nat) (n q y : Nat) : Prop := y < 2 ^ n ∧ ∀ j, y.testBit j = true ↔ ∃ r, r < q ∧ L[r]? = some j
theorem B3.start {L : List Nat} {n y : Nat} (h : y < 2 ^ n) (h0 : ∀ j, y.testBit j = true ↔ False) : B3 L n 0 y := ⟨h, fun j => ⟨fun hj => ((h0 j).1 hj).elim, fun ⟨_, hr, _⟩ => absurd hr (Nat.not_lt_zero _)⟩⟩
theorem B3.step {L : List Nat} {n q y i : Nat} (h : B3 L n q y) (hi : L[q]? = some i) (hl : i < n) : B3 L n (q + 1) (y ||| 2 ^ i) := by
  refine ⟨or_lt h.1 (pow_lt hl), fun j => ?_⟩
  rw [or_bit, Bool.or_eq_true, h.2 j, beq_iff_eq]
  constructor
  · rintro (⟨r, h1, h2⟩ | rfl)
    · exact ⟨r, by omega, h2⟩
    · exact ⟨q, by omega, hi⟩
  · rintro ⟨r, h1, h2⟩
    by_cases hr : r = q
    · subst hr
      rw [hi] at h2
      injection h2 with h2
      exact .inr h2.symm
    · exact .inl ⟨r, by omega, h2⟩
set_option maxHeartbeats 8000000 in
set_option maxRecDepth 100000 in
theorem backward_any {w : World} (hT : TabAt w) {vs vg vk ve : Value} {p : Pb} (h : PbAt w vs vg vk ve p) (ho : codeP p = 0) (h0 : 0 < p.succ.length) (hn : p.succ.length ≤ 64) {m : Nat} (hm : p.width = m) :
    Calls Tryd.prog 16 #[pbV vs vg vk ve p.width] w fun e w' =>
      ∃ a Y, e = .returned (.tuple #[.pointer (some ⟨a, 0, none⟩), .int .i64 0]) ∧ Ans w' a p.succ.length m Y ∧ Below w.heap.size w w' ∧ ∀ x j, x < m → ((Y x).testBit j = true ↔ Bwd p (x : Int) j) := by
  have hok := code_ok hn ho
  have hm4 : m ≤ 4000 := by have := hok.high; omega
  obtain ⟨V, hV⟩ : ∃ V, w.alloc (.cells #[vs, .int .i64 p.width, vg, vk, ve] 25) = V := ⟨_, rfl⟩
  have hB0 : Below w.heap.size w V := hV ▸ (Below.refl _ w).alloc (Nat.le_refl _) _
  have hI0 : Bx V w.heap.size vs vg vk ve p.width := hV ▸ Is.made w _ _
  have hP := h.below hB0
  have hC := check_any hP hn
  rw [ho] at hC
  obtain ⟨n, hn0⟩ : ∃ n, p.succ.length = n := ⟨_, rfl⟩
  obtain ⟨As, cs, rfl, _⟩ := h.s
  obtain ⟨Ae, ce, rfl, hmaxe, hgete⟩ := rowI_form hP.e
  obtain ⟨l, hl⟩ : ∃ n, p.entry.length = n := ⟨_, rfl⟩
  have HC := Lib.hid hC
  simp only [hn0, hl] at h0 hn hV hI0 HC hP ⊢
  obtain ⟨H, hH⟩ : ∃ x, w.heap.size = x := ⟨_, rfl⟩
  rw [hH] at hI0 hB0 ⊢
  have hHV : H < V.heap.size := hI0.lt
  have HTV := Lib.hid (hT.below (hH ▸ hB0) hT.pos)
  have HH := Lib.hid hH
  have HV := Lib.hid hV
  have HI := Lib.hid hI0
  have HB := Lib.hid hB0
  have HP := Lib.hid hP
  have HOK := Lib.hid hok
  have HN := Lib.hid hn0
  rw [hm] at HC HV HI ⊢
  have HM := Lib.hid hm
  clear hT h ho hV hB0 hI0 hP hC hn0 hH hok hm
  unfold pbV at HC ⊢
  go_enter Tryd.func16, Tryd.ntmps16
  go_wp2_with fail
  rw [HV.out, HH.out]
  refine HC.out.mono ?_
  rintro e w1 ⟨rfl, q1⟩
  have B1 := Lib.hid q1
  have I1 := (HI.out : Is _ _ _ _).below q1 hHV
  have d0 := I1.at_ 0
  have d1 := I1.at_ 1
  simp at d0 d1
  clear q1 I1
  have HS := Lib.hid (newSets_any w1 (m := m) (n := n) (q := 1) (by omega) hn (by omega))
  go_wp2_with fail
  refine HS.out.mono ?_
  rintro e w2 ⟨rfl, q2⟩
  obtain ⟨b, hb⟩ : ∃ b, w1.heap.size = b := ⟨_, rfl⟩
  have s0 := Sw.made q2
  have bb := q2.since
  rw [hb] at s0 bb ⊢
  have hVb : V.heap.size ≤ b := hb ▸ B1.out.size
  have B2 : Hid (Below V.heap.size V w2) := B1.out.trans (bb.mono (hb ▸ B1.out.size))
  clear q2 HS d0 d1 hb
  have I2 := (HI.out : Is _ _ _ _).below B2.out hHV
  have d0 := I2.at_ 0
  have d1 := I2.at_ 1
  simp at d0 d1
  obtain ⟨a, ha⟩ : ∃ a, w2.heap.size = a := ⟨_, rfl⟩
  obtain ⟨w3, hw3⟩ : ∃ w3, w2.alloc (.cells #[.int .i64 n, .slice (some ⟨b, 0, none⟩) m m] 48) = w3 := ⟨_, rfl⟩
  have b3 : Below a w2 w3 := hw3 ▸ (Below.refl a w2).alloc (by omega) _
  have an : Is w3 a 48 #[.int .i64 n, .slice (some ⟨b, 0, none⟩) m m] := by rw [← hw3, ← ha]; exact Is.made w2 _ _
  have s3 : Sw w3 b m fun _ => 0 := s0.below (ha.symm ▸ b3)
  have hba : b + m < a := ha ▸ s0.lt
  have B3 : Hid (Below V.heap.size V w3) := B2.out.trans (b3.mono (by omega))
  have HA := Lib.hid an
  have HS0 := Lib.hid s3
  have HW3 := Lib.hid hw3
  have HAA := Lib.hid ha
  clear bb s0 ha hw3 b3 an s3
  have box : ∀ X, Below w3.heap.size w3 X → X.cell? ⟨H, 0, none⟩ = some (.slice As n cs) ∧ X.cell? ⟨H, 1, none⟩ = some (.int .i64 m) ∧ X.cell? ⟨H, 2, none⟩ = some vg ∧ X.cell? ⟨H, 3, none⟩ = some vk := fun X hb => by
    have hI := (HI.out : Is _ _ _ _).below (B3.out.trans (hb.mono B3.out.size)) hHV
    exact ⟨hI.at_ 0, hI.at_ 1, hI.at_ 2, hI.at_ 3⟩
  have HBOX := Lib.hid box
  have HST : Hid (∀ X, Below w3.heap.size w3 X → Calls Tryd.prog 24 #[.slice As n cs, .int .i64 n, .int .i64 n] X fun e w' => ∃ c, e = .returned (.slice (some ⟨c, 0, none⟩) n n) ∧ Hid (∃ X1, c = X.heap.size ∧ Sw w' c n X1 ∧ Lw n n X1 ∧ Below X.heap.size X w' ∧ (∀ i j, (X1 i).testBit j = true ↔ Nx p j i))) := fun X hb =>
    (turned_any ((HP.out.below (B3.out.trans (hb.mono B3.out.size))).s) (by rw [← HN.out]; exact HOK.out.s) (by rw [HN.out]; exact Nat.le_refl _) h0 hn (by omega)).mono fun e w' ⟨h1, X1, h2, h3, h4, h5⟩ => ⟨_, h1, X1, rfl, h2, h3, h4, h5⟩
  have HTG : Hid (∀ X, Below w3.heap.size w3 X → Calls Tryd.prog 24 #[vg, .int .i64 m, .int .i64 n] X fun e w' => ∃ c, e = .returned (.slice (some ⟨c, 0, none⟩) m m) ∧ Hid (∃ X1, c = X.heap.size ∧ Sw w' c m X1 ∧ Lw n m X1 ∧ Below X.heap.size X w' ∧ (∀ x y, (X1 x).testBit y = true ↔ hasL p.gen y (x : Int) = true))) := fun X hb =>
    (turned_any ((HP.out.below (B3.out.trans (hb.mono B3.out.size))).g) (by rw [← HM.out]; exact HOK.out.g) (by rw [← HN.out]; exact HOK.out.gen) h0 hn hm4).mono fun e w' ⟨h1, X1, h2, h3, h4, h5⟩ => ⟨_, h1, X1, rfl, h2, h3, h4, h5⟩
  have HTK : Hid (∀ X, Below w3.heap.size w3 X → Calls Tryd.prog 24 #[vk, .int .i64 m, .int .i64 n] X fun e w' => ∃ c, e = .returned (.slice (some ⟨c, 0, none⟩) m m) ∧ Hid (∃ X1, c = X.heap.size ∧ Sw w' c m X1 ∧ Lw n m X1 ∧ Below X.heap.size X w' ∧ (∀ x y, (X1 x).testBit y = true ↔ hasL p.kill y (x : Int) = true))) := fun X hb =>
    (turned_any ((HP.out.below (B3.out.trans (hb.mono B3.out.size))).k) (by rw [← HM.out]; exact HOK.out.k) (by rw [← HN.out]; exact HOK.out.kill) h0 hn hm4).mono fun e w' ⟨h1, X1, h2, h3, h4, h5⟩ => ⟨_, h1, X1, rfl, h2, h3, h4, h5⟩
  have D3 : Hid (Below w3.heap.size w3 w3) := Below.refl _ _
  have DD : Hid (Below w3.heap.size w3 w3.drew) := D3.out.drew
  clear d0 d1 box
  have dd := HBOX.out _ D3.out
  obtain ⟨d0, d1, d2, d3⟩ := dd
  go_wp2_with fail
  rw [HW3.out, HAA.out]
  go_region_held3 (fun X => X.cell? ⟨H, 0, none⟩ = some (.slice As n cs) ∧ X.cell? ⟨H, 1, none⟩ = some (.int .i64 m) ∧ X.cell? ⟨H, 2, none⟩ = some vg ∧ X.cell? ⟨H, 3, none⟩ = some vk)
    (first
      | exact HBOX.out _ D6.out
      | exact HBOX.out _ D5.out
      | exact HBOX.out _ D4.out
      | exact HBOX.out _ DD.out
      | exact HBOX.out _ D3.out)
    (first
      | (go_at_call 24; refine (HTK.out _ D5.out).mono ?_; rintro e w6 ⟨f, rfl, Q6⟩; have D6 : Hid (Below w3.heap.size w3 w6) := (by obtain ⟨_, _, _, _, hb, _⟩ := Q6.out; exact D5.out.trans (hb.mono D5.out.size)))
      | (go_at_call 24; refine (HTG.out _ D4.out).mono ?_; rintro e w5 ⟨d, rfl, Q5⟩; have D5 : Hid (Below w3.heap.size w3 w5) := (by obtain ⟨_, _, _, _, hb, _⟩ := Q5.out; exact D4.out.trans (hb.mono D4.out.size)))
      | (go_at_call 24; refine (HST.out _ DD.out).mono ?_; rintro e w4 ⟨c, rfl, Q4⟩; have D4 : Hid (Below w3.heap.size w3 w4) := (by obtain ⟨_, _, _, _, hb, _⟩ := Q4.out; exact DD.out.trans (hb.mono DD.out.size))))
  obtain ⟨X1, hc, s1, l1, b4, e1⟩ := Q4.out
  obtain ⟨X2, hd, s2, l2, b5, e2⟩ := Q5.out
  obtain ⟨X3, hf, s3, l3, b6, e3⟩ := Q6.out
  have hac : a < c := by rw [hc]; exact HA.out.lt
  have hcd : c + n < d := by rw [hd]; exact s1.lt
  have hdf : d + m < f := by rw [hf]; exact s2.lt
  have hst : St w6 V a b c d f n m (fun _ => 0) X1 X2 X3 :=
    ⟨B3.out.trans (D6.out.mono B3.out.size), hVb, hba, hac, hcd, hdf, HA.out.below D6.out HA.out.lt, HS0.out.below D6.out, (s1.below b5).below b6, s2.below b6, s3⟩
  have HST0 := Lib.hid hst
  have E1 := Lib.hid e1
  have E2 := Lib.hid e2
  have E3 := Lib.hid e3
  have L1 := Lib.hid l1
  have L2 := Lib.hid l2
  have L3 := Lib.hid l3
  have dd := (HI.out : Is _ _ _ _).below (B3.out.trans (D6.out.mono B3.out.size)) hHV
  have d0 := dd.at_ 0
  have d1 := dd.at_ 1
  have d4 := dd.at_ 4
  simp at d0 d1 d4
  unfold maxLen at hmaxe
  rw [hl] at hmaxe
  have HGE := Lib.hid hgete
  have HLE := Lib.hid hl
  clear HBOX HST HTG HTK D3 DD Q4 Q5 Q6 D4 D5 D6 hc hd hf s1 s2 s3 b4 b5 b6 e1 e2 e3 l1 l2 l3 HA HS0 HW3 HAA B3 dd hst hgete hl
  have HR2 : Hid (∃ Y, St w6 V a b c d f n m Y X1 X2 X3 ∧ R2 p (Bwd p) (fun _ _ => False) n m 0 X2 Y X2) :=
    ⟨_, HST0.out, fun _ _ => Nat.two_pow_pos _, L2.out, fun x j h => absurd h (Nat.not_lt_zero _), fun x j _ _ => by simp, fun _ _ _ => rfl⟩
  clear HST0 HC HGE HLE d4
  go_wp2
  go_loopw [47] (fun i wr => ∃ k : Nat, k ≤ m ∧ i = .int .i64 k ∧ Hid (∃ Y, St wr V a b c d f n m Y X1 X2 X3 ∧ R2 p (Bwd p) (fun _ _ => False) n m k X2 Y X2)) (fun i _ => m - (intOf i).toNat)
  case atStart => exact ⟨0, Nat.zero_le _, rfl, HR2⟩
  clear HR2
  case round =>
    obtain ⟨g, hg, rfl, HQ⟩ := hrel
    by_cases hlg : g < m
    · obtain ⟨Y, st, r2⟩ := HQ.out
      have c1 := st.p1
      have c2 := st.s0.cell hlg
      have c3 := st.s2.cell hlg
      have c4 := st.s3.cell hlg
      have HFW : Hid (Calls Tryd.prog 27 #[.slice (some ⟨d + 1 + g, 0, none⟩) 1 1, .slice (some ⟨f + 1 + g, 0, none⟩) 1 1, .slice (some ⟨c, 0, none⟩) n n] wr.drew fun e w' =>
            ∃ A lv cp, e = .returned (.slice A lv cp) ∧ lv ≤ 64 ∧ Hid (∃ Y L y, L.length = lv ∧ St w' V a b c d f n m (put Y g y) X1 X2 X3 ∧ R2 p (Bwd p) (fun _ _ => False) n m g X2 Y X2 ∧ (∀ i, i ∈ L ↔ Rc (X2 g) (X3 g) X1 i) ∧ (∀ i ∈ L, i < n) ∧ Own w' (f + m) (.slice A lv cp) L ∧ B3 L n 0 y)) := by
        have st := st.below ((Below.refl _ wr).drew)
        refine (flood_any (HTV.out.below st.vb HTV.out.pos) (st.s2.row g hlg) (st.s3.row g hlg) st.s1 L1.out (L2.out g hlg) (L3.out g hlg) hn).mono ?_
        rintro e w' ⟨v, L, rfl, ho, hl64, hmem, hlt, hb⟩
        obtain ⟨A, cp, rfl, _⟩ := Tr.own_slice ho
        have hf := st.s3.lt
        exact ⟨A, _, cp, rfl, hl64, Y, L, Y g, rfl, by rw [put_self]; exact st.below hb, r2, hmem, hlt, ⟨ho.1, ho.2.imp id fun ⟨q, cap, cur, h1, h2, h3, h4, h5, h6⟩ => ⟨q, cap, cur, h1, by omega, h3, h4, h5, h6⟩⟩, B3.start (r2.ly g hlg) fun j => r2.todo g j (Nat.le_refl _) hlg⟩
      clear st r2 HQ
      go_wp2_with fail
      go_region_law ((go_simp; go_at_call 27; refine HFW.out.mono ?_; rintro e w8 ⟨A, lv, cp, rfl, hlv, HQ9⟩))
      all_goals
        clear c1 c2 c3 c4 HFW
        go_wp2
        simp only [List.getElem_toArray, List.getElem_cons_zero, List.getElem_cons_succ, Act.put, List.setIfInBounds_toArray, List.set_cons_zero, List.set_cons_succ]
        go_loopw [61] (fun i wr => ∃ q : Nat, q ≤ lv ∧ i = .int .i64 q ∧ Hid (∃ Y L y, L.length = lv ∧ St wr V a b c d f n m (put Y g y) X1 X2 X3 ∧ R2 p (Bwd p) (fun _ _ => False) n m g X2 Y X2 ∧ (∀ i, i ∈ L ↔ Rc (X2 g) (X3 g) X1 i) ∧ (∀ i ∈ L, i < n) ∧ Own wr (f + m) (.slice A lv cp) L ∧ B3 L n q y)) (fun i _ => lv - (intOf i).toNat)
        case atStart => exact ⟨0, Nat.zero_le _, rfl, HQ9⟩
        clear HQ9
        case round =>
          obtain ⟨q, hq, rfl, HQ⟩ := hrel
          obtain ⟨Y, L, y, r0, r1, r2, r4, r5, r7, r8⟩ := HQ.out
          by_cases hlq : q < lv
          · obtain ⟨i, hi⟩ : ∃ i, L[q]? = some i := ⟨_, List.getElem?_eq_getElem (by omega)⟩
            have hin : i < n := r5 i (List.mem_of_getElem? hi)
            obtain ⟨A0, rfl⟩ : ∃ g, A = some ⟨g, 0, none⟩ := by
              rcases r7.2 with ⟨e, h0⟩ | ⟨g, cap, cur, e, _⟩
              · omega
              · injection e with e _ _
                exact ⟨g, e⟩
            have r9 := r7
            unfold Own at r9
            rw [r0] at r9
            have k1 := r9.cellAt q (by omega)
            have e4 : (natsC L)[q]? = some (.int .i64 (i : Int)) := by unfold natsC; rw [List.getElem?_map, hi]; rfl
            rw [e4] at k1
            have k2 := r1.p1
            have k3 := r1.s0.cell hlg
            have hrow := r1.s0.row g hlg
            rw [put_here] at hrow
            have HAA := Lib.hid (add_bit (w := wr) hrow (lw64 hn r8.1) (show i < 64 by omega))
            have HN2 : Hid (∀ w', Is w' (b + 1 + g) 40 #[.int .u64 ((y ||| 2 ^ i : Nat) : Int)] → But (b + 1 + g) wr w' → ∃ Y L y, L.length = lv ∧ St w' V a b c d f n m (put Y g y) X1 X2 X3 ∧ R2 p (Bwd p) (fun _ _ => False) n m g X2 Y X2 ∧ (∀ i, i ∈ L ↔ Rc (X2 g) (X3 g) X1 i) ∧ (∀ i ∈ L, i < n) ∧ Own w' (f + m) (.slice (some ⟨A0, 0, none⟩) lv cp) L ∧ B3 L n (q + 1) y) := fun w' h1 h2 =>
              ⟨Y, L, _, r0, by have := r1.put0 hlg h2 h1; rw [put_twice] at this; exact this, r2, r4, r5, own_but r7 h2 hrow (by decide), r8.step hi hin⟩
            clear hi e4 hrow r9 r0 r1 r2 r4 r5 r7 r8 HQ
            go_wp2_with fail
            refine HAA.out.mono ?_
            rintro e w9 ⟨rfl, h1, h2⟩
            have HR := Lib.hid (HN2.out w9 h1 h2)
            clear h1 h2
            go_wp2
            go_roundw
            case rel => exact ⟨q + 1, by omega, by go_num, HR⟩
            case measure => simp [intOf]; omega
          · have HR : Hid (∃ Y, St wr V a b c d f n m Y X1 X2 X3 ∧ R2 p (Bwd p) (fun _ _ => False) n m (g + 1) X2 Y X2) := by
              have hnx := r2.next (z := X2 g) (y := y) (L2.out g hlg) r8.1 fun j => by
                rw [bwd_iff (b := fun i => (X2 g).testBit i) (k := fun i => (X3 g).testBit i) (X := fun i j => (X1 i).testBit j) E1.out (fun i => by rw [Bool.eq_iff_iff]; exact E3.out g i) (fun i => by rw [Bool.eq_iff_iff]; exact E2.out g i), r8.2 j]
                refine Iff.trans ?_ (r4 j)
                exact ⟨fun ⟨r, _, h⟩ => List.mem_of_getElem? h, fun h => by
                  obtain ⟨r, hr, e⟩ := List.getElem_of_mem h
                  exact ⟨r, by omega, by rw [List.getElem?_eq_getElem hr, e]⟩⟩
              rw [put_self] at hnx
              exact ⟨_, r1, hnx⟩
            clear r0 r1 r2 r4 r5 r7 r8 HQ
            go_wp2
            go_roundw
            case rel => exact ⟨g + 1, by omega, by go_num, HR⟩
            case measure => simp [intOf]; omega
    · have hge : g = m := by omega
      subst hge
      have HF : Hid (∃ Y, Ans wr a n g Y ∧ Below H w wr ∧ ∀ x j, x < g → ((Y x).testBit j = true ↔ Bwd p (x : Int) j)) := by
        obtain ⟨Y, st, r2⟩ := HQ.out
        exact ⟨Y, st.ans r2.ly, HB.out.trans (st.vb.mono (Nat.le_of_lt hHV)), fun x j hx => r2.done x j hx⟩
      clear HQ
      go_wp2
      go_ret2
      obtain ⟨Y, h1, h2, h3⟩ := HF.out
      exact ⟨a, Y, rfl, h1, h2, h3⟩
end Fl
end Go.Proofs.YtbeepedobnaojaaDoor

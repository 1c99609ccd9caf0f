/- The walks of layer 3's reference: what is seen in an expression. -/
import Derived.Deep.RegionHeld3
import Derived.Test.YthainjaefijidaaTreeU
namespace Go.Proofs.Ythainjaefijidaa
open Go.RowKit Go.Deep
namespace Tr
theorem small_tree : ∀ n, SmallE n ∧ SmallB n
  | 0 => ⟨fun _ _ _ _ h _ => h.elim, smallB_step 0 (.inl rfl)⟩
  | n + 1 => ⟨smallE_step n (small_tree n).1 (small_tree n).2, smallB_step (n + 1) (.inr ⟨n, rfl, (small_tree n).1, (small_tree n).2⟩)⟩
theorem info_int : (Try.prog.info? 3).map (fun i => (i.zero, i.size, i.bytes)) = some (some (.int .i64 0), 1, 8) := by kernel_rfl
def intsI (l : List Int) : List Value := l.map (Value.int .i64)
theorem intsI_length (l : List Int) : (intsI l).length = l.length := by simp [intsI]
theorem intsI_append (l m : List Int) : intsI (l ++ m) = intsI l ++ intsI m := by simp [intsI]
theorem intsI_one (l : List Int) : ∀ u ∈ intsI l, u.oneCell' = true := by
  intro u hu
  obtain ⟨x, _, rfl⟩ := List.mem_map.1 hu
  rfl
theorem seenL_take (l : List Ex) {i : Nat} (h : i < l.length) : seenL (l.take (i + 1)) = seenL (l.take i) ++ seen l[i] := by
  rw [List.take_succ_eq_append_getElem h, seenL_append]
  simp [seenL]
theorem seenB_take (l : List St) {i : Nat} (h : i < l.length) : seenB (l.take (i + 1)) = seenB (l.take i) ++ seenS l[i] := by
  rw [List.take_succ_eq_append_getElem h, seenB_append]
  simp [seenB]
theorem seenL_le (l : List Ex) (i : Nat) : (seenL (l.take i)).length ≤ (seenL l).length := by
  have h := seenL_append (l.take i) (l.drop i)
  rw [List.take_append_drop] at h
  rw [h, List.length_append]
  omega
theorem seenB_le (l : List St) (i : Nat) : (seenB (l.take i)).length ≤ (seenB l).length := by
  have h := seenB_append (l.take i) (l.drop i)
  rw [List.take_append_drop] at h
  rw [h, List.length_append]
  omega
theorem own_base {w : World} {base base' n size : Nat} {e : TypeId} {v : Value} {xs : List Value} (h : w.ownsRow base e size v n xs) (hb : base' ≤ base) : w.ownsRow base' e size v n xs := by
  refine ⟨h.1, ?_⟩
  rcases h.2 with h0 | ⟨g, cap, cur, hv, hg, h2⟩
  · exact .inl h0
  · exact .inr ⟨g, cap, cur, hv, Nat.le_trans hb hg, h2⟩
theorem below_drew {B : Nat} {x y : World} (h : Below B x y) : Below B x y.drew := ⟨h.os, h.tape, h.output, h.size, h.block⟩
theorem rowK (W : World) (t : TypeId) (u : Value) : RowAt (W.alloc (.cells #[u] t)) (some ⟨W.heap.size, 0, none⟩) [u] := fun _ => by
  refine ⟨_, _, rfl, by simp, fun i v hv => ?_⟩
  rw [Nat.zero_add, (Is.made W t #[u]).at_]
  simpa using hv
theorem row_far {w w' : World} {g n size base : Nat} {e : TypeId} {v : Value} {xs ys : List Value} (h : RowAt w (some ⟨g, 0, none⟩) xs) (ho : w.ownsRow base e size v n ys) (hne : v.ownBlock ≠ some g) (hg : w.grownBy w' v.ownBlock) : RowAt w' (some ⟨g, 0, none⟩) xs := fun h0 => by
  obtain ⟨bk, o, e, hl, hc⟩ := h h0
  injection e with e
  injection e with e1 e2
  subst e1 e2
  exact ⟨_, _, rfl, Nat.lt_of_lt_of_le hl hg.size, fun i u hu => by
    rw [hg.cell_far ⟨g, 0 + i, none⟩ hl (fun e => hne e.symm)]
    exact hc i u hu⟩
theorem RowAt.drew {w : World} {A : Option Addr} {xs : List Value} (h : RowAt w A xs) : RowAt w.drew A xs := h
def SeenE (n : Nat) : Prop := ∀ (x : Ex) (cs : List Value) (w : World), ExAt w n x cs → (seen x).length ≤ 2000000 →
    Calls Try.prog 12 #[.agg cs.toArray] w fun e w' => ∃ v, e = .returned v ∧ w'.ownsRow w.heap.size 3 1 v (seen x).length (intsI (seen x)) ∧ Below w.heap.size w w'
def SeenBl (n : Nat) : Prop := ∀ (l : List St) (A : Option Addr) (c : Nat) (w : World), ListAt w 17 (StAt w n) A l → (seenB l).length ≤ 2000000 →
    Calls Try.prog 13 #[.slice A l.length c] w fun e w' => ∃ v, e = .returned v ∧ w'.ownsRow w.heap.size 3 1 v (seenB l).length (intsI (seenB l)) ∧ Below w.heap.size w w'
set_option maxHeartbeats 8000000 in
set_option maxRecDepth 100000 in
theorem seenE_step (n : Nat) (IHE : Hid (SeenE n)) (IHB : Hid (SeenBl n)) : SeenE (n + 1) := by
    rintro ⟨k0, nm, v0, u, ar, ns, b, l, c⟩ cs w h hbig
    obtain ⟨i0, hi0, hz0, hz1, hz2⟩ := info_parts info_int
    have HI := Lib.hid hi0
    obtain ⟨A, ca, An, cn, B, cb, rfl, h1, h2, h3⟩ := h
    obtain ⟨la, hla⟩ : ∃ n, ar.length = n := ⟨_, rfl⟩
    obtain ⟨ln, hln⟩ : ∃ n, ns.length = n := ⟨_, rfl⟩
    obtain ⟨lb, hlb⟩ : ∃ n, b.length = n := ⟨_, rfl⟩
    have hsb : (seen (.mk k0 nm v0 u ar ns b l c)).length = (seenL ar).length + (seenB b).length + 1 := by simp only [seen, List.length_append, List.length_cons, List.length_nil]
    have HSEEN : Hid (seen (.mk k0 nm v0 u ar ns b l c) = seenL ar ++ seenB b ++ [k0]) := rfl
    obtain ⟨SX, hSX⟩ : ∃ s, seen (.mk k0 nm v0 u ar ns b l c) = s := ⟨_, rfl⟩
    rw [hSX] at hsb hbig HSEEN ⊢
    have BG := Lib.hid (show (seenL ar).length + (seenB b).length + 1 ≤ 2000000 by omega)
    have HLA := Lib.hid hla
    have HLN := Lib.hid hln
    have HLB := Lib.hid hlb
    rw [hla, hln, hlb]
    have hlam : la ≤ maxLen := by rw [← hla]; exact h1.le
    have hlbm : lb ≤ maxLen := by rw [← hlb]; exact h3.le
    unfold maxLen at hlam hlbm
    have H1 := Lib.hid h1
    have H3 := Lib.hid h3
    have hb0 : Below w.heap.size w (w.alloc (.cells #[.int .i64 k0, .string nm, .int .u64 v0, .bool u, .slice A la ca, .slice An ln cn, .slice B lb cb, .int .i64 l, .int .i64 c] 29)) := (Below.refl _ w).alloc (Nat.le_refl _) _
    have I0 := Lib.hid (Is.made w 29 #[.int .i64 k0, .string nm, .int .u64 v0, .bool u, .slice A la ca, .slice An ln cn, .slice B lb cb, .int .i64 l, .int .i64 c])
    have B0 := Lib.hid hb0
    clear h1 h2 h3 hla hln hlb hb0 hi0 hSX hsb hbig
    go_enter Try.func12, Try.ntmps12
    go_wp2
    go_loopw [3, 4] (fun v i wr => ∃ k : Nat, k ≤ la ∧ i = .int .i64 k ∧ Hid (Below (w.heap.size + 1) (w.alloc (.cells #[.int .i64 k0, .string nm, .int .u64 v0, .bool u, .slice A la ca, .slice An ln cn, .slice B lb cb, .int .i64 l, .int .i64 c] 29)) wr) ∧
      Hid (wr.ownsRow (w.heap.size + 1) 3 1 v (seenL (ar.take k)).length (intsI (seenL (ar.take k))))) (fun _ i _ => la - (intOf i).toNat)
    case atStart => exact ⟨0, Nat.zero_le _, rfl, Below.refl _ _, ⟨rfl, .inl ⟨rfl, rfl⟩⟩⟩
    case round =>
      obtain ⟨q, hq, rfl, HB, HO⟩ := hrel
      have IW := I0.out.below HB.out (by omega)
      have hsz : w.heap.size + 1 ≤ wr.heap.size := by have := HB.out.size; simpa using this
      have c0 := IW.at_ 0
      have c4 := IW.at_ 4
      have c6 := IW.at_ 6
      simp only [List.getElem?_toArray, List.getElem?_cons_zero, List.getElem?_cons_succ] at c0 c4 c6
      have BW : Hid (Below w.heap.size w wr) := B0.out.trans (HB.out.mono (by omega))
      have IWH := Lib.hid IW
      clear IW
      obtain ⟨ao, cp, rfl, _⟩ := own_slice HO.out
      obtain ⟨no, hno⟩ : ∃ n, (seenL (ar.take q)).length = n := ⟨_, rfl⟩
      have hno2 : no ≤ 2000000 := by have h1 := seenL_le ar q; have h2 := BG.out; omega
      have HNO := Lib.hid hno
      rw [hno] at HO ⊢
      clear hno
      by_cases hql : q < la
      · obtain ⟨bk, o, cs2, rfl, _, hl2, hs2, hc2⟩ := (H1.out.below (P' := ExAt wr n) BW.out (fun x _ cs h => ExAt.below BW.out n x cs h)).get (by decide) (show q < ar.length by rw [HLA.out]; exact hql)
        have hst := seenL_take ar (show q < ar.length by rw [HLA.out]; exact hql)
        obtain ⟨sx, hsx⟩ : ∃ s, seen (ar[q]'(by rw [HLA.out]; exact hql)) = s := ⟨_, rfl⟩
        have hsl : no + sx.length ≤ 2000000 := by
          have h1 := seenL_le ar (q + 1)
          rw [hst, List.length_append, HNO.out, hsx] at h1
          have h2 := BG.out
          omega
        match cs2, hl2 with
        | [v0, v1, v2, v3, v4, v5, v6, v7, v8], _ =>
          have x0 := hc2 0 _ rfl
          rw [Nat.add_zero] at x0
          have x1 := hc2 1 _ rfl
          have x2 := hc2 2 _ rfl
          have x3 := hc2 3 _ rfl
          have x4 := hc2 4 _ rfl
          have x5 := hc2 5 _ rfl
          have x6 := hc2 6 _ rfl
          have x7 := hc2 7 _ rfl
          have x8 := hc2 8 _ rfl
          have HS := IHE.out _ _ wr hs2 (by rw [hsx]; omega)
          rw [hsx] at HS hst
          have HS := Lib.hid HS
          have HST := Lib.hid hst
          clear hc2 hs2 hsx hst c0 c6
          go_wp2_with fail
          refine HS.out.mono ?_
          rintro e w3 ⟨vs, rfl, q1, q2⟩
          obtain ⟨av, cs3, rfl, hna⟩ := own_slice q1
          have R3 := Lib.hid (own_row q1)
          have HB3 := Lib.hid (HB.out.trans (q2.mono hsz))
          have HO3 := Lib.hid (own_below HO.out q2)
          have hsz3 : w.heap.size + 1 ≤ w3.heap.size := by have := q2.size; omega
          have HNA := Lib.hid hna
          clear q1 q2 x0 x1 x2 x3 x4 x5 x6 x7 x8 hna
          go_wp2_with (at_builtin; refine wpList_append_row rfl (.tmp 12) (.tmp 18) 33 rfl (w.heap.size + 1) 3 i0 (.int .i64 0) 1 8 Try.underlying33 HI.out hz0 hz1 hz2 rfl (by decide) _ no _ rfl HO3.out av sx.length cs3 (fun e => (HNA.out e).1) (intsI sx) rfl (by rw [intsI_length, Nat.mul_one]) R3.out (intsI_one _) (by unfold maxLen; omega) (by omega) hsz3 ?_)
          intro v4 w4 ho4 hg4
          have HO4 : Hid (w4.ownsRow (w.heap.size + 1) 3 1 v4 (seenL (ar.take (q + 1))).length (intsI (seenL (ar.take (q + 1))))) := by
            show World.ownsRow _ _ _ _ _ _ _
            rw [HST.out, intsI_append, List.length_append, HNO.out]
            exact ho4
          have HB4 : Hid (Below (w.heap.size + 1) _ w4) := below_own HB3.out HO3.out (Nat.le_refl _) hsz3 hg4
          clear ho4 hg4
          go_wp2
          go_roundw
          case rel => exact ⟨q + 1, by omega, by go_num, HB4, HO4⟩
          case measure => simp [intOf]; omega
      · have hqe : q = la := by omega
        subst hqe
        have hbb : (seenB b).length ≤ 2000000 := by have := BG.out; omega
        have KC : Hid (∀ W, Below (w.heap.size + 1) (w.alloc (.cells #[.int .i64 k0, .string nm, .int .u64 v0, .bool u, .slice A q ca, .slice An ln cn, .slice B lb cb, .int .i64 l, .int .i64 c] 29)) W →
            W.cell? ⟨w.heap.size, 0, none⟩ = some (.int .i64 k0) ∧ W.cell? ⟨w.heap.size, 6, none⟩ = some (.slice B lb cb)) := fun W hW => by
          have h1 := I0.out.below hW (by omega)
          exact ⟨by rw [h1.at_]; rfl, by rw [h1.at_]; rfl⟩
        have HSB : Hid (∀ W, Below (w.heap.size + 1) (w.alloc (.cells #[.int .i64 k0, .string nm, .int .u64 v0, .bool u, .slice A q ca, .slice An ln cn, .slice B lb cb, .int .i64 l, .int .i64 c] 29)) W →
            Calls Try.prog 13 #[.slice B lb cb] W fun e w' => ∃ v, e = .returned v ∧ w'.ownsRow W.heap.size 3 1 v (seenB b).length (intsI (seenB b)) ∧ Below W.heap.size W w') := fun W hW => by
          have hw : Below w.heap.size w W := B0.out.trans (hW.mono (by omega))
          have := IHB.out b B cb W (H3.out.below (P' := StAt W n) hw (fun x _ cs h => StAt.below hw n x cs h)) hbb
          rw [HLB.out] at this
          exact this
        obtain ⟨nb, hnb⟩ : ∃ n, (seenB b).length = n := ⟨_, rfl⟩
        have HNB := Lib.hid hnb
        rw [hnb] at HSB
        have hsum : no + nb + 1 ≤ 2000001 := by
          have h1 := BG.out
          have h2 := seenL_le ar q
          rw [hnb] at h1
          rw [HNO.out] at h2
          omega
        have HNE : Hid (∀ g, wr.heap.size ≤ g → (Value.slice ao no cp).ownBlock ≠ some g) := fun g hg e => by have := (HO.out.lt g e).2; omega
        clear hbb hnb
        go_wp2_with fail
        go_region_held3 (fun w' => w'.cell? ⟨w.heap.size, 0, none⟩ = some (.int .i64 k0) ∧ w'.cell? ⟨w.heap.size, 6, none⟩ = some (.slice B lb cb))
          (first
            | exact KC.out _ (below_drew HB.out)
            | exact KC.out _ (below_drew (HB.out.alloc hsz _))
            | exact KC.out _ HB4.out
            | exact KC.out _ HB3.out
            | exact KC.out _ (HB3.out.alloc hsz3 _)
            | exact KC.out _ HB2.out
            | exact KC.out _ (HB2.out.alloc hsz2 _))
          (first
            | (go_at_call 13; refine (HSB.out _ (below_drew HB.out)).mono ?_; rintro e w2 ⟨vb, rfl, q1, q2⟩; obtain ⟨bv, cb2, rfl, hbv⟩ := own_slice q1; have HBV := Lib.hid hbv; have R2 := Lib.hid (own_row q1); have HB2 := Lib.hid ((below_drew HB.out).trans (q2.mono hsz)); have O2 := Lib.hid (own_below HO.out.drew q2); have hsz2 : w.heap.size + 1 ≤ w2.heap.size := Nat.le_trans hsz q2.size; have hr2 : wr.heap.size ≤ w2.heap.size := q2.size; clear q1 q2 hbv)
            | (go_at_call 13; refine (HSB.out _ (below_drew (HB.out.alloc hsz _))).mono ?_; rintro e w2 ⟨vb, rfl, q1, q2⟩; obtain ⟨bv, cb2, rfl, hbv⟩ := own_slice q1; have HBV := Lib.hid hbv; have R2 := Lib.hid (own_row q1); have RK2 := Lib.hid ((rowK wr 3 (.int .i64 k0)).drew.below q2); have HB2 := Lib.hid ((below_drew (HB.out.alloc hsz _)).trans (q2.mono (Nat.le_trans hsz (by simp)))); have O2 := Lib.hid (own_below (HO.out.alloc _).drew q2); have hsz2 : w.heap.size + 1 ≤ w2.heap.size := Nat.le_trans (Nat.le_trans hsz (by simp)) q2.size; clear q1 q2 hbv)
            | (refine step_append_row (by rfl) (.tmp 20) (.tmp 23) 33 (by rfl) (w.heap.size + 1) 3 i0 (.int .i64 0) 1 8 Try.underlying33 HI.out hz0 hz1 hz2 rfl (by decide) _ no _ (by rfl) O2.out bv nb cb2 (fun e => (HBV.out e).1) (intsI (seenB b)) (by rfl) (by rw [intsI_length, HNB.out, Nat.mul_one]) R2.out (intsI_one _) (by unfold maxLen; omega) (by omega) hsz2 ?_; intro v3 w3 ho3 hg3; have HB3 := Lib.hid (below_own HB2.out O2.out (Nat.le_refl _) hsz2 hg3); have O3 := Lib.hid ho3; have hsz3 : w.heap.size + 1 ≤ w3.heap.size := Nat.le_trans hsz2 hg3.size; (try have RK3 := Lib.hid (row_far RK2.out O2.out (HNE.out _ (Nat.le_refl _)) hg3)); clear ho3 hg3)
            | (refine step_append_row (by rfl) (.tmp 20) (.tmp 23) 33 (by rfl) (w.heap.size + 1) 3 i0 (.int .i64 0) 1 8 Try.underlying33 HI.out hz0 hz1 hz2 rfl (by decide) _ no _ (by rfl) (O2.out.alloc _) bv nb cb2 (fun e => (HBV.out e).1) (intsI (seenB b)) (by rfl) (by rw [intsI_length, HNB.out, Nat.mul_one]) (R2.out.below ((Below.refl _ w2).alloc (Nat.le_refl _) _)) (intsI_one _) (by unfold maxLen; omega) (by omega) (Nat.le_trans hsz2 (by simp)) ?_; intro v3 w3 ho3 hg3; have HB3 := Lib.hid (below_on HB2.out O2.out (Nat.le_refl _) hsz2 hg3); have O3 := Lib.hid ho3; have hsz3 : w.heap.size + 1 ≤ w3.heap.size := Nat.le_trans hsz2 (Nat.le_trans (by simp) hg3.size); have RK3 := Lib.hid (row_far (rowK w2 3 (.int .i64 k0)) (O2.out.alloc _) (HNE.out _ hr2) hg3); clear ho3 hg3)
            | (refine step_append_row (by rfl) (.tmp 24) (.tmp 27) 33 (by rfl) (w.heap.size + 1) 3 i0 (.int .i64 0) 1 8 Try.underlying33 HI.out hz0 hz1 hz2 rfl (by decide) _ (no + nb) _ (by rfl) O3.out _ 1 1 (fun e => by cases e) [.int .i64 k0] (by rfl) (by rfl) RK3.out (by simp [Value.oneCell']) (by unfold maxLen; omega) (by omega) hsz3 ?_; intro v4 w4 ho4 hg4; have HB4 := Lib.hid (below_own HB3.out O3.out (Nat.le_refl _) hsz3 hg4); have O4 := Lib.hid ho4; clear ho4 hg4)
            | (refine step_append_row (by rfl) (.tmp 24) (.tmp 27) 33 (by rfl) (w.heap.size + 1) 3 i0 (.int .i64 0) 1 8 Try.underlying33 HI.out hz0 hz1 hz2 rfl (by decide) _ (no + nb) _ (by rfl) (O3.out.alloc _) _ 1 1 (fun e => by cases e) [.int .i64 k0] (by rfl) (by rfl) (rowK w3 3 (.int .i64 k0)) (by simp [Value.oneCell']) (by unfold maxLen; omega) (by omega) (Nat.le_trans hsz3 (by simp)) ?_; intro v4 w4 ho4 hg4; have HB4 := Lib.hid (below_on HB3.out O3.out (Nat.le_refl _) hsz3 hg4); have O4 := Lib.hid ho4; clear ho4 hg4))
        all_goals
          have HF : Hid (w4.ownsRow w.heap.size 3 1 v4 SX.length (intsI SX)) := by
            have h1 := own_base O4.out (show w.heap.size ≤ w.heap.size + 1 by omega)
            have h2 := HNO.out
            have h3 := HNB.out
            rw [← HLA.out, List.take_length] at h1 h2
            show World.ownsRow _ _ _ _ _ _ _
            rw [HSEEN.out, intsI_append, intsI_append, List.length_append, List.length_append, h2, h3]
            exact h1
          have HG : Hid (Below w.heap.size w w4) := B0.out.trans (HB4.out.mono (by omega))
          clear O4 O3 O2
          go_wp2
          go_ret
          exact ⟨_, rfl, HF.out, HG.out⟩
end Tr
end Go.Proofs.Ythainjaefijidaa

/- The walks of layer 3's reference: are statements small? -/
import Derived.BigQuiet
import Derived.Test.YthainjaefijidaaTreeT
namespace Go.Proofs.Ythainjaefijidaa
open Go.RowKit Go.Deep
namespace Tr
theorem grown_drew {w w' : World} {r : Option Nat} (h : w.drew.grownBy w' r) : w.grownBy w' r := ⟨h.os, h.tape, h.output, h.size, h.block⟩
def zeroEx : Value := .agg #[.int .i64 0, .string ⟨#[]⟩, .int .u64 0, .bool false, .slice none 0 0, .slice none 0 0, .slice none 0 0, .int .i64 0, .int .i64 0]
theorem info_ex : (Try.prog.info? 29).map (fun i => (i.zero, i.size, i.bytes)) = some (some zeroEx, 9, 128) := by kernel_rfl
theorem chunks_append {α : Type} {sz : Nat} {P : α → List Value → Prop} {l m : List α} {xs ys : List Value} (hx : xs.length = l.length * sz) (px : ∀ (i : Nat) (h : i < l.length), P l[i] ((xs.drop (i * sz)).take sz)) (py : ∀ (i : Nat) (h : i < m.length), P m[i] ((ys.drop (i * sz)).take sz)) :
    ∀ (i : Nat) (h : i < (l ++ m).length), P (l ++ m)[i] (((xs ++ ys).drop (i * sz)).take sz) := by
  intro i h
  by_cases hi : i < l.length
  · have hle : i * sz + sz ≤ xs.length := by
      rw [hx]
      have : (i + 1) * sz ≤ l.length * sz := Nat.mul_le_mul_right _ hi
      rwa [Nat.succ_mul] at this
    rw [List.getElem_append_left hi, List.drop_append_of_le_length (by omega), List.take_append_of_le_length (by rw [List.length_drop]; omega)]
    exact px i hi
  · obtain ⟨j, rfl⟩ : ∃ j, i = l.length + j := ⟨i - l.length, by omega⟩
    rw [List.length_append] at h
    have hj : j < m.length := by omega
    rw [List.getElem_append_right (by omega), Nat.add_mul, ← hx, List.drop_append]
    have e1 : xs.drop (xs.length + j * sz) = [] := List.drop_of_length_le (by omega)
    rw [e1, List.nil_append, show xs.length + j * sz - xs.length = j * sz by omega]
    have := py j hj
    simpa [Nat.add_sub_cancel_left] using this
theorem own_list {α : Type} {w : World} {base n c sz : Nat} {e : TypeId} {A : Option Addr} {P : α → List Value → Prop} {l : List α} {xs : List Value} (ho : w.ownsRow base e sz (.slice A n c) n xs) (hn : l.length = n) (h1 : ∀ u ∈ xs, u.oneCell' = true)
    (hp : ∀ (i : Nat) (h : i < l.length), P l[i] ((xs.drop (i * sz)).take sz)) : ListAt w sz P A l :=
  ⟨xs, ⟨by rw [ho.1, hn], by
    rw [hn]
    rcases ho.2 with ⟨_, h0⟩ | ⟨_, _, _, _, _, _, h2, h3, _⟩
    · rw [h0]; exact Nat.zero_le _
    · omega⟩, ⟨own_row ho, h1⟩, hp⟩
set_option maxHeartbeats 16000000 in
set_option maxRecDepth 100000 in
theorem smallB_step (n : Nat) (IH : Hid (n = 0 ∨ ∃ k, n = k + 1 ∧ SmallE k ∧ SmallB k)) : SmallB n := by
    intro l A c d w h hd
    obtain ⟨i0, hi0, hz0, hz1, hz2⟩ := info_parts info_ex
    have HI := Lib.hid hi0
    have HL := Lib.hid h
    obtain ⟨ll, hll⟩ : ∃ n, l.length = n := ⟨_, rfl⟩
    have HLL := Lib.hid hll
    obtain ⟨H, hH⟩ : ∃ x, w.heap.size = x := ⟨_, rfl⟩
    have HH := Lib.hid hH
    rw [hll, hH]
    clear h hll hH hi0
    by_cases hout : (0 < ll ∧ d < 1) ∨ (12 < ll ∧ 1 ≤ d)
    · rcases hout with ⟨g1, g2⟩ | ⟨g1, g2⟩
      all_goals
        go_enter Try.func6, Try.ntmps6
        go_wp2
        go_ret
        exact ⟨⟨_, rfl⟩, by rw [← HH.out]; exact Below.refl _ _⟩
    · have hl12 : ll ≤ 12 := by omega
      have hd0 : 0 < ll → 1 ≤ d := by omega
      have hzero : ll = 0 ∨ (0 < ll ∧ 1 ≤ d) := by omega
      clear hout hd0
      rcases hzero with hz | ⟨hl0, hd1⟩
      · subst hz
        go_enter Try.func6, Try.ntmps6
        go_wp2
        go_loop [5] (fun i => i = .int .i64 0) (fun _ => 0)
        case atStart => rfl
        case round =>
          subst hrel
          go_wp2
          go_ret
          exact ⟨⟨_, rfl⟩, by rw [← HH.out]; exact Below.refl _ _⟩
      · obtain ⟨dd, hdd⟩ : ∃ dd : Nat, (d : Int) - 1 = dd := ⟨d - 1, by omega⟩
        have hd1' : dd ≤ 100 := by omega
        go_enter Try.func6, Try.ntmps6
        go_wp2
        go_loopw [5] (fun i wr => ∃ k : Nat, k ≤ ll ∧ i = .int .i64 k ∧ Hid (Below H w wr)) (fun i _ => ll - (intOf i).toNat)
        case atStart => exact ⟨0, Nat.zero_le _, rfl, Below.refl _ _⟩
        case round =>
          obtain ⟨q, hq, rfl, HB⟩ := hrel
          by_cases hql : q < ll
          · obtain ⟨bk, o, cs, rfl, hbk, hl2, hs2, hc2⟩ := HL.out.get (by decide) (show q < l.length by rw [HLL.out]; exact hql)
            rcases IH.out with rfl | ⟨k, rfl, IHE, IHB⟩
            · exact hs2.elim
            · obtain ⟨⟨k0, nm, ty, p, e, b, el, ot, ln, cl⟩, hse⟩ : ∃ s, l[q]'(by rw [HLL.out]; exact hql) = s := ⟨_, rfl⟩
              rw [hse] at hs2
              obtain ⟨ts, P, cp, E, ce, B, cb, L, cL, rfl, t0, t1, t2, t3, t4⟩ := hs2
              have hty := t0.one.1
              match ts, hty with
              | [y0, y1, y2, y3, y4, y5, y6, y7], _ =>
                have hbkH : bk < H := by rw [← HH.out]; exact hbk
                have HX : Hid (∀ (W : World), Below H w W → ∀ (j : Nat) (u : Value), ([.int .i64 k0, .string nm] ++ [y0, y1, y2, y3, y4, y5, y6, y7] ++ [.slice P p.length cp, .slice E e.length ce, .slice B b.length cb, .slice L el.length cL, .bool ot, .int .i64 ln, .int .i64 cl] : List Value)[j]? = some u → W.cell? ⟨bk, o + q * 17 + j, none⟩ = some u) :=
                  fun W hW j u hu => (hW.cell (p := ⟨bk, o + q * 17 + j, none⟩) hbkH).trans (hc2 j u hu)
                have T0 := Lib.hid t0
                have T1 := Lib.hid t1
                have T2 := Lib.hid t2
                have T3 := Lib.hid t3
                have T4 := Lib.hid t4
                obtain ⟨lp, hlp⟩ : ∃ n, p.length = n := ⟨_, rfl⟩
                obtain ⟨le, hle⟩ : ∃ n, e.length = n := ⟨_, rfl⟩
                obtain ⟨lb, hlb⟩ : ∃ n, b.length = n := ⟨_, rfl⟩
                obtain ⟨lel, hlel⟩ : ∃ n, el.length = n := ⟨_, rfl⟩
                have HLP := Lib.hid hlp
                have HLE := Lib.hid hle
                have HLB := Lib.hid hlb
                have HLEL := Lib.hid hlel
                rw [hlp, hle, hlb, hlel] at HX
                have x1 := HX.out wr HB.out 1 _ rfl
                have x2 := HX.out wr HB.out 2 _ rfl
                have x3 := HX.out wr HB.out 3 _ rfl
                have x4 := HX.out wr HB.out 4 _ rfl
                have x5 := HX.out wr HB.out 5 _ rfl
                have x6 := HX.out wr HB.out 6 _ rfl
                have x7 := HX.out wr HB.out 7 _ rfl
                have x8 := HX.out wr HB.out 8 _ rfl
                have x9 := HX.out wr HB.out 9 _ rfl
                have x10 := HX.out wr HB.out 10 _ rfl
                have x11 := HX.out wr HB.out 11 _ rfl
                clear hlp hle hlb hlel t0 t1 t2 t3 t4 hc2 hse hl2
                by_cases g1 : 3 < lp
                · go_wp2
                  go_ret
                  exact ⟨⟨_, rfl⟩, HB.out⟩
                · have g1' : lp ≤ 3 := by omega
                  clear g1
                  by_cases g2 : 3 < le
                  · go_wp2
                    go_ret
                    exact ⟨⟨_, rfl⟩, HB.out⟩
                  · have g2' : le ≤ 3 := by omega
                    clear g2
                    by_cases g3 : 100 < nm.size
                    · go_wp2
                      go_ret
                      exact ⟨⟨_, rfl⟩, HB.out⟩
                    · have g3' : nm.size ≤ 100 := by omega
                      clear g3
                      have HS := Lib.hid (smallType_any k ty _ 6 wr (TyAt.below (by rw [HH.out]; exact HB.out) k _ _ T0.out) (by decide))
                      have hszr : H ≤ wr.heap.size := by have := HB.out.size; have := HH.out; omega
                      go_wp2_with fail
                      refine HS.out.mono ?_
                      rintro e w3 ⟨⟨b1, rfl⟩, q3⟩
                      have HB3 := Lib.hid (HB.out.trans (q3.mono hszr))
                      have hsz3 : H ≤ w3.heap.size := by have := q3.size; omega
                      clear q3 x1 x2 x3 x4 x5 x6 x7 x8 x9 x10 x11 HS
                      cases b1 with
                      | false =>
                        go_wp2
                        go_ret
                        exact ⟨⟨_, rfl⟩, HB3.out⟩
                      | true =>
                        have x12 := HX.out w3 HB3.out 12 _ rfl
                        have HS := IHB b B cb dd w3 (T3.out.below (by rw [HH.out]; exact HB3.out) (fun x _ cs h => StAt.below (by rw [HH.out]; exact HB3.out) k x cs h)) hd1'
                        rw [HLB.out] at HS
                        have HS := Lib.hid HS
                        go_wp2_with fail
                        refine HS.out.mono ?_
                        rintro e w4 ⟨⟨b2, rfl⟩, q4⟩
                        have HB4 := Lib.hid (HB3.out.trans (q4.mono hsz3))
                        have hsz4 : H ≤ w4.heap.size := by have := q4.size; omega
                        clear q4 x12 HS
                        cases b2 with
                        | false =>
                          go_wp2
                          go_ret
                          exact ⟨⟨_, rfl⟩, HB4.out⟩
                        | true =>
                          have x13 := HX.out w4 HB4.out 13 _ rfl
                          have HS := IHB el L cL dd w4 (T4.out.below (by rw [HH.out]; exact HB4.out) (fun x _ cs h => StAt.below (by rw [HH.out]; exact HB4.out) k x cs h)) hd1'
                          rw [HLEL.out] at HS
                          have HS := Lib.hid HS
                          go_wp2_with fail
                          refine HS.out.mono ?_
                          rintro e w5 ⟨⟨b3, rfl⟩, q5⟩
                          have HB5 := Lib.hid (HB4.out.trans (q5.mono hsz4))
                          have hsz5 : H ≤ w5.heap.size := by have := q5.size; omega
                          clear q5 x13 HS
                          cases b3 with
                          | false =>
                            go_wp2
                            go_ret
                            exact ⟨⟨_, rfl⟩, HB5.out⟩
                          | true =>
                            have x10 := HX.out w5 HB5.out 10 _ rfl
                            have x11 := HX.out w5 HB5.out 11 _ rfl
                            obtain ⟨xp, ⟨np, _⟩, ⟨rp, op⟩, pp⟩ := T1.out
                            obtain ⟨xe, ⟨ne, _⟩, ⟨re, oe⟩, pe⟩ := T2.out
                            have RP := Lib.hid (rp.below (by rw [HH.out]; exact HB5.out))
                            have RE := Lib.hid (re.below (by rw [HH.out]; exact HB5.out))
                            have hAP : P = none → lp = 0 := fun e => by
                              subst e
                              have h1 := np
                              rw [rp.nil, HLP.out, List.length_nil] at h1
                              omega
                            have hAE : E = none → le = 0 := fun e => by
                              subst e
                              have h1 := ne
                              rw [re.nil, HLE.out, List.length_nil] at h1
                              omega
                            have NP := Lib.hid np
                            have NE := Lib.hid ne
                            rw [HLP.out] at NP
                            rw [HLE.out] at NE
                            have OP := Lib.hid op
                            have OE := Lib.hid oe
                            have PP := Lib.hid pp
                            have PE := Lib.hid pe
                            have HAP := Lib.hid hAP
                            have HAE := Lib.hid hAE
                            have ba : Below w5.heap.size w5 (w5.alloc (.cells #[] 29)) := (Below.refl _ w5).alloc (Nat.le_refl _) _
                            have BA := Lib.hid ba
                            have RPA : Hid (RowAt (w5.alloc (.cells #[] 29)).drew P xp) := (RP.out.below BA.out : RowAt (w5.alloc (.cells #[] 29)) P xp)
                            have OW := Lib.hid (World.ownsRow_made (e := 29) (size := 9) (base := w5.heap.size) w5 #[] 0 (Nat.le_refl _) (Nat.zero_le _) rfl)
                            have x10o : ∀ o', (w5.alloc o').cell? ⟨bk, o + q * 17 + 10, none⟩ = some (.slice P lp cp) := fun o' => HX.out _ (HB5.out.alloc hsz5 o') 10 _ rfl
                            have x11o : ∀ o', (w5.alloc o').cell? ⟨bk, o + q * 17 + 11, none⟩ = some (.slice E le ce) := fun o' => HX.out _ (HB5.out.alloc hsz5 o') 11 _ rfl
                            clear rp re op oe pp pe ba hAP hAE np ne
                            go_wp2_with fail
                            go_region_law (first
                              | (refine step_append_row (by rfl) (.tmp 82) (.tmp 87) 23 (by rfl) w5.heap.size 29 i0 zeroEx 9 128 Try.underlying23 HI.out hz0 hz1 hz2 rfl (by decide) _ 0 [] (by rfl) (OW.out.drew) P lp cp HAP.out xp (by rfl) NP.out RPA.out OP.out (by unfold maxLen; omega) (by omega) (by simp) ?_; intro v1 w6 ho1 hg1; rw [Nat.zero_add, List.nil_append] at ho1; have B6 := Lib.hid (below_own BA.out OW.out (Nat.le_refl _) (by simp) (grown_drew hg1)); have x11p := HX.out w6 (HB5.out.trans (B6.out.mono hsz5)) 11 _ rfl; have O1 := Lib.hid ho1; clear ho1 hg1)
                              | (refine step_append_row (by rfl) (.tmp 88) (.tmp 93) 23 (by rfl) w5.heap.size 29 i0 zeroEx 9 128 Try.underlying23 HI.out hz0 hz1 hz2 rfl (by decide) _ lp xp (by rfl) O1.out E le ce HAE.out xe (by rfl) NE.out (RE.out.below B6.out) OE.out (by unfold maxLen; omega) (by omega) (B6.out.size) ?_; intro v2 w7 ho2 hg2; have B7 := Lib.hid (below_own B6.out O1.out (Nat.le_refl _) B6.out.size hg2); have O2 := Lib.hid ho2; clear ho2 hg2))
                            all_goals
                              obtain ⟨A2, c2, rfl, _⟩ := own_slice O2.out
                              have HB7 : Hid (Below H w w7) := HB5.out.trans (B7.out.mono hsz5)
                              have hsz7 : H ≤ w7.heap.size := by have := B7.out.size; omega
                              have hpe : (p ++ e).length = lp + le := by rw [List.length_append, HLP.out, HLE.out]
                              have LA := Lib.hid (own_list (P := ExAt w k) (l := p ++ e) O2.out hpe (fun u hu => by
                                rcases List.mem_append.1 hu with h | h
                                · exact OP.out u h
                                · exact OE.out u h) (chunks_append (by rw [NP.out, HLP.out]) PP.out PE.out))
                              have HPE := Lib.hid hpe
                              obtain ⟨na, hna⟩ : ∃ n, lp + le = n := ⟨_, rfl⟩
                              rw [hna] at HPE
                              have hna6 : na ≤ 6 := by omega
                              rw [hna]
                              clear hpe hna O2 B7
                              go_wp2
                              go_loopw [7] (fun i wi => ∃ r : Nat, r ≤ na ∧ i = .int .i64 r ∧ Hid (Below w7.heap.size w7 wi)) (fun i _ => na - (intOf i).toNat)
                              case atStart => exact ⟨0, Nat.zero_le _, rfl, Below.refl _ _⟩
                              case round =>
                                obtain ⟨r, hr, rfl, HBi⟩ := hrel
                                have HBw : Hid (Below H w wr) := HB7.out.trans (HBi.out.mono hsz7)
                                have hszi : w7.heap.size ≤ wr.heap.size := HBi.out.size
                                by_cases hrn : r < na
                                · obtain ⟨bk2, o2, cs2, rfl, _, hl2, hs2, hc2⟩ := (LA.out.below (P' := ExAt wr k) HBi.out (fun x _ cs h => ExAt.below (by rw [HH.out]; exact HBw.out) k x cs h)).get (by decide) (show r < (p ++ e).length by rw [HPE.out]; exact hrn)
                                  match cs2, hl2 with
                                  | [v0, v1, v2, v3, v4, v5, v6, v7, v8], _ =>
                                    have z0 := hc2 0 _ rfl
                                    rw [Nat.add_zero] at z0
                                    have z1 := hc2 1 _ rfl
                                    have z2 := hc2 2 _ rfl
                                    have z3 := hc2 3 _ rfl
                                    have z4 := hc2 4 _ rfl
                                    have z5 := hc2 5 _ rfl
                                    have z6 := hc2 6 _ rfl
                                    have z7 := hc2 7 _ rfl
                                    have z8 := hc2 8 _ rfl
                                    have HS := Lib.hid (IHE _ _ d wr hs2 hd)
                                    clear hc2 hs2
                                    go_wp2_with fail
                                    refine HS.out.mono ?_
                                    rintro e w8 ⟨⟨b4, rfl⟩, q8⟩
                                    have HBi8 := Lib.hid (HBi.out.trans (q8.mono hszi))
                                    have HBw8 := Lib.hid (HBw.out.trans (q8.mono (by omega)))
                                    clear q8
                                    cases b4 with
                                    | true =>
                                      go_wp2
                                      go_roundw
                                      case rel => exact ⟨r + 1, by omega, by go_num, HBi8⟩
                                      case measure => simp [intOf]; omega
                                    | false =>
                                      go_wp2
                                      go_ret
                                      exact ⟨⟨_, rfl⟩, HBw8.out⟩
                                · have hre : r = na := by omega
                                  subst hre
                                  go_wp2
                                  go_roundw
                                  case rel => exact ⟨q + 1, by omega, by go_num, HBw⟩
                                  case measure => simp [intOf]; omega
          · have hqe : q = ll := by omega
            subst hqe
            go_wp2
            go_ret
            exact ⟨⟨_, rfl⟩, HB.out⟩
end Tr
end Go.Proofs.Ythainjaefijidaa

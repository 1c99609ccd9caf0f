/- The walk of layer 8's law VaryMore. -/
import Derived.Deep.RegionLaw
import Derived.Test.YtelmdidgmpbnmaaVaryN
namespace Go.Proofs.Ytelmdidgmpbnmaa
open Go.RowKit Go.Deep Tr Mp
namespace Vy
set_option maxHeartbeats 16000000 in
set_option maxRecDepth 100000 in
theorem varyMore_walk {n0 n1 : Nat} {l : List Df} {A : Option Addr} {ca : Nat} {x : Ty} {cs : List Value} {w : World} (at_ : Int) (h : ListAt w 4 (DfAt w n0) A l) (hx : TyAt w n1 x cs) :
    Calls Try.prog 5 #[.slice A l.length ca, .agg cs.toArray, .int .i64 at_] w fun e w' => e = .returned (.bool true) ∧ Below w.heap.size w w' := by
  have HX := Lib.hid hx
  have H := Lib.hid h
  obtain ⟨k0, nm0, u0, r0, R0, lr0, cr0, A0, la0, ca0, rfl⟩ := hx.shape
  obtain ⟨ll, hll⟩ : ∃ n, l.length = n := ⟨_, rfl⟩
  have hle := h.le
  unfold maxLen at hle
  rw [hll] at hle ⊢
  have HLL := Lib.hid hll
  have I0 := Lib.hid (Is.made w 34 #[.int .i64 k0, .string nm0, .bool u0, .int .i64 r0, .slice R0 lr0 cr0, .slice A0 la0 ca0])
  have B0 := Lib.hid ((Below.refl _ w).alloc (Nat.le_refl _) (.cells #[.int .i64 k0, .string nm0, .bool u0, .int .i64 r0, .slice R0 lr0 cr0, .slice A0 la0 ca0] 34))
  have S0 := Lib.hid (show (w.alloc (.cells #[.int .i64 k0, .string nm0, .bool u0, .int .i64 r0, .slice R0 lr0 cr0, .slice A0 la0 ca0] 34)).heap.size = w.heap.size + 1 by simp)
  clear h hx hll
  go_enter Try.func5, Try.ntmps5
  go_wp2_with fail
  refine (varied_any _).mono ?_
  rintro e W1 ⟨rfl, q1⟩
  have I1 := Lib.hid (I0.out.below q1 (by rw [S0.out]; omega))
  have B1 := Lib.hid (B0.out.trans (q1.mono (by rw [S0.out]; omega)))
  have Z1 : w.heap.size + 1 ≤ W1.heap.size := by have := q1.size; rw [S0.out] at this; exact this
  have hfw := few_any (ca := ca) (H.out.below B1.out (fun x _ cs h => DfAt.below B1.out h))
  rw [HLL.out] at hfw
  have HFW := Lib.hid hfw
  clear hfw
  clear q1 I0 B0 S0
  go_wp2_with fail
  refine HFW.out.mono ?_
  rintro e W2 ⟨⟨b1, rfl, hb1⟩, q2⟩
  have I2 := Lib.hid (I1.out.below q2 I1.out.lt)
  have B2 := Lib.hid (B1.out.trans (q2.mono (by omega)))
  have Z2 : w.heap.size + 1 ≤ W2.heap.size := Nat.le_trans Z1 q2.size
  have HB1 := Lib.hid hb1
  clear q2 I1 B1 HFW hb1
  cases b1 with
  | false =>
    go_wp2_with fail
    refine (varied_any _).mono ?_
    rintro e W3 ⟨rfl, q3⟩
    have B3 := Lib.hid (B2.out.trans (q3.mono (by omega)))
    clear q3
    go_wp2
    go_ret
    exact ⟨rfl, B3.out⟩
  | true =>
    obtain ⟨hl6, ht4⟩ := HB1.out rfl
    rw [HLL.out] at hl6
    have HT4 := Lib.hid ht4
    have y0 := I2.out.at_ 0
    have y1 := I2.out.at_ 1
    have y2 := I2.out.at_ 2
    have y3 := I2.out.at_ 3
    have y4 := I2.out.at_ 4
    have y5 := I2.out.at_ 5
    simp only [List.getElem?_toArray, List.getElem?_cons_zero, List.getElem?_cons_succ] at y0 y1 y2 y3 y4 y5
    have HSM := Lib.hid (small_any n1 x _ 6 W2 (TyAt.below B2.out n1 x _ HX.out) (by decide))
    clear ht4 HB1
    go_wp2_with fail
    refine HSM.out.mono ?_
    rintro e W3 ⟨⟨b2, rfl, _⟩, q3⟩
    have I3 := Lib.hid (I2.out.below q3 I2.out.lt)
    have B3 := Lib.hid (B2.out.trans (q3.mono (by omega)))
    have Z3 : w.heap.size + 1 ≤ W3.heap.size := Nat.le_trans Z2 q3.size
    clear q3 I2 B2 HSM y0 y1 y2 y3 y4 y5
    by_cases hbad : b2 = false ∨ (b2 = true ∧ ll = 0)
    · rcases hbad with g1 | ⟨g1, g2⟩
      all_goals
        subst g1
        try subst g2
        go_wp2_with fail
        refine (varied_any _).mono ?_
        rintro e W4 ⟨rfl, q4⟩
        have B4 := Lib.hid (B3.out.trans (q4.mono (by omega)))
        clear q4
        go_wp2
        go_ret
        exact ⟨rfl, B4.out⟩
    · obtain rfl : b2 = true := by cases b2 <;> simp_all
      have hl0 : 0 < ll := by rcases Nat.eq_zero_or_pos ll with h | h; (exact absurd (Or.inr ⟨rfl, h⟩) hbad); exact h
      have hz : ((ll : Int) == 0) = false := by rw [beq_eq_false_iff_ne]; omega
      obtain ⟨k, hkl, hke⟩ := wrap_rem_n at_ hl0 hl6
      clear hbad
      obtain ⟨id0, hid0, hzd0, hzd1, hzd2⟩ := info_parts info_df
      obtain ⟨it0, hit0, hzt0, hzt1, hzt2⟩ := info_parts info_ty
      have HID := Lib.hid hid0
      have HIT := Lib.hid hit0
      clear hid0 hit0
      obtain ⟨xs, hxl, ⟨hra, hone⟩, hch⟩ := H.out
      have hkL : k < l.length := by rw [HLL.out]; exact hkl
      obtain ⟨bk, o, rfl, hbk, hcx⟩ := hra (by rw [hxl.1, HLL.out]; omega)
      have RA := Lib.hid (RowAt.below (w' := W3) (show RowAt w (some ⟨bk, o, none⟩) xs from hra) B3.out)
      have XL : Hid (xs.length = ll * 4) := by rw [← HLL.out]; exact hxl.1
      have HXL := Lib.hid hxl
      have ONE := Lib.hid hone
      have CH := Lib.hid hch
      have OW := Lib.hid (World.ownsRow_made (e := 39) (size := 4) (base := W3.heap.size) W3 #[] 0 (Nat.le_refl _) (Nat.zero_le _) rfl)
      have RA1 : Hid (RowAt (W3.alloc (.cells #[] 39)) (some ⟨bk, o, none⟩) xs) := RA.out.below ((Below.refl _ W3).alloc (Nat.le_refl _) _)
      -- the struct at k
      obtain ⟨d, hd⟩ : ∃ x, l[k] = x := ⟨_, rfl⟩
      have hdk := hch k hkL
      rw [hd] at hdk
      obtain ⟨T, ct, A1, c1, hde, ⟨hn0, h1⟩, h2⟩ := hdk
      obtain ⟨la1, hla1⟩ : ∃ x, d.fields.length = x := ⟨_, rfl⟩
      rw [hla1] at hde
      have hla5 : la1 ≤ 5 := by rw [← hla1]; exact (HT4.out d (by rw [← hd]; exact List.getElem_mem _)).2
      obtain ⟨xf, hfl, ⟨hrf, honef⟩, hchf⟩ := h2
      have hA1 : A1 = none → la1 = 0 := fun e => by
        subst e
        have := hrf.nil
        rw [this] at hfl
        have h0 := hfl.1
        rw [hla1] at h0
        simp at h0
        omega
      have hx3 : w.cell? ⟨bk, o + (k * 4 + 3), none⟩ = some (.slice A1 la1 c1) := by
        refine hcx (k * 4 + 3) _ ?_
        have : ((xs.drop (k * 4)).take 4)[3]? = some (.slice A1 la1 c1) := by rw [hde]; rfl
        rw [List.getElem?_take, if_pos (by decide), List.getElem?_drop] at this
        exact this
      have hx3' : w.cell? ⟨bk, o + k * 4 + 3, none⟩ = some (.slice A1 la1 c1) := by rw [Nat.add_assoc]; exact hx3
      have HX3 : Hid (∀ W', Below w.heap.size w W' → W'.cell? ⟨bk, o + k * 4 + 3, none⟩ = some (.slice A1 la1 c1)) := fun W' g => (g.cell (p := ⟨bk, o + k * 4 + 3, none⟩) hbk).trans hx3'
      have HBK := Lib.hid hbk
      have RF : Hid (RowAt w A1 xf) := hrf
      have XF : Hid (xf.length = la1 * 6) := by rw [← hla1]; exact hfl.1
      have ONEF := Lib.hid honef
      have CHF := Lib.hid hchf
      have HA1 := Lib.hid hA1
      have HD : Hid (l[k]? = some d) := by show _ = _; rw [List.getElem?_eq_getElem hkL, hd]
      have HLA1 := Lib.hid hla1
      have HKL := Lib.hid hkL
      clear hxl hra hone hch hcx hd hde hn0 h1 hla1 hfl hrf honef hchf hA1 hx3 hx3' hbk hkL
      go_wp2_with (at_builtin; refine wpList_append_row rfl (.tmp 39) (.tmp 40) 31 rfl W3.heap.size 39 id0 zeroDf 4 72 Try.underlying31 HID.out hzd0 hzd1 hzd2 rfl (by decide) _ 0 [] rfl OW.out (some ⟨bk, o, none⟩) ll ca (fun e => by cases e) xs rfl XL.out RA1.out ONE.out ?c1 ?c2 ?c3 ?_)
      case c1 => unfold maxLen; omega
      case c2 => omega
      case c3 => simp
      intro vm W4 hown hgrow
      have hB4 := below_own (B3.out.alloc (by omega) _) OW.out (show w.heap.size ≤ W3.heap.size by omega) (by simp; omega) hgrow
      have hI4 := (I3.out.alloc (.cells #[] 39)).grown hgrow (by intro e; injection e with e; have e : w.heap.size = W3.heap.size := e; omega)
      obtain ⟨g, cm, rfl, hgb, hglt⟩ := hown.form hl0
      have OM := Lib.hid hown
      have B4 := Lib.hid hB4
      have I4 := Lib.hid hI4
      have hsz4 : w.heap.size + 1 ≤ W4.heap.size := hI4.lt
      clear hown hgrow hB4 hI4 B3 I3 OW RA RA1
      obtain ⟨N, hN⟩ : ∃ N, W4.heap.size = N := ⟨_, rfl⟩
      have hNd : W4.drew.heap.size = N := hN
      have hgN : g < N := by omega
      have HGN : Hid (g < N) := hgN
      have KC : Hid (∀ W', Below N W4.drew W' → W'.cell? ⟨bk, o + k * 4 + 3, none⟩ = some (.slice A1 la1 c1) ∧ W'.cell? ⟨w.heap.size, 0, none⟩ = some (.int .i64 k0) ∧ W'.cell? ⟨w.heap.size, 1, none⟩ = some (.string nm0) ∧ W'.cell? ⟨w.heap.size, 2, none⟩ = some (.bool u0) ∧ W'.cell? ⟨w.heap.size, 3, none⟩ = some (.int .i64 r0) ∧ W'.cell? ⟨w.heap.size, 4, none⟩ = some (.slice R0 lr0 cr0) ∧ W'.cell? ⟨w.heap.size, 5, none⟩ = some (.slice A0 la0 ca0)) := fun W' gb => by
        have i5 : Is W' w.heap.size 34 #[.int .i64 k0, .string nm0, .bool u0, .int .i64 r0, .slice R0 lr0 cr0, .slice A0 la0 ca0] := I4.out.drew.below gb (by omega)
        exact ⟨HX3.out _ ((show Below w.heap.size w W4.drew from ⟨B4.out.os, B4.out.tape, B4.out.output, B4.out.size, B4.out.block⟩).trans (gb.mono (by omega))), i5.at_ 0, i5.at_ 1, i5.at_ 2, i5.at_ 3, i5.at_ 4, i5.at_ 5⟩
      have hk4 : k * 4 + 3 < xs.length := by rw [XL.out]; omega
      have CG : Hid (W4.drew.cell? ⟨g, k * 4 + 3, none⟩ = some xs[k * 4 + 3]) := own_cells OM.out (List.getElem?_eq_getElem hk4)
      have FG : Hid (W4.drew.frozen? ⟨g, k * 4 + 3, none⟩ = false) := own_free OM.out rfl _
      have Bd : Hid (Below w.heap.size w W4.drew) := ⟨B4.out.os, B4.out.tape, B4.out.output, B4.out.size, B4.out.block⟩
      have RFd : Hid (RowAt W4.drew A1 xf) := RF.out.below Bd.out
      have oe1 := World.ownsRow_made (e := 34) (size := 6) (base := N) W4.drew #[] 0 (by omega) (Nat.zero_le _) rfl
      rw [hNd] at oe1
      have OE1 := Lib.hid oe1
      have BE1 : Hid (Below N W4.drew (W4.drew.alloc (.cells #[] 34))) := (Below.refl _ _).alloc (by omega) _
      have BT : Hid (Below N W4.drew (W4.drew.alloc (.cells #[.int .i64 k0, .string nm0, .bool u0, .int .i64 r0, .slice R0 lr0 cr0, .slice A0 la0 ca0] 34))) := (Below.refl _ _).alloc (by omega) _
      have sE : (W4.drew.alloc (.cells #[] 34)).heap.size = N + 1 := by simp [hNd]
      have sT : (W4.drew.alloc (.cells #[.int .i64 k0, .string nm0, .bool u0, .int .i64 r0, .slice R0 lr0 cr0, .slice A0 la0 ca0] 34)).heap.size = N + 1 := by simp [hNd]
      have oe3 := World.ownsRow_made (e := 34) (size := 6) (base := N) (W4.drew.alloc (.cells #[.int .i64 k0, .string nm0, .bool u0, .int .i64 r0, .slice R0 lr0 cr0, .slice A0 la0 ca0] 34)) #[] 0 (by omega) (Nat.zero_le _) rfl
      rw [sT] at oe3
      have OE3 := Lib.hid oe3
      have RF1 : Hid (RowAt (W4.drew.alloc (.cells #[] 34)) A1 xf) := RFd.out.below ((Below.refl _ _).alloc (Nat.le_refl _) _)
      have RF2 : Hid (RowAt ((W4.drew.alloc (.cells #[] 34)).alloc (.cells #[.int .i64 k0, .string nm0, .bool u0, .int .i64 r0, .slice R0 lr0 cr0, .slice A0 la0 ca0] 34)) A1 xf) := RF1.out.below ((Below.refl _ _).alloc (Nat.le_refl _) _)
      have RF3 : Hid (RowAt ((W4.drew.alloc (.cells #[.int .i64 k0, .string nm0, .bool u0, .int .i64 r0, .slice R0 lr0 cr0, .slice A0 la0 ca0] 34)).alloc (.cells #[] 34)) A1 xf) := (RFd.out.below ((Below.refl _ _).alloc (Nat.le_refl _) _)).below ((Below.refl _ _).alloc (Nat.le_refl _) _)
      have TE1 := row_one (w := W4.drew.alloc (.cells #[] 34)) 34 [.int .i64 k0, .string nm0, .bool u0, .int .i64 r0, .slice R0 lr0 cr0, .slice A0 la0 ca0]
      rw [sE] at TE1
      have TE1 := Lib.hid TE1
      have TE3 := row_one (w := W4.drew) 34 [.int .i64 k0, .string nm0, .bool u0, .int .i64 r0, .slice R0 lr0 cr0, .slice A0 la0 ca0]
      rw [hNd] at TE3
      have TE3 : Hid (RowAt ((W4.drew.alloc (.cells #[.int .i64 k0, .string nm0, .bool u0, .int .i64 r0, .slice R0 lr0 cr0, .slice A0 la0 ca0] 34)).alloc (.cells #[] 34)) (some ⟨N, 0, none⟩) [.int .i64 k0, .string nm0, .bool u0, .int .i64 r0, .slice R0 lr0 cr0, .slice A0 la0 ca0]) := TE3.below ((Below.refl _ _).alloc (Nat.le_refl _) _)
      have KS : Hid (∀ (w7 : World) (u : Value), Below N W4.drew w7 → (w7.setCell ⟨g, k * 4 + 3, none⟩ u).cell? ⟨bk, o + k * 4 + 3, none⟩ = some (.slice A1 la1 c1) ∧ (w7.setCell ⟨g, k * 4 + 3, none⟩ u).cell? ⟨w.heap.size, 0, none⟩ = some (.int .i64 k0) ∧ (w7.setCell ⟨g, k * 4 + 3, none⟩ u).cell? ⟨w.heap.size, 1, none⟩ = some (.string nm0) ∧ (w7.setCell ⟨g, k * 4 + 3, none⟩ u).cell? ⟨w.heap.size, 2, none⟩ = some (.bool u0) ∧ (w7.setCell ⟨g, k * 4 + 3, none⟩ u).cell? ⟨w.heap.size, 3, none⟩ = some (.int .i64 r0) ∧ (w7.setCell ⟨g, k * 4 + 3, none⟩ u).cell? ⟨w.heap.size, 4, none⟩ = some (.slice R0 lr0 cr0) ∧ (w7.setCell ⟨g, k * 4 + 3, none⟩ u).cell? ⟨w.heap.size, 5, none⟩ = some (.slice A0 la0 ca0)) := fun w7 u gb => by
        obtain ⟨a0, a1, a2, a3, a4, a5, a6⟩ := KC.out w7 gb
        have hbk := HBK.out
        have e1 : bk ≠ g := by omega
        have e2 : w.heap.size ≠ g := by omega
        exact ⟨cell_set_other a0 e1, cell_set_other a1 e2, cell_set_other a2 e2, cell_set_other a3 e2, cell_set_other a4 e2, cell_set_other a5 e2, cell_set_other a6 e2⟩
      have ZE : Hid (N ≤ (W4.drew.alloc (.cells #[] 34)).heap.size) := by show N ≤ _; omega
      have ZT : Hid (N ≤ (W4.drew.alloc (.cells #[.int .i64 k0, .string nm0, .bool u0, .int .i64 r0, .slice R0 lr0 cr0, .slice A0 la0 ca0] 34)).heap.size) := by show N ≤ _; omega
      have ZET : Hid (N ≤ ((W4.drew.alloc (.cells #[] 34)).alloc (.cells #[.int .i64 k0, .string nm0, .bool u0, .int .i64 r0, .slice R0 lr0 cr0, .slice A0 la0 ca0] 34)).heap.size) := Nat.le_trans ZE.out (by simp)
      have ZTE : Hid (N ≤ ((W4.drew.alloc (.cells #[.int .i64 k0, .string nm0, .bool u0, .int .i64 r0, .slice R0 lr0 cr0, .slice A0 la0 ca0] 34)).alloc (.cells #[] 34)).heap.size) := Nat.le_trans ZT.out (by simp)
      have LB1 : Hid (0 + la1 ≤ maxLen) := by show 0 + la1 ≤ maxLen; unfold maxLen; omega
      have LB2 : Hid ((0 + la1) * 88 ≤ 140737488355328) := by show (0 + la1) * 88 ≤ 140737488355328; omega
      have LB3 : Hid (la1 + 1 ≤ maxLen) := by show la1 + 1 ≤ maxLen; unfold maxLen; omega
      have LB4 : Hid ((la1 + 1) * 88 ≤ 140737488355328) := by show (la1 + 1) * 88 ≤ 140737488355328; omega
      have ONET : Hid (∀ u ∈ ([.int .i64 k0, .string nm0, .bool u0, .int .i64 r0, .slice R0 lr0 cr0, .slice A0 la0 ca0] : List Value), u.oneCell' = true) := by
        intro u hu
        simp at hu
        rcases hu with rfl | rfl | rfl | rfl | rfl | rfl <;> rfl
      clear sE sT B4 oe1 oe3
      go_wp2_with fail
      go_region_held3 (fun W' => W'.cell? ⟨bk, o + k * 4 + 3, none⟩ = some (.slice A1 la1 c1) ∧ W'.cell? ⟨w.heap.size, 0, none⟩ = some (.int .i64 k0) ∧ W'.cell? ⟨w.heap.size, 1, none⟩ = some (.string nm0) ∧ W'.cell? ⟨w.heap.size, 2, none⟩ = some (.bool u0) ∧ W'.cell? ⟨w.heap.size, 3, none⟩ = some (.int .i64 r0) ∧ W'.cell? ⟨w.heap.size, 4, none⟩ = some (.slice R0 lr0 cr0) ∧ W'.cell? ⟨w.heap.size, 5, none⟩ = some (.slice A0 la0 ca0))
        (first
          | exact KC.out _ (Below.refl _ _)
          | exact KC.out _ BE1.out
          | exact KC.out _ BT.out
          | exact KS.out _ _ B7.out
          | exact KC.out _ B7.out
          | exact KC.out _ B6.out
          | exact KC.out _ (B6.out.alloc Z6 _)
          | exact KC.out _ (BE1.out.alloc ZE.out _)
          | exact KC.out _ (BT.out.alloc ZT.out _))
        (first
          | (refine step_append_row (by rfl) (.tmp 50) (.tmp 52) 32 (by rfl) N 34 it0 zeroTy 6 88 Try.underlying32 HIT.out hzt0 hzt1 hzt2 rfl (by decide) _ la1 xf (by rfl) O6.out _ 1 1 (fun e => by cases e) [.int .i64 k0, .string nm0, .bool u0, .int .i64 r0, .slice R0 lr0 cr0, .slice A0 la0 ca0] (by rfl) (by rfl) TR.out ONET.out LB3.out LB4.out Z6 ?_; intro v7 w7 ho7 hg7; have B7 := Lib.hid (below_own B6.out O6.out (Nat.le_refl _) Z6 hg7); obtain ⟨A2, c2, rfl, _⟩ := own_slice ho7; have O7 := Lib.hid ho7; have C7 := (B7.out.cell (p := ⟨g, k * 4 + 3, none⟩) HGN.out).trans CG.out; have F7 := free_below B7.out HGN.out FG.out; clear ho7 hg7)
          | (refine step_append_row (by rfl) (.tmp 50) (.tmp 52) 32 (by rfl) N 34 it0 zeroTy 6 88 Try.underlying32 HIT.out hzt0 hzt1 hzt2 rfl (by decide) _ la1 xf (by rfl) (O6.out.alloc _) _ 1 1 (fun e => by cases e) [.int .i64 k0, .string nm0, .bool u0, .int .i64 r0, .slice R0 lr0 cr0, .slice A0 la0 ca0] (by rfl) (by rfl) (row_one 34 [.int .i64 k0, .string nm0, .bool u0, .int .i64 r0, .slice R0 lr0 cr0, .slice A0 la0 ca0]) ONET.out LB3.out LB4.out (Nat.le_trans Z6 (by simp)) ?_; intro v7 w7 ho7 hg7; have B7 := Lib.hid (below_own (B6.out.alloc Z6 _) (O6.out.alloc _) (Nat.le_refl _) (Nat.le_trans Z6 (by simp)) hg7); obtain ⟨A2, c2, rfl, _⟩ := own_slice ho7; have O7 := Lib.hid ho7; have C7 := (B7.out.cell (p := ⟨g, k * 4 + 3, none⟩) HGN.out).trans CG.out; have F7 := free_below B7.out HGN.out FG.out; clear ho7 hg7)
          | (refine step_append_row (by rfl) (.tmp 44) (.tmp 49) 32 (by rfl) N 34 it0 zeroTy 6 88 Try.underlying32 HIT.out hzt0 hzt1 hzt2 rfl (by decide) _ 0 [] (by rfl) OE1.out A1 la1 c1 HA1.out xf (by rfl) XF.out RF1.out ONEF.out LB1.out LB2.out ZE.out ?_; intro v6 w6 ho6 hg6; rw [Nat.zero_add, List.nil_append] at ho6; have B6 := Lib.hid (below_own BE1.out OE1.out (Nat.le_refl _) ZE.out hg6); have Z6 : N ≤ w6.heap.size := Nat.le_trans (Nat.le_of_eq hNd.symm) B6.out.size; have O6 := Lib.hid ho6; clear ho6 hg6)
          | (refine step_append_row (by rfl) (.tmp 44) (.tmp 49) 32 (by rfl) N 34 it0 zeroTy 6 88 Try.underlying32 HIT.out hzt0 hzt1 hzt2 rfl (by decide) _ 0 [] (by rfl) (OE1.out.alloc _) A1 la1 c1 HA1.out xf (by rfl) XF.out RF2.out ONEF.out LB1.out LB2.out ZET.out ?_; intro v6 w6 ho6 hg6; rw [Nat.zero_add, List.nil_append] at ho6; have B6 := Lib.hid (below_own (BE1.out.alloc ZE.out (.cells #[.int .i64 k0, .string nm0, .bool u0, .int .i64 r0, .slice R0 lr0 cr0, .slice A0 la0 ca0] 34)) (OE1.out.alloc _) (Nat.le_refl _) ZET.out hg6); have Z6 : N ≤ w6.heap.size := Nat.le_trans (Nat.le_of_eq hNd.symm) B6.out.size; have TR : Hid (RowAt w6 (some ⟨N + 1, 0, none⟩) [.int .i64 k0, .string nm0, .bool u0, .int .i64 r0, .slice R0 lr0 cr0, .slice A0 la0 ca0]) := row_beside TE1.out hg6 (Nat.succ_ne_self N); have O6 := Lib.hid ho6; clear ho6 hg6)
          | (refine step_append_row (by rfl) (.tmp 44) (.tmp 49) 32 (by rfl) N 34 it0 zeroTy 6 88 Try.underlying32 HIT.out hzt0 hzt1 hzt2 rfl (by decide) _ 0 [] (by rfl) OE3.out A1 la1 c1 HA1.out xf (by rfl) XF.out RF3.out ONEF.out LB1.out LB2.out ZTE.out ?_; intro v6 w6 ho6 hg6; rw [Nat.zero_add, List.nil_append] at ho6; have B6 := Lib.hid (below_own (BT.out.alloc ZT.out (.cells #[] 34)) OE3.out (Nat.le_refl _) ZTE.out hg6); have Z6 : N ≤ w6.heap.size := Nat.le_trans (Nat.le_of_eq hNd.symm) B6.out.size; have TR : Hid (RowAt w6 (some ⟨N, 0, none⟩) [.int .i64 k0, .string nm0, .bool u0, .int .i64 r0, .slice R0 lr0 cr0, .slice A0 la0 ca0]) := row_beside TE3.out hg6 (Nat.succ_ne_self N).symm; have O6 := Lib.hid ho6; clear ho6 hg6))
      all_goals
        have B8 : Hid (Below w.heap.size w (w7.setCell ⟨g, k * 4 + 3, none⟩ (.slice A2 (la1 + 1) c2))) := (Bd.out.trans (B7.out.mono (by omega))).setCell (by show w.heap.size ≤ g; omega) _
        have hg7 : w7.heap[g]? = W4.heap[g]? := B7.out.block g HGN.out
        have hgs : g < (w7.setCell ⟨g, k * 4 + 3, none⟩ (.slice A2 (la1 + 1) c2)).heap.size := by
          have := B7.out.size
          have h2 : (w7.setCell ⟨g, k * 4 + 3, none⟩ (.slice A2 (la1 + 1) c2)).heap.size = w7.heap.size := by simp [World.setCell]
          rw [h2]
          omega
        have hrow := own_row O7.out
        obtain ⟨g2, cp2, he2, hgb2, hgl2⟩ := O7.out.form (Nat.succ_pos _)
        have hgg : g2 ≠ g := by omega
        have hrow8 : RowAt (w7.setCell ⟨g, k * 4 + 3, none⟩ (.slice A2 (la1 + 1) c2)) A2 (xf ++ [.int .i64 k0, .string nm0, .bool u0, .int .i64 r0, .slice R0 lr0 cr0, .slice A0 la0 ca0]) :=
          row_kept hrow (by simp [World.setCell]) fun bk' o' e hl => Below.heap_setCell _ _ _ _ (by
            injection he2 with he3
            rw [he3] at e
            injection e with e
            injection e with e1 _ _
            subst e1
            exact hgg)
        have hfl : (d.fields ++ [x]).length = la1 + 1 := by rw [List.length_append, HLA1.out]; rfl
        have hts : ListAt (w7.setCell ⟨g, k * 4 + 3, none⟩ (.slice A2 (la1 + 1) c2)) 6 (TyAt (w7.setCell ⟨g, k * 4 + 3, none⟩ (.slice A2 (la1 + 1) c2)) (n0 + n1)) A2 (d.fields ++ [x]) := by
          refine ⟨_, ⟨by rw [hfl, List.length_append, XF.out]; simp; omega, by rw [hfl]; unfold maxLen; omega⟩, ⟨hrow8, fun u hu => ?_⟩, chunks_append (by rw [XF.out, HLA1.out]) (fun i hi => ?_) (fun i hi => ?_)⟩
          · rcases List.mem_append.1 hu with h | h
            · exact ONEF.out u h
            · exact ONET.out u h
          · exact ty_le (Nat.le_add_right n0 n1) _ _ (TyAt.below B8.out n0 _ _ (CHF.out i hi))
          · have h0 : i = 0 := by simp at hi; omega
            subst h0
            exact ty_le (Nat.le_add_left n1 n0) _ _ (TyAt.below B8.out n1 _ _ HX.out)
        have hdk : l[k]'HKL.out = d := by
          have := HD.out
          rw [List.getElem?_eq_getElem HKL.out] at this
          injection this
        have LM := list_set (w := w) (w' := w7.setCell ⟨g, k * 4 + 3, none⟩ (.slice A2 (la1 + 1) c2)) (n := n0) (n' := n0 + n1) (g := g) (ts := d.fields ++ [x]) (c2 := c2) HKL.out HXL.out ONE.out CH.out B8.out (Nat.le_add_right n0 n1) hgs
          (by rw [hfl]; exact own_stored OM.out hg7 hk4) hts
        rw [hdk] at LM
        have RL : Hid (Rel2 More l (l.set k { d with fields := d.fields ++ [x] })) := rel_set l k HKL.out _ (by rw [hdk]; exact ⟨rfl, rfl, rfl, [x], rfl⟩)
        have LM := Lib.hid LM
        have hshl : Short l := fun d hd => by have := (HT4.out d hd).1; omega
        have hshm : Short (l.set k { d with fields := d.fields ++ [x] }) := fun e he => by
          rcases List.mem_or_eq_of_mem_set he with h | rfl
          · exact hshl e h
          · exact hshl d (by rw [← hdk]; exact List.getElem_mem _)
        obtain ⟨w8, hw8⟩ : ∃ x, w7.setCell ⟨g, k * 4 + 3, none⟩ (.slice A2 (la1 + 1) c2) = x := ⟨_, rfl⟩
        rw [hw8] at B8 LM ⊢
        have hfa := find_any (ca := ca) (H.out.below B8.out (fun x _ cs h => DfAt.below B8.out h)) (by rw [HLL.out]; omega) hshl
        rw [HLL.out] at hfa
        have HFA := Lib.hid hfa
        have HSM := Lib.hid hshm
        have HLM : Hid ((l.set k { d with fields := d.fields ++ [x] }).length = ll) := by show _ = _; rw [List.length_set, HLL.out]
        obtain ⟨lm, hlm⟩ : ∃ y, l.set k { d with fields := d.fields ++ [x] } = y := ⟨_, rfl⟩
        rw [hlm] at LM RL HSM HLM
        clear hg7 hgs hrow he2 hgb2 hgl2 hgg hrow8 hfl hts hdk hshl hshm hw8 hfa hlm O7 B7 C7 F7 OE1 OE3 BE1 BT RF1 RF2 RF3 RFd TE1 TE3 KS KC CG FG Bd I4 HX3 OM RF XF ONEF CHF HA1 HD HLA1 HKL hk4 ONE CH HXL XL
        go_wp2_with fail
        refine HFA.out.mono ?_
        rintro e w9 ⟨ba, Wa, rfl, ha1, ha2, ha3⟩
        have B9 := Lib.hid (B8.out.trans (ha3.mono B8.out.size))
        have hfb := find_any (ca := cm) (LM.out.below ha3 (fun x _ cs h => DfAt.below ha3 h)) (by rw [HLM.out]; omega) HSM.out
        rw [HLM.out] at hfb
        have HFB := Lib.hid hfb
        have HA1 := Lib.hid ha1
        have HA2 := Lib.hid ha2
        clear hfb ha1 ha2 ha3 HFA B8
        go_wp2_with fail
        refine HFB.out.mono ?_
        rintro e w10 ⟨bb, Wb, rfl, hb1, hb2, hb3⟩
        have B10 := Lib.hid (B9.out.trans (hb3.mono B9.out.size))
        have WA := Lib.hid (HA1.out.below hb3)
        have WB := Lib.hid hb1
        have BO : Hid (∀ d ∈ l, ∃ x y, Wa d.name = some x ∧ Wb d.name = some y ∧ SubL x y ∧ Few x ∧ Few y) := fun d hd => both_rows RL.out HA2.out hb2 hd
        clear hb1 hb2 hb3 HFB B9 HA1 HA2 RL HSM HLM LM
        go_wp2
        go_loopw [11] (fun i wr => ∃ q nd : Nat, q ≤ ll ∧ i = .int .i64 q ∧ wr = w10.drewN nd) (fun i _ => ll - (intOf i).toNat)
        case atStart => exact ⟨0, 0, Nat.zero_le _, rfl, rfl⟩
        case round =>
          obtain ⟨q, nd, hq, rfl, rfl⟩ := hrel
          by_cases hql : q < ll
          · have hqL : q < l.length := by rw [HLL.out]; exact hql
            obtain ⟨bk', o', cs2, hA, hlt, hl2, hs2, hc2⟩ := H.out.get (by decide) hqL
            injection hA with hA
            injection hA with e1 e2 e3
            subst e1 e2
            obtain ⟨dq, hdq⟩ : ∃ y, l[q] = y := ⟨_, rfl⟩
            rw [hdq] at hs2
            have hdl : dq ∈ l := by rw [← hdq]; exact List.getElem_mem _
            obtain ⟨nm, li, T1, lt, ct1, A3, la, ca1, rfl, hnm, hnl, hli, hltt⟩ := hs2.shape
            have x0 := (B10.out.cell (p := ⟨bk, o + q * 4 + 0, none⟩) hlt).trans (hc2 0 _ rfl)
            rw [Nat.add_zero] at x0
            obtain ⟨a, b, ha, hb, hab, hfa, hfb⟩ := BO.out dq hdl
            rw [← hnm] at ha hb
            obtain ⟨ua, hra, hua⟩ := look_all WA.out hnl
            obtain ⟨ub, hrb, hub⟩ := look_all WB.out hnl
            rw [ha] at hua
            rw [hb] at hub
            obtain ⟨Aa, cca, rfl, hLa⟩ := hua
            obtain ⟨Ab, ccb, rfl, hLb⟩ := hub
            have hll : (ints ((some b).getD [])).length = (ints ((some a).getD [])).length := by rw [ints_length, ints_length]; exact hab.1.symm
            rw [hll] at hrb
            obtain ⟨na, hna⟩ : ∃ n, (ints ((some a).getD [])).length = n := ⟨_, rfl⟩
            rw [hna] at hra hrb
            have hnle := hLa.le
            rw [hna] at hnle
            unfold maxLen at hnle
            have hna' : a.length = na := by rw [← hna, ints_length]; rfl
            have HLA := Lib.hid hLa
            have HLB := Lib.hid hLb
            have HAB := Lib.hid hab
            have HFa := Lib.hid hfa
            have HFb := Lib.hid hfb
            have HNA := Lib.hid hna'
            clear hl2 hs2 hc2 hlt hdq hdl hnm hnl hli hltt ha hb hab hfa hfb hLa hLb hll hna hna' e3 hqL
            go_wp2
            clear x0
            go_loopw [13] (fun i wr => ∃ j nd : Nat, j ≤ na ∧ i = .int .i64 j ∧ wr = w10.drewN nd) (fun i _ => na - (intOf i).toNat)
            case atStart => exact ⟨0, nd, Nat.zero_le _, rfl, rfl⟩
            case round =>
              obtain ⟨j, nd, hj, rfl, rfl⟩ := hrel
              by_cases hjl : j < na
              · have hja : j < a.length := by rw [HNA.out]; exact hjl
                have hjb : j < b.length := by rw [← HAB.out.1]; exact hja
                obtain ⟨b1, o1, rfl, _, d1⟩ := int_at HLA.out (show j < (ints ((some a).getD [])).length by rw [ints_length]; exact hja)
                obtain ⟨b2, o2, rfl, _, d2⟩ := int_at HLB.out (show j < (ints ((some b).getD [])).length by rw [ints_length]; exact hjb)
                rw [show (ints ((some a).getD []))[j]'(by rw [ints_length]; exact hja) = _ from ints_get a hja] at d1
                rw [show (ints ((some b).getD []))[j]'(by rw [ints_length]; exact hjb) = _ from ints_get b hjb] at d2
                rw [show a.getD j 3 = a.getD j 0 by simp [List.getD_eq_getElem?_getD, hja]] at d1
                rw [show b.getD j 3 = b.getD j 0 by simp [List.getD_eq_getElem?_getD, hjb]] at d2
                have hor := or_bits (HFa.out j) (HFb.out j)
                rw [show a.getD j 0 ||| b.getD j 0 = b.getD j 0 from HAB.out.2 j] at hor
                obtain ⟨xa, hxa⟩ : ∃ y, a.getD j 0 = y := ⟨_, rfl⟩
                obtain ⟨xb, hxb⟩ : ∃ y, b.getD j 0 = y := ⟨_, rfl⟩
                rw [hxa] at d1 hor
                rw [hxb] at d2 hor
                clear hja hjb hxa hxb
                go_wp2_with fail
                go_quiet (fail)
                go_wp2
                go_roundw
                case rel => exact ⟨j + 1, _, by omega, by go_num, rfl⟩
                case measure => simp [intOf]; omega
              · have hje : j = na := by omega
                subst hje
                go_wp2
                go_roundw
                case rel => exact ⟨q + 1, _, by omega, by go_num, rfl⟩
                case measure => simp [intOf]; omega
          · have hqe : q = ll := by omega
            subst hqe
            go_wp2
            go_ret
            exact ⟨rfl, bel_drewN B10.out _⟩
end Vy
end Go.Proofs.Ytelmdidgmpbnmaa

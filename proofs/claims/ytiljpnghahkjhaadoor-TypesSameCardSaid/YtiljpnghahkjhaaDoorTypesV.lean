/- Layer 7: the reference's Same. -/
import Derived.BigQuiet
import Derived.Deep.QuietTactic
import Derived.Deep.RegionHeld3
import Derived.Test.YtiljpnghahkjhaaDoorTypesU
import Derived.Test.YtiljpnghahkjhaaDoorIntsEq
namespace Go.Proofs.YtiljpnghahkjhaaDoor
open Go.RowKit Go.Deep Tr
namespace Ts
theorem below_drew {B : Nat} {x y : World} (h : Below B x y) : Below B x y.drew := ⟨h.os, h.tape, h.output, h.size, h.block⟩
def RSameS (n : Nat) : Prop := ∀ (x y : Ty) (cs ds : List Value) (m : Nat) (W : World), TyAt W n x cs → TyAt W m y ds →
  Calls Tryd.prog 14 #[.agg cs.toArray, .agg ds.toArray] W fun e W' => e = .returned (.bool (sameP x y)) ∧ Below W.heap.size W W'
theorem own_len (k : Int) (nm : ByteArray) (u : Bool) (r r' : Int) (rs rs' : List Int) (ar ar' : List Ty) : (ownP (.mk k nm u r rs ar)).length = (ownP (.mk k nm u r' rs' ar')).length ↔ (k = 5 → rs.length = rs'.length) := by
  rw [ownP, ownP]
  by_cases h5 : k = 5
  · simp [h5]
  · by_cases h7 : k = 7 ∨ k = 8 ∨ k = 9
    · simp [h5, h7]
    · simp [h5, h7]
set_option maxHeartbeats 8000000 in
set_option maxRecDepth 100000 in
theorem rsame_step (n : Nat) (IH : Hid (RSameS n)) : RSameS (n + 1) := by
  rintro ⟨k, nm, u, r, rs, ar⟩ ⟨k', nm', u', r', rs', ar'⟩ cs ds m W h h'
  cases m with
  | zero => exact h'.elim
  | succ m =>
  have HT := Lib.hid h
  have HT' := Lib.hid h'
  obtain ⟨R, cr, A, ca, rfl, ⟨h0, h1⟩, h2⟩ := h
  obtain ⟨R', cr', A', ca', rfl, ⟨h0', h1'⟩, h2'⟩ := h'
  obtain ⟨res, hres⟩ : ∃ b, sameP (.mk k nm u r rs ar) (.mk k' nm' u' r' rs' ar') = b := ⟨_, rfl⟩
  rw [hres]
  rw [sameP] at hres
  obtain ⟨o1, ho1⟩ : ∃ o, Obj.cells #[.int .i64 k, .string nm, .bool u, .int .i64 r, .slice R rs.length cr, .slice A ar.length ca] 25 = o := ⟨_, rfl⟩
  obtain ⟨o2, ho2⟩ : ∃ o, Obj.cells #[.int .i64 k', .string nm', .bool u', .int .i64 r', .slice R' rs'.length cr', .slice A' ar'.length ca'] 25 = o := ⟨_, rfl⟩
  have B2 : Below W.heap.size W ((W.alloc o1).alloc o2) := ((Below.refl _ W).alloc (Nat.le_refl _) o1).alloc (by simp) o2
  have i1 : Is ((W.alloc o1).alloc o2) W.heap.size 25 #[.int .i64 k, .string nm, .bool u, .int .i64 r, .slice R rs.length cr, .slice A ar.length ca] := by rw [← ho1]; exact (Is.made W _ _).alloc _
  have hN : (W.alloc o1).heap.size = W.heap.size + 1 := by simp
  have i2 : Is ((W.alloc o1).alloc o2) (W.heap.size + 1) 25 #[.int .i64 k', .string nm', .bool u', .int .i64 r', .slice R' rs'.length cr', .slice A' ar'.length ca'] := by rw [← ho2]; exact hN ▸ Is.made (W.alloc o1) _ _
  obtain ⟨V, hV⟩ : ∃ V, (W.alloc o1).alloc o2 = V := ⟨_, rfl⟩
  rw [hV] at B2 i1 i2
  obtain ⟨lr, hlr⟩ : ∃ n, rs.length = n := ⟨_, rfl⟩
  obtain ⟨lr', hlr'⟩ : ∃ n, rs'.length = n := ⟨_, rfl⟩
  obtain ⟨la, hla⟩ : ∃ n, ar.length = n := ⟨_, rfl⟩
  obtain ⟨la', hla'⟩ : ∃ n, ar'.length = n := ⟨_, rfl⟩
  have ha := h2.le
  unfold maxLen at ha
  have H2 := Lib.hid h2
  have H2' := Lib.hid h2'
  have HLA := Lib.hid hla
  have HLA' := Lib.hid hla'
  have HLR := Lib.hid hlr
  have HLR' := Lib.hid hlr'
  rw [hlr, hla] at ho1 HT i1
  rw [hlr', hla'] at ho2 HT' i2
  have I1 := Lib.hid i1
  have I2 := Lib.hid i2
  have n0 := i1.at_ 0
  have n1 := i1.at_ 1
  have n2 := i1.at_ 2
  have n3 := i1.at_ 3
  have n4 := i1.at_ 4
  have n5 := i1.at_ 5
  have p0 := i2.at_ 0
  have p1 := i2.at_ 1
  have p2 := i2.at_ 2
  have p3 := i2.at_ 3
  have p4 := i2.at_ 4
  have p5 := i2.at_ 5
  simp only [List.getElem?_toArray, List.getElem?_cons_zero, List.getElem?_cons_succ] at n0 n1 n2 n3 n4 n5 p0 p1 p2 p3 p4 p5
  rw [hlr, hlr'] at hres
  rw [hla] at ha
  rw [hlr, hla, hlr', hla']
  have HV : Hid ((W.alloc (.cells #[.int .i64 k, .string nm, .bool u, .int .i64 r, .slice R lr cr, .slice A la ca] 25)).alloc (.cells #[.int .i64 k', .string nm', .bool u', .int .i64 r', .slice R' lr' cr', .slice A' la' ca'] 25) = V) := by rw [← hV, ← ho1, ← ho2]; exact rfl
  have HB := Lib.hid B2
  have HRES := Lib.hid hres
  have HVO := Lib.hid hV
  have HO1 := Lib.hid ho1
  have HO2 := Lib.hid ho2
  clear h0 h1 h2 h0' h1' h2' hres ho1 ho2 B2 hV i1 i2 hN hlr hlr' hla hla'
  by_cases hk : k = k'
  · subst hk
    by_cases hn : nm = nm'
    · subst hn
      by_cases hu : u = u'
      · subst hu
        have hown := own_len k nm u r r' rs rs' ar ar'
        obtain ⟨lo, hlo⟩ : ∃ n, (ownP (.mk k nm u r rs ar)).length = n := ⟨_, rfl⟩
        obtain ⟨lo', hlo'⟩ : ∃ n, (ownP (.mk k nm u r' rs' ar')).length = n := ⟨_, rfl⟩
        rw [hlo, hlo', HLR.out, HLR'.out] at hown
        have HOWN := Lib.hid hown
        have HRA : Hid (∀ X, Below V.heap.size V X → Calls Tryd.prog 33 #[.agg #[.int .i64 k, .string nm, .bool u, .int .i64 r, .slice R lr cr, .slice A la ca]] X fun e w' => ∃ Q c, e = .returned (.slice Q lo c) ∧ Below X.heap.size X w') := by
          intro X hX
          refine (rown_any (TyAt.below (HB.out.trans (hX.mono HB.out.size)) _ _ _ HT.out)).mono ?_
          rintro e w' ⟨v, rfl, ⟨Q, c, rfl, _⟩, b⟩
          exact ⟨Q, c, by rw [hlo], b⟩
        have HRB : Hid (∀ X, Below V.heap.size V X → Calls Tryd.prog 33 #[.agg #[.int .i64 k, .string nm, .bool u, .int .i64 r', .slice R' lr' cr', .slice A' la' ca']] X fun e w' => ∃ Q c, e = .returned (.slice Q lo' c) ∧ Below X.heap.size X w') := by
          intro X hX
          refine (rown_any (TyAt.below (HB.out.trans (hX.mono HB.out.size)) _ _ _ HT'.out)).mono ?_
          rintro e w' ⟨v, rfl, ⟨Q, c, rfl, _⟩, b⟩
          exact ⟨Q, c, by rw [hlo'], b⟩
        have KC : Hid (∀ X, Below V.heap.size V X → (X.cell? ⟨W.heap.size, 0, none⟩ = some (.int .i64 k) ∧ X.cell? ⟨W.heap.size, 1, none⟩ = some (.string nm) ∧ X.cell? ⟨W.heap.size, 2, none⟩ = some (.bool u) ∧ X.cell? ⟨W.heap.size, 3, none⟩ = some (.int .i64 r) ∧ X.cell? ⟨W.heap.size, 4, none⟩ = some (.slice R lr cr) ∧ X.cell? ⟨W.heap.size, 5, none⟩ = some (.slice A la ca)) ∧
            (X.cell? ⟨W.heap.size + 1, 0, none⟩ = some (.int .i64 k) ∧ X.cell? ⟨W.heap.size + 1, 1, none⟩ = some (.string nm) ∧ X.cell? ⟨W.heap.size + 1, 2, none⟩ = some (.bool u) ∧ X.cell? ⟨W.heap.size + 1, 3, none⟩ = some (.int .i64 r') ∧ X.cell? ⟨W.heap.size + 1, 4, none⟩ = some (.slice R' lr' cr') ∧ X.cell? ⟨W.heap.size + 1, 5, none⟩ = some (.slice A' la' ca'))) := by
          intro X hX
          have j1 := I1.out.below hX I1.out.lt
          have j2 := I2.out.below hX I2.out.lt
          exact ⟨⟨j1.at_ 0, j1.at_ 1, j1.at_ 2, j1.at_ 3, j1.at_ 4, j1.at_ 5⟩, j2.at_ 0, j2.at_ 1, j2.at_ 2, j2.at_ 3, j2.at_ 4, j2.at_ 5⟩
        clear hlo hlo' hown HLR HLR' HVO HO1 HO2
        by_cases hl : la = la'
        · subst hl
          have G0 := Lib.hid (below_drew (Below.refl V.heap.size V))
          by_cases hlo : lo = lo'
          · subst hlo
            have HR : Hid (sameL ar ar' = res) := by
              have := HRES.out
              rw [headP, decide_eq_true ⟨rfl, rfl, rfl, HOWN.out.1 rfl⟩, Bool.true_and] at this
              exact this
            have hla := HLA.out
            clear HRES HOWN HT HT' I1 I2
            go_enter Tryd.func14, Tryd.ntmps14
            go_wp2_with fail
            rw [HV.out]
            go_region_held3 (fun X => (X.cell? ⟨W.heap.size, 0, none⟩ = some (.int .i64 k) ∧ X.cell? ⟨W.heap.size, 1, none⟩ = some (.string nm) ∧ X.cell? ⟨W.heap.size, 2, none⟩ = some (.bool u) ∧ X.cell? ⟨W.heap.size, 3, none⟩ = some (.int .i64 r) ∧ X.cell? ⟨W.heap.size, 4, none⟩ = some (.slice R lr cr) ∧ X.cell? ⟨W.heap.size, 5, none⟩ = some (.slice A la ca)) ∧
                (X.cell? ⟨W.heap.size + 1, 0, none⟩ = some (.int .i64 k) ∧ X.cell? ⟨W.heap.size + 1, 1, none⟩ = some (.string nm) ∧ X.cell? ⟨W.heap.size + 1, 2, none⟩ = some (.bool u) ∧ X.cell? ⟨W.heap.size + 1, 3, none⟩ = some (.int .i64 r') ∧ X.cell? ⟨W.heap.size + 1, 4, none⟩ = some (.slice R' lr' cr') ∧ X.cell? ⟨W.heap.size + 1, 5, none⟩ = some (.slice A' la ca')))
              (first
                | exact KC.out _ G2.out
                | exact KC.out _ G1.out
                | exact KC.out _ G0.out)
              (first
                | (go_at_call 33; refine (HRB.out _ G1.out).mono ?_; rintro e w2 ⟨Qb, cb, rfl, b2⟩; have G2 := Lib.hid (G1.out.trans (b2.mono G1.out.size)); clear b2)
                | (go_at_call 33; refine (HRA.out _ G0.out).mono ?_; rintro e w1 ⟨Qa, cqa, rfl, b1⟩; have G1 := Lib.hid (G0.out.trans (b1.mono G0.out.size)); clear b1))
            all_goals
              clear n0 n1 n2 n3 n4 n5 p0 p1 p2 p3 p4 p5 hla
              go_wp2
              go_loopw [5] (fun i wr => ∃ j : Nat, j ≤ la ∧ i = .int .i64 j ∧ Hid (sameL (ar.drop j) (ar'.drop j) = res ∧ Below V.heap.size V wr)) (fun i _ => la - (intOf i).toNat)
              case atStart => exact ⟨0, Nat.zero_le _, rfl, HR.out, G2.out⟩
              clear HR G0 G1 G2
              case round =>
                obtain ⟨j, hj, rfl, HQ⟩ := hrel
                have E3 := Lib.hid HQ.out.1
                have B3 := Lib.hid HQ.out.2
                have B3W : Hid (Below W.heap.size W wr) := HB.out.trans (B3.out.mono HB.out.size)
                clear HQ
                obtain ⟨⟨_, _, _, _, _, n5⟩, _, _, _, _, _, p5⟩ := KC.out _ B3.out
                by_cases hjl : j < la
                · obtain ⟨bk, o, cs, rfl, hlt, hl2, hs2, hc2⟩ := H2.out.get (by decide) (show j < ar.length by rw [HLA.out]; exact hjl)
                  obtain ⟨bk', o', ds, rfl, hlt', hl2', hs2', hc2'⟩ := H2'.out.get (by decide) (show j < ar'.length by rw [HLA'.out]; exact hjl)
                  obtain ⟨x, hx⟩ : ∃ x, ar[j]'(by rw [HLA.out]; exact hjl) = x := ⟨_, rfl⟩
                  obtain ⟨y, hy⟩ : ∃ y, ar'[j]'(by rw [HLA'.out]; exact hjl) = y := ⟨_, rfl⟩
                  rw [hx] at hs2
                  rw [hy] at hs2'
                  obtain ⟨k0, nm0, u0, r0, R0, lr0, cr0, A0, la0, ca0, rfl⟩ := hs2.shape
                  obtain ⟨k1, nm1, u1, r1, R1, lr1, cr1, A1, la1, ca1, rfl⟩ := hs2'.shape
                  have x0 := (B3W.out.cell (p := ⟨bk, o + j * 6 + 0, none⟩) hlt).trans (hc2 0 _ rfl)
                  rw [Nat.add_zero] at x0
                  have x1 := (B3W.out.cell (p := ⟨bk, o + j * 6 + 1, none⟩) hlt).trans (hc2 1 _ rfl)
                  have x2 := (B3W.out.cell (p := ⟨bk, o + j * 6 + 2, none⟩) hlt).trans (hc2 2 _ rfl)
                  have x3 := (B3W.out.cell (p := ⟨bk, o + j * 6 + 3, none⟩) hlt).trans (hc2 3 _ rfl)
                  have x4 := (B3W.out.cell (p := ⟨bk, o + j * 6 + 4, none⟩) hlt).trans (hc2 4 _ rfl)
                  have x5 := (B3W.out.cell (p := ⟨bk, o + j * 6 + 5, none⟩) hlt).trans (hc2 5 _ rfl)
                  have y0 := (B3W.out.cell (p := ⟨bk', o' + j * 6 + 0, none⟩) hlt').trans (hc2' 0 _ rfl)
                  rw [Nat.add_zero] at y0
                  have y1 := (B3W.out.cell (p := ⟨bk', o' + j * 6 + 1, none⟩) hlt').trans (hc2' 1 _ rfl)
                  have y2 := (B3W.out.cell (p := ⟨bk', o' + j * 6 + 2, none⟩) hlt').trans (hc2' 2 _ rfl)
                  have y3 := (B3W.out.cell (p := ⟨bk', o' + j * 6 + 3, none⟩) hlt').trans (hc2' 3 _ rfl)
                  have y4 := (B3W.out.cell (p := ⟨bk', o' + j * 6 + 4, none⟩) hlt').trans (hc2' 4 _ rfl)
                  have y5 := (B3W.out.cell (p := ⟨bk', o' + j * 6 + 5, none⟩) hlt').trans (hc2' 5 _ rfl)
                  have hdr : sameL (ar.drop j) (ar'.drop j) = (sameP x y && sameL (ar.drop (j + 1)) (ar'.drop (j + 1))) := by
                    rw [List.drop_eq_getElem_cons (by rw [HLA.out]; exact hjl), List.drop_eq_getElem_cons (l := ar') (by rw [HLA'.out]; exact hjl), sameL, hx, hy]
                  have E4 : Hid ((sameP x y && sameL (ar.drop (j + 1)) (ar'.drop (j + 1))) = res) := by rw [← hdr]; exact E3.out
                  obtain ⟨sv, hsv⟩ : ∃ b, sameP x y = b := ⟨_, rfl⟩
                  rw [hsv] at E4
                  have bW := below_drew B3W.out
                  have hSS := IH.out x y _ _ m wr.drew (TyAt.below bW _ _ _ hs2) (TyAt.below bW _ _ _ hs2')
                  rw [hsv] at hSS
                  have HSS := Lib.hid hSS
                  have HBV := Lib.hid (below_drew B3.out)
                  have ltb : bk < wr.heap.size := Nat.lt_of_lt_of_le hlt B3W.out.size
                  have ltb' : bk' < wr.heap.size := Nat.lt_of_lt_of_le hlt' B3W.out.size
                  have KX : Hid (∀ X, Below wr.heap.size wr X → (X.cell? ⟨W.heap.size, 5, none⟩ = some (.slice (some ⟨bk, o, none⟩) la ca) ∧ X.cell? ⟨W.heap.size + 1, 5, none⟩ = some (.slice (some ⟨bk', o', none⟩) la ca')) ∧
                      (X.cell? ⟨bk, o + j * 6, none⟩ = some (.int .i64 k0) ∧ X.cell? ⟨bk, o + j * 6 + 1, none⟩ = some (.string nm0) ∧ X.cell? ⟨bk, o + j * 6 + 2, none⟩ = some (.bool u0) ∧ X.cell? ⟨bk, o + j * 6 + 3, none⟩ = some (.int .i64 r0) ∧ X.cell? ⟨bk, o + j * 6 + 4, none⟩ = some (.slice R0 lr0 cr0) ∧ X.cell? ⟨bk, o + j * 6 + 5, none⟩ = some (.slice A0 la0 ca0)) ∧
                      (X.cell? ⟨bk', o' + j * 6, none⟩ = some (.int .i64 k1) ∧ X.cell? ⟨bk', o' + j * 6 + 1, none⟩ = some (.string nm1) ∧ X.cell? ⟨bk', o' + j * 6 + 2, none⟩ = some (.bool u1) ∧ X.cell? ⟨bk', o' + j * 6 + 3, none⟩ = some (.int .i64 r1) ∧ X.cell? ⟨bk', o' + j * 6 + 4, none⟩ = some (.slice R1 lr1 cr1) ∧ X.cell? ⟨bk', o' + j * 6 + 5, none⟩ = some (.slice A1 la1 ca1))) := by
                    intro X hX
                    obtain ⟨⟨_, _, _, _, _, a5⟩, _, _, _, _, _, b5⟩ := KC.out X (B3.out.trans (hX.mono B3.out.size))
                    exact ⟨⟨a5, b5⟩, ⟨(hX.cell (p := ⟨bk, o + j * 6, none⟩) ltb).trans x0, (hX.cell (p := ⟨bk, o + j * 6 + 1, none⟩) ltb).trans x1, (hX.cell (p := ⟨bk, o + j * 6 + 2, none⟩) ltb).trans x2, (hX.cell (p := ⟨bk, o + j * 6 + 3, none⟩) ltb).trans x3, (hX.cell (p := ⟨bk, o + j * 6 + 4, none⟩) ltb).trans x4, (hX.cell (p := ⟨bk, o + j * 6 + 5, none⟩) ltb).trans x5⟩,
                      (hX.cell (p := ⟨bk', o' + j * 6, none⟩) ltb').trans y0, (hX.cell (p := ⟨bk', o' + j * 6 + 1, none⟩) ltb').trans y1, (hX.cell (p := ⟨bk', o' + j * 6 + 2, none⟩) ltb').trans y2, (hX.cell (p := ⟨bk', o' + j * 6 + 3, none⟩) ltb').trans y3, (hX.cell (p := ⟨bk', o' + j * 6 + 4, none⟩) ltb').trans y4, (hX.cell (p := ⟨bk', o' + j * 6 + 5, none⟩) ltb').trans y5⟩
                  clear ltb ltb'
                  clear hx hy hs2 hs2' hc2 hc2' hlt hlt' hl2 hl2' hdr hsv hSS E3 bW
                  go_wp2_with fail
                  go_region_held3 (fun X => (X.cell? ⟨W.heap.size, 5, none⟩ = some (.slice (some ⟨bk, o, none⟩) la ca) ∧ X.cell? ⟨W.heap.size + 1, 5, none⟩ = some (.slice (some ⟨bk', o', none⟩) la ca')) ∧
                      (X.cell? ⟨bk, o + j * 6, none⟩ = some (.int .i64 k0) ∧ X.cell? ⟨bk, o + j * 6 + 1, none⟩ = some (.string nm0) ∧ X.cell? ⟨bk, o + j * 6 + 2, none⟩ = some (.bool u0) ∧ X.cell? ⟨bk, o + j * 6 + 3, none⟩ = some (.int .i64 r0) ∧ X.cell? ⟨bk, o + j * 6 + 4, none⟩ = some (.slice R0 lr0 cr0) ∧ X.cell? ⟨bk, o + j * 6 + 5, none⟩ = some (.slice A0 la0 ca0)) ∧
                      (X.cell? ⟨bk', o' + j * 6, none⟩ = some (.int .i64 k1) ∧ X.cell? ⟨bk', o' + j * 6 + 1, none⟩ = some (.string nm1) ∧ X.cell? ⟨bk', o' + j * 6 + 2, none⟩ = some (.bool u1) ∧ X.cell? ⟨bk', o' + j * 6 + 3, none⟩ = some (.int .i64 r1) ∧ X.cell? ⟨bk', o' + j * 6 + 4, none⟩ = some (.slice R1 lr1 cr1) ∧ X.cell? ⟨bk', o' + j * 6 + 5, none⟩ = some (.slice A1 la1 ca1)))
                    (first | exact KX.out _ BQ5.out | exact ⟨⟨n5, p5⟩, ⟨x0, x1, x2, x3, x4, x5⟩, y0, y1, y2, y3, y4, y5⟩)
                    (first | (go_at_call 14; refine HSS.out.mono ?_; rintro e W5 ⟨rfl, b5⟩; have B6 : Hid (Below V.heap.size V W5) := HBV.out.trans (b5.mono HBV.out.size); have BQ5 := Lib.hid ((below_drew (Below.refl wr.heap.size wr)).trans b5); clear b5))
                  all_goals
                    clear HSS HBV KX BQ5 B3 B3W n5 p5 x0 x1 x2 x3 x4 x5 y0 y1 y2 y3 y4 y5
                    cases sv with
                    | false =>
                      have hr : res = false := by rw [← E4.out, Bool.false_and]
                      subst hr
                      clear E4
                      go_wp2
                      go_ret
                      exact ⟨rfl, HB.out.trans (B6.out.mono HB.out.size)⟩
                    | true =>
                      have HQ : Hid (sameL (ar.drop (j + 1)) (ar'.drop (j + 1)) = res ∧ Below V.heap.size V W5) := ⟨by rw [← E4.out, Bool.true_and], B6.out⟩
                      clear E4 B6
                      go_wp2
                      go_roundw
                      case rel => exact ⟨j + 1, by omega, by go_num, HQ⟩
                      case measure => simp [intOf]; omega
                · have hje : j = la := by omega
                  have hr : res = true := by
                    rw [← E3.out, List.drop_of_length_le (by rw [HLA.out]; omega), List.drop_of_length_le (by rw [HLA'.out]; omega), sameL]
                  subst hr
                  clear E3
                  go_wp2
                  go_ret
                  exact ⟨rfl, B3W.out⟩
          · have hr : res = false := by rw [← HRES.out, head_false (fun h => hlo (HOWN.out.2 h.2.2.2)), Bool.false_and]
            have el : ((lo : Int) == (lo' : Int)) = false := by rw [beq_eq_false_iff_ne]; omega
            have el2 : ((lo : Int) != (lo' : Int)) = true := by rw [bne, el]; rfl
            subst hr
            clear HRES HOWN HT HT' H2 H2' HLA HLA' I1 I2
            go_enter Tryd.func14, Tryd.ntmps14
            go_wp2_with fail
            rw [HV.out]
            go_region_held3 (fun X => (X.cell? ⟨W.heap.size, 0, none⟩ = some (.int .i64 k) ∧ X.cell? ⟨W.heap.size, 1, none⟩ = some (.string nm) ∧ X.cell? ⟨W.heap.size, 2, none⟩ = some (.bool u) ∧ X.cell? ⟨W.heap.size, 3, none⟩ = some (.int .i64 r) ∧ X.cell? ⟨W.heap.size, 4, none⟩ = some (.slice R lr cr) ∧ X.cell? ⟨W.heap.size, 5, none⟩ = some (.slice A la ca)) ∧
                (X.cell? ⟨W.heap.size + 1, 0, none⟩ = some (.int .i64 k) ∧ X.cell? ⟨W.heap.size + 1, 1, none⟩ = some (.string nm) ∧ X.cell? ⟨W.heap.size + 1, 2, none⟩ = some (.bool u) ∧ X.cell? ⟨W.heap.size + 1, 3, none⟩ = some (.int .i64 r') ∧ X.cell? ⟨W.heap.size + 1, 4, none⟩ = some (.slice R' lr' cr') ∧ X.cell? ⟨W.heap.size + 1, 5, none⟩ = some (.slice A' la ca')))
              (first
                | exact KC.out _ G2.out
                | exact KC.out _ G1.out
                | exact KC.out _ G0.out)
              (first
                | (go_at_call 33; refine (HRB.out _ G1.out).mono ?_; rintro e w2 ⟨Qb, cb, rfl, b2⟩; have G2 := Lib.hid (G1.out.trans (b2.mono G1.out.size)); clear b2)
                | (go_at_call 33; refine (HRA.out _ G0.out).mono ?_; rintro e w1 ⟨Qa, cqa, rfl, b1⟩; have G1 := Lib.hid (G0.out.trans (b1.mono G0.out.size)); clear b1))
            all_goals
              go_wp2
              go_ret
              exact ⟨rfl, HB.out.trans (G2.out.mono HB.out.size)⟩
        · have hr : res = false := by rw [← HRES.out, sameL_len (by rw [HLA.out, HLA'.out]; exact hl), Bool.and_false]
          have el : ((la : Int) == (la' : Int)) = false := by rw [beq_eq_false_iff_ne]; omega
          have el2 : ((la : Int) != (la' : Int)) = true := by rw [bne, el]; rfl
          subst hr
          clear HRES HOWN HT HT' H2 H2' HLA HLA' I1 I2 HRA HRB KC
          go_enter Tryd.func14, Tryd.ntmps14
          go_wp2_with fail
          rw [HV.out]
          go_quiet (fail)
          go_wp2
          go_ret
          exact ⟨rfl, HB.out.trans ((below_drewN V _).mono HB.out.size)⟩
      · have hr : res = false := by rw [← HRES.out, head_false (fun h => hu h.2.2.1), Bool.false_and]
        have eu : (u == u') = false := by cases u <;> cases u' <;> simp_all
        have eu2 : (!u == u') = true := by rw [eu]; rfl
        subst hr
        clear HRES
        go_enter Tryd.func14, Tryd.ntmps14
        go_wp2_with fail
        rw [HV.out]
        go_quiet (fail)
        go_wp2
        go_ret
        exact ⟨rfl, HB.out.trans ((below_drewN V _).mono HB.out.size)⟩
    · have hr : res = false := by rw [← HRES.out, head_false (fun h => hn h.2.1), Bool.false_and]
      have en : ¬ nm.toList = nm'.toList := fun e => hn (str_ext e)
      have en2 : (nm.toList == nm'.toList) = false := by rw [beq_eq_false_iff_ne]; exact en
      subst hr
      clear HRES
      go_enter Tryd.func14, Tryd.ntmps14
      go_wp2_with fail
      rw [HV.out]
      go_quiet (fail)
      go_wp2
      go_ret
      exact ⟨rfl, HB.out.trans ((below_drewN V _).mono HB.out.size)⟩
  · have hr : res = false := by rw [← HRES.out, head_false (fun h => hk h.1), Bool.false_and]
    have ek : (k == k') = false := by rw [beq_eq_false_iff_ne]; exact hk
    have ek2 : (k != k') = true := by rw [bne, ek]; rfl
    subst hr
    clear HRES
    go_enter Tryd.func14, Tryd.ntmps14
    go_wp2_with fail
    rw [HV.out]
    go_quiet (fail)
    go_wp2
    go_ret
    exact ⟨rfl, HB.out.trans ((below_drewN V _).mono HB.out.size)⟩
end Ts
end Go.Proofs.YtiljpnghahkjhaaDoor

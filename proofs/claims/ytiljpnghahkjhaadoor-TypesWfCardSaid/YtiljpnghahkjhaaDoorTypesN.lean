/- Layer 7: a type's text put into a builder. -/
import Derived.Test.YtiljpnghahkjhaaDoorTypesM
namespace Go.Proofs.YtiljpnghahkjhaaDoor
open Go.RowKit Go.Deep Tr
namespace Ts
def Lim : Nat := 140737488355328
def PutS (b : Nat) (n : Nat) : Prop := ∀ (x : Ty) (cs : List Value) (W0 W : World) (bs : List Value), TyAt W0 n x cs → Below W0.heap.size W0 W → W0.heap.size ≤ b → BuF b bs W → Pl x → (bs ++ textC x).length ≤ Lim →
  Calls Tryd.prog 50 #[.pointer (some ⟨b, 0, none⟩), .agg cs.toArray] W fun e W' => e = .returned (.tuple #[]) ∧ BuF b (bs ++ textC x) W' ∧ Kp 5 (some b) b W W'
theorem write_to {b : Nat} {bs : List Value} {s : ByteArray} {w : World} (h : BuF b bs w) (hl : (bs ++ Lib.strCells s).length ≤ Lim) :
    Calls Tryd.prog 55 #[.pointer (some ⟨b, 0, none⟩), .string s] w fun e w' => e = .returned (.tuple #[.int .i64 s.size, .nilIface]) ∧ BuF b (bs ++ Lib.strCells s) w' ∧ Kp 5 (some b) b w w' := by
  rw [List.length_append, Lib.strCells_length] at hl
  exact (write_any b b bs s w h hl (Nat.le_of_lt (bu_lt h))).mono fun e w' ⟨h1, h2, h3, h4⟩ => ⟨h1, .inr h2, kp_write h3 h4⟩
theorem lim_head {a c d : List Value} (h : (a ++ (c ++ d)).length ≤ Lim) : (a ++ c).length ≤ Lim := by
  simp only [List.length_append] at h ⊢
  omega
set_option maxHeartbeats 8000000 in
set_option maxRecDepth 100000 in
theorem put_step (b : Nat) (n : Nat) (IH : Hid (PutS b n)) : PutS b (n + 1) := by
  rintro ⟨k, nm, u, r, rs, ar⟩ cs W0 W bs h hb hc hB hP hlen
  obtain ⟨R, cr, A, ca, rfl, ⟨h0, h1⟩, h2⟩ := h
  obtain ⟨lr, hlr⟩ : ∃ n, rs.length = n := ⟨_, rfl⟩
  obtain ⟨la, hla⟩ : ∃ n, ar.length = n := ⟨_, rfl⟩
  have ha := h2.le
  unfold maxLen at ha
  rw [hla] at ha
  have HLA := Lib.hid hla
  have H2 := Lib.hid h2
  rw [hlr, hla]
  rw [Pl] at hP
  obtain ⟨hk, hr, hpl⟩ := hP
  have HK := Lib.hid hk
  have HRG := Lib.hid hr
  have HPL := Lib.hid hpl
  obtain ⟨X, hX⟩ : ∃ X, bs ++ textC (.mk k nm u r rs ar) = X := ⟨_, rfl⟩
  rw [hX] at hlen ⊢
  rw [textC] at hX
  have HL := Lib.hid hlen
  obtain ⟨o1, ho1⟩ : ∃ o, Obj.cells #[.int .i64 k, .string nm, .bool u, .int .i64 r, .slice R lr cr, .slice A la ca] 25 = o := ⟨_, rfl⟩
  have I1 : Hid (Is (W.alloc o1) W.heap.size 25 #[.int .i64 k, .string nm, .bool u, .int .i64 r, .slice R lr cr, .slice A la ca]) := by rw [← ho1]; exact Is.made W _ _
  have K1 : Hid (Kp 5 (some b) b W (W.alloc o1)) := (Kp.refl _ _ _ W).alloc o1
  have U1 := Lib.hid (bu_below hB ((Below.refl _ W).alloc (Nat.le_refl _) o1))
  have hbN : b < W.heap.size := bu_lt hB
  have hne : W.heap.size ≠ b := by omega
  have HBN := Lib.hid hbN
  have HB := Lib.hid hb
  have HC := Lib.hid hc
  have HO1 := Lib.hid ho1
  have HX := Lib.hid hX
  have HWD := Lib.hid (word_any (w := W.alloc o1) hk nm u r R lr cr A la ca)
  obtain ⟨N, hN⟩ : ∃ N, W.heap.size = N := ⟨_, rfl⟩
  have HN := Lib.hid hN
  rw [hN] at I1 hne
  have HNE := Lib.hid hne
  have n0 := I1.out.at_ 0
  have n1 := I1.out.at_ 1
  have n2 := I1.out.at_ 2
  have n3 := I1.out.at_ 3
  have n4 := I1.out.at_ 4
  have n5 := I1.out.at_ 5
  simp only [List.getElem?_toArray, List.getElem?_cons_zero, List.getElem?_cons_succ] at n0 n1 n2 n3 n4 n5
  clear h0 h1 h2 hlr hla hk hr hpl hX hlen hbN hb hc ho1 hN hne hB
  go_enter Tryd.func50, Tryd.ntmps50
  go_wp2_with fail
  rw [HO1.out, HN.out]
  go_wp2_with fail
  refine HWD.out.mono ?_
  rintro e W2 ⟨rfl, b2⟩
  have K2 : Hid (Kp 5 (some b) b W W2) := K1.out.trans (.of b2)
  have I2 := Lib.hid (I1.out.below b2 I1.out.lt)
  have U2 := Lib.hid (bu_below U1.out b2)
  have HW1 := Lib.hid (write_to U2.out (s := wordP k) (lim_head (d := ownC (ownP (.mk k nm u r rs ar)) ++ (mutC k u ++ textL ar)) (by rw [HX.out]; exact HL.out)))
  clear b2 HWD K1 I1 U1 n0 n1 n2 n3 n4 n5
  go_wp2_with fail
  refine HW1.out.mono ?_
  rintro e W3 ⟨rfl, q1, q2⟩
  have K3 : Hid (Kp 5 (some b) b W W3) := K2.out.trans q2
  have I3 := Lib.hid (q2.is I2.out (by decide) (fun e => HNE.out (by injection e)))
  have U3 := Lib.hid q1
  obtain ⟨Y, hY⟩ : ∃ Y, bs ++ Lib.strCells (wordP k) = Y := ⟨_, rfl⟩
  have HX3 : Hid (Y ++ (ownC (ownP (.mk k nm u r rs ar)) ++ (mutC k u ++ textL ar)) = X) := by show _ = _; rw [← hY, List.append_assoc]; exact HX.out
  rw [hY] at U3
  have n0 := I3.out.at_ 0
  have n1 := I3.out.at_ 1
  have n2 := I3.out.at_ 2
  have n3 := I3.out.at_ 3
  have n4 := I3.out.at_ 4
  have n5 := I3.out.at_ 5
  simp only [List.getElem?_toArray, List.getElem?_cons_zero, List.getElem?_cons_succ] at n0 n1 n2 n3 n4 n5
  have HOW := Lib.hid (own_keep (bu_lt q1) HK.out nm u r rs ar R lr cr A la ca)
  clear q1 q2 hY HW1 K2 I2 U2 HX
  go_wp2_with fail
  refine HOW.out.mono ?_
  rintro e W4 ⟨v4, rfl, b4, r4⟩
  have K4 : Hid (Kp 5 (some b) b W W4) := K3.out.trans (.of b4)
  have I4 := Lib.hid (I3.out.below b4 I3.out.lt)
  have U4 := Lib.hid (bu_below U3.out b4)
  have R4 := Lib.hid r4
  obtain ⟨A4, c4, rfl, _, _⟩ := rowI_cells (r4 W4 (.refl _ _ _ _))
  obtain ⟨ol, hol⟩ : ∃ l, ownP (.mk k nm u r rs ar) = l := ⟨_, rfl⟩
  have HOL := Lib.hid hol
  rw [hol] at HX3 R4 ⊢
  obtain ⟨oln, holn⟩ : ∃ n, ol.length = n := ⟨_, rfl⟩
  have HOLN := Lib.hid holn
  rw [holn] at R4 ⊢
  clear r4 b4 hol holn HOW K3 I3 U3 n0 n1 n2 n3 n4 n5
  go_wp2
  go_loopw [15] (fun i wr => ∃ j : Nat, j ≤ oln ∧ i = .int .i64 j ∧ Hid (∃ M, BuF b M wr ∧ Kp 5 (some b) b W4 wr ∧ M ++ (ownC (ol.drop j) ++ (mutC k u ++ textL ar)) = X)) (fun i _ => oln - (intOf i).toNat)
  case atStart => exact ⟨0, Nat.zero_le _, rfl, Y, U4.out, .refl _ _ _ _, HX3.out⟩
  clear U4 HX3
  case round =>
    obtain ⟨j, hj, rfl, HQ⟩ := hrel
    obtain ⟨M, q1, q2, q3⟩ := HQ.out
    have U5 := Lib.hid q1
    have K5 := Lib.hid q2
    have X5 := Lib.hid q3
    have I5 := Lib.hid (q2.is I4.out (by decide) (fun e => HNE.out (by injection e)))
    clear HQ q1 q2 q3
    by_cases hjl : j < oln
    · have hk7 : k = 7 := by
        rcases HK.out with rfl | rfl
        · have := HOL.out
          rw [own_0 (by decide) (by decide)] at this
          have h2 := HOLN.out
          rw [← this] at h2
          simp at h2
          omega
        · rfl
      subst hk7
      have hol : [r] = ol := by rw [← HOL.out, own_7 (by decide) (.inl rfl)]
      subst hol
      have h1 : oln = 1 := by rw [← HOLN.out]; rfl
      subst h1
      have hj0 : j = 0 := by omega
      subst hj0
      obtain ⟨A5, c5, e5, hr5, _⟩ := rowI_cells (R4.out wr K5.out)
      injection e5 with e5 e6 e7
      subst e5 e7
      obtain ⟨bk, o, rfl, hlt, hc5⟩ := hr5 (by rw [intsC_length]; exact Nat.zero_lt_one)
      have d0 := hc5 0 (.int .i64 r) rfl
      rw [Nat.add_zero] at d0
      have n0 := I5.out.at_ 0
      have n1 := I5.out.at_ 1
      have n2 := I5.out.at_ 2
      have n3 := I5.out.at_ 3
      have n4 := I5.out.at_ 4
      have n5 := I5.out.at_ 5
      simp only [List.getElem?_toArray, List.getElem?_cons_zero, List.getElem?_cons_succ] at n0 n1 n2 n3 n4 n5
      have HMK := Lib.hid (mark_any wr nm u r R lr cr A la ca)
      have HX6 : Hid (M ++ Lib.strCells (bAmp ++ decB r) ++ (mutC 7 u ++ textL ar) = X) := by
        have := X5.out
        rw [List.drop_zero] at this
        show _ = _
        rw [← this, List.append_assoc]
        simp only [ownC, List.flatMap_cons, List.flatMap_nil, List.append_nil]
      clear hc5 hlt e6 X5 hr5
      go_wp2_with fail
      refine HMK.out.mono ?_
      rintro e W6 ⟨rfl, b6⟩
      have U6 := Lib.hid (bu_below U5.out b6)
      have K6 : Hid (Kp 5 (some b) b W4 W6) := K5.out.trans (.of b6)
      clear b6 HMK U5 K5 n0 n1 n2 n3 n4 n5 d0 I5
      have hsz : bAmp.size + (decB r).size ≤ 9223372036854775807 := by
        have h1 := congrArg List.length HX6.out
        have h2 := HL.out
        rw [List.length_append, List.length_append, Lib.strCells_length, ByteArray.size_append] at h1
        unfold Lim at h2
        omega
      have HDC := Lib.hid (dec_small r HRG.out.1 HRG.out.2 W6)
      go_wp2_with fail
      refine HDC.out.mono ?_
      rintro e W7 ⟨rfl, rfl⟩
      clear HDC
      have HW6 := Lib.hid (write_to U6.out (s := bAmp ++ decB r) (lim_head (c := Lib.strCells (bAmp ++ decB r)) (d := mutC 7 u ++ textL ar) (by rw [← List.append_assoc, HX6.out]; exact HL.out)))
      go_wp2_with fail
      clear hsz
      refine HW6.out.mono ?_
      rintro e W8 ⟨rfl, q1, q2⟩
      have HR : Hid (∃ M', BuF b M' W8 ∧ Kp 5 (some b) b W4 W8 ∧ M' ++ (ownC (List.drop (0 + 1) [r]) ++ (mutC 7 u ++ textL ar)) = X) := ⟨_, q1, K6.out.trans q2, HX6.out⟩
      clear q1 q2 HX6 HW6 K6 U6
      go_wp2
      go_roundw
      case rel => exact ⟨_, _, _, _, _, _, _, _, _, _, _, _, _, ⟨0 + 1, by omega, by go_num, HR⟩, rfl⟩
      case measure => simp [intOf]
    · have hje : j = oln := by omega
      have HX6 : Hid (M ++ (mutC k u ++ textL ar) = X) := by
        have := X5.out
        rw [List.drop_of_length_le (by rw [HOLN.out]; omega)] at this
        exact this
      have n0 := I5.out.at_ 0
      have n1 := I5.out.at_ 1
      have n2 := I5.out.at_ 2
      have n3 := I5.out.at_ 3
      have n4 := I5.out.at_ 4
      have n5 := I5.out.at_ 5
      simp only [List.getElem?_toArray, List.getElem?_cons_zero, List.getElem?_cons_succ] at n0 n1 n2 n3 n4 n5
      clear X5 R4 HOL HOLN hj
      have KW : Hid (Kp 5 (some b) b W wr) := K4.out.trans K5.out
      clear K4 K5 I4
      by_cases hku : k = 7 ∧ u = true
      · obtain ⟨rfl, rfl⟩ := hku
        have HX7 : Hid (M ++ (Lib.strCells bMut ++ textL ar) = X) := by
          have := HX6.out
          rw [mutC, if_pos ⟨rfl, rfl⟩] at this
          exact this
        have HW6 := Lib.hid (write_to U5.out (s := ⟨#[109, 117, 116]⟩) (lim_head (c := Lib.strCells bMut) (d := textL ar) (by rw [HX7.out]; exact HL.out)))
        clear HX6 n0 n1 n2 n3 n4 n5
        have n0 := I5.out.at_ 0
        have n2 := I5.out.at_ 2
        simp only [List.getElem?_toArray, List.getElem?_cons_zero, List.getElem?_cons_succ] at n0 n2
        go_wp2_with fail
        refine HW6.out.mono ?_
        rintro e W8 ⟨rfl, q1, q2⟩
        have I9 := Lib.hid (q2.is I5.out (by decide) (fun e => HNE.out (by injection e)))
        have K9 : Hid (Kp 5 (some b) b W W8) := KW.out.trans q2
        have U9 := Lib.hid q1
        have X9 : Hid (M ++ Lib.strCells ⟨#[109, 117, 116]⟩ ++ textL ar = X) := by
          have := HX7.out
          rw [← List.append_assoc] at this
          exact this
        clear q1 q2 HW6 HX7 KW U5 I5 n0 n2
        have n5 := I9.out.at_ 5
        simp only [List.getElem?_toArray, List.getElem?_cons_zero, List.getElem?_cons_succ] at n5
        go_wp2
        go_loopw [39] (fun i wr => ∃ j : Nat, j ≤ la ∧ i = .int .i64 j ∧ Hid (∃ M, BuF b M wr ∧ Kp 5 (some b) b W wr ∧ M ++ textL (ar.drop j) = X)) (fun i _ => la - (intOf i).toNat)
        case atStart => exact ⟨0, Nat.zero_le _, rfl, _, U9.out, K9.out, X9.out⟩
        clear U9 K9 X9 I9 n5
        case round =>
          obtain ⟨j, hj, rfl, HQ⟩ := hrel
          obtain ⟨L, q1, q2, q3⟩ := HQ.out
          have UA := Lib.hid q1
          have KA := Lib.hid q2
          have XA := Lib.hid q3
          have BA : Hid (Below W0.heap.size W0 wr) := q2.below HB.out HC.out HB.out.size (fun k e => by injection e with e; have := HC.out; omega)
          have HBQ : Hid (b < wr.heap.size) := bu_lt q1
          clear HQ q1 q2 q3
          by_cases hjl : j < la
          · obtain ⟨bk, o', cs2, rfl, hlt, hl2, hs2, hc2⟩ := H2.out.get (by decide) (show j < ar.length by rw [HLA.out]; exact hjl)
            have hpx := HPL.out.get (j := j) (by rw [HLA.out]; exact hjl)
            obtain ⟨x, hx⟩ : ∃ x, ar[j]'(by rw [HLA.out]; exact hjl) = x := ⟨_, rfl⟩
            rw [hx] at hs2 hpx
            obtain ⟨k0, nm0, u0, r0, R0, lr0, cr0, A0, la0, ca0, rfl⟩ := hs2.shape
            have x0 := (BA.out.cell (p := ⟨bk, o' + j * 6 + 0, none⟩) hlt).trans (hc2 0 _ rfl)
            rw [Nat.add_zero] at x0
            have x1 := (BA.out.cell (p := ⟨bk, o' + j * 6 + 1, none⟩) hlt).trans (hc2 1 _ rfl)
            have x2 := (BA.out.cell (p := ⟨bk, o' + j * 6 + 2, none⟩) hlt).trans (hc2 2 _ rfl)
            have x3 := (BA.out.cell (p := ⟨bk, o' + j * 6 + 3, none⟩) hlt).trans (hc2 3 _ rfl)
            have x4 := (BA.out.cell (p := ⟨bk, o' + j * 6 + 4, none⟩) hlt).trans (hc2 4 _ rfl)
            have x5 := (BA.out.cell (p := ⟨bk, o' + j * 6 + 5, none⟩) hlt).trans (hc2 5 _ rfl)
            have hdr : textL (ar.drop j) = Lib.strCells bLt ++ (textC x ++ (Lib.strCells bGt ++ textL (ar.drop (j + 1)))) := by
              rw [List.drop_eq_getElem_cons (by rw [HLA.out]; exact hjl), textL, hx]
            have hX1 : L ++ (Lib.strCells bLt ++ (textC x ++ (Lib.strCells bGt ++ textL (ar.drop (j + 1))))) = X := by rw [← hdr]; exact XA.out
            have hX2 : (L ++ Lib.strCells bLt) ++ (textC x ++ (Lib.strCells bGt ++ textL (ar.drop (j + 1)))) = X := by rw [List.append_assoc]; exact hX1
            have hX3 : (L ++ Lib.strCells bLt ++ textC x) ++ (Lib.strCells bGt ++ textL (ar.drop (j + 1))) = X := by rw [List.append_assoc]; exact hX2
            have hX4 : (L ++ Lib.strCells bLt ++ textC x ++ Lib.strCells bGt) ++ textL (ar.drop (j + 1)) = X := by rw [List.append_assoc]; exact hX3
            obtain ⟨oN, hoN⟩ : ∃ o', (Obj.cells #[.int .i64 k0, .string nm0, .bool u0, .int .i64 r0, .slice R0 lr0 cr0, .slice A0 la0 ca0] 25) = o' := ⟨_, rfl⟩
            have KN : Hid (Kp 5 (some b) b W (wr.alloc oN)) := KA.out.alloc oN
            have IN : Is (wr.alloc oN) wr.heap.size 25 #[.int .i64 k0, .string nm0, .bool u0, .int .i64 r0, .slice R0 lr0 cr0, .slice A0 la0 ca0] := by rw [← hoN]; exact Is.made wr _ _
            have UN := Lib.hid (bu_below UA.out ((Below.refl _ wr).alloc (Nat.le_refl _) oN))
            obtain ⟨D, hD⟩ : ∃ D, wr.heap.size = D := ⟨_, rfl⟩
            have HD := Lib.hid hD
            rw [hD] at IN
            have hbD : D ≠ b := by have := HBQ.out; omega
            have HIN := Lib.hid IN
            have HNE2 := Lib.hid hbD
            have HON := Lib.hid hoN
            have HS2 := Lib.hid hs2
            have HPX := Lib.hid hpx
            have HX2 := Lib.hid hX2
            have HX3 := Lib.hid hX3
            have HX4 := Lib.hid hX4
            have HW1 := Lib.hid (write_to UN.out (s := ⟨#[60]⟩) (lim_head (c := Lib.strCells ⟨#[60]⟩) (d := textC x ++ (Lib.strCells bGt ++ textL (ar.drop (j + 1)))) (by rw [show Lib.strCells ⟨#[60]⟩ = Lib.strCells bLt from rfl, hX1]; exact HL.out)))
            clear hx hs2 hpx hc2 hlt hl2 hoN hD hbD IN hdr hX1 hX2 hX3 hX4 XA UA KA
            go_wp2_with fail
            rw [HON.out, HD.out]
            go_wp2_with fail
            refine HW1.out.mono ?_
            rintro e V1 ⟨rfl, q1, q2⟩
            have I1' := Lib.hid (q2.is HIN.out (by decide) (fun e => HNE2.out (by injection e)))
            have KV1 : Hid (Kp 5 (some b) b W V1) := KN.out.trans q2
            have BV1 : Below W0.heap.size W0 V1 := KV1.out.below HB.out HC.out HB.out.size (fun k e => by injection e with e; have := HC.out; omega)
            have n0 := I1'.out.at_ 0
            have n1 := I1'.out.at_ 1
            have n2 := I1'.out.at_ 2
            have n3 := I1'.out.at_ 3
            have n4 := I1'.out.at_ 4
            have n5 := I1'.out.at_ 5
            simp only [List.getElem?_toArray, List.getElem?_cons_zero, List.getElem?_cons_succ] at n0 n1 n2 n3 n4 n5
            have HP1 := Lib.hid (IH.out x _ W0 V1 (L ++ Lib.strCells bLt) HS2.out BV1 HC.out q1 HPX.out (lim_head (d := Lib.strCells bGt ++ textL (ar.drop (j + 1))) (by rw [HX2.out]; exact HL.out)))
            clear q1 q2 BV1 HW1 KN HIN UN x0 x1 x2 x3 x4 x5
            go_wp2_with fail
            refine HP1.out.mono ?_
            rintro e V2 ⟨rfl, q1, q2⟩
            have KV2 : Hid (Kp 5 (some b) b W V2) := KV1.out.trans q2
            have HW2 := Lib.hid (write_to q1 (s := ⟨#[62]⟩) (lim_head (c := Lib.strCells ⟨#[62]⟩) (d := textL (ar.drop (j + 1))) (by rw [show Lib.strCells ⟨#[62]⟩ = Lib.strCells bGt from rfl, HX3.out]; exact HL.out)))
            clear q1 q2 HP1 KV1 I1' n0 n1 n2 n3 n4 n5
            go_wp2_with fail
            refine HW2.out.mono ?_
            rintro e V3 ⟨rfl, q1, q2⟩
            have HR : Hid (∃ M', BuF b M' V3 ∧ Kp 5 (some b) b W V3 ∧ M' ++ textL (ar.drop (j + 1)) = X) := ⟨_, q1, KV2.out.trans q2, HX4.out⟩
            clear q1 q2 HW2 KV2
            go_wp2
            go_roundw
            case rel => exact ⟨j + 1, by omega, by go_num, HR⟩
            case measure => simp [intOf]; omega
          · have hje : j = la := by omega
            have HR : Hid (BuF b X wr ∧ Kp 5 (some b) b W wr) := by
              have hx := XA.out
              rw [List.drop_of_length_le (by rw [HLA.out]; omega), textL, List.append_nil] at hx
              rw [← hx]
              exact ⟨UA.out, KA.out⟩
            clear UA KA XA BA
            go_wp2
            go_end0
            exact ⟨rfl, HR.out⟩
      · rcases HK.out with rfl | rfl
        · have X9 : Hid (M ++ textL ar = X) := by
            have := HX6.out
            rw [mutC, if_neg hku] at this
            exact this
          have U9 := Lib.hid U5.out
          have I9 := Lib.hid I5.out
          have K9 := Lib.hid KW.out
          clear hku HX6 KW U5 I5 n1 n2 n3 n4 n5
          have n5 := I9.out.at_ 5
          simp only [List.getElem?_toArray, List.getElem?_cons_zero, List.getElem?_cons_succ] at n5
          go_wp2
          go_loopw [39] (fun i wr => ∃ j : Nat, j ≤ la ∧ i = .int .i64 j ∧ Hid (∃ M, BuF b M wr ∧ Kp 5 (some b) b W wr ∧ M ++ textL (ar.drop j) = X)) (fun i _ => la - (intOf i).toNat)
          case atStart => exact ⟨0, Nat.zero_le _, rfl, _, U9.out, K9.out, X9.out⟩
          clear U9 K9 X9 I9 n5
          case round =>
            obtain ⟨j, hj, rfl, HQ⟩ := hrel
            obtain ⟨L, q1, q2, q3⟩ := HQ.out
            have UA := Lib.hid q1
            have KA := Lib.hid q2
            have XA := Lib.hid q3
            have BA : Hid (Below W0.heap.size W0 wr) := q2.below HB.out HC.out HB.out.size (fun k e => by injection e with e; have := HC.out; omega)
            have HBQ : Hid (b < wr.heap.size) := bu_lt q1
            clear HQ q1 q2 q3
            by_cases hjl : j < la
            · obtain ⟨bk, o', cs2, rfl, hlt, hl2, hs2, hc2⟩ := H2.out.get (by decide) (show j < ar.length by rw [HLA.out]; exact hjl)
              have hpx := HPL.out.get (j := j) (by rw [HLA.out]; exact hjl)
              obtain ⟨x, hx⟩ : ∃ x, ar[j]'(by rw [HLA.out]; exact hjl) = x := ⟨_, rfl⟩
              rw [hx] at hs2 hpx
              obtain ⟨k0, nm0, u0, r0, R0, lr0, cr0, A0, la0, ca0, rfl⟩ := hs2.shape
              have x0 := (BA.out.cell (p := ⟨bk, o' + j * 6 + 0, none⟩) hlt).trans (hc2 0 _ rfl)
              rw [Nat.add_zero] at x0
              have x1 := (BA.out.cell (p := ⟨bk, o' + j * 6 + 1, none⟩) hlt).trans (hc2 1 _ rfl)
              have x2 := (BA.out.cell (p := ⟨bk, o' + j * 6 + 2, none⟩) hlt).trans (hc2 2 _ rfl)
              have x3 := (BA.out.cell (p := ⟨bk, o' + j * 6 + 3, none⟩) hlt).trans (hc2 3 _ rfl)
              have x4 := (BA.out.cell (p := ⟨bk, o' + j * 6 + 4, none⟩) hlt).trans (hc2 4 _ rfl)
              have x5 := (BA.out.cell (p := ⟨bk, o' + j * 6 + 5, none⟩) hlt).trans (hc2 5 _ rfl)
              have hdr : textL (ar.drop j) = Lib.strCells bLt ++ (textC x ++ (Lib.strCells bGt ++ textL (ar.drop (j + 1)))) := by
                rw [List.drop_eq_getElem_cons (by rw [HLA.out]; exact hjl), textL, hx]
              have hX1 : L ++ (Lib.strCells bLt ++ (textC x ++ (Lib.strCells bGt ++ textL (ar.drop (j + 1))))) = X := by rw [← hdr]; exact XA.out
              have hX2 : (L ++ Lib.strCells bLt) ++ (textC x ++ (Lib.strCells bGt ++ textL (ar.drop (j + 1)))) = X := by rw [List.append_assoc]; exact hX1
              have hX3 : (L ++ Lib.strCells bLt ++ textC x) ++ (Lib.strCells bGt ++ textL (ar.drop (j + 1))) = X := by rw [List.append_assoc]; exact hX2
              have hX4 : (L ++ Lib.strCells bLt ++ textC x ++ Lib.strCells bGt) ++ textL (ar.drop (j + 1)) = X := by rw [List.append_assoc]; exact hX3
              obtain ⟨oN, hoN⟩ : ∃ o', (Obj.cells #[.int .i64 k0, .string nm0, .bool u0, .int .i64 r0, .slice R0 lr0 cr0, .slice A0 la0 ca0] 25) = o' := ⟨_, rfl⟩
              have KN : Hid (Kp 5 (some b) b W (wr.alloc oN)) := KA.out.alloc oN
              have IN : Is (wr.alloc oN) wr.heap.size 25 #[.int .i64 k0, .string nm0, .bool u0, .int .i64 r0, .slice R0 lr0 cr0, .slice A0 la0 ca0] := by rw [← hoN]; exact Is.made wr _ _
              have UN := Lib.hid (bu_below UA.out ((Below.refl _ wr).alloc (Nat.le_refl _) oN))
              obtain ⟨D, hD⟩ : ∃ D, wr.heap.size = D := ⟨_, rfl⟩
              have HD := Lib.hid hD
              rw [hD] at IN
              have hbD : D ≠ b := by have := HBQ.out; omega
              have HIN := Lib.hid IN
              have HNE2 := Lib.hid hbD
              have HON := Lib.hid hoN
              have HS2 := Lib.hid hs2
              have HPX := Lib.hid hpx
              have HX2 := Lib.hid hX2
              have HX3 := Lib.hid hX3
              have HX4 := Lib.hid hX4
              have HW1 := Lib.hid (write_to UN.out (s := ⟨#[60]⟩) (lim_head (c := Lib.strCells ⟨#[60]⟩) (d := textC x ++ (Lib.strCells bGt ++ textL (ar.drop (j + 1)))) (by rw [show Lib.strCells ⟨#[60]⟩ = Lib.strCells bLt from rfl, hX1]; exact HL.out)))
              clear hx hs2 hpx hc2 hlt hl2 hoN hD hbD IN hdr hX1 hX2 hX3 hX4 XA UA KA
              go_wp2_with fail
              rw [HON.out, HD.out]
              go_wp2_with fail
              refine HW1.out.mono ?_
              rintro e V1 ⟨rfl, q1, q2⟩
              have I1' := Lib.hid (q2.is HIN.out (by decide) (fun e => HNE2.out (by injection e)))
              have KV1 : Hid (Kp 5 (some b) b W V1) := KN.out.trans q2
              have BV1 : Below W0.heap.size W0 V1 := KV1.out.below HB.out HC.out HB.out.size (fun k e => by injection e with e; have := HC.out; omega)
              have n0 := I1'.out.at_ 0
              have n1 := I1'.out.at_ 1
              have n2 := I1'.out.at_ 2
              have n3 := I1'.out.at_ 3
              have n4 := I1'.out.at_ 4
              have n5 := I1'.out.at_ 5
              simp only [List.getElem?_toArray, List.getElem?_cons_zero, List.getElem?_cons_succ] at n0 n1 n2 n3 n4 n5
              have HP1 := Lib.hid (IH.out x _ W0 V1 (L ++ Lib.strCells bLt) HS2.out BV1 HC.out q1 HPX.out (lim_head (d := Lib.strCells bGt ++ textL (ar.drop (j + 1))) (by rw [HX2.out]; exact HL.out)))
              clear q1 q2 BV1 HW1 KN HIN UN x0 x1 x2 x3 x4 x5
              go_wp2_with fail
              refine HP1.out.mono ?_
              rintro e V2 ⟨rfl, q1, q2⟩
              have KV2 : Hid (Kp 5 (some b) b W V2) := KV1.out.trans q2
              have HW2 := Lib.hid (write_to q1 (s := ⟨#[62]⟩) (lim_head (c := Lib.strCells ⟨#[62]⟩) (d := textL (ar.drop (j + 1))) (by rw [show Lib.strCells ⟨#[62]⟩ = Lib.strCells bGt from rfl, HX3.out]; exact HL.out)))
              clear q1 q2 HP1 KV1 I1' n0 n1 n2 n3 n4 n5
              go_wp2_with fail
              refine HW2.out.mono ?_
              rintro e V3 ⟨rfl, q1, q2⟩
              have HR : Hid (∃ M', BuF b M' V3 ∧ Kp 5 (some b) b W V3 ∧ M' ++ textL (ar.drop (j + 1)) = X) := ⟨_, q1, KV2.out.trans q2, HX4.out⟩
              clear q1 q2 HW2 KV2
              go_wp2
              go_roundw
              case rel => exact ⟨j + 1, by omega, by go_num, HR⟩
              case measure => simp [intOf]; omega
            · have hje : j = la := by omega
              have HR : Hid (BuF b X wr ∧ Kp 5 (some b) b W wr) := by
                have hx := XA.out
                rw [List.drop_of_length_le (by rw [HLA.out]; omega), textL, List.append_nil] at hx
                rw [← hx]
                exact ⟨UA.out, KA.out⟩
              clear UA KA XA BA
              go_wp2
              go_end0
              exact ⟨rfl, HR.out⟩
        · have X9 : Hid (M ++ textL ar = X) := by
            have := HX6.out
            rw [mutC, if_neg hku] at this
            exact this
          have hu : u = false := by
            cases u
            · rfl
            · exact absurd ⟨rfl, rfl⟩ hku
          subst hu
          have U9 := Lib.hid U5.out
          have I9 := Lib.hid I5.out
          have K9 := Lib.hid KW.out
          clear hku HX6 KW U5 I5 n1 n3 n4 n5
          have n5 := I9.out.at_ 5
          simp only [List.getElem?_toArray, List.getElem?_cons_zero, List.getElem?_cons_succ] at n5
          go_wp2
          go_loopw [39] (fun i wr => ∃ j : Nat, j ≤ la ∧ i = .int .i64 j ∧ Hid (∃ M, BuF b M wr ∧ Kp 5 (some b) b W wr ∧ M ++ textL (ar.drop j) = X)) (fun i _ => la - (intOf i).toNat)
          case atStart => exact ⟨0, Nat.zero_le _, rfl, _, U9.out, K9.out, X9.out⟩
          clear U9 K9 X9 I9 n5
          case round =>
            obtain ⟨j, hj, rfl, HQ⟩ := hrel
            obtain ⟨L, q1, q2, q3⟩ := HQ.out
            have UA := Lib.hid q1
            have KA := Lib.hid q2
            have XA := Lib.hid q3
            have BA : Hid (Below W0.heap.size W0 wr) := q2.below HB.out HC.out HB.out.size (fun k e => by injection e with e; have := HC.out; omega)
            have HBQ : Hid (b < wr.heap.size) := bu_lt q1
            clear HQ q1 q2 q3
            by_cases hjl : j < la
            · obtain ⟨bk, o', cs2, rfl, hlt, hl2, hs2, hc2⟩ := H2.out.get (by decide) (show j < ar.length by rw [HLA.out]; exact hjl)
              have hpx := HPL.out.get (j := j) (by rw [HLA.out]; exact hjl)
              obtain ⟨x, hx⟩ : ∃ x, ar[j]'(by rw [HLA.out]; exact hjl) = x := ⟨_, rfl⟩
              rw [hx] at hs2 hpx
              obtain ⟨k0, nm0, u0, r0, R0, lr0, cr0, A0, la0, ca0, rfl⟩ := hs2.shape
              have x0 := (BA.out.cell (p := ⟨bk, o' + j * 6 + 0, none⟩) hlt).trans (hc2 0 _ rfl)
              rw [Nat.add_zero] at x0
              have x1 := (BA.out.cell (p := ⟨bk, o' + j * 6 + 1, none⟩) hlt).trans (hc2 1 _ rfl)
              have x2 := (BA.out.cell (p := ⟨bk, o' + j * 6 + 2, none⟩) hlt).trans (hc2 2 _ rfl)
              have x3 := (BA.out.cell (p := ⟨bk, o' + j * 6 + 3, none⟩) hlt).trans (hc2 3 _ rfl)
              have x4 := (BA.out.cell (p := ⟨bk, o' + j * 6 + 4, none⟩) hlt).trans (hc2 4 _ rfl)
              have x5 := (BA.out.cell (p := ⟨bk, o' + j * 6 + 5, none⟩) hlt).trans (hc2 5 _ rfl)
              have hdr : textL (ar.drop j) = Lib.strCells bLt ++ (textC x ++ (Lib.strCells bGt ++ textL (ar.drop (j + 1)))) := by
                rw [List.drop_eq_getElem_cons (by rw [HLA.out]; exact hjl), textL, hx]
              have hX1 : L ++ (Lib.strCells bLt ++ (textC x ++ (Lib.strCells bGt ++ textL (ar.drop (j + 1))))) = X := by rw [← hdr]; exact XA.out
              have hX2 : (L ++ Lib.strCells bLt) ++ (textC x ++ (Lib.strCells bGt ++ textL (ar.drop (j + 1)))) = X := by rw [List.append_assoc]; exact hX1
              have hX3 : (L ++ Lib.strCells bLt ++ textC x) ++ (Lib.strCells bGt ++ textL (ar.drop (j + 1))) = X := by rw [List.append_assoc]; exact hX2
              have hX4 : (L ++ Lib.strCells bLt ++ textC x ++ Lib.strCells bGt) ++ textL (ar.drop (j + 1)) = X := by rw [List.append_assoc]; exact hX3
              obtain ⟨oN, hoN⟩ : ∃ o', (Obj.cells #[.int .i64 k0, .string nm0, .bool u0, .int .i64 r0, .slice R0 lr0 cr0, .slice A0 la0 ca0] 25) = o' := ⟨_, rfl⟩
              have KN : Hid (Kp 5 (some b) b W (wr.alloc oN)) := KA.out.alloc oN
              have IN : Is (wr.alloc oN) wr.heap.size 25 #[.int .i64 k0, .string nm0, .bool u0, .int .i64 r0, .slice R0 lr0 cr0, .slice A0 la0 ca0] := by rw [← hoN]; exact Is.made wr _ _
              have UN := Lib.hid (bu_below UA.out ((Below.refl _ wr).alloc (Nat.le_refl _) oN))
              obtain ⟨D, hD⟩ : ∃ D, wr.heap.size = D := ⟨_, rfl⟩
              have HD := Lib.hid hD
              rw [hD] at IN
              have hbD : D ≠ b := by have := HBQ.out; omega
              have HIN := Lib.hid IN
              have HNE2 := Lib.hid hbD
              have HON := Lib.hid hoN
              have HS2 := Lib.hid hs2
              have HPX := Lib.hid hpx
              have HX2 := Lib.hid hX2
              have HX3 := Lib.hid hX3
              have HX4 := Lib.hid hX4
              have HW1 := Lib.hid (write_to UN.out (s := ⟨#[60]⟩) (lim_head (c := Lib.strCells ⟨#[60]⟩) (d := textC x ++ (Lib.strCells bGt ++ textL (ar.drop (j + 1)))) (by rw [show Lib.strCells ⟨#[60]⟩ = Lib.strCells bLt from rfl, hX1]; exact HL.out)))
              clear hx hs2 hpx hc2 hlt hl2 hoN hD hbD IN hdr hX1 hX2 hX3 hX4 XA UA KA
              go_wp2_with fail
              rw [HON.out, HD.out]
              go_wp2_with fail
              refine HW1.out.mono ?_
              rintro e V1 ⟨rfl, q1, q2⟩
              have I1' := Lib.hid (q2.is HIN.out (by decide) (fun e => HNE2.out (by injection e)))
              have KV1 : Hid (Kp 5 (some b) b W V1) := KN.out.trans q2
              have BV1 : Below W0.heap.size W0 V1 := KV1.out.below HB.out HC.out HB.out.size (fun k e => by injection e with e; have := HC.out; omega)
              have n0 := I1'.out.at_ 0
              have n1 := I1'.out.at_ 1
              have n2 := I1'.out.at_ 2
              have n3 := I1'.out.at_ 3
              have n4 := I1'.out.at_ 4
              have n5 := I1'.out.at_ 5
              simp only [List.getElem?_toArray, List.getElem?_cons_zero, List.getElem?_cons_succ] at n0 n1 n2 n3 n4 n5
              have HP1 := Lib.hid (IH.out x _ W0 V1 (L ++ Lib.strCells bLt) HS2.out BV1 HC.out q1 HPX.out (lim_head (d := Lib.strCells bGt ++ textL (ar.drop (j + 1))) (by rw [HX2.out]; exact HL.out)))
              clear q1 q2 BV1 HW1 KN HIN UN x0 x1 x2 x3 x4 x5
              go_wp2_with fail
              refine HP1.out.mono ?_
              rintro e V2 ⟨rfl, q1, q2⟩
              have KV2 : Hid (Kp 5 (some b) b W V2) := KV1.out.trans q2
              have HW2 := Lib.hid (write_to q1 (s := ⟨#[62]⟩) (lim_head (c := Lib.strCells ⟨#[62]⟩) (d := textL (ar.drop (j + 1))) (by rw [show Lib.strCells ⟨#[62]⟩ = Lib.strCells bGt from rfl, HX3.out]; exact HL.out)))
              clear q1 q2 HP1 KV1 I1' n0 n1 n2 n3 n4 n5
              go_wp2_with fail
              refine HW2.out.mono ?_
              rintro e V3 ⟨rfl, q1, q2⟩
              have HR : Hid (∃ M', BuF b M' V3 ∧ Kp 5 (some b) b W V3 ∧ M' ++ textL (ar.drop (j + 1)) = X) := ⟨_, q1, KV2.out.trans q2, HX4.out⟩
              clear q1 q2 HW2 KV2
              go_wp2
              go_roundw
              case rel => exact ⟨j + 1, by omega, by go_num, HR⟩
              case measure => simp [intOf]; omega
            · have hje : j = la := by omega
              have HR : Hid (BuF b X wr ∧ Kp 5 (some b) b W wr) := by
                have hx := XA.out
                rw [List.drop_of_length_le (by rw [HLA.out]; omega), textL, List.append_nil] at hx
                rw [← hx]
                exact ⟨UA.out, KA.out⟩
              clear UA KA XA BA
              go_wp2
              go_end0
              exact ⟨rfl, HR.out⟩
end Ts
end Go.Proofs.YtiljpnghahkjhaaDoor

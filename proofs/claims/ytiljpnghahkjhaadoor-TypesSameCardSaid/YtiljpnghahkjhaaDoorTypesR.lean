/- Layer 7: which types are the same, but for regions: plain; slices.EqualFunc. -/
import Derived.Test.YtiljpnghahkjhaaDoorTypesE
namespace Go.Proofs.YtiljpnghahkjhaaDoor
open Go.RowKit Go.Deep Tr
namespace Ts
def headP (k : Int) (nm : ByteArray) (u : Bool) (n : Nat) (k' : Int) (nm' : ByteArray) (u' : Bool) (n' : Nat) : Bool := decide (k = k' ∧ nm = nm' ∧ u = u' ∧ (k = 5 → n = n'))
mutual
def sameP : Ty → Ty → Bool
  | .mk k nm u _ rs ar, .mk k' nm' u' _ rs' ar' => headP k nm u rs.length k' nm' u' rs'.length && sameL ar ar'
def sameL : List Ty → List Ty → Bool
  | [], [] => true
  | x :: l, y :: m => sameP x y && sameL l m
  | [], _ :: _ => false
  | _ :: _, [] => false
end
theorem sameL_len : ∀ {l m : List Ty}, l.length ≠ m.length → sameL l m = false
  | [], [], h => absurd rfl h
  | x :: l, y :: m, h => by rw [sameL, sameL_len (l := l) (m := m) (fun e => h (by simp [e])), Bool.and_false]
  | [], _ :: _, _ => by rw [sameL]
  | _ :: _, [], _ => by rw [sameL]
def SameS (n : Nat) : Prop := ∀ (x y : Ty) (cs ds : List Value) (m : Nat) (W : World), TyAt W n x cs → TyAt W m y ds →
  Calls Tryd.prog 18 #[.agg cs.toArray, .agg ds.toArray] W fun e W' => e = .returned (.bool (sameP x y)) ∧ Below W.heap.size W W'
def EqfS (n : Nat) : Prop := ∀ (l l' : List Ty) (A A' : Option Addr) (c c' : Nat) (m : Nat) (W : World), ListAt W 6 (TyAt W n) A l → ListAt W 6 (TyAt W m) A' l' →
  Calls Tryd.prog 35 #[.slice A l.length c, .slice A' l'.length c', .func (.func 18) #[] #[]] W fun e W' => e = .returned (.bool (sameL l l')) ∧ Below W.heap.size W W'
set_option maxHeartbeats 8000000 in
set_option maxRecDepth 100000 in
theorem eqf_step (n : Nat) (HS : Hid (SameS n)) : EqfS n := by
  intro l l' A A' c c' m W h h'
  obtain ⟨la, hla⟩ : ∃ n, l.length = n := ⟨_, rfl⟩
  obtain ⟨lb, hlb⟩ : ∃ n, l'.length = n := ⟨_, rfl⟩
  have ha := h.le
  unfold maxLen at ha
  rw [hla] at ha
  have HLA := Lib.hid hla
  have HLB := Lib.hid hlb
  have H1 := Lib.hid h
  have H2 := Lib.hid h'
  rw [hla, hlb]
  obtain ⟨res, hres⟩ : ∃ r, sameL l l' = r := ⟨_, rfl⟩
  have HR := Lib.hid hres
  rw [hres]
  by_cases hl : la = lb
  · subst hl
    clear h h' hla hlb hres
    go_enter Tryd.func35, Tryd.ntmps35
    go_wp2
    go_loopw [17] (fun i wr => ∃ j : Nat, j ≤ la ∧ i = .int .i64 j ∧ Hid (sameL (l.drop j) (l'.drop j) = res ∧ Below W.heap.size W wr)) (fun i _ => la - (intOf i).toNat)
    case atStart => exact ⟨0, Nat.zero_le _, rfl, HR.out, .refl _ _⟩
    clear HR
    case round =>
      obtain ⟨j, hj, rfl, HQ⟩ := hrel
      have E3 := Lib.hid HQ.out.1
      have B3 := Lib.hid HQ.out.2
      clear HQ
      by_cases hjl : j < la
      · obtain ⟨bk, o, cs, rfl, hlt, hl2, hs2, hc2⟩ := H1.out.get (by decide) (show j < l.length by rw [HLA.out]; exact hjl)
        obtain ⟨bk', o', ds, rfl, hlt', hl2', hs2', hc2'⟩ := H2.out.get (by decide) (show j < l'.length by rw [HLB.out]; exact hjl)
        obtain ⟨x, hx⟩ : ∃ x, l[j]'(by rw [HLA.out]; exact hjl) = x := ⟨_, rfl⟩
        obtain ⟨y, hy⟩ : ∃ y, l'[j]'(by rw [HLB.out]; exact hjl) = y := ⟨_, rfl⟩
        rw [hx] at hs2
        rw [hy] at hs2'
        obtain ⟨k0, nm0, u0, r0, R0, lr0, cr0, A0, la0, ca0, rfl⟩ := hs2.shape
        obtain ⟨k1, nm1, u1, r1, R1, lr1, cr1, A1, la1, ca1, rfl⟩ := hs2'.shape
        have x0 := (B3.out.cell (p := ⟨bk, o + j * 6 + 0, none⟩) hlt).trans (hc2 0 _ rfl)
        rw [Nat.add_zero] at x0
        have x1 := (B3.out.cell (p := ⟨bk, o + j * 6 + 1, none⟩) hlt).trans (hc2 1 _ rfl)
        have x2 := (B3.out.cell (p := ⟨bk, o + j * 6 + 2, none⟩) hlt).trans (hc2 2 _ rfl)
        have x3 := (B3.out.cell (p := ⟨bk, o + j * 6 + 3, none⟩) hlt).trans (hc2 3 _ rfl)
        have x4 := (B3.out.cell (p := ⟨bk, o + j * 6 + 4, none⟩) hlt).trans (hc2 4 _ rfl)
        have x5 := (B3.out.cell (p := ⟨bk, o + j * 6 + 5, none⟩) hlt).trans (hc2 5 _ rfl)
        have B4 := B3.out.alloc B3.out.size (.cells #[.int .i64 k0, .string nm0, .bool u0, .int .i64 r0, .slice R0 lr0 cr0, .slice A0 la0 ca0] 25)
        have y0 := (B4.cell (p := ⟨bk', o' + j * 6 + 0, none⟩) hlt').trans (hc2' 0 _ rfl)
        rw [Nat.add_zero] at y0
        have y1 := (B4.cell (p := ⟨bk', o' + j * 6 + 1, none⟩) hlt').trans (hc2' 1 _ rfl)
        have y2 := (B4.cell (p := ⟨bk', o' + j * 6 + 2, none⟩) hlt').trans (hc2' 2 _ rfl)
        have y3 := (B4.cell (p := ⟨bk', o' + j * 6 + 3, none⟩) hlt').trans (hc2' 3 _ rfl)
        have y4 := (B4.cell (p := ⟨bk', o' + j * 6 + 4, none⟩) hlt').trans (hc2' 4 _ rfl)
        have y5 := (B4.cell (p := ⟨bk', o' + j * 6 + 5, none⟩) hlt').trans (hc2' 5 _ rfl)
        have hdr : sameL (l.drop j) (l'.drop j) = (sameP x y && sameL (l.drop (j + 1)) (l'.drop (j + 1))) := by
          rw [List.drop_eq_getElem_cons (by rw [HLA.out]; exact hjl), List.drop_eq_getElem_cons (l := l') (by rw [HLB.out]; exact hjl), sameL, hx, hy]
        have E4 : Hid ((sameP x y && sameL (l.drop (j + 1)) (l'.drop (j + 1))) = res) := by rw [← hdr]; exact E3.out
        obtain ⟨sv, hsv⟩ : ∃ b, sameP x y = b := ⟨_, rfl⟩
        rw [hsv] at E4
        obtain ⟨o1, ho1⟩ : ∃ o, (Obj.cells #[.int .i64 k0, .string nm0, .bool u0, .int .i64 r0, .slice R0 lr0 cr0, .slice A0 la0 ca0] 25) = o := ⟨_, rfl⟩
        obtain ⟨o2, ho2⟩ : ∃ o, (Obj.cells #[.int .i64 k1, .string nm1, .bool u1, .int .i64 r1, .slice R1 lr1 cr1, .slice A1 la1 ca1] 25) = o := ⟨_, rfl⟩
        have B5 : Below W.heap.size W ((wr.alloc o1).alloc o2) := (B3.out.alloc B3.out.size o1).alloc (Nat.le_trans B3.out.size (by simp)) o2
        have hSS := HS.out x y _ _ m ((wr.alloc o1).alloc o2) (TyAt.below B5 _ _ _ hs2) (TyAt.below B5 _ _ _ hs2')
        rw [hsv] at hSS
        have HSS := Lib.hid hSS
        have HB5 := Lib.hid B5
        have HO1 := Lib.hid ho1
        have HO2 := Lib.hid ho2
        clear B4 hx hy hs2 hs2' hc2 hc2' hlt hlt' hl2 hl2' hdr hsv ho1 ho2 B5 hSS E3 B3
        go_wp2_with fail
        rw [HO1.out, HO2.out]
        refine HSS.out.mono ?_
        rintro e W5 ⟨rfl, b5⟩
        have B6 : Hid (Below W.heap.size W W5) := HB5.out.trans (b5.mono HB5.out.size)
        clear b5 HSS HB5 HO1 HO2 x0 x1 x2 x3 x4 x5 y0 y1 y2 y3 y4 y5
        cases sv with
        | false =>
          have hr : res = false := by rw [← E4.out, Bool.false_and]
          subst hr
          clear E4
          go_wp2
          go_ret
          exact ⟨rfl, B6.out⟩
        | true =>
          have HQ : Hid (sameL (l.drop (j + 1)) (l'.drop (j + 1)) = res ∧ Below W.heap.size W W5) := ⟨by rw [← E4.out, Bool.true_and], B6.out⟩
          clear E4 B6
          go_wp2
          go_roundw
          case rel => exact ⟨j + 1, by omega, by go_num, HQ⟩
          case measure => simp [intOf]; omega
      · have hje : j = la := by omega
        have hr : res = true := by
          rw [← E3.out, List.drop_of_length_le (by rw [HLA.out]; omega), List.drop_of_length_le (by rw [HLB.out]; omega), sameL]
        subst hr
        clear E3
        go_wp2
        go_ret
        exact ⟨rfl, B3.out⟩
  · have hr : res = false := by rw [← hres, sameL_len (by rw [hla, hlb]; exact hl)]
    subst hr
    have hl2 : (la : Int) ≠ (lb : Int) := by omega
    clear h h' hla hlb hres
    go_enter Tryd.func35, Tryd.ntmps35
    go_wp2
    go_ret
    exact ⟨rfl, .refl _ _⟩
end Ts
end Go.Proofs.YtiljpnghahkjhaaDoor

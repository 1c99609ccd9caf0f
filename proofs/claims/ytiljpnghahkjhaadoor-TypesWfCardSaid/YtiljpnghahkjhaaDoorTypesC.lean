/- Layer 7: all regions in a type. -/
import Derived.Deep.RegionHeld3
import Derived.Deep.RegionLaw
import Derived.Deep.OwnRows
import Derived.Test.YtiljpnghahkjhaaDoorTypesB
namespace Go.Proofs.YtiljpnghahkjhaaDoor
open Go.RowKit Go.Deep Tr
namespace Ts

def SeeAll (c B : Nat) (n : Nat) : Prop := ∀ (x : Ty) (cs : List Value) (W0 W : World) (v : Value) (L : List Int), TyAt W0 n x cs → Below W0.heap.size W0 W → W0.heap.size ≤ c → Acc 22 3 1 W c B v L.length (intsC L) → True → L.length + (ownP x).length ≤ Big →
  Calls Tryd.prog 49 #[.agg cs.toArray, .pointer (some ⟨c, 0, none⟩)] W fun e W' => e = .returned (.tuple #[]) ∧ ∃ v', Acc 22 3 1 W' c B v' (L ++ ownP x).length (intsC (L ++ ownP x)) ∧ Kp 3 (some c) B W W'
def EachAll (c B : Nat) (n : Nat) : Prop := ∀ (x : Ty) (cs : List Value) (W0 W : World) (v : Value) (L : List Int), TyAt W0 n x cs → Below W0.heap.size W0 W → W0.heap.size ≤ c → Acc 22 3 1 W c B v L.length (intsC L) → True → L.length + (gath (ownP) x).length ≤ Big →
  Calls Tryd.prog 41 #[.agg cs.toArray, .func (.func 49) #[] #[.pointer (some ⟨c, 0, none⟩)]] W fun e W' => e = .returned (.tuple #[]) ∧ ∃ v', Acc 22 3 1 W' c B v' (L ++ gath (ownP) x).length (intsC (L ++ gath (ownP) x)) ∧ Kp 3 (some c) B W W'
set_option maxHeartbeats 8000000 in
set_option maxRecDepth 100000 in
theorem eachAll_step (c B : Nat) (n : Nat) (HE : Hid (∀ W W', True → Kp 3 (some c) B W W' → True)) (HS : Hid (SeeAll c B (n + 1))) (IH : Hid (EachAll c B n)) : EachAll c B (n + 1) := by
  rintro ⟨k, nm, u, r, rs, ar⟩ cs W0 W v L h hb hc hA hE hbig
  have HH := Lib.hid h
  obtain ⟨R, cr, A, ca, rfl, ⟨h0, h1⟩, h2⟩ := h
  obtain ⟨lr, hlr⟩ : ∃ n, rs.length = n := ⟨_, rfl⟩
  obtain ⟨la, hla⟩ : ∃ n, ar.length = n := ⟨_, rfl⟩
  have ha := h2.le
  unfold maxLen at ha
  rw [hla] at ha
  have HLA := Lib.hid hla
  have H2 := Lib.hid h2
  rw [hlr, hla] at HH ⊢
  obtain ⟨ow, how⟩ : ∃ l, ownP (.mk k nm u r rs ar) = l := ⟨_, rfl⟩
  have hg : gath (ownP) (.mk k nm u r rs ar) = ow ++ gathL (ownP) ar := by rw [gath, how]
  rw [hg] at hbig ⊢
  rw [List.length_append] at hbig
  obtain ⟨o1, ho1⟩ : ∃ o, Obj.cells #[.int .i64 k, .string nm, .bool u, .int .i64 r, .slice R lr cr, .slice A la ca] 25 = o := ⟨_, rfl⟩
  have I1 : Hid (Is (W.alloc o1) W.heap.size 25 #[.int .i64 k, .string nm, .bool u, .int .i64 r, .slice R lr cr, .slice A la ca]) := by rw [← ho1]; exact Is.made W _ _
  have A1 := Lib.hid (hA.alloc o1)
  have B1 := Lib.hid (hb.alloc hb.size o1)
  have K1 : Hid (Kp 3 (some c) B W (W.alloc o1)) := (Kp.refl _ _ _ W).alloc o1
  have hcN : c < W.heap.size := hA.cell.lt
  have hs := HS.out (.mk k nm u r rs ar) _ W0 (W.alloc o1) v L HH.out B1.out hc A1.out (HE.out _ _ hE K1.out) (by rw [how]; omega)
  rw [how] at hs
  have HSE := Lib.hid hs
  have HO1 := Lib.hid ho1
  have HC := Lib.hid hc
  have HBIG := Lib.hid hbig
  have HEW := Lib.hid hE
  obtain ⟨X, hX⟩ : ∃ X, L ++ (ow ++ gathL (ownP) ar) = X := ⟨_, rfl⟩
  have HXX : Hid (L ++ ow ++ gathL (ownP) ar = X) := by show _ = _; rw [List.append_assoc, hX]
  rw [hX]
  clear h0 h1 h2 hlr hla how hg hb hA hs ho1 hc hbig hE hX
  go_enter Tryd.func41, Tryd.ntmps41
  go_wp2_with fail
  rw [HO1.out]
  refine HSE.out.mono ?_
  rintro e W2 ⟨rfl, v2, q1, q2⟩
  have A2 := Lib.hid q1
  have K2 := Lib.hid (K1.out.trans q2)
  have I2 := Lib.hid (q2.is I1.out (by decide) (by intro e; injection e with e; omega))
  have c5 := I2.out.at_ 5
  simp only [List.getElem?_toArray, List.getElem?_cons_zero, List.getElem?_cons_succ] at c5
  have HEa : Hid True := HE.out _ _ HEW.out K2.out
  have BA : Hid (Below W0.heap.size W0 W2) := q2.below B1.out (Nat.le_trans HC.out (Nat.le_of_lt A1.out.lt)) B1.out.size (fun k e => by injection e with e; subst e; exact HC.out)
  clear q1 q2 HSE A1 K1 I1 I2 B1 HO1
  go_wp2
  go_loopw [12] (fun i wr => ∃ j : Nat, j ≤ la ∧ i = .int .i64 j ∧ Hid (∃ v' M, Acc 22 3 1 wr c B v' M.length (intsC M) ∧ Kp 3 (some c) B W wr ∧ M ++ gathL (ownP) (ar.drop j) = X ∧ M.length + (gathL (ownP) (ar.drop j)).length ≤ Big ∧ True ∧ Below W0.heap.size W0 wr)) (fun i _ => la - (intOf i).toNat)
  case atStart => exact ⟨0, Nat.zero_le _, rfl, v2, _, A2.out, K2.out, HXX.out, by have := HBIG.out; rw [List.length_append, List.drop_zero]; omega, HEa.out, BA.out⟩
  clear A2 K2 HXX HBIG HEa BA
  case round =>
    obtain ⟨j, hj, rfl, HQ⟩ := hrel
    obtain ⟨v3, M, q1, q2, q3, q4, q5, q6⟩ := HQ.out
    have A3 := Lib.hid q1
    have K3 := Lib.hid q2
    have X3 := Lib.hid q3
    have G3 := Lib.hid q4
    have E3 := Lib.hid q5
    have B3 := Lib.hid q6
    clear HQ q1 q2 q3 q4 q5 q6
    by_cases hjl : j < la
    · obtain ⟨bk, o', cs2, rfl, hlt, hl2, hs2, hc2⟩ := H2.out.get (by decide) (show j < ar.length by rw [HLA.out]; exact hjl)
      obtain ⟨x, hx⟩ : ∃ x, ar[j]'(by rw [HLA.out]; exact hjl) = x := ⟨_, rfl⟩
      rw [hx] at hs2
      obtain ⟨k0, nm0, u0, r0, R0, lr0, cr0, A0, la0, ca0, rfl⟩ := hs2.shape
      have x0 := (B3.out.cell (p := ⟨bk, o' + j * 6 + 0, none⟩) hlt).trans (hc2 0 _ rfl)
      rw [Nat.add_zero] at x0
      have x1 := (B3.out.cell (p := ⟨bk, o' + j * 6 + 1, none⟩) hlt).trans (hc2 1 _ rfl)
      have x2 := (B3.out.cell (p := ⟨bk, o' + j * 6 + 2, none⟩) hlt).trans (hc2 2 _ rfl)
      have x3 := (B3.out.cell (p := ⟨bk, o' + j * 6 + 3, none⟩) hlt).trans (hc2 3 _ rfl)
      have x4 := (B3.out.cell (p := ⟨bk, o' + j * 6 + 4, none⟩) hlt).trans (hc2 4 _ rfl)
      have x5 := (B3.out.cell (p := ⟨bk, o' + j * 6 + 5, none⟩) hlt).trans (hc2 5 _ rfl)
      have hdr : gathL (ownP) (ar.drop j) = gath (ownP) x ++ gathL (ownP) (ar.drop (j + 1)) := by
        rw [List.drop_eq_getElem_cons (by rw [HLA.out]; exact hjl), gathL, hx]
      obtain ⟨oN, hoN⟩ : ∃ o', (Obj.cells #[.int .i64 k0, .string nm0, .bool u0, .int .i64 r0, .slice R0 lr0 cr0, .slice A0 la0 ca0] 25) = o' := ⟨_, rfl⟩
      have KN : Hid (Kp 3 (some c) B wr (wr.alloc oN)) := (Kp.refl _ _ _ wr).alloc oN
      have hg3 := G3.out
      rw [hdr, List.length_append] at hg3
      have HLI := Lib.hid (IH.out x _ W0 (wr.alloc oN) v3 M hs2 (B3.out.alloc B3.out.size oN) HC.out (A3.out.alloc oN) (HE.out _ _ E3.out KN.out) (by omega))
      have HON := Lib.hid hoN
      have HDR := Lib.hid hdr
      clear hx hs2 hc2 hlt hl2 hoN hdr hg3
      go_wp2_with fail
      rw [HON.out]
      refine HLI.out.mono ?_
      rintro e W4 ⟨rfl, v4, q1, q2⟩
      have HR : Hid (∃ v' M', Acc 22 3 1 W4 c B v' M'.length (intsC M') ∧ Kp 3 (some c) B W W4 ∧ M' ++ gathL (ownP) (ar.drop (j + 1)) = X ∧ M'.length + (gathL (ownP) (ar.drop (j + 1))).length ≤ Big ∧ True ∧ Below W0.heap.size W0 W4) := by
        have hx := X3.out
        have hg := G3.out
        rw [HDR.out] at hx hg
        rw [List.length_append] at hg
        exact ⟨v4, _, q1, (K3.out.trans KN.out).trans q2, by rw [List.append_assoc]; exact hx, by rw [List.length_append]; omega, HE.out _ _ E3.out (KN.out.trans q2),
          q2.below (B3.out.alloc B3.out.size oN) (Nat.le_trans HC.out (Nat.le_of_lt A3.out.lt)) (B3.out.alloc B3.out.size oN).size (fun k e => by injection e with e; subst e; exact HC.out)⟩
      clear q1 q2 HLI A3 K3 X3 G3 E3 B3 KN HON HDR x0 x1 x2 x3 x4 x5
      go_wp2
      go_roundw
      case rel => exact ⟨j + 1, by omega, by go_num, HR⟩
      case measure => simp [intOf]; omega
    · have hje : j = la := by omega
      have HR : Hid (∃ v', Acc 22 3 1 wr c B v' X.length (intsC X) ∧ Kp 3 (some c) B W wr) := by
        have hx := X3.out
        rw [List.drop_of_length_le (by rw [HLA.out]; omega), gathL, List.append_nil] at hx
        subst hx
        exact ⟨v3, A3.out, K3.out⟩
      clear A3 K3 X3 G3 E3 B3
      go_wp2
      go_end0
      exact ⟨rfl, HR.out⟩
theorem eachAll_any (c B : Nat) (HE : Hid (∀ W W', True → Kp 3 (some c) B W W' → True)) (HS : ∀ n, SeeAll c B n) : ∀ n, EachAll c B n
  | 0 => fun _ _ _ _ _ _ h _ _ _ _ _ => h.elim
  | n + 1 => eachAll_step c B n HE (Lib.hid (HS (n + 1))) (Lib.hid (eachAll_any c B HE HS n))

set_option maxHeartbeats 8000000 in
set_option maxRecDepth 100000 in
theorem seeAll_any (c B n : Nat) : SeeAll c B n := by
  intro x cs W0 W v L h hb hc hA _ hbig
  obtain ⟨i0, hi0, hz0, hz1, hz2⟩ := info_parts info_int
  have HI := Lib.hid hi0
  obtain ⟨k, nm, u, r, R, lr, cr, A, la, ca, rfl⟩ := h.shape
  obtain ⟨o1, ho1⟩ : ∃ o, Obj.cells #[.int .i64 k, .string nm, .bool u, .int .i64 r, .slice R lr cr, .slice A la ca] 25 = o := ⟨_, rfl⟩
  have I1 : Is (W.alloc o1) W.heap.size 25 #[.int .i64 k, .string nm, .bool u, .int .i64 r, .slice R lr cr, .slice A la ca] := by rw [← ho1]; exact Is.made W _ _
  have HA0 := hA.alloc o1
  have HB0 := hb.alloc hb.size o1
  have K1 : Hid (Kp 3 (some c) B W (W.alloc o1)) := (Kp.refl _ _ _ W).alloc o1
  obtain ⟨N, hN⟩ : ∃ N, W.heap.size = N := ⟨_, rfl⟩
  obtain ⟨W1, hW1⟩ : ∃ x, W.alloc o1 = x := ⟨_, rfl⟩
  rw [hW1] at HA0 HB0 K1 I1
  rw [hN] at I1
  have hcN : c ≠ N := by have := hA.cell.lt; omega
  obtain ⟨ao, cp, rfl, _⟩ := own_slice hA.own
  have hO := own_any (w := W1.drew) (TyAt.below (show Below W0.heap.size W0 W1.drew from ⟨HB0.os, HB0.tape, HB0.output, HB0.size, HB0.block⟩) n x _ h)
  obtain ⟨ow, how⟩ : ∃ l, ownP x = l := ⟨_, rfl⟩
  rw [how] at hO hbig ⊢
  have HO := Lib.hid hO
  have HA1 := Lib.hid HA0
  have HI1 := Lib.hid I1
  have c0 := HA0.cell.at_ 0
  have f0 := HA0.cell.free 0
  have n0 := I1.at_ 0
  have n1 := I1.at_ 1
  have n2 := I1.at_ 2
  have n3 := I1.at_ 3
  have n4 := I1.at_ 4
  have n5 := I1.at_ 5
  simp only [List.getElem?_toArray, List.getElem?_cons_zero, List.getElem?_cons_succ] at c0 n0 n1 n2 n3 n4 n5
  have hWW : Hid (W.alloc (.cells #[.int .i64 k, .string nm, .bool u, .int .i64 r, .slice R lr cr, .slice A la ca] 25) = W1) := by rw [← hW1, ← ho1]; exact rfl
  have HN := Lib.hid hN
  unfold Big at hbig
  have LB1 : Hid (L.length + ow.length ≤ maxLen) := by show L.length + ow.length ≤ maxLen; unfold maxLen; omega
  have LB2 : Hid ((L.length + ow.length) * 8 ≤ 140737488355328) := by show (L.length + ow.length) * 8 ≤ 140737488355328; omega
  have HA := Lib.hid hA
  clear h hb hc hA HA0 HB0 hO how hi0 I1 hW1 hN ho1 hbig
  go_enter Tryd.func49, Tryd.ntmps49
  go_wp2_with fail
  rw [hWW.out, HN.out]
  go_region_law
    (first
      | (refine step_append_row (by rfl) (.tmp 3) (.tmp 5) 22 (by rfl) B 3 i0 (.int .i64 0) 1 8 Tryd.underlying22 HI.out hz0 hz1 hz2 rfl (by decide) _ L.length (intsC L) (by rfl) O2.out Ao ow.length co HN2.out (intsC ow) (by rfl) (by rw [intsC_length, Nat.mul_one]) R2.out (intsC_one _) LB1.out LB2.out S2.out ?_; intro v3 w3 ho3 hg3; rw [← intsC_append] at ho3; have C3 := Lib.hid (C2.out.grown hg3 (fun e => own_ne O2.out C2.out (by decide) e.symm)); have N3 := Lib.hid (N2.out.grown hg3 (fun e => own_ne O2.out N2.out (by decide) e.symm)); have c3 := C3.out.at_ 0; have f3 := C3.out.free 0; obtain ⟨a3, cp3, rfl, _⟩ := own_slice ho3; have O3 := Lib.hid ho3; have K3 : Hid (Kp 3 (some c) B W w3) := K2.out.trans (Kp.own O2.out hg3); clear ho3 hg3)
      | (go_simp; go_at_call 45; refine HO.out.mono ?_; rintro e w2 ⟨vo, rfl, r1, b1⟩; obtain ⟨Ao, co, rfl, hr2, hn2⟩ := rowI_cells r1; have A2 := HA1.out.drew.below b1; have C2 := Lib.hid A2.cell; have c2 := A2.cell.at_ 0; simp only [List.getElem?_toArray, List.getElem?_cons_zero] at c2; have O2 := Lib.hid A2.own; have S2 := Lib.hid A2.le; have N2 := Lib.hid (HI1.out.drew.below b1 HI1.out.lt); have R2 := Lib.hid hr2; have HN2 := Lib.hid hn2; have K2 : Hid (Kp 3 (some c) B W w2) := K1.out.drew.trans (.of b1); clear r1 b1 hr2 hn2 A2))
  all_goals
    have HD : Hid (∃ v', Acc 22 3 1 (w3.setCell ⟨c, 0, none⟩ (.slice a3 (L.length + ow.length) cp3)) c B v' (L ++ ow).length (intsC (L ++ ow)) ∧ Kp 3 (some c) B W (w3.setCell ⟨c, 0, none⟩ (.slice a3 (L.length + ow.length) cp3))) := by
      obtain ⟨d1, d2⟩ := HA.out.done K3.out C3.out O3.out
      rw [List.length_append]
      exact ⟨_, d1, d2⟩
    clear K3 C3 O3 C2 O2 S2 N2 N3 R2 HN2 K2
    go_wp2
    go_end0
    exact ⟨rfl, HD.out⟩
end Ts
end Go.Proofs.YtiljpnghahkjhaaDoor

/- Layer 7: which regions must outlive which, with structs' needs: what is said of all parts. -/
import Derived.Test.YtiljpnghahkjhaaDoorTypesI
namespace Go.Proofs.YtiljpnghahkjhaaDoor
open Go.RowKit Go.Deep Tr Mp
namespace Ts
def TwoAt (o : Int × Int) (cs : List Value) : Prop := cs = [.int .i64 o.1, .int .i64 o.2] ∧ o.1 ≤ 9223372036854775807 ∧ o.2 ≤ 9223372036854775807
/-- What structs need, in a map (or none). -/
def NeedsAt (W0 : World) (M : Value) (nd : Nds) : Prop := ∀ (w' : World) (s : ByteArray), Below W0.heap.size W0 w' → s.size ≤ maxLen → ∃ A c, (Instr.lookup 42 M (.string s) false).run Tryd.prog w' = .ok (.slice A (nd s).length c) w' ∧ ListAt W0 2 TwoAt A (nd s)
def EnvW (M : Value) (d : Nat) (W : World) : Prop := Is W d 42 #[M]
def SeeW (nd : Nds) (M : Value) (c d B : Nat) (n : Nat) : Prop := ∀ (x : Ty) (cs : List Value) (W0 W : World) (v : Value) (L : List (Int × Int)), TyAt W0 n x cs → (allP x).length ≤ Big → NeedsAt W0 M nd → Below W0.heap.size W0 W → W0.heap.size ≤ c → Acc 40 46 2 W c B v L.length (pairsC L) → EnvW M d W → L.length + (wf1 nd x).length ≤ Big →
  Calls Tryd.prog 42 #[.agg cs.toArray, .pointer (some ⟨c, 0, none⟩), .pointer (some ⟨d, 0, none⟩)] W fun e W' => e = .returned (.tuple #[]) ∧ ∃ v', Acc 40 46 2 W' c B v' (L ++ wf1 nd x).length (pairsC (L ++ wf1 nd x)) ∧ Kp 46 (some c) B W W'
def EachW (nd : Nds) (M : Value) (c d B : Nat) (n : Nat) : Prop := ∀ (x : Ty) (cs : List Value) (W0 W : World) (v : Value) (L : List (Int × Int)), TyAt W0 n x cs → (allP x).length ≤ Big → NeedsAt W0 M nd → Below W0.heap.size W0 W → W0.heap.size ≤ c → Acc 40 46 2 W c B v L.length (pairsC L) → EnvW M d W → L.length + (gath (wf1 nd) x).length ≤ Big →
  Calls Tryd.prog 41 #[.agg cs.toArray, .func (.func 42) #[] #[.pointer (some ⟨c, 0, none⟩), .pointer (some ⟨d, 0, none⟩)]] W fun e W' => e = .returned (.tuple #[]) ∧ ∃ v', Acc 40 46 2 W' c B v' (L ++ gath (wf1 nd) x).length (pairsC (L ++ gath (wf1 nd) x)) ∧ Kp 46 (some c) B W W'
set_option maxHeartbeats 8000000 in
set_option maxRecDepth 100000 in
theorem eachW_step (nd : Nds) (M : Value) (c d B : Nat) (n : Nat) (HE : Hid (∀ W W', EnvW M d W → Kp 46 (some c) B W W' → EnvW M d W')) (HS : Hid (SeeW nd M c d B (n + 1))) (IH : Hid (EachW nd M c d B n)) : EachW nd M c d B (n + 1) := by
  rintro ⟨k, nm, u, r, rs, ar⟩ cs W0 W v L h hal hnd hb hc hA hE hbig
  have HAL := Lib.hid hal
  have HND := Lib.hid hnd
  have HH := Lib.hid h
  obtain ⟨R, cr, A, ca, rfl, ⟨h0, h1⟩, h2⟩ := h
  obtain ⟨lr, hlr⟩ : ∃ n, rs.length = n := ⟨_, rfl⟩
  obtain ⟨la, hla⟩ : ∃ n, ar.length = n := ⟨_, rfl⟩
  have ha := h2.le
  unfold maxLen at ha
  rw [hla] at ha
  have HLA := Lib.hid hla
  have H2 := Lib.hid h2
  rw [hlr, hla] at HH ⊢
  obtain ⟨ow, how⟩ : ∃ l, wf1 nd (.mk k nm u r rs ar) = l := ⟨_, rfl⟩
  have hg : gath (wf1 nd) (.mk k nm u r rs ar) = ow ++ gathL (wf1 nd) ar := by rw [gath, how]
  rw [hg] at hbig ⊢
  rw [List.length_append] at hbig
  obtain ⟨o1, ho1⟩ : ∃ o, Obj.cells #[.int .i64 k, .string nm, .bool u, .int .i64 r, .slice R lr cr, .slice A la ca] 25 = o := ⟨_, rfl⟩
  have I1 : Hid (Is (W.alloc o1) W.heap.size 25 #[.int .i64 k, .string nm, .bool u, .int .i64 r, .slice R lr cr, .slice A la ca]) := by rw [← ho1]; exact Is.made W _ _
  have A1 := Lib.hid (hA.alloc o1)
  have B1 := Lib.hid (hb.alloc hb.size o1)
  have K1 : Hid (Kp 46 (some c) B W (W.alloc o1)) := (Kp.refl _ _ _ W).alloc o1
  have hcN : c < W.heap.size := hA.cell.lt
  have hs := HS.out (.mk k nm u r rs ar) _ W0 (W.alloc o1) v L HH.out HAL.out HND.out B1.out hc A1.out (HE.out _ _ hE K1.out) (by rw [how]; omega)
  rw [how] at hs
  have HSE := Lib.hid hs
  have HO1 := Lib.hid ho1
  have HC := Lib.hid hc
  have HBIG := Lib.hid hbig
  have HEW := Lib.hid hE
  obtain ⟨X, hX⟩ : ∃ X, L ++ (ow ++ gathL (wf1 nd) ar) = X := ⟨_, rfl⟩
  have HXX : Hid (L ++ ow ++ gathL (wf1 nd) ar = X) := by show _ = _; rw [List.append_assoc, hX]
  rw [hX]
  clear h0 h1 h2 hlr hla how hg hb hA hs ho1 hc hbig hE hX hnd hal
  go_enter Tryd.func41, Tryd.ntmps41
  go_wp2_with fail
  rw [HO1.out]
  refine HSE.out.mono ?_
  rintro e W2 ⟨rfl, v2, q1, q2⟩
  have A2 := Lib.hid q1
  have K2 := Lib.hid (K1.out.trans q2)
  have I2 := Lib.hid (q2.is I1.out (by decide) (by intro e; injection e with e; omega))
  have c5 := I2.out.at_ 5
  simp only [List.getElem?_toArray, List.getElem?_cons_zero, List.getElem?_cons_succ] at c5
  have HEa : Hid (EnvW M d W2) := HE.out _ _ HEW.out K2.out
  have BA : Hid (Below W0.heap.size W0 W2) := q2.below B1.out (Nat.le_trans HC.out (Nat.le_of_lt A1.out.lt)) B1.out.size (fun k e => by injection e with e; subst e; exact HC.out)
  clear q1 q2 HSE A1 K1 I1 I2 B1 HO1
  go_wp2
  go_loopw [12] (fun i wr => ∃ j : Nat, j ≤ la ∧ i = .int .i64 j ∧ Hid (∃ v' M', Acc 40 46 2 wr c B v' M'.length (pairsC M') ∧ Kp 46 (some c) B W wr ∧ M' ++ gathL (wf1 nd) (ar.drop j) = X ∧ M'.length + (gathL (wf1 nd) (ar.drop j)).length ≤ Big ∧ EnvW M d wr ∧ Below W0.heap.size W0 wr)) (fun i _ => la - (intOf i).toNat)
  case atStart => exact ⟨0, Nat.zero_le _, rfl, v2, _, A2.out, K2.out, HXX.out, by have := HBIG.out; rw [List.length_append, List.drop_zero]; omega, HEa.out, BA.out⟩
  clear A2 K2 HXX HBIG HEa BA
  case round =>
    obtain ⟨j, hj, rfl, HQ⟩ := hrel
    obtain ⟨v3, M', q1, q2, q3, q4, q5, q6⟩ := HQ.out
    have A3 := Lib.hid q1
    have K3 := Lib.hid q2
    have X3 := Lib.hid q3
    have G3 := Lib.hid q4
    have E3 := Lib.hid q5
    have B3 := Lib.hid q6
    clear HQ q1 q2 q3 q4 q5 q6
    by_cases hjl : j < la
    · obtain ⟨bk, o', cs2, rfl, hlt, hl2, hs2, hc2⟩ := H2.out.get (by decide) (show j < ar.length by rw [HLA.out]; exact hjl)
      obtain ⟨x, hx⟩ : ∃ x, ar[j]'(by rw [HLA.out]; exact hjl) = x := ⟨_, rfl⟩
      rw [hx] at hs2
      obtain ⟨k0, nm0, u0, r0, R0, lr0, cr0, A0, la0, ca0, rfl⟩ := hs2.shape
      have x0 := (B3.out.cell (p := ⟨bk, o' + j * 6 + 0, none⟩) hlt).trans (hc2 0 _ rfl)
      rw [Nat.add_zero] at x0
      have x1 := (B3.out.cell (p := ⟨bk, o' + j * 6 + 1, none⟩) hlt).trans (hc2 1 _ rfl)
      have x2 := (B3.out.cell (p := ⟨bk, o' + j * 6 + 2, none⟩) hlt).trans (hc2 2 _ rfl)
      have x3 := (B3.out.cell (p := ⟨bk, o' + j * 6 + 3, none⟩) hlt).trans (hc2 3 _ rfl)
      have x4 := (B3.out.cell (p := ⟨bk, o' + j * 6 + 4, none⟩) hlt).trans (hc2 4 _ rfl)
      have x5 := (B3.out.cell (p := ⟨bk, o' + j * 6 + 5, none⟩) hlt).trans (hc2 5 _ rfl)
      have hpa : ∀ x', ar[j]'(by rw [HLA.out]; exact hjl) = x' → (allP x').length ≤ Big := fun x' hx' => by
        have h1 := HAL.out
        have h2 := gathL_mem ownP (l := ar) (x := x') (by rw [← hx']; exact List.getElem_mem _)
        rw [allP, gath, List.length_append] at h1
        rw [allP]
        omega
      have hdr : gathL (wf1 nd) (ar.drop j) = gath (wf1 nd) x ++ gathL (wf1 nd) (ar.drop (j + 1)) := by
        rw [List.drop_eq_getElem_cons (by rw [HLA.out]; exact hjl), gathL, hx]
      obtain ⟨oN, hoN⟩ : ∃ o', (Obj.cells #[.int .i64 k0, .string nm0, .bool u0, .int .i64 r0, .slice R0 lr0 cr0, .slice A0 la0 ca0] 25) = o' := ⟨_, rfl⟩
      have KN : Hid (Kp 46 (some c) B wr (wr.alloc oN)) := (Kp.refl _ _ _ wr).alloc oN
      have hg3 := G3.out
      rw [hdr, List.length_append] at hg3
      have HLI := Lib.hid (IH.out x _ W0 (wr.alloc oN) v3 M' hs2 (hpa _ hx) HND.out (B3.out.alloc B3.out.size oN) HC.out (A3.out.alloc oN) (HE.out _ _ E3.out KN.out) (by omega))
      have HON := Lib.hid hoN
      have HDR := Lib.hid hdr
      clear hx hs2 hc2 hlt hl2 hoN hdr hg3 hpa
      go_wp2_with fail
      rw [HON.out]
      refine HLI.out.mono ?_
      rintro e W4 ⟨rfl, v4, q1, q2⟩
      have HR : Hid (∃ v' M', Acc 40 46 2 W4 c B v' M'.length (pairsC M') ∧ Kp 46 (some c) B W W4 ∧ M' ++ gathL (wf1 nd) (ar.drop (j + 1)) = X ∧ M'.length + (gathL (wf1 nd) (ar.drop (j + 1))).length ≤ Big ∧ EnvW M d W4 ∧ Below W0.heap.size W0 W4) := by
        have hx := X3.out
        have hg := G3.out
        rw [HDR.out] at hx hg
        rw [List.length_append] at hg
        exact ⟨v4, _, q1, (K3.out.trans KN.out).trans q2, by rw [List.append_assoc]; exact hx, by rw [List.length_append]; omega, HE.out _ _ E3.out (KN.out.trans q2),
          q2.below (B3.out.alloc B3.out.size oN) (Nat.le_trans HC.out (Nat.le_of_lt A3.out.lt)) (B3.out.alloc B3.out.size oN).size (fun k e => by injection e with e; subst e; exact HC.out)⟩
      clear q1 q2 HLI A3 K3 X3 G3 E3 B3 KN HON HDR x0 x1 x2 x3 x4 x5
      go_wp2
      go_roundw
      case rel => exact ⟨j + 1, by omega, by go_num, HR⟩
      case measure => simp [intOf]; omega
    · have hje : j = la := by omega
      have HR : Hid (∃ v', Acc 40 46 2 wr c B v' X.length (pairsC X) ∧ Kp 46 (some c) B W wr) := by
        have hx := X3.out
        rw [List.drop_of_length_le (by rw [HLA.out]; omega), gathL, List.append_nil] at hx
        subst hx
        exact ⟨v3, A3.out, K3.out⟩
      clear A3 K3 X3 G3 E3 B3
      go_wp2
      go_end0
      exact ⟨rfl, HR.out⟩
theorem eachW_any (nd : Nds) (M : Value) (c d B : Nat) (HE : Hid (∀ W W', EnvW M d W → Kp 46 (some c) B W W' → EnvW M d W')) (HS : ∀ n, SeeW nd M c d B n) : ∀ n, EachW nd M c d B n
  | 0 => fun _ _ _ _ _ _ h _ _ _ _ _ _ _ => h.elim
  | n + 1 => eachW_step nd M c d B n HE (Lib.hid (HS (n + 1))) (Lib.hid (eachW_any nd M c d B HE HS n))

end Ts
end Go.Proofs.YtiljpnghahkjhaaDoor

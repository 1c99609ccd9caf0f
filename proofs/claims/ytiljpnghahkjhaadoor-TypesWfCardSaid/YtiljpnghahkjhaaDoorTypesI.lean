/- Layer 7: which regions must outlive which, where structs need nothing. -/
import Derived.Test.YtiljpnghahkjhaaDoorMaps
import Derived.Test.YtiljpnghahkjhaaDoorTypesH
namespace Go.Proofs.YtiljpnghahkjhaaDoor
open Go.RowKit Go.Deep Tr Mp
namespace Ts
/-- The needs that came in: none. -/
def EnvN (d : Nat) (W : World) : Prop := Is W d 42 #[.map none]
theorem zero_pairs (w : World) : (zeroValue 40).run Tryd.prog w = .ok (.slice none 0 0) w := by kernel_rfl
theorem parts_far {n : Nat} {x : Ty} {cs : List Value} {W0 w : World} (h : TyAt W0 n x cs) (hw : Below W0.heap.size W0 w) (hb : (partsP x).length ≤ Big) : Calls Tryd.prog 44 #[.agg cs.toArray] w fun e w' => ∃ v, e = .returned v ∧ RowI w' v (partsP x) ∧ Below w.heap.size w w' ∧ Far W0.heap.size w.heap.size v :=
  (parts_any (TyAt.below hw n x cs h) hb).mono fun _ _ ⟨v, h1, h2, h3, h4⟩ => ⟨v, h1, h2, h3, far_of h4⟩

def SeeWf (c d B : Nat) (n : Nat) : Prop := ∀ (x : Ty) (cs : List Value) (W0 W : World) (v : Value) (L : List (Int × Int)), TyAt W0 n x cs → Below W0.heap.size W0 W → W0.heap.size ≤ c → Acc 40 46 2 W c B v L.length (pairsC L) → (EnvN d W) → L.length + (wf1 (fun _ => []) x).length ≤ Big →
  Calls Tryd.prog 42 #[.agg cs.toArray, .pointer (some ⟨c, 0, none⟩), .pointer (some ⟨d, 0, none⟩)] W fun e W' => e = .returned (.tuple #[]) ∧ ∃ v', Acc 40 46 2 W' c B v' (L ++ wf1 (fun _ => []) x).length (pairsC (L ++ wf1 (fun _ => []) x)) ∧ Kp 46 (some c) B W W'
def EachWf (c d B : Nat) (n : Nat) : Prop := ∀ (x : Ty) (cs : List Value) (W0 W : World) (v : Value) (L : List (Int × Int)), TyAt W0 n x cs → Below W0.heap.size W0 W → W0.heap.size ≤ c → Acc 40 46 2 W c B v L.length (pairsC L) → (EnvN d W) → L.length + (gath (wf1 (fun _ => [])) x).length ≤ Big →
  Calls Tryd.prog 41 #[.agg cs.toArray, .func (.func 42) #[] #[.pointer (some ⟨c, 0, none⟩), .pointer (some ⟨d, 0, none⟩)]] W fun e W' => e = .returned (.tuple #[]) ∧ ∃ v', Acc 40 46 2 W' c B v' (L ++ gath (wf1 (fun _ => [])) x).length (pairsC (L ++ gath (wf1 (fun _ => [])) x)) ∧ Kp 46 (some c) B W W'
set_option maxHeartbeats 8000000 in
set_option maxRecDepth 100000 in
theorem eachWf_step (c d B : Nat) (n : Nat) (HE : Hid (∀ W W', (EnvN d W) → Kp 46 (some c) B W W' → (EnvN d W'))) (HS : Hid (SeeWf c d B (n + 1))) (IH : Hid (EachWf c d B n)) : EachWf c d B (n + 1) := by
  rintro ⟨k, nm, u, r, rs, ar⟩ cs W0 W v L h hb hc hA hE hbig
  have HH := Lib.hid h
  obtain ⟨R, cr, A, ca, rfl, ⟨h0, h1⟩, h2⟩ := h
  obtain ⟨lr, hlr⟩ : ∃ n, rs.length = n := ⟨_, rfl⟩
  obtain ⟨la, hla⟩ : ∃ n, ar.length = n := ⟨_, rfl⟩
  have ha := h2.le
  unfold maxLen at ha
  rw [hla] at ha
  have HLA := Lib.hid hla
  have H2 := Lib.hid h2
  rw [hlr, hla] at HH ⊢
  obtain ⟨ow, how⟩ : ∃ l, wf1 (fun _ => []) (.mk k nm u r rs ar) = l := ⟨_, rfl⟩
  have hg : gath (wf1 (fun _ => [])) (.mk k nm u r rs ar) = ow ++ gathL (wf1 (fun _ => [])) ar := by rw [gath, how]
  rw [hg] at hbig ⊢
  rw [List.length_append] at hbig
  obtain ⟨o1, ho1⟩ : ∃ o, Obj.cells #[.int .i64 k, .string nm, .bool u, .int .i64 r, .slice R lr cr, .slice A la ca] 25 = o := ⟨_, rfl⟩
  have I1 : Hid (Is (W.alloc o1) W.heap.size 25 #[.int .i64 k, .string nm, .bool u, .int .i64 r, .slice R lr cr, .slice A la ca]) := by rw [← ho1]; exact Is.made W _ _
  have A1 := Lib.hid (hA.alloc o1)
  have B1 := Lib.hid (hb.alloc hb.size o1)
  have K1 : Hid (Kp 46 (some c) B W (W.alloc o1)) := (Kp.refl _ _ _ W).alloc o1
  have hcN : c < W.heap.size := hA.cell.lt
  have hs := HS.out (.mk k nm u r rs ar) _ W0 (W.alloc o1) v L HH.out B1.out hc A1.out (HE.out _ _ hE K1.out) (by rw [how]; omega)
  rw [how] at hs
  have HSE := Lib.hid hs
  have HO1 := Lib.hid ho1
  have HC := Lib.hid hc
  have HBIG := Lib.hid hbig
  have HEW := Lib.hid hE
  obtain ⟨X, hX⟩ : ∃ X, L ++ (ow ++ gathL (wf1 (fun _ => [])) ar) = X := ⟨_, rfl⟩
  have HXX : Hid (L ++ ow ++ gathL (wf1 (fun _ => [])) ar = X) := by show _ = _; rw [List.append_assoc, hX]
  rw [hX]
  clear h0 h1 h2 hlr hla how hg hb hA hs ho1 hc hbig hE hX
  go_enter Tryd.func41, Tryd.ntmps41
  go_wp2_with fail
  rw [HO1.out]
  refine HSE.out.mono ?_
  rintro e W2 ⟨rfl, v2, q1, q2⟩
  have A2 := Lib.hid q1
  have K2 := Lib.hid (K1.out.trans q2)
  have I2 := Lib.hid (q2.is I1.out (by decide) (by intro e; injection e with e; omega))
  have c5 := I2.out.at_ 5
  simp only [List.getElem?_toArray, List.getElem?_cons_zero, List.getElem?_cons_succ] at c5
  have HEa : Hid (EnvN d W2) := HE.out _ _ HEW.out K2.out
  have BA : Hid (Below W0.heap.size W0 W2) := q2.below B1.out (Nat.le_trans HC.out (Nat.le_of_lt A1.out.lt)) B1.out.size (fun k e => by injection e with e; subst e; exact HC.out)
  clear q1 q2 HSE A1 K1 I1 I2 B1 HO1
  go_wp2
  go_loopw [12] (fun i wr => ∃ j : Nat, j ≤ la ∧ i = .int .i64 j ∧ Hid (∃ v' M, Acc 40 46 2 wr c B v' M.length (pairsC M) ∧ Kp 46 (some c) B W wr ∧ M ++ gathL (wf1 (fun _ => [])) (ar.drop j) = X ∧ M.length + (gathL (wf1 (fun _ => [])) (ar.drop j)).length ≤ Big ∧ (EnvN d wr) ∧ Below W0.heap.size W0 wr)) (fun i _ => la - (intOf i).toNat)
  case atStart => exact ⟨0, Nat.zero_le _, rfl, v2, _, A2.out, K2.out, HXX.out, by have := HBIG.out; rw [List.length_append, List.drop_zero]; omega, HEa.out, BA.out⟩
  clear A2 K2 HXX HBIG HEa BA
  case round =>
    obtain ⟨j, hj, rfl, HQ⟩ := hrel
    obtain ⟨v3, M, q1, q2, q3, q4, q5, q6⟩ := HQ.out
    have A3 := Lib.hid q1
    have K3 := Lib.hid q2
    have X3 := Lib.hid q3
    have G3 := Lib.hid q4
    have E3 := Lib.hid q5
    have B3 := Lib.hid q6
    clear HQ q1 q2 q3 q4 q5 q6
    by_cases hjl : j < la
    · obtain ⟨bk, o', cs2, rfl, hlt, hl2, hs2, hc2⟩ := H2.out.get (by decide) (show j < ar.length by rw [HLA.out]; exact hjl)
      obtain ⟨x, hx⟩ : ∃ x, ar[j]'(by rw [HLA.out]; exact hjl) = x := ⟨_, rfl⟩
      rw [hx] at hs2
      obtain ⟨k0, nm0, u0, r0, R0, lr0, cr0, A0, la0, ca0, rfl⟩ := hs2.shape
      have x0 := (B3.out.cell (p := ⟨bk, o' + j * 6 + 0, none⟩) hlt).trans (hc2 0 _ rfl)
      rw [Nat.add_zero] at x0
      have x1 := (B3.out.cell (p := ⟨bk, o' + j * 6 + 1, none⟩) hlt).trans (hc2 1 _ rfl)
      have x2 := (B3.out.cell (p := ⟨bk, o' + j * 6 + 2, none⟩) hlt).trans (hc2 2 _ rfl)
      have x3 := (B3.out.cell (p := ⟨bk, o' + j * 6 + 3, none⟩) hlt).trans (hc2 3 _ rfl)
      have x4 := (B3.out.cell (p := ⟨bk, o' + j * 6 + 4, none⟩) hlt).trans (hc2 4 _ rfl)
      have x5 := (B3.out.cell (p := ⟨bk, o' + j * 6 + 5, none⟩) hlt).trans (hc2 5 _ rfl)
      have hdr : gathL (wf1 (fun _ => [])) (ar.drop j) = gath (wf1 (fun _ => [])) x ++ gathL (wf1 (fun _ => [])) (ar.drop (j + 1)) := by
        rw [List.drop_eq_getElem_cons (by rw [HLA.out]; exact hjl), gathL, hx]
      obtain ⟨oN, hoN⟩ : ∃ o', (Obj.cells #[.int .i64 k0, .string nm0, .bool u0, .int .i64 r0, .slice R0 lr0 cr0, .slice A0 la0 ca0] 25) = o' := ⟨_, rfl⟩
      have KN : Hid (Kp 46 (some c) B wr (wr.alloc oN)) := (Kp.refl _ _ _ wr).alloc oN
      have hg3 := G3.out
      rw [hdr, List.length_append] at hg3
      have HLI := Lib.hid (IH.out x _ W0 (wr.alloc oN) v3 M hs2 (B3.out.alloc B3.out.size oN) HC.out (A3.out.alloc oN) (HE.out _ _ E3.out KN.out) (by omega))
      have HON := Lib.hid hoN
      have HDR := Lib.hid hdr
      clear hx hs2 hc2 hlt hl2 hoN hdr hg3
      go_wp2_with fail
      rw [HON.out]
      refine HLI.out.mono ?_
      rintro e W4 ⟨rfl, v4, q1, q2⟩
      have HR : Hid (∃ v' M', Acc 40 46 2 W4 c B v' M'.length (pairsC M') ∧ Kp 46 (some c) B W W4 ∧ M' ++ gathL (wf1 (fun _ => [])) (ar.drop (j + 1)) = X ∧ M'.length + (gathL (wf1 (fun _ => [])) (ar.drop (j + 1))).length ≤ Big ∧ (EnvN d W4) ∧ Below W0.heap.size W0 W4) := by
        have hx := X3.out
        have hg := G3.out
        rw [HDR.out] at hx hg
        rw [List.length_append] at hg
        exact ⟨v4, _, q1, (K3.out.trans KN.out).trans q2, by rw [List.append_assoc]; exact hx, by rw [List.length_append]; omega, HE.out _ _ E3.out (KN.out.trans q2),
          q2.below (B3.out.alloc B3.out.size oN) (Nat.le_trans HC.out (Nat.le_of_lt A3.out.lt)) (B3.out.alloc B3.out.size oN).size (fun k e => by injection e with e; subst e; exact HC.out)⟩
      clear q1 q2 HLI A3 K3 X3 G3 E3 B3 KN HON HDR x0 x1 x2 x3 x4 x5
      go_wp2
      go_roundw
      case rel => exact ⟨j + 1, by omega, by go_num, HR⟩
      case measure => simp [intOf]; omega
    · have hje : j = la := by omega
      have HR : Hid (∃ v', Acc 40 46 2 wr c B v' X.length (pairsC X) ∧ Kp 46 (some c) B W wr) := by
        have hx := X3.out
        rw [List.drop_of_length_le (by rw [HLA.out]; omega), gathL, List.append_nil] at hx
        subst hx
        exact ⟨v3, A3.out, K3.out⟩
      clear A3 K3 X3 G3 E3 B3
      go_wp2
      go_end0
      exact ⟨rfl, HR.out⟩
theorem eachWf_any (c d B : Nat) (HE : Hid (∀ W W', (EnvN d W) → Kp 46 (some c) B W W' → (EnvN d W'))) (HS : ∀ n, SeeWf c d B n) : ∀ n, EachWf c d B n
  | 0 => fun _ _ _ _ _ _ h _ _ _ _ _ => h.elim
  | n + 1 => eachWf_step c d B n HE (Lib.hid (HS (n + 1))) (Lib.hid (eachWf_any c d B HE HS n))

theorem wf1_7 {k : Int} (h : k = 7) (nd : Nds) (nm : ByteArray) (u : Bool) (r : Int) (rs : List Int) (ar : List Ty) : wf1 nd (.mk k nm u r rs ar) = crossP (partsP (.mk k nm u r rs ar)) (ownP (.mk k nm u r rs ar)) := by
  rw [wf1, if_pos h, own_7 (by omega) (.inl h)]
  rfl
theorem wf1_0 {k : Int} (h : k ≠ 7) (nm : ByteArray) (u : Bool) (r : Int) (rs : List Int) (ar : List Ty) : wf1 (fun _ => []) (.mk k nm u r rs ar) = [] := by
  rw [wf1, if_neg h]
  split <;> simp
theorem far_below {w w' : World} {lo : Nat} {v : Value} (h : Far lo w'.heap.size v) (hb : w.heap.size ≤ w'.heap.size) : Far lo w.heap.size v := fun bk o n c e h0 => (h bk o n c e h0).imp id fun h => Nat.le_trans hb h
set_option maxHeartbeats 16000000 in
set_option maxRecDepth 100000 in
theorem seeWf_any (c d B : Nat) (_ : d ≠ c) (n : Nat) : SeeWf c d B n := by
  intro x cs W0 W v L h hb hc hA hE hbig
  cases n with
  | zero => exact h.elim
  | succ n =>
  have HH := h
  obtain ⟨k, nm, u, r, rs, ar⟩ := x
  obtain ⟨R, cr, A, ca, rfl, ⟨⟨h0, _⟩, h1⟩, h2⟩ := h
  obtain ⟨lr, hlr⟩ : ∃ n, rs.length = n := ⟨_, rfl⟩
  obtain ⟨la, hla⟩ : ∃ n, ar.length = n := ⟨_, rfl⟩
  rw [hlr, hla] at HH ⊢
  obtain ⟨o1, ho1⟩ : ∃ o, Obj.cells #[.int .i64 k, .string nm, .bool u, .int .i64 r, .slice R lr cr, .slice A la ca] 25 = o := ⟨_, rfl⟩
  have I1 : Is (W.alloc o1) W.heap.size 25 #[.int .i64 k, .string nm, .bool u, .int .i64 r, .slice R lr cr, .slice A la ca] := by rw [← ho1]; exact Is.made W _ _
  have HA0 := hA.alloc o1
  have HB0 := hb.alloc hb.size o1
  have K1 : Hid (Kp 46 (some c) B W (W.alloc o1)) := (Kp.refl _ _ _ W).alloc o1
  have hEd : Is (W.alloc o1) d 42 #[.map none] := (show Is W d 42 #[.map none] from hE).alloc o1
  obtain ⟨N, hN⟩ : ∃ N, W.heap.size = N := ⟨_, rfl⟩
  obtain ⟨W1, hW1⟩ : ∃ x, W.alloc o1 = x := ⟨_, rfl⟩
  rw [hW1] at HA0 HB0 K1 I1 hEd
  rw [hN] at I1
  have hcN : c ≠ N := by have := hA.cell.lt; omega
  obtain ⟨ao, cp, rfl, _⟩ := own_slice hA.own
  have hWW : Hid (W.alloc (.cells #[.int .i64 k, .string nm, .bool u, .int .i64 r, .slice R lr cr, .slice A la ca] 25) = W1) := by rw [← hW1, ← ho1]; exact rfl
  have HN := Lib.hid hN
  have hBd : Below W0.heap.size W0 W1.drew := ⟨HB0.os, HB0.tape, HB0.output, HB0.size, HB0.block⟩
  have BD := Lib.hid hBd
  have HHH := Lib.hid HH
  have HA1 := Lib.hid HA0
  have HI1 := Lib.hid I1
  have HAA := Lib.hid hA
  have HC := Lib.hid hc
  have n0 := I1.at_ 0
  have n1 := I1.at_ 1
  have n2 := I1.at_ 2
  have n3 := I1.at_ 3
  have n4 := I1.at_ 4
  have n5 := I1.at_ 5
  simp only [List.getElem?_toArray, List.getElem?_cons_zero, List.getElem?_cons_succ] at n0 n1 n2 n3 n4 n5
  by_cases h7 : k = 7
  · rw [wf1_7 h7] at hbig ⊢
    have c0 := HA0.cell.at_ 0
    have f0 := HA0.cell.free 0
    simp only [List.getElem?_toArray, List.getElem?_cons_zero] at c0
    obtain ⟨pl, hpl⟩ : ∃ l, partsP (.mk k nm u r rs ar) = l := ⟨_, rfl⟩
    obtain ⟨ol, hol⟩ : ∃ l, ownP (.mk k nm u r rs ar) = l := ⟨_, rfl⟩
    rw [hpl, hol] at hbig ⊢
    have hol1 : ol.length = 1 := by rw [← hol, own_7 (by omega) (.inl h7)]; rfl
    have hplb : pl.length ≤ Big := by rw [crossP_length, hol1] at hbig; omega
    have HP : Hid (∀ w', Below W0.heap.size W0 w' → Calls Tryd.prog 44 #[.agg #[.int .i64 k, .string nm, .bool u, .int .i64 r, .slice R lr cr, .slice A la ca]] w' fun e w'' => ∃ v, e = .returned v ∧ RowI w'' v pl ∧ Below w'.heap.size w' w'' ∧ Far W0.heap.size w'.heap.size v) := fun w' g => by
      have := parts_far HHH.out g (by rw [hpl]; exact hplb)
      rw [hpl] at this
      exact this
    have HO : Hid (∀ w', Below W0.heap.size W0 w' → Calls Tryd.prog 45 #[.agg #[.int .i64 k, .string nm, .bool u, .int .i64 r, .slice R lr cr, .slice A la ca]] w' fun e w'' => ∃ v, e = .returned v ∧ RowI w'' v ol ∧ Below w'.heap.size w' w'' ∧ Far W0.heap.size w'.heap.size v) := fun w' g => by
      have := own_far HHH.out g
      rw [hol] at this
      exact this
    have HX : Hid (∀ (w' : World) (va vb : Value), W1.drew.heap.size ≤ w'.heap.size → Below W1.drew.heap.size W1.drew w' → RowI w' va pl → RowI w' vb ol → Far W0.heap.size W1.drew.heap.size va → Far W0.heap.size W1.drew.heap.size vb →
        Calls Tryd.prog 43 #[.slice ao L.length cp, va, vb] w' fun e w'' => ∃ v', e = .returned v' ∧ w''.ownsRow B 46 2 v' (L ++ crossP pl ol).length (pairsC (L ++ crossP pl ol)) ∧ Kp 46 none B w' w'') := fun w' va vb hs hb' ra rb fa fb => by
      have a1 := HA1.out.drew
      have hlo : W0.heap.size ≤ B := Nat.le_trans HC.out (Nat.le_of_lt HA1.out.lt)
      exact cross_any (own_below a1.own hb') (Nat.le_trans a1.le hs) ra rb (far_apart fa a1.own hlo (Nat.le_refl _)) (far_apart fb a1.own hlo (Nat.le_refl _)) hbig
    have BR : Hid (Below W1.drew.heap.size W1.drew W1.drew) := Below.refl _ _
    clear h0 h1 h2 hlr hla HH hb hc hA hE HA0 HB0 I1 ho1 hW1 hN hBd hbig hol1 hplb hEd hpl hol
    subst h7
    go_enter Tryd.func42, Tryd.ntmps42
    go_wp2_with fail
    rw [hWW.out, HN.out]
    go_region_law
      (first
        | (go_simp; go_at_call 43; refine (HX.out _ _ _ B5.out.size B5.out RP.out RO.out FP.out FO.out).mono ?_; rintro e w6 ⟨v6, rfl, q1, q2⟩; obtain ⟨a6, cp6, rfl, _⟩ := own_slice q1; have O6 := Lib.hid q1; have K6 : Hid (Kp 46 (some c) B W w6) := (K1.out.drew.trans (.of B5.out)).trans q2.any; have C6 := Lib.hid (q2.is (HA1.out.cell.drew.below B5.out HA1.out.cell.lt) (by decide) (by simp)); have c6 := C6.out.at_ 0; have f6 := C6.out.free 0; clear q1 q2)
        | (go_simp; go_at_call 44; refine (HP.out _ (BD.out.trans (B5.out.mono BD.out.size))).mono ?_; rintro e w5 ⟨vp, rfl, r1, b1, g1⟩; have RO := Lib.hid (RO.out.below b1); have RP := Lib.hid r1; have FP := Lib.hid (far_below g1 B5.out.size); have B5 := Lib.hid (B5.out.trans (b1.mono B5.out.size)); have N5 := HI1.out.drew.below B5.out HI1.out.lt; have m0 := N5.at_ 0; have m1 := N5.at_ 1; have m2 := N5.at_ 2; have m3 := N5.at_ 3; have m4 := N5.at_ 4; have m5 := N5.at_ 5; have d0 := (HA1.out.cell.drew.below B5.out HA1.out.cell.lt).at_ 0; simp only [List.getElem?_toArray, List.getElem?_cons_zero, List.getElem?_cons_succ] at m0 m1 m2 m3 m4 m5 d0; clear r1 b1 g1 N5)
        | (go_simp; go_at_call 45; refine (HO.out _ (BD.out.trans (B5.out.mono BD.out.size))).mono ?_; rintro e w5 ⟨vp, rfl, r1, b1, g1⟩; have RP := Lib.hid (RP.out.below b1); have RO := Lib.hid r1; have FO := Lib.hid (far_below g1 B5.out.size); have B5 := Lib.hid (B5.out.trans (b1.mono B5.out.size)); have N5 := HI1.out.drew.below B5.out HI1.out.lt; have m0 := N5.at_ 0; have m1 := N5.at_ 1; have m2 := N5.at_ 2; have m3 := N5.at_ 3; have m4 := N5.at_ 4; have m5 := N5.at_ 5; have d0 := (HA1.out.cell.drew.below B5.out HA1.out.cell.lt).at_ 0; simp only [List.getElem?_toArray, List.getElem?_cons_zero, List.getElem?_cons_succ] at m0 m1 m2 m3 m4 m5 d0; clear r1 b1 g1 N5)
        | (go_simp; go_at_call 44; refine (HP.out _ BD.out).mono ?_; rintro e w5 ⟨vp, rfl, r1, b1, g1⟩; have RP := Lib.hid r1; have FP := Lib.hid g1; have B5 := Lib.hid b1; have N5 := HI1.out.drew.below b1 HI1.out.lt; have m0 := N5.at_ 0; have m1 := N5.at_ 1; have m2 := N5.at_ 2; have m3 := N5.at_ 3; have m4 := N5.at_ 4; have m5 := N5.at_ 5; have d0 := (HA1.out.cell.drew.below b1 HA1.out.cell.lt).at_ 0; simp only [List.getElem?_toArray, List.getElem?_cons_zero, List.getElem?_cons_succ] at m0 m1 m2 m3 m4 m5 d0; clear r1 b1 g1 N5)
        | (go_simp; go_at_call 45; refine (HO.out _ BD.out).mono ?_; rintro e w5 ⟨vo, rfl, r1, b1, g1⟩; have RO := Lib.hid r1; have FO := Lib.hid g1; have B5 := Lib.hid b1; have N5 := HI1.out.drew.below b1 HI1.out.lt; have m0 := N5.at_ 0; have m1 := N5.at_ 1; have m2 := N5.at_ 2; have m3 := N5.at_ 3; have m4 := N5.at_ 4; have m5 := N5.at_ 5; have d0 := (HA1.out.cell.drew.below b1 HA1.out.cell.lt).at_ 0; simp only [List.getElem?_toArray, List.getElem?_cons_zero, List.getElem?_cons_succ] at m0 m1 m2 m3 m4 m5 d0; clear r1 b1 g1 N5))
    all_goals
      have HD : Hid (∃ v', Acc 40 46 2 (w6.setCell ⟨c, 0, none⟩ (.slice a6 (L.length + (crossP pl ol).length) cp6)) c B v' (L ++ crossP pl ol).length (pairsC (L ++ crossP pl ol)) ∧ Kp 46 (some c) B W (w6.setCell ⟨c, 0, none⟩ (.slice a6 (L.length + (crossP pl ol).length) cp6))) := by
        obtain ⟨d1, d2⟩ := HAA.out.done K6.out C6.out O6.out
        rw [← List.length_append]
        exact ⟨_, d1, d2⟩
      clear O6 K6 C6
      go_wp2
      go_end0
      exact ⟨rfl, HD.out⟩
  · rw [wf1_0 h7, List.append_nil]
    have e7 : (k == 7) = false := by rw [beq_eq_false_iff_ne]; exact h7
    have HD : Hid (∃ v', Acc 40 46 2 W1 c B v' L.length (pairsC L) ∧ Kp 46 (some c) B W W1) := ⟨_, HA0, K1.out⟩
    have d0 := hEd.at_ 0
    simp only [List.getElem?_toArray, List.getElem?_cons_zero] at d0
    have hlk := look_nil_at (W.alloc (.cells #[.int .i64 k, .string nm, .bool u, .int .i64 r, .slice R lr cr, .slice A la ca] 25)) Tryd.underlying9 Tryd.underlying42 (zero_pairs _) h0
    have hdN : d ≠ N := by have := (show Is W d 42 #[.map none] from hE).lt; omega
    have yd : (W.alloc (.cells #[.int .i64 k, .string nm, .bool u, .int .i64 r, .slice R lr cr, .slice A la ca] 25)).cell? ⟨d, 0, none⟩ = some (.map none) := by rw [hWW.out]; exact d0
    clear h0 h1 h2 hlr hla HH hb hc hA hE HA0 HB0 I1 ho1 hW1 hN hBd hbig hEd
    by_cases h5 : k = 5
    · subst h5
      go_enter Tryd.func42, Tryd.ntmps42
      go_wp2
      rw [hWW.out]
      clear yd hlk
      go_loop [23] (fun i => i = .int .i64 0) (fun _ => 0)
      case atStart => rfl
      case round =>
        obtain rfl := hrel
        go_wp2
        go_end0
        obtain ⟨v', h1, h2⟩ := HD.out
        exact ⟨rfl, ⟨v', h1⟩, h2⟩
    · have e5 : (k == 5) = false := by rw [beq_eq_false_iff_ne]; exact h5
      clear yd
      go_enter Tryd.func42, Tryd.ntmps42
      go_wp2
      rw [hWW.out]
      go_end0
      exact ⟨rfl, HD.out⟩
end Ts
end Go.Proofs.YtiljpnghahkjhaaDoor

/- Layer 7: fill, where nothing is put in for parameters. -/
import Derived.Test.YtiljpnghahkjhaaDoorTypesID
import Derived.Test.YtiljpnghahkjhaaDoorTypesZB
namespace Go.Proofs.YtiljpnghahkjhaaDoor
open Go.RowKit Go.Deep Tr
namespace Ts
def LifeC (Wb : World) (l : Nat) (φ : Int → Int) : Prop := ∀ (X : World) (q : Int), Below Wb.heap.size Wb X → Calls Tryd.prog 37 #[.int .i64 q, .pointer (some ⟨l, 0, none⟩)] X fun e w' => e = .returned (.int .i64 (φ q)) ∧ w' = X
def NoArgC (Wb : World) (p a : Nat) : Prop := ∀ (X : World) (s : ByteArray), Below Wb.heap.size Wb X → s.size ≤ maxLen → Calls Tryd.prog 39 #[.string s, .pointer (some ⟨p, 0, none⟩), .pointer (some ⟨a, 0, none⟩)] X fun e w' => e = .returned (.tuple #[zeroTy, .bool false]) ∧ Below X.heap.size X w'
set_option maxHeartbeats 16000000 in
set_option maxRecDepth 100000 in
theorem fill_step {Wb : World} {l p a : Nat} {φ : Int → Int} (HL : Hid (LifeC Wb l φ)) (HA : Hid (NoArgC Wb p a)) (n m : Nat) (HC : Hid (∀ c d W0, Below Wb.heap.size Wb W0 → FillC (LVof l) (AVof p a) n m c d W0 (instP φ))) : FillE Wb l p a φ (n + 1) (m + 1) := by
  rintro ⟨k, nm, u, r, rs, ar⟩ cs X h hs hbW
  obtain ⟨R, cr, A, ca, rfl, ⟨h0, h1⟩, h2⟩ := h
  obtain ⟨hs1, hs2, hs3, hs4⟩ := hs
  obtain ⟨o1, ho1⟩ : ∃ o, Obj.cells #[.int .i64 k, .string nm, .bool u, .int .i64 r, .slice R rs.length cr, .slice A ar.length ca] 25 = o := ⟨_, rfl⟩
  obtain ⟨o2, ho2⟩ : ∃ o, Obj.cells #[LVof l] 30 = o := ⟨_, rfl⟩
  obtain ⟨o3, ho3⟩ : ∃ o, Obj.cells #[AVof p a] 53 = o := ⟨_, rfl⟩
  obtain ⟨o4, ho4⟩ : ∃ o, Obj.cells #[.int .i64 0, .string ⟨#[]⟩, .bool false, .int .i64 0, .slice none 0 0, .slice none 0 0] 25 = o := ⟨_, rfl⟩
  obtain ⟨N, hN⟩ : ∃ N, X.heap.size = N := ⟨_, rfl⟩
  have hN1 : (X.alloc o1).heap.size = N + 1 := by simp [hN]
  have hN2 : ((X.alloc o1).alloc o2).heap.size = N + 1 + 1 := by simp [hN]
  have hN3 : (((X.alloc o1).alloc o2).alloc o3).heap.size = N + 1 + 1 + 1 := by simp [hN]
  have hN4 : ((((X.alloc o1).alloc o2).alloc o3).alloc o4).heap.size = N + 1 + 1 + 1 + 1 := by simp [hN]
  have i1 : Is ((((X.alloc o1).alloc o2).alloc o3).alloc o4) N 25 #[.int .i64 k, .string nm, .bool u, .int .i64 r, .slice R rs.length cr, .slice A ar.length ca] := by rw [← ho1]; exact (((hN ▸ Is.made X _ _ : Is _ N _ _).alloc _).alloc _).alloc _
  have i2 : Is ((((X.alloc o1).alloc o2).alloc o3).alloc o4) (N + 1) 30 #[LVof l] := by rw [← ho2]; exact ((hN1 ▸ Is.made (X.alloc o1) _ _ : Is _ (N + 1) _ _).alloc _).alloc _
  have i3 : Is ((((X.alloc o1).alloc o2).alloc o3).alloc o4) (N + 1 + 1) 53 #[AVof p a] := by rw [← ho3]; exact (hN2 ▸ Is.made ((X.alloc o1).alloc o2) _ _ : Is _ (N + 1 + 1) _ _).alloc _
  have i4 : Is ((((X.alloc o1).alloc o2).alloc o3).alloc o4) (N + 1 + 1 + 1) 25 #[.int .i64 0, .string ⟨#[]⟩, .bool false, .int .i64 0, .slice none 0 0, .slice none 0 0] := by rw [← ho4]; exact hN3 ▸ Is.made (((X.alloc o1).alloc o2).alloc o3) _ _
  have BV : Below N X ((((X.alloc o1).alloc o2).alloc o3).alloc o4) := ((((hN ▸ Below.refl _ X : Below N X X).alloc (by omega) o1).alloc (by omega) o2).alloc (by omega) o3).alloc (by omega) o4
  obtain ⟨V, hV⟩ : ∃ V, (((X.alloc o1).alloc o2).alloc o3).alloc o4 = V := ⟨_, rfl⟩
  rw [hV] at i1 i2 i3 i4 BV hN4
  have HV : Hid ((((X.alloc (.cells #[.int .i64 k, .string nm, .bool u, .int .i64 r, .slice R rs.length cr, .slice A ar.length ca] 25)).alloc (.cells #[LVof l] 30)).alloc (.cells #[AVof p a] 53)).alloc (.cells #[.int .i64 0, .string ⟨#[]⟩, .bool false, .int .i64 0, .slice none 0 0, .slice none 0 0] 25) = V) := by rw [← hV, ← ho1, ← ho2, ← ho3, ← ho4]; exact rfl
  have HBX : Hid (Below Wb.heap.size Wb X) := hbW
  have HBV : Hid (Below Wb.heap.size Wb V) := hbW.trans ((hN.symm ▸ BV : Below X.heap.size X V).mono hbW.size)
  have H1 : Hid (∀ Y, Below V.heap.size V Y → RowI Y (.slice R rs.length cr) rs) := fun Y hY => ⟨R, cr, rfl, h1.below ((hN.symm ▸ BV : Below X.heap.size X V).trans (hY.mono (by rw [hN4, hN]; omega))) fun _ _ _ h => h⟩
  have hr8 : rs.length * 8 ≤ 140737488355328 := by omega
  have HR8 := Lib.hid hr8
  obtain ⟨re, hre⟩ : ∃ x, (if k = 9 then r else regM φ k r) = x := ⟨_, rfl⟩
  obtain ⟨rl, hrl⟩ : ∃ x, rowM φ k rs = x := ⟨_, rfl⟩
  have I1 := Lib.hid i1
  have I2 := Lib.hid i2
  have I3 := Lib.hid i3
  have I4 := Lib.hid i4
  have HB3 := Lib.hid BV
  have HN := Lib.hid hN
  have HN4 := Lib.hid hN4
  have H2 := Lib.hid h2
  have HS4 := Lib.hid hs4
  have HS3 := Lib.hid hs3
  have H0 := Lib.hid h0.1
  have HRE := Lib.hid hre
  have HRL := Lib.hid hrl
  obtain ⟨lr, hlr⟩ : ∃ n, rs.length = n := ⟨_, rfl⟩
  obtain ⟨la, hla⟩ : ∃ n, ar.length = n := ⟨_, rfl⟩
  have HLR := Lib.hid hlr
  have HLA := Lib.hid hla
  have HMI : Hid (k ≠ 9 → Calls Tryd.prog 30 #[.agg #[.int .i64 k, .string nm, .bool u, .int .i64 r, .slice R lr cr, .slice A la ca], LVof l] V fun e W' => ∃ v, e = .returned (.agg #[.int .i64 k, .string nm, .bool u, .int .i64 re, v, .slice A la ca]) ∧ W'.ownsRow (V.heap.size + 1 + 1) 3 1 v lr (intsC rl) ∧ Below V.heap.size V W') := by
    intro h9
    have := mapOwnI (W := V) φ l (Lib.hid fun Y q hY => HL.out Y q (HBV.out.trans (hY.mono HBV.out.size))) k nm u r rs R cr A la ca (H1.out V (.refl _ _)) hr8
    rw [if_neg h9] at hre
    rw [hre, hrl, hlr] at this
    exact this
  have HMJ : Hid (k = 9 → ∀ V1, Below V.heap.size V V1 → Calls Tryd.prog 30 #[.agg #[.int .i64 k, .string nm, .bool u, .int .i64 r, .slice R lr cr, .slice A la ca], .func (.func 29) #[] #[]] V1 fun e W' => ∃ v, e = .returned (.agg #[.int .i64 k, .string nm, .bool u, .int .i64 re, v, .slice A la ca]) ∧ W'.ownsRow (V1.heap.size + 1 + 1) 3 1 v lr (intsC rl) ∧ Below V1.heap.size V1 W') := by
    intro h9 V1 hV1
    have := mapOwnJ (W := V1) (fun q => q) (Lib.hid fun Y q _ => fill1 q Y) k nm u r rs R cr A la ca (H1.out V1 hV1) hr8
    rw [if_pos h9] at hre
    have e1 : regM (fun q => q) k r = re := by rw [← hre]; unfold regM; split <;> rfl
    have e2 : rowM (fun q => q) k rs = rl := by rw [← hrl]; unfold rowM; rw [if_neg (by omega), if_neg (by omega)]
    rw [e1, e2, hlr] at this
    exact this
  rw [hlr, hla] at HV I1
  rw [hlr, hla, hN]
  clear h0 h1 h2 hs1 hs2 hs3 hs4 ho1 ho2 ho3 ho4 hN hN1 hN2 hN3 hN4 i1 i2 i3 i4 BV hV hre hrl hlr hla hbW hr8 H1 HR8
  unfold LVof AVof at HV ⊢
  unfold LVof at HMI
  go_enter Tryd.func38, Tryd.ntmps38
  by_cases h9 : k = 9
  · have HNINE := Lib.hid (HMJ.out h9)
    subst h9
    clear HMI HMJ
    have z0 := I1.out.at_ 0
    have z1 := I1.out.at_ 1
    simp at z0 z1
    go_wp2_with fail
    clear z0 z1
    rw [HV.out, HN.out]
    refine (HA.out V nm HBV.out H0.out).mono ?_
    rintro e V1 ⟨rfl, b1⟩
    have b2 : Below V.heap.size V (V1.alloc (.cells #[.int .i64 0, .string ⟨#[]⟩, .bool false, .int .i64 0, .slice none 0 0, .slice none 0 0] 25)) := b1.alloc b1.size _
    have n0 := (I1.out.below b2 I1.out.lt).at_ 0
    have n1 := (I1.out.below b2 I1.out.lt).at_ 1
    have n2 := (I1.out.below b2 I1.out.lt).at_ 2
    have n3 := (I1.out.below b2 I1.out.lt).at_ 3
    have n4 := (I1.out.below b2 I1.out.lt).at_ 4
    have n5 := (I1.out.below b2 I1.out.lt).at_ 5
    simp at n0 n1 n2 n3 n4 n5
    obtain ⟨V2, hV2⟩ : ∃ Y, V1.alloc (.cells #[.int .i64 0, .string ⟨#[]⟩, .bool false, .int .i64 0, .slice none 0 0, .slice none 0 0] 25) = Y := ⟨_, rfl⟩
    have HV2 := Lib.hid hV2
    have b3 : Below V.heap.size V V2 := hV2 ▸ b2
    have HMO := Lib.hid (HNINE.out V2 b3)
    have hb1 := b3.size
    have HSV : Hid (N + 1 + 1 + 1 + 1 ≤ V2.heap.size) := by show _ ≤ _; rw [← HN4.out]; exact hb1
    have I1b := Lib.hid (I1.out.below b3 I1.out.lt)
    have I2b := Lib.hid (I2.out.below b3 I2.out.lt)
    have I3b := Lib.hid (I3.out.below b3 I3.out.lt)
    have I4b := Lib.hid (I4.out.below b3 I4.out.lt)
    have HB3b := Lib.hid (HB3.out.trans (b3.mono (by rw [HN4.out]; omega)))
    clear I1 I2 I3 I4 HB3 b1 b2 b3 hb1 HNINE HBV hV2
    have I1 := I1b
    have I2 := I2b
    have I3 := I3b
    have I4 := I4b
    have HB3 := HB3b
    clear I1b I2b I3b I4b HB3b
    unfold zeroTy
    go_wp2_with fail
    rw [HV2.out]
    clear n0 n1 n2 n3 n4 n5 HV2
    refine HMO.out.mono ?_
    rintro e W2 ⟨v, rfl, q1, q2⟩
    obtain ⟨ao, cp, rfl, _⟩ := own_slice q1
    have J1 := Lib.hid (I1.out.below q2 I1.out.lt)
    have J2 := Lib.hid (I2.out.below q2 I2.out.lt)
    have J3 := Lib.hid (I3.out.below q2 I3.out.lt)
    have J4 := Lib.hid (I4.out.below q2 I4.out.lt)
    have B2 := Lib.hid (HB3.out.trans (q2.mono (by have := HSV.out; omega)))
    have O2 := Lib.hid q1
    have HSZ : Hid (V2.heap.size ≤ W2.heap.size) := q2.size
    have n0 := J1.out.at_ 0
    have n1 := J1.out.at_ 1
    have n2 := J1.out.at_ 2
    have n3 := J1.out.at_ 3
    have n4 := J1.out.at_ 4
    have n5 := J1.out.at_ 5
    have f0 : ∀ i, W2.frozen? ⟨N, i, none⟩ = false := fun i => J1.out.free i
    simp at n0 n1 n2 n3 n4 n5
    clear q1 q2
    obtain ⟨W3, hW3⟩ : ∃ Y, ((((((W2.setCell ⟨N, 0, none⟩ (.int .i64 9)).setCell ⟨N, 1, none⟩ (.string nm)).setCell ⟨N, 2, none⟩ (.bool u)).setCell ⟨N, 3, none⟩ (.int .i64 re)).setCell ⟨N, 4, none⟩ (.slice ao lr cp)).setCell ⟨N, 5, none⟩ (.slice A la ca)) = Y := ⟨_, rfl⟩
    have hfar : ∀ b, b ≠ N → W3.heap[b]? = W2.heap[b]? := by
      intro b hne
      rw [← hW3, Below.heap_setCell _ _ _ _ hne, Below.heap_setCell _ _ _ _ hne, Below.heap_setCell _ _ _ _ hne, Below.heap_setCell _ _ _ _ hne, Below.heap_setCell _ _ _ _ hne, Below.heap_setCell _ _ _ _ hne]
    have hsz3 : W3.heap.size = W2.heap.size := by rw [← hW3]; simp [World.setCell]
    have k1 : Is W3 N 25 #[.int .i64 9, .string nm, .bool u, .int .i64 re, .slice ao lr cp, .slice A la ca] := by
      have := ((((((J1.out.put 0 (.int .i64 9)).put 1 (.string nm)).put 2 (.bool u)).put 3 (.int .i64 re)).put 4 (.slice ao lr cp)).put 5 (.slice A la ca))
      rw [hW3] at this
      simpa using this
    have k2 : Is W3 (N + 1) 30 #[LVof l] := J2.out.of (hfar _ (by omega))
    have k3 : Is W3 (N + 1 + 1) 53 #[AVof p a] := J3.out.of (hfar _ (by omega))
    have k4 : Is W3 (N + 1 + 1 + 1) 25 #[.int .i64 0, .string ⟨#[]⟩, .bool false, .int .i64 0, .slice none 0 0, .slice none 0 0] := J4.out.of (hfar _ (by omega))
    have b3 : Below N X W3 := by
      rw [← hW3]
      exact (((((B2.out.setCell (Nat.le_refl _) _).setCell (Nat.le_refl _) _).setCell (Nat.le_refl _) _).setCell (Nat.le_refl _) _).setCell (Nat.le_refl _) _).setCell (Nat.le_refl _) _
    have o3 : W3.ownsRow (V2.heap.size + 1 + 1) 3 1 (.slice ao lr cp) lr (intsC rl) := by
      have hl : N < V2.heap.size + 1 + 1 := by have := HSV.out; omega
      rw [← hW3]
      exact own_set (own_set (own_set (own_set (own_set (own_set O2.out hl _) hl _) hl _) hl _) hl _) hl _
    have hPP := partsF (LV := LVof l) (AV := AVof p a) (W0 := X) (W := W3) (c := N + 1) (d := N + 1 + 1) (φ := instP φ) 9 nm u re ao lr cp A ca ar H2.out (HN.out.symm ▸ b3) ⟨k2, k3⟩ HS4.out HS3.out (Lib.hid (HC.out (N + 1) (N + 1 + 1) X HBX.out))
    rw [HLA.out] at hPP
    have HPP := Lib.hid hPP
    have HW3 := Lib.hid hW3
    have K1 := Lib.hid k1
    have K4 := Lib.hid k4
    have B3 := Lib.hid b3
    have O3 := Lib.hid o3
    have HS3' : Hid (N + 1 + 1 + 1 + 1 ≤ W3.heap.size) := by show _ ≤ _; rw [hsz3]; exact Nat.le_trans HSV.out HSZ.out
    clear hfar hsz3 k1 k2 k3 k4 b3 o3 hPP hW3
    go_wp2_with fail
    rw [HW3.out]
    refine HPP.out.mono ?_
    rintro e W4 ⟨Q, cq, rfl, lq, b4⟩
    have L1 := Lib.hid (K1.out.below b4 (Is.lt K1.out))
    have L4 := Lib.hid (K4.out.below b4 (Is.lt K4.out))
    have B4 := Lib.hid (B3.out.trans (b4.mono (by have := HS3'.out; omega)))
    have O4 := Lib.hid (own_below O3.out b4)
    have LQ := Lib.hid lq
    have HS4' : Hid (W3.heap.size ≤ W4.heap.size) := b4.size
    clear lq b4 n0 n1 n2 n3 n4 n5 f0
    have n0 := L1.out.at_ 0
    have n1 := L1.out.at_ 1
    have n2 := L1.out.at_ 2
    have n3 := L1.out.at_ 3
    have n4 := L1.out.at_ 4
    have n5 := L1.out.at_ 5
    have p0 := L4.out.at_ 0
    have p1 := L4.out.at_ 1
    have p2 := L4.out.at_ 2
    have p3 := L4.out.at_ 3
    have p4 := L4.out.at_ 4
    have p5 := L4.out.at_ 5
    have f0 : ∀ i, W4.frozen? ⟨N, i, none⟩ = false := fun i => L1.out.free i
    have g0 : ∀ i, W4.frozen? ⟨N + 1 + 1 + 1, i, none⟩ = false := fun i => L4.out.free i
    simp at n0 n1 n2 n3 n4 n5 p0 p1 p2 p3 p4 p5
    go_wp2
    refine bodyPost_ret (v := .agg #[.int .i64 9, .string nm, .bool u, .int .i64 re, .slice ao lr cp, .slice Q la cq]) (by simp [results, Tryd.results38, go_sem, p0, p1, p2, p3, p4, p5]) rfl ⟨[.int .i64 9, .string nm, .bool u, .int .i64 re, .slice ao lr cp, .slice Q la cq], rfl, ?_, ?_⟩
    · obtain ⟨W6, hW6⟩ : ∃ Y, (((((((W4.setCell ⟨N, 5, none⟩ (.slice Q la cq)).setCell ⟨N + 1 + 1 + 1, 0, none⟩ (.int .i64 9)).setCell ⟨N + 1 + 1 + 1, 1, none⟩ (.string nm)).setCell ⟨N + 1 + 1 + 1, 2, none⟩ (.bool u)).setCell ⟨N + 1 + 1 + 1, 3, none⟩ (.int .i64 re)).setCell ⟨N + 1 + 1 + 1, 4, none⟩ (.slice ao lr cp)).setCell ⟨N + 1 + 1 + 1, 5, none⟩ (.slice Q la cq)) = Y := ⟨_, rfl⟩
      have hsz : W6.heap.size = W4.heap.size := by rw [← hW6]; simp [World.setCell]
      have hfar : ∀ b, b ≠ N → b ≠ N + 1 + 1 + 1 → W6.heap[b]? = W4.heap[b]? := by
        intro b hne hn2
        rw [← hW6, Below.heap_setCell _ _ _ _ hn2, Below.heap_setCell _ _ _ _ hn2, Below.heap_setCell _ _ _ _ hn2, Below.heap_setCell _ _ _ _ hn2, Below.heap_setCell _ _ _ _ hn2, Below.heap_setCell _ _ _ _ hn2, Below.heap_setCell _ _ _ _ hne]
      have o6 : W6.ownsRow (V2.heap.size + 1 + 1) 3 1 (.slice ao lr cp) lr (intsC rl) := by
        have hl : N < V2.heap.size + 1 + 1 := by have := HSV.out; omega
        have hl2 : N + 1 + 1 + 1 < V2.heap.size + 1 + 1 := by have := HSV.out; omega
        rw [← hW6]
        exact own_set (own_set (own_set (own_set (own_set (own_set (own_set O4.out hl _) hl2 _) hl2 _) hl2 _) hl2 _) hl2 _) hl2 _
      rw [hW6]
      have hcp : lr ≤ cp ∧ lr ≤ maxLen := by
        rcases o6.2 with ⟨e, h0⟩ | ⟨g, cap, cur, e, _, _, h2, h3, _⟩
        · rw [h0]; exact ⟨Nat.zero_le _, Nat.zero_le _⟩
        · injection e with _ _ e
          subst e
          exact ⟨h2, by omega⟩
      have hrl : rl.length = lr := by rw [← HRL.out, rowM_len, HLR.out]
      have hel : (instL φ ar).length = la := by rw [instL_map, List.length_map, HLA.out]
      obtain ⟨A', c', e', hL⟩ := rowI_mk (c := cp) (l := rl) (row_only o6 (show N ≤ V2.heap.size + 1 + 1 by have := HSV.out; omega)) (by rw [hrl]; exact hcp.2)
      injection e' with e1 _ _
      subst e1
      rw [instP, if_pos rfl, show r = re by simpa using HRE.out, HRL.out]
      refine ⟨ao, cp, Q, cq, by rw [hrl, hel], ⟨⟨H0.out, by rw [hrl]; exact hcp.1⟩, hL⟩, ?_⟩
      rw [instL_map]
      have hs4 := HS4'.out
      have hs3 := HS3'.out
      have hc := only_sub (w := W4) (w' := W6) (Q := qN W3.heap.size) (Q' := qN N) (fun b _ hq => by simp only [qN, decide_eq_true_eq] at hq ⊢; omega) (Nat.le_of_eq hsz.symm) (fun b _ hq => by simp only [qN, decide_eq_true_eq] at hq; exact hfar b (by omega) (by omega))
      have hz : (only (qN W3.heap.size) W4).heap.size ≤ (only (qN N) W6).heap.size := by rw [only_size, only_size, hsz]; exact Nat.le_refl _
      exact LQ.out.cells hz hc fun x _ cs h => TyAt.cells hz hc n x cs h
    · exact ((((((B4.out.setCell (Nat.le_refl _) _).setCell (show N ≤ N + 1 + 1 + 1 by omega) _).setCell (show N ≤ N + 1 + 1 + 1 by omega) _).setCell (show N ≤ N + 1 + 1 + 1 by omega) _).setCell (show N ≤ N + 1 + 1 + 1 by omega) _).setCell (show N ≤ N + 1 + 1 + 1 by omega) _).setCell (show N ≤ N + 1 + 1 + 1 by omega) _
  · have e9 : (k == 9) = false := ne_of' h9
    have HMO := Lib.hid (HMI.out h9)
    clear HMI HMJ HA
    go_wp2_with fail
    rw [HV.out, HN.out]
    have HSV : Hid (N + 1 + 1 + 1 + 1 ≤ V.heap.size) := by show _ ≤ _; rw [HN4.out]; exact Nat.le_refl _
    refine HMO.out.mono ?_
    rintro e W2 ⟨v, rfl, q1, q2⟩
    obtain ⟨ao, cp, rfl, _⟩ := own_slice q1
    have J1 := Lib.hid (I1.out.below q2 I1.out.lt)
    have J2 := Lib.hid (I2.out.below q2 I2.out.lt)
    have J3 := Lib.hid (I3.out.below q2 I3.out.lt)
    have J4 := Lib.hid (I4.out.below q2 I4.out.lt)
    have B2 := Lib.hid (HB3.out.trans (q2.mono (by have := HSV.out; omega)))
    have O2 := Lib.hid q1
    have HSZ : Hid (V.heap.size ≤ W2.heap.size) := q2.size
    have n0 := J1.out.at_ 0
    have n1 := J1.out.at_ 1
    have n2 := J1.out.at_ 2
    have n3 := J1.out.at_ 3
    have n4 := J1.out.at_ 4
    have n5 := J1.out.at_ 5
    have f0 : ∀ i, W2.frozen? ⟨N, i, none⟩ = false := fun i => J1.out.free i
    simp at n0 n1 n2 n3 n4 n5
    clear q1 q2
    obtain ⟨W3, hW3⟩ : ∃ Y, ((((((W2.setCell ⟨N, 0, none⟩ (.int .i64 k)).setCell ⟨N, 1, none⟩ (.string nm)).setCell ⟨N, 2, none⟩ (.bool u)).setCell ⟨N, 3, none⟩ (.int .i64 re)).setCell ⟨N, 4, none⟩ (.slice ao lr cp)).setCell ⟨N, 5, none⟩ (.slice A la ca)) = Y := ⟨_, rfl⟩
    have hfar : ∀ b, b ≠ N → W3.heap[b]? = W2.heap[b]? := by
      intro b hne
      rw [← hW3, Below.heap_setCell _ _ _ _ hne, Below.heap_setCell _ _ _ _ hne, Below.heap_setCell _ _ _ _ hne, Below.heap_setCell _ _ _ _ hne, Below.heap_setCell _ _ _ _ hne, Below.heap_setCell _ _ _ _ hne]
    have hsz3 : W3.heap.size = W2.heap.size := by rw [← hW3]; simp [World.setCell]
    have k1 : Is W3 N 25 #[.int .i64 k, .string nm, .bool u, .int .i64 re, .slice ao lr cp, .slice A la ca] := by
      have := ((((((J1.out.put 0 (.int .i64 k)).put 1 (.string nm)).put 2 (.bool u)).put 3 (.int .i64 re)).put 4 (.slice ao lr cp)).put 5 (.slice A la ca))
      rw [hW3] at this
      simpa using this
    have k2 : Is W3 (N + 1) 30 #[LVof l] := J2.out.of (hfar _ (by omega))
    have k3 : Is W3 (N + 1 + 1) 53 #[AVof p a] := J3.out.of (hfar _ (by omega))
    have k4 : Is W3 (N + 1 + 1 + 1) 25 #[.int .i64 0, .string ⟨#[]⟩, .bool false, .int .i64 0, .slice none 0 0, .slice none 0 0] := J4.out.of (hfar _ (by omega))
    have b3 : Below N X W3 := by
      rw [← hW3]
      exact (((((B2.out.setCell (Nat.le_refl _) _).setCell (Nat.le_refl _) _).setCell (Nat.le_refl _) _).setCell (Nat.le_refl _) _).setCell (Nat.le_refl _) _).setCell (Nat.le_refl _) _
    have o3 : W3.ownsRow (V.heap.size + 1 + 1) 3 1 (.slice ao lr cp) lr (intsC rl) := by
      have hl : N < V.heap.size + 1 + 1 := by have := HSV.out; omega
      rw [← hW3]
      exact own_set (own_set (own_set (own_set (own_set (own_set O2.out hl _) hl _) hl _) hl _) hl _) hl _
    have hPP := partsF (LV := LVof l) (AV := AVof p a) (W0 := X) (W := W3) (c := N + 1) (d := N + 1 + 1) (φ := instP φ) k nm u re ao lr cp A ca ar H2.out (HN.out.symm ▸ b3) ⟨k2, k3⟩ HS4.out HS3.out (Lib.hid (HC.out (N + 1) (N + 1 + 1) X HBX.out))
    rw [HLA.out] at hPP
    have HPP := Lib.hid hPP
    have HW3 := Lib.hid hW3
    have K1 := Lib.hid k1
    have K4 := Lib.hid k4
    have B3 := Lib.hid b3
    have O3 := Lib.hid o3
    have HS3' : Hid (N + 1 + 1 + 1 + 1 ≤ W3.heap.size) := by show _ ≤ _; rw [hsz3]; exact Nat.le_trans HSV.out HSZ.out
    clear hfar hsz3 k1 k2 k3 k4 b3 o3 hPP hW3
    go_wp2_with fail
    rw [HW3.out]
    refine HPP.out.mono ?_
    rintro e W4 ⟨Q, cq, rfl, lq, b4⟩
    have L1 := Lib.hid (K1.out.below b4 (Is.lt K1.out))
    have L4 := Lib.hid (K4.out.below b4 (Is.lt K4.out))
    have B4 := Lib.hid (B3.out.trans (b4.mono (by have := HS3'.out; omega)))
    have O4 := Lib.hid (own_below O3.out b4)
    have LQ := Lib.hid lq
    have HS4' : Hid (W3.heap.size ≤ W4.heap.size) := b4.size
    clear lq b4 n0 n1 n2 n3 n4 n5 f0
    have n0 := L1.out.at_ 0
    have n1 := L1.out.at_ 1
    have n2 := L1.out.at_ 2
    have n3 := L1.out.at_ 3
    have n4 := L1.out.at_ 4
    have n5 := L1.out.at_ 5
    have p0 := L4.out.at_ 0
    have p1 := L4.out.at_ 1
    have p2 := L4.out.at_ 2
    have p3 := L4.out.at_ 3
    have p4 := L4.out.at_ 4
    have p5 := L4.out.at_ 5
    have f0 : ∀ i, W4.frozen? ⟨N, i, none⟩ = false := fun i => L1.out.free i
    have g0 : ∀ i, W4.frozen? ⟨N + 1 + 1 + 1, i, none⟩ = false := fun i => L4.out.free i
    simp at n0 n1 n2 n3 n4 n5 p0 p1 p2 p3 p4 p5
    go_wp2
    refine bodyPost_ret (v := .agg #[.int .i64 k, .string nm, .bool u, .int .i64 re, .slice ao lr cp, .slice Q la cq]) (by simp [results, Tryd.results38, go_sem, p0, p1, p2, p3, p4, p5]) rfl ⟨[.int .i64 k, .string nm, .bool u, .int .i64 re, .slice ao lr cp, .slice Q la cq], rfl, ?_, ?_⟩
    · obtain ⟨W6, hW6⟩ : ∃ Y, (((((((W4.setCell ⟨N, 5, none⟩ (.slice Q la cq)).setCell ⟨N + 1 + 1 + 1, 0, none⟩ (.int .i64 k)).setCell ⟨N + 1 + 1 + 1, 1, none⟩ (.string nm)).setCell ⟨N + 1 + 1 + 1, 2, none⟩ (.bool u)).setCell ⟨N + 1 + 1 + 1, 3, none⟩ (.int .i64 re)).setCell ⟨N + 1 + 1 + 1, 4, none⟩ (.slice ao lr cp)).setCell ⟨N + 1 + 1 + 1, 5, none⟩ (.slice Q la cq)) = Y := ⟨_, rfl⟩
      have hsz : W6.heap.size = W4.heap.size := by rw [← hW6]; simp [World.setCell]
      have hfar : ∀ b, b ≠ N → b ≠ N + 1 + 1 + 1 → W6.heap[b]? = W4.heap[b]? := by
        intro b hne hn2
        rw [← hW6, Below.heap_setCell _ _ _ _ hn2, Below.heap_setCell _ _ _ _ hn2, Below.heap_setCell _ _ _ _ hn2, Below.heap_setCell _ _ _ _ hn2, Below.heap_setCell _ _ _ _ hn2, Below.heap_setCell _ _ _ _ hn2, Below.heap_setCell _ _ _ _ hne]
      have o6 : W6.ownsRow (V.heap.size + 1 + 1) 3 1 (.slice ao lr cp) lr (intsC rl) := by
        have hl : N < V.heap.size + 1 + 1 := by have := HSV.out; omega
        have hl2 : N + 1 + 1 + 1 < V.heap.size + 1 + 1 := by have := HSV.out; omega
        rw [← hW6]
        exact own_set (own_set (own_set (own_set (own_set (own_set (own_set O4.out hl _) hl2 _) hl2 _) hl2 _) hl2 _) hl2 _) hl2 _
      rw [hW6]
      have hcp : lr ≤ cp ∧ lr ≤ maxLen := by
        rcases o6.2 with ⟨e, h0⟩ | ⟨g, cap, cur, e, _, _, h2, h3, _⟩
        · rw [h0]; exact ⟨Nat.zero_le _, Nat.zero_le _⟩
        · injection e with _ _ e
          subst e
          exact ⟨h2, by omega⟩
      have hrl : rl.length = lr := by rw [← HRL.out, rowM_len, HLR.out]
      have hel : (instL φ ar).length = la := by rw [instL_map, List.length_map, HLA.out]
      obtain ⟨A', c', e', hL⟩ := rowI_mk (c := cp) (l := rl) (row_only o6 (show N ≤ V.heap.size + 1 + 1 by have := HSV.out; omega)) (by rw [hrl]; exact hcp.2)
      injection e' with e1 _ _
      subst e1
      rw [instP, HRE.out, HRL.out]
      refine ⟨ao, cp, Q, cq, by rw [hrl, hel], ⟨⟨H0.out, by rw [hrl]; exact hcp.1⟩, hL⟩, ?_⟩
      rw [instL_map]
      have hs4 := HS4'.out
      have hs3 := HS3'.out
      have hc := only_sub (w := W4) (w' := W6) (Q := qN W3.heap.size) (Q' := qN N) (fun b _ hq => by simp only [qN, decide_eq_true_eq] at hq ⊢; omega) (Nat.le_of_eq hsz.symm) (fun b _ hq => by simp only [qN, decide_eq_true_eq] at hq; exact hfar b (by omega) (by omega))
      have hz : (only (qN W3.heap.size) W4).heap.size ≤ (only (qN N) W6).heap.size := by rw [only_size, only_size, hsz]; exact Nat.le_refl _
      exact LQ.out.cells hz hc fun x _ cs h => TyAt.cells hz hc n x cs h
    · exact ((((((B4.out.setCell (Nat.le_refl _) _).setCell (show N ≤ N + 1 + 1 + 1 by omega) _).setCell (show N ≤ N + 1 + 1 + 1 by omega) _).setCell (show N ≤ N + 1 + 1 + 1 by omega) _).setCell (show N ≤ N + 1 + 1 + 1 by omega) _).setCell (show N ≤ N + 1 + 1 + 1 by omega) _).setCell (show N ≤ N + 1 + 1 + 1 by omega) _
theorem fill_any {Wb : World} {l p a : Nat} {φ : Int → Int} (HL : Hid (LifeC Wb l φ)) (HA : Hid (NoArgC Wb p a)) : ∀ n m, FillE Wb l p a φ n m
  | 0, _ => fun _ _ _ h _ _ => h.elim
  | _ + 1, 0 => fun _ _ _ _ h _ => h.elim
  | n + 1, m + 1 => fill_step HL HA n m (Lib.hid fun c d W0 hb => fillC_of n m (Lib.hid (fill_any HL HA n m)) c d W0 hb)
end Ts
end Go.Proofs.YtiljpnghahkjhaaDoor

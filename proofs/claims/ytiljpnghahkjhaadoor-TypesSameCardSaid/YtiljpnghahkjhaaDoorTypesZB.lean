/- Layer 7: Map with the closure that gives 0, Erase. -/
import Derived.Test.YtiljpnghahkjhaaDoorTypesZA
namespace Go.Proofs.YtiljpnghahkjhaaDoor
open Go.RowKit Go.Deep Tr
namespace Ts
theorem row_only {w : World} {B N n c sz : Nat} {te : TypeId} {A : Option Addr} {xs : List Value} (h : w.ownsRow B te sz (.slice A n c) n xs) (hN : N ≤ B) : RowAt (only (qN N) w) A xs := fun h0 => by
  obtain ⟨bk, o, e, hl, hcc⟩ := own_row h h0
  have hbk : N ≤ bk := Nat.le_trans hN (h.lt bk (by rw [e]; rfl)).1
  refine ⟨bk, o, e, by rw [only_size]; exact hl, fun i v hv => ?_⟩
  rw [cell_block (w := w) (only_in (by simp [qN, hbk]))]
  exact hcc i v hv
set_option maxHeartbeats 8000000 in
set_option maxRecDepth 100000 in
theorem mapE_step (n m : Nat) (HC : Hid (∀ c W0, W0.heap.size ≤ c → MapC n m c W0 eraseP)) : MapE (n + 1) (m + 1) := by
  rintro ⟨k, nm, u, r, rs, ar⟩ cs X h hs
  obtain ⟨R, cr, A, ca, rfl, ⟨h0, h1⟩, h2⟩ := h
  obtain ⟨hs1, hs2, hs3, hs4⟩ := hs
  obtain ⟨o1, ho1⟩ : ∃ o, Obj.cells #[.int .i64 k, .string nm, .bool u, .int .i64 r, .slice R rs.length cr, .slice A ar.length ca] 25 = o := ⟨_, rfl⟩
  obtain ⟨o2, ho2⟩ : ∃ o, Obj.cells #[.func (.func 34) #[] #[]] 30 = o := ⟨_, rfl⟩
  obtain ⟨o3, ho3⟩ : ∃ o, Obj.cells #[.int .i64 0, .string ⟨#[]⟩, .bool false, .int .i64 0, .slice none 0 0, .slice none 0 0] 25 = o := ⟨_, rfl⟩
  obtain ⟨N, hN⟩ : ∃ N, X.heap.size = N := ⟨_, rfl⟩
  have hN1 : (X.alloc o1).heap.size = N + 1 := by simp [hN]
  have hN2 : ((X.alloc o1).alloc o2).heap.size = N + 1 + 1 := by simp [hN]
  have hN3 : (((X.alloc o1).alloc o2).alloc o3).heap.size = N + 1 + 1 + 1 := by simp [hN]
  have i1 : Is (((X.alloc o1).alloc o2).alloc o3) N 25 #[.int .i64 k, .string nm, .bool u, .int .i64 r, .slice R rs.length cr, .slice A ar.length ca] := by rw [← ho1]; exact ((hN ▸ Is.made X _ _ : Is _ N _ _).alloc _).alloc _
  have i2 : Is (((X.alloc o1).alloc o2).alloc o3) (N + 1) 30 #[.func (.func 34) #[] #[]] := by rw [← ho2]; exact (hN1 ▸ Is.made (X.alloc o1) _ _ : Is _ (N + 1) _ _).alloc _
  have i3 : Is (((X.alloc o1).alloc o2).alloc o3) (N + 1 + 1) 25 #[.int .i64 0, .string ⟨#[]⟩, .bool false, .int .i64 0, .slice none 0 0, .slice none 0 0] := by rw [← ho3]; exact hN2 ▸ Is.made ((X.alloc o1).alloc o2) _ _
  have B3 : Below N X (((X.alloc o1).alloc o2).alloc o3) := (((hN ▸ Below.refl _ X : Below N X X).alloc (by omega) o1).alloc (by omega) o2).alloc (by omega) o3
  obtain ⟨V, hV⟩ : ∃ V, ((X.alloc o1).alloc o2).alloc o3 = V := ⟨_, rfl⟩
  rw [hV] at i1 i2 i3 B3 hN3
  have HV : Hid (((X.alloc (.cells #[.int .i64 k, .string nm, .bool u, .int .i64 r, .slice R rs.length cr, .slice A ar.length ca] 25)).alloc (.cells #[.func (.func 34) #[] #[]] 30)).alloc (.cells #[.int .i64 0, .string ⟨#[]⟩, .bool false, .int .i64 0, .slice none 0 0, .slice none 0 0] 25) = V) := by rw [← hV, ← ho1, ← ho2, ← ho3]; exact rfl
  have hMO := mapOwn0 (W := V) k nm u r rs R cr A ar.length ca ⟨R, cr, rfl, h1.below (hN.symm ▸ B3) fun _ _ _ h => h⟩ (by omega)
  rw [hN3] at hMO
  obtain ⟨re, hre⟩ : ∃ x, regE k r = x := ⟨_, rfl⟩
  rw [hre] at hMO
  have HMO := Lib.hid hMO
  have I1 := Lib.hid i1
  have I2 := Lib.hid i2
  have I3 := Lib.hid i3
  have HB3 := Lib.hid B3
  have HN := Lib.hid hN
  have HN3 := Lib.hid hN3
  have H2 := Lib.hid h2
  have HS4 := Lib.hid hs4
  have HS3 := Lib.hid hs3
  have H0 := Lib.hid h0.1
  have HRE := Lib.hid hre
  obtain ⟨lr, hlr⟩ : ∃ n, rs.length = n := ⟨_, rfl⟩
  obtain ⟨la, hla⟩ : ∃ n, ar.length = n := ⟨_, rfl⟩
  have HLR := Lib.hid hlr
  have HLA := Lib.hid hla
  rw [hlr, hla] at HV HMO I1
  rw [hlr, hla, hN]
  clear h0 h1 h2 hs1 hs2 hs3 hs4 ho1 ho2 ho3 hN hN1 hN2 hN3 i1 i2 i3 B3 hV hMO hre hlr hla
  go_enter Tryd.func11, Tryd.ntmps11
  go_wp2_with fail
  rw [HV.out, HN.out]
  refine HMO.out.mono ?_
  rintro e W2 ⟨v, rfl, q1, q2⟩
  obtain ⟨ao, cp, rfl, _⟩ := own_slice q1
  have J1 := Lib.hid (I1.out.below q2 (by omega))
  have J2 := Lib.hid (I2.out.below q2 (by omega))
  have J3 := Lib.hid (I3.out.below q2 (by omega))
  have B2 := Lib.hid (HB3.out.trans (q2.mono (by omega)))
  have O2 := Lib.hid q1
  have HSZ : Hid (N + 1 + 1 + 1 ≤ W2.heap.size) := by show _ ≤ _; have := q2.size; rw [HN3.out] at this; exact this
  have n0 := J1.out.at_ 0
  have n1 := J1.out.at_ 1
  have n2 := J1.out.at_ 2
  have n3 := J1.out.at_ 3
  have n4 := J1.out.at_ 4
  have n5 := J1.out.at_ 5
  have f0 : ∀ i, W2.frozen? ⟨N, i, none⟩ = false := fun i => J1.out.free i
  simp at n0 n1 n2 n3 n4 n5
  clear q1 q2
  obtain ⟨W3, hW3⟩ : ∃ Y, ((((((W2.setCell ⟨N, 0, none⟩ (.int .i64 k)).setCell ⟨N, 1, none⟩ (.string nm)).setCell ⟨N, 2, none⟩ (.bool u)).setCell ⟨N, 3, none⟩ (.int .i64 re)).setCell ⟨N, 4, none⟩ (.slice ao lr cp)).setCell ⟨N, 5, none⟩ (.slice A la ca)) = Y := ⟨_, rfl⟩
  have hfar : ∀ b, b ≠ N → W3.heap[b]? = W2.heap[b]? := by
    intro b hne
    rw [← hW3, Below.heap_setCell _ _ _ _ hne, Below.heap_setCell _ _ _ _ hne, Below.heap_setCell _ _ _ _ hne, Below.heap_setCell _ _ _ _ hne, Below.heap_setCell _ _ _ _ hne, Below.heap_setCell _ _ _ _ hne]
  have hsz3 : W3.heap.size = W2.heap.size := by rw [← hW3]; simp [World.setCell]
  have k1 : Is W3 N 25 #[.int .i64 k, .string nm, .bool u, .int .i64 re, .slice ao lr cp, .slice A la ca] := by
    have := ((((((J1.out.put 0 (.int .i64 k)).put 1 (.string nm)).put 2 (.bool u)).put 3 (.int .i64 re)).put 4 (.slice ao lr cp)).put 5 (.slice A la ca))
    rw [hW3] at this
    simpa using this
  have k2 : Is W3 (N + 1) 30 #[.func (.func 34) #[] #[]] := J2.out.of (hfar _ (by omega))
  have k3 : Is W3 (N + 1 + 1) 25 #[.int .i64 0, .string ⟨#[]⟩, .bool false, .int .i64 0, .slice none 0 0, .slice none 0 0] := J3.out.of (hfar _ (by omega))
  have b3 : Below N X W3 := by
    rw [← hW3]
    exact (((((B2.out.setCell (Nat.le_refl _) _).setCell (Nat.le_refl _) _).setCell (Nat.le_refl _) _).setCell (Nat.le_refl _) _).setCell (Nat.le_refl _) _).setCell (Nat.le_refl _) _
  have o3 : W3.ownsRow (N + 1 + 1 + 1 + 1 + 1) 3 1 (.slice ao lr cp) lr (intsC (rowE k rs)) := by
    have hl : N < N + 1 + 1 + 1 + 1 + 1 := by omega
    rw [← hW3]
    exact own_set (own_set (own_set (own_set (own_set (own_set O2.out hl _) hl _) hl _) hl _) hl _) hl _
  have hPP := parts0 (W0 := X) (W := W3) (c := N + 1) (φ := eraseP) k nm u re ao lr cp A ca ar H2.out (HN.out.symm ▸ b3) k2 HS4.out HS3.out (Lib.hid (HC.out (N + 1) X (by have := HN.out; omega)))
  rw [HLA.out] at hPP
  have HPP := Lib.hid hPP
  have HW3 := Lib.hid hW3
  have K1 := Lib.hid k1
  have K3 := Lib.hid k3
  have B3 := Lib.hid b3
  have O3 := Lib.hid o3
  have HS3' : Hid (N + 1 + 1 + 1 ≤ W3.heap.size) := by show _ ≤ _; rw [hsz3]; exact HSZ.out
  clear hfar hsz3 k1 k2 k3 b3 o3 hPP hW3
  go_wp2_with fail
  rw [HW3.out]
  refine HPP.out.mono ?_
  rintro e W4 ⟨Q, cq, rfl, lq, b4⟩
  have L1 := Lib.hid (K1.out.below b4 (Is.lt K1.out))
  have L3 := Lib.hid (K3.out.below b4 (Is.lt K3.out))
  have B4 := Lib.hid (B3.out.trans (b4.mono (by have := HS3'.out; omega)))
  have O4 := Lib.hid (own_below O3.out b4)
  have LQ := Lib.hid lq
  have HS4' : Hid (W3.heap.size ≤ W4.heap.size) := b4.size
  clear lq b4 n0 n1 n2 n3 n4 n5 f0
  have n0 := L1.out.at_ 0
  have n1 := L1.out.at_ 1
  have n2 := L1.out.at_ 2
  have n3 := L1.out.at_ 3
  have n4 := L1.out.at_ 4
  have n5 := L1.out.at_ 5
  have p0 := L3.out.at_ 0
  have p1 := L3.out.at_ 1
  have p2 := L3.out.at_ 2
  have p3 := L3.out.at_ 3
  have p4 := L3.out.at_ 4
  have p5 := L3.out.at_ 5
  have f0 : ∀ i, W4.frozen? ⟨N, i, none⟩ = false := fun i => L1.out.free i
  have g0 : ∀ i, W4.frozen? ⟨N + 1 + 1, i, none⟩ = false := fun i => L3.out.free i
  simp at n0 n1 n2 n3 n4 n5 p0 p1 p2 p3 p4 p5
  go_wp2
  refine bodyPost_ret (v := .agg #[.int .i64 k, .string nm, .bool u, .int .i64 re, .slice ao lr cp, .slice Q la cq]) (by simp [results, Tryd.results11, go_sem, p0, p1, p2, p3, p4, p5]) rfl ⟨[.int .i64 k, .string nm, .bool u, .int .i64 re, .slice ao lr cp, .slice Q la cq], rfl, ?_, ?_⟩
  · obtain ⟨W6, hW6⟩ : ∃ Y, (((((((W4.setCell ⟨N, 5, none⟩ (.slice Q la cq)).setCell ⟨N + 1 + 1, 0, none⟩ (.int .i64 k)).setCell ⟨N + 1 + 1, 1, none⟩ (.string nm)).setCell ⟨N + 1 + 1, 2, none⟩ (.bool u)).setCell ⟨N + 1 + 1, 3, none⟩ (.int .i64 re)).setCell ⟨N + 1 + 1, 4, none⟩ (.slice ao lr cp)).setCell ⟨N + 1 + 1, 5, none⟩ (.slice Q la cq)) = Y := ⟨_, rfl⟩
    have hsz : W6.heap.size = W4.heap.size := by rw [← hW6]; simp [World.setCell]
    have hfar : ∀ b, b ≠ N → b ≠ N + 1 + 1 → W6.heap[b]? = W4.heap[b]? := by
      intro b hne hn2
      rw [← hW6, Below.heap_setCell _ _ _ _ hn2, Below.heap_setCell _ _ _ _ hn2, Below.heap_setCell _ _ _ _ hn2, Below.heap_setCell _ _ _ _ hn2, Below.heap_setCell _ _ _ _ hn2, Below.heap_setCell _ _ _ _ hn2, Below.heap_setCell _ _ _ _ hne]
    have o6 : W6.ownsRow (N + 1 + 1 + 1 + 1 + 1) 3 1 (.slice ao lr cp) lr (intsC (rowE k rs)) := by
      have hl : N < N + 1 + 1 + 1 + 1 + 1 := by omega
      have hl2 : N + 1 + 1 < N + 1 + 1 + 1 + 1 + 1 := by omega
      rw [← hW6]
      exact own_set (own_set (own_set (own_set (own_set (own_set (own_set O4.out hl _) hl2 _) hl2 _) hl2 _) hl2 _) hl2 _) hl2 _
    rw [hW6]
    have hcp : lr ≤ cp ∧ lr ≤ maxLen := by
      rcases o6.2 with ⟨e, h0⟩ | ⟨g, cap, cur, e, _, _, h2, h3, _⟩
      · rw [h0]; exact ⟨Nat.zero_le _, Nat.zero_le _⟩
      · injection e with _ _ e
        subst e
        exact ⟨h2, by omega⟩
    have hrl : (rowE k rs).length = lr := by rw [rowE_len, HLR.out]
    have hel : (eraseL ar).length = la := by rw [eraseL_map, List.length_map, HLA.out]
    obtain ⟨A', c', e', hL⟩ := rowI_mk (c := cp) (l := rowE k rs) (row_only o6 (show N ≤ N + 1 + 1 + 1 + 1 + 1 by omega)) (by rw [hrl]; exact hcp.2)
    injection e' with e1 _ _
    subst e1
    rw [eraseP, HRE.out]
    refine ⟨ao, cp, Q, cq, by rw [hrl, hel], ⟨⟨H0.out, by rw [hrl]; exact hcp.1⟩, hL⟩, ?_⟩
    rw [eraseL_map]
    have hs4 := HS4'.out
    have hs3 := HS3'.out
    have hc := only_sub (w := W4) (w' := W6) (Q := qN W3.heap.size) (Q' := qN N) (fun b _ hq => by simp only [qN, decide_eq_true_eq] at hq ⊢; omega) (Nat.le_of_eq hsz.symm) (fun b _ hq => by simp only [qN, decide_eq_true_eq] at hq; exact hfar b (by omega) (by omega))
    have hz : (only (qN W3.heap.size) W4).heap.size ≤ (only (qN N) W6).heap.size := by rw [only_size, only_size, hsz]; exact Nat.le_refl _
    exact LQ.out.cells hz hc fun x _ cs h => TyAt.cells hz hc n x cs h
  · exact ((((((B4.out.setCell (Nat.le_refl _) _).setCell (show N ≤ N + 1 + 1 by omega) _).setCell (show N ≤ N + 1 + 1 by omega) _).setCell (show N ≤ N + 1 + 1 by omega) _).setCell (show N ≤ N + 1 + 1 by omega) _).setCell (show N ≤ N + 1 + 1 by omega) _).setCell (show N ≤ N + 1 + 1 by omega) _
theorem mapE_any : ∀ n m, MapE n m
  | 0, _ => fun _ _ _ h _ => h.elim
  | _ + 1, 0 => fun _ _ _ _ h => h.elim
  | n + 1, m + 1 => mapE_step n m (Lib.hid fun c W0 hc => mapC_of n m (Lib.hid (mapE_any n m)) c W0 hc)
end Ts
end Go.Proofs.YtiljpnghahkjhaaDoor

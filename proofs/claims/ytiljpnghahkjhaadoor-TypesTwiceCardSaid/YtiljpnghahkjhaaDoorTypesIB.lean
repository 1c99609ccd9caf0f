/- Layer 7: the same with the closure that gives back what it is given (fill's own). -/
import Derived.Deep.RegionLaw
import Derived.Laws.OwnMore
import Derived.Test.YtiljpnghahkjhaaDoorTypesIA
namespace Go.Proofs.YtiljpnghahkjhaaDoor
open Go.RowKit Go.Deep Tr
namespace Ts
theorem fill1 (r : Int) (w : World) : Calls Tryd.prog 29 #[.int .i64 r] w fun e w' => e = .returned (.int .i64 r) ∧ w' = w := by
  go_enter Tryd.func29, Tryd.ntmps29
  go_wp2
  go_ret
  exact ⟨rfl, rfl⟩
set_option maxHeartbeats 8000000 in
set_option maxRecDepth 100000 in
theorem mapOwnJ {W : World} (φ : Int → Int) (HF : Hid (∀ (X : World) (q : Int), Below W.heap.size W X → Calls Tryd.prog 29 #[.int .i64 q] X fun e w' => e = .returned (.int .i64 (φ q)) ∧ w' = X)) (k : Int) (nm : ByteArray) (u : Bool) (r : Int) (rs : List Int) (R : Option Addr) (cr : Nat) (A : Option Addr) (la ca : Nat) (h : RowI W (.slice R rs.length cr) rs) (hb : rs.length * 8 ≤ 140737488355328) :
    Calls Tryd.prog 30 #[.agg #[.int .i64 k, .string nm, .bool u, .int .i64 r, .slice R rs.length cr, .slice A la ca], .func (.func 29) #[] #[]] W fun e W' =>
      ∃ v, e = .returned (.agg #[.int .i64 k, .string nm, .bool u, .int .i64 (regM φ k r), v, .slice A la ca]) ∧ W'.ownsRow (W.heap.size + 1 + 1) 3 1 v rs.length (intsC (rowM φ k rs)) ∧ Below W.heap.size W W' := by
  obtain ⟨re, hre⟩ : ∃ x, regM φ k r = x := ⟨_, rfl⟩
  obtain ⟨rl, hrl⟩ : ∃ x, rowM φ k rs = x := ⟨_, rfl⟩
  rw [hre, hrl]
  have HRE := Lib.hid hre
  have HRL := Lib.hid hrl
  clear hre hrl
  obtain ⟨lr, hlr⟩ : ∃ n, rs.length = n := ⟨_, rfl⟩
  obtain ⟨o1, ho1⟩ : ∃ o, Obj.cells #[.int .i64 k, .string nm, .bool u, .int .i64 r, .slice R rs.length cr, .slice A la ca] 25 = o := ⟨_, rfl⟩
  obtain ⟨o2, ho2⟩ : ∃ o, Obj.cells #[.int .i64 0, .string ⟨#[]⟩, .bool false, .int .i64 0, .slice none 0 0, .slice none 0 0] 25 = o := ⟨_, rfl⟩
  have B2 : Below W.heap.size W ((W.alloc o1).alloc o2) := ((Below.refl _ W).alloc (Nat.le_refl _) o1).alloc (by simp) o2
  have i1 : Is ((W.alloc o1).alloc o2) W.heap.size 25 #[.int .i64 k, .string nm, .bool u, .int .i64 r, .slice R rs.length cr, .slice A la ca] := by rw [← ho1]; exact (Is.made W _ _).alloc _
  have hN : (W.alloc o1).heap.size = W.heap.size + 1 := by simp
  have i2 : Is ((W.alloc o1).alloc o2) (W.heap.size + 1) 25 #[.int .i64 0, .string ⟨#[]⟩, .bool false, .int .i64 0, .slice none 0 0, .slice none 0 0] := by rw [← ho2]; exact hN ▸ Is.made (W.alloc o1) _ _
  have hS : ((W.alloc o1).alloc o2).heap.size = W.heap.size + 1 + 1 := by simp
  obtain ⟨V, hV⟩ : ∃ V, (W.alloc o1).alloc o2 = V := ⟨_, rfl⟩
  rw [hV] at B2 i1 i2 hS
  have hC := clone_any (h.below B2) hb
  rw [hS] at hC
  have HV : Hid ((W.alloc (.cells #[.int .i64 k, .string nm, .bool u, .int .i64 r, .slice R lr cr, .slice A la ca] 25)).alloc (.cells #[.int .i64 0, .string ⟨#[]⟩, .bool false, .int .i64 0, .slice none 0 0, .slice none 0 0] 25) = V) := by rw [← hV, ← ho1, ← ho2, hlr]; exact rfl
  have HC := Lib.hid hC
  have HB := Lib.hid B2
  have HS := Lib.hid hS
  have HLR := Lib.hid hlr
  have HLB : Hid (lr * 8 ≤ 140737488355328) := by show lr * 8 ≤ _; rw [← hlr]; exact hb
  rw [hlr] at i1 HC ⊢
  have I1 := Lib.hid i1
  have I2 := Lib.hid i2
  obtain ⟨N, hN0⟩ : ∃ N, W.heap.size = N := ⟨_, rfl⟩
  have HN := Lib.hid hN0
  rw [hN0] at HB HC I1 I2 HS HF ⊢
  clear h hb hlr ho1 ho2 B2 i1 i2 hN hS hV hC hN0
  go_enter Tryd.func30, Tryd.ntmps30
  go_wp2_with fail
  rw [HV.out]
  refine HC.out.mono ?_
  rintro e W2 ⟨v, rfl, q1, q2⟩
  obtain ⟨ao, cp, rfl, _⟩ := own_slice q1
  have O2 := Lib.hid q1
  have J1 := Lib.hid ((I1.out.below q2 (by rw [← HS.out]; exact I1.out.lt)))
  have J2 := Lib.hid ((I2.out.below q2 (by rw [← HS.out]; exact I2.out.lt)))
  have B3 := Lib.hid (HB.out.trans (q2.mono (by omega)))
  have n0 := J1.out.at_ 0
  have n1 := J1.out.at_ 1
  have n2 := J1.out.at_ 2
  have n3 := J1.out.at_ 3
  have n4 := J1.out.at_ 4
  have n5 := J1.out.at_ 5
  have p0 := J2.out.at_ 0
  have p1 := J2.out.at_ 1
  have p2 := J2.out.at_ 2
  have p3 := J2.out.at_ 3
  have p4 := J2.out.at_ 4
  have p5 := J2.out.at_ 5
  have f0 : ∀ i, W2.frozen? ⟨N, i, none⟩ = false := fun i => J1.out.free i
  have g0 : ∀ i, W2.frozen? ⟨N + 1, i, none⟩ = false := fun i => J2.out.free i
  simp at n0 n1 n2 n3 n4 n5 p0 p1 p2 p3 p4 p5
  clear q1 q2
  rw [HN.out]
  by_cases h5 : k = 5
  · have hre : r = re := by rw [← HRE.out, regM, if_neg (by omega)]
    have hrl : rs.map φ = rl := by rw [← HRL.out, rowM, if_pos h5]
    subst hre h5
    have HRW := Lib.hid hrl
    have hmx : lr ≤ 9223372036854775807 := by
      have := HLB.out
      omega
    clear hrl
    have L1 := Lib.hid (J1.out.put 4 (.slice ao lr cp))
    have L2 : Hid (Is (W2.setCell ⟨N, 4, none⟩ (.slice ao lr cp)) (N + 1) 25 #[.int .i64 0, .string ⟨#[]⟩, .bool false, .int .i64 0, .slice none 0 0, .slice none 0 0]) := J2.out.of (Below.heap_setCell _ _ _ _ (by show N + 1 ≠ N; omega))
    have O3 := Lib.hid (own_set O2.out (p := ⟨N, 4, none⟩) (by simp; omega) (.slice ao lr cp))
    have B4 : Hid (Below N W (W2.setCell ⟨N, 4, none⟩ (.slice ao lr cp))) := B3.out.setCell (Nat.le_refl _) _
    clear J1 J2 O2 B3
    go_wp2_with fail
    go_loopw [18] (fun i wr => ∃ j : Nat, j ≤ lr ∧ i = .int .i64 j ∧ Hid (∃ L : List Int, L.length = lr ∧ (∀ q, q < j → L[q]? = (rs[q]?).map φ) ∧ (∀ q, j ≤ q → L[q]? = rs[q]?) ∧ wr.ownsRow (N + 1 + 1) 3 1 (.slice ao lr cp) lr (intsC L) ∧
        Is wr N 25 #[.int .i64 5, .string nm, .bool u, .int .i64 r, .slice ao lr cp, .slice A la ca] ∧ Is wr (N + 1) 25 #[.int .i64 0, .string ⟨#[]⟩, .bool false, .int .i64 0, .slice none 0 0, .slice none 0 0] ∧ Below N W wr)) (fun i _ => lr - (intOf i).toNat)
    case atStart => exact ⟨0, Nat.zero_le _, rfl, rs, HLR.out, fun q hq => absurd hq (Nat.not_lt_zero _), fun q _ => rfl, O3.out, by have := L1.out; simpa using this, L2.out, B4.out⟩
    clear L1 L2 O3 B4 f0 g0 n0 n1 n2 n3 n4 n5 p0 p1 p2 p3 p4 p5
    case round =>
      obtain ⟨j, hj, rfl, HQ⟩ := hrel
      obtain ⟨L, hLl, hLz, hLy, o4, i4, i5, b4⟩ := HQ.out
      have HLL := Lib.hid hLl
      have HLZ := Lib.hid hLz
      have HLY := Lib.hid hLy
      have O4 := Lib.hid o4
      have I4 := Lib.hid i4
      have I5 := Lib.hid i5
      have B4 := Lib.hid b4
      have m4 := i4.at_ 4
      simp at m4
      by_cases hjl : j < lr
      · obtain ⟨g, rfl⟩ : ∃ g, ao = some ⟨g, 0, none⟩ := by
          rcases o4.2 with ⟨e, h0⟩ | ⟨g, cap, cur, e, _⟩
          · omega
          · injection e with e _ _
            exact ⟨g, e⟩
        have c4 := o4.cellAt j (by omega)
        have d4 := o4.frozenAt j
        have hgN := (o4.lt g rfl).1
        obtain ⟨lj, hlj⟩ : ∃ x, L[j]? = some x := ⟨_, List.getElem?_eq_getElem (by omega)⟩
        have e4 : (intsC L)[j]? = some (.int .i64 lj) := by unfold intsC; rw [List.getElem?_map, hlj]; rfl
        rw [e4] at c4
        have HLJ := Lib.hid hlj
        clear HQ hLl hLz hLy o4 i4 i5 b4 e4 hlj
        go_wp2_with fail
        go_region_law
          (first
            | (go_simp; go_at_call 29; refine (HF.out _ _ (by first | exact B4.out | exact B4.out.drew)).mono ?_; rintro e w' ⟨rfl, rfl⟩))
        all_goals
          have HR : Hid (∃ L : List Int, L.length = lr ∧ (∀ q, q < j + 1 → L[q]? = (rs[q]?).map φ) ∧ (∀ q, j + 1 ≤ q → L[q]? = rs[q]?) ∧ (wr.setCell ⟨g, j, none⟩ (.int .i64 (φ lj))).drew.ownsRow (N + 1 + 1) 3 1 (.slice (some ⟨g, 0, none⟩) lr cp) lr (intsC L) ∧
              Is (wr.setCell ⟨g, j, none⟩ (.int .i64 (φ lj))).drew N 25 #[.int .i64 5, .string nm, .bool u, .int .i64 r, .slice (some ⟨g, 0, none⟩) lr cp, .slice A la ca] ∧ Is (wr.setCell ⟨g, j, none⟩ (.int .i64 (φ lj))).drew (N + 1) 25 #[.int .i64 0, .string ⟨#[]⟩, .bool false, .int .i64 0, .slice none 0 0, .slice none 0 0] ∧ Below N W (wr.setCell ⟨g, j, none⟩ (.int .i64 (φ lj))).drew) := by
            refine ⟨L.set j (φ lj), by rw [List.length_set]; exact HLL.out, fun q hq => ?_, fun q hq => ?_, ?_, (I4.out.of (Below.heap_setCell _ _ _ _ (by show N ≠ g; omega))).drew, (I5.out.of (Below.heap_setCell _ _ _ _ (by show N + 1 ≠ g; omega))).drew, (B4.out.setCell (show N ≤ g by omega) _).drew⟩
            · by_cases hqj : q = j
              · subst hqj
                rw [List.getElem?_set_self (by rw [HLL.out]; exact hjl), ← HLY.out q (Nat.le_refl _), HLJ.out]
                rfl
              · rw [List.getElem?_set_ne (fun e => hqj e.symm)]
                exact HLZ.out q (by omega)
            · rw [List.getElem?_set_ne (by omega)]
              exact HLY.out q (by omega)
            · have := (O4.out.stored j (.int .i64 (φ lj))).1
              rw [show (intsC L).set j (.int .i64 (φ lj)) = intsC (L.set j (φ lj)) by simp [intsC, List.map_set]] at this
              exact this
          clear HLL HLZ HLY HLJ O4 I4 I5 B4 m4 c4 d4 hgN
          go_wp2
          go_roundw
          case rel => exact ⟨j + 1, by omega, by go_num, HR⟩
          case measure => simp [intOf]; omega
      · have hje : j = lr := by omega
        subst hje
        have hL : L = rl := by
          rw [← HRW.out]
          apply List.ext_getElem?
          intro q
          rw [List.getElem?_map]
          rcases Nat.lt_or_ge q L.length with hq | hq
          · exact hLz q (by omega)
          · rw [List.getElem?_eq_none hq, List.getElem?_eq_none (by rw [HLR.out, ← hLl]; exact hq)]
            rfl
        subst hL
        have n0 := i4.at_ 0
        have n1 := i4.at_ 1
        have n2 := i4.at_ 2
        have n3 := i4.at_ 3
        have n5 := i4.at_ 5
        have p0 := i5.at_ 0
        have p1 := i5.at_ 1
        have p2 := i5.at_ 2
        have p3 := i5.at_ 3
        have p4 := i5.at_ 4
        have p5 := i5.at_ 5
        have g0 : ∀ i, wr.frozen? ⟨N + 1, i, none⟩ = false := fun i => i5.free i
        simp at n0 n1 n2 n3 n5 p0 p1 p2 p3 p4 p5
        clear HQ hLl hLz hLy o4 i4 i5 b4 HLL HLZ HLY hj hjl
        go_wp2
        refine bodyPost_ret (v := .agg #[.int .i64 5, .string nm, .bool u, .int .i64 r, .slice ao j cp, .slice A la ca]) (by simp [results, Tryd.results30, go_sem, p0, p1, p2, p3, p4, p5]) rfl ⟨_, rfl, ?_, ?_⟩
        · exact own_set (own_set (own_set (own_set (own_set (own_set O4.out (by simp) _) (by simp) _) (by simp) _) (by simp) _) (by simp) _) (by simp) _
        · exact (((((B4.out.setCell (Nat.le_succ _) _).setCell (Nat.le_succ _) _).setCell (Nat.le_succ _) _).setCell (Nat.le_succ _) _).setCell (Nat.le_succ _) _).setCell (Nat.le_succ _) _
  · by_cases h7 : k = 7 ∨ k = 8 ∨ k = 9
    · have hre : φ r = re := by rw [← HRE.out, regM, if_pos h7]
      have hrl : rs = rl := by rw [← HRL.out, rowM, if_neg h5]
      subst hre hrl
      clear h5
      rcases h7 with rfl | rfl | rfl
      all_goals
        go_wp2_with fail
        refine (HF.out _ r (B3.out.setCell (Nat.le_refl _) _)).mono ?_
        rintro e w' ⟨rfl, rfl⟩
        go_wp2
        refine bodyPost_ret (v := .agg #[.int .i64 _, .string nm, .bool u, .int .i64 (φ r), .slice ao lr cp, .slice A la ca]) (by simp [results, Tryd.results30, go_sem, p0, p1, p2, p3, p4, p5]) rfl ⟨_, rfl, ?_, ?_⟩
        · exact own_set (own_set (own_set (own_set (own_set (own_set (own_set (own_set O2.out (by simp; omega) _) (by simp; omega) _) (by simp) _) (by simp) _) (by simp) _) (by simp) _) (by simp) _) (by simp) _
        · exact (((((((B3.out.setCell (Nat.le_refl _) _).setCell (Nat.le_refl _) _).setCell (Nat.le_succ _) _).setCell (Nat.le_succ _) _).setCell (Nat.le_succ _) _).setCell (Nat.le_succ _) _).setCell (Nat.le_succ _) _).setCell (Nat.le_succ _) _
    · have e5 : (k == 5) = false := ne_of' h5
      have e7 : (k == 7) = false := ne_of' (by omega)
      have e8 : (k == 8) = false := ne_of' (by omega)
      have e9 : (k == 9) = false := ne_of' (by omega)
      have hre : r = re := by rw [← HRE.out, regM, if_neg h7]
      have hrl : rs = rl := by rw [← HRL.out, rowM, if_neg h5]
      subst hre hrl
      clear h5 h7
      go_wp2
      refine bodyPost_ret (v := .agg #[.int .i64 k, .string nm, .bool u, .int .i64 r, .slice ao lr cp, .slice A la ca]) (by simp [results, Tryd.results30, go_sem, p0, p1, p2, p3, p4, p5]) rfl ⟨_, rfl, ?_, ?_⟩
      · exact own_set (own_set (own_set (own_set (own_set (own_set (own_set O2.out (by simp; omega) _) (by simp) _) (by simp) _) (by simp) _) (by simp) _) (by simp) _) (by simp) _
      · exact ((((((B3.out.setCell (Nat.le_refl _) _).setCell (Nat.le_succ _) _).setCell (Nat.le_succ _) _).setCell (Nat.le_succ _) _).setCell (Nat.le_succ _) _).setCell (Nat.le_succ _) _).setCell (Nat.le_succ _) _
end Ts
end Go.Proofs.YtiljpnghahkjhaaDoor

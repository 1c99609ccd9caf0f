/- Layer 7: a type's own regions made nought. -/
import Derived.Deep.RegionLaw
import Derived.Laws.OwnMore
import Derived.Test.YtiljpnghahkjhaaDoorTypesX
import Derived.Test.YtiljpnghahkjhaaDoorTypesG
namespace Go.Proofs.YtiljpnghahkjhaaDoor
open Go.RowKit Go.Deep Tr
namespace Ts
theorem own_set {w : World} {B te sz n : Nat} {v : Value} {xs : List Value} (h : w.ownsRow B te sz v n xs) {p : Addr} (hp : p.block < B) (u : Value) : (w.setCell p u).ownsRow B te sz v n xs :=
  h.kept (row := some p.block) ⟨rfl, rfl, rfl, by simp [World.setCell], fun b _ hb => Below.heap_setCell _ _ _ _ (fun e => hb (by rw [e]))⟩ (.inr fun e => by have := (h.lt _ e).1; omega)
theorem ne_of' {k j : Int} (h : k ≠ j) : (k == j) = false := by rw [beq_eq_false_iff_ne]; exact h
theorem erase1 (r : Int) (w : World) : Calls Tryd.prog 34 #[.int .i64 r] w fun e w' => e = .returned (.int .i64 0) ∧ w' = w := by
  go_enter Tryd.func34, Tryd.ntmps34
  go_wp2
  go_ret
  exact ⟨rfl, rfl⟩
def regE (k r : Int) : Int := if k = 7 ∨ k = 8 ∨ k = 9 then 0 else r
def rowE (k : Int) (rs : List Int) : List Int := if k = 5 then rs.map fun _ => 0 else rs
set_option maxHeartbeats 8000000 in
set_option maxRecDepth 100000 in
theorem mapOwn0 {W : World} (k : Int) (nm : ByteArray) (u : Bool) (r : Int) (rs : List Int) (R : Option Addr) (cr : Nat) (A : Option Addr) (la ca : Nat) (h : RowI W (.slice R rs.length cr) rs) (hb : rs.length * 8 ≤ 140737488355328) :
    Calls Tryd.prog 30 #[.agg #[.int .i64 k, .string nm, .bool u, .int .i64 r, .slice R rs.length cr, .slice A la ca], .func (.func 34) #[] #[]] W fun e W' =>
      ∃ v, e = .returned (.agg #[.int .i64 k, .string nm, .bool u, .int .i64 (regE k r), v, .slice A la ca]) ∧ W'.ownsRow (W.heap.size + 1 + 1) 3 1 v rs.length (intsC (rowE k rs)) ∧ Below W.heap.size W W' := by
  obtain ⟨re, hre⟩ : ∃ x, regE k r = x := ⟨_, rfl⟩
  obtain ⟨rl, hrl⟩ : ∃ x, rowE k rs = x := ⟨_, rfl⟩
  rw [hre, hrl]
  have HRE := Lib.hid hre
  have HRL := Lib.hid hrl
  clear hre hrl
  obtain ⟨lr, hlr⟩ : ∃ n, rs.length = n := ⟨_, rfl⟩
  obtain ⟨o1, ho1⟩ : ∃ o, Obj.cells #[.int .i64 k, .string nm, .bool u, .int .i64 r, .slice R rs.length cr, .slice A la ca] 25 = o := ⟨_, rfl⟩
  obtain ⟨o2, ho2⟩ : ∃ o, Obj.cells #[.int .i64 0, .string ⟨#[]⟩, .bool false, .int .i64 0, .slice none 0 0, .slice none 0 0] 25 = o := ⟨_, rfl⟩
  have B2 : Below W.heap.size W ((W.alloc o1).alloc o2) := ((Below.refl _ W).alloc (Nat.le_refl _) o1).alloc (by simp) o2
  have i1 : Is ((W.alloc o1).alloc o2) W.heap.size 25 #[.int .i64 k, .string nm, .bool u, .int .i64 r, .slice R rs.length cr, .slice A la ca] := by rw [← ho1]; exact (Is.made W _ _).alloc _
  have hN : (W.alloc o1).heap.size = W.heap.size + 1 := by simp
  have i2 : Is ((W.alloc o1).alloc o2) (W.heap.size + 1) 25 #[.int .i64 0, .string ⟨#[]⟩, .bool false, .int .i64 0, .slice none 0 0, .slice none 0 0] := by rw [← ho2]; exact hN ▸ Is.made (W.alloc o1) _ _
  have hS : ((W.alloc o1).alloc o2).heap.size = W.heap.size + 1 + 1 := by simp
  obtain ⟨V, hV⟩ : ∃ V, (W.alloc o1).alloc o2 = V := ⟨_, rfl⟩
  rw [hV] at B2 i1 i2 hS
  have hC := clone_any (h.below B2) hb
  rw [hS] at hC
  have HV : Hid ((W.alloc (.cells #[.int .i64 k, .string nm, .bool u, .int .i64 r, .slice R lr cr, .slice A la ca] 25)).alloc (.cells #[.int .i64 0, .string ⟨#[]⟩, .bool false, .int .i64 0, .slice none 0 0, .slice none 0 0] 25) = V) := by rw [← hV, ← ho1, ← ho2, hlr]; exact rfl
  have HC := Lib.hid hC
  have HB := Lib.hid B2
  have HS := Lib.hid hS
  have HLR := Lib.hid hlr
  have HLB : Hid (lr * 8 ≤ 140737488355328) := by show lr * 8 ≤ _; rw [← hlr]; exact hb
  rw [hlr] at i1 HC ⊢
  have I1 := Lib.hid i1
  have I2 := Lib.hid i2
  obtain ⟨N, hN0⟩ : ∃ N, W.heap.size = N := ⟨_, rfl⟩
  have HN := Lib.hid hN0
  rw [hN0] at HB HC I1 I2 HS ⊢
  clear h hb hlr ho1 ho2 B2 i1 i2 hN hS hV hC hN0
  go_enter Tryd.func30, Tryd.ntmps30
  go_wp2_with fail
  rw [HV.out]
  refine HC.out.mono ?_
  rintro e W2 ⟨v, rfl, q1, q2⟩
  obtain ⟨ao, cp, rfl, _⟩ := own_slice q1
  have O2 := Lib.hid q1
  have J1 := Lib.hid ((I1.out.below q2 (by rw [← HS.out]; exact I1.out.lt)))
  have J2 := Lib.hid ((I2.out.below q2 (by rw [← HS.out]; exact I2.out.lt)))
  have B3 := Lib.hid (HB.out.trans (q2.mono (by omega)))
  have n0 := J1.out.at_ 0
  have n1 := J1.out.at_ 1
  have n2 := J1.out.at_ 2
  have n3 := J1.out.at_ 3
  have n4 := J1.out.at_ 4
  have n5 := J1.out.at_ 5
  have p0 := J2.out.at_ 0
  have p1 := J2.out.at_ 1
  have p2 := J2.out.at_ 2
  have p3 := J2.out.at_ 3
  have p4 := J2.out.at_ 4
  have p5 := J2.out.at_ 5
  have f0 : ∀ i, W2.frozen? ⟨N, i, none⟩ = false := fun i => J1.out.free i
  have g0 : ∀ i, W2.frozen? ⟨N + 1, i, none⟩ = false := fun i => J2.out.free i
  simp at n0 n1 n2 n3 n4 n5 p0 p1 p2 p3 p4 p5
  clear q1 q2
  rw [HN.out]
  by_cases h5 : k = 5
  · have hre : r = re := by rw [← HRE.out, regE, if_neg (by omega)]
    have hrl : rs.map (fun _ => 0) = rl := by rw [← HRL.out, rowE, if_pos h5]
    subst hre h5
    have HRW := Lib.hid hrl
    have hmx : lr ≤ 9223372036854775807 := by
      have := HLB.out
      omega
    clear hrl
    have L1 := Lib.hid (J1.out.put 4 (.slice ao lr cp))
    have L2 : Hid (Is (W2.setCell ⟨N, 4, none⟩ (.slice ao lr cp)) (N + 1) 25 #[.int .i64 0, .string ⟨#[]⟩, .bool false, .int .i64 0, .slice none 0 0, .slice none 0 0]) := J2.out.of (Below.heap_setCell _ _ _ _ (by show N + 1 ≠ N; omega))
    have O3 := Lib.hid (own_set O2.out (p := ⟨N, 4, none⟩) (by simp; omega) (.slice ao lr cp))
    have B4 : Hid (Below N W (W2.setCell ⟨N, 4, none⟩ (.slice ao lr cp))) := B3.out.setCell (Nat.le_refl _) _
    clear J1 J2 O2 B3
    go_wp2_with fail
    go_loopw [18] (fun i wr => ∃ j : Nat, j ≤ lr ∧ i = .int .i64 j ∧ Hid (∃ L : List Int, L.length = lr ∧ (∀ q, q < j → L[q]? = some 0) ∧ wr.ownsRow (N + 1 + 1) 3 1 (.slice ao lr cp) lr (intsC L) ∧
        Is wr N 25 #[.int .i64 5, .string nm, .bool u, .int .i64 r, .slice ao lr cp, .slice A la ca] ∧ Is wr (N + 1) 25 #[.int .i64 0, .string ⟨#[]⟩, .bool false, .int .i64 0, .slice none 0 0, .slice none 0 0] ∧ Below N W wr)) (fun i _ => lr - (intOf i).toNat)
    case atStart => exact ⟨0, Nat.zero_le _, rfl, rs, HLR.out, fun q hq => absurd hq (Nat.not_lt_zero _), O3.out, by have := L1.out; simpa using this, L2.out, B4.out⟩
    clear L1 L2 O3 B4 f0 g0 n0 n1 n2 n3 n4 n5 p0 p1 p2 p3 p4 p5
    case round =>
      obtain ⟨j, hj, rfl, HQ⟩ := hrel
      obtain ⟨L, hLl, hLz, o4, i4, i5, b4⟩ := HQ.out
      have HLL := Lib.hid hLl
      have HLZ := Lib.hid hLz
      have O4 := Lib.hid o4
      have I4 := Lib.hid i4
      have I5 := Lib.hid i5
      have B4 := Lib.hid b4
      have m4 := i4.at_ 4
      simp at m4
      by_cases hjl : j < lr
      · obtain ⟨g, rfl⟩ : ∃ g, ao = some ⟨g, 0, none⟩ := by
          rcases o4.2 with ⟨e, h0⟩ | ⟨g, cap, cur, e, _⟩
          · omega
          · injection e with e _ _
            exact ⟨g, e⟩
        have c4 := o4.cellAt j (by omega)
        have d4 := o4.frozenAt j
        have hgN := (o4.lt g rfl).1
        obtain ⟨lj, hlj⟩ : ∃ x, L[j]? = some x := ⟨_, List.getElem?_eq_getElem (by omega)⟩
        have e4 : (intsC L)[j]? = some (.int .i64 lj) := by unfold intsC; rw [List.getElem?_map, hlj]; rfl
        rw [e4] at c4
        clear HQ hLl hLz o4 i4 i5 b4 e4 hlj
        go_wp2_with fail
        go_region_law
          (first
            | (go_simp; go_at_call 34; refine (erase1 _ _).mono ?_; rintro e w' ⟨rfl, rfl⟩))
        all_goals
          have HR : Hid (∃ L : List Int, L.length = lr ∧ (∀ q, q < j + 1 → L[q]? = some 0) ∧ (wr.setCell ⟨g, j, none⟩ (.int .i64 0)).drew.ownsRow (N + 1 + 1) 3 1 (.slice (some ⟨g, 0, none⟩) lr cp) lr (intsC L) ∧
              Is (wr.setCell ⟨g, j, none⟩ (.int .i64 0)).drew N 25 #[.int .i64 5, .string nm, .bool u, .int .i64 r, .slice (some ⟨g, 0, none⟩) lr cp, .slice A la ca] ∧ Is (wr.setCell ⟨g, j, none⟩ (.int .i64 0)).drew (N + 1) 25 #[.int .i64 0, .string ⟨#[]⟩, .bool false, .int .i64 0, .slice none 0 0, .slice none 0 0] ∧ Below N W (wr.setCell ⟨g, j, none⟩ (.int .i64 0)).drew) := by
            refine ⟨L.set j 0, by rw [List.length_set]; exact HLL.out, fun q hq => ?_, ?_, (I4.out.of (Below.heap_setCell _ _ _ _ (by show N ≠ g; omega))).drew, (I5.out.of (Below.heap_setCell _ _ _ _ (by show N + 1 ≠ g; omega))).drew, (B4.out.setCell (show N ≤ g by omega) _).drew⟩
            · by_cases hqj : q = j
              · subst hqj
                rw [List.getElem?_set_self (by rw [HLL.out]; exact hjl)]
              · rw [List.getElem?_set_ne (fun e => hqj e.symm)]
                exact HLZ.out q (by omega)
            · have := (O4.out.stored j (.int .i64 0)).1
              rw [show (intsC L).set j (.int .i64 0) = intsC (L.set j 0) by simp [intsC, List.map_set]] at this
              exact this
          clear HLL HLZ O4 I4 I5 B4 m4 c4 d4 hgN
          go_wp2
          go_roundw
          case rel => exact ⟨j + 1, by omega, by go_num, HR⟩
          case measure => simp [intOf]; omega
      · have hje : j = lr := by omega
        subst hje
        have hL : L = rl := by
          rw [← HRW.out]
          apply List.ext_getElem?
          intro q
          rw [List.getElem?_map]
          rcases Nat.lt_or_ge q L.length with hq | hq
          · rw [hLz q (by omega), List.getElem?_eq_getElem (by rw [HLR.out, ← hLl]; exact hq)]
            rfl
          · rw [List.getElem?_eq_none hq, List.getElem?_eq_none (by rw [HLR.out, ← hLl]; exact hq)]
            rfl
        subst hL
        have n0 := i4.at_ 0
        have n1 := i4.at_ 1
        have n2 := i4.at_ 2
        have n3 := i4.at_ 3
        have n5 := i4.at_ 5
        have p0 := i5.at_ 0
        have p1 := i5.at_ 1
        have p2 := i5.at_ 2
        have p3 := i5.at_ 3
        have p4 := i5.at_ 4
        have p5 := i5.at_ 5
        have g0 : ∀ i, wr.frozen? ⟨N + 1, i, none⟩ = false := fun i => i5.free i
        simp at n0 n1 n2 n3 n5 p0 p1 p2 p3 p4 p5
        clear HQ hLl hLz o4 i4 i5 b4 HLL HLZ hj hjl
        go_wp2
        refine bodyPost_ret (v := .agg #[.int .i64 5, .string nm, .bool u, .int .i64 r, .slice ao j cp, .slice A la ca]) (by simp [results, Tryd.results30, go_sem, p0, p1, p2, p3, p4, p5]) rfl ⟨_, rfl, ?_, ?_⟩
        · exact own_set (own_set (own_set (own_set (own_set (own_set O4.out (by simp) _) (by simp) _) (by simp) _) (by simp) _) (by simp) _) (by simp) _
        · exact (((((B4.out.setCell (Nat.le_succ _) _).setCell (Nat.le_succ _) _).setCell (Nat.le_succ _) _).setCell (Nat.le_succ _) _).setCell (Nat.le_succ _) _).setCell (Nat.le_succ _) _
  · by_cases h7 : k = 7 ∨ k = 8 ∨ k = 9
    · have hre : 0 = re := by rw [← HRE.out, regE, if_pos h7]
      have hrl : rs = rl := by rw [← HRL.out, rowE, if_neg h5]
      subst hre hrl
      clear h5
      rcases h7 with rfl | rfl | rfl
      all_goals
        go_wp2_with fail
        refine (erase1 r _).mono ?_
        rintro e w' ⟨rfl, rfl⟩
        go_wp2
        refine bodyPost_ret (v := .agg #[.int .i64 _, .string nm, .bool u, .int .i64 0, .slice ao lr cp, .slice A la ca]) (by simp [results, Tryd.results30, go_sem, p0, p1, p2, p3, p4, p5]) rfl ⟨_, rfl, ?_, ?_⟩
        · exact own_set (own_set (own_set (own_set (own_set (own_set (own_set (own_set O2.out (by simp; omega) _) (by simp; omega) _) (by simp) _) (by simp) _) (by simp) _) (by simp) _) (by simp) _) (by simp) _
        · exact (((((((B3.out.setCell (Nat.le_refl _) _).setCell (Nat.le_refl _) _).setCell (Nat.le_succ _) _).setCell (Nat.le_succ _) _).setCell (Nat.le_succ _) _).setCell (Nat.le_succ _) _).setCell (Nat.le_succ _) _).setCell (Nat.le_succ _) _
    · have e5 : (k == 5) = false := ne_of' h5
      have e7 : (k == 7) = false := ne_of' (by omega)
      have e8 : (k == 8) = false := ne_of' (by omega)
      have e9 : (k == 9) = false := ne_of' (by omega)
      have hre : r = re := by rw [← HRE.out, regE, if_neg h7]
      have hrl : rs = rl := by rw [← HRL.out, rowE, if_neg h5]
      subst hre hrl
      clear h5 h7
      go_wp2
      refine bodyPost_ret (v := .agg #[.int .i64 k, .string nm, .bool u, .int .i64 r, .slice ao lr cp, .slice A la ca]) (by simp [results, Tryd.results30, go_sem, p0, p1, p2, p3, p4, p5]) rfl ⟨_, rfl, ?_, ?_⟩
      · exact own_set (own_set (own_set (own_set (own_set (own_set (own_set O2.out (by simp; omega) _) (by simp) _) (by simp) _) (by simp) _) (by simp) _) (by simp) _) (by simp) _
      · exact ((((((B3.out.setCell (Nat.le_refl _) _).setCell (Nat.le_succ _) _).setCell (Nat.le_succ _) _).setCell (Nat.le_succ _) _).setCell (Nat.le_succ _) _).setCell (Nat.le_succ _) _).setCell (Nat.le_succ _) _
end Ts
end Go.Proofs.YtiljpnghahkjhaaDoor

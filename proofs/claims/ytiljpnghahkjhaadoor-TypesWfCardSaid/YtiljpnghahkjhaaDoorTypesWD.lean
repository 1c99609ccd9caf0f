/- Layer 7's reference: each of some regions with each of others. -/
import Derived.Deep.RegionLaw
import Derived.Test.YtiljpnghahkjhaaDoorTypesWC
namespace Go.Proofs.YtiljpnghahkjhaaDoor
open Go.RowKit Go.Deep Tr
namespace Ts
theorem below_drw {B : Nat} {x y : World} (h : Below B x y) : Below B x y.drew := ⟨h.os, h.tape, h.output, h.size, h.block⟩
theorem grown_drw {w w' : World} {r : Option Nat} (h : w.drew.grownBy w' r) : w.grownBy w' r := ⟨h.os, h.tape, h.output, h.size, h.block⟩
set_option maxHeartbeats 8000000 in
set_option maxRecDepth 100000 in
theorem rcross_any {W : World} {va vb : Value} {a b : List Int} (ha : RowI W va a) (hb : RowI W vb b) (big : (crossP a b).length ≤ Big) :
    Calls Tryd.prog 47 #[va, vb] W fun e W' => ∃ v, e = .returned v ∧ RowPr W' v (crossP a b) ∧ Below W.heap.size W W' := by
  obtain ⟨i0, hi0, hz0, hz1, hz2⟩ := info_parts info_two
  have HI := Lib.hid hi0
  have BIG := Lib.hid big
  obtain ⟨Aa, ca, rfl, hla⟩ := ha
  obtain ⟨Ab, cb, rfl, hlb⟩ := hb
  have hna := hla.le
  have hnb := hlb.le
  unfold maxLen at hna hnb
  have LA := Lib.hid hla
  have LB := Lib.hid hlb
  obtain ⟨la, hla'⟩ : ∃ n, a.length = n := ⟨_, rfl⟩
  obtain ⟨lb, hlb'⟩ : ∃ n, b.length = n := ⟨_, rfl⟩
  have HLA := Lib.hid hla'
  have HLB := Lib.hid hlb'
  obtain ⟨H, hH⟩ : ∃ H, W.heap.size = H := ⟨_, rfl⟩
  have HH := Lib.hid hH
  rw [hla'] at hna ⊢
  rw [hlb'] at hnb ⊢
  rw [hH]
  clear big hla hlb hla' hlb' hi0 hH
  go_enter Tryd.func47, Tryd.ntmps47
  go_wp2
  go_loopw [5, 6] (fun v i wr => ∃ p : Nat, p ≤ la ∧ i = .int .i64 p ∧ Hid (wr.ownsRow H 46 2 v (crossP (a.take p) b).length (pairsC (crossP (a.take p) b))) ∧ Hid (Below H W wr)) (fun _ i _ => la - (intOf i).toNat)
  case atStart => exact ⟨0, Nat.zero_le _, rfl, World.ownsRow_nil _ _ _ _, by rw [← HH.out]; exact Below.refl _ _⟩
  case round =>
    obtain ⟨p, hp, rfl, HO, HB⟩ := hrel
    by_cases hpl : p < la
    · have hpL : p < a.length := by rw [HLA.out]; exact hpl
      obtain ⟨bk, o', rfl, hbk, hc⟩ := int_at LA.out hpL
      obtain ⟨x, hx⟩ : ∃ x, a[p] = x := ⟨_, rfl⟩
      rw [hx] at hc
      have HP : Hid (crossP (a.take (p + 1)) b = crossP (a.take p) b ++ b.map fun y => (x, y)) := by
        show _ = _
        rw [List.take_succ_eq_append_getElem hpL, crossP_append, hx]
        simp [crossP]
      have BG : Hid ((crossP (a.take p) b).length + lb ≤ Big) := by
        have h1 := BIG.out
        rw [crossP_length] at h1
        rw [crossP_length, List.length_take, Nat.min_eq_left (by omega), ← HLB.out]
        have : (p + 1) * b.length ≤ a.length * b.length := Nat.mul_le_mul_right _ hpL
        rw [Nat.succ_mul] at this
        show p * b.length + b.length ≤ Big
        omega
      obtain ⟨M, hM⟩ : ∃ M, crossP (a.take p) b = M := ⟨_, rfl⟩
      have HM := Lib.hid hM
      have HO' : Hid (wr.ownsRow H 46 2 u5 (M ++ (b.take 0).map fun y => (x, y)).length (pairsC (M ++ (b.take 0).map fun y => (x, y)))) := by
        show World.ownsRow _ _ _ _ _ _ _
        rw [List.take_zero, List.map_nil, List.append_nil, ← hM]
        exact HO.out
      have HC : Hid (W.cell? ⟨bk, o' + p, none⟩ = some (.int .i64 x) ∧ bk < H) := ⟨hc, by rw [← HH.out]; exact hbk⟩
      rw [hM] at BG
      clear HO hM hx hc hbk
      go_wp2
      go_loopw [5, 7] (fun v i wi => ∃ q : Nat, q ≤ lb ∧ i = .int .i64 q ∧ Hid (wi.ownsRow H 46 2 v (M ++ (b.take q).map fun y => (x, y)).length (pairsC (M ++ (b.take q).map fun y => (x, y)))) ∧ Hid (Below H W wi)) (fun _ i _ => lb - (intOf i).toNat)
      case atStart => exact ⟨0, Nat.zero_le _, rfl, HO', HB⟩
      clear HO'
      case round =>
        obtain ⟨q, hq, rfl, HO, HB2⟩ := hrel
        by_cases hql : q < lb
        · have hqL : q < b.length := by rw [HLB.out]; exact hql
          obtain ⟨bk2, o2, rfl, hbk2, hc2⟩ := int_at LB.out hqL
          obtain ⟨y, hy⟩ : ∃ x, b[q] = x := ⟨_, rfl⟩
          rw [hy] at hc2
          have hx1 := (HB2.out.cell (p := ⟨bk, o' + p, none⟩) HC.out.2).trans HC.out.1
          have hy1 := (HB2.out.cell (p := ⟨bk2, o2 + q, none⟩) (by rw [← HH.out]; exact hbk2)).trans hc2
          obtain ⟨av, cv, rfl, _⟩ := own_slice HO.out
          have HT : Hid ((b.take (q + 1)).map (fun y => (x, y)) = (b.take q).map (fun y => (x, y)) ++ [(x, y)]) := by
            show _ = _
            rw [List.take_succ_eq_append_getElem hqL, List.map_append, hy]
            rfl
          have hb1 := BG.out
          unfold Big at hb1
          have hlt : (M ++ (b.take q).map fun y => (x, y)).length + 1 ≤ 1099511627777 := by
            rw [List.length_append, List.length_map, List.length_take]
            omega
          obtain ⟨M2, hM2⟩ : ∃ M2, (M ++ (b.take q).map fun y => (x, y)) = M2 := ⟨_, rfl⟩
          rw [hM2] at hlt HO ⊢
          have HM2 := Lib.hid hM2
          have LB1 : Hid (M2.length + 1 ≤ maxLen) := by show _ ≤ maxLen; unfold maxLen; omega
          have LB2 : Hid ((M2.length + 1) * 16 ≤ 140737488355328) := by show _ ≤ 140737488355328; omega
          have hsz : H ≤ wr.heap.size := by have := HB2.out.size; rw [HH.out] at this; exact this
          clear hb1 hlt hM2 hy hc2 hbk2
          go_wp2_with fail
          go_region_law ((refine step_append_lies _ (by rfl) _ _ _ (by rfl) H 46 i0 _ 2 16 Tryd.underlying40 HI.out hz0 hz1 hz2 rfl (by omega) (.slice av M2.length cv) M2.length (pairsC M2) (by rfl) ((HO.out.alloc _).drew) ⟨wr.heap.size, 0, none⟩ 1 1 [.int .i64 x, .int .i64 y] (by rfl) (by rfl) (World.news_of_block (cs := #[.int .i64 x, .int .i64 y]) (t := 46) (fr := (0, 0)) (heap_alloc_new wr _)) (by simp [Value.oneCell']) (by omega) LB1.out LB2.out (by simp; omega) (wr.heap.size + 1) (by simp) ?_; intro gg cap' w3 hown1 hgrow hat hlt3))
          all_goals
            have HO2 : Hid (w3.ownsRow H 46 2 (.slice (some ⟨gg, 0, none⟩) (M2.length + 1) cap') (M ++ (b.take (q + 1)).map fun y => (x, y)).length (pairsC (M ++ (b.take (q + 1)).map fun y => (x, y)))) := by
              show World.ownsRow _ _ _ _ _ _ _
              rw [HT.out, ← List.append_assoc, HM2.out, pairsC_append, List.length_append]
              exact hown1
            have HB3 : Hid (Below H W w3) := below_on HB2.out HO.out (Nat.le_refl _) hsz (grown_drw hgrow)
            clear hown1 hgrow hat hlt3 HO HB2
            go_wp2
            go_roundw
            case rel => exact ⟨q + 1, by omega, by go_num, HO2, HB3⟩
            case measure => simp [intOf]; omega
        · have hqe : q = lb := by omega
          have HO2 : Hid (wr.ownsRow H 46 2 u5 (crossP (a.take (p + 1)) b).length (pairsC (crossP (a.take (p + 1)) b))) := by
            have := HO.out
            rw [List.take_of_length_le (by rw [HLB.out]; omega)] at this
            show World.ownsRow _ _ _ _ _ _ _
            rw [HP.out, HM.out]
            exact this
          clear HO
          go_wp2
          go_roundw
          case rel => exact ⟨p + 1, by omega, by go_num, HO2, HB2⟩
          case measure => simp [intOf]; omega
    · have hpe : p = la := by omega
      have HR : Hid (∃ v, u5 = v ∧ RowPr wr v (crossP a b)) := by
        have h1 := HO.out
        rw [List.take_of_length_le (by rw [HLA.out]; omega)] at h1
        exact ⟨_, rfl, (rowPr_own h1).1⟩
      clear HO
      go_wp2
      go_ret
      obtain ⟨v, e, h1⟩ := HR.out
      exact ⟨v, by rw [← e]; rfl, h1, HB.out⟩
end Ts
end Go.Proofs.YtiljpnghahkjhaaDoor

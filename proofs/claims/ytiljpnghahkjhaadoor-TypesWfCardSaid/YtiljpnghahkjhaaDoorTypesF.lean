/- Layer 7: pairs of regions: each of some with each of others. -/
import Derived.Deep.AppendLies
import Derived.Test.YtiljpnghahkjhaaDoorPairs
import Derived.Test.YtiljpnghahkjhaaDoorTypesD
import Derived.Test.YtiljpnghahkjhaaDoorTypesE
namespace Go.Proofs.YtiljpnghahkjhaaDoor
open Go.RowKit Go.Deep Tr
namespace Ts
/-- The row of the one isn't where the other slice lies. -/
def Apart (v va : Value) : Prop := ∀ bk o n c, va = .slice (some ⟨bk, o, none⟩) n c → 0 < n → v.ownBlock ≠ some bk
structure St (B : Nat) (W wr : World) (v : Value) (M : List (Int × Int)) (va vb : Value) (a b : List Int) : Prop where
  own : wr.ownsRow B 46 2 v M.length (pairsC M)
  kp : Kp 46 none B W wr
  ha : RowI wr va a
  hb : RowI wr vb b
  na : Apart v va
  nb : Apart v vb
  le : B ≤ wr.heap.size
theorem apart_step {w w' : World} {v : Value} {va : Value} {a : List Int} {g n cap H : Nat} (ha : RowI w va a) (hn : Apart v va) (hg : w.grownBy w' v.ownBlock) (hat : v.ownBlock = some g ∨ g = H) (hH : w.heap.size ≤ H) : RowI w' va a ∧ Apart (.slice (some ⟨g, 0, none⟩) n cap) va := by
  obtain ⟨A, c, rfl, hr, hz⟩ := rowI_cells ha
  obtain ⟨_, _, e, hl⟩ := ha
  injection e with e1 e2 e3
  subst e1
  have hle := hl.le
  by_cases h0 : 0 < a.length
  · obtain ⟨bk, o, rfl, hlt, _⟩ := hr (by rw [intsC_length]; exact h0)
    have hne := hn bk o a.length c rfl h0
    refine ⟨rowI_mk (row_kept hr hg.size fun bk' o' e hl' => ?_) hle, fun bk' o' n' c' e h0' e2 => ?_⟩
    · injection e with e
      injection e with e1 _ _
      subst e1
      exact hg.block _ hl' fun e => hne e.symm
    · injection e with e _ _
      injection e with e
      injection e with e1 _ _
      subst e1
      have e2 : g = bk := by simpa [Value.ownBlock] using e2
      subst e2
      rcases hat with h | h
      · exact hne h
      · omega
  · have : a = [] := List.eq_nil_of_length_eq_zero (by omega)
    subst this
    exact ⟨⟨A, c, rfl, ListAt.none _ _ _ _⟩, fun bk' o' n' c' e h0' => by injection e with _ e _; simp at e; omega⟩
theorem st_step {B : Nat} {W wr w' : World} {v : Value} {M : List (Int × Int)} {va vb : Value} {a b : List Int} {o : Obj} {g cap : Nat} {x y : Int} (h : St B W wr v M va vb a b) (hown : w'.ownsRow B 46 2 (.slice (some ⟨g, 0, none⟩) (M.length + 1) cap) (M.length + 1) (pairsC M ++ [.int .i64 x, .int .i64 y]))
    (hg : (wr.alloc o).grownBy w' v.ownBlock) (hat : v.ownBlock = some g ∨ g = wr.heap.size + 1) : St B W w' (.slice (some ⟨g, 0, none⟩) (M.length + 1) cap) (M ++ [(x, y)]) va vb a b := by
  have hb0 : Below wr.heap.size wr (wr.alloc o) := (Below.refl _ _).alloc (Nat.le_refl _) o
  obtain ⟨h1, h2⟩ := apart_step (n := M.length + 1) (cap := cap) (h.ha.below hb0) h.na hg hat (by simp)
  obtain ⟨h3, h4⟩ := apart_step (n := M.length + 1) (cap := cap) (h.hb.below hb0) h.nb hg hat (by simp)
  refine ⟨?_, (h.kp.alloc o).trans (Kp.own (h.own.alloc o) hg), h1, h3, h2, h4, Nat.le_trans (Nat.le_trans h.le (by simp)) hg.size⟩
  rw [pairsC_append, List.length_append]
  exact hown
set_option maxHeartbeats 8000000 in
set_option maxRecDepth 100000 in
theorem cross_any {B : Nat} {W : World} {v va vb : Value} {L : List (Int × Int)} {a b : List Int} (ho : W.ownsRow B 46 2 v L.length (pairsC L)) (hB : B ≤ W.heap.size) (ha : RowI W va a) (hb : RowI W vb b) (na : Apart v va) (nb : Apart v vb) (big : L.length + (crossP a b).length ≤ Big) :
    Calls Tryd.prog 43 #[v, va, vb] W fun e W' => ∃ v', e = .returned v' ∧ W'.ownsRow B 46 2 v' (L ++ crossP a b).length (pairsC (L ++ crossP a b)) ∧ Kp 46 none B W W' := by
  obtain ⟨i0, hi0, hz0, hz1, hz2⟩ := info_parts info_two
  have HI := Lib.hid hi0
  have hst : St B W W v L va vb a b := ⟨ho, Kp.refl _ _ _ _, ha, hb, na, nb, hB⟩
  have ST := Lib.hid hst
  have BIG := Lib.hid big
  obtain ⟨Aa, ca, rfl, hla⟩ := ha
  obtain ⟨Ab, cb, rfl, hlb⟩ := hb
  have hna := hla.le
  have hnb := hlb.le
  unfold maxLen at hna hnb
  obtain ⟨la, hla'⟩ : ∃ n, a.length = n := ⟨_, rfl⟩
  obtain ⟨lb, hlb'⟩ : ∃ n, b.length = n := ⟨_, rfl⟩
  have HLA := Lib.hid hla'
  have HLB := Lib.hid hlb'
  rw [hla'] at ST hna ⊢
  rw [hlb'] at ST hnb ⊢
  obtain ⟨av, cv, rfl, _⟩ := own_slice ho
  clear ho hB na nb big hst hla hlb hla' hlb' hi0
  go_enter Tryd.func43, Tryd.ntmps43
  go_wp2
  go_loopw [0, 13] (fun v i wr => ∃ p : Nat, p ≤ la ∧ i = .int .i64 p ∧ Hid (St B W wr v (L ++ crossP (a.take p) b) (.slice Aa la ca) (.slice Ab lb cb) a b)) (fun _ i _ => la - (intOf i).toNat)
  case atStart => exact ⟨0, Nat.zero_le _, rfl, by show St _ _ _ _ _ _ _ _ _; rw [List.take_zero, show crossP [] b = [] from rfl, List.append_nil]; exact ST.out⟩
  clear ST
  case round =>
    obtain ⟨p, hp, rfl, HS⟩ := hrel
    by_cases hpl : p < la
    · have hpL : p < a.length := by rw [HLA.out]; exact hpl
      obtain ⟨_, _, e0, hl0⟩ := HS.out.ha
      injection e0 with e1 e2 e3
      subst e1
      obtain ⟨bk, o', hAa, _, hc⟩ := int_at hl0 hpL
      obtain ⟨x, hx⟩ : ∃ x, a[p] = x := ⟨_, rfl⟩
      rw [hx] at hc
      subst hAa
      have HP : Hid (crossP (a.take (p + 1)) b = crossP (a.take p) b ++ b.map fun y => (x, y)) := by
        show _ = _
        rw [List.take_succ_eq_append_getElem hpL, crossP_append, hx]
        simp [crossP]
      have BG : Hid (L.length + (crossP (a.take p) b).length + lb ≤ Big) := by
        have h1 := BIG.out
        rw [crossP_length] at h1
        rw [crossP_length, List.length_take, Nat.min_eq_left (by omega), ← HLB.out]
        have : (p + 1) * b.length ≤ a.length * b.length := Nat.mul_le_mul_right _ hpL
        rw [Nat.succ_mul] at this
        show L.length + p * b.length + b.length ≤ Big
        omega
      obtain ⟨M, hM⟩ : ∃ M, L ++ crossP (a.take p) b = M := ⟨_, rfl⟩
      have HM := Lib.hid hM
      have HS' : Hid (St B W wr u0 (M ++ (b.take 0).map fun y => (x, y)) (.slice (some ⟨bk, o', none⟩) la ca) (.slice Ab lb cb) a b) := by
        show St _ _ _ _ _ _ _ _ _
        rw [List.take_zero, List.map_nil, List.append_nil, ← hM]
        exact HS.out
      clear HS hM hx e2 e3 hl0
      go_wp2
      clear hc
      go_loopw [0, 19] (fun v i wr => ∃ q : Nat, q ≤ lb ∧ i = .int .i64 q ∧ Hid (St B W wr v (M ++ (b.take q).map fun y => (x, y)) (.slice (some ⟨bk, o', none⟩) la ca) (.slice Ab lb cb) a b)) (fun _ i _ => lb - (intOf i).toNat)
      case atStart => exact ⟨0, Nat.zero_le _, rfl, HS'⟩
      clear HS'
      case round =>
        obtain ⟨q, hq, rfl, HS⟩ := hrel
        by_cases hql : q < lb
        · have hqL : q < b.length := by rw [HLB.out]; exact hql
          obtain ⟨_, _, e0, hl0⟩ := HS.out.hb
          injection e0 with e1 e2 e3
          subst e1
          obtain ⟨bk2, o2, hAb, _, hc⟩ := int_at hl0 hqL
          obtain ⟨y, hy⟩ : ∃ x, b[q] = x := ⟨_, rfl⟩
          rw [hy] at hc
          subst hAb
          obtain ⟨av, cv, rfl, _⟩ := own_slice HS.out.own
          have HT : Hid ((b.take (q + 1)).map (fun y => (x, y)) = (b.take q).map (fun y => (x, y)) ++ [(x, y)]) := by
            show _ = _
            rw [List.take_succ_eq_append_getElem hqL, List.map_append, hy]
            rfl
          have hb1 := BG.out
          have hM : L.length + (crossP (a.take p) b).length = M.length := by rw [← HM.out, List.length_append]
          unfold Big at hb1
          have hlen : (M ++ (b.take q).map fun y => (x, y)).length ≤ 1099511627776 := by
            rw [List.length_append, List.length_map, List.length_take]
            omega
          have hlt : (M ++ (b.take q).map fun y => (x, y)).length + 1 ≤ 1099511627777 := by omega
          obtain ⟨M2, hM2⟩ : ∃ M2, (M ++ (b.take q).map fun y => (x, y)) = M2 := ⟨_, rfl⟩
          rw [hM2] at hlt HS ⊢
          have HM2 := Lib.hid hM2
          have LB1 : Hid (M2.length + 1 ≤ maxLen) := by show _ ≤ maxLen; unfold maxLen; omega
          have LB2 : Hid ((M2.length + 1) * 16 ≤ 140737488355328) := by show _ ≤ 140737488355328; omega
          have LE : Hid (B ≤ (wr.alloc (.cells #[.int .i64 x, .int .i64 y] 46)).heap.size) := Nat.le_trans HS.out.le (by simp)
          have OO := Lib.hid (HS.out.own.alloc (.cells #[.int .i64 x, .int .i64 y] 46))
          clear hb1 hM hlen hlt hM2 hl0 e2 e3 hy
          go_wp2_with (at_builtin; refine wpList_append_lies _ rfl (.tmp 23) (.tmp 27) 40 rfl B 46 i0 (.agg #[.int .i64 0, .int .i64 0]) 2 16 Tryd.underlying40 HI.out hz0 hz1 hz2 rfl (by decide) _ M2.length (pairsC M2) rfl OO.out ⟨wr.heap.size, 0, none⟩ 1 1 [.int .i64 x, .int .i64 y] rfl rfl (cells_made wr _ [.int .i64 x, .int .i64 y]) ?c2 (by decide) LB1.out LB2.out LE.out (wr.heap.size + 1) ?c6 ?_)
          case c2 => intro u hu; simp at hu; rcases hu with rfl | rfl <;> rfl
          case c6 => simp
          intro g cap' w3 hown hgrow hat hlt
          have HS2 : Hid (St B W w3 (.slice (some ⟨g, 0, none⟩) (M2.length + 1) cap') (M ++ (b.take (q + 1)).map fun y => (x, y)) (.slice (some ⟨bk, o', none⟩) la ca) (.slice (some ⟨bk2, o2, none⟩) lb cb) a b) := by
            have := st_step HS.out hown hgrow hat
            show St _ _ _ _ _ _ _ _ _
            rw [HT.out, ← List.append_assoc, HM2.out]
            exact this
          clear hown hgrow hat hlt HS OO LE LB1 LB2 HT HM2 hc
          go_wp2
          go_roundw
          case rel => exact ⟨q + 1, by omega, by go_num, HS2⟩
          case measure => simp [intOf]; omega
        · have hqe : q = lb := by omega
          have HS2 : Hid (St B W wr u0 (L ++ crossP (a.take (p + 1)) b) (.slice (some ⟨bk, o', none⟩) la ca) (.slice Ab lb cb) a b) := by
            have := HS.out
            rw [List.take_of_length_le (by rw [HLB.out]; omega)] at this
            show St _ _ _ _ _ _ _ _ _
            rw [HP.out, ← List.append_assoc, HM.out]
            exact this
          clear HS
          go_wp2
          go_roundw
          case rel => exact ⟨p + 1, by omega, by go_num, HS2⟩
          case measure => simp [intOf]; omega
    · have hpe : p = la := by omega
      have HR : Hid (∃ v', u0 = v' ∧ wr.ownsRow B 46 2 v' (L ++ crossP a b).length (pairsC (L ++ crossP a b)) ∧ Kp 46 none B W wr) := by
        have h1 := HS.out
        rw [List.take_of_length_le (by rw [HLA.out]; omega)] at h1
        exact ⟨_, rfl, h1.own, h1.kp⟩
      clear HS
      go_wp2
      go_ret
      obtain ⟨v', e, h1, h2⟩ := HR.out
      exact ⟨v', by rw [← e]; rfl, h1, h2⟩
end Ts
end Go.Proofs.YtiljpnghahkjhaaDoor

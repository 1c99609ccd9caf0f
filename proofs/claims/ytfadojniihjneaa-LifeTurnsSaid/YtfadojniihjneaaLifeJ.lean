/- The walk of layer 6's law LifeTurns. -/
import Derived.Test.YtfadojniihjneaaLifeS
import Derived.Test.YtfadojniihjneaaLifeO
namespace Go.Proofs.Ytfadojniihjneaa
open Go.RowKit Lf Go.Deep
def pairI : List (Int × Int) → List Value
  | [] => []
  | p :: P => .int .i64 p.1 :: .int .i64 p.2 :: pairI P
theorem pairI_append (P : List (Int × Int)) (x y : Int) : pairI (P ++ [(x, y)]) = pairI P ++ [.int .i64 x, .int .i64 y] := by
  induction P with
  | nil => rfl
  | cons p P ih => simp only [List.cons_append, pairI, ih]
theorem pairI_at : ∀ (P : List (Int × Int)) (i : Nat) (h : i < P.length), (pairI P)[i * 2]? = some (.int .i64 P[i].1) ∧ (pairI P)[i * 2 + 1]? = some (.int .i64 P[i].2)
  | [], i, h => by cases h
  | p :: P, 0, _ => ⟨rfl, rfl⟩
  | p :: P, i + 1, h => by
    have := pairI_at P i (by simpa using h)
    rw [show (i + 1) * 2 = i * 2 + 1 + 1 by omega]
    simpa [pairI] using this
theorem own_pairsI {w : World} {base : Nat} {A : Option Addr} {n cap : Nat} {P : List (Int × Int)} (h : w.ownsRow base 40 2 (.slice A n cap) n (pairI P)) (hP : P.length = n) : PAt w A P := fun h0 => by
  obtain ⟨g, cp, hv, _, hl⟩ := h.form (by omega)
  injection hv with hA
  subst hA
  have hc := h.cells (g := g) rfl
  refine ⟨g, 0, rfl, hl, fun i hi => ?_⟩
  obtain ⟨a, b⟩ := pairI_at P i hi
  have e1 := hc _ _ a
  have e2 := hc _ _ b
  rw [show (⟨g, 0, none⟩ : Addr).add (i * 2) = ⟨g, 0 + i * 2, none⟩ from by unfold Addr.add; split <;> simp_all] at e1
  rw [show (⟨g, 0, none⟩ : Addr).add (i * 2 + 1) = ⟨g, 0 + i * 2 + 1, none⟩ from by unfold Addr.add; split <;> simp_all [Nat.add_assoc]] at e2
  exact ⟨e1, e2⟩
theorem vp_reverse (m : Nat) (L : List (Int × Int)) (p : Nat × Nat) : p ∈ vp m L.reverse ↔ p ∈ vp m L := by
  unfold vp
  simp only [List.mem_map, List.mem_filter, List.mem_reverse]
theorem allP_mem {M : R2} {m : Nat} (hm : 0 < m) {p : Nat × Nat} (h : p ∈ allP M m (m - 1)) : p.1 < m ∧ p.2 < m ∧ M p.1 p.2 = true := by
  unfold allP rowP at h
  obtain ⟨j, hj, h⟩ := List.mem_flatMap.1 h
  obtain ⟨b, hb, rfl⟩ := List.mem_map.1 h
  obtain ⟨h1, h2⟩ := List.mem_filter.1 hb
  have := List.mem_range.1 hj
  have := List.mem_range.1 h1
  simp at h2
  exact ⟨by show j + 1 < m; omega, by show b < m; omega, h2.2⟩
/-- The last k of a text's pairs, the last one first. -/
def backL (L : List (Int × Int)) (k : Nat) : List (Int × Int) := L.reverse.take k
theorem backL_step {L : List (Int × Int)} {k i : Nat} (h : i + 1 + k = L.length) {x y : Int} (e : L[i]'(by omega) = (x, y)) : backL L (k + 1) = backL L k ++ [(x, y)] := by
  unfold backL
  have hk : k < L.reverse.length := by rw [List.length_reverse]; omega
  rw [List.take_succ_eq_append_getElem hk]
  congr 2
  rw [List.getElem_reverse]
  rw [← e]
  congr 1
  omega
set_option maxHeartbeats 4000000 in
set_option maxRecDepth 100000 in
theorem lifeTurns_walk (a : Int) (A : Option Addr) (L : List (Int × Int)) (cp : Nat) (x : Int) (w : World) (hL : PAt w A L) :
    Calls Try.prog 6 #[.int .i64 a, .slice A L.length cp, .int .i64 x] w fun e w' => e = .returned (.bool true) ∧ Below w.heap.size w w' := by
  obtain ⟨i0, hi0, hz0, hz1, hz2⟩ := info_parts info_two
  have HI := Lib.hid hi0
  have HL := Lib.hid hL
  obtain ⟨H, hH⟩ : ∃ x, w.heap.size = x := ⟨_, rfl⟩
  have HH := Lib.hid hH
  rw [hH]
  clear hH hL hi0
  by_cases hout : a < 0 ∨ (0 ≤ a ∧ 20 < a) ∨ (0 ≤ a ∧ a ≤ 20 ∧ 40 < L.length)
  · rcases hout with h1 | ⟨h1, h2⟩ | ⟨h1, h2, h3⟩
    all_goals
      go_enter Try.func6, Try.ntmps6
      go_wp2_with fail
      refine (outlived_any _).mono ?_
      rintro e w1 ⟨rfl, q1⟩
      go_wp2_with fail
      refine (outlived_any _).mono ?_
      rintro e w2 ⟨rfl, q2⟩
      go_wp2
      go_ret
      have := q1.trans (q2.mono q1.size)
      rw [HH.out] at this
      exact ⟨rfl, this⟩
  · have h0 : 0 ≤ a := by omega
    have h12 : a ≤ 20 := by omega
    have hn : L.length ≤ 40 := by omega
    obtain ⟨m, ham⟩ : ∃ m : Nat, a + 1 = m := ⟨(a + 1).toNat, by omega⟩
    have hmp : 0 < m := by omega
    have hm : m ≤ 21 := by omega
    clear hout
    go_enter Try.func6, Try.ntmps6
    go_wp2_with fail
    refine (outlived_any _).mono ?_
    rintro e w1 ⟨rfl, q1⟩
    rw [HH.out] at q1
    have Q1 := Lib.hid q1
    clear q1
    go_wp2_with fail
    refine (both_any w1 A L cp h0 (by omega) ham (HL.out.below (by rw [HH.out]; exact Q1.out)) (by omega)).mono ?_
    rintro e w2 ⟨c, cap, ao, rfl, hb⟩
    obtain ⟨H1, hH1⟩ : ∃ x, w1.heap.size = x := ⟨_, rfl⟩
    have hHH : H ≤ H1 := by have := Q1.out.size; have := HH.out; omega
    rw [hH1] at hb ⊢
    obtain ⟨M, hM⟩ : ∃ M, all stat (vp m L) = M := ⟨_, rfl⟩
    have HOK : Hid (Ok M) := by show Ok M; rw [← hM]; exact all_ok _ stat_ok
    have HMR : Hid (all stat (vp m L.reverse) = M) := by
      show all stat (vp m L.reverse) = M
      rw [← hM]
      exact all_congr stat_ok (vp_reverse m L)
    have hb1 := hb.rel
    rw [hM] at hb1
    have R0 := Lib.hid hb1
    have Q2 := Lib.hid (Q1.out.trans (hb.since.mono hHH))
    have L2 : Hid (H ≤ w2.heap.size) := by have := Q2.out.size; have := HH.out; show H ≤ w2.heap.size; omega
    obtain ⟨P, hP⟩ : ∃ P, allP M m (m - 1) = P := ⟨_, rfl⟩
    have HP := Lib.hid hP
    have ALEN : Hid (P.length ≤ 100000) := by have := allP_few M (m := m) (i := m - 1) (by omega) (by omega); rw [hP] at this; show _ ≤ _; omega
    have PMEM : Hid (∀ p ∈ P, p.1 < m ∧ p.2 < m ∧ M p.1 p.2 = true) := fun p hp => allP_mem hmp (by rw [hP]; exact hp)
    obtain ⟨n, hln⟩ : ∃ n, L.length = n := ⟨_, rfl⟩
    have HLN := Lib.hid hln
    rw [hln] at hn ⊢
    obtain ⟨H2, hH2⟩ : ∃ x, w2.heap.size = x := ⟨_, rfl⟩
    have HH2 := Lib.hid hH2
    clear hb hb1 hM hP hH1 hln hH2
    go_wp2
    go_loopw [10, 11] (fun v i wr => ∃ (k : Nat) (j : Int), k ≤ n ∧ i = .int .i64 j ∧ j + 1 + k = n ∧ Hid (wr.ownsRow H2 40 2 v k (pairI (backL L k))) ∧ Hid (Below H2 w2 wr)) (fun _ i _ => (intOf i + 1).toNat)
    case atStart => exact ⟨0, (n : Int) - 1, Nat.zero_le _, by go_num, by omega, ⟨rfl, .inl ⟨rfl, rfl⟩⟩, by rw [← HH2.out]; exact Below.refl _ _⟩
    case round =>
      obtain ⟨k, j, hk, rfl, hjk, HO, HB⟩ := hrel
      by_cases hj0 : 0 ≤ j
      · obtain ⟨i, hji⟩ : ∃ i : Nat, j = i := ⟨j.toNat, by omega⟩
        subst hji
        have hin : i < n := by omega
        have LW := Lib.hid (HL.out.below (by rw [HH.out]; exact Q2.out.trans (HB.out.mono (by have := L2.out; rw [HH2.out] at this; exact this))) : PAt wr A L)
        have hil : i < L.length := by rw [HLN.out]; exact hin
        obtain ⟨pb, po, hA, hpb, hcell⟩ := LW.out (by omega)
        obtain ⟨cx, cy⟩ := hcell i hil
        obtain ⟨u, v, huv⟩ : ∃ u v, L[i] = (u, v) := ⟨_, _, rfl⟩
        have HST := Lib.hid (backL_step (k := k) (by rw [HLN.out]; omega) huv)
        rw [huv] at cx cy
        have hsz : H2 ≤ wr.heap.size := by have := HB.out.size; have := HH2.out; omega
        obtain ⟨ab, cb, rfl⟩ := own_slice HO.out
        subst hA
        have hne : pb ≠ wr.heap.size := by omega
        clear hcell huv hil
        go_wp2_with (at_builtin; refine wpList_append_own _ rfl (.tmp 49) (.tmp 54) 22 rfl H2 40 i0 (.agg #[.int .i64 0, .int .i64 0]) 2 16 Try.underlying22 HI.out hz0 hz1 hz2 rfl (by decide) _ _ _ rfl (HO.out.alloc _) ⟨wr.heap.size, 0, none⟩ 1 1 [.int .i64 u, .int .i64 v] rfl rfl ?c1 ?c2 ?c3 ?c4 ?c5 ?_)
        case c2 => exact ⟨rfl, rfl⟩
        case c3 => unfold maxLen; omega
        case c4 => omega
        case c5 => omega
        intro v2 w3 hown2 hgr _
        have HS : Hid (w3.ownsRow H2 40 2 v2 (k + 1) (pairI (backL L (k + 1)))) := by
          show World.ownsRow _ _ _ _ _ _ _
          rw [HST.out, pairI_append]
          exact hown2
        have HT : Hid (Below H2 w2 w3) := below_on HB.out HO.out (Nat.le_refl _) hsz hgr
        clear hown2 hgr
        go_wp2
        go_roundw
        case rel => exact ⟨k + 1, (i : Int) - 1, by omega, by go_num, by omega, HS, HT⟩
        case measure => simp [intOf]
      · have hkn : k = n := by omega
        have hjm : j < 0 := by omega
        obtain ⟨ab, cb, rfl⟩ := own_slice HO.out
        have hrl : L.reverse.length = n := by rw [List.length_reverse]; exact HLN.out
        have ho : wr.ownsRow H2 40 2 (.slice ab n cb) n (pairI L.reverse) := by
          have h1 := HO.out
          rw [hkn, show backL L n = L.reverse from List.take_of_length_le (by omega)] at h1
          exact h1
        have hbo := both_any wr ab L.reverse cb h0 (by omega) ham (own_pairsI ho hrl) (by omega)
        rw [hrl] at hbo
        have HBO := Lib.hid hbo
        have RW := Lib.hid (R0.out.below (by rw [HH2.out]; exact HB.out))
        have QW := Lib.hid (Q2.out.trans (HB.out.mono (by have := L2.out; rw [HH2.out] at this; exact this)))
        have LW : Hid (H ≤ wr.heap.size) := by have := QW.out.size; have := HH.out; show H ≤ wr.heap.size; omega
        have hkn' : (k : Int) = (n : Int) := by omega
        clear hbo ho hrl
        subst hkn
        go_wp2_with fail
        refine HBO.out.mono ?_
        rintro e w4 ⟨c2, cap2, ao2, rfl, hb⟩
        obtain ⟨H4, hH4⟩ : ∃ x, wr.heap.size = x := ⟨_, rfl⟩
        rw [hH4] at hb ⊢
        have hb1 := hb.rel
        rw [HMR.out] at hb1
        have R4 := Lib.hid (RW.out.below (by rw [hH4]; exact hb.since))
        have T4 := Lib.hid hb1
        have Q4 := Lib.hid (QW.out.trans (hb.since.mono (by have := LW.out; rw [hH4] at this; exact this)))
        have L4 : Hid (H ≤ w4.heap.size) := by have := Q4.out.size; have := HH.out; show H ≤ w4.heap.size; omega
        clear hb hb1 hH4
        go_wp2_with fail
        refine (pairs_any R4.out).mono ?_
        rw [HP.out]
        rintro e w5 ⟨v5, rfl, q1, q2⟩
        obtain ⟨A5, c5, rfl⟩ := own_slice q1
        have U5 := Lib.hid (own_at q1)
        have R5 := Lib.hid (R4.out.below q2)
        have T5 := Lib.hid (T4.out.below q2)
        have Q5 := Lib.hid (Q4.out.trans (q2.mono L4.out))
        have L5 : Hid (H ≤ w5.heap.size) := Nat.le_trans L4.out q2.size
        clear q1 q2
        go_wp2_with fail
        refine (pairs_any T5.out).mono ?_
        rw [HP.out]
        rintro e w6 ⟨v6, rfl, q1, q2⟩
        obtain ⟨A6, c6, rfl⟩ := own_slice q1
        have U6 := Lib.hid (own_at q1)
        have U5' := Lib.hid (U5.out.below q2)
        have R6 := Lib.hid (R5.out.below q2)
        have Q6 := Lib.hid (Q5.out.trans (q2.mono L5.out))
        have L6 : Hid (H ≤ w6.heap.size) := Nat.le_trans L5.out q2.size
        clear q1 q2
        go_wp2_with fail
        refine (same_pairs _ ALEN.out A5 A6 c5 c6 U5'.out U6.out).mono ?_
        rintro e w7 ⟨rfl, q7, rfl⟩
        go_wp2_with fail
        refine (pairs_any (R6.out.drewN q7)).mono ?_
        rw [HP.out]
        rintro e w8 ⟨v8, rfl, q1, q2⟩
        obtain ⟨A8, c8, rfl⟩ := own_slice q1
        have R8 := Lib.hid ((R6.out.drewN q7).below q2)
        have Q8 := Lib.hid ((below_drewN Q6.out q7).trans (q2.mono (show H ≤ w6.heap.size from L6.out)))
        have L8 : Hid (H ≤ w8.heap.size) := Nat.le_trans L6.out q2.size
        have RLT : Hid (∀ i, i < m → H1 + 2 + i < (w6.drewN q7).heap.size) := fun i hi => (R6.out.drewN q7).lt2 hi
        obtain ⟨B8, hB8⟩ : ∃ x, (w6.drewN q7).heap.size = x := ⟨_, rfl⟩
        rw [hB8] at q1 RLT
        have O8 := Lib.hid q1
        clear q1 q2 hB8
        obtain ⟨np, hnp⟩ : ∃ n, P.length = n := ⟨_, rfl⟩
        have HNP := Lib.hid hnp
        rw [hnp] at O8 ⊢
        clear hnp
        by_cases hz : np = 0
        · subst hz
          go_wp2_with fail
          refine (pairs_any R8.out).mono ?_
          rw [HP.out]
          rintro e w9 ⟨v9, rfl, q1, q2⟩
          obtain ⟨A9, c9, rfl⟩ := own_slice q1
          have U9 := Lib.hid (own_at q1)
          have U8 := Lib.hid ((own_at O8.out).below q2)
          have Q9 := Lib.hid (Q8.out.trans (q2.mono L8.out))
          clear q1 q2
          have HSP := Lib.hid (same_pairs _ ALEN.out A9 A8 c9 c8 U9.out U8.out)
          rw [HNP.out] at HSP
          rw [HNP.out]
          go_wp2_with fail
          refine HSP.out.mono ?_
          rintro e w10 ⟨rfl, q10, rfl⟩
          go_wp2
          go_ret
          exact ⟨rfl, below_drewN Q9.out q10⟩
        · have hnp0 : 0 < np := by omega
          have hnpu : IntKind.u64.wrap (np : Int) = np := by
            have h1 := ALEN.out
            have h2 := HNP.out
            simp only [IntKind.wrap, IntKind.signed, IntKind.bits]
            simp
            omega
          obtain ⟨k8, hk8, hk8n⟩ := idx x hnp0 (by have := ALEN.out; have := HNP.out; omega)
          have hkP : k8 < P.length := by rw [HNP.out]; exact hk8n
          obtain ⟨u, v, huv⟩ : ∃ u v, P[k8] = (u, v) := ⟨_, _, rfl⟩
          obtain ⟨hu, hv, hMuv⟩ := PMEM.out _ (List.getElem_mem hkP)
          rw [huv] at hu hv hMuv
          obtain ⟨p1, p2⟩ := pairC_at P k8 hkP
          rw [huv] at p1 p2
          have hpos : 0 < (pairC P).length := by
            rw [List.getElem?_eq_some_iff] at p1
            obtain ⟨h, _⟩ := p1
            omega
          obtain ⟨g8, rfl, hg8, e8⟩ := own_at O8.out hpos
          have d1 := e8 _ _ p1
          have d2 := e8 _ _ p2
          have HMUV := Lib.hid hMuv
          have LALEN := ALEN.out
          rw [HNP.out] at LALEN
          clear hnpu hkP huv p1 p2 e8 hMuv hpos
          go_wp2_with fail
          have q9 : Below w8.heap.size w8 (w8.alloc (.cells #[.int .i64 u, .int .i64 v] 40)) := (Below.refl _ w8).alloc (Nat.le_refl _) _
          have R9 := Lib.hid (R8.out.below q9)
          have O9 := Lib.hid (own_below O8.out q9)
          have Q9 := Lib.hid (Q8.out.trans (q9.mono L8.out))
          have L9 : Hid (H ≤ (w8.alloc (.cells #[.int .i64 u, .int .i64 v] 40)).heap.size) := Nat.le_trans L8.out q9.size
          clear q9 d1 d2 hk8
          refine (add_any R9.out HOK.out hu hv).mono ?_
          rw [plus_known HOK.out HMUV.out]
          rintro e w10 ⟨rfl, q1, q2⟩
          have R10 := Lib.hid q1
          have O10 := Lib.hid (own_of_block O9.out fun g hg => q2.block g (by
            rintro ⟨i, hi, rfl⟩
            have h1 := RLT.out i hi
            have h2 := (O9.out.lt _ hg).1
            have h3 : B8 ≤ H1 + 2 + i := h2
            omega))
          have Q10 := Lib.hid (Q9.out.trans ((rows_below q2).mono hHH))
          have L10 : Hid (H ≤ w10.heap.size) := by show H ≤ w10.heap.size; rw [q2.size]; exact L9.out
          clear q1 q2
          go_wp2_with fail
          refine (pairs_any R10.out).mono ?_
          rw [HP.out]
          rintro e w11 ⟨v11, rfl, q1, q2⟩
          obtain ⟨A11, c11, rfl⟩ := own_slice q1
          have U11 := Lib.hid (own_at q1)
          have U8 := Lib.hid ((own_at O10.out).below q2)
          have Q11 := Lib.hid (Q10.out.trans (q2.mono L10.out))
          clear q1 q2
          have HSP := Lib.hid (same_pairs _ ALEN.out A11 (some ⟨g8, 0, none⟩) c11 c8 U11.out U8.out)
          rw [HNP.out] at HSP
          rw [HNP.out]
          go_wp2_with fail
          refine HSP.out.mono ?_
          rintro e w12 ⟨rfl, q12, rfl⟩
          go_wp2
          go_ret
          exact ⟨rfl, below_drewN Q11.out q12⟩
end Go.Proofs.Ytfadojniihjneaa

/- The walk of layer 12's law SolveTurns. -/
import Derived.Test.YtbflkaaenoeniaaDoorSolN
namespace Go.Proofs.YtbflkaaenoeniaaDoor
open Go.RowKit Lf Go.Deep Tr
namespace Sv
theorem info_op : (Tryd.prog.info? 35).map (fun i => (i.zero, i.size, i.bytes)) = some (some (.agg #[.bool false, .int .i64 0, .int .i64 0]), 3, 24) := by kernel_rfl
def opsC (l : List Opn) : List Value := l.flatMap fun o => [.bool o.1, .int .i64 o.2.1, .int .i64 o.2.2]
theorem opsC_snoc (l : List Opn) (o : Opn) : opsC (l ++ [o]) = opsC l ++ [.bool o.1, .int .i64 o.2.1, .int .i64 o.2.2] := by simp [opsC]
theorem opsC_length : ∀ l : List Opn, (opsC l).length = l.length * 3
  | [] => rfl
  | o :: l => by
    have : opsC (o :: l) = [.bool o.1, .int .i64 o.2.1, .int .i64 o.2.2] ++ opsC l := rfl
    rw [this, List.length_append, opsC_length l]
    simp
    omega
theorem opsC_one (l : List Opn) : ∀ u ∈ opsC l, u.oneCell' = true := by
  intro u hu
  obtain ⟨o, _, h⟩ := List.mem_flatMap.1 hu
  simp at h
  rcases h with rfl | rfl | rfl <;> rfl
theorem opsC_at : ∀ (l : List Opn) (i : Nat) (h : i < l.length), OpAt l[i] (((opsC l).drop (i * 3)).take 3)
  | [], i, h => by cases h
  | o :: l, 0, _ => rfl
  | o :: l, i + 1, h => by
    have e : opsC (o :: l) = [.bool o.1, .int .i64 o.2.1, .int .i64 o.2.2] ++ opsC l := rfl
    have := opsC_at l i (by simpa using h)
    rw [e, Nat.add_mul, Nat.one_mul, Nat.add_comm (i * 3) 3, ← List.drop_drop]
    simpa using this
theorem rev_at {L : List Opn} {k : Nat} (h : k < L.length) {o : Opn} (e : L[L.length - 1 - k]'(by omega) = o) : L.reverse.take (k + 1) = L.reverse.take k ++ [o] := by
  rw [List.take_succ_eq_append_getElem (by rw [List.length_reverse]; exact h)]
  rw [List.getElem_reverse, e]
theorem all_same {l m : List (Nat × Nat)} (h : ∀ p, p ∈ l ↔ p ∈ m) : all eqR l = all eqR m := all_congr eqR_ok h
theorem GG_rev (n m : Nat) (L : List Opn) : GG n m L.reverse = GG n m L := by
  have hm : ∀ x, x ∈ L.reverse ↔ x ∈ L := fun x => List.mem_reverse
  funext e r
  rw [Bool.eq_iff_iff]
  exact ⟨GG_mono fun x hx => (hm x).1 hx, GG_mono fun x hx => (hm x).2 hx⟩
section
variable {w : World} {n m : Int} {A : Option Addr} {L : List Opn} {cp : Nat}
theorem solveTurns_not (hT : TabAt w) (h : ¬(0 ≤ n ∧ n ≤ 12 ∧ 0 ≤ m ∧ m ≤ 150 ∧ L.length ≤ 60)) :
    Calls Tryd.prog 4 #[.int .i64 n, .int .i64 m, .slice A L.length cp] w fun e w' => e = .returned (.bool true) ∧ Below w.heap.size w w' := by
  have HT := Lib.hid hT
  have HN := Lib.hid h
  clear hT h
  go_enter Tryd.func4, Tryd.ntmps4
  go_wp2_with fail
  refine (solved_any HT.out).mono ?_
  rintro e w1 ⟨rfl, q1⟩
  have B1 := Lib.hid q1
  have T1 := Lib.hid (HT.out.below q1 HT.out.pos)
  clear q1
  go_wp2_with fail
  refine (small_no HN.out _).mono ?_
  rintro e w2 ⟨rfl, rfl⟩
  go_wp2_with fail
  refine (solved_any T1.out).mono ?_
  rintro e w2 ⟨rfl, q2⟩
  have B2 := Lib.hid (B1.out.trans (q2.mono B1.out.size))
  clear q2
  go_wp2
  go_ret
  exact ⟨rfl, B2.out⟩
set_option maxHeartbeats 8000000 in
set_option maxRecDepth 100000 in
theorem solveTurns_small {n m : Nat} (hT : TabAt w) (hL : ListAt w 3 OpAt A L) (h1 : n ≤ 12) (h2 : m ≤ 150) (h3 : L.length ≤ 60) :
    Calls Tryd.prog 4 #[.int .i64 n, .int .i64 m, .slice A L.length cp] w fun e w' => e = .returned (.bool true) ∧ Below w.heap.size w w' := by
  obtain ⟨i0, hi0, hz0, hz1, hz2⟩ := info_parts info_op
  have HI := Lib.hid hi0
  have HT := Lib.hid hT
  have HL := Lib.hid hL
  clear hT hL hi0
  go_enter Tryd.func4, Tryd.ntmps4
  go_wp2_with fail
  refine (solved_any HT.out).mono ?_
  rintro e w1 ⟨rfl, q1⟩
  have B1 := Lib.hid q1
  have T1 := Lib.hid (HT.out.below q1 HT.out.pos)
  have L1 := Lib.hid (HL.out.below q1 fun _ _ _ h => h)
  clear q1
  go_wp2_with fail
  refine (small_yes (by omega) (by omega) (by omega) (by omega) h3 _).mono ?_
  rintro e w2 ⟨rfl, rfl⟩
  obtain ⟨H, hH⟩ : ∃ x, w1.heap.size = x := ⟨_, rfl⟩
  have HH := Lib.hid hH
  obtain ⟨ln, hln⟩ : ∃ q, L.length = q := ⟨_, rfl⟩
  have HLN := Lib.hid hln
  rw [hln] at h3 ⊢
  clear hH hln
  go_wp2
  go_loopw [7, 8] (fun v i wr => ∃ k : Nat, k ≤ ln ∧ i = .int .i64 ((ln : Int) - 1 - k) ∧ Hid (wr.ownsRow H 35 3 v k (opsC (L.reverse.take k))) ∧ Hid (Below H w1 wr)) (fun _ i _ => (intOf i + 1).toNat)
  case atStart => exact ⟨0, Nat.zero_le _, by go_num, ⟨rfl, .inl ⟨rfl, rfl⟩⟩, by rw [← HH.out]; exact Below.refl _ _⟩
  case round =>
    obtain ⟨k, hk, rfl, HO, HB⟩ := hrel
    by_cases hkl : k < ln
    · obtain ⟨j, hj⟩ : ∃ j : Nat, ln - 1 - k = j := ⟨_, rfl⟩
      have hji : (ln : Int) - 1 - (k : Int) = (j : Int) := by omega
      have hjl : j < L.length := by rw [HLN.out]; omega
      rw [hji]
      obtain ⟨bk, o, p, x, y, rfl, hpx, x0, x1, x2⟩ := op_at L1.out HB.out HH.out hjl
      obtain ⟨oo, co, rfl, _⟩ := own_slice HO.out
      have HTK := Lib.hid (rev_at (L := L) (k := k) (by rw [HLN.out]; exact hkl) (o := (p, x, y)) (by
        have e : L.length - 1 - k = j := by rw [HLN.out]; exact hj
        rw [← hpx]
        congr 1))
      have hsz : H ≤ wr.heap.size := by have := HB.out.size; have := HH.out; omega
      have hb1 : k + 1 ≤ maxLen := by unfold maxLen; omega
      have HB1 := Lib.hid hb1
      clear hpx hj hb1
      go_wp2_with (at_builtin; refine wpList_append_own _ rfl (.tmp 36) (.tmp 41) 22 rfl H 35 i0 (.agg #[.bool false, .int .i64 0, .int .i64 0]) 3 24 Tryd.underlying22 HI.out hz0 hz1 hz2 rfl (by decide) _ _ _ rfl (HO.out.alloc _) ⟨wr.heap.size, 0, none⟩ 1 1 [.bool p, .int .i64 x, .int .i64 y] rfl rfl ?c1 ?c2 ?c3 ?c4 ?c5 ?_)
      case c1 => exact cells_made _ _ _
      case c2 => simp [Value.oneCell']
      case c3 => exact HB1.out
      case c4 => omega
      case c5 => simp; omega
      intro v2 w2 hown2 hgr _
      have HS : Hid (w2.ownsRow H 35 3 v2 (k + 1) (opsC (L.reverse.take (k + 1)))) := by
        show World.ownsRow _ _ _ _ _ _ _
        rw [HTK.out, opsC_snoc]
        exact hown2
      have HS2 : Hid (Below H w1 w2) := below_on HB.out HO.out (Nat.le_refl _) hsz hgr
      clear hown2 hgr HO HB x0 x1 x2
      go_wp2
      go_roundw
      case rel => exact ⟨k + 1, by omega, by go_num, HS, HS2⟩
      case measure => simp [intOf]
    · have hkm : k = ln := by omega
      subst hkm
      obtain ⟨oo, co, rfl, _⟩ := own_slice HO.out
      have LB : Hid (ListAt wr 3 OpAt oo L.reverse) := by
        have ht : L.reverse.take k = L.reverse := List.take_of_length_le (by rw [List.length_reverse, HLN.out]; exact Nat.le_refl _)
        have ho := HO.out
        rw [ht] at ho
        exact own_list ho (by rw [List.length_reverse, HLN.out]) (opsC_one _) (opsC_at _)
      have B2 := Lib.hid (B1.out.trans (HB.out.mono (by rw [← HH.out]; exact B1.out.size)))
      have T2 := Lib.hid (T1.out.below HB.out (by rw [← HH.out]; exact T1.out.pos))
      have L2 := Lib.hid (L1.out.below (by rw [HH.out]; exact HB.out) fun _ _ _ h => h)
      have tl1 := told_any T2.out (n := n) (m := m) (by omega) (by omega) cp L2.out (by rw [HLN.out]; omega)
      rw [HLN.out] at tl1
      have TL1 := Lib.hid tl1
      clear tl1 HO HB
      have hneg : (k : Int) - 1 - (k : Int) = -1 := by omega
      rw [hneg]
      go_wp2_with fail
      refine TL1.out.mono ?_
      rintro e w2 ⟨b, vo, vp, rfl, q2⟩
      have B3 := Lib.hid (B2.out.trans (q2.since.mono B2.out.size))
      have KN := Lib.hid q2.knows
      have T3 := Lib.hid (T2.out.below q2.since T2.out.pos)
      have LB3 := Lib.hid (LB.out.below q2.since fun _ _ _ h => h)
      have tl2 := told_any T3.out (n := n) (m := m) (by omega) (by omega) co LB3.out (by rw [List.length_reverse, HLN.out]; omega)
      rw [List.length_reverse, HLN.out] at tl2
      have TL2 := Lib.hid tl2
      clear q2 TL1 tl2
      go_wp2_with fail
      refine TL2.out.mono ?_
      rintro e w3 ⟨b', vo', vp', rfl, q3⟩
      have B4 := Lib.hid (B3.out.trans (q3.since.mono B3.out.size))
      have KN' := Lib.hid q3.knows
      have KS : Hid (0 < n → ∃ b1 b2 O I M, Knows w3 b b1 b2 O I n m M (GG n m L)) := fun h0 => by
        obtain ⟨b1, b2, O, I, hk, _⟩ := KN.out h0
        exact ⟨b1, b2, O, I, _, hk.below q3.since⟩
      have KT : Hid (0 < n → ∃ b1 b2 O I M, Knows w3 b' b1 b2 O I n m M (GG n m L)) := fun h0 => by
        obtain ⟨b1, b2, O, I, hk, _⟩ := KN'.out h0
        have e : inn (puts n m L.reverse) (all eqR (outs n L.reverse)) = GG n m L := GG_rev n m L
        rw [e] at hk
        exact ⟨b1, b2, O, I, _, hk⟩
      have MO : Hid (∀ e r, GG n m L e r = true → GG n m L e r = true) := fun e r h => h
      obtain ⟨G, hG⟩ : ∃ G, GG n m L = G := ⟨_, rfl⟩
      rw [hG] at KS KT MO
      clear q3 KN KN' T1 T2 T3 L1 L2 LB LB3 HL HT B1 B2 B3 hG TL2
      go_wp2
      go_loopw [17] (fun i wr => ∃ k : Nat, k ≤ n ∧ i = .int .i64 k ∧ wr = w3) (fun i _ => n - (intOf i).toNat)
      case atStart => exact ⟨0, Nat.zero_le _, rfl, rfl⟩
      case round =>
        obtain ⟨k, hk, rfl, rfl⟩ := hrel
        by_cases hkn : k < n
        · obtain ⟨b1, b2, O, I, M, h1⟩ := KS.out (by omega)
          obtain ⟨c1, c2, O', I', M', h2⟩ := KT.out (by omega)
          have K1 := Lib.hid h1
          have K2 := Lib.hid h2
          clear h1 h2
          go_wp2
          go_loopw [18] (fun i wi => ∃ q : Nat, q ≤ m ∧ i = .int .i64 q ∧ wi = wr) (fun i _ => m - (intOf i).toNat)
          case atStart => exact ⟨0, Nat.zero_le _, rfl, rfl⟩
          case round =>
            obtain ⟨q, hq, rfl, rfl⟩ := hrel
            by_cases hqm : q < m
            · have H1 := Lib.hid (has_knows K1.out hkn hqm)
              have H2 := Lib.hid (has_knows K2.out hkn hqm)
              cases hx : G q k with
              | false =>
                rw [hx] at H1 H2
                clear hx
                go_wp2_with fail
                refine H1.out.mono ?_
                rintro e w6 ⟨rfl, rfl⟩
                go_wp2_with fail
                refine H2.out.mono ?_
                rintro e w6 ⟨rfl, rfl⟩
                go_wp2
                go_roundw
                case rel => exact ⟨q + 1, by omega, by go_num, trivial⟩
                case measure => simp [intOf]; omega
              | true =>
                rw [MO.out q k hx] at H2
                rw [hx] at H1
                clear hx
                go_wp2_with fail
                refine H1.out.mono ?_
                rintro e w6 ⟨rfl, rfl⟩
                go_wp2_with fail
                refine H2.out.mono ?_
                rintro e w6 ⟨rfl, rfl⟩
                go_wp2
                go_roundw
                case rel => exact ⟨q + 1, by omega, by go_num, trivial⟩
                case measure => simp [intOf]; omega
            · have hqe : q = m := by omega
              subst hqe
              go_wp2
              go_roundw
              case rel => exact ⟨k + 1, by omega, by go_num, trivial⟩
              case measure => simp [intOf]; omega
        · have hke : k = n := by omega
          subst hke
          go_wp2
          go_ret
          exact ⟨rfl, B4.out⟩
theorem solveTurns_walk (hT : TabAt w) (hL : ListAt w 3 OpAt A L) : Calls Tryd.prog 4 #[.int .i64 n, .int .i64 m, .slice A L.length cp] w fun e w' => e = .returned (.bool true) ∧ Below w.heap.size w w' := by
  by_cases h : 0 ≤ n ∧ n ≤ 12 ∧ 0 ≤ m ∧ m ≤ 150 ∧ L.length ≤ 60
  · obtain ⟨h1, h2, h3, h4, h5⟩ := h
    obtain ⟨n', rfl⟩ : ∃ k : Nat, n = k := ⟨n.toNat, by omega⟩
    obtain ⟨m', rfl⟩ : ∃ k : Nat, m = k := ⟨m.toNat, by omega⟩
    exact solveTurns_small hT hL (by omega) (by omega) h5
  · exact solveTurns_not hT h
end
end Sv
end Go.Proofs.YtbflkaaenoeniaaDoor

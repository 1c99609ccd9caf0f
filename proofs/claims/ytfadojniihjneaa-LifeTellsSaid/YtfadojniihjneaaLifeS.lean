/- The walks of layer 6: all pairs, by the document; are pairs the same? -/
import Derived.ChangeKeysEq
import Derived.Laws.StructEq
import Derived.Test.YtfadojniihjneaaLifeG
namespace Go.Proofs.Ytfadojniihjneaa
open Go.RowKit Lf Go.Deep
theorem rowP_yes {M : R2} {a q : Nat} (h : a ≠ q) (hM : M a q = true) : rowP M a (q + 1) = rowP M a q ++ [(a, q)] := by
  unfold rowP
  rw [List.range_succ, List.filter_append, List.map_append]
  simp [h, hM]
theorem rowP_eq {M : R2} {a q : Nat} (h : a = q) : rowP M a (q + 1) = rowP M a q := by
  unfold rowP
  rw [List.range_succ, List.filter_append, List.map_append]
  simp [h]
theorem rowP_no {M : R2} {a q : Nat} (hM : M a q = false) : rowP M a (q + 1) = rowP M a q := by
  unfold rowP
  rw [List.range_succ, List.filter_append, List.map_append]
  simp [hM]
set_option maxHeartbeats 2000000 in
theorem known_any {w : World} {c : Nat} {N : Int} {m : Nat} {A : Option Addr} {cap : Nat} {L : List (Nat × Nat)} (h : RRel w c N m A cap L) : Calls Try.prog 19 #[.pointer (some ⟨c, 0, none⟩)] w fun e w' =>
    ∃ v, e = .returned v ∧ w'.ownsRow w.heap.size 40 2 v (allP (all stat L) m (m - 1)).length (pairC (allP (all stat L) m (m - 1))) ∧ Below w.heap.size w w' := by
  obtain ⟨i0, hi0, hz0, hz1, hz2⟩ := info_parts info_two
  have R := Lib.hid h
  have hm := h.few
  have hmp := h.pos
  have hlast := h.last
  have HI := Lib.hid hi0
  obtain ⟨M, hM⟩ : ∃ M, all stat L = M := ⟨_, rfl⟩
  have HM := Lib.hid hM
  rw [hM]
  obtain ⟨H, hH⟩ : ∃ x, w.heap.size = x := ⟨_, rfl⟩
  have HH := Lib.hid hH
  rw [hH]
  clear hH h hi0 hM
  go_enter Try.func19, Try.ntmps19
  go_wp2
  go_loopw [3, 4] (fun v i wr => ∃ k a : Nat, Hid (a = k + 1) ∧ 1 ≤ a ∧ a ≤ m ∧ i = .int .i64 a ∧ Hid (wr.ownsRow H 40 2 v (allP M m k).length (pairC (allP M m k))) ∧ Hid (Below H w wr)) (fun _ i _ => m - (intOf i).toNat)
  case atStart => exact ⟨0, 1, rfl, Nat.le_refl _, hmp, rfl, ⟨rfl, .inl ⟨rfl, rfl⟩⟩, by rw [← HH.out]; exact Below.refl _ _⟩
  case round =>
    obtain ⟨k, a, HK, ha1, ham, rfl, HO, HB⟩ := hrel
    have RW := Lib.hid (R.out.below (by rw [HH.out]; exact HB.out))
    have c0 := RW.out.c0
    by_cases hlt : a < m
    · have haN : (a : Int) ≤ N := by omega
      go_wp2
      clear c0
      go_loopw [3, 5] (fun v i wi => ∃ q : Nat, q ≤ m ∧ i = .int .i64 q ∧ Hid (wi.ownsRow H 40 2 v (allP M m k ++ rowP M a q).length (pairC (allP M m k ++ rowP M a q))) ∧ Hid (Below H w wi)) (fun _ i _ => m - (intOf i).toNat)
      case atStart =>
        refine ⟨0, Nat.zero_le _, rfl, ?_, HB⟩
        show World.ownsRow _ _ _ _ _ _ _
        rw [show rowP M a 0 = [] from rfl, List.append_nil]
        exact HO.out
      case round =>
        obtain ⟨q, hq, rfl, HO2, HB2⟩ := hrel
        have RW2 := Lib.hid (R.out.below (by rw [HH.out]; exact HB2.out))
        have c0 := RW2.out.c0
        by_cases hqm : q < m
        · have hqN : (q : Int) ≤ N := by omega
          obtain ⟨ao, cp, rfl⟩ := own_slice HO2.out
          by_cases haq : a = q
          · have f1 : ((a : Int) == (q : Int)) = true := by rw [beq_iff_eq]; omega
            have f2 : ((a : Int) != (q : Int)) = false := by rw [bne, f1]; rfl
            have HS : Hid (wr.ownsRow H 40 2 (.slice ao (allP M m k ++ rowP M a q).length cp) (allP M m k ++ rowP M a (q + 1)).length (pairC (allP M m k ++ rowP M a (q + 1)))) := by
              show World.ownsRow _ _ _ _ _ _ _
              rw [rowP_eq haq]
              exact HO2.out
            clear haq
            go_wp2
            go_roundw
            case rel => exact ⟨q + 1, by omega, by go_num, HS, HB2⟩
            case measure => simp [intOf]; omega
          · have f1 : ((a : Int) == (q : Int)) = false := by rw [beq_eq_false_iff_ne]; omega
            have f2 : ((a : Int) != (q : Int)) = true := by rw [bne, f1]; rfl
            have HAQ := Lib.hid haq
            have hsz0 : H ≤ wr.heap.size := by have := HB2.out.size; have := HH.out; omega
            clear haq
            go_wp2_with fail
            refine (rhas_in RW2.out hlt hqm).mono ?_
            rintro e w2 ⟨rfl, qb⟩
            have HO3 := Lib.hid (own_below HO2.out qb)
            have HB3 := Lib.hid (HB2.out.trans (qb.mono hsz0))
            have hsz : H ≤ w2.heap.size := by have := qb.size; omega
            rw [HM.out]
            clear qb c0
            cases hx : M a q with
            | false =>
              have HS : Hid (w2.ownsRow H 40 2 (.slice ao ((allP M m k).length + (rowP M a q).length) cp) (allP M m k ++ rowP M a (q + 1)).length (pairC (allP M m k ++ rowP M a (q + 1)))) := by
                show World.ownsRow _ _ _ _ _ _ _
                rw [rowP_no hx, ← List.length_append]
                exact HO3.out
              clear hx
              go_wp2
              go_roundw
              case rel => exact ⟨q + 1, by omega, by go_num, HS, HB3⟩
              case measure => simp [intOf]; omega
            | true =>
              have HX := Lib.hid hx
              obtain ⟨n, hn⟩ : ∃ n, (allP M m k ++ rowP M a q).length = n := ⟨_, rfl⟩
              have hnk : n ≤ 100000 := by
                have h1 := allP_few M hm (show k ≤ 301 by have := HK.out; omega)
                have h2 := rowP_len M a q
                rw [← hn, List.length_append]
                omega
              have HN := Lib.hid hn
              rw [hn] at HO3 ⊢
              clear hn hx
              go_wp2_with (at_builtin; refine wpList_append_own _ rfl (.tmp 31) (.tmp 35) 22 rfl H 40 i0 (.agg #[.int .i64 0, .int .i64 0]) 2 16 Try.underlying22 HI.out hz0 hz1 hz2 rfl (by decide) _ _ _ rfl (HO3.out.alloc _) ⟨w2.heap.size, 0, none⟩ 1 1 [.int .i64 a, .int .i64 q] rfl rfl ?c1 ?c2 ?c3 ?c4 ?c5 ?_)
              case c1 => exact cells_made _ _ _
              case c2 => intro u hu; simp at hu; rcases hu with rfl | rfl <;> rfl
              case c3 => unfold maxLen; omega
              case c4 => omega
              case c5 => simp; omega
              intro v2 w3 hown2 hgr _
              have HS : Hid (w3.ownsRow H 40 2 v2 (allP M m k ++ rowP M a (q + 1)).length (pairC (allP M m k ++ rowP M a (q + 1)))) := by
                show World.ownsRow _ _ _ _ _ _ _
                rw [rowP_yes HAQ.out HX.out, ← List.append_assoc, pairC_append, List.length_append, HN.out]
                exact hown2
              have HT : Hid (Below H w w3) := below_on HB3.out HO3.out (Nat.le_refl _) hsz hgr
              clear hown2 hgr
              go_wp2
              go_roundw
              case rel => exact ⟨q + 1, by omega, by go_num, HS, HT⟩
              case measure => simp [intOf]; omega
        · have hqN : N < (q : Int) := by omega
          have h1 := HO2.out
          rw [show q = m by omega, show allP M m k ++ rowP M a m = allP M m (k + 1) by rw [allP_succ, ← HK.out]] at h1
          have HS := Lib.hid h1
          have HK2 : Hid (a + 1 = k + 1 + 1) := by show a + 1 = k + 1 + 1; rw [HK.out]
          clear h1
          go_wp2
          go_roundw
          case rel => exact ⟨k + 1, a + 1, HK2, by omega, by omega, by go_num, HS, HB2⟩
          case measure => simp [intOf]; omega
    · have haN : N < (a : Int) := by omega
      have h1 := HO.out
      rw [show k = m - 1 by have := HK.out; omega] at h1
      have HS := Lib.hid h1
      clear h1
      go_wp2
      go_ret
      exact ⟨_, rfl, HS.out, HB.out⟩
theorem int_one : Try.prog.cellsOf 3 = 1 := by kernel_rfl
theorem eq_int (x : Int) (d : Nat) (w : World) : (Op.equalIn (d + 1) 3 (.int .i64 x) (.int .i64 x)).run Try.prog w = .ok true w := by
  rw [run_equalIn_int w d 3 .i64 .i64 x x Try.underlying3]
  simp
theorem neq_two (x y : Int) (w : World) : (binOp .neq 40 (.agg #[.int .i64 x, .int .i64 y]) (.agg #[.int .i64 x, .int .i64 y])).run Try.prog w = .ok (.bool false) w := by
  obtain ⟨i, hi, _⟩ := info_parts info_int
  rw [run_neq_struct, run_equalIn_array w 9999 _ _ Try.underlying40 hi, int_one]
  have p0 : ∀ w, (part 3 #[.int .i64 x, .int .i64 y] (0 * 1)).run Try.prog w = .ok (.int .i64 x) w := fun w => by go_simp
  have p1 : ∀ w, (part 3 #[.int .i64 x, .int .i64 y] (1 * 1)).run Try.prog w = .ok (.int .i64 y) w := fun w => by go_simp
  have p1' : ∀ w, (part 3 #[.int .i64 x, .int .i64 y] 1).run Try.prog w = .ok (.int .i64 y) w := p1
  have e0 : ∀ w, (Op.equalIn 9999 3 (.int .i64 x) (.int .i64 x)).run Try.prog w = .ok true w := fun w => eq_int x 9998 w
  have e1 : ∀ w, (Op.equalIn 9999 3 (.int .i64 y) (.int .i64 y)).run Try.prog w = .ok true w := fun w => eq_int y 9998 w
  show ((Op.eqItems 9999 3 1 #[.int .i64 x, .int .i64 y] #[.int .i64 x, .int .i64 y] [0, 1]).run Try.prog w).andThen _ = _
  simp only [Op.eqItems, Sem.run_bind, p0, p1, e0, e1, Result.andThen_ok, Bool.not_true, if_false, if_true, Sem.run_pure]
  simp [p1', e1]
theorem same_pairs {w : World} (P : List (Nat × Nat)) (hn : P.length ≤ 100000) (A1 A2 : Option Addr) (c1 c2 : Nat) (h1 : At1 w A1 (pairC P)) (h2 : At1 w A2 (pairC P)) :
    Calls Try.prog 17 #[.slice A1 P.length c1, .slice A2 P.length c2] w fun e w' => e = .returned (.bool true) ∧ ∃ q, w.drewN q = w' := by
  have H1 := Lib.hid h1
  have H2 := Lib.hid h2
  obtain ⟨n, hln⟩ : ∃ n, P.length = n := ⟨_, rfl⟩
  have HLN := Lib.hid hln
  rw [hln] at hn ⊢
  clear h1 h2 hln
  go_enter Try.func17, Try.ntmps17
  go_wp2
  go_loopw [5] (fun i wr => ∃ k q : Nat, k ≤ n ∧ i = .int .i64 k ∧ wr = w.drewN q) (fun i _ => n - (intOf i).toNat)
  case atStart => exact ⟨0, 0, Nat.zero_le _, rfl, rfl⟩
  case round =>
    obtain ⟨k, q, hk, rfl, rfl⟩ := hrel
    by_cases hlt : k < n
    · have hkl : k < P.length := by rw [HLN.out]; exact hlt
      obtain ⟨p1, p2⟩ := pairC_at P k hkl
      have hpos : 0 < (pairC P).length := by
        rw [List.getElem?_eq_some_iff] at p1
        obtain ⟨h, _⟩ := p1
        omega
      obtain ⟨b1, rfl, _, e1⟩ := H1.out hpos
      obtain ⟨b2, rfl, _, e2⟩ := H2.out hpos
      have d1 := e1 _ _ p1
      have d2 := e2 _ _ p1
      have d3 := e1 _ _ p2
      have d4 := e2 _ _ p2
      obtain ⟨x, y, hxy⟩ : ∃ x y, P[k] = (x, y) := ⟨_, _, rfl⟩
      rw [hxy] at d1 d2 d3 d4
      have hne := neq_two (x : Int) (y : Int)
      clear hxy e1 e2 hkl p1 p2 hpos
      go_wp2_with fail
      go_quiet (fail)
      go_wp2
      go_roundw
      case rel => exact ⟨k + 1, _, by omega, by go_num, rfl⟩
      case measure => simp [intOf]; omega
    · have hkm : k = n := by omega
      subst hkm
      go_wp2
      go_ret
      exact ⟨rfl, q, rfl⟩
end Go.Proofs.Ytfadojniihjneaa

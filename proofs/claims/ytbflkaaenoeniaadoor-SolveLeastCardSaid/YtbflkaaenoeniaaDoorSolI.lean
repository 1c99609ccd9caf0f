/- The walk of layer 12's reference: Has; pairs in memory. -/
import Derived.Test.YtbflkaaenoeniaaDoorSolH
namespace Go.Proofs.YtbflkaaenoeniaaDoor
open Go.RowKit Lf Go.Deep
namespace Sv
theorem info_two : (Tryd.prog.info? 40).map (fun i => (i.zero, i.size, i.bytes)) = some (some (.agg #[.int .i64 0, .int .i64 0]), 2, 16) := by kernel_rfl
def pairC : List (Nat × Nat) → List Value
  | [] => []
  | p :: P => .int .i64 (p.1 : Int) :: .int .i64 (p.2 : Int) :: pairC P
theorem pairC_append (P : List (Nat × Nat)) (x y : Nat) : pairC (P ++ [(x, y)]) = pairC P ++ [.int .i64 (x : Int), .int .i64 (y : Int)] := by
  induction P with
  | nil => rfl
  | cons p P ih => simp only [List.cons_append, pairC, ih]
theorem pairC_at : ∀ (P : List (Nat × Nat)) (i : Nat) (h : i < P.length), (pairC P)[i * 2]? = some (.int .i64 (P[i].1 : Int)) ∧ (pairC P)[i * 2 + 1]? = some (.int .i64 (P[i].2 : Int))
  | [], i, h => by cases h
  | p :: P, 0, _ => ⟨rfl, rfl⟩
  | p :: P, i + 1, h => by
    have := pairC_at P i (by simpa using h)
    rw [show (i + 1) * 2 = i * 2 + 1 + 1 by omega]
    simpa [pairC] using this
/-- A slice of pairs of whole numbers, in two cells each. -/
def PAt (w : World) (A : Option Addr) (L : List (Nat × Nat)) : Prop := 0 < L.length → ∃ bk o, A = some ⟨bk, o, none⟩ ∧ bk < w.heap.size ∧ ∀ (i : Nat) (h : i < L.length),
  w.cell? ⟨bk, o + i * 2, none⟩ = some (.int .i64 (L[i].1 : Int)) ∧ w.cell? ⟨bk, o + i * 2 + 1, none⟩ = some (.int .i64 (L[i].2 : Int))
theorem PAt.below {w w' : World} {A : Option Addr} {L : List (Nat × Nat)} (h : PAt w A L) (hb : Below w.heap.size w w') : PAt w' A L := fun h0 => by
  obtain ⟨bk, o, e, hl, hc⟩ := h h0
  exact ⟨bk, o, e, Nat.lt_of_lt_of_le hl hb.size, fun i hi => ⟨(hb.cell (p := ⟨bk, o + i * 2, none⟩) hl).trans (hc i hi).1, (hb.cell (p := ⟨bk, o + i * 2 + 1, none⟩) hl).trans (hc i hi).2⟩⟩
theorem own_of_block {w w' : World} {base : Nat} {e : TypeId} {size n : Nat} {v : Value} {xs : List Value} (h : w.ownsRow base e size v n xs) (hb : ∀ g, v.ownBlock = some g → w'.heap[g]? = w.heap[g]?) : w'.ownsRow base e size v n xs := by
  refine ⟨h.1, ?_⟩
  rcases h.2 with h0 | ⟨g, cap, cur, rfl, h1, h2, h3⟩
  · exact .inl h0
  · exact .inr ⟨g, cap, cur, rfl, h1, (hb g rfl).trans h2, h3⟩
theorem own_pairs {w : World} {base : Nat} {A : Option Addr} {n cap : Nat} {P : List (Nat × Nat)} (h : w.ownsRow base 40 2 (.slice A n cap) n (pairC P)) (hP : P.length = n) : PAt w A P := fun h0 => by
  obtain ⟨g, cp, hv, _, hl⟩ := h.form (by omega)
  injection hv with hA
  subst hA
  have hc := h.cells (g := g) rfl
  refine ⟨g, 0, rfl, hl, fun i hi => ?_⟩
  obtain ⟨a, b⟩ := pairC_at P i hi
  have e1 := hc _ _ a
  have e2 := hc _ _ b
  rw [show (⟨g, 0, none⟩ : Addr).add (i * 2) = ⟨g, 0 + i * 2, none⟩ from by unfold Addr.add; split <;> simp_all] at e1
  rw [show (⟨g, 0, none⟩ : Addr).add (i * 2 + 1) = ⟨g, 0 + i * 2 + 1, none⟩ from by unfold Addr.add; split <;> simp_all] at e2
  exact ⟨e1, e2⟩
def ComeAt (w : World) (R m : Nat) (C : Come) : Prop := ∃ cs, Is w R 3 cs ∧ cs.size = m ∧ ∀ j, j < m → cs[j]? = some (.int .i64 (if C j then 1 else 0))
section
variable {w w' : World} {m : Nat} {A : Option Addr} {L : List (Nat × Nat)} {R : Nat} {C : Come}
theorem PAt.at_ (h : PAt w A L) (hf : ∀ p ∈ L, p.1 < m ∧ p.2 < m) {i : Nat} (hi : i < L.length) : ∃ bk o x y, A = some ⟨bk, o, none⟩ ∧ L[i] = (x, y) ∧ x < m ∧ y < m ∧ w.cell? ⟨bk, o + i * 2, none⟩ = some (.int .i64 (x : Int)) ∧ w.cell? ⟨bk, o + i * 2 + 1, none⟩ = some (.int .i64 (y : Int)) := by
  obtain ⟨bk, o, e, _, hc⟩ := h (by omega)
  have := hc i hi
  have hf := hf _ (List.getElem_mem hi)
  exact ⟨bk, o, L[i].1, L[i].2, e, rfl, hf.1, hf.2, this.1, this.2⟩
theorem ComeAt.free (h : ComeAt w R m C) (i : Nat) : w.frozen? ⟨R, i, none⟩ = false := by
  obtain ⟨cs, hc, _⟩ := h
  exact hc.free i
theorem ComeAt.cell (h : ComeAt w R m C) {j : Nat} (hj : j < m) : w.cell? ⟨R, j, none⟩ = some (.int .i64 (if C j then 1 else 0)) := by
  obtain ⟨cs, hc, _, hr⟩ := h
  rw [hc.at_, hr j hj]
theorem ComeAt.put (h : ComeAt w R m C) {y : Nat} (hy : y < m) : ComeAt (w.setCell ⟨R, y, none⟩ (.int .i64 1)) R m (fun j => C j || j == y) := by
  obtain ⟨cs, hc, hm, hr⟩ := h
  refine ⟨_, hc.put y _, by simp [hm], fun j hj => ?_⟩
  rw [Array.getElem?_setIfInBounds]
  by_cases hjy : y = j
  · subst hjy
    rw [if_pos rfl, if_pos (by omega)]
    simp
  · rw [if_neg hjy, hr j hj]
    have : (j == y) = false := by rw [beq_eq_false_iff_ne]; omega
    show _ = some (Value.int .i64 (if (C j || j == y) = true then 1 else 0))
    rw [this, Bool.or_false]
theorem come_made (w : World) (m a : Nat) : ComeAt (w.alloc (.cells ((madeCells #[.int .i64 0] m).setIfInBounds a (.int .i64 1)) 3)) w.heap.size m (fun j => j == a) := by
  refine ⟨_, Is.made w _ _, by simp [madeCells], fun j hj => ?_⟩
  rw [Array.getElem?_setIfInBounds]
  by_cases haj : a = j
  · subst haj
    rw [if_pos rfl, if_pos (by simp [madeCells]; omega)]
    simp
  · rw [if_neg haj]
    have : (j == a) = false := by rw [beq_eq_false_iff_ne]; omega
    simp [madeCells, hj, Nat.mod_one, this]
theorem step_true {C : Come} {x y : Nat} (h : C x = true) : (fun j => C j || j == y) = hop C (x, y) := by
  funext j
  simp [hop, h]
theorem step_false {C : Come} {x y : Nat} (h : C x = false) : C = hop C (x, y) := by
  funext j
  simp [hop, h]
theorem pass_take {L : List (Nat × Nat)} {q : Nat} (h : q < L.length) (C : Come) {x y : Nat} (e : L[q] = (x, y)) : (L.take (q + 1)).foldl hop C = hop ((L.take q).foldl hop C) (x, y) := by
  rw [List.take_succ_eq_append_getElem h, List.foldl_append, e]; rfl
/-- Is an element in a region, by what was put where? -/
def inn (P : List (Nat × Nat)) (M : R2) (e r : Nat) : Bool := P.any fun p => p.2 == e && M r p.1
theorem inn_take {P : List (Nat × Nat)} {q : Nat} (h : q < P.length) (M : R2) {x y e r : Nat} (k : P[q] = (x, y)) : inn (P.take (q + 1)) M e r = (inn (P.take q) M e r || (y == e && M r x)) := by
  unfold inn
  rw [List.take_succ_eq_append_getElem h, List.any_append, k]
  simp
theorem inn_more {P : List (Nat × Nat)} {q : Nat} {M : R2} {e r : Nat} (h : inn (P.take q) M e r = true) : inn P M e r = true := by
  unfold inn at h ⊢
  rw [List.any_eq_true] at h ⊢
  obtain ⟨p, hp, h⟩ := h
  exact ⟨p, List.mem_of_mem_take hp, h⟩
set_option maxHeartbeats 4000000 in
set_option maxRecDepth 100000 in
theorem rhas_any {A1 A2 : Option Addr} {c1 c2 : Nat} {P : List (Nat × Nat)} {n : Nat} (h1 : PAt w A1 L) (h2 : PAt w A2 P) (hn : n ≤ 64) (hl1 : L.length ≤ 1000) (hl2 : P.length ≤ 1000)
    (hf1 : ∀ p ∈ L, p.1 < n ∧ p.2 < n) (hf2 : ∀ p ∈ P, p.1 < n) {r e : Nat} (hr : r < n) :
    Calls Tryd.prog 12 #[.int .i64 n, .slice A1 L.length c1, .slice A2 P.length c2, .int .i64 r, .int .i64 e] w fun x w' =>
    x = .returned (.bool (inn P (all eqR L) e r)) ∧ Below w.heap.size w w' := by
  have H1 := Lib.hid h1
  have H2 := Lib.hid h2
  have F1 := Lib.hid hf1
  have F2 := Lib.hid hf2
  have hmk := run_make_row' (P := Tryd.prog) 29 3 (.int .i64 0) 8 Tryd.underlying29 info_int rfl .i64 .i64 n (by omega) (by omega)
  have hst := fun i => (Is.made w 3 (madeCells #[.int .i64 0] n)).free i
  obtain ⟨v, hv⟩ : ∃ v, (w.alloc (.cells (madeCells #[.int .i64 0] n) 3)).cell? ⟨w.heap.size, r, none⟩ = some v := ⟨_, by
    rw [(Is.made w 3 (madeCells #[.int .i64 0] n)).at_, Array.getElem?_eq_getElem (by simp [madeCells]; omega)]⟩
  have p0 := come_made w n r
  have q0 : Below w.heap.size w (w.alloc (.cells ((madeCells #[.int .i64 0] n).setIfInBounds r (.int .i64 1)) 3)) := (Below.refl _ w).alloc (Nat.le_refl _) _
  have P0 := Lib.hid p0
  have Q0 := Lib.hid q0
  clear h1 h2 hf1 hf2 p0 q0
  go_enter Tryd.func12, Tryd.ntmps12
  go_wp2
  clear hmk hst hv
  obtain ⟨R, hR⟩ : ∃ x, w.heap.size = x := ⟨_, rfl⟩
  rw [hR] at P0 Q0 ⊢
  have HE := Lib.hid hR
  clear hR
  go_loopw [12] (fun i wr => ∃ k : Nat, k ≤ n ∧ i = .int .i64 k ∧ Hid (ComeAt wr R n (rounds L r k)) ∧ Hid (Below R w wr)) (fun i _ => n - (intOf i).toNat)
  case atStart => exact ⟨0, Nat.zero_le _, rfl, P0, Q0⟩
  case round =>
    obtain ⟨k, hk, rfl, HC, HB⟩ := hrel
    by_cases hkm : k < n
    · go_wp2
      go_loopw [13] (fun i wi => ∃ q : Nat, q ≤ L.length ∧ i = .int .i64 q ∧ Hid (ComeAt wi R n ((L.take q).foldl hop (rounds L r k))) ∧ Hid (Below R w wi)) (fun i _ => L.length - (intOf i).toNat)
      case atStart => exact ⟨0, Nat.zero_le _, rfl, HC, HB⟩
      case round =>
        obtain ⟨q, hq, rfl, HC2, HB2⟩ := hrel
        by_cases hql : q < L.length
        · obtain ⟨bk, o, x, y, hA, hxy, hx, hy, cx, cy⟩ := (H1.out.below (w' := wr) (by rw [HE.out]; exact HB2.out)).at_ F1.out hql
          rw [hA]
          have hcx := HC2.out.cell hx
          have hcy := HC2.out.cell hy
          have hfy := HC2.out.free y
          obtain ⟨C, hC⟩ : ∃ C, (L.take q).foldl hop (rounds L r k) = C := ⟨_, rfl⟩
          have hn := pass_take hql (rounds L r k) hxy
          rw [hC] at hn hcx hcy
          have HN := Lib.hid hn
          have HX := Lib.hid hC
          have HA := Lib.hid hA
          clear hn hC hxy hA
          obtain ⟨vy, hvy⟩ : ∃ v, (Value.int .i64 (if C y then 1 else 0)) = v := ⟨_, rfl⟩
          rw [hvy] at hcy
          clear hvy
          cases hCx : C x with
          | true =>
            rw [hCx, if_pos rfl] at hcx
            have HS : Hid (ComeAt (wr.setCell ⟨R, y, none⟩ (.int .i64 1)) R n ((L.take (q + 1)).foldl hop (rounds L r k))) := by
              show ComeAt _ _ _ _
              rw [HN.out, ← step_true hCx]
              have := HC2.out
              rw [HX.out] at this
              exact this.put hy
            have HT : Hid (Below R w (wr.setCell ⟨R, y, none⟩ (.int .i64 1))) := HB2.out.setCell (Nat.le_refl _) _
            clear hCx
            go_wp2
            go_roundw
            case rel => exact ⟨q + 1, by omega, by go_num, HS, HT⟩
            case measure => simp [intOf]; omega
          | false =>
            rw [hCx, if_neg (by decide)] at hcx
            have HS : Hid (ComeAt wr R n ((L.take (q + 1)).foldl hop (rounds L r k))) := by
              show ComeAt _ _ _ _
              rw [HN.out, ← step_false hCx, ← HX.out]
              exact HC2.out
            clear hCx
            go_wp2
            go_roundw
            case rel => exact ⟨q + 1, by omega, by go_num, HS, HB2⟩
            case measure => simp [intOf]; omega
        · have hqe : q = L.length := by omega
          have HS : Hid (ComeAt wr R n (rounds L r (k + 1))) := by
            have := HC2.out
            rw [List.take_of_length_le (by omega)] at this
            exact this
          go_wp2
          go_roundw
          case rel => exact ⟨k + 1, by omega, by go_num, HS, HB2⟩
          case measure => simp [intOf]; omega
    · have hke : k = n := by omega
      subst hke
      have HM : Hid (∀ j, rounds L r k j = all eqR L r j) := fun j => by
        have h1 : ∀ p ∈ L, p.2 ≤ k - 1 := fun p hp => by have := (F1.out p hp).2; omega
        have hk1 : k = k - 1 + 1 := by omega
        have := come_end L r (k - 1) (by omega) h1 j
        rwa [← hk1] at this
      go_wp2
      go_loopw [14] (fun i wi => ∃ q : Nat, q ≤ P.length ∧ i = .int .i64 q ∧ wi = wr ∧ Hid (inn (P.take q) (all eqR L) e r = false)) (fun i _ => P.length - (intOf i).toNat)
      case atStart => exact ⟨0, Nat.zero_le _, rfl, rfl, rfl⟩
      case round =>
        obtain ⟨q, hq, rfl, rfl, HF⟩ := hrel
        by_cases hql : q < P.length
        · obtain ⟨bk, o, hA, _, hc⟩ := (H2.out.below (w' := wr) (by rw [HE.out]; exact HB.out)) (by omega)
          obtain ⟨cx, cy⟩ := hc q hql
          obtain ⟨x, y, hxy⟩ : ∃ x y, P[q] = (x, y) := ⟨_, _, rfl⟩
          have hx : x < k := by have := F2.out _ (List.getElem_mem hql); rw [hxy] at this; exact this
          rw [hxy] at cx cy
          rw [hA]
          have hcx := HC.out.cell hx
          have HT := Lib.hid (inn_take hql (all eqR L) (e := e) (r := r) hxy)
          have HMx := HM.out x
          have HA := Lib.hid hA
          clear hc hxy hA
          by_cases hye : y = e
          · have e1 : ((y : Int) == (e : Int)) = true := by simp; omega
            cases hCx : rounds L r k x with
            | true =>
              rw [hCx, if_pos rfl] at hcx
              have HY : Hid (inn P (all eqR L) e r = true) := inn_more (q := q + 1) (by rw [HT.out, ← HMx, hCx, hye]; simp)
              clear hCx HMx
              go_wp2
              go_ret
              exact ⟨by rw [HY.out]; rfl, by rw [HE.out]; exact HB.out⟩
            | false =>
              rw [hCx, if_neg (by decide)] at hcx
              have HY : Hid (inn (P.take (q + 1)) (all eqR L) e r = false) := by
                show _ = _
                rw [HT.out, HF.out, ← HMx, hCx]; simp
              clear hCx HMx
              go_wp2
              go_roundw
              case rel => exact ⟨q + 1, by omega, by go_num, trivial, HY⟩
              case measure => simp [intOf]; omega
          · have e1 : ((y : Int) == (e : Int)) = false := by simp; omega
            have HY : Hid (inn (P.take (q + 1)) (all eqR L) e r = false) := by
              show _ = _
              rw [HT.out, HF.out, show (y == e) = false by simp; exact hye]; simp
            clear HMx hcx
            go_wp2
            go_roundw
            case rel => exact ⟨q + 1, by omega, by go_num, trivial, HY⟩
            case measure => simp [intOf]; omega
        · have HY : Hid (inn P (all eqR L) e r = false) := by
            have := HF.out
            rw [List.take_of_length_le (by omega)] at this
            exact this
          go_wp2
          go_ret
          exact ⟨by rw [HY.out]; rfl, by rw [HE.out]; exact HB.out⟩
end
end Sv
end Go.Proofs.YtbflkaaenoeniaaDoor

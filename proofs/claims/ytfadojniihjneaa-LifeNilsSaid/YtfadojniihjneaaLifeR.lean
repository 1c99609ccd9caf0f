/- The walks of layer 6's reference: Has. -/
import Derived.Deep.OwnRows
import Derived.Test.YtfadojniihjneaaLifeT
namespace Go.Proofs.Ytfadojniihjneaa
open Go.RowKit Lf Go.Deep
theorem info_int : (Try.prog.info? 3).map (fun i => (i.zero, i.size, i.bytes)) = some (some (.int .i64 0), 1, 8) := by kernel_rfl
/-- A slice of pairs of whole numbers, in two cells each. -/
def PAt (w : World) (A : Option Addr) (L : List (Int × Int)) : Prop := 0 < L.length → ∃ bk o, A = some ⟨bk, o, none⟩ ∧ bk < w.heap.size ∧ ∀ (i : Nat) (h : i < L.length),
  w.cell? ⟨bk, o + i * 2, none⟩ = some (.int .i64 L[i].1) ∧ w.cell? ⟨bk, o + i * 2 + 1, none⟩ = some (.int .i64 L[i].2)
theorem PAt.below {w w' : World} {A : Option Addr} {L : List (Int × Int)} (h : PAt w A L) (hb : Below w.heap.size w w') : PAt w' A L := fun h0 => by
  obtain ⟨bk, o, e, hl, hc⟩ := h h0
  exact ⟨bk, o, e, Nat.lt_of_lt_of_le hl hb.size, fun i hi => ⟨(hb.cell (p := ⟨bk, o + i * 2, none⟩) hl).trans (hc i hi).1, (hb.cell (p := ⟨bk, o + i * 2 + 1, none⟩) hl).trans (hc i hi).2⟩⟩
def ints (L : List (Nat × Nat)) : List (Int × Int) := L.map fun p => ((p.1 : Int), (p.2 : Int))
theorem ints_length (L : List (Nat × Nat)) : (ints L).length = L.length := by simp [ints]
structure RRel (w : World) (c : Nat) (N : Int) (m : Nat) (A : Option Addr) (cap : Nat) (L : List (Nat × Nat)) : Prop where
  last : N + 1 = (m : Int)
  pos : 0 < m
  few : m ≤ 301
  short : L.length ≤ 1000
  head : Is w c 49 #[.int .i64 N, .slice A L.length cap]
  pairs : PAt w A (ints L)
  fits : ∀ p ∈ L, p.1 < m ∧ p.2 < m
def ComeAt (w : World) (R m : Nat) (C : Come) : Prop := ∃ cs, Is w R 3 cs ∧ cs.size = m ∧ ∀ j, j < m → cs[j]? = some (.int .i64 (if C j then 1 else 0))
section
variable {w w' : World} {c : Nat} {N : Int} {m : Nat} {A : Option Addr} {cap : Nat} {L : List (Nat × Nat)} {R : Nat} {C : Come}
theorem RRel.below (h : RRel w c N m A cap L) (hb : Below w.heap.size w w') : RRel w' c N m A cap L :=
  ⟨h.last, h.pos, h.few, h.short, h.head.below hb h.head.lt, h.pairs.below hb, h.fits⟩
theorem RRel.c0 (h : RRel w c N m A cap L) : w.cell? ⟨c, 0, none⟩ = some (.int .i64 N) := by rw [h.head.at_]; rfl
theorem RRel.c1 (h : RRel w c N m A cap L) : w.cell? ⟨c, 1, none⟩ = some (.slice A L.length cap) := by rw [h.head.at_]; rfl
theorem RRel.at_ (h : RRel w c N m A cap L) {i : Nat} (hi : i < L.length) : ∃ bk o x y, A = some ⟨bk, o, none⟩ ∧ L[i] = (x, y) ∧ x < m ∧ y < m ∧ w.cell? ⟨bk, o + i * 2, none⟩ = some (.int .i64 (x : Int)) ∧ w.cell? ⟨bk, o + i * 2 + 1, none⟩ = some (.int .i64 (y : Int)) := by
  obtain ⟨bk, o, e, _, hc⟩ := h.pairs (by rw [ints_length]; omega)
  have := hc i (by rw [ints_length]; exact hi)
  have hf := h.fits _ (List.getElem_mem hi)
  exact ⟨bk, o, L[i].1, L[i].2, e, rfl, hf.1, hf.2, by simpa [ints] using this.1, by simpa [ints] using this.2⟩
theorem ComeAt.free (h : ComeAt w R m C) (i : Nat) : w.frozen? ⟨R, i, none⟩ = false := by
  obtain ⟨cs, hc, _⟩ := h
  exact hc.free i
theorem ComeAt.cell (h : ComeAt w R m C) {j : Nat} (hj : j < m) : w.cell? ⟨R, j, none⟩ = some (.int .i64 (if C j then 1 else 0)) := by
  obtain ⟨cs, hc, _, hr⟩ := h
  rw [hc.at_, hr j hj]
theorem ComeAt.congr (h : ComeAt w R m C) {D : Come} (hD : ∀ j, j < m → C j = D j) : ComeAt w R m D := by
  obtain ⟨cs, hc, hm, hr⟩ := h
  exact ⟨cs, hc, hm, fun j hj => by rw [hr j hj, hD j hj]⟩
theorem ComeAt.put (h : ComeAt w R m C) {y : Nat} (hy : y < m) : ComeAt (w.setCell ⟨R, y, none⟩ (.int .i64 1)) R m (fun j => C j || j == y) := by
  obtain ⟨cs, hc, hm, hr⟩ := h
  refine ⟨_, hc.put y _, by simp [hm], fun j hj => ?_⟩
  rw [Array.getElem?_setIfInBounds]
  by_cases hjy : y = j
  · subst hjy
    rw [if_pos rfl, if_pos (by omega)]
    simp
  · rw [if_neg hjy, hr j hj]
    have : (j == y) = false := by rw [beq_eq_false_iff_ne]; omega
    show _ = some (Value.int .i64 (if (C j || j == y) = true then 1 else 0))
    rw [this, Bool.or_false]
theorem come_made (w : World) (m : Nat) {a : Nat} (ha : a < m) : ComeAt (w.alloc (.cells ((madeCells #[.int .i64 0] m).setIfInBounds a (.int .i64 1)) 3)) w.heap.size m (fun j => j == a) := by
  refine ⟨_, Is.made w _ _, by simp [madeCells], fun j hj => ?_⟩
  rw [Array.getElem?_setIfInBounds]
  by_cases haj : a = j
  · subst haj
    rw [if_pos rfl, if_pos (by simp [madeCells]; omega)]
    simp
  · rw [if_neg haj]
    have : (j == a) = false := by rw [beq_eq_false_iff_ne]; omega
    simp [madeCells, hj, Nat.mod_one, this]
theorem step_true {C : Come} {x y : Nat} (h : C x = true) : (fun j => C j || j == y) = hop C (x, y) := by
  funext j
  simp [hop, h]
theorem step_false {C : Come} {x y : Nat} (h : C x = false) : C = hop C (x, y) := by
  funext j
  simp [hop, h]
theorem pass_take {L : List (Nat × Nat)} {q : Nat} (h : q < L.length) (C : Come) {x y : Nat} (e : L[q] = (x, y)) : (L.take (q + 1)).foldl hop C = hop ((L.take q).foldl hop C) (x, y) := by
  rw [List.take_succ_eq_append_getElem h, List.foldl_append, e]; rfl
theorem rhas_low (p : Value) {a b : Int} (h : a < 0 ∨ b < 0) (w : World) : Calls Try.prog 12 #[p, .int .i64 a, .int .i64 b] w fun e w' => e = .returned (.bool false) ∧ w = w' := by
  by_cases ha : a < 0
  · go_enter Try.func12, Try.ntmps12
    go_wp2
    go_ret
    exact ⟨rfl, rfl⟩
  · have hb : b < 0 := by omega
    have ha' : 0 ≤ a := by omega
    go_enter Try.func12, Try.ntmps12
    go_wp2
    go_ret
    exact ⟨rfl, rfl⟩
theorem rhas_high (h : RRel w c N m A cap L) {a b : Int} (ha : 0 ≤ a) (hb : 0 ≤ b) (hx : N < a ∨ N < b) : Calls Try.prog 12 #[.pointer (some ⟨c, 0, none⟩), .int .i64 a, .int .i64 b] w fun e w' => e = .returned (.bool false) ∧ w = w' := by
  have c0 := h.c0
  clear h
  by_cases h1 : N < a
  · clear hx
    go_enter Try.func12, Try.ntmps12
    go_wp2
    go_ret
    exact ⟨rfl, rfl⟩
  · have h2 : N < b := by omega
    clear hx
    go_enter Try.func12, Try.ntmps12
    go_wp2
    go_ret
    exact ⟨rfl, rfl⟩
set_option maxHeartbeats 2000000 in
set_option maxRecDepth 100000 in
theorem rhas_in (h : RRel w c N m A cap L) {a b : Nat} (ha : a < m) (hb : b < m) : Calls Try.prog 12 #[.pointer (some ⟨c, 0, none⟩), .int .i64 a, .int .i64 b] w fun e w' =>
    e = .returned (.bool (all stat L a b)) ∧ Below w.heap.size w w' := by
  have H := Lib.hid h
  have c0 := h.c0
  have hlast := h.last
  have hpos := h.pos
  have hfew := h.few
  have hshort := h.short
  have hlt := h.head.lt
  have hle : (a : Int) ≤ N := by omega
  have hle' : (b : Int) ≤ N := by omega
  have hmk := run_make_row' (P := Try.prog) 30 3 (.int .i64 0) 8 Try.underlying30 info_int rfl .i64 .i64 m (by omega) (by omega)
  have hst := fun i => (Is.made w 3 (madeCells #[.int .i64 0] m)).free i
  obtain ⟨v, hv⟩ : ∃ v, (w.alloc (.cells (madeCells #[.int .i64 0] m) 3)).cell? ⟨w.heap.size, a, none⟩ = some v := ⟨_, by
    rw [(Is.made w 3 (madeCells #[.int .i64 0] m)).at_, Array.getElem?_eq_getElem (by simp [madeCells]; omega)]⟩
  have p0 := come_made w m ha
  have q0 : Below w.heap.size w (w.alloc (.cells ((madeCells #[.int .i64 0] m).setIfInBounds a (.int .i64 1)) 3)) := (Below.refl _ w).alloc (Nat.le_refl _) _
  have P0 := Lib.hid p0
  have Q0 := Lib.hid q0
  clear h p0 q0
  go_enter Try.func12, Try.ntmps12
  go_wp2
  clear hmk hst hv
  obtain ⟨R, hR⟩ : ∃ x, w.heap.size = x := ⟨_, rfl⟩
  rw [hR] at P0 Q0 ⊢
  have HE := Lib.hid hR
  clear hR
  go_loopw [8] (fun i wr => ∃ k : Nat, k ≤ m ∧ i = .int .i64 k ∧ Hid (ComeAt wr R m (rounds L a k)) ∧ Hid (Below R w wr) ∧ Hid (0 < k → rounds L a k 0 = false)) (fun i _ => m - (intOf i).toNat)
  case atStart => exact ⟨0, Nat.zero_le _, rfl, P0, Q0, fun h => absurd h (Nat.lt_irrefl _)⟩
  case round =>
    obtain ⟨k, hk, rfl, HC, HB, HZ⟩ := hrel
    have HR : Hid (RRel wr c N m A cap L) := H.out.below (by rw [HE.out]; exact HB.out)
    have c0 := HR.out.c0
    by_cases hkm : k < m
    · have hkN : (k : Int) ≤ N := by omega
      go_wp2
      clear c0
      go_loopw [9] (fun i wi => ∃ q : Nat, q ≤ L.length ∧ i = .int .i64 q ∧ Hid (ComeAt wi R m ((L.take q).foldl hop (rounds L a k))) ∧ Hid (Below R w wi)) (fun i _ => L.length - (intOf i).toNat)
      case atStart => exact ⟨0, Nat.zero_le _, rfl, HC, HB⟩
      case round =>
        rename_i wo _ _ _ _ _
        obtain ⟨q, hq, rfl, HC2, HB2⟩ := hrel
        have HR2 : Hid (RRel wr c N m A cap L) := H.out.below (by rw [HE.out]; exact HB2.out)
        have c0 := HR2.out.c0
        have c1 := HR2.out.c1
        by_cases hql : q < L.length
        · obtain ⟨bk, o, x, y, hA, hxy, hx, hy, cx, cy⟩ := HR2.out.at_ hql
          rw [hA] at c1
          have hcx := HC2.out.cell hx
          have hcy := HC2.out.cell hy
          have hfy := HC2.out.free y
          obtain ⟨C, hC⟩ : ∃ C, (L.take q).foldl hop (rounds L a k) = C := ⟨_, rfl⟩
          have hn := pass_take hql (rounds L a k) hxy
          rw [hC] at hn hcx hcy
          have HN := Lib.hid hn
          have HX := Lib.hid hC
          have HA := Lib.hid hA
          clear hn hC hxy hA
          obtain ⟨vy, hvy⟩ : ∃ v, (Value.int .i64 (if C y then 1 else 0)) = v := ⟨_, rfl⟩
          rw [hvy] at hcy
          clear hvy
          cases hCx : C x with
          | true =>
            rw [hCx, if_pos rfl] at hcx
            have HS : Hid (ComeAt (wr.setCell ⟨R, y, none⟩ (.int .i64 1)) R m ((L.take (q + 1)).foldl hop (rounds L a k))) := by
              show ComeAt _ _ _ _
              rw [HN.out, ← step_true hCx]
              have := HC2.out
              rw [HX.out] at this
              exact this.put hy
            have HT : Hid (Below R w (wr.setCell ⟨R, y, none⟩ (.int .i64 1))) := HB2.out.setCell (Nat.le_refl _) _
            clear hCx
            go_wp2
            go_roundw
            case rel => exact ⟨q + 1, by omega, by go_num, HS, HT⟩
            case measure => simp [intOf]; omega
          | false =>
            rw [hCx, if_neg (by decide)] at hcx
            have HS : Hid (ComeAt wr R m ((L.take (q + 1)).foldl hop (rounds L a k))) := by
              show ComeAt _ _ _ _
              rw [HN.out, ← step_false hCx, ← HX.out]
              exact HC2.out
            clear hCx
            go_wp2
            go_roundw
            case rel => exact ⟨q + 1, by omega, by go_num, HS, HB2⟩
            case measure => simp [intOf]; omega
        · have hqe : q = L.length := by omega
          have HS : Hid (ComeAt wr R m (rounds L a (k + 1))) := by
            have := HC2.out
            rw [List.take_of_length_le (by omega)] at this
            exact this
          have hz := HS.out.cell hpos
          cases hC0 : rounds L a (k + 1) 0 with
          | true =>
            rw [hC0, if_pos rfl] at hz
            have HX : Hid (all stat L a b = true) := come_zero hC0 b
            clear hC0
            go_wp2
            go_ret
            exact ⟨by rw [HX.out]; rfl, by rw [HE.out]; exact HB2.out⟩
          | false =>
            rw [hC0, if_neg (by decide)] at hz
            have HX : Hid (0 < k + 1 → rounds L a (k + 1) 0 = false) := fun _ => hC0
            clear hC0
            go_wp2
            go_roundw
            case rel => exact ⟨k + 1, by omega, by go_num, HS, HB2, HX⟩
            case measure => simp [intOf]; omega
    · have hkN : N < (k : Int) := by omega
      have hke : k = m := by omega
      have hb' := HC.out.cell hb
      have HX : Hid (all stat L a b = rounds L a k b) := by
        have h1 : ∀ p ∈ L, p.2 ≤ m - 1 := fun p hp => by have := (H.out.fits p hp).2; omega
        have h2 := HZ.out (by omega)
        have hk1 : k = m - 1 + 1 := by omega
        rw [hk1] at h2 ⊢
        exact come_last (by omega) h1 h2 b
      obtain ⟨x, hx⟩ : ∃ x, rounds L a k b = x := ⟨_, rfl⟩
      rw [hx] at hb' HX
      clear hx
      cases x with
      | true =>
        rw [if_pos rfl] at hb'
        go_wp2
        go_ret
        exact ⟨by rw [HX.out]; rfl, by rw [HE.out]; exact HB.out⟩
      | false =>
        rw [if_neg (by decide)] at hb'
        go_wp2
        go_ret
        exact ⟨by rw [HX.out]; rfl, by rw [HE.out]; exact HB.out⟩
end
end Go.Proofs.Ytfadojniihjneaa

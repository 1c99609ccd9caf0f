/- The walk of layer 12's law SolveLeast. -/
import Derived.Test.YtbflkaaenoeniaaDoorSolL
namespace Go.Proofs.YtbflkaaenoeniaaDoor
open Go.RowKit Lf Go.Deep Tr
namespace Sv
theorem inL_at {G : Nat → Nat → Bool} {r q : Nat} (hG : G q r = true) : ∀ m, q < m → (inL G r m)[(inL G r q).length]? = some q
  | 0, h => by omega
  | m + 1, h => by
    by_cases hq : q = m
    · subst hq
      rw [inL_yes hG, List.getElem?_append_right (Nat.le_refl _)]
      simp
    · have := inL_at hG m (by omega)
      have hl := (List.getElem?_eq_some_iff.1 this).1
      cases hm : G m r with
      | true => rw [inL_yes hm, List.getElem?_append_left hl]; exact this
      | false => rw [inL_no hm]; exact this
theorem own_at {w : World} {B : Nat} {A : Option Addr} {n cap i x : Nat} {l : List Nat} (h : Own w B (.slice A n cap) l) (hi : l[i]? = some x) : ∃ g, A = some ⟨g, 0, none⟩ ∧ g < w.heap.size ∧ w.cell? ⟨g, i, none⟩ = some (.int .i64 (x : Int)) := by
  have hil := (List.getElem?_eq_some_iff.1 hi).1
  obtain ⟨g, cp, hv, _, hl⟩ := World.ownsRow.form h (by omega)
  injection hv with hA
  subst hA
  have := World.ownsRow.cells h (g := g) rfl i (.int .i64 (x : Int)) (by unfold natsC; rw [List.getElem?_map, hi]; rfl)
  rw [show (⟨g, 0, none⟩ : Addr).add i = ⟨g, i, none⟩ from by unfold Addr.add; split <;> simp_all] at this
  exact ⟨g, rfl, hl, this⟩
section
variable {w : World} {n m : Int} {A : Option Addr} {L : List Opn} {cp : Nat}
theorem solveLeast_not (hT : TabAt w) (h : ¬(0 ≤ n ∧ n ≤ 12 ∧ 0 ≤ m ∧ m ≤ 150 ∧ L.length ≤ 60)) :
    Calls Tryd.prog 3 #[.int .i64 n, .int .i64 m, .slice A L.length cp] w fun e w' => e = .returned (.bool true) ∧ Below w.heap.size w w' := by
  have HT := Lib.hid hT
  have HN := Lib.hid h
  clear hT h
  go_enter Tryd.func3, Tryd.ntmps3
  go_wp2_with fail
  refine (solved_any HT.out).mono ?_
  rintro e w1 ⟨rfl, q1⟩
  have B1 := Lib.hid q1
  have T1 := Lib.hid (HT.out.below q1 HT.out.pos)
  clear q1
  go_wp2_with fail
  refine (small_no HN.out _).mono ?_
  rintro e w2 ⟨rfl, rfl⟩
  go_wp2_with fail
  refine (solved_any T1.out).mono ?_
  rintro e w2 ⟨rfl, q2⟩
  have B2 := Lib.hid (B1.out.trans (q2.mono B1.out.size))
  clear q2
  go_wp2
  go_ret
  exact ⟨rfl, B2.out⟩
set_option maxHeartbeats 8000000 in
set_option maxRecDepth 100000 in
theorem solveLeast_small {n m : Nat} (hT : TabAt w) (hL : ListAt w 3 OpAt A L) (h1 : n ≤ 12) (h2 : m ≤ 150) (h3 : L.length ≤ 60) :
    Calls Tryd.prog 3 #[.int .i64 n, .int .i64 m, .slice A L.length cp] w fun e w' => e = .returned (.bool true) ∧ Below w.heap.size w w' := by
  have HT := Lib.hid hT
  have HL := Lib.hid hL
  clear hT hL
  go_enter Tryd.func3, Tryd.ntmps3
  go_wp2_with fail
  refine (solved_any HT.out).mono ?_
  rintro e w1 ⟨rfl, q1⟩
  have B1 := Lib.hid q1
  have T1 := Lib.hid (HT.out.below q1 HT.out.pos)
  have L1 := Lib.hid (HL.out.below q1 fun _ _ _ h => h)
  clear q1
  go_wp2_with fail
  refine (small_yes (by omega) (by omega) (by omega) (by omega) h3 _).mono ?_
  rintro e w2 ⟨rfl, rfl⟩
  go_wp2_with fail
  refine (told_any T1.out (by omega) (by omega) _ L1.out (by omega)).mono ?_
  rintro e w2 ⟨b, vo, vp, rfl, q2⟩
  obtain ⟨oo, co, rfl, _⟩ := own_slice q2.own1
  obtain ⟨op, cpp, rfl, _⟩ := own_slice q2.own2
  have B2 := Lib.hid (B1.out.trans (q2.since.mono B1.out.size))
  have PO := Lib.hid (own_pairs q2.own1 rfl)
  have PP := Lib.hid (own_pairs q2.own2 rfl)
  have KN := Lib.hid q2.knows
  have lo : (outs n L).length ≤ 60 := Nat.le_trans (outs_len n L) h3
  have lp : (puts n m L).length ≤ 60 := Nat.le_trans (puts_len n m L) h3
  have F1 := Lib.hid (outs_fit (n := n) (L := L))
  have F2 := Lib.hid (puts_fit (n := n) (m := m) (L := L))
  obtain ⟨po, hpo⟩ : ∃ l, outs n L = l := ⟨_, rfl⟩
  obtain ⟨pp, hpp⟩ : ∃ l, puts n m L = l := ⟨_, rfl⟩
  rw [hpo] at PO KN lo F1 ⊢
  rw [hpp] at PP KN lp F2 ⊢
  obtain ⟨G, hG⟩ : ∃ G, inn pp (all eqR po) = G := ⟨_, rfl⟩
  have HG := Lib.hid hG
  rw [hG] at KN
  clear q2 T1 L1 HL HT B1 hpo hpp hG
  go_wp2
  go_loopw [11] (fun i wr => ∃ k : Nat, k ≤ n ∧ i = .int .i64 k ∧ Hid (Below w2.heap.size w2 wr)) (fun i _ => n - (intOf i).toNat)
  case atStart => exact ⟨0, Nat.zero_le _, rfl, Below.refl _ _⟩
  case round =>
    obtain ⟨k, hk, rfl, HB⟩ := hrel
    by_cases hkn : k < n
    · obtain ⟨b1, b2, O, I, hkn0, _⟩ := KN.out (by omega)
      have K2 := Lib.hid hkn0
      have K3 := Lib.hid (hkn0.below HB.out)
      have HLI := Lib.hid (list_any K3.out hkn)
      clear hkn0
      go_wp2_with fail
      refine HLI.out.mono ?_
      rintro e w3 ⟨v, rfl, q1, q2⟩
      obtain ⟨ao, cl, rfl, _⟩ := own_slice q1
      have OW := Lib.hid q1
      have B3 := Lib.hid (HB.out.trans (q2.mono HB.out.size))
      obtain ⟨ll, hll⟩ : ∃ q, (inL G k m).length = q := ⟨_, rfl⟩
      have HLL := Lib.hid hll
      rw [hll] at OW ⊢
      clear q1 q2 hll K3 HLI
      go_wp2
      go_loopw [13, 14] (fun c i wi => ∃ q : Nat, q ≤ m ∧ i = .int .i64 q ∧ c = .int .i64 (inL G k q).length ∧ Hid (Below w3.heap.size w3 wi)) (fun _ i _ => m - (intOf i).toNat)
      case atStart => exact ⟨0, Nat.zero_le _, rfl, rfl, Below.refl _ _⟩
      case round =>
        obtain ⟨q, hq, rfl, rfl, HB4⟩ := hrel
        have B4 := Lib.hid (B3.out.trans (HB4.out.mono B3.out.size))
        by_cases hqm : q < m
        · obtain ⟨c, hc⟩ : ∃ c, (inL G k q).length = c := ⟨_, rfl⟩
          have hc1 : c ≤ q := by rw [← hc]; exact inL_len G k q
          have HC := Lib.hid hc
          rw [hc]
          clear hc
          have HRH := rhas_any (c1 := co) (c2 := cpp) (PO.out.below B4.out) (PP.out.below B4.out) (n := n) (by omega) (by omega) (by omega) F1.out F2.out (r := k) (e := q) hkn
          rw [HG.out] at HRH
          have HRH := Lib.hid HRH
          go_wp2_with fail
          refine HRH.out.mono ?_
          rintro e w5 ⟨rfl, q5⟩
          have B5 := Lib.hid (B4.out.trans (q5.mono B4.out.size))
          have B35 := Lib.hid (HB4.out.trans (q5.mono HB4.out.size))
          have HH := Lib.hid (has_knows (K2.out.below B5.out) hkn hqm)
          clear q5 HRH
          cases hx : G q k with
          | false =>
            rw [hx] at HH
            have HN : Hid ((inL G k (q + 1)).length = c) := by show _ = _; rw [inL_no hx, HC.out]
            clear hx
            go_wp2_with fail
            refine HH.out.mono ?_
            rintro e w6 ⟨rfl, rfl⟩
            go_wp2
            go_roundw
            case rel => exact ⟨q + 1, by omega, by go_num, by rw [HN.out], B35⟩
            case measure => simp [intOf]; omega
          | true =>
            rw [hx] at HH
            have HN : Hid ((inL G k (q + 1)).length = c + 1) := by show _ = _; rw [inL_yes hx, List.length_append, HC.out]; rfl
            have hat := inL_at hx m hqm
            rw [HC.out] at hat
            have hcl : c < ll := by rw [← HLL.out]; exact (List.getElem?_eq_some_iff.1 hat).1
            obtain ⟨g, rfl, hgl, hcell⟩ := own_at OW.out hat
            have hcell' := (B35.out.cell (p := ⟨g, c, none⟩) hgl).trans hcell
            have dd : decide ((ll : Int) ≤ (c : Int)) = false := decide_eq_false (by omega)
            clear hx hat hcell hgl
            go_wp2_with fail
            refine HH.out.mono ?_
            rintro e w6 ⟨rfl, rfl⟩
            go_wp2
            go_roundw
            case rel => exact ⟨q + 1, by omega, by go_num, by rw [HN.out]; go_num, B35⟩
            case measure => simp [intOf]; omega
        · have hqe : q = m := by omega
          subst hqe
          have HCO := count_any (K2.out.below B4.out) hkn
          rw [HLL.out] at HCO
          have HCO := Lib.hid HCO
          rw [HLL.out]
          go_wp2_with fail
          refine HCO.out.mono ?_
          rintro e w6 ⟨rfl, q6⟩
          have B6 := Lib.hid (B4.out.trans (q6.mono B4.out.size))
          clear q6 HCO
          go_wp2
          go_roundw
          case rel => exact ⟨k + 1, by omega, by go_num, B6⟩
          case measure => simp [intOf]; omega
    · have hke : k = n := by omega
      subst hke
      go_wp2
      go_ret
      exact ⟨rfl, B2.out.trans (HB.out.mono B2.out.size)⟩
theorem solveLeast_walk (hT : TabAt w) (hL : ListAt w 3 OpAt A L) : Calls Tryd.prog 3 #[.int .i64 n, .int .i64 m, .slice A L.length cp] w fun e w' => e = .returned (.bool true) ∧ Below w.heap.size w w' := by
  by_cases h : 0 ≤ n ∧ n ≤ 12 ∧ 0 ≤ m ∧ m ≤ 150 ∧ L.length ≤ 60
  · obtain ⟨h1, h2, h3, h4, h5⟩ := h
    obtain ⟨n', rfl⟩ : ∃ k : Nat, n = k := ⟨n.toNat, by omega⟩
    obtain ⟨m', rfl⟩ : ∃ k : Nat, m = k := ⟨m.toNat, by omega⟩
    exact solveLeast_small hT hL (by omega) (by omega) h5
  · exact solveLeast_not hT h
end
end Sv
end Go.Proofs.YtbflkaaenoeniaaDoor

/- The walk of layer 12's laws: told. -/
import Derived.Test.YtbflkaaenoeniaaDoorSolJ
namespace Go.Proofs.YtbflkaaenoeniaaDoor
open Go.RowKit Lf Go.Deep Tr
namespace Sv
theorem op_at {w w' : World} {A : Option Addr} {L : List Opn} (h : ListAt w 3 OpAt A L) {B : Nat} (hb : Below B w w') (hB : w.heap.size = B) {k : Nat} (hk : k < L.length) :
    ∃ bk o p x y, A = some ⟨bk, o, none⟩ ∧ L[k] = (p, x, y) ∧ w'.cell? ⟨bk, o + k * 3, none⟩ = some (.bool p) ∧ w'.cell? ⟨bk, o + k * 3 + 1, none⟩ = some (.int .i64 x) ∧ w'.cell? ⟨bk, o + k * 3 + 2, none⟩ = some (.int .i64 y) := by
  obtain ⟨bk, o, cs, hA, hl, _, hp, hc⟩ := h.get (by decide) hk
  obtain ⟨p, x, y, hpx⟩ : ∃ p x y, L[k] = (p, x, y) := ⟨_, _, _, rfl⟩
  rw [hpx] at hp
  have hp' : cs = [.bool p, .int .i64 x, .int .i64 y] := hp
  subst hp'
  subst hB
  refine ⟨bk, o, p, x, y, hA, hpx, ?_, ?_, ?_⟩
  · exact (hb.cell (p := ⟨bk, o + k * 3, none⟩) hl).trans (hc 0 _ rfl)
  · exact (hb.cell (p := ⟨bk, o + k * 3 + 1, none⟩) hl).trans (hc 1 _ rfl)
  · exact (hb.cell (p := ⟨bk, o + k * 3 + 2, none⟩) hl).trans (hc 2 _ rfl)
theorem out1_bad {n : Nat} {x y : Int} (h : (inB n x && inB n y) = false) : out1 n (false, x, y) = [] := by
  unfold out1; simp only [Bool.not_false, Bool.true_and]; rw [h]; rfl
theorem put1_bad {n m : Nat} {x y : Int} (h : (inB n x && inB m y) = false) : put1 n m (true, x, y) = [] := by
  unfold put1; simp only [Bool.true_and]; rw [h]; rfl
theorem out1_put {n : Nat} {x y : Int} : out1 n (true, x, y) = [] := rfl
theorem put1_out {n m : Nat} {x y : Int} : put1 n m (false, x, y) = [] := rfl
theorem take_snoc {L : List Opn} {k : Nat} (h : k < L.length) {o : Opn} (e : L[k] = o) : L.take (k + 1) = L.take k ++ [o] := by
  rw [List.take_succ_eq_append_getElem h, e]
theorem bad_cases {n m : Nat} {x y : Int} (h : (inB n x && inB m y) = false) : x < 0 ∨ (0 ≤ x ∧ (n : Int) ≤ x) ∨ (0 ≤ x ∧ x < n ∧ y < 0) ∨ (0 ≤ x ∧ x < n ∧ 0 ≤ y ∧ (m : Int) ≤ y) := by
  have : ¬(inB n x && inB m y) = true := by rw [h]; exact Bool.false_ne_true
  rw [Bool.and_eq_true, inB_iff, inB_iff] at this
  omega
set_option maxHeartbeats 8000000 in
set_option maxRecDepth 100000 in
theorem told_any {w : World} (hT : TabAt w) {n m : Nat} (hn : n ≤ 64) (hm : m ≤ 2700) {A : Option Addr} {L : List Opn} (cp : Nat) (hL : ListAt w 3 OpAt A L) (hl : L.length ≤ 100) :
    Calls Tryd.prog 10 #[.int .i64 n, .int .i64 m, .slice A L.length cp] w fun e w' => ∃ b vo vp,
      e = .returned (.tuple #[.pointer (some ⟨b, 0, none⟩), vo, vp, .bool true]) ∧ Td w w' b n m L vo vp := by
  obtain ⟨i0, hi0, hz0, hz1, hz2⟩ := info_parts info_two
  have HI := Lib.hid hi0
  have HL := Lib.hid hL
  have HT := Lib.hid hT
  have HH0 : 0 < w.heap.size := hT.pos
  clear hT hL hi0
  go_enter Tryd.func10, Tryd.ntmps10
  go_wp2_with fail
  refine (new_any w hn hm).mono ?_
  rintro e w1 ⟨b, rfl, q1⟩
  have T0 := Lib.hid (Td.start HT.out q1)
  clear q1
  go_wp2
  go_loopw [12, 13, 14] (fun vo vp i wr => ∃ k : Nat, k ≤ L.length ∧ i = .int .i64 k ∧ Hid (Td w wr b n m (L.take k) vo vp)) (fun _ _ i _ => L.length - (intOf i).toNat)
  case atStart => exact ⟨0, Nat.zero_le _, rfl, T0⟩
  case round =>
    obtain ⟨k, hk, rfl, HD⟩ := hrel
    obtain ⟨oo, co, rfl, _⟩ := own_slice HD.out.own1
    obtain ⟨op, cpp, rfl, _⟩ := own_slice HD.out.own2
    obtain ⟨no, hno⟩ : ∃ q, (outs n (L.take k)).length = q := ⟨_, rfl⟩
    obtain ⟨np, hnp⟩ : ∃ q, (puts n m (L.take k)).length = q := ⟨_, rfl⟩
    have HNO := Lib.hid hno
    have HNP := Lib.hid hnp
    have hno1 : no ≤ 100 := by have := outs_len n (L.take k); rw [List.length_take] at this; omega
    have hnp1 : np ≤ 100 := by have := puts_len n m (L.take k); rw [List.length_take] at this; omega
    rw [hno, hnp] at HD
    rw [hno, hnp]
    clear hno hnp
    by_cases hkl : k < L.length
    · obtain ⟨bk, o, p, x, y, hA, hpx, x0, x1, x2⟩ := op_at HL.out HD.out.since rfl hkl
      rw [hA]
      have HA := Lib.hid hA
      have HTK := Lib.hid (take_snoc hkl hpx)
      obtain ⟨oD, hoD⟩ : ∃ o', (Obj.cells #[.bool p, .int .i64 x, .int .i64 y] 35) = o' := ⟨_, rfl⟩
      have HD1 := Lib.hid (HD.out.alloc oD)
      have ID : Hid (Is (wr.alloc oD) wr.heap.size 35 #[.bool p, .int .i64 x, .int .i64 y]) := by rw [← hoD]; exact Is.made wr _ _
      have n0 := ID.out.at_ 0
      have n1 := ID.out.at_ 1
      have n2 := ID.out.at_ 2
      simp only [List.getElem?_toArray, List.getElem?_cons_zero, List.getElem?_cons_succ] at n0 n1 n2
      clear hA hpx
      cases p with
      | true =>
        cases hbad : (inB n x && inB m y) with
        | false =>
          have HB := Lib.hid hbad
          have HS : Hid (Td w (wr.alloc oD) b n m (L.take (k + 1)) (.slice oo no co) (.slice op np cpp)) := by
            show Td _ _ _ _ _ _ _ _
            rw [HTK.out]
            exact HD1.out.same out1_put (put1_bad hbad)
          have HP := Lib.hid (put_bad HD1.out.head hbad)
          clear hbad
          rcases bad_cases HB.out with g1 | ⟨g1, g2⟩ | ⟨g1, g2, g3⟩ | ⟨g1, g2, g3, g4⟩
          · have d1 : decide (0 ≤ x) = false := decide_eq_false (by omega)
            go_wp2_with fail
            refine HP.out.mono ?_
            rintro e w2 ⟨rfl, rfl⟩
            go_wp2
            go_roundw
            case rel => exact ⟨k + 1, by omega, by go_num, HS⟩
            case measure => simp [intOf]; omega
          · have d1 : decide (x < (n : Int)) = false := decide_eq_false (by omega)
            go_wp2_with fail
            refine HP.out.mono ?_
            rintro e w2 ⟨rfl, rfl⟩
            go_wp2
            go_roundw
            case rel => exact ⟨k + 1, by omega, by go_num, HS⟩
            case measure => simp [intOf]; omega
          · have d1 : decide (0 ≤ y) = false := decide_eq_false (by omega)
            go_wp2_with fail
            refine HP.out.mono ?_
            rintro e w2 ⟨rfl, rfl⟩
            go_wp2
            go_roundw
            case rel => exact ⟨k + 1, by omega, by go_num, HS⟩
            case measure => simp [intOf]; omega
          · have d1 : decide (y < (m : Int)) = false := decide_eq_false (by omega)
            go_wp2_with fail
            refine HP.out.mono ?_
            rintro e w2 ⟨rfl, rfl⟩
            go_wp2
            go_roundw
            case rel => exact ⟨k + 1, by omega, by go_num, HS⟩
            case measure => simp [intOf]; omega
        | true =>
          rw [Bool.and_eq_true] at hbad
          obtain ⟨x', hxe, hx⟩ := inB_get hbad.1
          obtain ⟨y', hye, hy⟩ := inB_get hbad.2
          subst hxe hye
          clear hbad
          obtain ⟨b1, b2, O, I, hk1, hr1⟩ := HD1.out.knows (by omega)
          have HK1 := Lib.hid hk1
          have HR1 := Lib.hid hr1
          have HP := Lib.hid (put_any hk1 hx hy)
          clear hk1 hr1
          go_wp2_with fail
          refine HP.out.mono ?_
          rintro e w2 ⟨rfl, q1, q2⟩
          have K2 := Lib.hid q1
          have M2 := Lib.hid q2
          have R2 := Lib.hid (HD1.out.rows HK1.out HR1.out q2)
          have ID2 := q2.is ID.out (fun hs => by
            obtain ⟨z, hz⟩ := HK1.out.word hs
            exact is_ne ID.out hz (by decide) rfl)
          obtain ⟨ND, hND⟩ : ∃ ND, wr.heap.size = ND := ⟨_, rfl⟩
          rw [hND] at ID2 ⊢
          have m1 := ID2.at_ 1
          have m2 := ID2.at_ 2
          simp only [List.getElem?_toArray, List.getElem?_cons_zero, List.getElem?_cons_succ] at m1 m2
          have hs2 : w.heap.size ≤ w2.heap.size := R2.out.1.size
          have O2 : Hid (w2.ownsRow w.heap.size 40 2 (.slice op np cpp) np (pairC (puts n m (L.take k)))) := by have := R2.out.2.2; rw [HNP.out] at this; exact this
          have hb1 : np + 1 ≤ maxLen := by unfold maxLen; omega
          have HB1 := Lib.hid hb1
          clear q1 q2 ID2 n0 n1 n2 hND hb1
          go_wp2_with (at_builtin; refine wpList_append_lies _ rfl (.tmp 73) (.tmp 79) 26 rfl w.heap.size 40 i0 (.agg #[.int .i64 0, .int .i64 0]) 2 16 Tryd.underlying26 HI.out hz0 hz1 hz2 rfl (by decide) _ _ _ rfl (O2.out.alloc _) ⟨w2.heap.size, 0, none⟩ 1 1 [.int .i64 x', .int .i64 y'] rfl rfl (cells_made _ _ _) (by simp [Value.oneCell']) (by decide) HB1.out (by omega) (by simp; omega) _ rfl ?_)
          intro g cap w3 ho3 hg3 hat _
          have HS : Hid (Td w w3 b n m (L.take (k + 1)) (.slice oo no co) (.slice (some ⟨g, 0, none⟩) (np + 1) cap)) := by
            show Td _ _ _ _ _ _ _ _
            rw [HTK.out]
            rw [← HNP.out] at ho3 ⊢
            exact HD1.out.putted hx hy HH0 HR1.out HK1.out K2.out M2.out ho3 hg3 (hat.imp id fun e => by rw [e]; simp)
          clear ho3 hg3 hat O2 K2 M2 R2 m1 m2
          go_wp2
          go_roundw
          case rel => exact ⟨k + 1, by omega, by go_num, HS⟩
          case measure => simp [intOf]; omega
      | false =>
        cases hbad : (inB n x && inB n y) with
        | false =>
          have HB := Lib.hid hbad
          have HS : Hid (Td w (wr.alloc oD) b n m (L.take (k + 1)) (.slice oo no co) (.slice op np cpp)) := by
            show Td _ _ _ _ _ _ _ _
            rw [HTK.out]
            exact HD1.out.same (out1_bad hbad) put1_out
          have HP := Lib.hid (outlives_bad HD1.out.head hbad)
          clear hbad
          rcases bad_cases HB.out with g1 | ⟨g1, g2⟩ | ⟨g1, g2, g3⟩ | ⟨g1, g2, g3, g4⟩
          · have d1 : decide (0 ≤ x) = false := decide_eq_false (by omega)
            go_wp2_with fail
            refine HP.out.mono ?_
            rintro e w2 ⟨rfl, rfl⟩
            go_wp2
            go_roundw
            case rel => exact ⟨k + 1, by omega, by go_num, HS⟩
            case measure => simp [intOf]; omega
          · have d1 : decide (x < (n : Int)) = false := decide_eq_false (by omega)
            go_wp2_with fail
            refine HP.out.mono ?_
            rintro e w2 ⟨rfl, rfl⟩
            go_wp2
            go_roundw
            case rel => exact ⟨k + 1, by omega, by go_num, HS⟩
            case measure => simp [intOf]; omega
          · have d1 : decide (0 ≤ y) = false := decide_eq_false (by omega)
            go_wp2_with fail
            refine HP.out.mono ?_
            rintro e w2 ⟨rfl, rfl⟩
            go_wp2
            go_roundw
            case rel => exact ⟨k + 1, by omega, by go_num, HS⟩
            case measure => simp [intOf]; omega
          · have d1 : decide (y < (n : Int)) = false := decide_eq_false (by omega)
            go_wp2_with fail
            refine HP.out.mono ?_
            rintro e w2 ⟨rfl, rfl⟩
            go_wp2
            go_roundw
            case rel => exact ⟨k + 1, by omega, by go_num, HS⟩
            case measure => simp [intOf]; omega
        | true =>
          rw [Bool.and_eq_true] at hbad
          obtain ⟨x', hxe, hx⟩ := inB_get hbad.1
          obtain ⟨y', hye, hy⟩ := inB_get hbad.2
          subst hxe hye
          clear hbad
          obtain ⟨b1, b2, O, I, hk1, hr1⟩ := HD1.out.knows (by omega)
          have HK1 := Lib.hid hk1
          have HR1 := Lib.hid hr1
          have HP := Lib.hid (outlives_any hk1 hx hy)
          clear hk1 hr1
          go_wp2_with fail
          refine HP.out.mono ?_
          rintro e w2 ⟨rfl, q1, q2⟩
          have K2 := Lib.hid q1
          have M2 := Lib.hid q2
          have R2 := Lib.hid (HD1.out.rows HK1.out HR1.out q2)
          have ID2 := q2.is ID.out (fun hs => by
            obtain ⟨z, hz⟩ := HK1.out.word hs
            exact is_ne ID.out hz (by decide) rfl)
          obtain ⟨ND, hND⟩ : ∃ ND, wr.heap.size = ND := ⟨_, rfl⟩
          rw [hND] at ID2 ⊢
          have m1 := ID2.at_ 1
          have m2 := ID2.at_ 2
          simp only [List.getElem?_toArray, List.getElem?_cons_zero, List.getElem?_cons_succ] at m1 m2
          have hs2 : w.heap.size ≤ w2.heap.size := R2.out.1.size
          have O2 : Hid (w2.ownsRow w.heap.size 40 2 (.slice oo no co) no (pairC (outs n (L.take k)))) := by have := R2.out.2.1; rw [HNO.out] at this; exact this
          have hb1 : no + 1 ≤ maxLen := by unfold maxLen; omega
          have HB1 := Lib.hid hb1
          clear q1 q2 ID2 n0 n1 n2 hND hb1
          go_wp2_with (at_builtin; refine wpList_append_lies _ rfl (.tmp 99) (.tmp 105) 26 rfl w.heap.size 40 i0 (.agg #[.int .i64 0, .int .i64 0]) 2 16 Tryd.underlying26 HI.out hz0 hz1 hz2 rfl (by decide) _ _ _ rfl (O2.out.alloc _) ⟨w2.heap.size, 0, none⟩ 1 1 [.int .i64 x', .int .i64 y'] rfl rfl (cells_made _ _ _) (by simp [Value.oneCell']) (by decide) HB1.out (by omega) (by simp; omega) _ rfl ?_)
          intro g cap w3 ho3 hg3 hat _
          have HS : Hid (Td w w3 b n m (L.take (k + 1)) (.slice (some ⟨g, 0, none⟩) (no + 1) cap) (.slice op np cpp)) := by
            show Td _ _ _ _ _ _ _ _
            rw [HTK.out]
            rw [← HNO.out] at ho3 ⊢
            exact HD1.out.outed hx hy HH0 HR1.out HK1.out K2.out M2.out ho3 hg3 (hat.imp id fun e => by rw [e]; simp)
          clear ho3 hg3 hat O2 K2 M2 R2 m1 m2
          go_wp2
          go_roundw
          case rel => exact ⟨k + 1, by omega, by go_num, HS⟩
          case measure => simp [intOf]; omega
    · have hke : L.take k = L := List.take_of_length_le (by omega)
      have HS : Hid (Td w wr b n m L (.slice oo no co) (.slice op np cpp)) := by
        have := HD.out
        rw [hke] at this
        exact this
      clear hke
      go_wp2
      refine bodyPost_ret (v := .tuple #[.pointer (some ⟨b, 0, none⟩), .slice oo no co, .slice op np cpp, .bool true]) (by simp [results, Tryd.results10]) rfl ?_
      exact ⟨_, _, _, rfl, HS.out⟩
end Sv
end Go.Proofs.YtbflkaaenoeniaaDoor

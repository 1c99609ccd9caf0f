/- The walk of layer 3's law TreeWalks. -/
import Derived.Test.YthainjaefijidaaTreeK
import Derived.Test.YthainjaefijidaaTreeN
namespace Go.Proofs.Ythainjaefijidaa
open Go.RowKit Go.Deep
namespace Tr
theorem own_of_block {w w' : World} {base : Nat} {e : TypeId} {size n : Nat} {v : Value} {xs : List Value} (h : w.ownsRow base e size v n xs) (hb : ∀ g, v.ownBlock = some g → w'.heap[g]? = w.heap[g]?) : w'.ownsRow base e size v n xs := by
  refine ⟨h.1, ?_⟩
  rcases h.2 with h0 | ⟨g, cap, cur, rfl, h1, h2, h3⟩
  · exact .inl h0
  · exact .inr ⟨g, cap, cur, rfl, h1, (hb g rfl).trans h2, h3⟩
theorem below_drewN' {B : Nat} {x y : World} (h : Below B x y) (q : Nat) : Below B x (y.drewN q) := ⟨h.os, h.tape, h.output, h.size, h.block⟩
theorem seenAt {l : List St} {ll : Nat} (e : l.length = ll) {A : Option Addr} {ca : Nat} {W : World} {Q : Ending → World → Prop} (h : Calls Try.prog 13 #[.slice A l.length ca] W Q) : Calls Try.prog 13 #[.slice A ll ca] W Q := by
  rw [← e]; exact h
set_option maxHeartbeats 8000000 in
set_option maxRecDepth 100000 in
theorem treeWalks_walk {n : Nat} {x : Ex} {cs : List Value} {l : List St} {A : Option Addr} (ca : Nat) {W : World} (hx : ExAt W n x cs) (hl : ListAt W 17 (StAt W n) A l) (hbx : (seen x).length ≤ 2000000) (hbl : (seenB l).length ≤ 2000000) :
    Calls Try.prog 3 #[.agg cs.toArray, .slice A l.length ca] W fun e W' => e = .returned (.bool true) ∧ Below W.heap.size W W' := by
  have HX := Lib.hid hx
  obtain ⟨a0, a1, a2, a3, A4, l4, c4, A5, l5, c5, A6, l6, c6, a7, a8, rfl⟩ := hx.shape
  have HL := Lib.hid hl
  have HBX := Lib.hid hbx
  have HBL := Lib.hid hbl
  obtain ⟨ll, hll⟩ : ∃ n, l.length = n := ⟨_, rfl⟩
  have HLL := Lib.hid hll
  rw [hll]
  have b0 : Below W.heap.size W (W.alloc (.cells #[.int .i64 a0, .string a1, .int .u64 a2, .bool a3, .slice A4 l4 c4, .slice A5 l5 c5, .slice A6 l6 c6, .int .i64 a7, .int .i64 a8] 29)) := (Below.refl _ W).alloc (Nat.le_refl _) _
  have I0 := Lib.hid (Is.made W 29 #[.int .i64 a0, .string a1, .int .u64 a2, .bool a3, .slice A4 l4 c4, .slice A5 l5 c5, .slice A6 l6 c6, .int .i64 a7, .int .i64 a8])
  have B0 := Lib.hid b0
  have S0 := Lib.hid (show (W.alloc (.cells #[.int .i64 a0, .string a1, .int .u64 a2, .bool a3, .slice A4 l4 c4, .slice A5 l5 c5, .slice A6 l6 c6, .int .i64 a7, .int .i64 a8] 29)).heap.size = W.heap.size + 1 by simp)
  have EX : Hid (∀ W1, Below W.heap.size W W1 → ExAt W1 n x [.int .i64 a0, .string a1, .int .u64 a2, .bool a3, .slice A4 l4 c4, .slice A5 l5 c5, .slice A6 l6 c6, .int .i64 a7, .int .i64 a8]) := fun W1 g => ExAt.below g n x _ HX.out
  have ES : Hid (∀ W1, Below W.heap.size W W1 → ListAt W1 17 (StAt W1 n) A l) := fun W1 g => HL.out.below g fun x _ cs h => StAt.below g n x cs h
  clear hx hl hbx hbl hll b0
  go_enter Try.func3, Try.ntmps3
  go_wp2_with fail
  refine (printed_any _).mono ?_
  rintro e W2 ⟨rfl, q2⟩
  have I2 := Lib.hid (I0.out.below q2 (by rw [S0.out]; omega))
  have B2 := Lib.hid (B0.out.trans (q2.mono (by rw [S0.out]; omega)))
  have Z2 : W.heap.size + 1 ≤ W2.heap.size := by have := q2.size; rw [S0.out] at this; exact this
  have y0 := I2.out.at_ 0
  have y1 := I2.out.at_ 1
  have y2 := I2.out.at_ 2
  have y3 := I2.out.at_ 3
  have y4 := I2.out.at_ 4
  have y5 := I2.out.at_ 5
  have y6 := I2.out.at_ 6
  have y7 := I2.out.at_ 7
  have y8 := I2.out.at_ 8
  simp only [List.getElem?_toArray, List.getElem?_cons_zero, List.getElem?_cons_succ] at y0 y1 y2 y3 y4 y5 y6 y7 y8
  have HS := Lib.hid ((small_tree n).1 x _ 8 W2 (EX.out W2 B2.out) (by decide))
  clear q2
  go_wp2_with fail
  refine HS.out.mono ?_
  rintro e W3 ⟨⟨s1, rfl⟩, q3⟩
  have I3 := Lib.hid (I2.out.below q3 I2.out.lt)
  have B3 := Lib.hid (B2.out.trans (q3.mono (by omega)))
  have Z3 : W.heap.size + 1 ≤ W3.heap.size := Nat.le_trans Z2 q3.size
  clear q3 y0 y1 y2 y3 y4 y5 y6 y7 y8 HS
  cases s1 with
  | false =>
    go_wp2_with fail
    refine (printed_any _).mono ?_
    rintro e W4 ⟨rfl, q4⟩
    have B4 := Lib.hid (B3.out.trans (q4.mono (by omega)))
    clear q4
    go_wp2
    go_ret
    exact ⟨rfl, B4.out⟩
  | true =>
    have HS2 := (small_tree n).2 l A ca 6 W3 (ES.out W3 B3.out) (by decide)
    rw [HLL.out] at HS2
    have HS2 := Lib.hid HS2
    go_wp2_with fail
    refine HS2.out.mono ?_
    rintro e W4 ⟨⟨s2, rfl⟩, q4⟩
    have I4 := Lib.hid (I3.out.below q4 I3.out.lt)
    have B4 := Lib.hid (B3.out.trans (q4.mono (by omega)))
    have Z4 : W.heap.size + 1 ≤ W4.heap.size := Nat.le_trans Z3 q4.size
    clear q4 HS2
    cases s2 with
    | false =>
      go_wp2_with fail
      refine (printed_any _).mono ?_
      rintro e W5 ⟨rfl, q5⟩
      have B5 := Lib.hid (B4.out.trans (q5.mono (by omega)))
      clear q5
      go_wp2
      go_ret
      exact ⟨rfl, B5.out⟩
    | true =>
      obtain ⟨c1, hc1⟩ : ∃ c, W4.heap.size = c := ⟨_, rfl⟩
      have hs5 : ((W4.alloc (.cells #[.slice none 0 0] 33)).alloc (.cells #[.slice none 0 0] 33)).heap.size = c1 + 2 := by simp [hc1]
      have hA5 : Acc ((W4.alloc (.cells #[.slice none 0 0] 33)).alloc (.cells #[.slice none 0 0] 33)) c1 (c1 + 2) (.slice none 0 0) [] := by
        have h1 := Is.made W4 33 #[.slice none 0 0]
        rw [hc1] at h1
        exact ⟨h1.alloc _, ⟨rfl, .inl ⟨rfl, rfl⟩⟩, by omega, by rw [hs5]; exact Nat.le_refl _⟩
      have hD5 : Is ((W4.alloc (.cells #[.slice none 0 0] 33)).alloc (.cells #[.slice none 0 0] 33)) (c1 + 1) 33 #[.slice none 0 0] := by
        have h1 := Is.made (W4.alloc (.cells #[.slice none 0 0] 33)) 33 #[.slice none 0 0]
        rwa [show (W4.alloc (.cells #[.slice none 0 0] 33)).heap.size = c1 + 1 by simp [hc1]] at h1
      have B5 := Lib.hid ((B4.out.alloc (by omega) (.cells #[.slice none 0 0] 33)).alloc (by simp; omega) (.cells #[.slice none 0 0] 33))
      have I5 := Lib.hid ((I4.out.alloc (.cells #[.slice none 0 0] 33)).alloc (.cells #[.slice none 0 0] 33))
      have HA5 := Lib.hid hA5
      have D5 := Lib.hid hD5
      have hWc : W.heap.size + 1 ≤ c1 := by omega
      have hk := (walk1_tree n).1 x _ W _ c1 (c1 + 2) _ [] HX.out B5.out (by omega) hA5 (by rw [List.length_nil]; have := HBX.out; omega)
      have HW := Lib.hid hk
      have y0 := I4.out.at_ 0
      have y1 := I4.out.at_ 1
      have y2 := I4.out.at_ 2
      have y3 := I4.out.at_ 3
      have y4 := I4.out.at_ 4
      have y5 := I4.out.at_ 5
      have y6 := I4.out.at_ 6
      have y7 := I4.out.at_ 7
      have y8 := I4.out.at_ 8
      simp only [List.getElem?_toArray, List.getElem?_cons_zero, List.getElem?_cons_succ] at y0 y1 y2 y3 y4 y5 y6 y7 y8
      have hblk : W.heap.size < W4.heap.size := by omega
      have yo : ∀ (i : Nat) (o1 o2 : Obj), ((W4.alloc o1).alloc o2).cell? ⟨W.heap.size, i, none⟩ = W4.cell? ⟨W.heap.size, i, none⟩ := fun i o1 o2 => by
        rw [World.cell?_alloc_old _ _ _ (by show W.heap.size ≠ (W4.alloc o1).heap.size; simp; omega), World.cell?_alloc_old _ _ _ (by show W.heap.size ≠ W4.heap.size; omega)]
      have HS5 := Lib.hid hs5
      clear hs5 hA5 hD5 hk
      go_wp2_with fail
      refine HW.out.mono ?_
      rintro e W6 ⟨rfl, v1, k1⟩
      have I6 := Lib.hid (k1.is I5.out (by omega) (by intro e; cases e))
      have D6 := k1.is D5.out (by omega) (by intro e; cases e)
      have B6 := Lib.hid (k1.below HA5.out B5.out (by omega))
      have Z6 : c1 + 2 ≤ W6.heap.size := by have := k1.holes.size; rw [HS5.out] at this; exact this
      have acc2 : Acc W6 (c1 + 1) (c1 + 2) (.slice none 0 0) [] := ⟨D6, ⟨rfl, .inl ⟨rfl, rfl⟩⟩, by omega, Z6⟩
      have hk2 := (walk2_tree n).2.2 l A ca W W6 (c1 + 1) (c1 + 2) _ [] HL.out B6.out (by omega) acc2 (by rw [List.length_nil]; have := HBL.out; omega)
      rw [HLL.out] at hk2
      have HW2 := Lib.hid hk2
      have ACC2 := Lib.hid acc2
      have K1 := Lib.hid k1
      clear k1 D6 acc2 hk2 y0 y1 y2 y3 y4 y5 y6 y7 y8 yo HW
      go_wp2_with fail
      refine HW2.out.mono ?_
      rintro e W7 ⟨rfl, v2, k2⟩
      have I7 := Lib.hid (k2.is I6.out (by omega) (by intro e; cases e))
      have C7 := Lib.hid (k2.is K1.out.acc.cell (by omega) (by intro e; cases e))
      have B7 := Lib.hid (k2.below ACC2.out B6.out (by omega))
      have P7 := Lib.hid (own_of_block K1.out.acc.own fun g hg => k2.holes.block g (K1.out.acc.own.lt g hg).2 (by have := (K1.out.acc.own.lt g hg).1; omega) (by intro e; cases e))
      have Z7 : c1 + 2 ≤ W7.heap.size := Nat.le_trans Z6 k2.holes.size
      have K2 := Lib.hid k2
      have y0 := I7.out.at_ 0
      have y1 := I7.out.at_ 1
      have y2 := I7.out.at_ 2
      have y3 := I7.out.at_ 3
      have y4 := I7.out.at_ 4
      have y5 := I7.out.at_ 5
      have y6 := I7.out.at_ 6
      have y7 := I7.out.at_ 7
      have y8 := I7.out.at_ 8
      simp only [List.getElem?_toArray, List.getElem?_cons_zero, List.getElem?_cons_succ] at y0 y1 y2 y3 y4 y5 y6 y7 y8
      clear k2 HW2
      go_wp2_with fail
      refine (walk_nil _ _ _ _ _ _ _ _ _ _).mono ?_
      rintro e W8 ⟨rfl, q8⟩
      have B8 := Lib.hid (B7.out.trans (q8.mono (by omega)))
      have hn := nilB_any n l A ca W W8 HL.out B8.out
      rw [HLL.out] at hn
      have HN := Lib.hid hn
      have Q8 := Lib.hid q8
      clear q8 hn y0 y1 y2 y3 y4 y5 y6 y7 y8
      go_wp2_with fail
      refine HN.out.mono ?_
      rintro e W9 ⟨rfl, q9⟩
      have B9 := Lib.hid (B8.out.trans (q9.mono (by have := Q8.out.size; omega)))
      have B79 := Lib.hid (Q8.out.trans (q9.mono Q8.out.size))
      have I9 := Lib.hid (I7.out.below B79.out I7.out.lt)
      have C9 := Lib.hid (C7.out.below B79.out C7.out.lt)
      have D9 := Lib.hid (K2.out.acc.cell.below B79.out K2.out.acc.cell.lt)
      have P9 := own_below P7.out B79.out
      have Q9 := own_below K2.out.acc.own B79.out
      rw [List.nil_append] at P9 Q9
      have Z9 : c1 + 2 ≤ W9.heap.size := Nat.le_trans Z7 B79.out.size
      obtain ⟨A1, k1c, rfl, _⟩ := own_slice P9
      obtain ⟨A2, k2c, rfl, _⟩ := own_slice Q9
      have R1 := Lib.hid (own_row P9)
      have R2 := Lib.hid (own_row Q9)
      have KC : Hid (∀ W', Below W9.heap.size W9 W' → W'.cell? ⟨c1, 0, none⟩ = some (.slice A1 (seen x).length k1c) ∧ W'.cell? ⟨c1 + 1, 0, none⟩ = some (.slice A2 (seenB l).length k2c) ∧
          W'.cell? ⟨W.heap.size, 0, none⟩ = some (.int .i64 a0) ∧ W'.cell? ⟨W.heap.size, 1, none⟩ = some (.string a1) ∧ W'.cell? ⟨W.heap.size, 2, none⟩ = some (.int .u64 a2) ∧ W'.cell? ⟨W.heap.size, 3, none⟩ = some (.bool a3) ∧
          W'.cell? ⟨W.heap.size, 4, none⟩ = some (.slice A4 l4 c4) ∧ W'.cell? ⟨W.heap.size, 5, none⟩ = some (.slice A5 l5 c5) ∧ W'.cell? ⟨W.heap.size, 6, none⟩ = some (.slice A6 l6 c6) ∧ W'.cell? ⟨W.heap.size, 7, none⟩ = some (.int .i64 a7) ∧ W'.cell? ⟨W.heap.size, 8, none⟩ = some (.int .i64 a8)) := fun W' g => by
        have h1 := C9.out.below g C9.out.lt
        have h2 := D9.out.below g D9.out.lt
        have h3 := I9.out.below g I9.out.lt
        exact ⟨by rw [h1.at_]; rfl, by rw [h2.at_]; rfl, by rw [h3.at_]; rfl, by rw [h3.at_]; rfl, by rw [h3.at_]; rfl, by rw [h3.at_]; rfl, by rw [h3.at_]; rfl, by rw [h3.at_]; rfl, by rw [h3.at_]; rfl, by rw [h3.at_]; rfl, by rw [h3.at_]; rfl⟩
      have G0 := Lib.hid (below_drew (Below.refl W9.heap.size W9))
      clear q9 P9 Q9
      go_wp2_with fail
      go_region_held3 (fun W' => W'.cell? ⟨c1, 0, none⟩ = some (.slice A1 (seen x).length k1c) ∧ W'.cell? ⟨c1 + 1, 0, none⟩ = some (.slice A2 (seenB l).length k2c) ∧
          W'.cell? ⟨W.heap.size, 0, none⟩ = some (.int .i64 a0) ∧ W'.cell? ⟨W.heap.size, 1, none⟩ = some (.string a1) ∧ W'.cell? ⟨W.heap.size, 2, none⟩ = some (.int .u64 a2) ∧ W'.cell? ⟨W.heap.size, 3, none⟩ = some (.bool a3) ∧
          W'.cell? ⟨W.heap.size, 4, none⟩ = some (.slice A4 l4 c4) ∧ W'.cell? ⟨W.heap.size, 5, none⟩ = some (.slice A5 l5 c5) ∧ W'.cell? ⟨W.heap.size, 6, none⟩ = some (.slice A6 l6 c6) ∧ W'.cell? ⟨W.heap.size, 7, none⟩ = some (.int .i64 a7) ∧ W'.cell? ⟨W.heap.size, 8, none⟩ = some (.int .i64 a8))
        (first
          | exact KC.out _ G4.out
          | exact KC.out _ G3.out
          | exact KC.out _ G2.out
          | exact KC.out _ G1.out
          | exact KC.out _ G0.out)
        (first
          | (go_at_call 11; refine (ints_same (seenB l) HBL.out A2 Ab k2c kb (R2.out.below (G3.out.mono (Nat.le_refl _))) Rb.out).mono ?_; rintro e W12 ⟨rfl, qq, rfl⟩; have G4 := Lib.hid (below_drewN' G3.out qq))
          | (go_at_call 11; refine (ints_same (seen x) HBX.out A1 As k1c ks (R1.out.below G1.out) Rs.out).mono ?_; rintro e W11 ⟨rfl, qq, rfl⟩; have G2 := Lib.hid (below_drewN' G1.out qq))
          | (go_at_call 13; refine (seenAt HLL.out ((seen_tree n).2 l A ca _ (ES.out _ (B9.out.trans (G2.out.mono (by omega)))) HBL.out)).mono ?_; rintro e W11 ⟨vb, rfl, q1, q2⟩; obtain ⟨Ab, kb, rfl, _⟩ := own_slice q1; have Rb := Lib.hid (own_row q1); have G3 := Lib.hid (G2.out.trans (q2.mono G2.out.size)); clear q1 q2)
          | (go_at_call 12; refine ((seen_tree n).1 x _ _ (EX.out _ (B9.out.trans (G0.out.mono (by omega)))) HBX.out).mono ?_; rintro e W10 ⟨vs, rfl, q1, q2⟩; obtain ⟨As, ks, rfl, _⟩ := own_slice q1; have Rs := Lib.hid (own_row q1); have G1 := Lib.hid (G0.out.trans (q2.mono G0.out.size)); clear q1 q2))
      all_goals
        have HF := Lib.hid (B9.out.trans (G4.out.mono (by omega)))
        go_wp2
        go_ret
        exact ⟨rfl, HF.out⟩
end Tr
end Go.Proofs.Ythainjaefijidaa

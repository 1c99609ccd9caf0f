/- Layer 13: the law HeapNils. -/
import Derived.Test.YtbhjdpaicfnfcaaHeapY
namespace Go.Proofs.Ytbhjdpaicfnfcaa
open Go.RowKit Go.Deep Tr
namespace Hp
set_option maxHeartbeats 8000000
set_option maxRecDepth 100000
theorem nils_walk {W : World} {nv : Nat} {x : Va} {cs : List Value} (hx : VaAt W nv x cs) (pl : Int) (A : Option Addr) (l c : Nat) (ptg : Int) : Calls Try.prog 6 #[.agg cs.toArray, .agg #[.int .i64 pl, .slice A l c, .int .i64 ptg]] W fun e W' => e = .returned (.bool true) ∧ Below W.heap.size W W' := by
  obtain ⟨k, n, nm, P, lp, cp, al, R, lr, cr, tg, rfl⟩ := hx.shape
  obtain ⟨o1, ho1⟩ : ∃ o, Obj.cells #[.int .i64 k, .int .u64 n, .string nm, .slice P lp cp, .int .i64 al, .slice R lr cr, .int .i64 tg] 34 = o := ⟨_, rfl⟩
  obtain ⟨o2, ho2⟩ : ∃ o, Obj.cells #[.int .i64 pl, .slice A l c, .int .i64 ptg] 29 = o := ⟨_, rfl⟩
  have B2 : Below W.heap.size W ((W.alloc o1).alloc o2) := ((Below.refl _ W).alloc (Nat.le_refl _) o1).alloc (by simp) o2
  have hN : (W.alloc o1).heap.size = W.heap.size + 1 := by simp
  have i1 : Is ((W.alloc o1).alloc o2) W.heap.size 34 #[.int .i64 k, .int .u64 n, .string nm, .slice P lp cp, .int .i64 al, .slice R lr cr, .int .i64 tg] := by rw [← ho1]; exact (Is.made W _ _).alloc _
  have i2 : Is ((W.alloc o1).alloc o2) (W.heap.size + 1) 29 #[.int .i64 pl, .slice A l c, .int .i64 ptg] := by rw [← ho2]; exact hN ▸ Is.made (W.alloc o1) _ _
  obtain ⟨U, hU⟩ : ∃ U, (W.alloc o1).alloc o2 = U := ⟨_, rfl⟩
  rw [hU] at B2 i1 i2
  have HU : Hid ((W.alloc (.cells #[.int .i64 k, .int .u64 n, .string nm, .slice P lp cp, .int .i64 al, .slice R lr cr, .int .i64 tg] 34)).alloc (.cells #[.int .i64 pl, .slice A l c, .int .i64 ptg] 29) = U) := by rw [ho1, ho2]; exact hU
  have KC : Hid (∀ X, Below U.heap.size U X → (X.cell? ⟨W.heap.size, 0, none⟩ = some (.int .i64 k) ∧ X.cell? ⟨W.heap.size, 1, none⟩ = some (.int .u64 n) ∧ X.cell? ⟨W.heap.size, 2, none⟩ = some (.string nm) ∧ X.cell? ⟨W.heap.size, 3, none⟩ = some (.slice P lp cp) ∧ X.cell? ⟨W.heap.size, 4, none⟩ = some (.int .i64 al) ∧ X.cell? ⟨W.heap.size, 5, none⟩ = some (.slice R lr cr) ∧ X.cell? ⟨W.heap.size, 6, none⟩ = some (.int .i64 tg)) ∧
      (X.cell? ⟨W.heap.size + 1, 0, none⟩ = some (.int .i64 pl) ∧ X.cell? ⟨W.heap.size + 1, 1, none⟩ = some (.slice A l c) ∧ X.cell? ⟨W.heap.size + 1, 2, none⟩ = some (.int .i64 ptg)) ∧ Below W.heap.size W X) := fun X hX => by
    have j1 := i1.below hX i1.lt
    have j2 := i2.below hX i2.lt
    exact ⟨⟨j1.at_ 0, j1.at_ 1, j1.at_ 2, j1.at_ 3, j1.at_ 4, j1.at_ 5, j1.at_ 6⟩, ⟨j2.at_ 0, j2.at_ 1, j2.at_ 2⟩, B2.trans (hX.mono B2.size)⟩
  have HS := Lib.hid (smallVa_any nv x _ 4 U (VaAt.below B2 _ _ _ hx) (by decide))
  clear hx ho1 ho2 B2 hN i1 i2 hU
  obtain ⟨⟨v0, v1, v2, v3, v4, v5, v6⟩, ⟨p0, p1, p2⟩, _⟩ := KC.out U (Below.refl _ _)
  go_enter Try.func6, Try.ntmps6
  go_wp2_with fail
  rw [HU.out]
  go_wp2_with fail
  refine HS.out.mono ?_
  rintro e U1 ⟨⟨b, rfl⟩, q1⟩
  have HB1 := Lib.hid q1
  have HK1 := Lib.hid ((KC.out U1 q1).2.2)
  clear v0 v1 v2 v3 v4 v5 v6 p0 p1 p2
  obtain ⟨⟨v0, v1, v2, v3, v4, v5, v6⟩, ⟨p0, p1, p2⟩, _⟩ := KC.out U1 q1
  clear q1 HS
  by_cases hout : b = false ∨ (b = true ∧ k = 6) ∨ (b = true ∧ k ≠ 6 ∧ k = 5) ∨ (b = true ∧ k ≠ 6 ∧ k ≠ 5 ∧ 20 < l)
  · rcases hout with rfl | ⟨rfl, rfl⟩ | ⟨rfl, _, rfl⟩ | ⟨rfl, h6, h5, hl⟩
    case inr.inr.inr =>
      have e6 : (k == 6) = false := by rw [beq_eq_false_iff_ne]; exact h6
      have e5 : (k == 5) = false := by rw [beq_eq_false_iff_ne]; exact h5
      clear h6 h5
      go_wp2_with fail
      refine (watched_any _).mono ?_
      rintro e w4 ⟨rfl, q4⟩
      have HE := Lib.hid (HK1.out.trans (q4.mono HK1.out.size))
      clear q4
      go_wp2
      go_ret
      exact ⟨rfl, HE.out⟩
    all_goals
      go_wp2_with fail
      refine (watched_any _).mono ?_
      rintro e w4 ⟨rfl, q4⟩
      have HE := Lib.hid (HK1.out.trans (q4.mono HK1.out.size))
      clear q4
      go_wp2
      go_ret
      exact ⟨rfl, HE.out⟩
  · have hb : b = true := by cases b <;> simp_all
    subst hb
    have h6 : k ≠ 6 := fun e => hout (.inr (.inl ⟨rfl, e⟩))
    have h5 : k ≠ 5 := fun e => hout (.inr (.inr (.inl ⟨rfl, h6, e⟩)))
    have hl : l ≤ 20 := by
      rcases Nat.lt_or_ge 20 l with h | h
      · exact absurd (.inr (.inr (.inr ⟨rfl, h6, h5, h⟩))) hout
      · exact h
    have e6 : (k == 6) = false := by rw [beq_eq_false_iff_ne]; exact h6
    have e5 : (k == 5) = false := by rw [beq_eq_false_iff_ne]; exact h5
    have H56 := Lib.hid (And.intro h5 h6)
    clear h6 h5 hout HU HK1
    skip
    have HB0 := HB1
    clear HB1
    go_wp2_with fail
    
    refine (alloc_nil U1 k n nm P lp cp al R lr cr tg).mono ?_
    rintro e y0 ⟨rfl, q⟩
    obtain ⟨X1, hX⟩ : ∃ X, y0.alloc (.cells #[.int .i64 0, .slice none 0 0, .int .i64 0] 29) = X := ⟨_, rfl⟩
    have HB1 : Hid (Below U.heap.size U X1) := by rw [← hX]; exact (HB0.out.trans (q.mono HB0.out.size)).alloc (HB0.out.trans (q.mono HB0.out.size)).size _
    have HX1 := Lib.hid hX
    clear v0 v1 v2 v3 v4 v5 v6 p0 p1 p2
    obtain ⟨⟨v0, v1, v2, v3, v4, v5, v6⟩, ⟨p0, p1, p2⟩, _⟩ := KC.out X1 HB1.out
    rw [← HX1.out] at v0 v1 v2 v3 v4 v5 v6 p0 p1 p2
    clear q hX HB0 
    
    go_wp2_with fail
    rw [HX1.out]
    refine (base_nil X1 pl).mono ?_
    rintro e y1 ⟨rfl, q⟩
    obtain ⟨X2, hX⟩ : ∃ X, y1.alloc (.cells #[.int .i64 0, .slice none 0 0, .int .i64 0] 29) = X := ⟨_, rfl⟩
    have HB2 : Hid (Below U.heap.size U X2) := by rw [← hX]; exact (HB1.out.trans (q.mono HB1.out.size)).alloc (HB1.out.trans (q.mono HB1.out.size)).size _
    have HX2 := Lib.hid hX
    clear v0 v1 v2 v3 v4 v5 v6 p0 p1 p2
    obtain ⟨⟨v0, v1, v2, v3, v4, v5, v6⟩, ⟨p0, p1, p2⟩, _⟩ := KC.out X2 HB2.out
    rw [← HX2.out] at v0 v1 v2 v3 v4 v5 v6 p0 p1 p2
    clear q hX HB1 HX1
    
    go_wp2_with fail
    rw [HX2.out]
    refine (read_none (w := X2) (hp := none) (fun Y wt _ => huse_nil Y pl A l c ptg wt)).mono ?_
    rintro e y2 ⟨rfl, q⟩
    obtain ⟨X3, hX⟩ : ∃ X, y2.alloc (.cells #[.int .i64 0, .int .u64 0, .string ⟨#[]⟩, .slice none 0 0, .int .i64 0, .slice none 0 0, .int .i64 0] 34) = X := ⟨_, rfl⟩
    have HB3 : Hid (Below U.heap.size U X3) := by rw [← hX]; exact (HB2.out.trans (q.mono HB2.out.size)).alloc (HB2.out.trans (q.mono HB2.out.size)).size _
    have HX3 := Lib.hid hX
    clear v0 v1 v2 v3 v4 v5 v6 p0 p1 p2
    obtain ⟨⟨v0, v1, v2, v3, v4, v5, v6⟩, ⟨p0, p1, p2⟩, _⟩ := KC.out X3 HB3.out
    rw [← HX3.out] at v0 v1 v2 v3 v4 v5 v6 p0 p1 p2
    clear q hX HB2 HX2
    simp only [leafC]
    go_wp2_with fail
    rw [HX3.out]
    refine (take_none (w := X3) (hp := none) (fun Y wt _ => huse_nil Y pl A l c ptg wt)).mono ?_
    rintro e y3 ⟨rfl, q⟩
    obtain ⟨X4, hX⟩ : ∃ X, y3.alloc (.cells #[.int .i64 0, .int .u64 0, .string ⟨#[]⟩, .slice none 0 0, .int .i64 0, .slice none 0 0, .int .i64 0] 34) = X := ⟨_, rfl⟩
    have HB4 : Hid (Below U.heap.size U X4) := by rw [← hX]; exact (HB3.out.trans (q.mono HB3.out.size)).alloc (HB3.out.trans (q.mono HB3.out.size)).size _
    have HX4 := Lib.hid hX
    clear v0 v1 v2 v3 v4 v5 v6 p0 p1 p2
    obtain ⟨⟨v0, v1, v2, v3, v4, v5, v6⟩, ⟨p0, p1, p2⟩, _⟩ := KC.out X4 HB4.out
    rw [← HX4.out] at v0 v1 v2 v3 v4 v5 v6 p0 p1 p2
    clear q hX HB3 HX3
    simp only [leafC]
    go_wp2_with fail
    rw [HX4.out]
    refine (borrow_none (w := X4) (hp := none) (fun Y wt _ => huse_nil Y pl A l c ptg wt) true).mono ?_
    rintro e y4 ⟨rfl, q⟩
    obtain ⟨X5, hX⟩ : ∃ X, y4.alloc (.cells #[.int .i64 0, .slice none 0 0, .int .i64 0] 29) = X := ⟨_, rfl⟩
    have HB5 : Hid (Below U.heap.size U X5) := by rw [← hX]; exact (HB4.out.trans (q.mono HB4.out.size)).alloc (HB4.out.trans (q.mono HB4.out.size)).size _
    have HX5 := Lib.hid hX
    clear v0 v1 v2 v3 v4 v5 v6 p0 p1 p2
    obtain ⟨⟨v0, v1, v2, v3, v4, v5, v6⟩, ⟨p0, p1, p2⟩, _⟩ := KC.out X5 HB5.out
    rw [← HX5.out] at v0 v1 v2 v3 v4 v5 v6 p0 p1 p2
    clear q hX HB4 HX4
    
    go_wp2_with fail
    rw [HX5.out]
    refine (peek_nil X5 pl A l c ptg).mono ?_
    rintro e y5 ⟨rfl, q⟩
    obtain ⟨X6, hX⟩ : ∃ X, y5.alloc (.cells #[.int .i64 0, .int .u64 0, .string ⟨#[]⟩, .slice none 0 0, .int .i64 0, .slice none 0 0, .int .i64 0] 34) = X := ⟨_, rfl⟩
    have HB6 : Hid (Below U.heap.size U X6) := by rw [← hX]; exact (HB5.out.trans (q.mono HB5.out.size)).alloc (HB5.out.trans (q.mono HB5.out.size)).size _
    have HX6 := Lib.hid hX
    clear v0 v1 v2 v3 v4 v5 v6 p0 p1 p2
    obtain ⟨⟨v0, v1, v2, v3, v4, v5, v6⟩, ⟨p0, p1, p2⟩, _⟩ := KC.out X6 HB6.out
    rw [← HX6.out] at v0 v1 v2 v3 v4 v5 v6 p0 p1 p2
    clear q hX HB5 HX5
    simp only [leafC]
    go_wp2_with fail
    rw [HX6.out]
    have HBX6 := HB6
    refine (watched_any X6).mono ?_
    rintro e Z1 ⟨rfl, q⟩
    have HBZ1 : Hid (Below U.heap.size U Z1) := HBX6.out.trans (q.mono HBX6.out.size)
    clear v0 v1 v2 v3 v4 v5 v6 p0 p1 p2
    obtain ⟨⟨v0, v1, v2, v3, v4, v5, v6⟩, ⟨p0, p1, p2⟩, _⟩ := KC.out Z1 HBZ1.out
    clear q
    go_wp2_with fail
    refine (write_none (w := Z1) (hp := none) (fun Y wt _ => huse_nil Y pl A l c ptg wt) k n nm P lp cp al R lr cr tg).mono ?_
    rintro e Z2 ⟨rfl, q⟩
    have HBZ2 : Hid (Below U.heap.size U Z2) := HBZ1.out.trans (q.mono HBZ1.out.size)
    clear v0 v1 v2 v3 v4 v5 v6 p0 p1 p2
    obtain ⟨⟨v0, v1, v2, v3, v4, v5, v6⟩, ⟨p0, p1, p2⟩, _⟩ := KC.out Z2 HBZ2.out
    clear q
    go_wp2_with fail
    refine (free_none (w := Z2) (hp := none) (al := pl) (fun Y _ => find_nil Y pl)).mono ?_
    rintro e Z3 ⟨rfl, q⟩
    have HBZ3 : Hid (Below U.heap.size U Z3) := HBZ2.out.trans (q.mono HBZ2.out.size)
    clear v0 v1 v2 v3 v4 v5 v6 p0 p1 p2
    obtain ⟨⟨v0, v1, v2, v3, v4, v5, v6⟩, ⟨p0, p1, p2⟩, _⟩ := KC.out Z3 HBZ3.out
    clear q
    go_wp2_with fail
    refine (drop_leaf Z3 none k H56.out.1 H56.out.2 n nm P lp cp al R lr cr tg).mono ?_
    rintro e Z4 ⟨rfl, q⟩
    have HBZ4 : Hid (Below U.heap.size U Z4) := HBZ3.out.trans (q.mono HBZ3.out.size)
    clear v0 v1 v2 v3 v4 v5 v6 p0 p1 p2
    obtain ⟨⟨v0, v1, v2, v3, v4, v5, v6⟩, ⟨p0, p1, p2⟩, _⟩ := KC.out Z4 HBZ4.out
    clear q
    go_wp2_with fail
    refine (live_nil Z4).mono ?_
    rintro e Z5 ⟨rfl, rfl⟩
    go_wp2_with fail
    refine (stack_nil _ pl).mono ?_
    rintro e Z6 ⟨rfl, rfl⟩
    have HE := Lib.hid (KC.out _ HBZ4.out).2.2
    clear v0 v1 v2 v3 v4 v5 v6 p0 p1 p2
    go_wp2
    go_ret
    exact ⟨rfl, HE.out⟩
end Hp
end Go.Proofs.Ytbhjdpaicfnfcaa

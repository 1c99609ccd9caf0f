/- Layer 13: the law HeapParts. -/
import Derived.Deep.RegionHeld3
import Derived.Test.YtbhjdpaicfnfcaaHeapR
import Derived.Test.YtbhjdpaicfnfcaaHeapP
import Derived.Test.YtbhjdpaicfnfcaaHeapT
namespace Go.Proofs.Ytbhjdpaicfnfcaa
open Go.RowKit Go.Deep Tr
namespace Hp
set_option maxHeartbeats 8000000
set_option maxRecDepth 100000
theorem two_any (w : World) (a b : Int) : Calls Try.prog 10 #[.int .u64 a, .int .u64 b] w fun e w' => ∃ q, e = .returned (.agg (twoC q).toArray) ∧ TwoIn w' q 2 a 2 b ∧ w.heap.size ≤ q ∧ Below w.heap.size w w' := by
  obtain ⟨V, hV⟩ : ∃ V, w.alloc (.cells #[.int .i64 0, .int .u64 0, .string ⟨#[]⟩, .slice none 0 0, .int .i64 0, .slice none 0 0, .int .i64 0] 34) = V := ⟨_, rfl⟩
  have b0 : Below w.heap.size w V := by rw [← hV]; exact (Below.refl _ _).alloc (Nat.le_refl _) _
  have ir : Is V w.heap.size 34 #[.int .i64 0, .int .u64 0, .string ⟨#[]⟩, .slice none 0 0, .int .i64 0, .slice none 0 0, .int .i64 0] := by rw [← hV]; exact Is.made w _ _
  have HV := Lib.hid hV
  have HB := Lib.hid b0
  have IR := Lib.hid ir
  clear hV b0 ir
  go_enter Try.func10, Try.ntmps10
  go_wp2_with fail
  rw [HV.out]
  refine (num_any _ a).mono ?_
  rintro e w1 ⟨rfl, q1⟩
  go_wp2_with fail
  refine (num_any _ b).mono ?_
  rintro e w2 ⟨rfl, q2⟩
  have hb2 : Below V.heap.size V w2 := q1.trans (q2.mono q1.size)
  have i2 := IR.out.below hb2 IR.out.lt
  have HB2 := Lib.hid (HB.out.trans (hb2.mono HB.out.size))
  have IR2 := Lib.hid i2
  have iA := i2.alloc (.cells (leafC 2 a 0 ++ leafC 2 b 0).toArray 34)
  have r0 := iA.at_ 0
  have r1 := iA.at_ 1
  have r2 := iA.at_ 2
  have r3 := iA.at_ 3
  have r4 := iA.at_ 4
  have r5 := iA.at_ 5
  have r6 := iA.at_ 6
  have rf : ∀ i, (w2.alloc (.cells (leafC 2 a 0 ++ leafC 2 b 0).toArray 34)).frozen? ⟨w.heap.size, i, none⟩ = false := fun i => iA.free i
  simp [leafC] at r0 r1 r2 r3 r4 r5 r6 rf
  clear q1 q2 hb2 i2 iA
  have hm : Mod (fun k => k = w.heap.size) (w2.alloc (.cells #[.int .i64 2, .int .u64 a, .string ⟨#[]⟩, .slice none 0 0, .int .i64 0, .slice none 0 0, .int .i64 0, .int .i64 2, .int .u64 b, .string ⟨#[]⟩, .slice none 0 0, .int .i64 0, .slice none 0 0, .int .i64 0] 34)) ((((((((w2.alloc (.cells #[.int .i64 2, .int .u64 a, .string ⟨#[]⟩, .slice none 0 0, .int .i64 0, .slice none 0 0, .int .i64 0, .int .i64 2, .int .u64 b, .string ⟨#[]⟩, .slice none 0 0, .int .i64 0, .slice none 0 0, .int .i64 0] 34)).setCell ⟨w.heap.size, 0, none⟩ (.int .i64 5)).setCell ⟨w.heap.size, 1, none⟩ (.int .u64 0)).setCell ⟨w.heap.size, 2, none⟩ (.string ⟨#[83]⟩)).setCell ⟨w.heap.size, 3, none⟩ (.slice (some ⟨w2.heap.size, 0, none⟩) 2 2)).setCell ⟨w.heap.size, 4, none⟩ (.int .i64 0)).setCell ⟨w.heap.size, 5, none⟩ (.slice none 0 0)).setCell ⟨w.heap.size, 6, none⟩ (.int .i64 0)) := (((((((Mod.refl (fun k => k = w.heap.size) (w2.alloc (.cells #[.int .i64 2, .int .u64 a, .string ⟨#[]⟩, .slice none 0 0, .int .i64 0, .slice none 0 0, .int .i64 0, .int .i64 2, .int .u64 b, .string ⟨#[]⟩, .slice none 0 0, .int .i64 0, .slice none 0 0, .int .i64 0] 34))).put (fun _ => rfl) _ _).put (fun _ => rfl) _ _).put (fun _ => rfl) _ _).put (fun _ => rfl) _ _).put (fun _ => rfl) _ _).put (fun _ => rfl) _ _).put (fun _ => rfl) _ _
  have hT : TwoIn (w2.alloc (.cells #[.int .i64 2, .int .u64 a, .string ⟨#[]⟩, .slice none 0 0, .int .i64 0, .slice none 0 0, .int .i64 0, .int .i64 2, .int .u64 b, .string ⟨#[]⟩, .slice none 0 0, .int .i64 0, .slice none 0 0, .int .i64 0] 34)) w2.heap.size 2 a 2 b := Is.made w2 _ _
  have hne : w2.heap.size ≠ w.heap.size := fun e => by have := IR2.out.lt; omega
  have HG : Hid (TwoIn ((((((((w2.alloc (.cells #[.int .i64 2, .int .u64 a, .string ⟨#[]⟩, .slice none 0 0, .int .i64 0, .slice none 0 0, .int .i64 0, .int .i64 2, .int .u64 b, .string ⟨#[]⟩, .slice none 0 0, .int .i64 0, .slice none 0 0, .int .i64 0] 34)).setCell ⟨w.heap.size, 0, none⟩ (.int .i64 5)).setCell ⟨w.heap.size, 1, none⟩ (.int .u64 0)).setCell ⟨w.heap.size, 2, none⟩ (.string ⟨#[83]⟩)).setCell ⟨w.heap.size, 3, none⟩ (.slice (some ⟨w2.heap.size, 0, none⟩) 2 2)).setCell ⟨w.heap.size, 4, none⟩ (.int .i64 0)).setCell ⟨w.heap.size, 5, none⟩ (.slice none 0 0)).setCell ⟨w.heap.size, 6, none⟩ (.int .i64 0)) w2.heap.size 2 a 2 b ∧ w.heap.size ≤ w2.heap.size ∧ Below w.heap.size w ((((((((w2.alloc (.cells #[.int .i64 2, .int .u64 a, .string ⟨#[]⟩, .slice none 0 0, .int .i64 0, .slice none 0 0, .int .i64 0, .int .i64 2, .int .u64 b, .string ⟨#[]⟩, .slice none 0 0, .int .i64 0, .slice none 0 0, .int .i64 0] 34)).setCell ⟨w.heap.size, 0, none⟩ (.int .i64 5)).setCell ⟨w.heap.size, 1, none⟩ (.int .u64 0)).setCell ⟨w.heap.size, 2, none⟩ (.string ⟨#[83]⟩)).setCell ⟨w.heap.size, 3, none⟩ (.slice (some ⟨w2.heap.size, 0, none⟩) 2 2)).setCell ⟨w.heap.size, 4, none⟩ (.int .i64 0)).setCell ⟨w.heap.size, 5, none⟩ (.slice none 0 0)).setCell ⟨w.heap.size, 6, none⟩ (.int .i64 0))) :=
    ⟨hm.is hT hne, HB2.out.size, hm.below (HB2.out.alloc HB2.out.size _) (by have := HB2.out.size; simp; omega) (fun k hk => by subst hk; exact Nat.le_refl _)⟩
  clear hm hT hne HB2 IR2
  go_wp2
  refine bodyPost_ret (v := .agg (twoC w2.heap.size).toArray) (by simp [results, Try.results10, go_sem, twoC, r0, r1, r2, r3, r4, r5, r6]) rfl ?_
  exact ⟨_, rfl, HG.out⟩
theorem Wt.box {w0 w w' : World} {hb mb made tags n m : Nat} {f : Int → Option Value} {al : Int} {cb g cap : Nat} {vs : List Value} {S : List Hd} (h : Wt w0 w hb mb made tags n m f al cb g cap vs S) {P : Nat → Prop} (hP : ∀ k, P k → w0.heap.size ≤ k ∧ ∃ cs, Is w k 29 cs) (hm : Mod P w w') : Wt w0 w' hb mb made tags n m f al cb g cap vs S := by
  obtain ⟨⟨most, h1⟩, h2, h3, h4, h5, h6, h7, h8⟩ := h
  obtain ⟨cur, s1, _⟩ := h2.stk.cells
  have e1 : ¬P hb := fun hk => by obtain ⟨_, cs, hi⟩ := hP _ hk; exact is_ne h1.head hi (by decide) rfl
  have e2 : ¬P mb := fun hk => by obtain ⟨_, cs, hi⟩ := hP _ hk; exact not_cell h1.map hi rfl
  have e3 : ¬P cb := fun hk => by obtain ⟨_, cs, hi⟩ := hP _ hk; exact is_ne h2.cell hi (by decide) rfl
  have e4 : ¬P g := fun hk => by obtain ⟨_, cs, hi⟩ := hP _ hk; exact is_ne s1 hi (by decide) rfl
  have e5 : ∀ k, P k → ¬IntB w k := fun k hk => by obtain ⟨_, cs, hi⟩ := hP _ hk; exact not_int hi (by decide)
  exact ⟨⟨most, h1.mod hm e1 e2⟩, ⟨hm.is h2.cell e3, h2.stk.mod hm e5 e4, h2.seven, h2.few, h2.rise⟩, h3, h4, h5, hm.below h6 h6.size (fun k hk => (hP k hk).1), h7, h8⟩
/-- One part was written, or taken away. -/
theorem Wt.part {w0 w w' : World} {hb mb made tags n m : Nat} {f : Int → Option Value} {al : Int} {cb g cap q : Nat} {S : List Hd} (h : Wt w0 w hb mb made tags n m f al cb g cap (twoC q) S) {k n1 k' n' : Int} (ht : TwoIn w q k n1 k' n') (hq : w0.heap.size ≤ q) {p : Nat} (h1 : Is w' cb 78 (cellC (twoC q) g (left S [1] true p).length cap)) (h2 : Stk w' g cap (left S [1] true p)) (hm : Mod (fun b => b = cb ∨ b = g ∨ b = q) w w') :
    Wt w0 w' hb mb made tags n m f al cb g cap (twoC q) (left S [1] true p) ∧ (∀ A l, PathAt w A l → PathAt w' A l) ∧ (∀ b cs, Is w b 29 cs → Is w' b 29 cs) := by
  obtain ⟨⟨most, g1⟩, g2, g3, g4, g5, g6, g7, g8⟩ := h
  obtain ⟨cur, s1, _⟩ := g2.stk.cells
  refine ⟨⟨⟨most, g1.mod hm ?_ ?_⟩, ⟨h1, h2, g2.seven, Nat.le_trans (left_le ..) g2.few, left_rise g2.rise _ _ _⟩, g3, g4, g5, hm.below g6 g6.size (fun b hb => by rcases hb with rfl | rfl | rfl; exact g5.2.2.1; exact g5.2.2.2; exact hq), ⟨g7.1, Nat.le_trans (left_le ..) g7.2⟩, fun x hx => g8 x ((left_sub S _ _ _).subset hx)⟩, fun A l hp => hp.mod hm (fun b hb => ?_), fun b cs hi => hm.is hi ?_⟩
  · rintro (e | e | e)
    · exact is_ne g1.head g2.cell (by decide) e
    · exact is_ne g1.head s1 (by decide) e
    · exact is_ne g1.head ht (by decide) e
  · rintro (e | e | e)
    · exact not_cell g1.map g2.cell e.symm
    · exact not_cell g1.map s1 e.symm
    · exact not_cell g1.map ht e.symm
  · rcases hb with rfl | rfl | rfl
    · exact not_int g2.cell (by decide)
    · exact not_int s1 (by decide)
    · exact not_int ht (by decide)
  · rintro (e | e | e)
    · exact is_ne hi g2.cell (by decide) e
    · exact is_ne hi s1 (by decide) e
    · exact is_ne hi ht (by decide) e
theorem path_lit (w : World) (b : Nat) (x : Int) (h : Is w b 3 #[.int .i64 x]) : PathAt w (some ⟨b, 0, none⟩) [x] :=
  ⟨⟨[.int .i64 x], ⟨rfl, (by decide : 1 ≤ maxLen)⟩, ⟨fun _ => ⟨b, 0, rfl, h.lt, fun i u hu => by rw [Nat.zero_add, h.at_]; simpa using hu⟩, fun u hu => by simp at hu; subst hu; rfl⟩, fun i hi => by
    simp at hi
    subst hi
    rfl⟩, fun _ => ⟨_, rfl, _, _, h⟩⟩
theorem parts_walk (W : World) (a b : Int) (uq wr : Bool) : Calls Try.prog 4 #[.agg #[.int .u64 a, .int .u64 b, .bool uq, .bool wr]] W fun e W' => e = .returned (.bool true) ∧ Below W.heap.size W W' := by
  obtain ⟨w, hw⟩ : ∃ w, W.alloc (.cells #[.int .u64 a, .int .u64 b, .bool uq, .bool wr] 45) = w := ⟨_, rfl⟩
  have HW := Lib.hid hw
  have HB0 : Hid (Below W.heap.size W w) := by rw [← hw]; exact (Below.refl _ _).alloc (Nat.le_refl _) _
  clear hw
  have iw : Is w W.heap.size 45 #[.int .u64 a, .int .u64 b, .bool uq, .bool wr] := by rw [← HW.out]; exact Is.made W _ _
  have g0 := iw.at_ 0
  have g1 := iw.at_ 1
  have g2 := iw.at_ 2
  have g3 := iw.at_ 3
  simp at g0 g1 g2 g3
  clear iw
  go_enter Try.func4, Try.ntmps4
  go_wp2_with fail
  rw [HW.out]
  go_quiet (fail)
  rename_i nq
  obtain ⟨W1, hW1⟩ : ∃ W1, w.drewN nq = W1 := ⟨_, rfl⟩
  rw [hW1]
  have HB1 : Hid (Below W.heap.size W W1) := by rw [← hW1]; exact HB0.out.trans ((below_drewN _ _).mono HB0.out.size)
  clear hW1 g0 g1 g2 g3 HW HB0
  go_wp2_with fail
  refine (new_any _ 4 true).mono ?_
  rintro e w1 ⟨hb, mb, rfl, h1, lo1, lo2, b1⟩
  have H1 := Lib.hid h1
  have HB2 := Lib.hid (HB1.out.trans (b1.mono HB1.out.size))
  have HLO := Lib.hid (And.intro (Nat.le_trans HB1.out.size lo1) (Nat.le_trans HB1.out.size lo2))
  clear h1 lo1 lo2 b1 HB1
  go_wp2_with fail
  refine (two_any _ a b).mono ?_
  rintro e w2 ⟨q0, rfl, t2, l2, b2⟩
  have h2 := H1.out.below b2
  have HB3 := Lib.hid (HB2.out.trans (b2.mono HB2.out.size))
  have HA := Lib.hid (alloc_any h2 (by decide) (by decide) (by decide) (by decide) rfl (us := twoC q0) rfl (stays_two W.heap.size 2 a 2 b) (fun X hX => (clone_two (t2.below hX t2.lt : TwoIn X q0 2 a 2 b)).mono fun e w' ⟨q', h1, h2, h3, h4⟩ => ⟨_, h1, rfl, ⟨q', Nat.le_trans (Nat.le_trans HB3.out.size hX.size) h3, rfl, h2⟩, h4⟩))
  have H2 := Lib.hid h2
  clear t2 l2 b2 h2 H1 HB2
  go_wp2_with fail
  refine HA.out.mono ?_
  rintro e w3 ⟨vs, cb, g, cap, rfl, a1, a2, ⟨q, lq, rfl, t3⟩, a3, a4, a5⟩
  have hw := wt_start (w0 := W) H2.out HLO.out HB3.out a1 a2 a3 a4 a5
  have HW3 := Lib.hid hw.1
  have HT3 := Lib.hid (And.intro t3 lq)
  clear a1 a2 a3 a4 a5 hw HA H2 HB3 t3 lq
  go_wp2_with fail
  obtain ⟨NP, hNP⟩ : ∃ N, w3.heap.size = N := ⟨_, rfl⟩
  obtain ⟨V4, hV4⟩ : ∃ V, w3.alloc (.cells #[.int .i64 0, .slice none 0 0, .int .i64 1] 29) = V := ⟨_, rfl⟩
  have b4 : Below w3.heap.size w3 V4 := by rw [← hV4]; exact (Below.refl _ _).alloc (Nat.le_refl _) _
  have ip : Is V4 NP 29 #[.int .i64 0, .slice none 0 0, .int .i64 1] := by rw [← hV4, ← hNP]; exact Is.made w3 _ _
  rw [hV4, hNP]
  refine (watched_any V4).mono ?_
  rintro e w5 ⟨rfl, b5⟩
  have HW5 := Lib.hid ((HW3.out.below b4).below b5)
  have HT5 := Lib.hid (And.intro ((HT3.out.1.below b4 HT3.out.1.lt : TwoIn V4 q 2 a 2 b).below b5 (HT3.out.1.below b4 HT3.out.1.lt).lt : TwoIn w5 q 2 a 2 b) HT3.out.2)
  have i5 := ip.below b5 ip.lt
  have IP5 := Lib.hid i5
  have p0 := i5.at_ 0
  have p1 := i5.at_ 1
  have p2 := i5.at_ 2
  simp at p0 p1 p2
  have KC : Hid (∀ X, Below w5.heap.size w5 X → X.cell? ⟨NP, 0, none⟩ = some (.int .i64 0) ∧ X.cell? ⟨NP, 1, none⟩ = some (.slice none 0 0) ∧ X.cell? ⟨NP, 2, none⟩ = some (.int .i64 1)) := fun X hX => by
    have := IP5.out.below hX IP5.out.lt
    exact ⟨this.at_ 0, this.at_ 1, this.at_ 2⟩
  clear hV4 hNP b4 ip b5 HW3 HT3 i5 p0 p1 p2
  obtain ⟨p0, p1, p2⟩ := KC.out w5 (Below.refl _ _)
  go_wp2_with fail
  go_cut [10, 11] (fun sx sy wx => ∃ x y, sx = .pointer (some ⟨x, 0, none⟩) ∧ sy = .pointer (some ⟨y, 0, none⟩) ∧ Hid (x ≠ y ∧ Is wx x 29 #[.int .i64 0, .slice none 0 0, .int .i64 1] ∧ Is wx y 29 #[.int .i64 0, .slice none 0 0, .int .i64 1] ∧ Below w5.heap.size w5 wx ∧ w5.heap.size ≤ x ∧ w5.heap.size ≤ y))
  case first =>
    go_region_held3 (fun X => X.cell? ⟨NP, 0, none⟩ = some (.int .i64 0) ∧ X.cell? ⟨NP, 1, none⟩ = some (.slice none 0 0) ∧ X.cell? ⟨NP, 2, none⟩ = some (.int .i64 1))
      ((refine KC.out _ ?_; repeat (first | exact Below.refl _ _ | refine Below.drew ?_ | refine Below.alloc ?_ (by simp []) _ | refine Below.setCell ?_ (by simp [World.setCell]) _)))
      (fail)
    all_goals
      go_wp2_with fail
      go_meet
      have J1 : Is ((w5.alloc (.cells #[.int .i64 0, .slice none 0 0, .int .i64 1] 29)).alloc (.cells #[.int .i64 0, .slice none 0 0, .int .i64 1] 29)).drew w5.heap.size 29 #[.int .i64 0, .slice none 0 0, .int .i64 1] := ((Is.made w5 _ _).alloc _).drew
      have J2 : Is ((w5.alloc (.cells #[.int .i64 0, .slice none 0 0, .int .i64 1] 29)).alloc (.cells #[.int .i64 0, .slice none 0 0, .int .i64 1] 29)).drew (w5.heap.size + 1) 29 #[.int .i64 0, .slice none 0 0, .int .i64 1] := by
        have := (Is.made (w5.alloc (.cells #[.int .i64 0, .slice none 0 0, .int .i64 1] 29)) 29 #[.int .i64 0, .slice none 0 0, .int .i64 1]).drew
        simp only [size_al] at this
        exact this
      have JB : Below w5.heap.size w5 ((w5.alloc (.cells #[.int .i64 0, .slice none 0 0, .int .i64 1] 29)).alloc (.cells #[.int .i64 0, .slice none 0 0, .int .i64 1] 29)).drew := (((Below.refl _ w5).alloc (Nat.le_refl _) _).alloc (by simp) _).drew
      first
        | exact ⟨_, _, rfl, rfl, ⟨by omega, J1, J2, JB, Nat.le_refl _, Nat.le_succ _⟩⟩
        | exact ⟨_, _, rfl, rfl, ⟨by omega, J2, J1, JB, Nat.le_succ _, Nat.le_refl _⟩⟩
  case rest =>
    obtain ⟨NX, NY, rfl, rfl, HXY⟩ := hcut
    obtain ⟨hxy, ix, iy, hbx, lx, ly⟩ := HXY.out
    have bA : Below wc.heap.size wc ((wc.alloc (.cells #[.int .i64 0] 3)).alloc (.cells #[.int .i64 1] 3)) := ((Below.refl _ wc).alloc (Nat.le_refl _) _).alloc (by simp) _
    have ix7 := ix.below bA ix.lt
    have iy7 := iy.below bA iy.lt
    have x0 := ix7.at_ 0
    have x1 := ix7.at_ 1
    have x2 := ix7.at_ 2
    have y0 := iy7.at_ 0
    have y1 := iy7.at_ 1
    have y2 := iy7.at_ 2
    have xf : ∀ i, ((wc.alloc (.cells #[.int .i64 0] 3)).alloc (.cells #[.int .i64 1] 3)).frozen? ⟨NX, i, none⟩ = false := fun i => ix7.free i
    have yf : ∀ i, ((wc.alloc (.cells #[.int .i64 0] 3)).alloc (.cells #[.int .i64 1] 3)).frozen? ⟨NY, i, none⟩ = false := fun i => iy7.free i
    have hyx : NY ≠ NX := fun e => hxy e.symm
    simp at x0 x1 x2 y0 y1 y2
    have HXY2 := Lib.hid (And.intro ix7 (And.intro iy7 (And.intro bA (And.intro hbx (And.intro lx ly)))))
    have HS9 : Hid (Wt W ((((wc.alloc (.cells #[.int .i64 0] 3)).alloc (.cells #[.int .i64 1] 3)).setCell ⟨NX, 1, none⟩ (.slice (some ⟨wc.heap.size, 0, none⟩) 1 1)).setCell ⟨NY, 1, none⟩ (.slice (some ⟨wc.heap.size + 1, 0, none⟩) 1 1)) hb mb 1 1 1 1 (put (fun _ => none) 0 (.pointer (some ⟨cb, 0, none⟩))) 0 cb g cap (twoC q) [⟨1, [], true⟩] ∧ TwoIn ((((wc.alloc (.cells #[.int .i64 0] 3)).alloc (.cells #[.int .i64 1] 3)).setCell ⟨NX, 1, none⟩ (.slice (some ⟨wc.heap.size, 0, none⟩) 1 1)).setCell ⟨NY, 1, none⟩ (.slice (some ⟨wc.heap.size + 1, 0, none⟩) 1 1)) q 2 a 2 b ∧ PathAt ((((wc.alloc (.cells #[.int .i64 0] 3)).alloc (.cells #[.int .i64 1] 3)).setCell ⟨NX, 1, none⟩ (.slice (some ⟨wc.heap.size, 0, none⟩) 1 1)).setCell ⟨NY, 1, none⟩ (.slice (some ⟨wc.heap.size + 1, 0, none⟩) 1 1)) (some ⟨wc.heap.size, 0, none⟩) [0] ∧ PathAt ((((wc.alloc (.cells #[.int .i64 0] 3)).alloc (.cells #[.int .i64 1] 3)).setCell ⟨NX, 1, none⟩ (.slice (some ⟨wc.heap.size, 0, none⟩) 1 1)).setCell ⟨NY, 1, none⟩ (.slice (some ⟨wc.heap.size + 1, 0, none⟩) 1 1)) (some ⟨wc.heap.size + 1, 0, none⟩) [1] ∧ Is ((((wc.alloc (.cells #[.int .i64 0] 3)).alloc (.cells #[.int .i64 1] 3)).setCell ⟨NX, 1, none⟩ (.slice (some ⟨wc.heap.size, 0, none⟩) 1 1)).setCell ⟨NY, 1, none⟩ (.slice (some ⟨wc.heap.size + 1, 0, none⟩) 1 1)) NY 29 #[.int .i64 0, .slice (some ⟨wc.heap.size + 1, 0, none⟩) 1 1, .int .i64 1]) := by
      have hw0 := (HW5.out.below hbx).below bA
      have ht0 := ((HT5.out.1.below hbx HT5.out.1.lt).below bA (HT5.out.1.below hbx HT5.out.1.lt).lt : TwoIn ((wc.alloc (.cells #[.int .i64 0] 3)).alloc (.cells #[.int .i64 1] 3)) q 2 a 2 b)
      have hm : Mod (fun k => k = NX ∨ k = NY) ((wc.alloc (.cells #[.int .i64 0] 3)).alloc (.cells #[.int .i64 1] 3)) ((((wc.alloc (.cells #[.int .i64 0] 3)).alloc (.cells #[.int .i64 1] 3)).setCell ⟨NX, 1, none⟩ (.slice (some ⟨wc.heap.size, 0, none⟩) 1 1)).setCell ⟨NY, 1, none⟩ (.slice (some ⟨wc.heap.size + 1, 0, none⟩) 1 1)) := ((Mod.refl (fun k => k = NX ∨ k = NY) ((wc.alloc (.cells #[.int .i64 0] 3)).alloc (.cells #[.int .i64 1] 3))).put (fun _ => .inl rfl) _ _).put (fun _ => .inr rfl) _ _
      have hP : ∀ k, (k = NX ∨ k = NY) → W.heap.size ≤ k ∧ ∃ cs, Is ((wc.alloc (.cells #[.int .i64 0] 3)).alloc (.cells #[.int .i64 1] 3)) k 29 cs := fun k hk => by
        have := HW5.out.since.size
        rcases hk with rfl | rfl
        · exact ⟨by omega, _, ix7⟩
        · exact ⟨by omega, _, iy7⟩
      have hni : ∀ k, (k = NX ∨ k = NY) → ¬IntB ((wc.alloc (.cells #[.int .i64 0] 3)).alloc (.cells #[.int .i64 1] 3)) k := fun k hk => by obtain ⟨_, cs, hi⟩ := hP k hk; exact not_int hi (by decide)
      have p1 : Is ((wc.alloc (.cells #[.int .i64 0] 3)).alloc (.cells #[.int .i64 1] 3)) wc.heap.size 3 #[.int .i64 0] := (Is.made wc _ _).alloc _
      have p2 : Is ((wc.alloc (.cells #[.int .i64 0] 3)).alloc (.cells #[.int .i64 1] 3)) (wc.heap.size + 1) 3 #[.int .i64 1] := by
        have := Is.made (wc.alloc (.cells #[.int .i64 0] 3)) 3 #[.int .i64 1]
        simp only [size_al] at this
        exact this
      refine ⟨hw0.box hP hm, hm.is ht0 (fun e => by obtain ⟨_, cs, hi⟩ := hP q e; exact is_ne ht0 hi (by decide) rfl), (path_lit _ _ 0 p1).mod hm hni, (path_lit _ _ 1 p2).mod hm hni, ?_⟩
      have := (iy7.aside (p := ⟨NX, 1, none⟩) (show NY ≠ NX from hyx) (.slice (some ⟨wc.heap.size, 0, none⟩) 1 1)).put 1 (.slice (some ⟨wc.heap.size + 1, 0, none⟩) 1 1)
      simpa using this
    obtain ⟨W9, hW9⟩ : ∃ W9, ((((wc.alloc (.cells #[.int .i64 0] 3)).alloc (.cells #[.int .i64 1] 3)).setCell ⟨NX, 1, none⟩ (.slice (some ⟨wc.heap.size, 0, none⟩) 1 1)).setCell ⟨NY, 1, none⟩ (.slice (some ⟨wc.heap.size + 1, 0, none⟩) 1 1)) = W9 := ⟨_, rfl⟩
    rw [hW9] at HS9
    have HW9 := Lib.hid hW9
    have HBO := Lib.hid (wt_borrow HS9.out.1 (by decide) (by decide) 1 (c := 1) HS9.out.2.2.1 (Nat.le_refl _) (by decide) (place_part HS9.out.1.cell HS9.out.2.1 (i := 0) (by decide) HS9.out.2.2.1 (by decide) part0) uq)
    simp only [List.length_cons, List.length_nil, Nat.zero_add] at HBO
    clear ix iy hbx lx ly bA ix7 iy7 HXY hW9
    go_wp2_with fail
    rw [HW9.out]
    obtain ⟨M, hM⟩ : ∃ M, wc.heap.size = M := ⟨_, rfl⟩
    rw [hM] at HBO HS9 ⊢
    clear hM x0 x1 x2 y0 y1 y2 xf yf
    refine HBO.out.mono ?_
    rintro e w10 ⟨p, b', hs, hc⟩
    obtain ⟨rfl, rfl⟩ := srch_hit hs 0 (by decide) rfl (fun k hk => absurd hk (Nat.not_lt_zero _))
    rcases hc with ⟨hc, _⟩ | ⟨_, A5, c5, g5, cap5, rfl, hc5, hp5, hw10, hk10, hm10⟩
    · cases uq <;> cases hc
    obtain ⟨_, ht9, _, py9, iy9⟩ := HS9.out
    obtain ⟨hmost, hh9⟩ := HS9.out.1.hp
    obtain ⟨cur9, s9, _⟩ := HS9.out.1.cell.stk.cells
    have nq9 : ¬(q = hb ∨ q = cb ∨ q = g) := by
      rintro (e | e | e)
      · exact is_ne ht9 hh9.head (by decide) e
      · exact is_ne ht9 HS9.out.1.cell.cell (by decide) e
      · exact is_ne ht9 s9 (by decide) e
    have b11 : Below w10.heap.size w10 (w10.alloc (.cells #[.int .i64 0, .slice A5 1 c5, .int .i64 2] 29)) := (Below.refl _ _).alloc (Nat.le_refl _) _
    have ht10 := hm10.is ht9 nq9
    have iy10 := Keeps.is hk10 iy9 (by decide)
    have HS : Hid (Wt W (w10.alloc (.cells #[.int .i64 0, .slice A5 1 c5, .int .i64 2] 29)) hb mb 1 2 1 1 (put (fun _ => none) 0 (.pointer (some ⟨cb, 0, none⟩))) 0 cb g5 cap5 (twoC q) [⟨1, [], true⟩, ⟨2, [0], uq⟩] ∧ TwoIn (w10.alloc (.cells #[.int .i64 0, .slice A5 1 c5, .int .i64 2] 29)) q 2 a 2 b ∧ PathAt (w10.alloc (.cells #[.int .i64 0, .slice A5 1 c5, .int .i64 2] 29)) A5 [0] ∧ PathAt (w10.alloc (.cells #[.int .i64 0, .slice A5 1 c5, .int .i64 2] 29)) (some ⟨M + 1, 0, none⟩) [1] ∧ Is (w10.alloc (.cells #[.int .i64 0, .slice A5 1 c5, .int .i64 2] 29)) NY 29 #[.int .i64 0, .slice (some ⟨M + 1, 0, none⟩) 1 1, .int .i64 1] ∧ Is (w10.alloc (.cells #[.int .i64 0, .slice A5 1 c5, .int .i64 2] 29)) w10.heap.size 29 #[.int .i64 0, .slice A5 1 c5, .int .i64 2] ∧ 1 ≤ c5) :=
      ⟨hw10.below b11, ht10.below b11 ht10.lt, hp5.below b11, (Keeps.path hk10 py9).below b11, iy10.below b11 iy10.lt, Is.made w10 _ _, hc5⟩
    obtain ⟨V11, hV11⟩ : ∃ V, w10.alloc (.cells #[.int .i64 0, .slice A5 1 c5, .int .i64 2] 29) = V := ⟨_, rfl⟩
    obtain ⟨NR, hNR⟩ : ∃ N, w10.heap.size = N := ⟨_, rfl⟩
    have iyA := iy10.alloc (.cells #[.int .i64 0, .slice A5 1 c5, .int .i64 2] 29)
    have y0 := iyA.at_ 0
    have y1 := iyA.at_ 1
    have y2 := iyA.at_ 2
    simp at y0 y1 y2
    rw [hV11, hNR] at HS
    have HV11 := Lib.hid hV11
    have HNR := Lib.hid hNR
    have HBY := Lib.hid (wt_borrow HS.out.1 (by decide) (by simp) 1 (c := 1) HS.out.2.2.2.1 (Nat.le_refl _) (by decide) (place_part HS.out.1.cell HS.out.2.1 (i := 1) (by decide) HS.out.2.2.2.1 (by decide) part1) true)
    simp only [List.length_cons, List.length_nil, Nat.zero_add] at HBY
    clear hs hc5 hp5 hw10 hk10 hm10 ht9 py9 iy9 hh9 s9 nq9 b11 ht10 iy10 iyA hV11 hNR HBO HS9 HW9
    go_wp2_with fail
    rw [HV11.out, HNR.out]
    refine HBY.out.mono ?_
    rintro e w12 ⟨p, b', hs, hc⟩
    obtain ⟨rfl, rfl⟩ := srch_hit hs 0 (by simp) rfl (fun k hk => absurd hk (Nat.not_lt_zero _))
    rcases hc with ⟨hc, _⟩ | ⟨_, A6, c6, g6, cap6, rfl, hc6, hp6, hw12, hk12, hm12⟩
    · cases hc
    obtain ⟨_, ht11, pr11, py11, iy11, ir11, lc5⟩ := HS.out
    obtain ⟨hmost, hh11⟩ := HS.out.1.hp
    obtain ⟨cur11, s11, _⟩ := HS.out.1.cell.stk.cells
    have nq11 : ¬(q = hb ∨ q = cb ∨ q = g5) := by
      rintro (e | e | e)
      · exact is_ne ht11 hh11.head (by decide) e
      · exact is_ne ht11 HS.out.1.cell.cell (by decide) e
      · exact is_ne ht11 s11 (by decide) e
    have b13 : Below w12.heap.size w12 (w12.alloc (.cells #[.int .i64 0, .slice A6 1 c6, .int .i64 3] 29)) := (Below.refl _ _).alloc (Nat.le_refl _) _
    have ht12 := hm12.is ht11 nq11
    have iy12 := Keeps.is hk12 iy11 (by decide)
    have ir12 := Keeps.is hk12 ir11 (by decide)
    obtain ⟨V13, hV13⟩ : ∃ V, w12.alloc (.cells #[.int .i64 0, .slice A6 1 c6, .int .i64 3] 29) = V := ⟨_, rfl⟩
    obtain ⟨NS, hNS⟩ : ∃ N, w12.heap.size = N := ⟨_, rfl⟩
    have HT : Hid (Wt W V13 hb mb 1 3 1 1 (put (fun _ => none) 0 (.pointer (some ⟨cb, 0, none⟩))) 0 cb g6 cap6 (twoC q) [⟨1, [], true⟩, ⟨2, [0], uq⟩, ⟨3, [1], true⟩] ∧ TwoIn V13 q 2 a 2 b ∧ PathAt V13 A5 [0] ∧ PathAt V13 A6 [1] ∧ PathAt V13 (some ⟨M + 1, 0, none⟩) [1] ∧ Is V13 NY 29 #[.int .i64 0, .slice (some ⟨M + 1, 0, none⟩) 1 1, .int .i64 1] ∧ Is V13 NR 29 #[.int .i64 0, .slice A5 1 c5, .int .i64 2] ∧ Is V13 NS 29 #[.int .i64 0, .slice A6 1 c6, .int .i64 3] ∧ 1 ≤ c5 ∧ 1 ≤ c6 ∧ W.heap.size ≤ q) := by
      rw [← hV13, ← hNS]
      exact ⟨hw12.below b13, ht12.below b13 ht12.lt, (Keeps.path hk12 pr11).below b13, hp6.below b13, (Keeps.path hk12 py11).below b13, iy12.below b13 iy12.lt, ir12.below b13 ir12.lt, Is.made w12 _ _, lc5, hc6, HT5.out.2⟩
    have HV13 := Lib.hid hV13
    have HNS := Lib.hid hNS
    have iyB := iy12.alloc (.cells #[.int .i64 0, .slice A6 1 c6, .int .i64 3] 29)
    have isB := Is.made w12 29 #[.int .i64 0, .slice A6 1 c6, .int .i64 3]
    rw [hNS] at isB
    clear y0 y1 y2
    have y0 := iyB.at_ 0
    have y1 := iyB.at_ 1
    have y2 := iyB.at_ 2
    have z0 := isB.at_ 0
    have z1 := isB.at_ 1
    have z2 := isB.at_ 2
    simp at y0 y1 y2 z0 z1 z2
    clear hs hc6 hp6 hw12 hk12 hm12 ht11 pr11 py11 iy11 ir11 hh11 s11 nq11 b13 ht12 iy12 ir12 iyB isB hV13 hNS HBY HS
    cases wr
    · have HTK := Lib.hid (by
        obtain ⟨most, hh⟩ := HT.out.1.hp
        exact take_part hh (wf_int (by decide) (by decide)) HT.out.1.at_ HT.out.1.cell HT.out.2.1 3 (c := c6) HT.out.2.2.2.1 HT.out.2.2.2.2.2.2.2.2.2.1)
      go_wp2_with fail
      rw [HV13.out, HNS.out]
      refine HTK.out.mono ?_
      rintro e w14 ⟨p, b', hs, hc⟩
      obtain ⟨rfl, rfl⟩ := srch_hit hs 2 (by simp) rfl (fun k hk => by
        match k, hk with
        | 0, _ => simp
        | 1, _ => simp)
      rcases hc with hc | ⟨_, rfl, t14, c14, k14, m14⟩
      · cases uq <;> cases hc
      obtain ⟨hw14, hp14, hq14⟩ := HT.out.1.part HT.out.2.1 HT.out.2.2.2.2.2.2.2.2.2.2 c14 k14 m14
      have hle : left [⟨1, [], true⟩, ⟨2, [0], uq⟩, ⟨3, [1], true⟩] [1] true 2 = [⟨1, [], true⟩, ⟨2, [0], uq⟩, ⟨3, [1], true⟩] := by cases uq <;> rfl
      rw [hle] at hw14
      have HR14 := Lib.hid (And.intro hw14 (And.intro t14 (And.intro (hp14 _ _ HT.out.2.2.1) (hq14 _ _ HT.out.2.2.2.2.2.2.1))))
      clear hs hle hw14 hp14 hq14 c14 k14 m14 t14 HTK
      have ir14 := HR14.out.2.2.2
      have r0 := ir14.at_ 0
      have r1 := ir14.at_ 1
      have r2 := ir14.at_ 2
      simp at r0 r1 r2
      have HRD := Lib.hid (wt_read HR14.out.1 2 (c := c5) HR14.out.2.2.1 HT.out.2.2.2.2.2.2.2.2.1 (place_part HR14.out.1.cell HR14.out.2.1 (i := 0) (by decide) HR14.out.2.2.1 (by decide) part0) (Q := (· = leafC 2 a 0)) (fun rs h => .inl ⟨_, _, _, h⟩) (fun X n cap hX hm => (clone_leaf X 2 a 0).mono fun e w' ⟨h1, h2⟩ => ⟨_, h1, rfl, rfl, h2⟩))
      go_wp2_with fail
      refine HRD.out.mono ?_
      rintro e w16 ⟨p, b', hs, hc⟩
      obtain ⟨rfl, rfl⟩ := srch_hit hs 1 (by simp) rfl (fun k hk => by
        match k, hk with
        | 0, _ => simp)
      rcases hc with ⟨hc, _⟩ | ⟨_, ⟨rs, rfl, _, hrs⟩, hw16⟩
      · cases uq <;> cases hc
      have hrs' : rs = [.int .i64 2, .int .u64 a, .string ⟨#[]⟩, .slice none 0 0, .int .i64 0, .slice none 0 0, .int .i64 0] := hrs
      subst hrs'
      have HBE := Lib.hid hw16.1.since
      clear hs hrs hw16 HRD HR14 HT r0 r1 r2 ir14
      have iA := Is.made w16 34 #[.int .i64 0, .int .u64 0, .string ⟨#[]⟩, .slice none 0 0, .int .i64 0, .slice none 0 0, .int .i64 0]
      have v0 := iA.at_ 0
      have v1 := iA.at_ 1
      have v2 := iA.at_ 2
      have v3 := iA.at_ 3
      have v4 := iA.at_ 4
      have v5 := iA.at_ 5
      have v6 := iA.at_ 6
      have vf : ∀ i, (w16.alloc (.cells #[.int .i64 0, .int .u64 0, .string ⟨#[]⟩, .slice none 0 0, .int .i64 0, .slice none 0 0, .int .i64 0] 34)).frozen? ⟨w16.heap.size, i, none⟩ = false := fun i => iA.free i
      simp at v0 v1 v2 v3 v4 v5 v6 vf
      clear iA
      go_wp2_with fail
      go_ret
      exact ⟨rfl, HBE.out.alloc HBE.out.size _⟩
    · have HWRT : Hid (∀ X, Below V13.heap.size V13 X → Calls Try.prog 13 #[.pointer (some ⟨hb, 0, none⟩), .agg #[.int .i64 0, .slice (some ⟨M + 1, 0, none⟩) 1 1, .int .i64 1], .agg #[.int .i64 2, .int .u64 a, .string ⟨#[]⟩, .slice none 0 0, .int .i64 0, .slice none 0 0, .int .i64 0]] X fun e w' => e = .returned (.int .i64 0) ∧ Hid (Wt W w' hb mb 1 3 1 1 (put (fun _ => none) 0 (.pointer (some ⟨cb, 0, none⟩))) 0 cb g6 cap6 (twoC q) [⟨1, [], true⟩, ⟨2, [0], uq⟩] ∧ TwoIn w' q 2 a 2 a ∧ PathAt w' A5 [0] ∧ Is w' NR 29 #[.int .i64 0, .slice A5 1 c5, .int .i64 2] ∧ Is w' NY 29 #[.int .i64 0, .slice (some ⟨M + 1, 0, none⟩) 1 1, .int .i64 1])) := fun X hX => by
        have hT := HT.out.1.below hX
        have t2 : TwoIn X q 2 a 2 b := HT.out.2.1.below hX HT.out.2.1.lt
        obtain ⟨most, hh⟩ := hT.hp
        refine (write_part hh (wf_int (by decide) (by decide)) hT.at_ hT.cell t2 1 (c := 1) (HT.out.2.2.2.2.1.below hX) (Nat.le_refl _) a).mono ?_
        rintro e w14 ⟨p, b', hs, hc⟩
        obtain ⟨rfl, rfl⟩ := srch_hit hs 0 (by simp) rfl (fun k hk => absurd hk (Nat.not_lt_zero _))
        rcases hc with hc | ⟨_, rfl, t14, c14, k14, m14⟩
        · cases uq <;> cases hc
        obtain ⟨hw14, hp14, hq14⟩ := hT.part t2 HT.out.2.2.2.2.2.2.2.2.2.2 c14 k14 m14
        have hle : left [⟨1, [], true⟩, ⟨2, [0], uq⟩, ⟨3, [1], true⟩] [1] true 0 = [⟨1, [], true⟩, ⟨2, [0], uq⟩] := by cases uq <;> rfl
        rw [hle] at hw14
        exact ⟨rfl, hw14, t14, hp14 _ _ (HT.out.2.2.1.below hX), hq14 _ _ (HT.out.2.2.2.2.2.2.1.below hX HT.out.2.2.2.2.2.2.1.lt), hq14 _ _ (HT.out.2.2.2.2.2.1.below hX HT.out.2.2.2.2.2.1.lt)⟩
      have KY : Hid (∀ X, Below V13.heap.size V13 X → X.cell? ⟨NY, 0, none⟩ = some (.int .i64 0) ∧ X.cell? ⟨NY, 1, none⟩ = some (.slice (some ⟨M + 1, 0, none⟩) 1 1) ∧ X.cell? ⟨NY, 2, none⟩ = some (.int .i64 1)) := fun X hX => by
        have := HT.out.2.2.2.2.2.1.below hX HT.out.2.2.2.2.2.1.lt
        exact ⟨this.at_ 0, this.at_ 1, this.at_ 2⟩
      have D0 := Lib.hid (Below.refl V13.heap.size V13).drew
      have DD := Lib.hid (Below.refl V13.heap.size V13)
      go_wp2_with fail
      rw [HV13.out]
      clear y0 y1 y2 z0 z1 z2
      go_region_held3 (fun X => X.cell? ⟨NY, 0, none⟩ = some (.int .i64 0) ∧ X.cell? ⟨NY, 1, none⟩ = some (.slice (some ⟨M + 1, 0, none⟩) 1 1) ∧ X.cell? ⟨NY, 2, none⟩ = some (.int .i64 1))
        (first
          | exact KE.out
          | exact KY.out _ D1.out
          | exact KY.out _ D0.out
          | exact KY.out _ DD.out)
        (first
          | (go_at_call 13; refine (HWRT.out _ D1.out).mono ?_; rintro e w14 ⟨rfl, HR14⟩; have KE := Lib.hid (And.intro (HR14.out.2.2.2.2.at_ 0) (And.intro (HR14.out.2.2.2.2.at_ 1) (HR14.out.2.2.2.2.at_ 2))))
          | (go_at_call 15; refine (num_any _ a).mono ?_; rintro e w13 ⟨rfl, b⟩; have D1 := Lib.hid (D0.out.trans (b.mono D0.out.size)); clear b))
      all_goals
        have ir14 := HR14.out.2.2.2.1
        have r0 := ir14.at_ 0
        have r1 := ir14.at_ 1
        have r2 := ir14.at_ 2
        simp at r0 r1 r2
        have HRD := Lib.hid (wt_read HR14.out.1 2 (c := c5) HR14.out.2.2.1 HT.out.2.2.2.2.2.2.2.2.1 (place_part HR14.out.1.cell HR14.out.2.1 (i := 0) (by decide) HR14.out.2.2.1 (by decide) part0) (Q := (· = leafC 2 a 0)) (fun rs h => .inl ⟨_, _, _, h⟩) (fun X n cap hX hm => (clone_leaf X 2 a 0).mono fun e w' ⟨h1, h2⟩ => ⟨_, h1, rfl, rfl, h2⟩))
        go_wp2_with fail
        refine HRD.out.mono ?_
        rintro e w16 ⟨p, b', hs, hc⟩
        obtain ⟨rfl, rfl⟩ := srch_hit hs 1 (by simp) rfl (fun k hk => by
          match k, hk with
          | 0, _ => simp)
        rcases hc with ⟨hc, _⟩ | ⟨_, ⟨rs, rfl, _, hrs⟩, hw16⟩
        · cases uq <;> cases hc
        have hrs' : rs = [.int .i64 2, .int .u64 a, .string ⟨#[]⟩, .slice none 0 0, .int .i64 0, .slice none 0 0, .int .i64 0] := hrs
        subst hrs'
        have HBE := Lib.hid hw16.1.since
        clear hs hrs hw16 HRD HR14 HT HWRT KY KE D0 D1 DD r0 r1 r2 ir14
        have iA := Is.made w16 34 #[.int .i64 0, .int .u64 0, .string ⟨#[]⟩, .slice none 0 0, .int .i64 0, .slice none 0 0, .int .i64 0]
        have v0 := iA.at_ 0
        have v1 := iA.at_ 1
        have v2 := iA.at_ 2
        have v3 := iA.at_ 3
        have v4 := iA.at_ 4
        have v5 := iA.at_ 5
        have v6 := iA.at_ 6
        have vf : ∀ i, (w16.alloc (.cells #[.int .i64 0, .int .u64 0, .string ⟨#[]⟩, .slice none 0 0, .int .i64 0, .slice none 0 0, .int .i64 0] 34)).frozen? ⟨w16.heap.size, i, none⟩ = false := fun i => iA.free i
        simp at v0 v1 v2 v3 v4 v5 v6 vf
        clear iA
        go_wp2_with fail
        go_ret
        exact ⟨rfl, HBE.out.alloc HBE.out.size _⟩
end Hp
end Go.Proofs.Ytbhjdpaicfnfcaa

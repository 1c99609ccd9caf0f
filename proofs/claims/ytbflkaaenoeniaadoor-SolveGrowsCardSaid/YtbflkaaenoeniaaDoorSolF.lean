/- The walks of layer 12: Put; Outlives. -/
import Derived.Test.YtbflkaaenoeniaaDoorSolE
namespace Go.Proofs.YtbflkaaenoeniaaDoor
open Go.RowKit Lf Go.Deep
namespace Sv
/-- The solver's words' blocks. -/
def Rw (O I : Nat → Nat) (n m : Nat) : Nat → Prop := fun k => (∃ i, i < n ∧ k = O i) ∨ (∃ i, i < m ∧ k = I i)
/-- A solver, what outlives what, and what is in what. -/
structure Knows (w : World) (b b1 b2 : Nat) (O I : Nat → Nat) (n m : Nat) (M : R2) (G : Nat → Nat → Bool) : Prop where
  sol : ∃ X Y, Sol w b b1 b2 O I n m X Y ∧ Cl X n M ∧ ∀ e, e < m → ∀ r, (Y e).testBit r = G e r
  closed : ∀ e, e < m → ∀ c d, G e d = true → M c d = true → G e c = true
section
variable {w w' : World} {b b1 b2 : Nat} {O I : Nat → Nat} {n m : Nat} {M : R2} {G : Nat → Nat → Bool}
theorem Knows.toHead (h : Knows w b b1 b2 O I n m M G) : Head w b n m := by
  obtain ⟨X, Y, hs, _⟩ := h.sol
  exact hs.toHead
theorem Knows.below (h : Knows w b b1 b2 O I n m M G) (hb : Below w.heap.size w w') : Knows w' b b1 b2 O I n m M G := by
  obtain ⟨X, Y, hs, h1, h2⟩ := h.sol
  exact ⟨⟨X, Y, hs.below hb, h1, h2⟩, h.closed⟩
theorem Knows.drew (h : Knows w b b1 b2 O I n m M G) : Knows w.drew b b1 b2 O I n m M G := by
  obtain ⟨X, Y, hs, h1, h2⟩ := h.sol
  exact ⟨⟨X, Y, hs.drew, h1, h2⟩, h.closed⟩
theorem Knows.rw_lt (h : Knows w b b1 b2 O I n m M G) {k : Nat} (hk : Rw O I n m k) : k < w.heap.size := by
  obtain ⟨X, Y, hs, _⟩ := h.sol
  rcases hk with ⟨i, hi, rfl⟩ | ⟨i, hi, rfl⟩
  · exact (hs.orow i hi).lt
  · exact (hs.irow i hi).lt
/-- An element put into a region. -/
def gput (M : R2) (G : Nat → Nat → Bool) (r e : Nat) : Nat → Nat → Bool := fun e' r' => G e' r' || (e' == e && M r' r)
/-- A region that outlives another. -/
def gout (M : R2) (G : Nat → Nat → Bool) (a b : Nat) : Nat → Nat → Bool := fun e r => G e r || (M r a && G e b)
theorem has_knows (h : Knows w b b1 b2 O I n m M G) {r e : Nat} (hr : r < n) (he : e < m) : Calls Tryd.prog 13 #[.pointer (some ⟨b, 0, none⟩), .int .i64 r, .int .i64 e] w fun x w' => x = .returned (.bool (G e r)) ∧ w = w' := by
  obtain ⟨X, Y, hs, h1, h2⟩ := h.sol
  rw [← h2 e he r]
  exact has_any hs hr he
theorem put_bad (h : Head w b n m) {r e : Int} (hbad : (inB n r && inB m e) = false) : Calls Tryd.prog 16 #[.pointer (some ⟨b, 0, none⟩), .int .i64 r, .int .i64 e] w fun x w' => x = .returned (.int .i64 14) ∧ w = w' := by
  have hb := hasBoth_any h r e
  rw [hbad] at hb
  have HB := Lib.hid hb
  clear h hb hbad
  go_enter Tryd.func16, Tryd.ntmps16
  go_wp2_with fail
  refine HB.out.mono ?_
  rintro e w1 ⟨rfl, rfl⟩
  go_wp2
  go_ret
  exact ⟨rfl, rfl⟩
theorem put_nil (r e : Int) (w : World) : Calls Tryd.prog 16 #[.pointer none, .int .i64 r, .int .i64 e] w fun x w' => x = .returned (.int .i64 14) ∧ w = w' := by
  go_enter Tryd.func16, Tryd.ntmps16
  go_wp2_with fail
  refine (hasBoth_nil _ _ _).mono ?_
  rintro e w1 ⟨rfl, rfl⟩
  go_wp2
  go_ret
  exact ⟨rfl, rfl⟩
theorem put_any (h : Knows w b b1 b2 O I n m M G) {r e : Nat} (hr : r < n) (he : e < m) :
    Calls Tryd.prog 16 #[.pointer (some ⟨b, 0, none⟩), .int .i64 r, .int .i64 e] w fun x w' => x = .returned (.int .i64 0) ∧ Knows w' b b1 b2 O I n m M (gput M G r e) ∧ Mod (Rw O I n m) w w' := by
  have hb := hasBoth_any h.toHead (r : Int) (e : Int)
  rw [inB_nat hr, inB_nat he] at hb
  have HB := Lib.hid hb
  obtain ⟨X, Y, hs, h1, h2⟩ := h.sol
  have hclo := h.closed
  have HSP := Lib.hid (spread_any hs h1 hr he (fun x y hx hy => .inl (by
    rw [h2 e he] at hx ⊢
    exact hclo e he y x hx (h1.has x y (bit_lt (hs.ylt e he) (by rw [h2 e he]; exact hx)) hy))))
  have HC := Lib.hid h1
  have H2 := Lib.hid h2
  have HCLO := Lib.hid hclo
  clear h hb hs h1 h2 hclo
  go_enter Tryd.func16, Tryd.ntmps16
  go_wp2_with fail
  refine HB.out.mono ?_
  rintro x1 w1 ⟨rfl, rfl⟩
  go_wp2_with fail
  refine HSP.out.mono ?_
  rintro x2 w2 ⟨rfl, S, q1, q2, q3⟩
  have HK : Hid (Knows w2 b b1 b2 O I n m M (gput M G r e)) := by
    refine ⟨⟨X, put Y e S, q2, HC.out, fun e' he' r' => ?_⟩, fun e' he' c d hd hm => ?_⟩
    · unfold put gput
      by_cases hee : e' = e
      · subst hee
        rw [if_pos rfl, q1 r', H2.out e' he']
        simp
      · rw [if_neg hee, H2.out e' he', show (e' == e) = false by simp; exact hee]
        simp
    · unfold gput at hd ⊢
      simp only [Bool.or_eq_true, Bool.and_eq_true, beq_iff_eq] at hd ⊢
      rcases hd with hd | ⟨h1, h2⟩
      · exact .inl (HCLO.out e' he' c d hd hm)
      · exact .inr ⟨h1, HC.out.ok.trans _ _ _ hm h2⟩
  have HM : Hid (Mod (Rw O I n m) w w2) := q3.mono fun k _ hk => .inr ⟨e, he, hk⟩
  clear q1 q2 q3
  go_wp2
  go_ret
  exact ⟨rfl, HK.out, HM.out⟩
theorem outlives_bad (h : Head w b n m) {r e : Int} (hbad : (inB n r && inB n e) = false) : Calls Tryd.prog 17 #[.pointer (some ⟨b, 0, none⟩), .int .i64 r, .int .i64 e] w fun x w' => x = .returned (.int .i64 14) ∧ w = w' := by
  have h1 := hasRegion_any h r
  have h2 := hasRegion_any h e
  cases hx : inB n r with
  | false =>
    rw [hx] at h1
    have H1 := Lib.hid h1
    clear h h1 h2 hbad hx
    go_enter Tryd.func17, Tryd.ntmps17
    go_wp2_with fail
    refine H1.out.mono ?_
    rintro e w1 ⟨rfl, rfl⟩
    go_wp2
    go_ret
    exact ⟨rfl, rfl⟩
  | true =>
    rw [hx, Bool.true_and] at hbad
    rw [hx] at h1
    rw [hbad] at h2
    have H1 := Lib.hid h1
    have H2 := Lib.hid h2
    clear h h1 h2 hbad hx
    go_enter Tryd.func17, Tryd.ntmps17
    go_wp2_with fail
    refine H1.out.mono ?_
    rintro e w1 ⟨rfl, rfl⟩
    go_wp2_with fail
    refine H2.out.mono ?_
    rintro e w1 ⟨rfl, rfl⟩
    go_wp2
    go_ret
    exact ⟨rfl, rfl⟩
theorem outlives_nil (r e : Int) (w : World) : Calls Tryd.prog 17 #[.pointer none, .int .i64 r, .int .i64 e] w fun x w' => x = .returned (.int .i64 14) ∧ w = w' := by
  go_enter Tryd.func17, Tryd.ntmps17
  go_wp2_with fail
  refine (hasRegion_nil _ _).mono ?_
  rintro e w1 ⟨rfl, rfl⟩
  go_wp2
  go_ret
  exact ⟨rfl, rfl⟩
/-- While elements are gone through. -/
def gto (M : R2) (G : Nat → Nat → Bool) (a b k : Nat) : Nat → Nat → Bool := fun e r => if e < k then gout M G a b e r else G e r
theorem plus_at (M : R2) (a b y : Nat) : plus M a b y a = M y a := by unfold plus; cases M y a <;> simp
set_option maxHeartbeats 4000000 in
theorem outlives_any (h : Knows w b b1 b2 O I n m M G) {x y : Nat} (hx : x < n) (hy : y < n) :
    Calls Tryd.prog 17 #[.pointer (some ⟨b, 0, none⟩), .int .i64 x, .int .i64 y] w fun e w' => e = .returned (.int .i64 0) ∧ Knows w' b b1 b2 O I n m (plus M x y) (gout M G x y) ∧ Mod (Rw O I n m) w w' := by
  have hb1 := hasRegion_any h.toHead (x : Int)
  have hb2 := hasRegion_any h.toHead (y : Int)
  rw [inB_nat hx] at hb1
  rw [inB_nat hy] at hb2
  have HB1 := Lib.hid hb1
  have HB2 := Lib.hid hb2
  obtain ⟨X, Y, hs, h1, h2⟩ := h.sol
  have hm := hs.most
  have HS := Lib.hid hs
  have HC := Lib.hid h1
  have H2 := Lib.hid h2
  have HCLO := Lib.hid h.closed
  have hx64 : x < 64 := Nat.lt_of_lt_of_le hx hs.few
  have hy64 : y < 64 := Nat.lt_of_lt_of_le hy hs.few
  have c0 := hs.c0
  have co := hs.co hy
  have HA := Lib.hid (add_bit (hs.orow y hy) (hs.x64 hy) hx64)
  clear h hb1 hb2 hs h1 h2
  go_enter Tryd.func17, Tryd.ntmps17
  go_wp2_with fail
  refine HB1.out.mono ?_
  rintro x1 w1 ⟨rfl, rfl⟩
  go_wp2_with fail
  refine HB2.out.mono ?_
  rintro x1 w1 ⟨rfl, rfl⟩
  go_wp2_with fail
  refine HA.out.mono ?_
  rintro x2 w2 ⟨rfl, q1, q2⟩
  have M2 : Mod (fun k => k = O y) w w2 := (Mod.refl _ w).but q2 rfl
  have S2 : Hid (Sol w2 b b1 b2 O I n m (put X y (X y ||| 2 ^ x)) Y) := HS.out.over_put hy M2 q1 (or_lt (HS.out.xlt y hy) (pow_lt hx))
  have MM : Hid (Mod (Rw O I n m) w w2) := M2.mono fun k _ hk => .inl ⟨y, hy, hk⟩
  have CC := Lib.hid (HC.out.add (a := x) hy)
  clear q1 q2 M2 c0 co HA HB1 HB2
  have c1 := S2.out.c1
  go_wp2
  clear c1
  go_loopw [32] (fun i wr => ∃ k : Nat, k ≤ m ∧ i = .int .i64 k ∧ Hid (∃ Y', Sol wr b b1 b2 O I n m (put X y (X y ||| 2 ^ x)) Y' ∧ ∀ e, e < m → ∀ r, (Y' e).testBit r = gto M G x y k e r) ∧ Hid (Mod (Rw O I n m) w wr)) (fun i _ => m - (intOf i).toNat)
  case atStart => exact ⟨0, Nat.zero_le _, rfl, ⟨Y, S2.out, fun e he r => by rw [H2.out e he]; unfold gto; rw [if_neg (by omega)]⟩, MM⟩
  case round =>
    obtain ⟨k, hk, rfl, HY, HM⟩ := hrel
    obtain ⟨Y', hs, hb⟩ := HY.out
    by_cases hkm : k < m
    · have HS' := Lib.hid hs
      have HBT := Lib.hid hb
      have hk0 : ∀ r, (Y' k).testBit r = G k r := fun r => by rw [hb k hkm]; unfold gto; rw [if_neg (by omega)]
      have hstep : ∀ S, (∀ r, S.testBit r = gout M G x y k r) → ∀ e, e < m → ∀ r, (put Y' k S e).testBit r = gto M G x y (k + 1) e r := fun S hS e he r => by
        unfold put
        by_cases hek : e = k
        · subst hek
          rw [if_pos rfl, hS]
          unfold gto
          rw [if_pos (by omega)]
        · rw [if_neg hek, hb e he]
          unfold gto
          by_cases h : e < k
          · rw [if_pos h, if_pos (by omega)]
          · rw [if_neg h, if_neg (by omega)]
      have HST := Lib.hid hstep
      have c1 := hs.c1
      have ci := hs.ci hkm
      have HH := Lib.hid (has_bit (hs.yi hkm) (hs.y64 hkm) hy64)
      cases hbit : G k y with
      | false =>
        have e : (Y' k).testBit y = false := by rw [hk0]; exact hbit
        rw [e] at HH
        have HN : Hid (∃ Y'', Sol wr b b1 b2 O I n m (put X y (X y ||| 2 ^ x)) Y'' ∧ ∀ e, e < m → ∀ r, (Y'' e).testBit r = gto M G x y (k + 1) e r) := by
          refine ⟨Y', hs, ?_⟩
          have := hstep (Y' k) (fun r => by rw [hk0]; unfold gout; rw [hbit]; simp)
          rwa [put_same] at this
        clear HY hs hb hk0 hstep hbit e
        go_wp2_with fail
        refine HH.out.mono ?_
        rintro x1 w1 ⟨rfl, rfl⟩
        go_wp2
        go_roundw
        case rel => exact ⟨k + 1, by omega, by go_num, HN, HM⟩
        case measure => simp [intOf]; omega
      | true =>
        have e : (Y' k).testBit y = true := by rw [hk0]; exact hbit
        rw [e] at HH
        have HSP := Lib.hid (spread_any hs CC.out hx hkm (fun u v hu hv => by
          unfold put at hv
          by_cases huy : u = y
          · subst huy
            rw [if_pos rfl, or_bit, Bool.or_eq_true, beq_iff_eq] at hv
            rcases hv with hv | rfl
            · left
              rw [hk0] at hu ⊢
              exact HCLO.out k hkm v u hu (HC.out.has u v hy hv)
            · exact .inr rfl
          · rw [if_neg huy] at hv
            left
            have hun : u < n := bit_lt (hs.ylt k hkm) hu
            rw [hk0] at hu ⊢
            exact HCLO.out k hkm v u hu (HC.out.has u v hun hv)))
        have HG : Hid (∀ S, Spread (plus M x y) x (Y' k) S → ∀ r, S.testBit r = gout M G x y k r) := fun S hS r => by
          rw [hS r, plus_at, hk0]
          unfold gout
          rw [hbit, Bool.and_true]
        clear HY hs hb hk0 hstep hbit e
        go_wp2_with fail
        refine HH.out.mono ?_
        rintro x1 w1 ⟨rfl, rfl⟩
        go_wp2_with fail
        refine HSP.out.mono ?_
        rintro x1 w1 ⟨rfl, S, q1, q2, q3⟩
        have HN : Hid (∃ Y'', Sol w1 b b1 b2 O I n m (put X y (X y ||| 2 ^ x)) Y'' ∧ ∀ e, e < m → ∀ r, (Y'' e).testBit r = gto M G x y (k + 1) e r) := ⟨_, q2, HST.out S (HG.out S q1)⟩
        have HM1 : Hid (Mod (Rw O I n m) w w1) := HM.out.trans (q3.mono fun i _ hi => .inr ⟨k, hkm, hi⟩)
        clear q1 q2 q3
        go_wp2
        go_roundw
        case rel => exact ⟨k + 1, by omega, by go_num, HN, HM1⟩
        case measure => simp [intOf]; omega
    · have hkm' : k = m := by omega
      subst hkm'
      have HK : Hid (Knows wr b b1 b2 O I n k (plus M x y) (gout M G x y)) := by
        refine ⟨⟨_, Y', hs, CC.out, fun e he r => by rw [hb e he]; unfold gto; rw [if_pos he]⟩, fun e he c d hd hcd => ?_⟩
        have hcl := HCLO.out e he
        have ok := HC.out.ok
        unfold gout at hd ⊢
        rw [plus_iff] at hcd
        simp only [Bool.or_eq_true, Bool.and_eq_true] at hd ⊢
        rcases hd with hd | ⟨hd1, hd2⟩
        · rcases hcd with hcd | ⟨h1, h2⟩
          · exact .inl (hcl c d hd hcd)
          · exact .inr ⟨h1, hcl y d hd h2⟩
        · rcases hcd with hcd | ⟨h1, h2⟩
          · exact .inr ⟨ok.trans _ _ _ hcd hd1, hd2⟩
          · exact .inr ⟨h1, hd2⟩
      clear HY hs hb
      go_wp2
      go_ret
      exact ⟨rfl, HK.out, HM.out⟩
end
end Sv
end Go.Proofs.YtbflkaaenoeniaaDoor

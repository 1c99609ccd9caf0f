/- Layer 10: the laws of cases. -/
import Derived.BigQuiet
import Derived.Deep.QuietTactic
import Derived.Test.YtebnonbfjkielaaSubR
import Derived.Test.YtebnonbfjkielaaSubU
import Derived.Test.YtebnonbfjkielaaSubK
import Derived.Test.YtebnonbfjkielaaSubW
namespace Go.Proofs.Ytebnonbfjkielaa
open Go.RowKit Go.Deep Tr Ts Vy Mp
namespace Sb
def Three (V : World) (n : Nat) (y1 y2 y3 : Ty) (s4 s5 s6 : Value) (wx : World) : Prop := ∃ p q t d1 d2 d3, s4 = .pointer (some ⟨p, 0, none⟩) ∧ s5 = .pointer (some ⟨q, 0, none⟩) ∧ s6 = .pointer (some ⟨t, 0, none⟩) ∧ Below V.heap.size V wx ∧ (Is wx p 25 (List.toArray d1) ∧ TyAt wx n y1 d1) ∧ (Is wx q 25 (List.toArray d2) ∧ TyAt wx n y2 d2) ∧ Is wx t 25 (List.toArray d3) ∧ TyAt wx n y3 d3
theorem Stt.three {V w : World} {n : Nat} {c : Cm} {T : List (Ty × List Value)} {y1 y2 y3 : Ty} {d1 d2 d3 : List Value} (h : Stt V n c T w) {p q t : Nat} (hp : c p = some d1) (hq : c q = some d2) (ht : c t = some d3) (h1 : (y1, d1) ∈ T) (h2 : (y2, d2) ∈ T) (h3 : (y3, d3) ∈ T) : Three V n y1 y2 y3 (.pointer (some ⟨p, 0, none⟩)) (.pointer (some ⟨q, 0, none⟩)) (.pointer (some ⟨t, 0, none⟩)) w :=
  ⟨p, q, t, d1, d2, d3, rfl, rfl, rfl, h.bel, ⟨(h.var p _ hp).2, (h.tree y1 d1 h1).whole⟩, ⟨(h.var q _ hq).2, (h.tree y2 d2 h2).whole⟩, (h.var t _ ht).2, (h.tree y3 d3 h3).whole⟩
theorem reg_through {x y z t : Ty} {X Y Z : List Int} (h : Reg x y X) (g : Reg x z Y) (k : Reg x t Z) {S : Nat → Nat} (hS : ∀ i, S i < 18446744073709551616) (a : Nat) (h1 : outB S (lookP (waysOf a) y z 1) = true) (h2 : outB S (lookP (waysOf a) z t 1) = true) : outB S (lookP (waysOf a) y t 1) = true := by
  have hw : waysP (waysOf a) z 1 = waysP (waysOf a) y 1 := ways_same (reg_same g h) 1
  rw [outB_iff, look_zip _ (reg_same h g)] at h1
  rw [outB_iff, look_zip _ (reg_same g k), hw] at h2
  rw [outB_iff, look_zip _ (reg_same h k)]
  exact through_zip (rel_trans hS) _ _ _ _ (by rw [h.len, g.len]) (by rw [g.len, k.len]) h1 h2
set_option maxHeartbeats 16000000 in
set_option maxRecDepth 100000 in
theorem subThrough_walk {n : Nat} {x : Ty} {X Y Z : List Int} {S : Nat → Nat} {a : Nat} {cs : List Value} {W : World} (h : CaseAt W n x X Y Z S a cs) :
    Calls Try.prog 4 #[.agg cs.toArray] W fun e W' => e = .returned (.bool true) ∧ Below W.heap.size W W' := by
  obtain ⟨⟨k, nm, u, r, R, lr, cr, A, la, ca, XA, lx, cx, YA, ly, cy, ZA, lz, cz, rfl, ht, hx, hy, hz⟩, hS, hA⟩ := h
  obtain ⟨o1, ho1⟩ : ∃ o, Obj.cells #[.int .i64 k, .string nm, .bool u, .int .i64 r, .slice R lr cr, .slice A la ca, .slice XA lx cx, .slice YA ly cy, .slice ZA lz cz, .int .u64 (S 0 : Int), .int .u64 (S 1 : Int), .int .u64 (S 2 : Int), .int .u64 (S 3 : Int), .int .u64 (S 4 : Int), .int .u64 (S 5 : Int), .int .u64 (S 6 : Int), .int .u64 (S 7 : Int), .int .u64 (a : Int)] 39 = o := ⟨_, rfl⟩
  have B1 : Below W.heap.size W (W.alloc o1) := (Below.refl _ W).alloc (Nat.le_refl _) o1
  have i1 : Is (W.alloc o1) W.heap.size 39 #[.int .i64 k, .string nm, .bool u, .int .i64 r, .slice R lr cr, .slice A la ca, .slice XA lx cx, .slice YA ly cy, .slice ZA lz cz, .int .u64 (S 0 : Int), .int .u64 (S 1 : Int), .int .u64 (S 2 : Int), .int .u64 (S 3 : Int), .int .u64 (S 4 : Int), .int .u64 (S 5 : Int), .int .u64 (S 6 : Int), .int .u64 (S 7 : Int), .int .u64 (a : Int)] := by rw [← ho1]; exact Is.made W _ _
  obtain ⟨V, hV⟩ : ∃ V, W.alloc o1 = V := ⟨_, rfl⟩
  rw [hV] at B1 i1
  have HV : Hid (W.alloc (.cells #[.int .i64 k, .string nm, .bool u, .int .i64 r, .slice R lr cr, .slice A la ca, .slice XA lx cx, .slice YA ly cy, .slice ZA lz cz, .int .u64 (S 0 : Int), .int .u64 (S 1 : Int), .int .u64 (S 2 : Int), .int .u64 (S 3 : Int), .int .u64 (S 4 : Int), .int .u64 (S 5 : Int), .int .u64 (S 6 : Int), .int .u64 (S 7 : Int), .int .u64 (a : Int)] 39) = V) := by rw [← hV, ← ho1]; exact rfl
  obtain ⟨N, hN⟩ : ∃ N, W.heap.size = N := ⟨_, rfl⟩
  have HN := Lib.hid hN
  rw [hN] at i1
  have KC : Hid (∀ X, Below V.heap.size V X → X.cell? ⟨N, 0, none⟩ = some (.int .i64 k) ∧ X.cell? ⟨N, 1, none⟩ = some (.string nm) ∧ X.cell? ⟨N, 2, none⟩ = some (.bool u) ∧ X.cell? ⟨N, 3, none⟩ = some (.int .i64 r) ∧ X.cell? ⟨N, 4, none⟩ = some (.slice R lr cr) ∧ X.cell? ⟨N, 5, none⟩ = some (.slice A la ca) ∧ X.cell? ⟨N, 6, none⟩ = some (.slice XA lx cx) ∧ X.cell? ⟨N, 7, none⟩ = some (.slice YA ly cy) ∧ X.cell? ⟨N, 8, none⟩ = some (.slice ZA lz cz) ∧ X.cell? ⟨N, 17, none⟩ = some (.int .u64 (a : Int))) := by
    intro X hX
    have j1 := i1.below hX i1.lt
    exact ⟨j1.at_ 0, j1.at_ 1, j1.at_ 2, j1.at_ 3, j1.at_ 4, j1.at_ 5, j1.at_ 6, j1.at_ 7, j1.at_ 8, j1.at_ 17⟩
  have HSE : Hid (∀ X, Below V.heap.size V X → SetsAt X N 9 S) := by
    intro X hX
    have j1 := i1.below hX i1.lt
    refine ⟨j1.lt, fun i hi => ?_, hS⟩
    have : i = 0 ∨ i = 1 ∨ i = 2 ∨ i = 3 ∨ i = 4 ∨ i = 5 ∨ i = 6 ∨ i = 7 := by omega
    rcases this with rfl | rfl | rfl | rfl | rfl | rfl | rfl | rfl
    · exact j1.at_ 9
    · exact j1.at_ 10
    · exact j1.at_ 11
    · exact j1.at_ 12
    · exact j1.at_ 13
    · exact j1.at_ 14
    · exact j1.at_ 15
    · exact j1.at_ 16
  have HT : Hid (∀ X, Below V.heap.size V X → TyAt X n x [.int .i64 k, .string nm, .bool u, .int .i64 r, .slice R lr cr, .slice A la ca]) := fun X hX => TyAt.below (B1.trans (hX.mono B1.size)) _ _ _ ht
  have HX : Hid (∀ V', Below V.heap.size V V' → RowI V' (.slice XA lx cx) X) := fun V' hX => hx.below (B1.trans (hX.mono B1.size))
  have HY : Hid (∀ V', Below V.heap.size V V' → RowI V' (.slice YA ly cy) Y) := fun V' hX => hy.below (B1.trans (hX.mono B1.size))
  have HZ : Hid (∀ V', Below V.heap.size V V' → RowI V' (.slice ZA lz cz) Z) := fun V' hX => hz.below (B1.trans (hX.mono B1.size))
  have HWV : Hid (∀ X, Below V.heap.size V X → Below W.heap.size W X) := fun X hX => B1.trans (hX.mono B1.size)
  have HSB := Lib.hid hS
  have HAB := Lib.hid hA
  clear ht hx hy hz hS hA ho1 B1 i1 hN hV
  go_enter Try.func4, Try.ntmps4
  go_wp2_with fail
  rw [HV.out]
  try rw [HN.out]
  refine (does_any V).mono ?_
  rintro e W1 ⟨rfl, b1⟩
  have G1 := Lib.hid b1
  clear b1
  obtain ⟨n0, n1, n2, n3, n4, n5, n6, n7, n8, n17⟩ := KC.out W1 G1.out
  have HSA := Lib.hid (small_any n x _ 6 W1 (HT.out W1 G1.out) (by decide))
  go_wp2_with fail
  refine HSA.out.mono ?_
  rintro e W2 ⟨⟨sa, rfl, hsa⟩, b2⟩
  have G2 := Lib.hid (G1.out.trans (b2.mono G1.out.size))
  clear b2 HSA n0 n1 n2 n3 n4 n5 n6 n7 n8 n17
  cases sa with
  | false =>
    go_wp2_with fail
    refine (does_any W2).mono ?_
    rintro e W3 ⟨rfl, b3⟩
    have G3 := Lib.hid (HWV.out _ (G2.out.trans (b3.mono G2.out.size)))
    clear b3
    go_wp2
    go_ret
    exact ⟨rfl, G3.out⟩
  | true =>
    have SA := Lib.hid (hsa rfl)
    clear hsa
    obtain ⟨n0, n1, n2, n3, n4, n5, n6, n7, n8, n17⟩ := KC.out W2 G2.out
    go_wp2_with fail
    · refine (does_any W2).mono ?_
      rintro e W3 ⟨rfl, b3⟩
      have G3 := Lib.hid (HWV.out _ (G2.out.trans (b3.mono G2.out.size)))
      clear b3
      go_wp2
      go_ret
      exact ⟨rfl, G3.out⟩
    refine (ways_any a HAB.out W2).mono ?_
    rintro e W3 ⟨o, rfl, hw, b3⟩
    have G3 := Lib.hid (G2.out.trans (b3.mono G2.out.size))
    clear b3
    have HWO := Lib.hid hw
    clear hw
    have KC3 : Hid (∀ X, Below W3.heap.size W3 X → X.cell? ⟨N, 0, none⟩ = some (.int .i64 k) ∧ X.cell? ⟨N, 1, none⟩ = some (.string nm) ∧ X.cell? ⟨N, 2, none⟩ = some (.bool u) ∧ X.cell? ⟨N, 3, none⟩ = some (.int .i64 r) ∧ X.cell? ⟨N, 4, none⟩ = some (.slice R lr cr) ∧ X.cell? ⟨N, 5, none⟩ = some (.slice A la ca) ∧ X.cell? ⟨N, 6, none⟩ = some (.slice XA lx cx) ∧ X.cell? ⟨N, 7, none⟩ = some (.slice YA ly cy) ∧ X.cell? ⟨N, 8, none⟩ = some (.slice ZA lz cz) ∧ X.cell? ⟨N, 17, none⟩ = some (.int .u64 (a : Int))) := fun X hX => KC.out X (G3.out.trans (hX.mono G3.out.size))
    have HSE3 : Hid (∀ X, Below W3.heap.size W3 X → SetsAt X N 9 S) := fun X hX => HSE.out X (G3.out.trans (hX.mono G3.out.size))
    have HT3 : Hid (TyAt W3 n x [.int .i64 k, .string nm, .bool u, .int .i64 r, .slice R lr cr, .slice A la ca]) := HT.out W3 G3.out
    have HX3 : Hid (∀ X', Below W3.heap.size W3 X' → RowI X' (.slice XA lx cx) X) := fun X' hX => HX.out X' (G3.out.trans (hX.mono G3.out.size))
    have HY3 : Hid (∀ X', Below W3.heap.size W3 X' → RowI X' (.slice YA ly cy) Y) := fun X' hX => HY.out X' (G3.out.trans (hX.mono G3.out.size))
    have HZ3 : Hid (∀ X', Below W3.heap.size W3 X' → RowI X' (.slice ZA lz cz) Z) := fun X' hX => HZ.out X' (G3.out.trans (hX.mono G3.out.size))
    have HWV3 : Hid (∀ X, Below W3.heap.size W3 X → Below W.heap.size W X) := fun X hX => HWV.out X (G3.out.trans (hX.mono G3.out.size))
    clear n0 n1 n2 n3 n4 n5 n6 n7 n8 n17 KC HSE HT HX HY HZ HWV HV G1
    obtain ⟨n0, n1, n2, n3, n4, n5, n6, n7, n8, n17⟩ := KC3.out W3 (.refl _ _)
    have ST0 : Hid (Stt W3 n (fun _ => none) [] W3) := Stt.start (.refl _ _)
    have hdr : W3.drew.heap.size = W3.heap.size := rfl
    have HRX : Hid (∀ W3', Below W3.heap.size W3 W3' → Calls Try.prog 11 #[.agg #[.int .i64 k, .string nm, .bool u, .int .i64 r, .slice R lr cr, .slice A la ca], .slice XA lx cx] W3' fun e W' => ∃ ds : List Value, e = .returned (.agg ds.toArray) ∧ TyAt (only (qW W3.heap.size W3'.heap.size) W') n (withP x (regsOf X (allP x).length)) ds ∧ Below W3'.heap.size W3' W') := fun W3' hV => regions_at (HT3.out) hV SA.out (HX3.out W3' hV)
    have HRY : Hid (∀ W3', Below W3.heap.size W3 W3' → Calls Try.prog 11 #[.agg #[.int .i64 k, .string nm, .bool u, .int .i64 r, .slice R lr cr, .slice A la ca], .slice YA ly cy] W3' fun e W' => ∃ ds : List Value, e = .returned (.agg ds.toArray) ∧ TyAt (only (qW W3.heap.size W3'.heap.size) W') n (withP x (regsOf Y (allP x).length)) ds ∧ Below W3'.heap.size W3' W') := fun W3' hV => regions_at (HT3.out) hV SA.out (HY3.out W3' hV)
    have HRZ : Hid (∀ W3', Below W3.heap.size W3 W3' → Calls Try.prog 11 #[.agg #[.int .i64 k, .string nm, .bool u, .int .i64 r, .slice R lr cr, .slice A la ca], .slice ZA lz cz] W3' fun e W' => ∃ ds : List Value, e = .returned (.agg ds.toArray) ∧ TyAt (only (qW W3.heap.size W3'.heap.size) W') n (withP x (regsOf Z (allP x).length)) ds ∧ Below W3'.heap.size W3' W') := fun W3' hV => regions_at (HT3.out) hV SA.out (HZ3.out W3' hV)
    obtain ⟨ya, hya⟩ : ∃ y, withP x (regsOf X (allP x).length) = y := ⟨_, rfl⟩
    obtain ⟨yb, hyb⟩ : ∃ y, withP x (regsOf Y (allP x).length) = y := ⟨_, rfl⟩
    obtain ⟨yc, hyc⟩ : ∃ y, withP x (regsOf Z (allP x).length) = y := ⟨_, rfl⟩
    have HYC := Lib.hid hyc
    rw [hyc] at HRZ
    clear hyc
    have HYA := Lib.hid hya
    have HYB := Lib.hid hyb
    rw [hya] at HRX
    rw [hyb] at HRY
    clear hya hyb
    go_upto_region 4 with fail
    go_cut [4, 5, 6] (fun s4 s5 s6 wx => Three W3 n ya yb yc s4 s5 s6 wx)
    case first =>
      clear n0 n1 n2 n3 n4 n5 n6 n7 n8 n17
      refine wp_region_T 18 (fun X => X.cell? ⟨N, 0, none⟩ = some (.int .i64 k) ∧ X.cell? ⟨N, 1, none⟩ = some (.string nm) ∧ X.cell? ⟨N, 2, none⟩ = some (.bool u) ∧ X.cell? ⟨N, 3, none⟩ = some (.int .i64 r) ∧ X.cell? ⟨N, 4, none⟩ = some (.slice R lr cr) ∧ X.cell? ⟨N, 5, none⟩ = some (.slice A la ca) ∧ X.cell? ⟨N, 6, none⟩ = some (.slice XA lx cx) ∧ X.cell? ⟨N, 7, none⟩ = some (.slice YA ly cy) ∧ X.cell? ⟨N, 8, none⟩ = some (.slice ZA lz cz) ∧ X.cell? ⟨N, 17, none⟩ = some (.int .u64 (a : Int))) (by kernel_rfl) (KC3.out _ (Stt.drew ST0.out).bel) (fun hHeld => ?_)
      refine wpAnyT_take (i := 0) (v := (.pointer (some ⟨N, 0, none⟩))) rfl (by kernel_rfl) (by kernel_rfl) (by kernel_rfl) (by kernel_rfl) (by kernel_rfl) (fun _ _ _ h => h) (Or.inl ⟨by rfl, ?_⟩) (by assumption) ?_
      · intro w hSw
        go_simp
      try simp only [Act.put, List.setIfInBounds_toArray]
      refine wpAnyT_take (i := 1) (v := (.agg #[.int .i64 k, .string nm, .bool u, .int .i64 r, .slice R lr cr, .slice A la ca])) rfl (by kernel_rfl) (by kernel_rfl) (by kernel_rfl) (by kernel_rfl) (by kernel_rfl) (fun _ _ _ h => h) (Or.inl ⟨by rfl, ?_⟩) (by assumption) ?_
      · intro w hSw
        go_simp
      try simp only [Act.put]
      refine wpAnyT_take (i := 2) (v := (.pointer (some ⟨N, 6, none⟩))) rfl (by kernel_rfl) (by kernel_rfl) (by kernel_rfl) (by kernel_rfl) (by kernel_rfl) (fun _ _ _ h => h) (Or.inl ⟨by rfl, ?_⟩) (by assumption) ?_
      · intro w hSw
        go_simp
      try simp only [Act.put]
      refine wpAnyT_take (i := 3) (v := (.slice XA lx cx)) rfl (by kernel_rfl) (by kernel_rfl) (by kernel_rfl) (by kernel_rfl) (by kernel_rfl) (fun _ _ _ h => h) (Or.inl ⟨by rfl, ?_⟩) (by assumption) ?_
      · intro w hSw
        go_simp
      try simp only [Act.put]
      refine wpAnyT_take (i := 5) (v := (.pointer (some ⟨N, 0, none⟩))) rfl (by kernel_rfl) (by kernel_rfl) (by kernel_rfl) (by kernel_rfl) (by kernel_rfl) (fun _ _ _ h => h) (Or.inl ⟨by rfl, ?_⟩) (by assumption) ?_
      · intro w hSw
        go_simp
      try simp only [Act.put]
      refine wpAnyT_take (i := 6) (v := (.agg #[.int .i64 k, .string nm, .bool u, .int .i64 r, .slice R lr cr, .slice A la ca])) rfl (by kernel_rfl) (by kernel_rfl) (by kernel_rfl) (by kernel_rfl) (by kernel_rfl) (fun _ _ _ h => h) (Or.inl ⟨by rfl, ?_⟩) (by assumption) ?_
      · intro w hSw
        go_simp
      try simp only [Act.put]
      refine wpAnyT_take (i := 7) (v := (.pointer (some ⟨N, 7, none⟩))) rfl (by kernel_rfl) (by kernel_rfl) (by kernel_rfl) (by kernel_rfl) (by kernel_rfl) (fun _ _ _ h => h) (Or.inl ⟨by rfl, ?_⟩) (by assumption) ?_
      · intro w hSw
        go_simp
      try simp only [Act.put]
      refine wpAnyT_take (i := 8) (v := (.slice YA ly cy)) rfl (by kernel_rfl) (by kernel_rfl) (by kernel_rfl) (by kernel_rfl) (by kernel_rfl) (fun _ _ _ h => h) (Or.inl ⟨by rfl, ?_⟩) (by assumption) ?_
      · intro w hSw
        go_simp
      try simp only [Act.put]
      refine wpAnyT_take (i := 10) (v := (.pointer (some ⟨N, 0, none⟩))) rfl (by kernel_rfl) (by kernel_rfl) (by kernel_rfl) (by kernel_rfl) (by kernel_rfl) (fun _ _ _ h => h) (Or.inl ⟨by rfl, ?_⟩) (by assumption) ?_
      · intro w hSw
        go_simp
      try simp only [Act.put]
      refine wpAnyT_take (i := 11) (v := (.agg #[.int .i64 k, .string nm, .bool u, .int .i64 r, .slice R lr cr, .slice A la ca])) rfl (by kernel_rfl) (by kernel_rfl) (by kernel_rfl) (by kernel_rfl) (by kernel_rfl) (fun _ _ _ h => h) (Or.inl ⟨by rfl, ?_⟩) (by assumption) ?_
      · intro w hSw
        go_simp
      try simp only [Act.put]
      refine wpAnyT_take (i := 12) (v := (.pointer (some ⟨N, 8, none⟩))) rfl (by kernel_rfl) (by kernel_rfl) (by kernel_rfl) (by kernel_rfl) (by kernel_rfl) (fun _ _ _ h => h) (Or.inl ⟨by rfl, ?_⟩) (by assumption) ?_
      · intro w hSw
        go_simp
      try simp only [Act.put]
      refine wpAnyT_take (i := 13) (v := (.slice ZA lz cz)) rfl (by kernel_rfl) (by kernel_rfl) (by kernel_rfl) (by kernel_rfl) (by kernel_rfl) (fun _ _ _ h => h) (Or.inl ⟨by rfl, ?_⟩) (by assumption) ?_
      · intro w hSw
        go_simp
      try simp only [Act.put]
      clear hHeld
      simp only [List.getElem_toArray, List.getElem_cons_zero, List.getElem_cons_succ, List.setIfInBounds_toArray, List.set_cons_zero, List.set_cons_succ]
      refine wpAnyT_grid0 (GrdX W3 n ya yb yc) (f0 := 3) undef undef undef undef undef undef (by kernel_rfl) (by kernel_rfl) (by simp only [AT, Act.put, List.setIfInBounds_toArray, List.set_cons_zero, List.set_cons_succ]) (Grd.first (Stt.drew ST0.out).bel) (by kernel_rfl) rfl rfl rfl rfl rfl rfl ?_ ?_ ?_ ?_ ?_ ?_ ?_
      · intro b4 b5 b6 v1 v2 v3 v4 v5 v6 w hI K hK
        obtain ⟨c, T, hI⟩ := hI
        try simp only [AT, Act.put, List.setIfInBounds_toArray, List.set_cons_zero, List.set_cons_succ]
        go_simp
        go_at_call 11
        (with_reducible apply call_stt (HR := HRX.out))
        exact hI.stt
        intro k1 nm1 u1 r1 R1 lr1 cr1 A1 la1 ca1 W' hz st
        try (go_wp2_with fail)
        refine hK.out _ _ ⟨KC3.out _ st.bel, .agg #[.int .i64 k1, .string nm1, .bool u1, .int .i64 r1, .slice R1 lr1 cr1, .slice A1 la1 ca1], ?_, Grd.call1 hI st⟩
        simp only [AT, Act.put, List.setIfInBounds_toArray, List.set_cons_zero, List.set_cons_succ]
      · intro b4 b5 b6 v1 v2 v3 v4 v5 v6 w hI K hK
        obtain ⟨c, T, hI⟩ := hI
        try simp only [AT, Act.put, List.setIfInBounds_toArray, List.set_cons_zero, List.set_cons_succ]
        go_simp
        go_at_call 11
        (with_reducible apply call_stt (HR := HRY.out))
        exact hI.stt
        intro k1 nm1 u1 r1 R1 lr1 cr1 A1 la1 ca1 W' hz st
        try (go_wp2_with fail)
        refine hK.out _ _ ⟨KC3.out _ st.bel, .agg #[.int .i64 k1, .string nm1, .bool u1, .int .i64 r1, .slice R1 lr1 cr1, .slice A1 la1 ca1], ?_, Grd.call2 hI st⟩
        simp only [AT, Act.put, List.setIfInBounds_toArray, List.set_cons_zero, List.set_cons_succ]
      · intro b4 b5 b6 v1 v2 v3 v4 v5 v6 w hI K hK
        obtain ⟨c, T, hI⟩ := hI
        try simp only [AT, Act.put, List.setIfInBounds_toArray, List.set_cons_zero, List.set_cons_succ]
        go_simp
        go_at_call 11
        (with_reducible apply call_stt (HR := HRZ.out))
        exact hI.stt
        intro k1 nm1 u1 r1 R1 lr1 cr1 A1 la1 ca1 W' hz st
        try (go_wp2_with fail)
        refine hK.out _ _ ⟨KC3.out _ st.bel, .agg #[.int .i64 k1, .string nm1, .bool u1, .int .i64 r1, .slice R1 lr1 cr1, .slice A1 la1 ca1], ?_, Grd.call3 hI st⟩
        simp only [AT, Act.put, List.setIfInBounds_toArray, List.set_cons_zero, List.set_cons_succ]
      · intro j b b' v1 v2 v3 v4 v5 v6 w hI K hK
        obtain ⟨c, T, hI⟩ := hI
        try simp only [AT, Act.put, List.setIfInBounds_toArray, List.set_cons_zero, List.set_cons_succ]
        go_simp
        exact hK.out _ _ ⟨KC3.out _ (hI.stt.alloc zero6).bel, .pointer (some ⟨w.heap.size, 0, none⟩), by simp only [AT, Act.put, List.setIfInBounds_toArray, List.set_cons_zero, List.set_cons_succ], Grd.new4 hI⟩
      · intro j b b' v1 v2 v3 v4 v5 v6 w hI K hK
        obtain ⟨c, T, hI⟩ := hI
        try simp only [AT, Act.put, List.setIfInBounds_toArray, List.set_cons_zero, List.set_cons_succ]
        go_simp
        exact hK.out _ _ ⟨KC3.out _ (hI.stt.alloc zero6).bel, .pointer (some ⟨w.heap.size, 0, none⟩), by simp only [AT, Act.put, List.setIfInBounds_toArray, List.set_cons_zero, List.set_cons_succ], Grd.new5 hI⟩
      · intro j b b' v1 v2 v3 v4 v5 v6 w hI K hK
        obtain ⟨c, T, hI⟩ := hI
        try simp only [AT, Act.put, List.setIfInBounds_toArray, List.set_cons_zero, List.set_cons_succ]
        go_simp
        exact hK.out _ _ ⟨KC3.out _ (hI.stt.alloc zero6).bel, .pointer (some ⟨w.heap.size, 0, none⟩), by simp only [AT, Act.put, List.setIfInBounds_toArray, List.set_cons_zero, List.set_cons_succ], Grd.new6 hI⟩
      · intro v1 v2 v3 v4 v5 v6 w hI
        obtain ⟨c, T, hI⟩ := hI
        obtain ⟨k1, nm1, u1, r1, R1, lr1, cr1, A1, la1, ca1, rfl, t1⟩ := hI.g1 (by decide)
        obtain ⟨k2, nm2, u2, r2, R2, lr2, cr2, A2, la2, ca2, rfl, t2⟩ := hI.g2 (by decide)
        obtain ⟨k3, nm3, u3, r3, R3, lr3, cr3, A3, la3, ca3, rfl, t3⟩ := hI.g3 (by decide)
        obtain ⟨p, rfl, hp⟩ := hI.x4 rfl
        obtain ⟨q, rfl, hq⟩ := hI.x5 rfl
        obtain ⟨t, rfl, hx⟩ := hI.x6 rfl
        have npq : p ≠ q := fun e => hI.n45 rfl rfl (by rw [e])
        have npt : p ≠ t := fun e => hI.n46 rfl rfl (by rw [e])
        have nqt : q ≠ t := fun e => hI.n56 rfl rfl (by rw [e])
        have s0 := hI.stt
        clear hI
        unfold zero6 at hp hq hx
        simp only [AT, Act.put, List.setIfInBounds_toArray, List.set_cons_zero, List.set_cons_succ]
        have ip := (s0.var p _ hp).2
        have ff : ∀ i, w.frozen? ⟨p, i, none⟩ = false := fun i => ip.free i
        have vc0 := ip.at_ 0
        have vc1 := ip.at_ 1
        have vc2 := ip.at_ 2
        have vc3 := ip.at_ 3
        have vc4 := ip.at_ 4
        have vc5 := ip.at_ 5
        simp only [List.getElem?_toArray, List.getElem?_cons_zero, List.getElem?_cons_succ] at vc0 vc1 vc2 vc3 vc4 vc5
        have s1 := s0.put hp (.int .i64 k1) (.string nm1) (.bool u1) (.int .i64 r1) (.slice R1 lr1 cr1) (.slice A1 la1 ca1)
        refine wpAnyT_late (i := 18) (by kernel_rfl) rfl (by decide) (fun K hK => ?_)
        go_simp
        refine hK.out _ _ ?_
        clear hK K ff vc0 vc1 vc2 vc3 vc4 vc5 ip
        obtain ⟨wa, hwwa⟩ : ∃ x, ((((((w.setCell ⟨p, 0, none⟩ (.int .i64 k1)).setCell ⟨p, 1, none⟩ (.string nm1)).setCell ⟨p, 2, none⟩ (.bool u1)).setCell ⟨p, 3, none⟩ (.int .i64 r1)).setCell ⟨p, 4, none⟩ (.slice R1 lr1 cr1)).setCell ⟨p, 5, none⟩ (.slice A1 la1 ca1)) = x := ⟨_, rfl⟩
        rw [hwwa] at s1 ⊢
        clear hwwa s0
        have hq1 := updC_on (l := [.int .i64 k1, .string nm1, .bool u1, .int .i64 r1, .slice R1 lr1 cr1, .slice A1 la1 ca1]) c npq.symm hq
        have hx1 := updC_on (l := [.int .i64 k1, .string nm1, .bool u1, .int .i64 r1, .slice R1 lr1 cr1, .slice A1 la1 ca1]) c npt.symm hx
        have hp1 := updC_same c p [.int .i64 k1, .string nm1, .bool u1, .int .i64 r1, .slice R1 lr1 cr1, .slice A1 la1 ca1]
        obtain ⟨c1, hc1⟩ : ∃ x, updC c p [.int .i64 k1, .string nm1, .bool u1, .int .i64 r1, .slice R1 lr1 cr1, .slice A1 la1 ca1] = x := ⟨_, rfl⟩
        rw [hc1] at s1 hq1 hx1 hp1
        have ip := (s1.var q _ hq1).2
        have ff : ∀ i, wa.frozen? ⟨q, i, none⟩ = false := fun i => ip.free i
        have vc0 := ip.at_ 0
        have vc1 := ip.at_ 1
        have vc2 := ip.at_ 2
        have vc3 := ip.at_ 3
        have vc4 := ip.at_ 4
        have vc5 := ip.at_ 5
        simp only [List.getElem?_toArray, List.getElem?_cons_zero, List.getElem?_cons_succ] at vc0 vc1 vc2 vc3 vc4 vc5
        have s2 := s1.put hq1 (.int .i64 k2) (.string nm2) (.bool u2) (.int .i64 r2) (.slice R2 lr2 cr2) (.slice A2 la2 ca2)
        refine wpAnyT_late (i := 19) (by kernel_rfl) rfl (by decide) (fun K hK => ?_)
        go_simp
        refine hK.out _ _ ?_
        clear hK K ff vc0 vc1 vc2 vc3 vc4 vc5 ip
        obtain ⟨wb, hwwb⟩ : ∃ x, ((((((wa.setCell ⟨q, 0, none⟩ (.int .i64 k2)).setCell ⟨q, 1, none⟩ (.string nm2)).setCell ⟨q, 2, none⟩ (.bool u2)).setCell ⟨q, 3, none⟩ (.int .i64 r2)).setCell ⟨q, 4, none⟩ (.slice R2 lr2 cr2)).setCell ⟨q, 5, none⟩ (.slice A2 la2 ca2)) = x := ⟨_, rfl⟩
        rw [hwwb] at s2 ⊢
        clear hwwb s1
        have hx2 := updC_on (l := [.int .i64 k2, .string nm2, .bool u2, .int .i64 r2, .slice R2 lr2 cr2, .slice A2 la2 ca2]) c1 nqt.symm hx1
        have hp2 := updC_on (l := [.int .i64 k2, .string nm2, .bool u2, .int .i64 r2, .slice R2 lr2 cr2, .slice A2 la2 ca2]) c1 npq hp1
        have hq2 := updC_same c1 q [.int .i64 k2, .string nm2, .bool u2, .int .i64 r2, .slice R2 lr2 cr2, .slice A2 la2 ca2]
        obtain ⟨c2, hc2⟩ : ∃ x, updC c1 q [.int .i64 k2, .string nm2, .bool u2, .int .i64 r2, .slice R2 lr2 cr2, .slice A2 la2 ca2] = x := ⟨_, rfl⟩
        rw [hc2] at s2 hq2 hx2 hp2
        have ip := (s2.var t _ hx2).2
        have ff : ∀ i, wb.frozen? ⟨t, i, none⟩ = false := fun i => ip.free i
        have vc0 := ip.at_ 0
        have vc1 := ip.at_ 1
        have vc2 := ip.at_ 2
        have vc3 := ip.at_ 3
        have vc4 := ip.at_ 4
        have vc5 := ip.at_ 5
        simp only [List.getElem?_toArray, List.getElem?_cons_zero, List.getElem?_cons_succ] at vc0 vc1 vc2 vc3 vc4 vc5
        have s3 := s2.put hx2 (.int .i64 k3) (.string nm3) (.bool u3) (.int .i64 r3) (.slice R3 lr3 cr3) (.slice A3 la3 ca3)
        refine wpAnyT_late (i := 20) (by kernel_rfl) rfl (by decide) (fun K hK => ?_)
        go_simp
        refine hK.out _ _ ?_
        clear hK K ff vc0 vc1 vc2 vc3 vc4 vc5 ip
        obtain ⟨wd, hwwd⟩ : ∃ x, ((((((wb.setCell ⟨t, 0, none⟩ (.int .i64 k3)).setCell ⟨t, 1, none⟩ (.string nm3)).setCell ⟨t, 2, none⟩ (.bool u3)).setCell ⟨t, 3, none⟩ (.int .i64 r3)).setCell ⟨t, 4, none⟩ (.slice R3 lr3 cr3)).setCell ⟨t, 5, none⟩ (.slice A3 la3 ca3)) = x := ⟨_, rfl⟩
        rw [hwwd] at s3 ⊢
        clear hwwd s2
        have hp3 := updC_on (l := [.int .i64 k3, .string nm3, .bool u3, .int .i64 r3, .slice R3 lr3 cr3, .slice A3 la3 ca3]) c2 npt hp2
        have hq3 := updC_on (l := [.int .i64 k3, .string nm3, .bool u3, .int .i64 r3, .slice R3 lr3 cr3, .slice A3 la3 ca3]) c2 nqt hq2
        have hx3 := updC_same c2 t [.int .i64 k3, .string nm3, .bool u3, .int .i64 r3, .slice R3 lr3 cr3, .slice A3 la3 ca3]
        have fin : Hid (Three W3 n ya yb yc (.pointer (some ⟨p, 0, none⟩)) (.pointer (some ⟨q, 0, none⟩)) (.pointer (some ⟨t, 0, none⟩)) wd) := s3.three hp3 hq3 hx3 t1 t2 t3
        refine wpAnyT_done (by kernel_rfl) ?_ 0
        clear hp3 hq3 hx3 s3 hc1 hc2 hp hq hx hp1 hq1 hx1 hp2 hq2 hx2
        go_wp2_with fail
        go_meet
        exact fin.out
    case rest =>
      obtain ⟨p, q, t, d1, d2, d3, rfl, rfl, rfl, hb, ⟨hi1, ht1⟩, ⟨hi2, ht2⟩, hi3, ht3⟩ := hcut
      obtain ⟨k1, nm1, u1, r1, R1, lr1, cr1, A1, la1, ca1, rfl⟩ := ht1.shape
      obtain ⟨k2, nm2, u2, r2, R2, lr2, cr2, A2, la2, ca2, rfl⟩ := ht2.shape
      obtain ⟨k3, nm3, u3, r3, R3, lr3, cr3, A3, la3, ca3, rfl⟩ := ht3.shape
      have GB := Lib.hid hb
      have HCC : Hid (∀ X, Below wc.heap.size wc X → X.cell? ⟨N, 17, none⟩ = some (.int .u64 (a : Int)) ∧ X.cell? ⟨p, 0, none⟩ = some (.int .i64 k1) ∧ X.cell? ⟨p, 1, none⟩ = some (.string nm1) ∧ X.cell? ⟨p, 2, none⟩ = some (.bool u1) ∧ X.cell? ⟨p, 3, none⟩ = some (.int .i64 r1) ∧ X.cell? ⟨p, 4, none⟩ = some (.slice R1 lr1 cr1) ∧ X.cell? ⟨p, 5, none⟩ = some (.slice A1 la1 ca1) ∧ X.cell? ⟨q, 0, none⟩ = some (.int .i64 k2) ∧ X.cell? ⟨q, 1, none⟩ = some (.string nm2) ∧ X.cell? ⟨q, 2, none⟩ = some (.bool u2) ∧ X.cell? ⟨q, 3, none⟩ = some (.int .i64 r2) ∧ X.cell? ⟨q, 4, none⟩ = some (.slice R2 lr2 cr2) ∧ X.cell? ⟨q, 5, none⟩ = some (.slice A2 la2 ca2) ∧ X.cell? ⟨t, 0, none⟩ = some (.int .i64 k3) ∧ X.cell? ⟨t, 1, none⟩ = some (.string nm3) ∧ X.cell? ⟨t, 2, none⟩ = some (.bool u3) ∧ X.cell? ⟨t, 3, none⟩ = some (.int .i64 r3) ∧ X.cell? ⟨t, 4, none⟩ = some (.slice R3 lr3 cr3) ∧ X.cell? ⟨t, 5, none⟩ = some (.slice A3 la3 ca3)) := by
        intro X hX
        have j1 := hi1.below hX hi1.lt
        have j2 := hi2.below hX hi2.lt
        have j3 := hi3.below hX hi3.lt
        exact ⟨(KC3.out X (GB.out.trans (hX.mono GB.out.size))).2.2.2.2.2.2.2.2.2, j1.at_ 0, j1.at_ 1, j1.at_ 2, j1.at_ 3, j1.at_ 4, j1.at_ 5, j2.at_ 0, j2.at_ 1, j2.at_ 2, j2.at_ 3, j2.at_ 4, j2.at_ 5, j3.at_ 0, j3.at_ 1, j3.at_ 2, j3.at_ 3, j3.at_ 4, j3.at_ 5⟩
      have HT1 : Hid (∀ X, Below wc.heap.size wc X → TyAt X n ya [.int .i64 k1, .string nm1, .bool u1, .int .i64 r1, .slice R1 lr1 cr1, .slice A1 la1 ca1]) := fun X hX => TyAt.below hX _ _ _ ht1
      have HT2 : Hid (∀ X, Below wc.heap.size wc X → TyAt X n yb [.int .i64 k2, .string nm2, .bool u2, .int .i64 r2, .slice R2 lr2 cr2, .slice A2 la2 ca2]) := fun X hX => TyAt.below hX _ _ _ ht2
      have HT3x : Hid (∀ X, Below wc.heap.size wc X → TyAt X n yc [.int .i64 k3, .string nm3, .bool u3, .int .i64 r3, .slice R3 lr3 cr3, .slice A3 la3 ca3]) := fun X hX => TyAt.below hX _ _ _ ht3
      have RA : Hid (Reg x ya X) := by rw [← HYA.out]; exact reg_of x X
      have RB : Hid (Reg x yb Y) := by rw [← HYB.out]; exact reg_of x Y
      have RC : Hid (Reg x yc Z) := by rw [← HYC.out]; exact reg_of x Z
      have HSab : Hid (sameP ya yb = true) := reg_same RA.out RB.out
      have HSbc : Hid (sameP yb yc = true) := reg_same RB.out RC.out
      have HSac : Hid (sameP ya yc = true) := reg_same RA.out RC.out
      have HVC : Hid (∀ X, Below wc.heap.size wc X → Below W3.heap.size W3 X) := fun X hX => GB.out.trans (hX.mono GB.out.size)
      have HWC := Lib.hid (HWO.out.below GB.out)
      clear HWO
      have HWO := HWC
      clear HWC
      have G6 : Hid (Below wc.heap.size wc wc) := .refl _ _
      obtain ⟨n17, pc0, pc1, pc2, pc3, pc4, pc5, qc0, qc1, qc2, qc3, qc4, qc5, tc0, tc1, tc2, tc3, tc4, tc5⟩ := HCC.out wc (.refl _ _)
      clear hb hi1 ht1 hi2 ht2 hi3 ht3 HYA HYB HYC HRX HRY HRZ HX3 HY3 HZ3 HT3 ST0 hdr G2 G3
      go_wp2_with fail
      refine (pairs_any (HT1.out _ G6.out) (HT2.out _ G6.out) (HWO.out.below G6.out) (waysOf_few a) (RA.out.big SA.out)).mono ?_
      rintro e W7 ⟨⟨pv, rfl, hr⟩, b⟩
      have EW7 := Lib.hid b
      have G7 := Lib.hid (G6.out.trans (b.mono G6.out.size))
      have HP1 : Hid (RowP W7 pv (lookP (waysOf a) ya yb 1)) := by
        have := hr
        rw [HSab.out, if_pos rfl] at this
        exact this
      rw [HSab.out]
      clear hr b n17 pc0 pc1 pc2 pc3 pc4 pc5 qc0 qc1 qc2 qc3 qc4 qc5 tc0 tc1 tc2 tc3 tc4 tc5
      obtain ⟨n17, pc0, pc1, pc2, pc3, pc4, pc5, qc0, qc1, qc2, qc3, qc4, qc5, tc0, tc1, tc2, tc3, tc4, tc5⟩ := HCC.out W7 G7.out
      go_wp2_with fail
      refine (pairs_any (HT2.out _ G7.out) (HT3x.out _ G7.out) (HWO.out.below G7.out) (waysOf_few a) (RB.out.big SA.out)).mono ?_
      rintro e W8 ⟨⟨pw, rfl, hr⟩, b⟩
      have EW8 := Lib.hid b
      have G8 := Lib.hid (G7.out.trans (b.mono G7.out.size))
      have HP2 : Hid (RowP W8 pw (lookP (waysOf a) yb yc 1)) := by
        have := hr
        rw [HSbc.out, if_pos rfl] at this
        exact this
      rw [HSbc.out]
      clear hr b n17 pc0 pc1 pc2 pc3 pc4 pc5 qc0 qc1 qc2 qc3 qc4 qc5 tc0 tc1 tc2 tc3 tc4 tc5
      obtain ⟨n17, pc0, pc1, pc2, pc3, pc4, pc5, qc0, qc1, qc2, qc3, qc4, qc5, tc0, tc1, tc2, tc3, tc4, tc5⟩ := HCC.out W8 G8.out
      go_wp2_with fail
      refine (pairs_any (HT1.out _ G8.out) (HT3x.out _ G8.out) (HWO.out.below G8.out) (waysOf_few a) (RA.out.big SA.out)).mono ?_
      rintro e W9 ⟨⟨pu, rfl, hr⟩, b⟩
      have EW9 := Lib.hid b
      have G9 := Lib.hid (G8.out.trans (b.mono G8.out.size))
      have HP3 : Hid (RowP W9 pu (lookP (waysOf a) ya yc 1)) := by
        have := hr
        rw [HSac.out, if_pos rfl] at this
        exact this
      rw [HSac.out]
      clear hr b n17 pc0 pc1 pc2 pc3 pc4 pc5 qc0 qc1 qc2 qc3 qc4 qc5 tc0 tc1 tc2 tc3 tc4 tc5
      obtain ⟨n17, pc0, pc1, pc2, pc3, pc4, pc5, qc0, qc1, qc2, qc3, qc4, qc5, tc0, tc1, tc2, tc3, tc4, tc5⟩ := HCC.out W9 G9.out
      have HP2 := Lib.hid (HP2.out.below EW9.out)
      have HP1 := Lib.hid ((HP1.out.below EW8.out).below EW9.out)
      have HM := Lib.hid (reg_through RA.out RB.out RC.out HSB.out a)
      obtain ⟨m1, hm1⟩ : ∃ b, outB S (lookP (waysOf a) ya yb 1) = b := ⟨_, rfl⟩
      obtain ⟨m2, hm2⟩ : ∃ b, outB S (lookP (waysOf a) yb yc 1) = b := ⟨_, rfl⟩
      obtain ⟨m3, hm3⟩ : ∃ b, outB S (lookP (waysOf a) ya yc 1) = b := ⟨_, rfl⟩
      have HO1 : Hid (∀ X, Below W9.heap.size W9 X → Calls Try.prog 12 #[pv, .slice (some ⟨N, 9, none⟩) 8 8] X fun e W' => e = .returned (.bool m1) ∧ Below X.heap.size X W') := fun X hX => by rw [← hm1]; exact outlive_any (HP1.out.below hX) (HSE3.out X (HVC.out X (G9.out.trans (hX.mono G9.out.size)))) (reg_in RA.out RB.out (waysOf a) 1)
      have HO2 : Hid (∀ X, Below W9.heap.size W9 X → Calls Try.prog 12 #[pw, .slice (some ⟨N, 9, none⟩) 8 8] X fun e W' => e = .returned (.bool m2) ∧ Below X.heap.size X W') := fun X hX => by rw [← hm2]; exact outlive_any (HP2.out.below hX) (HSE3.out X (HVC.out X (G9.out.trans (hX.mono G9.out.size)))) (reg_in RB.out RC.out (waysOf a) 1)
      have HO3 : Hid (∀ X, Below W9.heap.size W9 X → Calls Try.prog 12 #[pu, .slice (some ⟨N, 9, none⟩) 8 8] X fun e W' => e = .returned (.bool m3) ∧ Below X.heap.size X W') := fun X hX => by rw [← hm3]; exact outlive_any (HP3.out.below hX) (HSE3.out X (HVC.out X (G9.out.trans (hX.mono G9.out.size)))) (reg_in RA.out RC.out (waysOf a) 1)
      rw [hm1, hm2, hm3] at HM
      have HG : Hid (∀ X, Below W9.heap.size W9 X → Below W.heap.size W X) := fun X hX => HWV3.out X (HVC.out X (G9.out.trans (hX.mono G9.out.size)))
      clear hm1 hm2 hm3 HP1 HP2 HP3 EW7 EW8 EW9 HCC HT1 HT2 HT3x G6 G7 G8 HWO HWV3 RA RB RC HSab HSbc HSac GB HVC HSE3 KC3 HSB HAB SA
      go_wp2_with fail
      refine (HO1.out W9 (.refl _ _)).mono ?_
      rintro e WA ⟨rfl, b⟩
      have BA := Lib.hid b
      clear b
      cases m1 with
      | false =>
        go_wp2
        go_ret
        exact ⟨rfl, HG.out _ BA.out⟩
      | true =>
        go_wp2_with fail
        refine (HO2.out WA BA.out).mono ?_
        rintro e WB ⟨rfl, b⟩
        have BB := Lib.hid (BA.out.trans (b.mono BA.out.size))
        clear b
        cases m2 with
        | false =>
          go_wp2
          go_ret
          exact ⟨rfl, HG.out _ BB.out⟩
        | true =>
          have hm : m3 = true := by simpa using HM.out
          rw [hm] at HO3
          clear hm HM
          go_wp2_with fail
          refine (HO3.out WB BB.out).mono ?_
          rintro e WD ⟨rfl, b⟩
          have BD := Lib.hid (BB.out.trans (b.mono BB.out.size))
          clear b
          go_wp2
          go_ret
          exact ⟨rfl, HG.out _ BD.out⟩
end Sb
end Go.Proofs.Ytebnonbfjkielaa

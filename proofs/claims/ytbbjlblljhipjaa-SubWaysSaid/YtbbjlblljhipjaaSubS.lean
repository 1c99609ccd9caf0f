/- Layer 10: the laws of cases. -/
import Derived.BigQuiet
import Derived.Deep.QuietTactic
import Derived.Test.YtbbjlblljhipjaaSubR
import Derived.Test.YtbbjlblljhipjaaSubK
namespace Go.Proofs.Ytbbjlblljhipjaa
open Go.RowKit Go.Deep Tr Ts Vy Mp
namespace Sb
set_option maxHeartbeats 16000000 in
set_option maxRecDepth 100000 in
theorem subWays_walk {n : Nat} {x : Ty} {X Y Z : List Int} {S : Nat → Nat} {a : Nat} {cs : List Value} {W : World} (h : CaseAt W n x X Y Z S a cs) (more : Nat) (hmore : more < 18446744073709551616) :
    Calls Try.prog 6 #[.agg cs.toArray, .int .u64 (more : Int)] W fun e W' => e = .returned (.bool true) ∧ Below W.heap.size W W' := by
  obtain ⟨⟨k, nm, u, r, R, lr, cr, A, la, ca, XA, lx, cx, YA, ly, cy, ZA, lz, cz, rfl, ht, hx, hy, hz⟩, hS, hA⟩ := h
  obtain ⟨o1, ho1⟩ : ∃ o, Obj.cells #[.int .i64 k, .string nm, .bool u, .int .i64 r, .slice R lr cr, .slice A la ca, .slice XA lx cx, .slice YA ly cy, .slice ZA lz cz, .int .u64 (S 0 : Int), .int .u64 (S 1 : Int), .int .u64 (S 2 : Int), .int .u64 (S 3 : Int), .int .u64 (S 4 : Int), .int .u64 (S 5 : Int), .int .u64 (S 6 : Int), .int .u64 (S 7 : Int), .int .u64 (a : Int)] 39 = o := ⟨_, rfl⟩
  have B1 : Below W.heap.size W (W.alloc o1) := (Below.refl _ W).alloc (Nat.le_refl _) o1
  have i1 : Is (W.alloc o1) W.heap.size 39 #[.int .i64 k, .string nm, .bool u, .int .i64 r, .slice R lr cr, .slice A la ca, .slice XA lx cx, .slice YA ly cy, .slice ZA lz cz, .int .u64 (S 0 : Int), .int .u64 (S 1 : Int), .int .u64 (S 2 : Int), .int .u64 (S 3 : Int), .int .u64 (S 4 : Int), .int .u64 (S 5 : Int), .int .u64 (S 6 : Int), .int .u64 (S 7 : Int), .int .u64 (a : Int)] := by rw [← ho1]; exact Is.made W _ _
  obtain ⟨V, hV⟩ : ∃ V, W.alloc o1 = V := ⟨_, rfl⟩
  rw [hV] at B1 i1
  have HV : Hid (W.alloc (.cells #[.int .i64 k, .string nm, .bool u, .int .i64 r, .slice R lr cr, .slice A la ca, .slice XA lx cx, .slice YA ly cy, .slice ZA lz cz, .int .u64 (S 0 : Int), .int .u64 (S 1 : Int), .int .u64 (S 2 : Int), .int .u64 (S 3 : Int), .int .u64 (S 4 : Int), .int .u64 (S 5 : Int), .int .u64 (S 6 : Int), .int .u64 (S 7 : Int), .int .u64 (a : Int)] 39) = V) := by rw [← hV, ← ho1]; exact rfl
  obtain ⟨N, hN⟩ : ∃ N, W.heap.size = N := ⟨_, rfl⟩
  have HN := Lib.hid hN
  rw [hN] at i1
  have KC : Hid (∀ X, Below V.heap.size V X → X.cell? ⟨N, 0, none⟩ = some (.int .i64 k) ∧ X.cell? ⟨N, 1, none⟩ = some (.string nm) ∧ X.cell? ⟨N, 2, none⟩ = some (.bool u) ∧ X.cell? ⟨N, 3, none⟩ = some (.int .i64 r) ∧ X.cell? ⟨N, 4, none⟩ = some (.slice R lr cr) ∧ X.cell? ⟨N, 5, none⟩ = some (.slice A la ca) ∧ X.cell? ⟨N, 6, none⟩ = some (.slice XA lx cx) ∧ X.cell? ⟨N, 7, none⟩ = some (.slice YA ly cy) ∧ X.cell? ⟨N, 8, none⟩ = some (.slice ZA lz cz) ∧ X.cell? ⟨N, 17, none⟩ = some (.int .u64 (a : Int))) := by
    intro X hX
    have j1 := i1.below hX i1.lt
    exact ⟨j1.at_ 0, j1.at_ 1, j1.at_ 2, j1.at_ 3, j1.at_ 4, j1.at_ 5, j1.at_ 6, j1.at_ 7, j1.at_ 8, j1.at_ 17⟩
  have HSE : Hid (∀ X, Below V.heap.size V X → SetsAt X N 9 S) := by
    intro X hX
    have j1 := i1.below hX i1.lt
    refine ⟨j1.lt, fun i hi => ?_, hS⟩
    have : i = 0 ∨ i = 1 ∨ i = 2 ∨ i = 3 ∨ i = 4 ∨ i = 5 ∨ i = 6 ∨ i = 7 := by omega
    rcases this with rfl | rfl | rfl | rfl | rfl | rfl | rfl | rfl
    · exact j1.at_ 9
    · exact j1.at_ 10
    · exact j1.at_ 11
    · exact j1.at_ 12
    · exact j1.at_ 13
    · exact j1.at_ 14
    · exact j1.at_ 15
    · exact j1.at_ 16
  have HT : Hid (∀ X, Below V.heap.size V X → TyAt X n x [.int .i64 k, .string nm, .bool u, .int .i64 r, .slice R lr cr, .slice A la ca]) := fun X hX => TyAt.below (B1.trans (hX.mono B1.size)) _ _ _ ht
  have HX : Hid (∀ V', Below V.heap.size V V' → RowI V' (.slice XA lx cx) X) := fun V' hX => hx.below (B1.trans (hX.mono B1.size))
  have HY : Hid (∀ V', Below V.heap.size V V' → RowI V' (.slice YA ly cy) Y) := fun V' hX => hy.below (B1.trans (hX.mono B1.size))
  have HZ : Hid (∀ V', Below V.heap.size V V' → RowI V' (.slice ZA lz cz) Z) := fun V' hX => hz.below (B1.trans (hX.mono B1.size))
  have HWV : Hid (∀ X, Below V.heap.size V X → Below W.heap.size W X) := fun X hX => B1.trans (hX.mono B1.size)
  have HSB := Lib.hid hS
  have HAB := Lib.hid hA
  clear ht hx hy hz hS hA ho1 B1 i1 hN hV
  go_enter Try.func6, Try.ntmps6
  go_wp2_with fail
  rw [HV.out]
  try rw [HN.out]
  refine (does_any V).mono ?_
  rintro e W1 ⟨rfl, b1⟩
  have G1 := Lib.hid b1
  clear b1
  obtain ⟨n0, n1, n2, n3, n4, n5, n6, n7, n8, n17⟩ := KC.out W1 G1.out
  have HSA := Lib.hid (small_any n x _ 6 W1 (HT.out W1 G1.out) (by decide))
  go_wp2_with fail
  refine HSA.out.mono ?_
  rintro e W2 ⟨⟨sa, rfl, hsa⟩, b2⟩
  have G2 := Lib.hid (G1.out.trans (b2.mono G1.out.size))
  clear b2 HSA n0 n1 n2 n3 n4 n5 n6 n7 n8 n17
  cases sa with
  | false =>
    go_wp2_with fail
    refine (does_any W2).mono ?_
    rintro e W3 ⟨rfl, b3⟩
    have G3 := Lib.hid (HWV.out _ (G2.out.trans (b3.mono G2.out.size)))
    clear b3
    go_wp2
    go_ret
    exact ⟨rfl, G3.out⟩
  | true =>
    have SA := Lib.hid (hsa rfl)
    clear hsa
    obtain ⟨n0, n1, n2, n3, n4, n5, n6, n7, n8, n17⟩ := KC.out W2 G2.out
    have ST0 : Hid (Stt V n (fun _ => none) [] W2) := Stt.start G2.out
    have hdr : W2.drew.heap.size = W2.heap.size := rfl
    have HRX : Hid (∀ V', Below V.heap.size V V' → Calls Try.prog 11 #[.agg #[.int .i64 k, .string nm, .bool u, .int .i64 r, .slice R lr cr, .slice A la ca], .slice XA lx cx] V' fun e W' => ∃ ds : List Value, e = .returned (.agg ds.toArray) ∧ TyAt (only (qW V.heap.size V'.heap.size) W') n (withP x (regsOf X (allP x).length)) ds ∧ Below V'.heap.size V' W') := fun V' hV => regions_at (HT.out V (.refl _ _)) hV SA.out (HX.out V' hV)
    have HRY : Hid (∀ V', Below V.heap.size V V' → Calls Try.prog 11 #[.agg #[.int .i64 k, .string nm, .bool u, .int .i64 r, .slice R lr cr, .slice A la ca], .slice YA ly cy] V' fun e W' => ∃ ds : List Value, e = .returned (.agg ds.toArray) ∧ TyAt (only (qW V.heap.size V'.heap.size) W') n (withP x (regsOf Y (allP x).length)) ds ∧ Below V'.heap.size V' W') := fun V' hV => regions_at (HT.out V (.refl _ _)) hV SA.out (HY.out V' hV)
    obtain ⟨ya, hya⟩ : ∃ y, withP x (regsOf X (allP x).length) = y := ⟨_, rfl⟩
    obtain ⟨yb, hyb⟩ : ∃ y, withP x (regsOf Y (allP x).length) = y := ⟨_, rfl⟩
    have HYA := Lib.hid hya
    have HYB := Lib.hid hyb
    rw [hya] at HRX
    rw [hyb] at HRY
    clear hya hyb
    go_upto_region 3 with fail
    · refine (does_any W2).mono ?_
      rintro e W3 ⟨rfl, b3⟩
      have G3 := Lib.hid (HWV.out _ (G2.out.trans (b3.mono G2.out.size)))
      clear b3
      go_wp2
      go_ret
      exact ⟨rfl, G3.out⟩
    go_cut [5, 6] (fun s5 s6 wx => Two V n ya yb s5 s6 wx)
    case first =>
      go_region_held3 (fun X => X.cell? ⟨N, 0, none⟩ = some (.int .i64 k) ∧ X.cell? ⟨N, 1, none⟩ = some (.string nm) ∧ X.cell? ⟨N, 2, none⟩ = some (.bool u) ∧ X.cell? ⟨N, 3, none⟩ = some (.int .i64 r) ∧ X.cell? ⟨N, 4, none⟩ = some (.slice R lr cr) ∧ X.cell? ⟨N, 5, none⟩ = some (.slice A la ca) ∧ X.cell? ⟨N, 6, none⟩ = some (.slice XA lx cx) ∧ X.cell? ⟨N, 7, none⟩ = some (.slice YA ly cy) ∧ X.cell? ⟨N, 8, none⟩ = some (.slice ZA lz cz) ∧ X.cell? ⟨N, 17, none⟩ = some (.int .u64 (a : Int)))
        ((refine KC.out _ ?_; apply Stt.bel; (repeat (first | (with_reducible exact ST2.out) | (with_reducible exact ST1.out) | (with_reducible exact ST0.out) | (with_reducible apply Stt.drew) | (with_reducible apply Stt.alloc) | (with_reducible apply Stt.put) | ((with_reducible apply updC_at); (first | (with_reducible rfl) | (with_reducible exact hdr.symm) | (with_reducible exact (size_al _ _).symm) | (with_reducible exact (size_set6 _ _ _ _ _ _ _ _ _ _ _ _ _).symm) | (rw [size_al, hdr]) | (rw [size_al]; done))) | ((with_reducible apply updC_on); (first | omega | (rw [size_al]; omega) | (rw [size_al, hdr]; omega) | (rw [hdr]; omega) | (rw [size_al, size_al]; omega) | (rw [size_set6]; omega) | (rw [size_set6, size_al]; omega)))))))
        (first
          | (go_at_call 11; (with_reducible apply call_stt (HR := HRY.out)); (repeat (first | (with_reducible exact ST1.out) | (with_reducible apply Stt.drew) | (with_reducible apply Stt.alloc) | (with_reducible apply Stt.put) | ((with_reducible apply updC_at); (first | (with_reducible rfl) | (with_reducible exact hdr.symm) | (with_reducible exact (size_al _ _).symm) | (with_reducible exact (size_set6 _ _ _ _ _ _ _ _ _ _ _ _ _).symm) | (rw [size_al, hdr]) | (rw [size_al]; done))) | ((with_reducible apply updC_on); (first | omega | (rw [size_al]; omega) | (rw [size_al, hdr]; omega) | (rw [hdr]; omega) | (rw [size_al, size_al]; omega) | (rw [size_set6]; omega) | (rw [size_set6, size_al]; omega))))); intro k2 nm2 u2 r2 R2 lr2 cr2 A2 la2 ca2 W7 hz2 st; (try simp at hz2); (try (refine Stt.got st (W2.heap.size) [.int .i64 0, .string ⟨#[]⟩, .bool false, .int .i64 0, .slice none 0 0, .slice none 0 0] _ ?_ ?_; (repeat (first | ((with_reducible apply updC_at); (first | (with_reducible rfl) | (with_reducible exact hdr.symm) | (with_reducible exact (size_al _ _).symm) | (with_reducible exact (size_set6 _ _ _ _ _ _ _ _ _ _ _ _ _).symm) | (rw [size_al, hdr]) | (rw [size_al]; done))) | ((with_reducible apply updC_on); (first | omega | (rw [size_al]; omega) | (rw [size_al, hdr]; omega) | (rw [hdr]; omega) | (rw [size_al, size_al]; omega) | (rw [size_set6]; omega) | (rw [size_set6, size_al]; omega))))); intro vv; have ff : ∀ i, W7.frozen? ⟨W2.heap.size, i, none⟩ = false := fun i => vv.free i; have vlt := vv.lt; have vne : (W2.heap.size : Nat) ≠ W7.heap.size := Nat.ne_of_lt vlt; have vc0 := vv.at_ 0; have vc1 := vv.at_ 1; have vc2 := vv.at_ 2; have vc3 := vv.at_ 3; have vc4 := vv.at_ 4; have vc5 := vv.at_ 5; simp only [List.getElem?_toArray, List.getElem?_cons_zero, List.getElem?_cons_succ] at vc0 vc1 vc2 vc3 vc4 vc5; have vw := vv.alloc (.cells #[.int .i64 0, .string ⟨#[]⟩, .bool false, .int .i64 0, .slice none 0 0, .slice none 0 0] 25); have fg : ∀ i, (W7.alloc (.cells #[.int .i64 0, .string ⟨#[]⟩, .bool false, .int .i64 0, .slice none 0 0, .slice none 0 0] 25)).frozen? ⟨W2.heap.size, i, none⟩ = false := fun i => vw.free i; have vd0 := vw.at_ 0; have vd1 := vw.at_ 1; have vd2 := vw.at_ 2; have vd3 := vw.at_ 3; have vd4 := vw.at_ 4; have vd5 := vw.at_ 5; simp only [List.getElem?_toArray, List.getElem?_cons_zero, List.getElem?_cons_succ] at vd0 vd1 vd2 vd3 vd4 vd5; clear vw vv)); (try (refine Stt.got st (W2.heap.size + 1) [.int .i64 0, .string ⟨#[]⟩, .bool false, .int .i64 0, .slice none 0 0, .slice none 0 0] _ ?_ ?_; (repeat (first | ((with_reducible apply updC_at); (first | (with_reducible rfl) | (with_reducible exact hdr.symm) | (with_reducible exact (size_al _ _).symm) | (with_reducible exact (size_set6 _ _ _ _ _ _ _ _ _ _ _ _ _).symm) | (rw [size_al, hdr]) | (rw [size_al]; done))) | ((with_reducible apply updC_on); (first | omega | (rw [size_al]; omega) | (rw [size_al, hdr]; omega) | (rw [hdr]; omega) | (rw [size_al, size_al]; omega) | (rw [size_set6]; omega) | (rw [size_set6, size_al]; omega))))); intro vv; have ff : ∀ i, W7.frozen? ⟨W2.heap.size + 1, i, none⟩ = false := fun i => vv.free i; have vlt := vv.lt; have vne : (W2.heap.size + 1 : Nat) ≠ W7.heap.size := Nat.ne_of_lt vlt; have vc0 := vv.at_ 0; have vc1 := vv.at_ 1; have vc2 := vv.at_ 2; have vc3 := vv.at_ 3; have vc4 := vv.at_ 4; have vc5 := vv.at_ 5; simp only [List.getElem?_toArray, List.getElem?_cons_zero, List.getElem?_cons_succ] at vc0 vc1 vc2 vc3 vc4 vc5; have vw := vv.alloc (.cells #[.int .i64 0, .string ⟨#[]⟩, .bool false, .int .i64 0, .slice none 0 0, .slice none 0 0] 25); have fg : ∀ i, (W7.alloc (.cells #[.int .i64 0, .string ⟨#[]⟩, .bool false, .int .i64 0, .slice none 0 0, .slice none 0 0] 25)).frozen? ⟨W2.heap.size + 1, i, none⟩ = false := fun i => vw.free i; have vd0 := vw.at_ 0; have vd1 := vw.at_ 1; have vd2 := vw.at_ 2; have vd3 := vw.at_ 3; have vd4 := vw.at_ 4; have vd5 := vw.at_ 5; simp only [List.getElem?_toArray, List.getElem?_cons_zero, List.getElem?_cons_succ] at vd0 vd1 vd2 vd3 vd4 vd5; clear vw vv)); (try (refine Stt.got st (W6.heap.size) [.int .i64 0, .string ⟨#[]⟩, .bool false, .int .i64 0, .slice none 0 0, .slice none 0 0] _ ?_ ?_; (repeat (first | ((with_reducible apply updC_at); (first | (with_reducible rfl) | (with_reducible exact hdr.symm) | (with_reducible exact (size_al _ _).symm) | (with_reducible exact (size_set6 _ _ _ _ _ _ _ _ _ _ _ _ _).symm) | (rw [size_al, hdr]) | (rw [size_al]; done))) | ((with_reducible apply updC_on); (first | omega | (rw [size_al]; omega) | (rw [size_al, hdr]; omega) | (rw [hdr]; omega) | (rw [size_al, size_al]; omega) | (rw [size_set6]; omega) | (rw [size_set6, size_al]; omega))))); intro vv; have ff : ∀ i, W7.frozen? ⟨W6.heap.size, i, none⟩ = false := fun i => vv.free i; have vlt := vv.lt; have vne : (W6.heap.size : Nat) ≠ W7.heap.size := Nat.ne_of_lt vlt; have vc0 := vv.at_ 0; have vc1 := vv.at_ 1; have vc2 := vv.at_ 2; have vc3 := vv.at_ 3; have vc4 := vv.at_ 4; have vc5 := vv.at_ 5; simp only [List.getElem?_toArray, List.getElem?_cons_zero, List.getElem?_cons_succ] at vc0 vc1 vc2 vc3 vc4 vc5; have vw := vv.alloc (.cells #[.int .i64 0, .string ⟨#[]⟩, .bool false, .int .i64 0, .slice none 0 0, .slice none 0 0] 25); have fg : ∀ i, (W7.alloc (.cells #[.int .i64 0, .string ⟨#[]⟩, .bool false, .int .i64 0, .slice none 0 0, .slice none 0 0] 25)).frozen? ⟨W6.heap.size, i, none⟩ = false := fun i => vw.free i; have vd0 := vw.at_ 0; have vd1 := vw.at_ 1; have vd2 := vw.at_ 2; have vd3 := vw.at_ 3; have vd4 := vw.at_ 4; have vd5 := vw.at_ 5; simp only [List.getElem?_toArray, List.getElem?_cons_zero, List.getElem?_cons_succ] at vd0 vd1 vd2 vd3 vd4 vd5; clear vw vv)); (try (refine Stt.got st (W6.heap.size + 1) [.int .i64 0, .string ⟨#[]⟩, .bool false, .int .i64 0, .slice none 0 0, .slice none 0 0] _ ?_ ?_; (repeat (first | ((with_reducible apply updC_at); (first | (with_reducible rfl) | (with_reducible exact hdr.symm) | (with_reducible exact (size_al _ _).symm) | (with_reducible exact (size_set6 _ _ _ _ _ _ _ _ _ _ _ _ _).symm) | (rw [size_al, hdr]) | (rw [size_al]; done))) | ((with_reducible apply updC_on); (first | omega | (rw [size_al]; omega) | (rw [size_al, hdr]; omega) | (rw [hdr]; omega) | (rw [size_al, size_al]; omega) | (rw [size_set6]; omega) | (rw [size_set6, size_al]; omega))))); intro vv; have ff : ∀ i, W7.frozen? ⟨W6.heap.size + 1, i, none⟩ = false := fun i => vv.free i; have vlt := vv.lt; have vne : (W6.heap.size + 1 : Nat) ≠ W7.heap.size := Nat.ne_of_lt vlt; have vc0 := vv.at_ 0; have vc1 := vv.at_ 1; have vc2 := vv.at_ 2; have vc3 := vv.at_ 3; have vc4 := vv.at_ 4; have vc5 := vv.at_ 5; simp only [List.getElem?_toArray, List.getElem?_cons_zero, List.getElem?_cons_succ] at vc0 vc1 vc2 vc3 vc4 vc5; have vw := vv.alloc (.cells #[.int .i64 0, .string ⟨#[]⟩, .bool false, .int .i64 0, .slice none 0 0, .slice none 0 0] 25); have fg : ∀ i, (W7.alloc (.cells #[.int .i64 0, .string ⟨#[]⟩, .bool false, .int .i64 0, .slice none 0 0, .slice none 0 0] 25)).frozen? ⟨W6.heap.size + 1, i, none⟩ = false := fun i => vw.free i; have vd0 := vw.at_ 0; have vd1 := vw.at_ 1; have vd2 := vw.at_ 2; have vd3 := vw.at_ 3; have vd4 := vw.at_ 4; have vd5 := vw.at_ 5; simp only [List.getElem?_toArray, List.getElem?_cons_zero, List.getElem?_cons_succ] at vd0 vd1 vd2 vd3 vd4 vd5; clear vw vv)); have ST2 := Lib.hid st; clear st)
          | (go_at_call 11; (with_reducible apply call_stt (HR := HRX.out)); (repeat (first | (with_reducible exact ST0.out) | (with_reducible apply Stt.drew) | (with_reducible apply Stt.alloc) | (with_reducible apply Stt.put) | ((with_reducible apply updC_at); (first | (with_reducible rfl) | (with_reducible exact hdr.symm) | (with_reducible exact (size_al _ _).symm) | (with_reducible exact (size_set6 _ _ _ _ _ _ _ _ _ _ _ _ _).symm) | (rw [size_al, hdr]) | (rw [size_al]; done))) | ((with_reducible apply updC_on); (first | omega | (rw [size_al]; omega) | (rw [size_al, hdr]; omega) | (rw [hdr]; omega) | (rw [size_al, size_al]; omega) | (rw [size_set6]; omega) | (rw [size_set6, size_al]; omega))))); intro k1 nm1 u1 r1 R1 lr1 cr1 A1 la1 ca1 W6 hz1 st; (try simp at hz1); (try (refine Stt.got st (W2.heap.size) [.int .i64 0, .string ⟨#[]⟩, .bool false, .int .i64 0, .slice none 0 0, .slice none 0 0] _ ?_ ?_; (repeat (first | ((with_reducible apply updC_at); (first | (with_reducible rfl) | (with_reducible exact hdr.symm) | (with_reducible exact (size_al _ _).symm) | (with_reducible exact (size_set6 _ _ _ _ _ _ _ _ _ _ _ _ _).symm) | (rw [size_al, hdr]) | (rw [size_al]; done))) | ((with_reducible apply updC_on); (first | omega | (rw [size_al]; omega) | (rw [size_al, hdr]; omega) | (rw [hdr]; omega) | (rw [size_al, size_al]; omega) | (rw [size_set6]; omega) | (rw [size_set6, size_al]; omega))))); intro vv; have ff : ∀ i, W6.frozen? ⟨W2.heap.size, i, none⟩ = false := fun i => vv.free i; have vlt := vv.lt; have vne : (W2.heap.size : Nat) ≠ W6.heap.size := Nat.ne_of_lt vlt; have vc0 := vv.at_ 0; have vc1 := vv.at_ 1; have vc2 := vv.at_ 2; have vc3 := vv.at_ 3; have vc4 := vv.at_ 4; have vc5 := vv.at_ 5; simp only [List.getElem?_toArray, List.getElem?_cons_zero, List.getElem?_cons_succ] at vc0 vc1 vc2 vc3 vc4 vc5; have vw := vv.alloc (.cells #[.int .i64 0, .string ⟨#[]⟩, .bool false, .int .i64 0, .slice none 0 0, .slice none 0 0] 25); have fg : ∀ i, (W6.alloc (.cells #[.int .i64 0, .string ⟨#[]⟩, .bool false, .int .i64 0, .slice none 0 0, .slice none 0 0] 25)).frozen? ⟨W2.heap.size, i, none⟩ = false := fun i => vw.free i; have vd0 := vw.at_ 0; have vd1 := vw.at_ 1; have vd2 := vw.at_ 2; have vd3 := vw.at_ 3; have vd4 := vw.at_ 4; have vd5 := vw.at_ 5; simp only [List.getElem?_toArray, List.getElem?_cons_zero, List.getElem?_cons_succ] at vd0 vd1 vd2 vd3 vd4 vd5; clear vw vv)); (try (refine Stt.got st (W2.heap.size + 1) [.int .i64 0, .string ⟨#[]⟩, .bool false, .int .i64 0, .slice none 0 0, .slice none 0 0] _ ?_ ?_; (repeat (first | ((with_reducible apply updC_at); (first | (with_reducible rfl) | (with_reducible exact hdr.symm) | (with_reducible exact (size_al _ _).symm) | (with_reducible exact (size_set6 _ _ _ _ _ _ _ _ _ _ _ _ _).symm) | (rw [size_al, hdr]) | (rw [size_al]; done))) | ((with_reducible apply updC_on); (first | omega | (rw [size_al]; omega) | (rw [size_al, hdr]; omega) | (rw [hdr]; omega) | (rw [size_al, size_al]; omega) | (rw [size_set6]; omega) | (rw [size_set6, size_al]; omega))))); intro vv; have ff : ∀ i, W6.frozen? ⟨W2.heap.size + 1, i, none⟩ = false := fun i => vv.free i; have vlt := vv.lt; have vne : (W2.heap.size + 1 : Nat) ≠ W6.heap.size := Nat.ne_of_lt vlt; have vc0 := vv.at_ 0; have vc1 := vv.at_ 1; have vc2 := vv.at_ 2; have vc3 := vv.at_ 3; have vc4 := vv.at_ 4; have vc5 := vv.at_ 5; simp only [List.getElem?_toArray, List.getElem?_cons_zero, List.getElem?_cons_succ] at vc0 vc1 vc2 vc3 vc4 vc5; have vw := vv.alloc (.cells #[.int .i64 0, .string ⟨#[]⟩, .bool false, .int .i64 0, .slice none 0 0, .slice none 0 0] 25); have fg : ∀ i, (W6.alloc (.cells #[.int .i64 0, .string ⟨#[]⟩, .bool false, .int .i64 0, .slice none 0 0, .slice none 0 0] 25)).frozen? ⟨W2.heap.size + 1, i, none⟩ = false := fun i => vw.free i; have vd0 := vw.at_ 0; have vd1 := vw.at_ 1; have vd2 := vw.at_ 2; have vd3 := vw.at_ 3; have vd4 := vw.at_ 4; have vd5 := vw.at_ 5; simp only [List.getElem?_toArray, List.getElem?_cons_zero, List.getElem?_cons_succ] at vd0 vd1 vd2 vd3 vd4 vd5; clear vw vv)); have ST1 := Lib.hid st; clear st))
      all_goals
        go_wp2_with fail
        go_meet
        apply Stt.two
        (repeat (first | (with_reducible exact List.mem_cons_self) | (with_reducible apply List.mem_cons_of_mem) | (with_reducible exact ST2.out) | (with_reducible exact ST1.out) | (with_reducible exact ST0.out) | (with_reducible apply Stt.drew) | (with_reducible apply Stt.alloc) | (with_reducible apply Stt.put) | ((with_reducible apply updC_at); (first | (with_reducible rfl) | (with_reducible exact hdr.symm) | (with_reducible exact (size_al _ _).symm) | (with_reducible exact (size_set6 _ _ _ _ _ _ _ _ _ _ _ _ _).symm) | (rw [size_al, hdr]) | (rw [size_al]; done))) | ((with_reducible apply updC_on); (first | omega | (rw [size_al]; omega) | (rw [size_al, hdr]; omega) | (rw [hdr]; omega) | (rw [size_al, size_al]; omega) | (rw [size_set6]; omega) | (rw [size_set6, size_al]; omega)))))
    case rest =>
      obtain ⟨p, q, d1, d2, rfl, rfl, hb, ⟨hi1, ht1⟩, hi2, ht2⟩ := hcut
      obtain ⟨k1, nm1, u1, r1, R1, lr1, cr1, A1, la1, ca1, rfl⟩ := ht1.shape
      obtain ⟨k2, nm2, u2, r2, R2, lr2, cr2, A2, la2, ca2, rfl⟩ := ht2.shape
      have GB := Lib.hid hb
      have HCC : Hid (∀ X, Below wc.heap.size wc X → X.cell? ⟨N, 17, none⟩ = some (.int .u64 (a : Int)) ∧ X.cell? ⟨p, 0, none⟩ = some (.int .i64 k1) ∧ X.cell? ⟨p, 1, none⟩ = some (.string nm1) ∧ X.cell? ⟨p, 2, none⟩ = some (.bool u1) ∧ X.cell? ⟨p, 3, none⟩ = some (.int .i64 r1) ∧ X.cell? ⟨p, 4, none⟩ = some (.slice R1 lr1 cr1) ∧ X.cell? ⟨p, 5, none⟩ = some (.slice A1 la1 ca1) ∧ X.cell? ⟨q, 0, none⟩ = some (.int .i64 k2) ∧ X.cell? ⟨q, 1, none⟩ = some (.string nm2) ∧ X.cell? ⟨q, 2, none⟩ = some (.bool u2) ∧ X.cell? ⟨q, 3, none⟩ = some (.int .i64 r2) ∧ X.cell? ⟨q, 4, none⟩ = some (.slice R2 lr2 cr2) ∧ X.cell? ⟨q, 5, none⟩ = some (.slice A2 la2 ca2)) := by
        intro X hX
        have j1 := hi1.below hX hi1.lt
        have j2 := hi2.below hX hi2.lt
        exact ⟨(KC.out X (GB.out.trans (hX.mono GB.out.size))).2.2.2.2.2.2.2.2.2, j1.at_ 0, j1.at_ 1, j1.at_ 2, j1.at_ 3, j1.at_ 4, j1.at_ 5, j2.at_ 0, j2.at_ 1, j2.at_ 2, j2.at_ 3, j2.at_ 4, j2.at_ 5⟩
      have HT1 : Hid (∀ X, Below wc.heap.size wc X → TyAt X n ya [.int .i64 k1, .string nm1, .bool u1, .int .i64 r1, .slice R1 lr1 cr1, .slice A1 la1 ca1]) := fun X hX => TyAt.below hX _ _ _ ht1
      have HT2 : Hid (∀ X, Below wc.heap.size wc X → TyAt X n yb [.int .i64 k2, .string nm2, .bool u2, .int .i64 r2, .slice R2 lr2 cr2, .slice A2 la2 ca2]) := fun X hX => TyAt.below hX _ _ _ ht2
      have RA : Hid (Reg x ya X) := by rw [← HYA.out]; exact reg_of x X
      have RB : Hid (Reg x yb Y) := by rw [← HYB.out]; exact reg_of x Y
      have HS : Hid (sameP ya yb = true) := reg_same RA.out RB.out
      have HVC : Hid (∀ X, Below wc.heap.size wc X → Below V.heap.size V X) := fun X hX => GB.out.trans (hX.mono GB.out.size)
      have HMM : Hid (more < 18446744073709551616) := hmore
      have HWA : Hid (∀ X, Calls Try.prog 10 #[.int .u64 (a : Int)] X fun e W' => ∃ o, e = .returned o ∧ WaysAt W' o (waysOf a) ∧ Below X.heap.size X W') := fun X => ways_any a HAB.out X
      have HWB : Hid (∀ X, Calls Try.prog 10 #[.int .u64 (bits .or .u64 (a : Int) (more : Int))] X fun e W' => ∃ o, e = .returned o ∧ WaysAt W' o (waysOf (a ||| more)) ∧ Below X.heap.size X W') := fun X => by
        rw [Go.bits_or_u64_nat a more HAB.out HMM.out]
        exact ways_any (a ||| more) (show a ||| more < 2 ^ 64 from Nat.or_lt_two_pow (by have := HAB.out; omega) (by have := HMM.out; omega)) X
      obtain ⟨n17, pc0, pc1, pc2, pc3, pc4, pc5, qc0, qc1, qc2, qc3, qc4, qc5⟩ := HCC.out wc (.refl _ _)
      have GD := Lib.hid (bel_drew (Below.refl wc.heap.size wc))
      clear hb hi1 ht1 hi2 ht2 hmore HYA HYB HRX HRY HX HY HZ HT ST0 hdr G1 G2
      go_wp2_with fail
      go_region_held3 (fun X => X.cell? ⟨N, 17, none⟩ = some (.int .u64 (a : Int)) ∧ X.cell? ⟨p, 0, none⟩ = some (.int .i64 k1) ∧ X.cell? ⟨p, 1, none⟩ = some (.string nm1) ∧ X.cell? ⟨p, 2, none⟩ = some (.bool u1) ∧ X.cell? ⟨p, 3, none⟩ = some (.int .i64 r1) ∧ X.cell? ⟨p, 4, none⟩ = some (.slice R1 lr1 cr1) ∧ X.cell? ⟨p, 5, none⟩ = some (.slice A1 la1 ca1) ∧ X.cell? ⟨q, 0, none⟩ = some (.int .i64 k2) ∧ X.cell? ⟨q, 1, none⟩ = some (.string nm2) ∧ X.cell? ⟨q, 2, none⟩ = some (.bool u2) ∧ X.cell? ⟨q, 3, none⟩ = some (.int .i64 r2) ∧ X.cell? ⟨q, 4, none⟩ = some (.slice R2 lr2 cr2) ∧ X.cell? ⟨q, 5, none⟩ = some (.slice A2 la2 ca2))
        (first
          | exact ⟨n17, pc0, pc1, pc2, pc3, pc4, pc5, qc0, qc1, qc2, qc3, qc4, qc5⟩
          | exact HCC.out _ G5.out
          | exact HCC.out _ G4.out)
        (first
          | (go_at_call 9; refine HWAP.out.mono ?_; rintro e W5 ⟨⟨pv, rfl, hr⟩, b⟩; have HP1 := Lib.hid hr; have G5 := Lib.hid (G4.out.trans (b.mono G4.out.size)); have bW5 := Lib.hid b; clear hr b)
          | (go_at_call 10; refine (HWA.out _).mono ?_; rintro e W4 ⟨o, rfl, hw, b⟩; have G4 := Lib.hid (GD.out.trans (b.mono GD.out.size)); have bW4 := Lib.hid b; have HWAP := Lib.hid (pairs_any (HT1.out _ G4.out) (HT2.out _ G4.out) hw (waysOf_few a) (RA.out.big SA.out)); clear hw b))
      all_goals
        have HRP : Hid (RowP W5 pv (lookP (waysOf a) ya yb 1)) := by
          have := HP1.out
          rw [HS.out, if_pos rfl] at this
          exact this
        rw [HS.out]
        obtain ⟨n17, pc0, pc1, pc2, pc3, pc4, pc5, qc0, qc1, qc2, qc3, qc4, qc5⟩ := HCC.out W5 G5.out
        have GE := Lib.hid (bel_drew G5.out)
        clear HP1 HWA HWAP G4 GD
        go_wp2_with fail
        go_region_held3 (fun X => X.cell? ⟨N, 17, none⟩ = some (.int .u64 (a : Int)) ∧ X.cell? ⟨p, 0, none⟩ = some (.int .i64 k1) ∧ X.cell? ⟨p, 1, none⟩ = some (.string nm1) ∧ X.cell? ⟨p, 2, none⟩ = some (.bool u1) ∧ X.cell? ⟨p, 3, none⟩ = some (.int .i64 r1) ∧ X.cell? ⟨p, 4, none⟩ = some (.slice R1 lr1 cr1) ∧ X.cell? ⟨p, 5, none⟩ = some (.slice A1 la1 ca1) ∧ X.cell? ⟨q, 0, none⟩ = some (.int .i64 k2) ∧ X.cell? ⟨q, 1, none⟩ = some (.string nm2) ∧ X.cell? ⟨q, 2, none⟩ = some (.bool u2) ∧ X.cell? ⟨q, 3, none⟩ = some (.int .i64 r2) ∧ X.cell? ⟨q, 4, none⟩ = some (.slice R2 lr2 cr2) ∧ X.cell? ⟨q, 5, none⟩ = some (.slice A2 la2 ca2))
          (first
            | exact ⟨n17, pc0, pc1, pc2, pc3, pc4, pc5, qc0, qc1, qc2, qc3, qc4, qc5⟩
            | exact HCC.out _ G7.out
            | exact HCC.out _ G6.out)
          (first
            | (go_at_call 9; refine HWBP.out.mono ?_; rintro e W7 ⟨⟨pw, rfl, hr⟩, b⟩; have HP2 := Lib.hid hr; have G7 := Lib.hid (G6.out.trans (b.mono G6.out.size)); have bW7 := Lib.hid b; clear hr b)
            | (go_at_call 10; refine (HWB.out _).mono ?_; rintro e W6 ⟨o, rfl, hw, b⟩; have G6 := Lib.hid (GE.out.trans (b.mono GE.out.size)); have bW6 := Lib.hid b; have HWBP := Lib.hid (pairs_any (HT1.out _ G6.out) (HT2.out _ G6.out) hw (waysOf_few (a ||| more)) (RA.out.big SA.out)); clear hw b))
        all_goals
          have HRQ : Hid (RowP W7 pw (lookP (waysOf (a ||| more)) ya yb 1)) := by
            have := HP2.out
            rw [HS.out, if_pos rfl] at this
            exact this
          rw [HS.out]
          have b57 : Below W5.heap.size W5 W7 := by
            have h1 := bel_drew (Below.refl W5.heap.size W5)
            have h2 := h1.trans (bW6.out.mono h1.size)
            exact h2.trans (bW7.out.mono h2.size)
          have HPW := Lib.hid (HRP.out.below b57)
          have HSW := Lib.hid (HSE.out W7 (HVC.out _ G7.out))
          have HO2 := Lib.hid (outlive_any HRQ.out HSW.out (reg_in RA.out RB.out (waysOf (a ||| more)) 1))
          have HO1 : Hid (∀ X, Below W7.heap.size W7 X → Calls Try.prog 12 #[pv, .slice (some ⟨N, 9, none⟩) 8 8] X fun e W' => e = .returned (.bool (outB S (lookP (waysOf a) ya yb 1))) ∧ Below X.heap.size X W') := fun X hX => outlive_any (HPW.out.below hX) (HSW.out.below hX) (reg_in RA.out RB.out (waysOf a) 1)
          have HM := Lib.hid (reg_more RA.out RB.out S a more)
          have HG : Hid (∀ X, Below W7.heap.size W7 X → Below W.heap.size W X) := fun X hX => HWV.out X (HVC.out X (G7.out.trans (hX.mono G7.out.size)))
          obtain ⟨m2, hm2⟩ : ∃ b, outB S (lookP (waysOf (a ||| more)) ya yb 1) = b := ⟨_, rfl⟩
          obtain ⟨m1, hm1⟩ : ∃ b, outB S (lookP (waysOf a) ya yb 1) = b := ⟨_, rfl⟩
          rw [hm2] at HO2 HM
          rw [hm1] at HO1 HM
          obtain ⟨n17, pc0, pc1, pc2, pc3, pc4, pc5, qc0, qc1, qc2, qc3, qc4, qc5⟩ := HCC.out W7 G7.out
          clear HRP HRQ HP2 HWB HWBP G6 GE bW6 bW7 b57 hm1 hm2 HCC HT1 HT2
          go_wp2_with fail
          refine HO2.out.mono ?_
          rintro e W8 ⟨rfl, b8⟩
          have B8 := Lib.hid b8
          clear b8
          cases m2 with
          | false =>
            go_wp2
            go_ret
            exact ⟨rfl, HG.out _ B8.out⟩
          | true =>
            have hm := HM.out rfl
            rw [hm] at HO1
            clear hm HM
            go_wp2_with fail
            refine (HO1.out W8 B8.out).mono ?_
            rintro e W9 ⟨rfl, b9⟩
            have B9 := Lib.hid (B8.out.trans (b9.mono B8.out.size))
            clear b9
            go_wp2
            go_ret
            exact ⟨rfl, HG.out _ B9.out⟩
end Sb
end Go.Proofs.Ytbbjlblljhipjaa

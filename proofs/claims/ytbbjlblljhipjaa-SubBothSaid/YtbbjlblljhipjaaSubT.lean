/- Layer 10: the laws of cases. -/
import Derived.BigQuiet
import Derived.Deep.QuietTactic
import Derived.Test.YtbbjlblljhipjaaSubR
import Derived.Test.YtbbjlblljhipjaaSubU
import Derived.Test.YtbbjlblljhipjaaSubK
namespace Go.Proofs.Ytbbjlblljhipjaa
open Go.RowKit Go.Deep Tr Ts Vy Mp
namespace Sb
set_option maxHeartbeats 16000000 in
set_option maxRecDepth 100000 in
theorem subBoth_walk {n : Nat} {x : Ty} {X Y Z : List Int} {S : Nat → Nat} {a : Nat} {cs : List Value} {W : World} (h : CaseAt W n x X Y Z S a cs) :
    Calls Try.prog 5 #[.agg cs.toArray] W fun e W' => e = .returned (.bool true) ∧ Below W.heap.size W W' := by
  obtain ⟨⟨k, nm, u, r, R, lr, cr, A, la, ca, XA, lx, cx, YA, ly, cy, ZA, lz, cz, rfl, ht, hx, hy, hz⟩, hS, hA⟩ := h
  obtain ⟨o1, ho1⟩ : ∃ o, Obj.cells #[.int .i64 k, .string nm, .bool u, .int .i64 r, .slice R lr cr, .slice A la ca, .slice XA lx cx, .slice YA ly cy, .slice ZA lz cz, .int .u64 (S 0 : Int), .int .u64 (S 1 : Int), .int .u64 (S 2 : Int), .int .u64 (S 3 : Int), .int .u64 (S 4 : Int), .int .u64 (S 5 : Int), .int .u64 (S 6 : Int), .int .u64 (S 7 : Int), .int .u64 (a : Int)] 39 = o := ⟨_, rfl⟩
  have B1 : Below W.heap.size W (W.alloc o1) := (Below.refl _ W).alloc (Nat.le_refl _) o1
  have i1 : Is (W.alloc o1) W.heap.size 39 #[.int .i64 k, .string nm, .bool u, .int .i64 r, .slice R lr cr, .slice A la ca, .slice XA lx cx, .slice YA ly cy, .slice ZA lz cz, .int .u64 (S 0 : Int), .int .u64 (S 1 : Int), .int .u64 (S 2 : Int), .int .u64 (S 3 : Int), .int .u64 (S 4 : Int), .int .u64 (S 5 : Int), .int .u64 (S 6 : Int), .int .u64 (S 7 : Int), .int .u64 (a : Int)] := by rw [← ho1]; exact Is.made W _ _
  obtain ⟨V, hV⟩ : ∃ V, W.alloc o1 = V := ⟨_, rfl⟩
  rw [hV] at B1 i1
  have HV : Hid (W.alloc (.cells #[.int .i64 k, .string nm, .bool u, .int .i64 r, .slice R lr cr, .slice A la ca, .slice XA lx cx, .slice YA ly cy, .slice ZA lz cz, .int .u64 (S 0 : Int), .int .u64 (S 1 : Int), .int .u64 (S 2 : Int), .int .u64 (S 3 : Int), .int .u64 (S 4 : Int), .int .u64 (S 5 : Int), .int .u64 (S 6 : Int), .int .u64 (S 7 : Int), .int .u64 (a : Int)] 39) = V) := by rw [← hV, ← ho1]; exact rfl
  obtain ⟨N, hN⟩ : ∃ N, W.heap.size = N := ⟨_, rfl⟩
  have HN := Lib.hid hN
  rw [hN] at i1
  have KC : Hid (∀ X, Below V.heap.size V X → X.cell? ⟨N, 0, none⟩ = some (.int .i64 k) ∧ X.cell? ⟨N, 1, none⟩ = some (.string nm) ∧ X.cell? ⟨N, 2, none⟩ = some (.bool u) ∧ X.cell? ⟨N, 3, none⟩ = some (.int .i64 r) ∧ X.cell? ⟨N, 4, none⟩ = some (.slice R lr cr) ∧ X.cell? ⟨N, 5, none⟩ = some (.slice A la ca) ∧ X.cell? ⟨N, 6, none⟩ = some (.slice XA lx cx) ∧ X.cell? ⟨N, 7, none⟩ = some (.slice YA ly cy) ∧ X.cell? ⟨N, 8, none⟩ = some (.slice ZA lz cz) ∧ X.cell? ⟨N, 17, none⟩ = some (.int .u64 (a : Int))) := by
    intro X hX
    have j1 := i1.below hX i1.lt
    exact ⟨j1.at_ 0, j1.at_ 1, j1.at_ 2, j1.at_ 3, j1.at_ 4, j1.at_ 5, j1.at_ 6, j1.at_ 7, j1.at_ 8, j1.at_ 17⟩
  have HSE : Hid (∀ X, Below V.heap.size V X → SetsAt X N 9 S) := by
    intro X hX
    have j1 := i1.below hX i1.lt
    refine ⟨j1.lt, fun i hi => ?_, hS⟩
    have : i = 0 ∨ i = 1 ∨ i = 2 ∨ i = 3 ∨ i = 4 ∨ i = 5 ∨ i = 6 ∨ i = 7 := by omega
    rcases this with rfl | rfl | rfl | rfl | rfl | rfl | rfl | rfl
    · exact j1.at_ 9
    · exact j1.at_ 10
    · exact j1.at_ 11
    · exact j1.at_ 12
    · exact j1.at_ 13
    · exact j1.at_ 14
    · exact j1.at_ 15
    · exact j1.at_ 16
  have HT : Hid (∀ X, Below V.heap.size V X → TyAt X n x [.int .i64 k, .string nm, .bool u, .int .i64 r, .slice R lr cr, .slice A la ca]) := fun X hX => TyAt.below (B1.trans (hX.mono B1.size)) _ _ _ ht
  have HX : Hid (∀ V', Below V.heap.size V V' → RowI V' (.slice XA lx cx) X) := fun V' hX => hx.below (B1.trans (hX.mono B1.size))
  have HY : Hid (∀ V', Below V.heap.size V V' → RowI V' (.slice YA ly cy) Y) := fun V' hX => hy.below (B1.trans (hX.mono B1.size))
  have HZ : Hid (∀ V', Below V.heap.size V V' → RowI V' (.slice ZA lz cz) Z) := fun V' hX => hz.below (B1.trans (hX.mono B1.size))
  have HWV : Hid (∀ X, Below V.heap.size V X → Below W.heap.size W X) := fun X hX => B1.trans (hX.mono B1.size)
  have HSB := Lib.hid hS
  have HAB := Lib.hid hA
  clear ht hx hy hz hS hA ho1 B1 i1 hN hV
  go_enter Try.func5, Try.ntmps5
  go_wp2_with fail
  rw [HV.out]
  try rw [HN.out]
  refine (does_any V).mono ?_
  rintro e W1 ⟨rfl, b1⟩
  have G1 := Lib.hid b1
  clear b1
  obtain ⟨n0, n1, n2, n3, n4, n5, n6, n7, n8, n17⟩ := KC.out W1 G1.out
  have HSA := Lib.hid (small_any n x _ 6 W1 (HT.out W1 G1.out) (by decide))
  go_wp2_with fail
  refine HSA.out.mono ?_
  rintro e W2 ⟨⟨sa, rfl, hsa⟩, b2⟩
  have G2 := Lib.hid (G1.out.trans (b2.mono G1.out.size))
  clear b2 HSA n0 n1 n2 n3 n4 n5 n6 n7 n8 n17
  cases sa with
  | false =>
    go_wp2_with fail
    refine (does_any W2).mono ?_
    rintro e W3 ⟨rfl, b3⟩
    have G3 := Lib.hid (HWV.out _ (G2.out.trans (b3.mono G2.out.size)))
    clear b3
    go_wp2
    go_ret
    exact ⟨rfl, G3.out⟩
  | true =>
    have SA := Lib.hid (hsa rfl)
    clear hsa
    obtain ⟨n0, n1, n2, n3, n4, n5, n6, n7, n8, n17⟩ := KC.out W2 G2.out
    go_wp2_with fail
    · refine (does_any W2).mono ?_
      rintro e W3 ⟨rfl, b3⟩
      have G3 := Lib.hid (HWV.out _ (G2.out.trans (b3.mono G2.out.size)))
      clear b3
      go_wp2
      go_ret
      exact ⟨rfl, G3.out⟩
    refine (ways_any a HAB.out W2).mono ?_
    rintro e W3 ⟨o, rfl, hw, b3⟩
    have G3 := Lib.hid (G2.out.trans (b3.mono G2.out.size))
    clear b3
    have HWO := Lib.hid hw
    clear hw
    have KC3 : Hid (∀ X, Below W3.heap.size W3 X → X.cell? ⟨N, 0, none⟩ = some (.int .i64 k) ∧ X.cell? ⟨N, 1, none⟩ = some (.string nm) ∧ X.cell? ⟨N, 2, none⟩ = some (.bool u) ∧ X.cell? ⟨N, 3, none⟩ = some (.int .i64 r) ∧ X.cell? ⟨N, 4, none⟩ = some (.slice R lr cr) ∧ X.cell? ⟨N, 5, none⟩ = some (.slice A la ca) ∧ X.cell? ⟨N, 6, none⟩ = some (.slice XA lx cx) ∧ X.cell? ⟨N, 7, none⟩ = some (.slice YA ly cy) ∧ X.cell? ⟨N, 8, none⟩ = some (.slice ZA lz cz) ∧ X.cell? ⟨N, 17, none⟩ = some (.int .u64 (a : Int))) := fun X hX => KC.out X (G3.out.trans (hX.mono G3.out.size))
    have HSE3 : Hid (∀ X, Below W3.heap.size W3 X → SetsAt X N 9 S) := fun X hX => HSE.out X (G3.out.trans (hX.mono G3.out.size))
    have HT3 : Hid (TyAt W3 n x [.int .i64 k, .string nm, .bool u, .int .i64 r, .slice R lr cr, .slice A la ca]) := HT.out W3 G3.out
    have HX3 : Hid (∀ X', Below W3.heap.size W3 X' → RowI X' (.slice XA lx cx) X) := fun X' hX => HX.out X' (G3.out.trans (hX.mono G3.out.size))
    have HY3 : Hid (∀ X', Below W3.heap.size W3 X' → RowI X' (.slice YA ly cy) Y) := fun X' hX => HY.out X' (G3.out.trans (hX.mono G3.out.size))
    have HWV3 : Hid (∀ X, Below W3.heap.size W3 X → Below W.heap.size W X) := fun X hX => HWV.out X (G3.out.trans (hX.mono G3.out.size))
    clear n0 n1 n2 n3 n4 n5 n6 n7 n8 n17 KC HSE HT HX HY HZ HWV HV G1
    obtain ⟨n0, n1, n2, n3, n4, n5, n6, n7, n8, n17⟩ := KC3.out W3 (.refl _ _)
    have ST0 : Hid (Stt W3 n (fun _ => none) [] W3) := Stt.start (.refl _ _)
    have hdr : W3.drew.heap.size = W3.heap.size := rfl
    have HRX : Hid (∀ W3', Below W3.heap.size W3 W3' → Calls Try.prog 11 #[.agg #[.int .i64 k, .string nm, .bool u, .int .i64 r, .slice R lr cr, .slice A la ca], .slice XA lx cx] W3' fun e W' => ∃ ds : List Value, e = .returned (.agg ds.toArray) ∧ TyAt (only (qW W3.heap.size W3'.heap.size) W') n (withP x (regsOf X (allP x).length)) ds ∧ Below W3'.heap.size W3' W') := fun W3' hV => regions_at (HT3.out) hV SA.out (HX3.out W3' hV)
    have HRY : Hid (∀ W3', Below W3.heap.size W3 W3' → Calls Try.prog 11 #[.agg #[.int .i64 k, .string nm, .bool u, .int .i64 r, .slice R lr cr, .slice A la ca], .slice YA ly cy] W3' fun e W' => ∃ ds : List Value, e = .returned (.agg ds.toArray) ∧ TyAt (only (qW W3.heap.size W3'.heap.size) W') n (withP x (regsOf Y (allP x).length)) ds ∧ Below W3'.heap.size W3' W') := fun W3' hV => regions_at (HT3.out) hV SA.out (HY3.out W3' hV)
    obtain ⟨ya, hya⟩ : ∃ y, withP x (regsOf X (allP x).length) = y := ⟨_, rfl⟩
    obtain ⟨yb, hyb⟩ : ∃ y, withP x (regsOf Y (allP x).length) = y := ⟨_, rfl⟩
    have HYA := Lib.hid hya
    have HYB := Lib.hid hyb
    rw [hya] at HRX
    rw [hyb] at HRY
    clear hya hyb
    go_upto_region 4 with fail
    go_cut [4, 5] (fun s5 s6 wx => Two W3 n ya yb s5 s6 wx)
    case first =>
      go_region_held3 (fun X => X.cell? ⟨N, 0, none⟩ = some (.int .i64 k) ∧ X.cell? ⟨N, 1, none⟩ = some (.string nm) ∧ X.cell? ⟨N, 2, none⟩ = some (.bool u) ∧ X.cell? ⟨N, 3, none⟩ = some (.int .i64 r) ∧ X.cell? ⟨N, 4, none⟩ = some (.slice R lr cr) ∧ X.cell? ⟨N, 5, none⟩ = some (.slice A la ca) ∧ X.cell? ⟨N, 6, none⟩ = some (.slice XA lx cx) ∧ X.cell? ⟨N, 7, none⟩ = some (.slice YA ly cy) ∧ X.cell? ⟨N, 8, none⟩ = some (.slice ZA lz cz) ∧ X.cell? ⟨N, 17, none⟩ = some (.int .u64 (a : Int)))
        ((refine KC3.out _ ?_; apply Stt.bel; (repeat (first | (with_reducible exact ST2.out) | (with_reducible exact ST1.out) | (with_reducible exact ST0.out) | (with_reducible apply Stt.drew) | (with_reducible apply Stt.alloc) | (with_reducible apply Stt.put) | ((with_reducible apply updC_at); (first | (with_reducible rfl) | (with_reducible exact hdr.symm) | (with_reducible exact (size_al _ _).symm) | (with_reducible exact (size_set6 _ _ _ _ _ _ _ _ _ _ _ _ _).symm) | (rw [size_al, hdr]) | (rw [size_al]; done))) | ((with_reducible apply updC_on); (first | omega | (rw [size_al]; omega) | (rw [size_al, hdr]; omega) | (rw [hdr]; omega) | (rw [size_al, size_al]; omega) | (rw [size_set6]; omega) | (rw [size_set6, size_al]; omega)))))))
        (first
          | (go_at_call 11; (with_reducible apply call_stt (HR := HRY.out)); (repeat (first | (with_reducible exact ST1.out) | (with_reducible apply Stt.drew) | (with_reducible apply Stt.alloc) | (with_reducible apply Stt.put) | ((with_reducible apply updC_at); (first | (with_reducible rfl) | (with_reducible exact hdr.symm) | (with_reducible exact (size_al _ _).symm) | (with_reducible exact (size_set6 _ _ _ _ _ _ _ _ _ _ _ _ _).symm) | (rw [size_al, hdr]) | (rw [size_al]; done))) | ((with_reducible apply updC_on); (first | omega | (rw [size_al]; omega) | (rw [size_al, hdr]; omega) | (rw [hdr]; omega) | (rw [size_al, size_al]; omega) | (rw [size_set6]; omega) | (rw [size_set6, size_al]; omega))))); intro k2 nm2 u2 r2 R2 lr2 cr2 A2 la2 ca2 W7 hz2 st; (try simp at hz2); (try (refine Stt.got st (W3.heap.size) [.int .i64 0, .string ⟨#[]⟩, .bool false, .int .i64 0, .slice none 0 0, .slice none 0 0] _ ?_ ?_; (repeat (first | ((with_reducible apply updC_at); (first | (with_reducible rfl) | (with_reducible exact hdr.symm) | (with_reducible exact (size_al _ _).symm) | (with_reducible exact (size_set6 _ _ _ _ _ _ _ _ _ _ _ _ _).symm) | (rw [size_al, hdr]) | (rw [size_al]; done))) | ((with_reducible apply updC_on); (first | omega | (rw [size_al]; omega) | (rw [size_al, hdr]; omega) | (rw [hdr]; omega) | (rw [size_al, size_al]; omega) | (rw [size_set6]; omega) | (rw [size_set6, size_al]; omega))))); intro vv; have ff : ∀ i, W7.frozen? ⟨W3.heap.size, i, none⟩ = false := fun i => vv.free i; have vlt := vv.lt; have vne : (W3.heap.size : Nat) ≠ W7.heap.size := Nat.ne_of_lt vlt; have vc0 := vv.at_ 0; have vc1 := vv.at_ 1; have vc2 := vv.at_ 2; have vc3 := vv.at_ 3; have vc4 := vv.at_ 4; have vc5 := vv.at_ 5; simp only [List.getElem?_toArray, List.getElem?_cons_zero, List.getElem?_cons_succ] at vc0 vc1 vc2 vc3 vc4 vc5; have vw := vv.alloc (.cells #[.int .i64 0, .string ⟨#[]⟩, .bool false, .int .i64 0, .slice none 0 0, .slice none 0 0] 25); have fg : ∀ i, (W7.alloc (.cells #[.int .i64 0, .string ⟨#[]⟩, .bool false, .int .i64 0, .slice none 0 0, .slice none 0 0] 25)).frozen? ⟨W3.heap.size, i, none⟩ = false := fun i => vw.free i; have vd0 := vw.at_ 0; have vd1 := vw.at_ 1; have vd2 := vw.at_ 2; have vd3 := vw.at_ 3; have vd4 := vw.at_ 4; have vd5 := vw.at_ 5; simp only [List.getElem?_toArray, List.getElem?_cons_zero, List.getElem?_cons_succ] at vd0 vd1 vd2 vd3 vd4 vd5; clear vw vv)); (try (refine Stt.got st (W3.heap.size + 1) [.int .i64 0, .string ⟨#[]⟩, .bool false, .int .i64 0, .slice none 0 0, .slice none 0 0] _ ?_ ?_; (repeat (first | ((with_reducible apply updC_at); (first | (with_reducible rfl) | (with_reducible exact hdr.symm) | (with_reducible exact (size_al _ _).symm) | (with_reducible exact (size_set6 _ _ _ _ _ _ _ _ _ _ _ _ _).symm) | (rw [size_al, hdr]) | (rw [size_al]; done))) | ((with_reducible apply updC_on); (first | omega | (rw [size_al]; omega) | (rw [size_al, hdr]; omega) | (rw [hdr]; omega) | (rw [size_al, size_al]; omega) | (rw [size_set6]; omega) | (rw [size_set6, size_al]; omega))))); intro vv; have ff : ∀ i, W7.frozen? ⟨W3.heap.size + 1, i, none⟩ = false := fun i => vv.free i; have vlt := vv.lt; have vne : (W3.heap.size + 1 : Nat) ≠ W7.heap.size := Nat.ne_of_lt vlt; have vc0 := vv.at_ 0; have vc1 := vv.at_ 1; have vc2 := vv.at_ 2; have vc3 := vv.at_ 3; have vc4 := vv.at_ 4; have vc5 := vv.at_ 5; simp only [List.getElem?_toArray, List.getElem?_cons_zero, List.getElem?_cons_succ] at vc0 vc1 vc2 vc3 vc4 vc5; have vw := vv.alloc (.cells #[.int .i64 0, .string ⟨#[]⟩, .bool false, .int .i64 0, .slice none 0 0, .slice none 0 0] 25); have fg : ∀ i, (W7.alloc (.cells #[.int .i64 0, .string ⟨#[]⟩, .bool false, .int .i64 0, .slice none 0 0, .slice none 0 0] 25)).frozen? ⟨W3.heap.size + 1, i, none⟩ = false := fun i => vw.free i; have vd0 := vw.at_ 0; have vd1 := vw.at_ 1; have vd2 := vw.at_ 2; have vd3 := vw.at_ 3; have vd4 := vw.at_ 4; have vd5 := vw.at_ 5; simp only [List.getElem?_toArray, List.getElem?_cons_zero, List.getElem?_cons_succ] at vd0 vd1 vd2 vd3 vd4 vd5; clear vw vv)); (try (refine Stt.got st (W6.heap.size) [.int .i64 0, .string ⟨#[]⟩, .bool false, .int .i64 0, .slice none 0 0, .slice none 0 0] _ ?_ ?_; (repeat (first | ((with_reducible apply updC_at); (first | (with_reducible rfl) | (with_reducible exact hdr.symm) | (with_reducible exact (size_al _ _).symm) | (with_reducible exact (size_set6 _ _ _ _ _ _ _ _ _ _ _ _ _).symm) | (rw [size_al, hdr]) | (rw [size_al]; done))) | ((with_reducible apply updC_on); (first | omega | (rw [size_al]; omega) | (rw [size_al, hdr]; omega) | (rw [hdr]; omega) | (rw [size_al, size_al]; omega) | (rw [size_set6]; omega) | (rw [size_set6, size_al]; omega))))); intro vv; have ff : ∀ i, W7.frozen? ⟨W6.heap.size, i, none⟩ = false := fun i => vv.free i; have vlt := vv.lt; have vne : (W6.heap.size : Nat) ≠ W7.heap.size := Nat.ne_of_lt vlt; have vc0 := vv.at_ 0; have vc1 := vv.at_ 1; have vc2 := vv.at_ 2; have vc3 := vv.at_ 3; have vc4 := vv.at_ 4; have vc5 := vv.at_ 5; simp only [List.getElem?_toArray, List.getElem?_cons_zero, List.getElem?_cons_succ] at vc0 vc1 vc2 vc3 vc4 vc5; have vw := vv.alloc (.cells #[.int .i64 0, .string ⟨#[]⟩, .bool false, .int .i64 0, .slice none 0 0, .slice none 0 0] 25); have fg : ∀ i, (W7.alloc (.cells #[.int .i64 0, .string ⟨#[]⟩, .bool false, .int .i64 0, .slice none 0 0, .slice none 0 0] 25)).frozen? ⟨W6.heap.size, i, none⟩ = false := fun i => vw.free i; have vd0 := vw.at_ 0; have vd1 := vw.at_ 1; have vd2 := vw.at_ 2; have vd3 := vw.at_ 3; have vd4 := vw.at_ 4; have vd5 := vw.at_ 5; simp only [List.getElem?_toArray, List.getElem?_cons_zero, List.getElem?_cons_succ] at vd0 vd1 vd2 vd3 vd4 vd5; clear vw vv)); (try (refine Stt.got st (W6.heap.size + 1) [.int .i64 0, .string ⟨#[]⟩, .bool false, .int .i64 0, .slice none 0 0, .slice none 0 0] _ ?_ ?_; (repeat (first | ((with_reducible apply updC_at); (first | (with_reducible rfl) | (with_reducible exact hdr.symm) | (with_reducible exact (size_al _ _).symm) | (with_reducible exact (size_set6 _ _ _ _ _ _ _ _ _ _ _ _ _).symm) | (rw [size_al, hdr]) | (rw [size_al]; done))) | ((with_reducible apply updC_on); (first | omega | (rw [size_al]; omega) | (rw [size_al, hdr]; omega) | (rw [hdr]; omega) | (rw [size_al, size_al]; omega) | (rw [size_set6]; omega) | (rw [size_set6, size_al]; omega))))); intro vv; have ff : ∀ i, W7.frozen? ⟨W6.heap.size + 1, i, none⟩ = false := fun i => vv.free i; have vlt := vv.lt; have vne : (W6.heap.size + 1 : Nat) ≠ W7.heap.size := Nat.ne_of_lt vlt; have vc0 := vv.at_ 0; have vc1 := vv.at_ 1; have vc2 := vv.at_ 2; have vc3 := vv.at_ 3; have vc4 := vv.at_ 4; have vc5 := vv.at_ 5; simp only [List.getElem?_toArray, List.getElem?_cons_zero, List.getElem?_cons_succ] at vc0 vc1 vc2 vc3 vc4 vc5; have vw := vv.alloc (.cells #[.int .i64 0, .string ⟨#[]⟩, .bool false, .int .i64 0, .slice none 0 0, .slice none 0 0] 25); have fg : ∀ i, (W7.alloc (.cells #[.int .i64 0, .string ⟨#[]⟩, .bool false, .int .i64 0, .slice none 0 0, .slice none 0 0] 25)).frozen? ⟨W6.heap.size + 1, i, none⟩ = false := fun i => vw.free i; have vd0 := vw.at_ 0; have vd1 := vw.at_ 1; have vd2 := vw.at_ 2; have vd3 := vw.at_ 3; have vd4 := vw.at_ 4; have vd5 := vw.at_ 5; simp only [List.getElem?_toArray, List.getElem?_cons_zero, List.getElem?_cons_succ] at vd0 vd1 vd2 vd3 vd4 vd5; clear vw vv)); have ST2 := Lib.hid st; clear st)
          | (go_at_call 11; (with_reducible apply call_stt (HR := HRX.out)); (repeat (first | (with_reducible exact ST0.out) | (with_reducible apply Stt.drew) | (with_reducible apply Stt.alloc) | (with_reducible apply Stt.put) | ((with_reducible apply updC_at); (first | (with_reducible rfl) | (with_reducible exact hdr.symm) | (with_reducible exact (size_al _ _).symm) | (with_reducible exact (size_set6 _ _ _ _ _ _ _ _ _ _ _ _ _).symm) | (rw [size_al, hdr]) | (rw [size_al]; done))) | ((with_reducible apply updC_on); (first | omega | (rw [size_al]; omega) | (rw [size_al, hdr]; omega) | (rw [hdr]; omega) | (rw [size_al, size_al]; omega) | (rw [size_set6]; omega) | (rw [size_set6, size_al]; omega))))); intro k1 nm1 u1 r1 R1 lr1 cr1 A1 la1 ca1 W6 hz1 st; (try simp at hz1); (try (refine Stt.got st (W3.heap.size) [.int .i64 0, .string ⟨#[]⟩, .bool false, .int .i64 0, .slice none 0 0, .slice none 0 0] _ ?_ ?_; (repeat (first | ((with_reducible apply updC_at); (first | (with_reducible rfl) | (with_reducible exact hdr.symm) | (with_reducible exact (size_al _ _).symm) | (with_reducible exact (size_set6 _ _ _ _ _ _ _ _ _ _ _ _ _).symm) | (rw [size_al, hdr]) | (rw [size_al]; done))) | ((with_reducible apply updC_on); (first | omega | (rw [size_al]; omega) | (rw [size_al, hdr]; omega) | (rw [hdr]; omega) | (rw [size_al, size_al]; omega) | (rw [size_set6]; omega) | (rw [size_set6, size_al]; omega))))); intro vv; have ff : ∀ i, W6.frozen? ⟨W3.heap.size, i, none⟩ = false := fun i => vv.free i; have vlt := vv.lt; have vne : (W3.heap.size : Nat) ≠ W6.heap.size := Nat.ne_of_lt vlt; have vc0 := vv.at_ 0; have vc1 := vv.at_ 1; have vc2 := vv.at_ 2; have vc3 := vv.at_ 3; have vc4 := vv.at_ 4; have vc5 := vv.at_ 5; simp only [List.getElem?_toArray, List.getElem?_cons_zero, List.getElem?_cons_succ] at vc0 vc1 vc2 vc3 vc4 vc5; have vw := vv.alloc (.cells #[.int .i64 0, .string ⟨#[]⟩, .bool false, .int .i64 0, .slice none 0 0, .slice none 0 0] 25); have fg : ∀ i, (W6.alloc (.cells #[.int .i64 0, .string ⟨#[]⟩, .bool false, .int .i64 0, .slice none 0 0, .slice none 0 0] 25)).frozen? ⟨W3.heap.size, i, none⟩ = false := fun i => vw.free i; have vd0 := vw.at_ 0; have vd1 := vw.at_ 1; have vd2 := vw.at_ 2; have vd3 := vw.at_ 3; have vd4 := vw.at_ 4; have vd5 := vw.at_ 5; simp only [List.getElem?_toArray, List.getElem?_cons_zero, List.getElem?_cons_succ] at vd0 vd1 vd2 vd3 vd4 vd5; clear vw vv)); (try (refine Stt.got st (W3.heap.size + 1) [.int .i64 0, .string ⟨#[]⟩, .bool false, .int .i64 0, .slice none 0 0, .slice none 0 0] _ ?_ ?_; (repeat (first | ((with_reducible apply updC_at); (first | (with_reducible rfl) | (with_reducible exact hdr.symm) | (with_reducible exact (size_al _ _).symm) | (with_reducible exact (size_set6 _ _ _ _ _ _ _ _ _ _ _ _ _).symm) | (rw [size_al, hdr]) | (rw [size_al]; done))) | ((with_reducible apply updC_on); (first | omega | (rw [size_al]; omega) | (rw [size_al, hdr]; omega) | (rw [hdr]; omega) | (rw [size_al, size_al]; omega) | (rw [size_set6]; omega) | (rw [size_set6, size_al]; omega))))); intro vv; have ff : ∀ i, W6.frozen? ⟨W3.heap.size + 1, i, none⟩ = false := fun i => vv.free i; have vlt := vv.lt; have vne : (W3.heap.size + 1 : Nat) ≠ W6.heap.size := Nat.ne_of_lt vlt; have vc0 := vv.at_ 0; have vc1 := vv.at_ 1; have vc2 := vv.at_ 2; have vc3 := vv.at_ 3; have vc4 := vv.at_ 4; have vc5 := vv.at_ 5; simp only [List.getElem?_toArray, List.getElem?_cons_zero, List.getElem?_cons_succ] at vc0 vc1 vc2 vc3 vc4 vc5; have vw := vv.alloc (.cells #[.int .i64 0, .string ⟨#[]⟩, .bool false, .int .i64 0, .slice none 0 0, .slice none 0 0] 25); have fg : ∀ i, (W6.alloc (.cells #[.int .i64 0, .string ⟨#[]⟩, .bool false, .int .i64 0, .slice none 0 0, .slice none 0 0] 25)).frozen? ⟨W3.heap.size + 1, i, none⟩ = false := fun i => vw.free i; have vd0 := vw.at_ 0; have vd1 := vw.at_ 1; have vd2 := vw.at_ 2; have vd3 := vw.at_ 3; have vd4 := vw.at_ 4; have vd5 := vw.at_ 5; simp only [List.getElem?_toArray, List.getElem?_cons_zero, List.getElem?_cons_succ] at vd0 vd1 vd2 vd3 vd4 vd5; clear vw vv)); have ST1 := Lib.hid st; clear st))
      all_goals
        go_wp2_with fail
        go_meet
        apply Stt.two
        (repeat (first | (with_reducible exact List.mem_cons_self) | (with_reducible apply List.mem_cons_of_mem) | (with_reducible exact ST2.out) | (with_reducible exact ST1.out) | (with_reducible exact ST0.out) | (with_reducible apply Stt.drew) | (with_reducible apply Stt.alloc) | (with_reducible apply Stt.put) | ((with_reducible apply updC_at); (first | (with_reducible rfl) | (with_reducible exact hdr.symm) | (with_reducible exact (size_al _ _).symm) | (with_reducible exact (size_set6 _ _ _ _ _ _ _ _ _ _ _ _ _).symm) | (rw [size_al, hdr]) | (rw [size_al]; done))) | ((with_reducible apply updC_on); (first | omega | (rw [size_al]; omega) | (rw [size_al, hdr]; omega) | (rw [hdr]; omega) | (rw [size_al, size_al]; omega) | (rw [size_set6]; omega) | (rw [size_set6, size_al]; omega)))))
    case rest =>
      obtain ⟨p, q, d1, d2, rfl, rfl, hb, ⟨hi1, ht1⟩, hi2, ht2⟩ := hcut
      obtain ⟨k1, nm1, u1, r1, R1, lr1, cr1, A1, la1, ca1, rfl⟩ := ht1.shape
      obtain ⟨k2, nm2, u2, r2, R2, lr2, cr2, A2, la2, ca2, rfl⟩ := ht2.shape
      have GB := Lib.hid hb
      have HCC : Hid (∀ X, Below wc.heap.size wc X → X.cell? ⟨N, 17, none⟩ = some (.int .u64 (a : Int)) ∧ X.cell? ⟨p, 0, none⟩ = some (.int .i64 k1) ∧ X.cell? ⟨p, 1, none⟩ = some (.string nm1) ∧ X.cell? ⟨p, 2, none⟩ = some (.bool u1) ∧ X.cell? ⟨p, 3, none⟩ = some (.int .i64 r1) ∧ X.cell? ⟨p, 4, none⟩ = some (.slice R1 lr1 cr1) ∧ X.cell? ⟨p, 5, none⟩ = some (.slice A1 la1 ca1) ∧ X.cell? ⟨q, 0, none⟩ = some (.int .i64 k2) ∧ X.cell? ⟨q, 1, none⟩ = some (.string nm2) ∧ X.cell? ⟨q, 2, none⟩ = some (.bool u2) ∧ X.cell? ⟨q, 3, none⟩ = some (.int .i64 r2) ∧ X.cell? ⟨q, 4, none⟩ = some (.slice R2 lr2 cr2) ∧ X.cell? ⟨q, 5, none⟩ = some (.slice A2 la2 ca2)) := by
        intro X hX
        have j1 := hi1.below hX hi1.lt
        have j2 := hi2.below hX hi2.lt
        exact ⟨(KC3.out X (GB.out.trans (hX.mono GB.out.size))).2.2.2.2.2.2.2.2.2, j1.at_ 0, j1.at_ 1, j1.at_ 2, j1.at_ 3, j1.at_ 4, j1.at_ 5, j2.at_ 0, j2.at_ 1, j2.at_ 2, j2.at_ 3, j2.at_ 4, j2.at_ 5⟩
      have HT1 : Hid (∀ X, Below wc.heap.size wc X → TyAt X n ya [.int .i64 k1, .string nm1, .bool u1, .int .i64 r1, .slice R1 lr1 cr1, .slice A1 la1 ca1]) := fun X hX => TyAt.below hX _ _ _ ht1
      have HT2 : Hid (∀ X, Below wc.heap.size wc X → TyAt X n yb [.int .i64 k2, .string nm2, .bool u2, .int .i64 r2, .slice R2 lr2 cr2, .slice A2 la2 ca2]) := fun X hX => TyAt.below hX _ _ _ ht2
      have RA : Hid (Reg x ya X) := by rw [← HYA.out]; exact reg_of x X
      have RB : Hid (Reg x yb Y) := by rw [← HYB.out]; exact reg_of x Y
      have HS : Hid (sameP ya yb = true) := reg_same RA.out RB.out
      have HS' : Hid (sameP yb ya = true) := reg_same RB.out RA.out
      have HVC : Hid (∀ X, Below wc.heap.size wc X → Below W3.heap.size W3 X) := fun X hX => GB.out.trans (hX.mono GB.out.size)
      have HWC := Lib.hid (HWO.out.below GB.out)
      clear HWO
      have HWO := HWC
      clear HWC
      have G6 : Hid (Below wc.heap.size wc wc) := .refl _ _
      obtain ⟨n17, pc0, pc1, pc2, pc3, pc4, pc5, qc0, qc1, qc2, qc3, qc4, qc5⟩ := HCC.out wc (.refl _ _)
      clear hb hi1 ht1 hi2 ht2 HYA HYB HRX HRY HX3 HY3 HT3 ST0 hdr G2 G3
      go_wp2_with fail
      refine (pairs_any (HT1.out _ G6.out) (HT2.out _ G6.out) (HWO.out.below G6.out) (waysOf_few a) (RA.out.big SA.out)).mono ?_
      rintro e W7 ⟨⟨pv, rfl, hr⟩, b⟩
      have HP10 := Lib.hid hr
      have G7 := Lib.hid (G6.out.trans (b.mono G6.out.size))
      clear hr b
      have HP1 : Hid (RowP W7 pv (lookP (waysOf a) ya yb 1)) := by
        have := HP10.out
        rw [HS.out, if_pos rfl] at this
        exact this
      rw [HS.out]
      clear HP10
      clear n17 pc0 pc1 pc2 pc3 pc4 pc5 qc0 qc1 qc2 qc3 qc4 qc5
      obtain ⟨n17, pc0, pc1, pc2, pc3, pc4, pc5, qc0, qc1, qc2, qc3, qc4, qc5⟩ := HCC.out W7 G7.out
      go_wp2_with fail
      refine (pairs_any (HT2.out _ G7.out) (HT1.out _ G7.out) (HWO.out.below G7.out) (waysOf_few a) (RB.out.big SA.out)).mono ?_
      rintro e W8 ⟨⟨pw, rfl, hr⟩, b⟩
      have E8 := Lib.hid b
      have HP20 := Lib.hid hr
      have G8 := Lib.hid (G7.out.trans (b.mono G7.out.size))
      clear hr b
      have HP2 : Hid (RowP W8 pw (lookP (waysOf a) yb ya 1)) := by
        have := HP20.out
        rw [HS'.out, if_pos rfl] at this
        exact this
      rw [HS'.out]
      clear HP20
      clear n17 pc0 pc1 pc2 pc3 pc4 pc5 qc0 qc1 qc2 qc3 qc4 qc5
      obtain ⟨n17, pc0, pc1, pc2, pc3, pc4, pc5, qc0, qc1, qc2, qc3, qc4, qc5⟩ := HCC.out W8 G8.out
      go_wp2_with fail
      refine (both_any (HT1.out _ G8.out) (HT2.out _ G8.out) (HWO.out.below G8.out) (waysOf_few a) (RA.out.big SA.out)).mono ?_
      rintro e W9 ⟨⟨pu, rfl, hr⟩, b⟩
      have E9 := Lib.hid b
      have HP30 := Lib.hid hr
      have G9 := Lib.hid (G8.out.trans (b.mono G8.out.size))
      clear hr b
      have HP3 : Hid (RowP W9 pu (lookP (waysOf a) ya yb 3)) := by
        have := HP30.out
        rw [HS.out, if_pos rfl] at this
        exact this
      rw [HS.out]
      clear HP30
      clear n17 pc0 pc1 pc2 pc3 pc4 pc5 qc0 qc1 qc2 qc3 qc4 qc5
      obtain ⟨n17, pc0, pc1, pc2, pc3, pc4, pc5, qc0, qc1, qc2, qc3, qc4, qc5⟩ := HCC.out W9 G9.out
      have HP2 := Lib.hid (HP2.out.below E9.out)
      have HP1 := Lib.hid ((HP1.out.below E8.out).below E9.out)
      have HM := Lib.hid (reg_both RA.out RB.out S a)
      obtain ⟨m1, hm1⟩ : ∃ b, outB S (lookP (waysOf a) ya yb 1) = b := ⟨_, rfl⟩
      obtain ⟨m2, hm2⟩ : ∃ b, outB S (lookP (waysOf a) yb ya 1) = b := ⟨_, rfl⟩
      obtain ⟨m3, hm3⟩ : ∃ b, outB S (lookP (waysOf a) ya yb 3) = b := ⟨_, rfl⟩
      have HO1 : Hid (∀ q, Calls Try.prog 12 #[pv, .slice (some ⟨N, 9, none⟩) 8 8] (W9.drewN q) fun e W' => e = .returned (.bool m1) ∧ ∃ m, W' = W9.drewN m) := fun q => by
        have hX : Below W9.heap.size W9 (W9.drewN q) := by
          have r := Below.refl W9.heap.size W9
          exact ⟨r.os, r.tape, r.output, r.size, r.block⟩
        rw [← hm1]
        exact Calls.quiet_of (outlive_quiet (HP1.out.below hX) (HSE3.out _ (HVC.out _ (G9.out.trans (hX.mono G9.out.size)))) (reg_in RA.out RB.out (waysOf a) 1))
      have HO2 : Hid (∀ q, Calls Try.prog 12 #[pw, .slice (some ⟨N, 9, none⟩) 8 8] (W9.drewN q) fun e W' => e = .returned (.bool m2) ∧ ∃ m, W' = W9.drewN m) := fun q => by
        have hX : Below W9.heap.size W9 (W9.drewN q) := by
          have r := Below.refl W9.heap.size W9
          exact ⟨r.os, r.tape, r.output, r.size, r.block⟩
        rw [← hm2]
        exact Calls.quiet_of (outlive_quiet (HP2.out.below hX) (HSE3.out _ (HVC.out _ (G9.out.trans (hX.mono G9.out.size)))) (reg_in RB.out RA.out (waysOf a) 1))
      have HO3 : Hid (∀ q, Calls Try.prog 12 #[pu, .slice (some ⟨N, 9, none⟩) 8 8] (W9.drewN q) fun e W' => e = .returned (.bool m3) ∧ ∃ m, W' = W9.drewN m) := fun q => by
        have hX : Below W9.heap.size W9 (W9.drewN q) := by
          have r := Below.refl W9.heap.size W9
          exact ⟨r.os, r.tape, r.output, r.size, r.block⟩
        rw [← hm3]
        exact Calls.quiet_of (outlive_quiet (HP3.out.below hX) (HSE3.out _ (HVC.out _ (G9.out.trans (hX.mono G9.out.size)))) (reg_in RA.out RB.out (waysOf a) 3))
      rw [hm1, hm2, hm3] at HM
      have HG : Hid (∀ X, Below W9.heap.size W9 X → Below W.heap.size W X) := fun X hX => HWV3.out X (HVC.out X (G9.out.trans (hX.mono G9.out.size)))
      have KC9 : Hid (∀ X, Below W9.heap.size W9 X → X.cell? ⟨N, 17, none⟩ = some (.int .u64 (a : Int))) := fun X hX => (HCC.out X (G9.out.trans (hX.mono G9.out.size))).1
      clear hm1 hm2 hm3 HP1 HP2 HP3 E8 E9 HCC HT1 HT2 G6 G7 G8 HWO HWV3 RA RB HS HS' GB HVC HSE3 KC3 HSB HAB SA
      have HM : m3 = (m1 && m2) := HM.out.symm
      subst HM
      have GD := Lib.hid (bel_drew (Below.refl W9.heap.size W9))
      cases m1
      · rw [show (false && m2) = false from rfl] at HO3
        go_wp2_with fail
        go_quiet ((go_at_call 12; first | (with_reducible exact HO3.out _) | (with_reducible exact HO1.out _)))
        have HB : Hid (∀ q, Below W.heap.size W (W9.drewN q)) := fun q => HG.out _ (by
          have r := Below.refl W9.heap.size W9
          exact ⟨r.os, r.tape, r.output, r.size, r.block⟩)
        go_wp2
        go_ret
        exact ⟨rfl, HB.out _⟩
      · rw [show (true && m2) = m2 from rfl] at HO3
        cases m2
        · go_wp2_with fail
          go_quiet ((go_at_call 12; first | (with_reducible exact HO3.out _) | (with_reducible exact HO2.out _) | (with_reducible exact HO1.out _)))
          have HB : Hid (∀ q, Below W.heap.size W (W9.drewN q)) := fun q => HG.out _ (by
            have r := Below.refl W9.heap.size W9
            exact ⟨r.os, r.tape, r.output, r.size, r.block⟩)
          go_wp2
          go_ret
          exact ⟨rfl, HB.out _⟩
        · go_wp2_with fail
          go_quiet ((go_at_call 12; first | (with_reducible exact HO3.out _) | (with_reducible exact HO2.out _) | (with_reducible exact HO1.out _)))
          have HB : Hid (∀ q, Below W.heap.size W (W9.drewN q)) := fun q => HG.out _ (by
            have r := Below.refl W9.heap.size W9
            exact ⟨r.os, r.tape, r.output, r.size, r.block⟩)
          go_wp2
          go_ret
          exact ⟨rfl, HB.out _⟩
end Sb
end Go.Proofs.Ytbbjlblljhipjaa

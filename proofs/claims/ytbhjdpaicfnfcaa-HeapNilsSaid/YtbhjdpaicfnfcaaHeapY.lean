/- Layer 13: what nil memory tells. -/
import Derived.Test.YtbhjdpaicfnfcaaHeapX
namespace Go.Proofs.Ytbhjdpaicfnfcaa
open Go.RowKit Go.Deep Tr
namespace Hp
set_option maxHeartbeats 8000000
set_option maxRecDepth 100000
theorem take_none {w : World} {hp : Option Addr} {al : Int} {A : Option Addr} {l c : Nat} {tg : Int} (h : NoUse w hp al A l c tg) :
    Calls Try.prog 16 #[.pointer hp, .agg #[.int .i64 al, .slice A l c, .int .i64 tg]] w fun e w' => e = .returned (.tuple #[.agg (leafC 0 0 0).toArray, .int .i64 1]) ∧ Below w.heap.size w w' := by
  obtain ⟨o1, ho1⟩ : ∃ o, Obj.cells #[.int .i64 al, .slice A l c, .int .i64 tg] 29 = o := ⟨_, rfl⟩
  obtain ⟨o2, ho2⟩ : ∃ o, Obj.cells #[.int .i64 0, .int .u64 0, .string ⟨#[]⟩, .slice none 0 0, .int .i64 0, .slice none 0 0, .int .i64 0] 34 = o := ⟨_, rfl⟩
  have B1 : Below w.heap.size w ((w.alloc o1).alloc o2) := ((Below.refl _ w).alloc (Nat.le_refl _) o1).alloc (by simp) o2
  have hN : (w.alloc o1).heap.size = w.heap.size + 1 := by simp
  have i1 : Is ((w.alloc o1).alloc o2) (w.heap.size + 1) 34 #[.int .i64 0, .int .u64 0, .string ⟨#[]⟩, .slice none 0 0, .int .i64 0, .slice none 0 0, .int .i64 0] := by rw [← ho2]; exact hN ▸ Is.made (w.alloc o1) _ _
  have HU := Lib.hid (whole_none (h.below B1) true)
  obtain ⟨V, hV⟩ : ∃ V, (w.alloc o1).alloc o2 = V := ⟨_, rfl⟩
  rw [hV] at B1 i1 HU
  have HV : Hid ((w.alloc (.cells #[.int .i64 al, .slice A l c, .int .i64 tg] 29)).alloc (.cells #[.int .i64 0, .int .u64 0, .string ⟨#[]⟩, .slice none 0 0, .int .i64 0, .slice none 0 0, .int .i64 0] 34) = V) := by rw [ho1, ho2]; exact hV
  have I1 := Lib.hid i1
  have HB := Lib.hid B1
  clear h ho1 ho2 hV B1 i1 hN
  go_enter Try.func16, Try.ntmps16
  go_wp2_with fail
  rw [HV.out]
  refine HU.out.mono ?_
  rintro e w2 ⟨rfl, h3⟩
  have hb2 : Below w.heap.size w w2 := HB.out.trans (h3.mono HB.out.size)
  have j1 := I1.out.below h3 I1.out.lt
  have r0 := j1.at_ 0
  have r1 := j1.at_ 1
  have r2 := j1.at_ 2
  have r3 := j1.at_ 3
  have r4 := j1.at_ 4
  have r5 := j1.at_ 5
  have r6 := j1.at_ 6
  have rf : ∀ i, w2.frozen? ⟨w.heap.size + 1, i, none⟩ = false := fun i => j1.free i
  simp at r0 r1 r2 r3 r4 r5 r6
  have HE := Lib.hid hb2
  clear h3 hb2 j1 HU
  go_wp2
  refine bodyPost_ret (v := .tuple #[.agg (leafC 0 0 0).toArray, .int .i64 1]) (by simp [results, Try.results16, go_sem, leafC, r0, r1, r2, r3, r4, r5, r6]) rfl ?_
  exact ⟨rfl, ((((((HE.out.setCell (Nat.le_succ _) _).setCell (Nat.le_succ _) _).setCell (Nat.le_succ _) _).setCell (Nat.le_succ _) _).setCell (Nat.le_succ _) _).setCell (Nat.le_succ _) _).setCell (Nat.le_succ _) _⟩
theorem borrow_none {w : World} {hp : Option Addr} {al : Int} {A : Option Addr} {l c : Nat} {tg : Int} (h : NoUse w hp al A l c tg) (uq : Bool) :
    Calls Try.prog 12 #[.pointer hp, .agg #[.int .i64 al, .slice A l c, .int .i64 tg], .bool uq] w fun e w' => e = .returned (.tuple #[.agg #[.int .i64 0, .slice none 0 0, .int .i64 0], .int .i64 1]) ∧ Below w.heap.size w w' := by
  obtain ⟨o1, ho1⟩ : ∃ o, Obj.cells #[.int .i64 al, .slice A l c, .int .i64 tg] 29 = o := ⟨_, rfl⟩
  obtain ⟨o2, ho2⟩ : ∃ o, Obj.cells #[.int .i64 0, .slice none 0 0, .int .i64 0] 29 = o := ⟨_, rfl⟩
  have B1 : Below w.heap.size w ((w.alloc o1).alloc o2) := ((Below.refl _ w).alloc (Nat.le_refl _) o1).alloc (by simp) o2
  have hN : (w.alloc o1).heap.size = w.heap.size + 1 := by simp
  have i1 : Is ((w.alloc o1).alloc o2) (w.heap.size + 1) 29 #[.int .i64 0, .slice none 0 0, .int .i64 0] := by rw [← ho2]; exact hN ▸ Is.made (w.alloc o1) _ _
  have HU := Lib.hid (whole_none (h.below B1) uq)
  obtain ⟨V, hV⟩ : ∃ V, (w.alloc o1).alloc o2 = V := ⟨_, rfl⟩
  rw [hV] at B1 i1 HU
  have HV : Hid ((w.alloc (.cells #[.int .i64 al, .slice A l c, .int .i64 tg] 29)).alloc (.cells #[.int .i64 0, .slice none 0 0, .int .i64 0] 29) = V) := by rw [ho1, ho2]; exact hV
  have I1 := Lib.hid i1
  have HB := Lib.hid B1
  clear h ho1 ho2 hV B1 i1 hN
  go_enter Try.func12, Try.ntmps12
  go_wp2_with fail
  rw [HV.out]
  refine HU.out.mono ?_
  rintro e w2 ⟨rfl, h3⟩
  have hb2 : Below w.heap.size w w2 := HB.out.trans (h3.mono HB.out.size)
  have j1 := I1.out.below h3 I1.out.lt
  have r0 := j1.at_ 0
  have r1 := j1.at_ 1
  have r2 := j1.at_ 2
  have rf : ∀ i, w2.frozen? ⟨w.heap.size + 1, i, none⟩ = false := fun i => j1.free i
  simp at r0 r1 r2
  have HE := Lib.hid hb2
  clear h3 hb2 j1 HU
  go_wp2
  refine bodyPost_ret (v := .tuple #[.agg #[.int .i64 0, .slice none 0 0, .int .i64 0], .int .i64 1]) (by simp [results, Try.results12, go_sem, r0, r1, r2]) rfl ?_
  exact ⟨rfl, ((HE.out.setCell (Nat.le_succ _) _).setCell (Nat.le_succ _) _).setCell (Nat.le_succ _) _⟩
theorem alloc_nil (w : World) (k n : Int) (nm : ByteArray) (P : Option Addr) (lp cp : Nat) (al : Int) (R : Option Addr) (lr cr : Nat) (tg : Int) : Calls Try.prog 9 #[.pointer none, .agg #[.int .i64 k, .int .u64 n, .string nm, .slice P lp cp, .int .i64 al, .slice R lr cr, .int .i64 tg]] w fun e w' => e = .returned (.tuple #[.agg #[.int .i64 0, .slice none 0 0, .int .i64 0], .bool false]) ∧ Below w.heap.size w w' := by
  obtain ⟨o1, ho1⟩ : ∃ o, Obj.cells #[.int .i64 k, .int .u64 n, .string nm, .slice P lp cp, .int .i64 al, .slice R lr cr, .int .i64 tg] 34 = o := ⟨_, rfl⟩
  obtain ⟨o2, ho2⟩ : ∃ o, Obj.cells #[.int .i64 0, .slice none 0 0, .int .i64 0] 29 = o := ⟨_, rfl⟩
  have B1 : Below w.heap.size w ((w.alloc o1).alloc o2) := ((Below.refl _ w).alloc (Nat.le_refl _) o1).alloc (by simp) o2
  have hN : (w.alloc o1).heap.size = w.heap.size + 1 := by simp
  have i1 : Is ((w.alloc o1).alloc o2) (w.heap.size + 1) 29 #[.int .i64 0, .slice none 0 0, .int .i64 0] := by rw [← ho2]; exact hN ▸ Is.made (w.alloc o1) _ _
  obtain ⟨V, hV⟩ : ∃ V, (w.alloc o1).alloc o2 = V := ⟨_, rfl⟩
  rw [hV] at B1 i1
  have HV : Hid ((w.alloc (.cells #[.int .i64 k, .int .u64 n, .string nm, .slice P lp cp, .int .i64 al, .slice R lr cr, .int .i64 tg] 34)).alloc (.cells #[.int .i64 0, .slice none 0 0, .int .i64 0] 29) = V) := by rw [ho1, ho2]; exact hV
  have I1 := Lib.hid i1
  have HB := Lib.hid B1
  clear ho1 ho2 hV B1 i1 hN
  go_enter Try.func9, Try.ntmps9
  go_wp2_with fail
  rw [HV.out]
  go_quiet (fail)
  rename_i nq
  obtain ⟨X, hX⟩ : ∃ X, V.drewN nq = X := ⟨_, rfl⟩
  rw [hX]
  have hXB : Below V.heap.size V X := by rw [← hX]; exact below_drewN _ _
  have j1 := I1.out.below hXB I1.out.lt
  have r0 := j1.at_ 0
  have r1 := j1.at_ 1
  have r2 := j1.at_ 2
  have rf : ∀ i, X.frozen? ⟨w.heap.size + 1, i, none⟩ = false := fun i => j1.free i
  simp at r0 r1 r2
  have HE := Lib.hid (HB.out.trans (hXB.mono HB.out.size))
  clear hX hXB j1
  go_wp2
  refine bodyPost_ret (v := .tuple #[.agg #[.int .i64 0, .slice none 0 0, .int .i64 0], .bool false]) (by simp [results, Try.results9, go_sem, r0, r1, r2]) rfl ?_
  exact ⟨rfl, ((HE.out.setCell (Nat.le_succ _) _).setCell (Nat.le_succ _) _).setCell (Nat.le_succ _) _⟩
theorem base_nil (w : World) (i : Int) : Calls Try.prog 20 #[.pointer none, .int .i64 i] w fun e w' => e = .returned (.tuple #[.agg #[.int .i64 0, .slice none 0 0, .int .i64 0], .int .i64 1]) ∧ Below w.heap.size w w' := by
  obtain ⟨V, hV⟩ : ∃ V, w.alloc (.cells #[.int .i64 0, .slice none 0 0, .int .i64 0] 29) = V := ⟨_, rfl⟩
  have B1 : Below w.heap.size w V := by rw [← hV]; exact (Below.refl _ w).alloc (Nat.le_refl _) _
  have i1 : Is V w.heap.size 29 #[.int .i64 0, .slice none 0 0, .int .i64 0] := by rw [← hV]; exact Is.made w _ _
  have HV := Lib.hid hV
  have r0 := i1.at_ 0
  have r1 := i1.at_ 1
  have r2 := i1.at_ 2
  have rf : ∀ i, V.frozen? ⟨w.heap.size, i, none⟩ = false := fun i => i1.free i
  simp at r0 r1 r2
  have HE := Lib.hid B1
  clear hV i1 B1
  go_enter Try.func20, Try.ntmps20
  go_wp2_with fail
  rw [HV.out]
  refine (find_nil _ _).mono ?_
  rintro e w1 ⟨rfl, rfl⟩
  go_wp2
  refine bodyPost_ret (v := .tuple #[.agg #[.int .i64 0, .slice none 0 0, .int .i64 0], .int .i64 1]) (by simp [results, Try.results20, go_sem, r0, r1, r2]) rfl ?_
  exact ⟨rfl, ((HE.out.setCell (Nat.le_refl _) _).setCell (Nat.le_refl _) _).setCell (Nat.le_refl _) _⟩
theorem stack_nil (w : World) (i : Int) : Calls Try.prog 23 #[.pointer none, .int .i64 i] w fun e w' => e = .returned (.slice none 0 0) ∧ w = w' := by
  go_enter Try.func23, Try.ntmps23
  go_wp2_with fail
  refine (find_nil _ _).mono ?_
  rintro e w1 ⟨rfl, rfl⟩
  go_wp2
  refine bodyPost_ret (v := .slice none 0 0) (by simp [results, Try.results23]) rfl ⟨rfl, rfl⟩
theorem peek_nil (w : World) (al : Int) (A : Option Addr) (l c : Nat) (tg : Int) : Calls Try.prog 21 #[.pointer none, .agg #[.int .i64 al, .slice A l c, .int .i64 tg]] w fun e w' => e = .returned (.tuple #[.agg (leafC 0 0 0).toArray, .int .i64 1]) ∧ Below w.heap.size w w' := by
  obtain ⟨o1, ho1⟩ : ∃ o, Obj.cells #[.int .i64 al, .slice A l c, .int .i64 tg] 29 = o := ⟨_, rfl⟩
  obtain ⟨o2, ho2⟩ : ∃ o, Obj.cells #[.int .i64 0, .int .u64 0, .string ⟨#[]⟩, .slice none 0 0, .int .i64 0, .slice none 0 0, .int .i64 0] 34 = o := ⟨_, rfl⟩
  have B1 : Below w.heap.size w ((w.alloc o1).alloc o2) := ((Below.refl _ w).alloc (Nat.le_refl _) o1).alloc (by simp) o2
  have hN : (w.alloc o1).heap.size = w.heap.size + 1 := by simp
  have j1 : Is ((w.alloc o1).alloc o2) (w.heap.size + 1) 34 #[.int .i64 0, .int .u64 0, .string ⟨#[]⟩, .slice none 0 0, .int .i64 0, .slice none 0 0, .int .i64 0] := by rw [← ho2]; exact hN ▸ Is.made (w.alloc o1) _ _
  obtain ⟨V, hV⟩ : ∃ V, (w.alloc o1).alloc o2 = V := ⟨_, rfl⟩
  rw [hV] at B1 j1
  have HV : Hid ((w.alloc (.cells #[.int .i64 al, .slice A l c, .int .i64 tg] 29)).alloc (.cells #[.int .i64 0, .int .u64 0, .string ⟨#[]⟩, .slice none 0 0, .int .i64 0, .slice none 0 0, .int .i64 0] 34) = V) := by rw [ho1, ho2]; exact hV
  have HE := Lib.hid B1
  have r0 := j1.at_ 0
  have r1 := j1.at_ 1
  have r2 := j1.at_ 2
  have r3 := j1.at_ 3
  have r4 := j1.at_ 4
  have r5 := j1.at_ 5
  have r6 := j1.at_ 6
  have rf : ∀ i, V.frozen? ⟨w.heap.size + 1, i, none⟩ = false := fun i => j1.free i
  simp at r0 r1 r2 r3 r4 r5 r6
  clear ho1 ho2 hV B1 j1 hN
  go_enter Try.func21, Try.ntmps21
  go_wp2_with fail
  rw [HV.out]
  refine (find_nil _ _).mono ?_
  rintro e w1 ⟨rfl, rfl⟩
  go_wp2
  refine bodyPost_ret (v := .tuple #[.agg (leafC 0 0 0).toArray, .int .i64 1]) (by simp [results, Try.results21, go_sem, leafC, r0, r1, r2, r3, r4, r5, r6]) rfl ?_
  exact ⟨rfl, ((((((HE.out.setCell (Nat.le_succ _) _).setCell (Nat.le_succ _) _).setCell (Nat.le_succ _) _).setCell (Nat.le_succ _) _).setCell (Nat.le_succ _) _).setCell (Nat.le_succ _) _).setCell (Nat.le_succ _) _⟩
theorem write_none {w : World} {hp : Option Addr} {pl : Int} {A : Option Addr} {l c : Nat} {ptg : Int} (h : NoUse w hp pl A l c ptg) (k n : Int) (nm : ByteArray) (P : Option Addr) (lp cp : Nat) (al : Int) (R : Option Addr) (lr cr : Nat) (tg : Int) : Calls Try.prog 13 #[.pointer hp, .agg #[.int .i64 pl, .slice A l c, .int .i64 ptg], .agg #[.int .i64 k, .int .u64 n, .string nm, .slice P lp cp, .int .i64 al, .slice R lr cr, .int .i64 tg]] w fun e w' => e = .returned (.int .i64 1) ∧ Below w.heap.size w w' := by
  have H := Lib.hid h
  have HB : Hid (Below w.heap.size w ((w.alloc (.cells #[.int .i64 pl, .slice A l c, .int .i64 ptg] 29)).alloc (.cells #[.int .i64 k, .int .u64 n, .string nm, .slice P lp cp, .int .i64 al, .slice R lr cr, .int .i64 tg] 34))) := ((Below.refl _ w).alloc (Nat.le_refl _) _).alloc (by simp) _
  clear h
  go_enter Try.func13, Try.ntmps13
  go_wp2_with fail
  refine (H.out _ _ HB.out).mono ?_
  rintro e w1 ⟨rfl, q1⟩
  have HB1 := Lib.hid (HB.out.trans (q1.mono HB.out.size))
  clear q1
  go_wp2
  go_ret
  exact ⟨rfl, HB1.out⟩
end Hp
end Go.Proofs.Ytbhjdpaicfnfcaa

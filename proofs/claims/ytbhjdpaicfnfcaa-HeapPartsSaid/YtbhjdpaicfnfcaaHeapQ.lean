/- Layer 13: one part of a struct taken away, or written. -/
import Derived.Test.YtbhjdpaicfnfcaaHeapO
import Derived.Test.YtbhjdpaicfnfcaaHeapN
namespace Go.Proofs.Ytbhjdpaicfnfcaa
open Go.RowKit Go.Deep Tr
namespace Hp
theorem al_not_int {w : World} {cb g cap : Nat} {vs : List Value} {S : List Hd} (h : Al w cb g cap vs S) : ∀ k, (k = cb ∨ k = g) → ¬IntB w k := fun k e => by
  obtain ⟨cur, k1, _⟩ := h.stk.cells
  rcases e with rfl | rfl
  · exact not_int h.cell (by decide)
  · exact not_int k1 (by decide)
theorem al_not_val {w : World} {cb g cap q : Nat} {vs : List Value} {S : List Hd} {cs : Array Value} (h : Al w cb g cap vs S) (hq : Is w q 34 cs) : ¬(q = cb ∨ q = g) := by
  obtain ⟨cur, k1, _⟩ := h.stk.cells
  rintro (e | e)
  · exact is_ne hq h.cell (by decide) e
  · exact is_ne hq k1 (by decide) e
/-- A part of a struct of two parts. -/
theorem place_part {w : World} {cb g cap q : Nat} {S : List Hd} (h : Al w cb g cap (twoC q) S) {k n k' n' : Int} (ht : TwoIn w q k n k' n') {A : Option Addr} {c i : Nat} (hi : i < 2) (hp : PathAt w A [(i : Int)]) {ki ni : Int} (hki : ki ≠ 0) (hci : ∀ j u, (leafC ki ni 0)[j]? = some u → (leafC k n 0 ++ leafC k' n' 0)[i * 7 + j]? = some u) :
    Place w cb g (twoC q) A c [(i : Int)] q (i * 7) (leafC ki ni 0) where
  part X n cap hX hm := by
    have h0 := hX.at_ 0
    have h3 := hX.at_ 3
    exact part_one h0 (by rw [Nat.zero_add]; exact h3) hi (hp.mod hm (al_not_int h))
  cells X n cap hX hm j u hj := by
    have hT := hm.is ht (al_not_val h ht)
    rw [hT.at_, List.getElem?_toArray]
    exact hci j u hj
  whole X _ _ _ _ := (whole_leaf X ki ni 0).mono fun e w' ⟨h1, h2⟩ => ⟨by rw [h1]; simp [hki], h2⟩
  seven := rfl
theorem part0 {k n k' n' : Int} : ∀ j u, (leafC k n 0)[j]? = some u → (leafC k n 0 ++ leafC k' n' 0)[0 * 7 + j]? = some u := fun j u hj => by
  have hj7 : j < (leafC k n 0).length := (List.getElem?_eq_some_iff.1 hj).1
  rw [Nat.zero_mul, Nat.zero_add, List.getElem?_append_left hj7]
  exact hj
theorem part1 {k n k' n' : Int} : ∀ j u, (leafC k' n' 0)[j]? = some u → (leafC k n 0 ++ leafC k' n' 0)[1 * 7 + j]? = some u := fun j u hj => by
  rw [List.getElem?_append_right (by simp [leafC])]
  simpa [leafC] using hj
set_option maxHeartbeats 8000000
set_option maxRecDepth 100000
theorem take_part {w : World} {hb mb : Nat} {most : Int} {made tags n m : Nat} {f : Int → Option Value} (h : HpAt w hb mb most true made tags n m f) {al : Int} (hw : (Lit.int .i64 al).wf = true) {cb g cap q : Nat} (hf : f al = some (.pointer (some ⟨cb, 0, none⟩)))
    {S : List Hd} (ha : Al w cb g cap (twoC q) S) {k nn n' : Int} (ht : TwoIn w q k nn 2 n') (tg : Int) {A : Option Addr} {c : Nat} (hp : PathAt w A [1]) (hcc : 1 ≤ c) :
    Calls Try.prog 16 #[.pointer (some ⟨hb, 0, none⟩), .agg #[.int .i64 al, .slice A 1 c, .int .i64 tg]] w fun e w' => ∃ p b, Srch S tg p b ∧
      (useOk S [1] true p b = false ∨
       (useOk S [1] true p b = true ∧ e = .returned (.tuple #[.agg (leafC 2 n' 0).toArray, .int .i64 0]) ∧ TwoIn w' q k nn 0 0 ∧ Is w' cb 78 (cellC (twoC q) g (left S [1] true p).length cap) ∧ Stk w' g cap (left S [1] true p) ∧ Mod (fun k => k = cb ∨ k = g ∨ k = q) w w')) := by
  obtain ⟨o1, ho1⟩ : ∃ o, Obj.cells #[.int .i64 al, .slice A 1 c, .int .i64 tg] 29 = o := ⟨_, rfl⟩
  obtain ⟨o2, ho2⟩ : ∃ o, Obj.cells #[.int .i64 0, .int .u64 0, .string ⟨#[]⟩, .slice none 0 0, .int .i64 0, .slice none 0 0, .int .i64 0] 34 = o := ⟨_, rfl⟩
  have B1 : Below w.heap.size w ((w.alloc o1).alloc o2) := ((Below.refl _ w).alloc (Nat.le_refl _) o1).alloc (by simp) o2
  have hN : (w.alloc o1).heap.size = w.heap.size + 1 := by simp
  have i1 : Is ((w.alloc o1).alloc o2) (w.heap.size + 1) 34 #[.int .i64 0, .int .u64 0, .string ⟨#[]⟩, .slice none 0 0, .int .i64 0, .slice none 0 0, .int .i64 0] := by rw [← ho2]; exact hN ▸ Is.made (w.alloc o1) _ _
  have HU := whole_any (h.below B1) hw hf (ha.below B1) tg (c := c) (hp.below B1) hcc true (place_part (ha.below B1) (ht.below B1 ht.lt) (by decide) (hp.below B1) (by decide) part1)
  obtain ⟨cur, hg, _⟩ := ha.stk.cells
  have HR := Lib.hid (And.intro ha.cell.lt (And.intro hg.lt ht.lt))
  have HT := Lib.hid ht
  have HA := Lib.hid ha
  obtain ⟨V, hV⟩ : ∃ V, (w.alloc o1).alloc o2 = V := ⟨_, rfl⟩
  rw [hV] at B1 i1 HU
  have HV : Hid ((w.alloc (.cells #[.int .i64 al, .slice A 1 c, .int .i64 tg] 29)).alloc (.cells #[.int .i64 0, .int .u64 0, .string ⟨#[]⟩, .slice none 0 0, .int .i64 0, .slice none 0 0, .int .i64 0] 34) = V) := by rw [ho1, ho2]; exact hV
  have HU := Lib.hid HU
  have I1 := Lib.hid i1
  have HB := Lib.hid B1
  clear h ha hp hw hf ht ho1 ho2 hV B1 i1 hg hN
  go_enter Try.func16, Try.ntmps16
  go_wp2_with fail
  rw [HV.out]
  refine HU.out.mono ?_
  rintro e w2 ⟨p, b, hs, hc⟩
  rcases hc with ⟨h1, rfl, h3⟩ | ⟨h1, rfl, h3⟩
  · have j1 := I1.out.below h3 I1.out.lt
    have r0 := j1.at_ 0
    have r1 := j1.at_ 1
    have r2 := j1.at_ 2
    have r3 := j1.at_ 3
    have r4 := j1.at_ 4
    have r5 := j1.at_ 5
    have r6 := j1.at_ 6
    have rf : ∀ i, w2.frozen? ⟨w.heap.size + 1, i, none⟩ = false := fun i => j1.free i
    simp at r0 r1 r2 r3 r4 r5 r6
    have HE : Hid (Srch S tg p b ∧ useOk S [1] true p b = false) := ⟨hs, h1⟩
    clear hs h1 h3 j1 HU
    go_wp2
    refine bodyPost_ret (v := .tuple #[.agg (leafC 0 0 0).toArray, .int .i64 2]) (by simp [results, Try.results16, go_sem, leafC, r0, r1, r2, r3, r4, r5, r6]) rfl ?_
    exact ⟨p, b, HE.out.1, .inl HE.out.2⟩
  · have hm : Mod (fun k => k = cb ∨ k = g) w w2 := (Mod.of HB.out).trans h3.mod
    have hT := hm.is HT.out (al_not_val HA.out HT.out)
    have hTA := hT.alloc (.cells #[.int .i64 2, .int .u64 n', .string ⟨#[]⟩, .slice none 0 0, .int .i64 0, .slice none 0 0, .int .i64 0] 34)
    have j1 := h3.mod.is I1.out (fun e => by have := HR.out; omega)
    have jA := j1.alloc (.cells #[.int .i64 2, .int .u64 n', .string ⟨#[]⟩, .slice none 0 0, .int .i64 0, .slice none 0 0, .int .i64 0] 34)
    have iX := Is.made w2 34 #[.int .i64 2, .int .u64 n', .string ⟨#[]⟩, .slice none 0 0, .int .i64 0, .slice none 0 0, .int .i64 0]
    have k0 := hT.at_ 7
    have k1 := hT.at_ 8
    have k2 := hT.at_ 9
    have k3 := hT.at_ 10
    have k4 := hT.at_ 11
    have k5 := hT.at_ 12
    have k6 := hT.at_ 13
    have l0 := hTA.at_ 7
    have l1 := hTA.at_ 8
    have l2 := hTA.at_ 9
    have l3 := hTA.at_ 10
    have l4 := hTA.at_ 11
    have l5 := hTA.at_ 12
    have l6 := hTA.at_ 13
    have r0 := jA.at_ 0
    have r1 := jA.at_ 1
    have r2 := jA.at_ 2
    have r3 := jA.at_ 3
    have r4 := jA.at_ 4
    have r5 := jA.at_ 5
    have r6 := jA.at_ 6
    have x0 := iX.at_ 0
    have x1 := iX.at_ 1
    have x2 := iX.at_ 2
    have x3 := iX.at_ 3
    have x4 := iX.at_ 4
    have x5 := iX.at_ 5
    have x6 := iX.at_ 6
    have lf : ∀ i, (w2.alloc (.cells #[.int .i64 2, .int .u64 n', .string ⟨#[]⟩, .slice none 0 0, .int .i64 0, .slice none 0 0, .int .i64 0] 34)).frozen? ⟨q, i, none⟩ = false := fun i => hTA.free i
    have rf : ∀ i, (w2.alloc (.cells #[.int .i64 2, .int .u64 n', .string ⟨#[]⟩, .slice none 0 0, .int .i64 0, .slice none 0 0, .int .i64 0] 34)).frozen? ⟨w.heap.size + 1, i, none⟩ = false := fun i => jA.free i
    simp [leafC] at k0 k1 k2 k3 k4 k5 k6 l0 l1 l2 l3 l4 l5 l6 r0 r1 r2 r3 r4 r5 r6
    simp only [List.getElem?_toArray, List.getElem?_cons_zero, List.getElem?_cons_succ] at x0 x1 x2 x3 x4 x5 x6
    have hqn : q ≠ w2.heap.size := fun e => by have := hT.lt; omega
    have hrn : w.heap.size + 1 ≠ q := fun e => by have := HR.out; omega
    have hqn' : w2.heap.size ≠ q := fun e => hqn e.symm
    have HG : Hid (TwoIn (((((((((((((((w2.alloc (.cells #[.int .i64 2, .int .u64 n', .string ⟨#[]⟩, .slice none 0 0, .int .i64 0, .slice none 0 0, .int .i64 0] 34)).setCell ⟨q, 7, none⟩ (.int .i64 0)).setCell ⟨q, 8, none⟩ (.int .u64 0)).setCell ⟨q, 9, none⟩ (.string ⟨#[]⟩)).setCell ⟨q, 10, none⟩ (.slice none 0 0)).setCell ⟨q, 11, none⟩ (.int .i64 0)).setCell ⟨q, 12, none⟩ (.slice none 0 0)).setCell ⟨q, 13, none⟩ (.int .i64 0)).setCell ⟨w.heap.size + 1, 0, none⟩ (.int .i64 2)).setCell ⟨w.heap.size + 1, 1, none⟩ (.int .u64 n')).setCell ⟨w.heap.size + 1, 2, none⟩ (.string ⟨#[]⟩)).setCell ⟨w.heap.size + 1, 3, none⟩ (.slice none 0 0)).setCell ⟨w.heap.size + 1, 4, none⟩ (.int .i64 0)).setCell ⟨w.heap.size + 1, 5, none⟩ (.slice none 0 0)).setCell ⟨w.heap.size + 1, 6, none⟩ (.int .i64 0)) q k nn 0 0 ∧ Is (((((((((((((((w2.alloc (.cells #[.int .i64 2, .int .u64 n', .string ⟨#[]⟩, .slice none 0 0, .int .i64 0, .slice none 0 0, .int .i64 0] 34)).setCell ⟨q, 7, none⟩ (.int .i64 0)).setCell ⟨q, 8, none⟩ (.int .u64 0)).setCell ⟨q, 9, none⟩ (.string ⟨#[]⟩)).setCell ⟨q, 10, none⟩ (.slice none 0 0)).setCell ⟨q, 11, none⟩ (.int .i64 0)).setCell ⟨q, 12, none⟩ (.slice none 0 0)).setCell ⟨q, 13, none⟩ (.int .i64 0)).setCell ⟨w.heap.size + 1, 0, none⟩ (.int .i64 2)).setCell ⟨w.heap.size + 1, 1, none⟩ (.int .u64 n')).setCell ⟨w.heap.size + 1, 2, none⟩ (.string ⟨#[]⟩)).setCell ⟨w.heap.size + 1, 3, none⟩ (.slice none 0 0)).setCell ⟨w.heap.size + 1, 4, none⟩ (.int .i64 0)).setCell ⟨w.heap.size + 1, 5, none⟩ (.slice none 0 0)).setCell ⟨w.heap.size + 1, 6, none⟩ (.int .i64 0)) cb 78 (cellC (twoC q) g (left S [1] true p).length cap) ∧ Stk (((((((((((((((w2.alloc (.cells #[.int .i64 2, .int .u64 n', .string ⟨#[]⟩, .slice none 0 0, .int .i64 0, .slice none 0 0, .int .i64 0] 34)).setCell ⟨q, 7, none⟩ (.int .i64 0)).setCell ⟨q, 8, none⟩ (.int .u64 0)).setCell ⟨q, 9, none⟩ (.string ⟨#[]⟩)).setCell ⟨q, 10, none⟩ (.slice none 0 0)).setCell ⟨q, 11, none⟩ (.int .i64 0)).setCell ⟨q, 12, none⟩ (.slice none 0 0)).setCell ⟨q, 13, none⟩ (.int .i64 0)).setCell ⟨w.heap.size + 1, 0, none⟩ (.int .i64 2)).setCell ⟨w.heap.size + 1, 1, none⟩ (.int .u64 n')).setCell ⟨w.heap.size + 1, 2, none⟩ (.string ⟨#[]⟩)).setCell ⟨w.heap.size + 1, 3, none⟩ (.slice none 0 0)).setCell ⟨w.heap.size + 1, 4, none⟩ (.int .i64 0)).setCell ⟨w.heap.size + 1, 5, none⟩ (.slice none 0 0)).setCell ⟨w.heap.size + 1, 6, none⟩ (.int .i64 0)) g cap (left S [1] true p) ∧ Mod (fun k => k = cb ∨ k = g ∨ k = q) w (((((((((((((((w2.alloc (.cells #[.int .i64 2, .int .u64 n', .string ⟨#[]⟩, .slice none 0 0, .int .i64 0, .slice none 0 0, .int .i64 0] 34)).setCell ⟨q, 7, none⟩ (.int .i64 0)).setCell ⟨q, 8, none⟩ (.int .u64 0)).setCell ⟨q, 9, none⟩ (.string ⟨#[]⟩)).setCell ⟨q, 10, none⟩ (.slice none 0 0)).setCell ⟨q, 11, none⟩ (.int .i64 0)).setCell ⟨q, 12, none⟩ (.slice none 0 0)).setCell ⟨q, 13, none⟩ (.int .i64 0)).setCell ⟨w.heap.size + 1, 0, none⟩ (.int .i64 2)).setCell ⟨w.heap.size + 1, 1, none⟩ (.int .u64 n')).setCell ⟨w.heap.size + 1, 2, none⟩ (.string ⟨#[]⟩)).setCell ⟨w.heap.size + 1, 3, none⟩ (.slice none 0 0)).setCell ⟨w.heap.size + 1, 4, none⟩ (.int .i64 0)).setCell ⟨w.heap.size + 1, 5, none⟩ (.slice none 0 0)).setCell ⟨w.heap.size + 1, 6, none⟩ (.int .i64 0))) := by
      have hmq : Mod (fun k => k = q) (w2.alloc (.cells #[.int .i64 2, .int .u64 n', .string ⟨#[]⟩, .slice none 0 0, .int .i64 0, .slice none 0 0, .int .i64 0] 34)) ((((((((w2.alloc (.cells #[.int .i64 2, .int .u64 n', .string ⟨#[]⟩, .slice none 0 0, .int .i64 0, .slice none 0 0, .int .i64 0] 34)).setCell ⟨q, 7, none⟩ (.int .i64 0)).setCell ⟨q, 8, none⟩ (.int .u64 0)).setCell ⟨q, 9, none⟩ (.string ⟨#[]⟩)).setCell ⟨q, 10, none⟩ (.slice none 0 0)).setCell ⟨q, 11, none⟩ (.int .i64 0)).setCell ⟨q, 12, none⟩ (.slice none 0 0)).setCell ⟨q, 13, none⟩ (.int .i64 0)) := (((((((Mod.refl (fun k => k = q) (w2.alloc (.cells #[.int .i64 2, .int .u64 n', .string ⟨#[]⟩, .slice none 0 0, .int .i64 0, .slice none 0 0, .int .i64 0] 34))).put (fun _ => rfl) _ _).put (fun _ => rfl) _ _).put (fun _ => rfl) _ _).put (fun _ => rfl) _ _).put (fun _ => rfl) _ _).put (fun _ => rfl) _ _).put (fun _ => rfl) _ _
      have hmr : Mod (fun k => k = w.heap.size + 1) ((((((((w2.alloc (.cells #[.int .i64 2, .int .u64 n', .string ⟨#[]⟩, .slice none 0 0, .int .i64 0, .slice none 0 0, .int .i64 0] 34)).setCell ⟨q, 7, none⟩ (.int .i64 0)).setCell ⟨q, 8, none⟩ (.int .u64 0)).setCell ⟨q, 9, none⟩ (.string ⟨#[]⟩)).setCell ⟨q, 10, none⟩ (.slice none 0 0)).setCell ⟨q, 11, none⟩ (.int .i64 0)).setCell ⟨q, 12, none⟩ (.slice none 0 0)).setCell ⟨q, 13, none⟩ (.int .i64 0)) (((((((((((((((w2.alloc (.cells #[.int .i64 2, .int .u64 n', .string ⟨#[]⟩, .slice none 0 0, .int .i64 0, .slice none 0 0, .int .i64 0] 34)).setCell ⟨q, 7, none⟩ (.int .i64 0)).setCell ⟨q, 8, none⟩ (.int .u64 0)).setCell ⟨q, 9, none⟩ (.string ⟨#[]⟩)).setCell ⟨q, 10, none⟩ (.slice none 0 0)).setCell ⟨q, 11, none⟩ (.int .i64 0)).setCell ⟨q, 12, none⟩ (.slice none 0 0)).setCell ⟨q, 13, none⟩ (.int .i64 0)).setCell ⟨w.heap.size + 1, 0, none⟩ (.int .i64 2)).setCell ⟨w.heap.size + 1, 1, none⟩ (.int .u64 n')).setCell ⟨w.heap.size + 1, 2, none⟩ (.string ⟨#[]⟩)).setCell ⟨w.heap.size + 1, 3, none⟩ (.slice none 0 0)).setCell ⟨w.heap.size + 1, 4, none⟩ (.int .i64 0)).setCell ⟨w.heap.size + 1, 5, none⟩ (.slice none 0 0)).setCell ⟨w.heap.size + 1, 6, none⟩ (.int .i64 0)) := (((((((Mod.refl (fun k => k = w.heap.size + 1) ((((((((w2.alloc (.cells #[.int .i64 2, .int .u64 n', .string ⟨#[]⟩, .slice none 0 0, .int .i64 0, .slice none 0 0, .int .i64 0] 34)).setCell ⟨q, 7, none⟩ (.int .i64 0)).setCell ⟨q, 8, none⟩ (.int .u64 0)).setCell ⟨q, 9, none⟩ (.string ⟨#[]⟩)).setCell ⟨q, 10, none⟩ (.slice none 0 0)).setCell ⟨q, 11, none⟩ (.int .i64 0)).setCell ⟨q, 12, none⟩ (.slice none 0 0)).setCell ⟨q, 13, none⟩ (.int .i64 0))).put (fun _ => rfl) _ _).put (fun _ => rfl) _ _).put (fun _ => rfl) _ _).put (fun _ => rfl) _ _).put (fun _ => rfl) _ _).put (fun _ => rfl) _ _).put (fun _ => rfl) _ _
      have hq7 := (((((((hTA.put 7 (.int .i64 0)).put 8 (.int .u64 0)).put 9 (.string ⟨#[]⟩)).put 10 (.slice none 0 0)).put 11 (.int .i64 0)).put 12 (.slice none 0 0)).put 13 (.int .i64 0))
      have bA : Below w2.heap.size w2 (w2.alloc (.cells #[.int .i64 2, .int .u64 n', .string ⟨#[]⟩, .slice none 0 0, .int .i64 0, .slice none 0 0, .int .i64 0] 34)) := (Below.refl _ _).alloc (Nat.le_refl _) _
      obtain ⟨cur, g1, _⟩ := h3.stk.cells
      have nc : ¬(cb = q) := fun e => al_not_val HA.out HT.out (.inl e.symm)
      have ng : ¬(g = q) := fun e => al_not_val HA.out HT.out (.inr e.symm)
      have nr1 : ¬(cb = w.heap.size + 1) := fun e => by have := HR.out; omega
      have nr2 : ¬(g = w.heap.size + 1) := fun e => by have := HR.out; omega
      have e1 : ∀ k, k = q → ¬IntB (w2.alloc (.cells #[.int .i64 2, .int .u64 n', .string ⟨#[]⟩, .slice none 0 0, .int .i64 0, .slice none 0 0, .int .i64 0] 34)) k := fun k e => by subst e; exact not_int hTA (by decide)
      have e2 : ∀ k, k = w.heap.size + 1 → ¬IntB ((((((((w2.alloc (.cells #[.int .i64 2, .int .u64 n', .string ⟨#[]⟩, .slice none 0 0, .int .i64 0, .slice none 0 0, .int .i64 0] 34)).setCell ⟨q, 7, none⟩ (.int .i64 0)).setCell ⟨q, 8, none⟩ (.int .u64 0)).setCell ⟨q, 9, none⟩ (.string ⟨#[]⟩)).setCell ⟨q, 10, none⟩ (.slice none 0 0)).setCell ⟨q, 11, none⟩ (.int .i64 0)).setCell ⟨q, 12, none⟩ (.slice none 0 0)).setCell ⟨q, 13, none⟩ (.int .i64 0)) k := fun k e => by subst e; exact not_int (hmq.is jA hrn) (by decide)
      refine ⟨?_, hmr.is (hmq.is (h3.cell.below bA h3.cell.lt) nc) nr1, ((h3.stk.below bA).mod hmq e1 ng).mod hmr e2 nr2, ?_⟩
      · have := hmr.is hq7 (fun e => hrn e.symm)
        unfold TwoIn
        simpa [leafC] using this
      · exact (((hm.mono fun _ _ h => h.elim .inl (fun h => .inr (.inl h))).andThen (S := fun k => k = cb ∨ k = g ∨ k = q) (T := fun _ => False) (.of bA) (fun _ _ h => h.elim)).andThen hmq (fun _ _ h => .inr (.inr h))).andThen hmr (fun i h1 h2 => by omega)
    have HE := Lib.hid (And.intro hs h1)
    clear hs h1 h3 hm hT j1 HU hTA jA iX
    go_wp2_with fail
    refine bodyPost_ret (v := .tuple #[.agg #[.int .i64 2, .int .u64 n', .string ⟨#[]⟩, .slice none 0 0, .int .i64 0, .slice none 0 0, .int .i64 0], .int .i64 0]) (by simp [results, Try.results16, go_sem, r0, r1, r2, r3, r4, r5, r6]) rfl ?_
    exact ⟨p, b, HE.out.1, .inr ⟨HE.out.2, rfl, HG.out⟩⟩
end Hp
end Go.Proofs.Ytbhjdpaicfnfcaa

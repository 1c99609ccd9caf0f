/- Layer 13: what isn't there isn't read; Free. -/
import Derived.Test.YtbhjdpaicfnfcaaHeapT
import Derived.Test.YtbhjdpaicfnfcaaHeapP
namespace Go.Proofs.Ytbhjdpaicfnfcaa
open Go.RowKit Go.Deep Tr
namespace Hp
/-- A use tells that nothing is there. -/
def NoUse (w : World) (hp : Option Addr) (al : Int) (A : Option Addr) (l c : Nat) (tg : Int) : Prop := ∀ X wt, Below w.heap.size w X → Calls Try.prog 31 #[.pointer hp, .agg #[.int .i64 al, .slice A l c, .int .i64 tg], .bool wt] X fun e w' => e = .returned (.tuple #[.pointer none, .int .i64 1]) ∧ Below X.heap.size X w'
theorem NoUse.below {w w' : World} {hp : Option Addr} {al : Int} {A : Option Addr} {l c : Nat} {tg : Int} (h : NoUse w hp al A l c tg) (hb : Below w.heap.size w w') : NoUse w' hp al A l c tg := fun X wt hX => h X wt (hb.trans (hX.mono hb.size))
set_option maxHeartbeats 8000000
set_option maxRecDepth 100000
theorem whole_none {w : World} {hp : Option Addr} {al : Int} {A : Option Addr} {l c : Nat} {tg : Int} (h : NoUse w hp al A l c tg) (wt : Bool) :
    Calls Try.prog 29 #[.pointer hp, .agg #[.int .i64 al, .slice A l c, .int .i64 tg], .bool wt] w fun e w' => e = .returned (.tuple #[.pointer none, .pointer none, .int .i64 1]) ∧ Below w.heap.size w w' := by
  have H := Lib.hid h
  have HB : Hid (Below w.heap.size w (w.alloc (.cells #[.int .i64 al, .slice A l c, .int .i64 tg] 29))) := (Below.refl _ w).alloc (Nat.le_refl _) _
  clear h
  go_enter Try.func29, Try.ntmps29
  go_wp2_with fail
  refine (H.out _ _ HB.out).mono ?_
  rintro e w1 ⟨rfl, q1⟩
  have HB1 := Lib.hid (HB.out.trans (q1.mono HB.out.size))
  clear q1
  go_wp2
  refine bodyPost_ret (v := .tuple #[.pointer none, .pointer none, .int .i64 1]) (by simp [results, Try.results29]) rfl ⟨rfl, HB1.out⟩
theorem read_none {w : World} {hp : Option Addr} {al : Int} {A : Option Addr} {l c : Nat} {tg : Int} (h : NoUse w hp al A l c tg) :
    Calls Try.prog 14 #[.pointer hp, .agg #[.int .i64 al, .slice A l c, .int .i64 tg]] w fun e w' => e = .returned (.tuple #[.agg (leafC 0 0 0).toArray, .int .i64 1]) ∧ Below w.heap.size w w' := by
  obtain ⟨o1, ho1⟩ : ∃ o, Obj.cells #[.int .i64 al, .slice A l c, .int .i64 tg] 29 = o := ⟨_, rfl⟩
  obtain ⟨o2, ho2⟩ : ∃ o, Obj.cells #[.int .i64 0, .int .u64 0, .string ⟨#[]⟩, .slice none 0 0, .int .i64 0, .slice none 0 0, .int .i64 0] 34 = o := ⟨_, rfl⟩
  have B1 : Below w.heap.size w ((w.alloc o1).alloc o2) := ((Below.refl _ w).alloc (Nat.le_refl _) o1).alloc (by simp) o2
  have hN : (w.alloc o1).heap.size = w.heap.size + 1 := by simp
  have i1 : Is ((w.alloc o1).alloc o2) (w.heap.size + 1) 34 #[.int .i64 0, .int .u64 0, .string ⟨#[]⟩, .slice none 0 0, .int .i64 0, .slice none 0 0, .int .i64 0] := by rw [← ho2]; exact hN ▸ Is.made (w.alloc o1) _ _
  have HU := Lib.hid (whole_none (h.below B1) false)
  obtain ⟨V, hV⟩ : ∃ V, (w.alloc o1).alloc o2 = V := ⟨_, rfl⟩
  rw [hV] at B1 i1 HU
  have HV : Hid ((w.alloc (.cells #[.int .i64 al, .slice A l c, .int .i64 tg] 29)).alloc (.cells #[.int .i64 0, .int .u64 0, .string ⟨#[]⟩, .slice none 0 0, .int .i64 0, .slice none 0 0, .int .i64 0] 34) = V) := by rw [ho1, ho2]; exact hV
  have I1 := Lib.hid i1
  have HB := Lib.hid B1
  clear h ho1 ho2 hV B1 i1 hN
  go_enter Try.func14, Try.ntmps14
  go_wp2_with fail
  rw [HV.out]
  refine HU.out.mono ?_
  rintro e w2 ⟨rfl, h3⟩
  have hb2 : Below w.heap.size w w2 := HB.out.trans (h3.mono HB.out.size)
  have j1 := I1.out.below h3 I1.out.lt
  have r0 := j1.at_ 0
  have r1 := j1.at_ 1
  have r2 := j1.at_ 2
  have r3 := j1.at_ 3
  have r4 := j1.at_ 4
  have r5 := j1.at_ 5
  have r6 := j1.at_ 6
  have rf : ∀ i, w2.frozen? ⟨w.heap.size + 1, i, none⟩ = false := fun i => j1.free i
  simp at r0 r1 r2 r3 r4 r5 r6
  have HE := Lib.hid hb2
  clear h3 hb2 j1 HU
  go_wp2
  refine bodyPost_ret (v := .tuple #[.agg (leafC 0 0 0).toArray, .int .i64 1]) (by simp [results, Try.results14, go_sem, leafC, r0, r1, r2, r3, r4, r5, r6]) rfl ?_
  exact ⟨rfl, ((((((HE.out.setCell (Nat.le_succ _) _).setCell (Nat.le_succ _) _).setCell (Nat.le_succ _) _).setCell (Nat.le_succ _) _).setCell (Nat.le_succ _) _).setCell (Nat.le_succ _) _).setCell (Nat.le_succ _) _⟩
theorem free_chain {w : World} {hb mb : Nat} {most : Int} {watch : Bool} {made tags m : Nat} {f : Int → Option Value} {d : Nat} {x : Int} (h : HpAt w hb mb most watch made tags (d + 1) m f) (hd : d ≤ 100) (hch : ChD w f d x) (hno : ∀ j : Int, (j < 0 ∨ (d : Int) < j) → f j = none) :
    Calls Try.prog 18 #[.pointer (some ⟨hb, 0, none⟩), .int .i64 (d : Int)] w fun e w' => e = .returned (.int .i64 0) ∧ HpAt w' hb mb most watch made tags 0 m (upto f 0) ∧ Mod (fun k => k = mb) w w' := by
  have HD := Lib.hid (drop_chain h hd hch hno)
  unfold leafC at HD
  clear h hch hno
  go_enter Try.func18, Try.ntmps18
  go_wp2_with fail
  refine HD.out.mono ?_
  rintro e w1 ⟨rfl, q1, q2⟩
  have HQ := Lib.hid (And.intro q1 q2)
  clear q1 q2
  go_wp2
  go_ret
  exact ⟨rfl, HQ.out⟩
theorem free_none {w : World} {hp : Option Addr} {al : Int} (hfd : ∀ X, Below w.heap.size w X → Calls Try.prog 33 #[.pointer hp, .int .i64 al] X fun e w' => e = .returned (.tuple #[.pointer none, .int .i64 1]) ∧ X = w') :
    Calls Try.prog 18 #[.pointer hp, .int .i64 al] w fun e w' => e = .returned (.int .i64 1) ∧ Below w.heap.size w w' := by
  have HD := Lib.hid (drop_none w hp 0 ⟨#[]⟩ none 0 0 al none 0 0 0 hfd)
  clear hfd
  go_enter Try.func18, Try.ntmps18
  go_wp2_with fail
  refine HD.out.mono ?_
  rintro e w1 ⟨rfl, q1⟩
  go_wp2
  go_ret
  exact ⟨rfl, q1⟩
end Hp
end Go.Proofs.Ytbhjdpaicfnfcaa

/- Layer 13: one part of a struct written. -/
import Derived.Test.YtbhjdpaicfnfcaaHeapQ
namespace Go.Proofs.Ytbhjdpaicfnfcaa
open Go.RowKit Go.Deep Tr
namespace Hp
set_option maxHeartbeats 8000000
set_option maxRecDepth 100000
theorem write_part {w : World} {hb mb : Nat} {most : Int} {made tags n m : Nat} {f : Int → Option Value} (h : HpAt w hb mb most true made tags n m f) {al : Int} (hw : (Lit.int .i64 al).wf = true) {cb g cap q : Nat} (hf : f al = some (.pointer (some ⟨cb, 0, none⟩)))
    {S : List Hd} (ha : Al w cb g cap (twoC q) S) {k nn n' : Int} (ht : TwoIn w q k nn 2 n') (tg : Int) {A : Option Addr} {c : Nat} (hp : PathAt w A [1]) (hcc : 1 ≤ c) (x : Int) :
    Calls Try.prog 13 #[.pointer (some ⟨hb, 0, none⟩), .agg #[.int .i64 al, .slice A 1 c, .int .i64 tg], .agg #[.int .i64 2, .int .u64 x, .string ⟨#[]⟩, .slice none 0 0, .int .i64 0, .slice none 0 0, .int .i64 0]] w fun e w' => ∃ p b, Srch S tg p b ∧
      (useOk S [1] true p b = false ∨
       (useOk S [1] true p b = true ∧ e = .returned (.int .i64 0) ∧ TwoIn w' q k nn 2 x ∧ Is w' cb 78 (cellC (twoC q) g (left S [1] true p).length cap) ∧ Stk w' g cap (left S [1] true p) ∧ Mod (fun k => k = cb ∨ k = g ∨ k = q) w w')) := by
  obtain ⟨o1, ho1⟩ : ∃ o, Obj.cells #[.int .i64 al, .slice A 1 c, .int .i64 tg] 29 = o := ⟨_, rfl⟩
  obtain ⟨o2, ho2⟩ : ∃ o, Obj.cells #[.int .i64 2, .int .u64 x, .string ⟨#[]⟩, .slice none 0 0, .int .i64 0, .slice none 0 0, .int .i64 0] 34 = o := ⟨_, rfl⟩
  have B1 : Below w.heap.size w ((w.alloc o1).alloc o2) := ((Below.refl _ w).alloc (Nat.le_refl _) o1).alloc (by simp) o2
  have hN : (w.alloc o1).heap.size = w.heap.size + 1 := by simp
  have i1 : Is ((w.alloc o1).alloc o2) w.heap.size 29 #[.int .i64 al, .slice A 1 c, .int .i64 tg] := by rw [← ho1]; exact (Is.made w _ _).alloc _
  have i2 : Is ((w.alloc o1).alloc o2) (w.heap.size + 1) 34 #[.int .i64 2, .int .u64 x, .string ⟨#[]⟩, .slice none 0 0, .int .i64 0, .slice none 0 0, .int .i64 0] := by rw [← ho2]; exact hN ▸ Is.made (w.alloc o1) _ _
  have HU := huse_any (h.below B1) hw hf (ha.below B1) tg (c := c) (hp.below B1) hcc true
  have HPL := Lib.hid (place_part (c := c) (ha.below B1) (ht.below B1 ht.lt) (by decide) (hp.below B1) (by decide) part1)
  obtain ⟨cur, hg, _⟩ := ha.stk.cells
  have HR := Lib.hid (And.intro ha.cell.lt (And.intro hg.lt ht.lt))
  have HT := Lib.hid ht
  have HA := Lib.hid ha
  obtain ⟨V, hV⟩ : ∃ V, (w.alloc o1).alloc o2 = V := ⟨_, rfl⟩
  rw [hV] at B1 i1 i2 HU HPL
  have HV : Hid ((w.alloc (.cells #[.int .i64 al, .slice A 1 c, .int .i64 tg] 29)).alloc (.cells #[.int .i64 2, .int .u64 x, .string ⟨#[]⟩, .slice none 0 0, .int .i64 0, .slice none 0 0, .int .i64 0] 34) = V) := by rw [ho1, ho2]; exact hV
  have I2 := Lib.hid i2
  have HU := Lib.hid HU
  have I1 := Lib.hid i1
  have HB := Lib.hid B1
  clear h ha hp hw hf ht ho1 ho2 hV B1 i1 i2 hg hN
  go_enter Try.func13, Try.ntmps13
  go_wp2_with fail
  rw [HV.out]
  refine HU.out.mono ?_
  rintro e w2 ⟨p, b, hs, hc⟩
  rcases hc with ⟨h1, ⟨cv, rfl⟩, h3⟩ | ⟨h1, rfl, h3⟩
  · have HE : Hid (Srch S tg p b ∧ useOk S [1] true p b = false) := ⟨hs, h1⟩
    clear hs h1 h3 HU
    go_wp2
    go_ret
    exact ⟨p, b, HE.out.1, .inl HE.out.2⟩
  · have hm : Mod (fun k => k = cb ∨ k = g) w w2 := (Mod.of HB.out).trans h3.mod
    have hpt : ∀ r, Calls Try.prog 32 #[.pointer (some ⟨cb, 0, none⟩), .slice A 1 c] (w2.drewN r) fun e W' => e = .returned (.tuple #[.pointer (some ⟨q, 7, none⟩), .int .i64 0]) ∧ ∃ m, W' = w2.drewN m := fun r =>
      (HPL.out.part (w2.drewN r) _ _ (h3.cell.drewN r) (h3.mod.drewN r)).mono fun e W' ⟨h1, h2⟩ => ⟨h1, r, h2.symm⟩
    have HPT := Lib.hid hpt
    have j1 := h3.mod.is I1.out (fun e => by have := HR.out; omega)
    have j2 := h3.mod.is I2.out (fun e => by have := HR.out; omega)
    have J2 := Lib.hid j2
    have r1 := j1.at_ 1
    simp at r1
    have HS := Lib.hid (And.intro hs (And.intro h1 (And.intro h3 hm)))
    clear hs h1 h3 hm hpt j1 j2 HU HPL
    go_wp2_with fail
    go_quiet ((go_at_call 32; with_reducible exact HPT.out _))
    rename_i nq
    obtain ⟨X, hX⟩ : ∃ X, w2.drewN nq = X := ⟨_, rfl⟩
    rw [hX]
    have hXB : Below w2.heap.size w2 X := by rw [← hX]; exact below_drewN _ _
    have HXB := Lib.hid hXB
    have hT := (HS.out.2.2.2.is HT.out (al_not_val HA.out HT.out)).below HXB.out (HS.out.2.2.2.is HT.out (al_not_val HA.out HT.out)).lt
    have bA : Below X.heap.size X (X.alloc (.cells #[.int .i64 2, .int .u64 n', .string ⟨#[]⟩, .slice none 0 0, .int .i64 0, .slice none 0 0, .int .i64 0] 34)) := (Below.refl _ _).alloc (Nat.le_refl _) _
    have jx := (J2.out.below HXB.out J2.out.lt).below bA (J2.out.below HXB.out J2.out.lt).lt
    have iO := Is.made X 34 #[.int .i64 2, .int .u64 n', .string ⟨#[]⟩, .slice none 0 0, .int .i64 0, .slice none 0 0, .int .i64 0]
    have k0 := hT.at_ 7
    have k1 := hT.at_ 8
    have k2 := hT.at_ 9
    have k3 := hT.at_ 10
    have k4 := hT.at_ 11
    have k5 := hT.at_ 12
    have k6 := hT.at_ 13
    have x0 := jx.at_ 0
    have x1 := jx.at_ 1
    have x2 := jx.at_ 2
    have x3 := jx.at_ 3
    have x4 := jx.at_ 4
    have x5 := jx.at_ 5
    have x6 := jx.at_ 6
    simp [leafC] at k0 k1 k2 k3 k4 k5 k6 x0 x1 x2 x3 x4 x5 x6
    have HTT := Lib.hid hT
    have HIO := Lib.hid iO
    have HBA := Lib.hid bA
    clear hXB hX HPT r1 hT bA jx iO
    go_wp2_with fail
    refine (clone_leaf _ 2 x 0).mono ?_
    rintro e w4 ⟨rfl, q4⟩
    have hq4 := (HTT.out.below HBA.out HTT.out.lt).below q4 (HTT.out.below HBA.out HTT.out.lt).lt
    have ho4 := HIO.out.below q4 HIO.out.lt
    have hqo : q ≠ X.heap.size := fun e => by have := HTT.out.lt; omega
    have hqo' : X.heap.size ≠ q := fun e => hqo e.symm
    have l0 := hq4.at_ 7
    have l1 := hq4.at_ 8
    have l2 := hq4.at_ 9
    have l3 := hq4.at_ 10
    have l4 := hq4.at_ 11
    have l5 := hq4.at_ 12
    have l6 := hq4.at_ 13
    have o0 := ho4.at_ 0
    have o1 := ho4.at_ 1
    have o2 := ho4.at_ 2
    have o3 := ho4.at_ 3
    have o4 := ho4.at_ 4
    have o5 := ho4.at_ 5
    have o6 := ho4.at_ 6
    have lf : ∀ i, w4.frozen? ⟨q, i, none⟩ = false := fun i => hq4.free i
    simp [leafC] at l0 l1 l2 l3 l4 l5 l6
    simp only [List.getElem?_toArray, List.getElem?_cons_zero, List.getElem?_cons_succ] at o0 o1 o2 o3 o4 o5 o6
    have HQ4 := Lib.hid hq4
    have HB4 : Hid (Below w2.heap.size w2 w4) := (HXB.out.trans (HBA.out.mono HXB.out.size)).trans (q4.mono (Nat.le_trans HXB.out.size HBA.out.size))
    unfold leafC
    clear q4 hq4 ho4 k0 k1 k2 k3 k4 k5 k6 x0 x1 x2 x3 x4 x5 x6
    have hqi : Is (((((((w4.setCell ⟨q, 7, none⟩ (.int .i64 2)).setCell ⟨q, 8, none⟩ (.int .u64 x)).setCell ⟨q, 9, none⟩ (.string ⟨#[]⟩)).setCell ⟨q, 10, none⟩ (.slice none 0 0)).setCell ⟨q, 11, none⟩ (.int .i64 0)).setCell ⟨q, 12, none⟩ (.slice none 0 0)).setCell ⟨q, 13, none⟩ (.int .i64 0)) q 34 (leafC k nn 0 ++ leafC 2 x 0).toArray := by
      have := (((((((HQ4.out.put 7 (.int .i64 2)).put 8 (.int .u64 x)).put 9 (.string ⟨#[]⟩)).put 10 (.slice none 0 0)).put 11 (.int .i64 0)).put 12 (.slice none 0 0)).put 13 (.int .i64 0))
      simpa [leafC] using this
    have hmq : Mod (fun k => k = q) w4 (((((((w4.setCell ⟨q, 7, none⟩ (.int .i64 2)).setCell ⟨q, 8, none⟩ (.int .u64 x)).setCell ⟨q, 9, none⟩ (.string ⟨#[]⟩)).setCell ⟨q, 10, none⟩ (.slice none 0 0)).setCell ⟨q, 11, none⟩ (.int .i64 0)).setCell ⟨q, 12, none⟩ (.slice none 0 0)).setCell ⟨q, 13, none⟩ (.int .i64 0)) := (((((((Mod.refl (fun k => k = q) w4).put (fun _ => rfl) _ _).put (fun _ => rfl) _ _).put (fun _ => rfl) _ _).put (fun _ => rfl) _ _).put (fun _ => rfl) _ _).put (fun _ => rfl) _ _).put (fun _ => rfl) _ _
    have HQI := Lib.hid hqi
    have HMQ := Lib.hid hmq
    have HQ4i := Lib.hid (not_int HQ4.out (by decide))
    clear hqi hmq HQ4 HIO HTT HBA
    go_wp2_with fail
    refine (drop_leaf _ _ 2 (by decide) (by decide) _ _ _ _ _ _ _ _ _ _).mono ?_
    rintro e w5 ⟨rfl, q5⟩
    have HG : Hid (TwoIn w5 q k nn 2 x ∧ Is w5 cb 78 (cellC (twoC q) g (left S [1] true p).length cap) ∧ Stk w5 g cap (left S [1] true p) ∧ Mod (fun k => k = cb ∨ k = g ∨ k = q) w w5) := by
      have h3 := HS.out.2.2.1
      have hm := HS.out.2.2.2
      have nc : ¬(cb = q) := fun e => al_not_val HA.out HT.out (.inl e.symm)
      have ng : ¬(g = q) := fun e => al_not_val HA.out HT.out (.inr e.symm)
      have c4 := HMQ.out.is (h3.cell.below HB4.out h3.cell.lt) nc
      have s4 := (h3.stk.below HB4.out).mod HMQ.out (fun k e => by subst e; exact HQ4i.out) ng
      exact ⟨HQI.out.below q5 HQI.out.lt, c4.below q5 c4.lt, s4.below q5,
        (((hm.mono fun _ _ h => h.elim .inl (fun h => .inr (.inl h))).andThen (S := fun k => k = cb ∨ k = g ∨ k = q) (T := fun _ => False) (.of HB4.out) (fun _ _ h => h.elim)).andThen HMQ.out (fun _ _ h => .inr (.inr h))).andThen (T := fun _ => False) (.of q5) (fun _ _ h => h.elim)⟩
    clear q5 HQI HMQ HB4 HXB
    go_wp2
    go_ret
    exact ⟨p, b, HS.out.1, .inr ⟨HS.out.2.1, rfl, HG.out⟩⟩
end Hp
end Go.Proofs.Ytbhjdpaicfnfcaa

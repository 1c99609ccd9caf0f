/- Layer 13: Read, Borrow. -/
import Derived.Test.YtbhjdpaicfnfcaaHeapK
namespace Go.Proofs.Ytbhjdpaicfnfcaa
open Go.RowKit Go.Deep Tr
namespace Hp
def Rise (S : List Hd) : Prop := ∀ i j (hi : i < S.length) (hj : j < S.length), i ≤ j → S[i].tag ≤ S[j].tag
theorem rise_iff {S : List Hd} : Rise S ↔ S.Pairwise (fun a b => a.tag ≤ b.tag) := by
  rw [List.pairwise_iff_getElem]
  constructor
  · exact fun h i j hi hj hij => h i j hi hj (Nat.le_of_lt hij)
  · intro h i j hi hj hij
    rcases Nat.eq_or_lt_of_le hij with e | e
    · subst e; exact Int.le_refl _
    · exact h i j hi hj e
theorem left_sub (S : List Hd) (pa : List Int) (wt : Bool) (p : Nat) : (left S pa wt p).Sublist S := by
  have h := (List.Sublist.refl (S.take (p + 1))).append (List.filter_sublist (p := fun r => !dl wt pa r) (l := S.drop (p + 1)))
  rwa [List.take_append_drop] at h
theorem left_rise {S : List Hd} (h : Rise S) (pa : List Int) (wt : Bool) (p : Nat) : Rise (left S pa wt p) := rise_iff.2 ((rise_iff.1 h).sublist (left_sub S pa wt p))
theorem rise_snoc {S : List Hd} (h : Rise S) {r : Hd} (hr : ∀ x ∈ S, x.tag ≤ r.tag) : Rise (S ++ [r]) := by
  rw [rise_iff, List.pairwise_append]
  exact ⟨rise_iff.1 h, List.pairwise_singleton _ _, fun a ha b hb => by rw [List.mem_singleton.1 hb]; exact hr a ha⟩
/-- A variable of the call's own is written. -/
theorem Used.box {w w1 w2 : World} {cb g cap b : Nat} {vs : List Value} {S : List Hd} (h : Used w w1 cb g cap vs S) (hb : w.heap.size ≤ b) {t : TypeId} {cs : Array Value} (hi : Is w1 b t cs) (ht : t ≠ 78 ∧ t ≠ 96 ∧ t ≠ 3) (hm : Mod (fun k => k = b) w1 w2) : Used w w2 cb g cap vs S := by
  obtain ⟨cur, k1, _⟩ := h.stk.cells
  exact ⟨hm.is h.cell (fun e => is_ne h.cell hi (fun e => ht.1 e.symm) e), h.stk.mod hm (fun k e => by subst e; exact not_int hi ht.2.2) (fun e => is_ne k1 hi (fun e => ht.2.1 e.symm) e), h.mod.andThen hm (fun i h1 h2 => by omega)⟩
theorem Place.below {w V : World} {cb g : Nat} {vs : List Value} {A : Option Addr} {c : Nat} {pa : List Int} {ab ao : Nat} {cs : List Value} (h : Place w cb g vs A c pa ab ao cs) (hb : Below w.heap.size w V) : Place V cb g vs A c pa ab ao cs :=
  ⟨fun X n cap hX hm => h.part X n cap hX ((Mod.of hb).trans hm), fun X n cap hX hm => h.cells X n cap hX ((Mod.of hb).trans hm), fun X n cap hX hm => h.whole X n cap hX ((Mod.of hb).trans hm), h.seven⟩
set_option maxHeartbeats 8000000
set_option maxRecDepth 100000
theorem read_any {w : World} {hb mb : Nat} {most : Int} {made tags n m : Nat} {f : Int → Option Value} (h : HpAt w hb mb most true made tags n m f) {al : Int} (hw : (Lit.int .i64 al).wf = true) {cb g cap : Nat} (hf : f al = some (.pointer (some ⟨cb, 0, none⟩)))
    {vs : List Value} {S : List Hd} (ha : Al w cb g cap vs S) (tg : Int) {A : Option Addr} {c : Nat} {pa : List Int} (hp : PathAt w A pa) (hcc : pa.length ≤ c) {ab ao : Nat} {cs : List Value} (hpl : Place w cb g vs A c pa ab ao cs) {Q : List Value → Prop} (hsh : ∀ rs, Q rs → (∃ k n al, rs = leafC k n al) ∨ ∃ q, rs = twoC q)
    (hcl : ∀ X n cap, Is X cb 78 (cellC vs g n cap) → Mod (fun k => k = cb ∨ k = g) w X → Calls Try.prog 27 #[.agg cs.toArray] X fun e w' => ∃ rs, e = .returned (.agg rs.toArray) ∧ rs.length = 7 ∧ Q rs ∧ Below X.heap.size X w') :
    Calls Try.prog 14 #[.pointer (some ⟨hb, 0, none⟩), .agg #[.int .i64 al, .slice A pa.length c, .int .i64 tg]] w fun e w' => ∃ p b, Srch S tg p b ∧
      ((useOk S pa false p b = false ∧ e = .returned (.tuple #[.agg (leafC 0 0 0).toArray, .int .i64 2]) ∧ Below w.heap.size w w') ∨
       (useOk S pa false p b = true ∧ (∃ rs, e = .returned (.tuple #[.agg rs.toArray, .int .i64 0]) ∧ rs.length = 7 ∧ Q rs) ∧ Used w w' cb g cap vs (left S pa false p))) := by
  obtain ⟨lp, hlp⟩ : ∃ x, pa.length = x := ⟨_, rfl⟩
  obtain ⟨o1, ho1⟩ : ∃ o, Obj.cells #[.int .i64 al, .slice A pa.length c, .int .i64 tg] 29 = o := ⟨_, rfl⟩
  obtain ⟨o2, ho2⟩ : ∃ o, Obj.cells #[.int .i64 0, .int .u64 0, .string ⟨#[]⟩, .slice none 0 0, .int .i64 0, .slice none 0 0, .int .i64 0] 34 = o := ⟨_, rfl⟩
  have B1 : Below w.heap.size w ((w.alloc o1).alloc o2) := ((Below.refl _ w).alloc (Nat.le_refl _) o1).alloc (by simp) o2
  have hN : (w.alloc o1).heap.size = w.heap.size + 1 := by simp
  have i1 : Is ((w.alloc o1).alloc o2) (w.heap.size + 1) 34 #[.int .i64 0, .int .u64 0, .string ⟨#[]⟩, .slice none 0 0, .int .i64 0, .slice none 0 0, .int .i64 0] := by rw [← ho2]; exact hN ▸ Is.made (w.alloc o1) _ _
  have HU := whole_any (h.below B1) hw hf (ha.below B1) tg (hp.below B1) hcc false (hpl.below B1)
  obtain ⟨cur, hg, _⟩ := ha.stk.cells
  have HR := Lib.hid (And.intro ha.cell.lt hg.lt)
  have hc7 := hpl.seven
  obtain ⟨c0, c1, c2, c3, c4, c5, c6, rfl⟩ := seven hc7
  have HP := Lib.hid hpl
  have HCL := Lib.hid hcl
  obtain ⟨V, hV⟩ : ∃ V, (w.alloc o1).alloc o2 = V := ⟨_, rfl⟩
  rw [hV] at B1 i1 HU
  have HV : Hid ((w.alloc (.cells #[.int .i64 al, .slice A lp c, .int .i64 tg] 29)).alloc (.cells #[.int .i64 0, .int .u64 0, .string ⟨#[]⟩, .slice none 0 0, .int .i64 0, .slice none 0 0, .int .i64 0] 34) = V) := by rw [← hlp, ho1, ho2]; exact hV
  rw [hlp] at HU ⊢
  have HU := Lib.hid HU
  have I1 := Lib.hid i1
  have HB := Lib.hid B1
  clear h ha hp hw hf hpl hcl hc7 ho1 ho2 hV B1 i1 hlp hg hN
  go_enter Try.func14, Try.ntmps14
  go_wp2_with fail
  rw [HV.out]
  refine HU.out.mono ?_
  rintro e w2 ⟨p, b, hs, hc⟩
  rcases hc with ⟨h1, rfl, h3⟩ | ⟨h1, rfl, h3⟩
  · have hb2 : Below w.heap.size w w2 := HB.out.trans (h3.mono HB.out.size)
    have j1 := I1.out.below h3 I1.out.lt
    have r0 := j1.at_ 0
    have r1 := j1.at_ 1
    have r2 := j1.at_ 2
    have r3 := j1.at_ 3
    have r4 := j1.at_ 4
    have r5 := j1.at_ 5
    have r6 := j1.at_ 6
    have rf : ∀ i, w2.frozen? ⟨w.heap.size + 1, i, none⟩ = false := fun i => j1.free i
    simp at r0 r1 r2 r3 r4 r5 r6
    have HE : Hid (Srch S tg p b ∧ useOk S pa false p b = false ∧ Below w.heap.size w w2) := ⟨hs, h1, hb2⟩
    clear hs h1 h3 hb2 j1 HU HCL
    go_wp2
    refine bodyPost_ret (v := .tuple #[.agg (leafC 0 0 0).toArray, .int .i64 2]) (by simp [results, Try.results14, go_sem, leafC, r0, r1, r2, r3, r4, r5, r6]) rfl ?_
    refine ⟨p, b, HE.out.1, .inl ⟨HE.out.2.1, rfl, ?_⟩⟩
    exact ((((((HE.out.2.2.setCell (Nat.le_succ _) _).setCell (Nat.le_succ _) _).setCell (Nat.le_succ _) _).setCell (Nat.le_succ _) _).setCell (Nat.le_succ _) _).setCell (Nat.le_succ _) _).setCell (Nat.le_succ _) _
  · have hm : Mod (fun k => k = cb ∨ k = g) w w2 := (Mod.of HB.out).trans h3.mod
    have HE : Hid (Srch S tg p b ∧ useOk S pa false p b = true ∧ Used w w2 cb g cap vs (left S pa false p)) := ⟨hs, h1, h3.cell, h3.stk, hm⟩
    have k0 := HP.out.cells w2 _ _ h3.cell hm 0 _ rfl
    have k1 := HP.out.cells w2 _ _ h3.cell hm 1 _ rfl
    have k2 := HP.out.cells w2 _ _ h3.cell hm 2 _ rfl
    have k3 := HP.out.cells w2 _ _ h3.cell hm 3 _ rfl
    have k4 := HP.out.cells w2 _ _ h3.cell hm 4 _ rfl
    have k5 := HP.out.cells w2 _ _ h3.cell hm 5 _ rfl
    have k6 := HP.out.cells w2 _ _ h3.cell hm 6 _ rfl
    simp only [Nat.add_zero] at k0
    have j1 := h3.mod.is I1.out (fun e => by have := HR.out; omega)
    have J1 := Lib.hid j1
    have HCX := Lib.hid (HCL.out w2 _ _ h3.cell hm)
    clear hs h1 h3 hm j1 HU HCL
    go_wp2_with fail
    refine HCX.out.mono ?_
    rintro e w3 ⟨rs, rfl, hr7, hq, q3⟩
    have hsh2 := hsh rs hq
    have HQ := Lib.hid (And.intro hr7 hq)
    have HE2 : Hid (Srch S tg p b ∧ useOk S pa false p b = true ∧ Used w w3 cb g cap vs (left S pa false p)) :=
      ⟨HE.out.1, HE.out.2.1, HE.out.2.2.cell.below q3 HE.out.2.2.cell.lt, HE.out.2.2.stk.below q3, HE.out.2.2.mod.trans (.of q3)⟩
    have j1 := J1.out.below q3 J1.out.lt
    have J3 := Lib.hid j1
    have r0 := j1.at_ 0
    have r1 := j1.at_ 1
    have r2 := j1.at_ 2
    have r3 := j1.at_ 3
    have r4 := j1.at_ 4
    have r5 := j1.at_ 5
    have r6 := j1.at_ 6
    have rf : ∀ i, w3.frozen? ⟨w.heap.size + 1, i, none⟩ = false := fun i => j1.free i
    simp at r0 r1 r2 r3 r4 r5 r6
    clear hr7 hq q3 j1 HCX HE k0 k1 k2 k3 k4 k5 k6 hsh
    rcases hsh2 with ⟨k, n, al', rfl⟩ | ⟨q, rfl⟩
    · skip
      simp only [leafC] at HQ ⊢
      go_wp2
      refine bodyPost_ret (v := .tuple #[.agg #[.int .i64 k, .int .u64 n, .string ⟨#[]⟩, .slice none 0 0, .int .i64 al', .slice none 0 0, .int .i64 0], .int .i64 0]) (by simp [results, Try.results14, go_sem, r0, r1, r2, r3, r4, r5, r6]) rfl ?_
      refine ⟨p, b, HE2.out.1, .inr ⟨HE2.out.2.1, ⟨[.int .i64 k, .int .u64 n, .string ⟨#[]⟩, .slice none 0 0, .int .i64 al', .slice none 0 0, .int .i64 0], rfl, HQ.out.1, HQ.out.2⟩, ?_⟩⟩
      refine Used.box HE2.out.2.2 (b := w.heap.size + 1) (by omega) J3.out (by decide) ?_
      exact (((((((Mod.refl (fun k => k = w.heap.size + 1) w3).put (fun _ => rfl) _ _).put (fun _ => rfl) _ _).put (fun _ => rfl) _ _).put (fun _ => rfl) _ _).put (fun _ => rfl) _ _).put (fun _ => rfl) _ _).put (fun _ => rfl) _ _
    · skip
      simp only [twoC] at HQ ⊢
      go_wp2
      refine bodyPost_ret (v := .tuple #[.agg #[.int .i64 5, .int .u64 0, .string ⟨#[83]⟩, .slice (some ⟨q, 0, none⟩) 2 2, .int .i64 0, .slice none 0 0, .int .i64 0], .int .i64 0]) (by simp [results, Try.results14, go_sem, r0, r1, r2, r3, r4, r5, r6]) rfl ?_
      refine ⟨p, b, HE2.out.1, .inr ⟨HE2.out.2.1, ⟨[.int .i64 5, .int .u64 0, .string ⟨#[83]⟩, .slice (some ⟨q, 0, none⟩) 2 2, .int .i64 0, .slice none 0 0, .int .i64 0], rfl, HQ.out.1, HQ.out.2⟩, ?_⟩⟩
      refine Used.box HE2.out.2.2 (b := w.heap.size + 1) (by omega) J3.out (by decide) ?_
      exact (((((((Mod.refl (fun k => k = w.heap.size + 1) w3).put (fun _ => rfl) _ _).put (fun _ => rfl) _ _).put (fun _ => rfl) _ _).put (fun _ => rfl) _ _).put (fun _ => rfl) _ _).put (fun _ => rfl) _ _).put (fun _ => rfl) _ _
end Hp
end Go.Proofs.Ytbhjdpaicfnfcaa

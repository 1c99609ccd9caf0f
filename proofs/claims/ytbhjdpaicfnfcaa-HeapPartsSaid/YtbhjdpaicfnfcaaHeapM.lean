/- Layer 13: Borrow. -/
import Derived.Test.YtbhjdpaicfnfcaaHeapL
namespace Go.Proofs.Ytbhjdpaicfnfcaa
open Go.RowKit Go.Deep Tr
namespace Hp
set_option maxHeartbeats 8000000
set_option maxRecDepth 100000
theorem borrow_any {w : World} {hb mb : Nat} {most : Int} {made tags n m : Nat} {f : Int → Option Value} (h : HpAt w hb mb most true made tags n m f) (ht : tags ≤ 1000) {al : Int} (hw : (Lit.int .i64 al).wf = true) {cb g cap : Nat} (hf : f al = some (.pointer (some ⟨cb, 0, none⟩)))
    {vs : List Value} {S : List Hd} (ha : Al w cb g cap vs S) (hts : ∀ x ∈ S, x.tag ≤ tags) (hl : S.length ≤ 100) (tg : Int) {A : Option Addr} {c : Nat} {pa : List Int} (hp : PathAt w A pa) (hcc : pa.length ≤ c) (hpl' : pa.length ≤ 100) {ab ao : Nat} {cs : List Value} (hpl : Place w cb g vs A c pa ab ao cs) (uq : Bool) :
    Calls Try.prog 12 #[.pointer (some ⟨hb, 0, none⟩), .agg #[.int .i64 al, .slice A pa.length c, .int .i64 tg], .bool uq] w fun e w' => ∃ p b, Srch S tg p b ∧
      ((useOk S pa uq p b = false ∧ e = .returned (.tuple #[.agg #[.int .i64 0, .slice none 0 0, .int .i64 0], .int .i64 2]) ∧ Below w.heap.size w w') ∨
       (useOk S pa uq p b = true ∧ ∃ A' c' g' cap', e = .returned (.tuple #[.agg #[.int .i64 al, .slice A' pa.length c', .int .i64 ((tags : Int) + 1)], .int .i64 0]) ∧ pa.length ≤ c' ∧ PathAt w' A' pa ∧ HpAt w' hb mb most true made (tags + 1) n m f ∧
         Al w' cb g' cap' vs (left S pa uq p ++ [⟨(tags : Int) + 1, pa, uq⟩]) ∧ Mod (fun k => k = hb ∨ k = cb ∨ k = g) w w' ∧ (g' = g ∨ w.heap.size ≤ g'))) := by
  obtain ⟨lp, hlp⟩ : ∃ x, pa.length = x := ⟨_, rfl⟩
  obtain ⟨o1, ho1⟩ : ∃ o, Obj.cells #[.int .i64 al, .slice A pa.length c, .int .i64 tg] 29 = o := ⟨_, rfl⟩
  obtain ⟨o2, ho2⟩ : ∃ o, Obj.cells #[.int .i64 0, .slice none 0 0, .int .i64 0] 29 = o := ⟨_, rfl⟩
  have B1 : Below w.heap.size w ((w.alloc o1).alloc o2) := ((Below.refl _ w).alloc (Nat.le_refl _) o1).alloc (by simp) o2
  have hN : (w.alloc o1).heap.size = w.heap.size + 1 := by simp
  have i1 : Is ((w.alloc o1).alloc o2) w.heap.size 29 #[.int .i64 al, .slice A pa.length c, .int .i64 tg] := by rw [← ho1]; exact (Is.made w _ _).alloc _
  have i2 : Is ((w.alloc o1).alloc o2) (w.heap.size + 1) 29 #[.int .i64 0, .slice none 0 0, .int .i64 0] := by rw [← ho2]; exact hN ▸ Is.made (w.alloc o1) _ _
  have HU := whole_any (h.below B1) hw hf (ha.below B1) tg (hp.below B1) hcc uq (hpl.below B1)
  obtain ⟨cur, hg, _⟩ := ha.stk.cells
  have HR := Lib.hid (And.intro ha.cell.lt hg.lt)
  have HA := Lib.hid ha
  have HPA := Lib.hid hp
  have H := Lib.hid h
  have HTS := Lib.hid hts
  obtain ⟨V, hV⟩ : ∃ V, (w.alloc o1).alloc o2 = V := ⟨_, rfl⟩
  rw [hV] at B1 i1 i2 HU
  have HV : Hid ((w.alloc (.cells #[.int .i64 al, .slice A lp c, .int .i64 tg] 29)).alloc (.cells #[.int .i64 0, .slice none 0 0, .int .i64 0] 29) = V) := by rw [← hlp, ho1, ho2]; exact hV
  have HLP := Lib.hid hlp
  rw [hlp] at HU hcc hpl' i1 ⊢
  have HU := Lib.hid HU
  have I1 := Lib.hid i1
  have I2 := Lib.hid i2
  have HB := Lib.hid B1
  have HH := Lib.hid (And.intro h.head.lt h.map.lt)
  clear h ha hp hw hf hpl ho1 ho2 hV B1 i1 i2 hlp hg hN hts
  go_enter Try.func12, Try.ntmps12
  go_wp2_with fail
  rw [HV.out]
  refine HU.out.mono ?_
  rintro e w2 ⟨p, b, hs, hc⟩
  rcases hc with ⟨h1, rfl, h3⟩ | ⟨h1, rfl, h3⟩
  · have hb2 : Below w.heap.size w w2 := HB.out.trans (h3.mono HB.out.size)
    have j1 := I2.out.below h3 I2.out.lt
    have r0 := j1.at_ 0
    have r1 := j1.at_ 1
    have r2 := j1.at_ 2
    have rf : ∀ i, w2.frozen? ⟨w.heap.size + 1, i, none⟩ = false := fun i => j1.free i
    simp at r0 r1 r2
    have HE : Hid (Srch S tg p b ∧ useOk S pa uq p b = false ∧ Below w.heap.size w w2) := ⟨hs, h1, hb2⟩
    clear hs h1 h3 hb2 j1 HU
    go_wp2
    refine bodyPost_ret (v := .tuple #[.agg #[.int .i64 0, .slice none 0 0, .int .i64 0], .int .i64 2]) (by simp [results, Try.results12, go_sem, r0, r1, r2]) rfl ?_
    refine ⟨p, b, HE.out.1, .inl ⟨HE.out.2.1, rfl, ?_⟩⟩
    exact ((HE.out.2.2.setCell (Nat.le_succ _) _).setCell (Nat.le_succ _) _).setCell (Nat.le_succ _) _
  · have hm : Mod (fun k => k = cb ∨ k = g) w w2 := (Mod.of HB.out).trans h3.mod
    have hni : ∀ k, (k = cb ∨ k = g) → ¬IntB w k := fun k e => by
      obtain ⟨cur, k1, _⟩ := HA.out.stk.cells
      rcases e with rfl | rfl
      · exact not_int HA.out.cell (by decide)
      · exact not_int k1 (by decide)
    obtain ⟨cur0, k1, _⟩ := HA.out.stk.cells
    have hne1 : ¬(hb = cb ∨ hb = g) := by
      rintro (e | e)
      · exact is_ne H.out.head HA.out.cell (by decide) e
      · exact is_ne H.out.head k1 (by decide) e
    have hne2 : ¬(mb = cb ∨ mb = g) := by
      obtain ⟨D, ⟨es, clock, h2, _⟩, _⟩ := H.out.map
      rintro (e | e)
      · have k := HA.out.cell
        unfold Is at k
        rw [← e, h2] at k
        cases k
      · unfold Is at k1
        rw [← e, h2] at k1
        cases k1
    have hh2 := H.out.mod hm hne1 hne2
    have hp2 := HPA.out.mod hm hni
    have hadd := hadd_any (c := c) hh2 ht h3.cell HA.out.seven (.inr ⟨g, cap, rfl, h3.stk⟩) (Nat.le_trans (left_le ..) (by omega)) hp2 (by rw [HLP.out]; exact hpl') uq
    rw [HLP.out] at hadd
    have HAD := Lib.hid hadd
    have j1 := h3.mod.is I1.out (fun e => by have := HR.out; omega)
    have j2 := h3.mod.is I2.out (fun e => by have := HR.out; omega)
    have J1 := Lib.hid j1
    have J2 := Lib.hid j2
    have r1 := j1.at_ 1
    simp at r1
    have HE : Hid (Srch S tg p b ∧ useOk S pa uq p b = true ∧ Used w w2 cb g cap vs (left S pa uq p)) := ⟨hs, h1, h3.cell, h3.stk, hm⟩
    have HP2 := Lib.hid hp2
    clear hs h1 h3 hm hni hne1 hne2 hh2 hp2 hadd j1 j2 HU k1
    go_wp2_with fail
    refine HAD.out.mono ?_
    rintro e w3 ⟨g', cap', rfl, a1, a2, a3, a4, a5⟩
    have hb0 : w.heap.size ≠ hb ∧ w.heap.size ≠ cb ∧ w.heap.size ≠ g ∧ w.heap.size + 1 ≠ hb ∧ w.heap.size + 1 ≠ cb ∧ w.heap.size + 1 ≠ g := by
      have h1 := HR.out
      have h2 := HH.out
      omega
    have hn1 : ¬(w.heap.size = hb ∨ w.heap.size = cb ∨ (Value.slice (some ⟨g, 0, none⟩) (left S pa uq p).length cap).ownBlock = some w.heap.size) := by
      rintro (e | e | e)
      · exact hb0.1 e
      · exact hb0.2.1 e
      · injection e with e; exact hb0.2.2.1 e.symm
    have hn2 : ¬(w.heap.size + 1 = hb ∨ w.heap.size + 1 = cb ∨ (Value.slice (some ⟨g, 0, none⟩) (left S pa uq p).length cap).ownBlock = some (w.heap.size + 1)) := by
      rintro (e | e | e)
      · exact hb0.2.2.2.1 e
      · exact hb0.2.2.2.2.1 e
      · injection e with e; exact hb0.2.2.2.2.2 e.symm
    have j1 := a4.is J1.out hn1
    have j2 := a4.is J2.out hn2
    have hp3 := HP2.out.mod a4 (by
      obtain ⟨cur, k1, _⟩ := HE.out.2.2.stk.cells
      rintro k (rfl | rfl | e)
      · exact not_int (H.out.head.of (HE.out.2.2.mod.block _ HH.out.1 (by
          obtain ⟨cur0, m1, _⟩ := HA.out.stk.cells
          rintro (e | e)
          · exact is_ne H.out.head HA.out.cell (by decide) e
          · exact is_ne H.out.head m1 (by decide) e))) (by decide)
      · exact not_int HE.out.2.2.cell (by decide)
      · injection e with e; subst e; exact not_int k1 (by decide))
    have hcl := clone_path (hp3.below (below_drw w3)) c (by rw [HLP.out]; exact hpl')
    rw [HLP.out] at hcl
    have HCL := Lib.hid hcl
    have q0 := j1.at_ 0
    have q1 := j1.at_ 1
    simp at q0 q1
    have J3 := Lib.hid j1
    have J4 := Lib.hid j2
    have HF := Lib.hid (And.intro a1 (And.intro a2 (And.intro a3 (And.intro a4 a5))))
    clear a1 a2 a3 a4 a5 hn1 hn2 j1 j2 hp3 hcl r1 HAD hb0
    go_wp2_with fail
    go_region_law
      (first
        | (go_simp; go_at_call 30; refine HCL.out.mono ?_; rintro e w4 ⟨A', c', rfl, hc', hpp, q4'⟩; have q4 : Hid (Below w3.heap.size w3 w4) := (below_drw w3).trans q4'; have j1 := Lib.hid (J3.out.below q4.out J3.out.lt); have j2 := Lib.hid (J4.out.below q4.out J4.out.lt); have s0 := j1.out.at_ 0; have t0 := j2.out.at_ 0; have t1 := j2.out.at_ 1; have t2 := j2.out.at_ 2; have tf : ∀ i, w4.frozen? ⟨w.heap.size + 1, i, none⟩ = false := (fun i => j2.out.free i); simp at s0 t0 t1 t2; clear q4'; have hc' := Lib.hid hc'; have hpp := Lib.hid hpp))
    all_goals
      have HG : Hid (lp ≤ c' ∧ PathAt (((w4.setCell ⟨w.heap.size + 1, 0, none⟩ (.int .i64 al)).setCell ⟨w.heap.size + 1, 1, none⟩ (.slice A' lp c')).setCell ⟨w.heap.size + 1, 2, none⟩ (.int .i64 ((tags : Int) + 1))) A' pa ∧ HpAt (((w4.setCell ⟨w.heap.size + 1, 0, none⟩ (.int .i64 al)).setCell ⟨w.heap.size + 1, 1, none⟩ (.slice A' lp c')).setCell ⟨w.heap.size + 1, 2, none⟩ (.int .i64 ((tags : Int) + 1))) hb mb most true made (tags + 1) n m f ∧ Al (((w4.setCell ⟨w.heap.size + 1, 0, none⟩ (.int .i64 al)).setCell ⟨w.heap.size + 1, 1, none⟩ (.slice A' lp c')).setCell ⟨w.heap.size + 1, 2, none⟩ (.int .i64 ((tags : Int) + 1))) cb g' cap' vs (left S pa uq p ++ [⟨(tags : Int) + 1, pa, uq⟩]) ∧ Mod (fun k => k = hb ∨ k = cb ∨ k = g) w (((w4.setCell ⟨w.heap.size + 1, 0, none⟩ (.int .i64 al)).setCell ⟨w.heap.size + 1, 1, none⟩ (.slice A' lp c')).setCell ⟨w.heap.size + 1, 2, none⟩ (.int .i64 ((tags : Int) + 1))) ∧ (g' = g ∨ w.heap.size ≤ g')) := by
        obtain ⟨a1, a2, a3, a4, a5⟩ := HF.out
        have hm5 : Mod (fun k => k = w.heap.size + 1) w4 (((w4.setCell ⟨w.heap.size + 1, 0, none⟩ (.int .i64 al)).setCell ⟨w.heap.size + 1, 1, none⟩ (.slice A' lp c')).setCell ⟨w.heap.size + 1, 2, none⟩ (.int .i64 ((tags : Int) + 1))) := (((Mod.refl (fun k => k = w.heap.size + 1) w4).put (fun _ => rfl) _ _).put (fun _ => rfl) _ _).put (fun _ => rfl) _ _
        have hri : ∀ k, k = w.heap.size + 1 → ¬IntB w4 k := fun k e => by subst e; exact not_int j2.out (by decide)
        have b1 := a1.below q4.out
        have b3 := a3.below q4.out
        have b2 := a2.below q4.out a2.lt
        obtain ⟨cur, k1, _⟩ := b3.cells
        have n1 : ¬(hb = w.heap.size + 1) := fun e => by have := HH.out; omega
        have n2 : ¬(mb = w.heap.size + 1) := fun e => by have := HH.out; omega
        have n3 : ¬(cb = w.heap.size + 1) := fun e => by have := HR.out; omega
        have n4 : ¬(g' = w.heap.size + 1) := fun e => by subst e; exact is_ne k1 j2.out (by decide) rfl
        refine ⟨hc'.out, hpp.out.mod hm5 hri, b1.mod hm5 n1 n2, ⟨?_, by simpa using b3.mod hm5 hri n4, HA.out.seven, ?_, ?_⟩, ?_, ?_⟩
        · rw [List.length_append]
          exact hm5.is b2 n3
        · rw [List.length_append]
          have := left_le S pa uq p
          simp only [List.length_singleton]
          omega
        · refine rise_snoc (left_rise HA.out.rise pa uq p) fun x hx => ?_
          have := HTS.out x ((left_sub S pa uq p).subset hx)
          show x.tag ≤ (tags : Int) + 1
          omega
        · refine (((HE.out.2.2.mod.mono fun _ _ h => .inr h).andThen a4 (fun i _ h => ?_)).andThen (S := fun k => k = hb ∨ k = cb ∨ k = g) (T := fun _ => False) (.of q4.out) (fun _ _ h => h.elim)).andThen hm5 (fun i h1 h2 => by omega)
          rcases h with h | h | h
          · exact .inl h
          · exact .inr (.inl h)
          · injection h with h; exact .inr (.inr h.symm)
        · rcases a5 with e | e
          · injection e with e; exact .inl e.symm
          · exact .inr (Nat.le_trans HE.out.2.2.mod.size e)
      have HE2 := Lib.hid (And.intro HE.out.1 HE.out.2.1)
      clear hc' hpp q4 j1 j2 q0 q1 HF HE HCL s0
      go_wp2
      refine bodyPost_ret (v := .tuple #[.agg #[.int .i64 al, .slice A' lp c', .int .i64 ((tags : Int) + 1)], .int .i64 0]) (by simp [results, Try.results12, go_sem, t0, t1, t2]) rfl ?_
      exact ⟨p, b, HE2.out.1, .inr ⟨HE2.out.2, A', c', g', cap', rfl, HG.out⟩⟩
end Hp
end Go.Proofs.Ytbhjdpaicfnfcaa

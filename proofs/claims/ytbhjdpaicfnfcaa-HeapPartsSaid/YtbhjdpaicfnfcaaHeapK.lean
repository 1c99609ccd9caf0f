/- Layer 13: a new allocation. -/
import Derived.Test.YtbhjdpaicfnfcaaHeapJ
namespace Go.Proofs.Ytbhjdpaicfnfcaa
open Go.RowKit Go.Deep Tr
namespace Hp
theorem wf_int {a : Int} (h : -9223372036854775808 ≤ a) (h' : a ≤ 9223372036854775807) : (Lit.int .i64 a).wf = true := by
  simp [Lit.wf, IntKind.min, IntKind.max, IntKind.signed, IntKind.bits]
  omega
theorem len_map {w : World} {hb mb : Nat} {most : Int} {watch : Bool} {made tags n m : Nat} {f : Int → Option Value} (h : HpAt w hb mb most watch made tags n m f) : (Builtin.len_ #[72] 3 #[.map (some mb)]).run Try.prog w = .ok (.int .i64 n) w := by
  obtain ⟨D, h1, _, hsz, _⟩ := h.map
  have := h1.len (t := 72) (e := 75) Try.underlying72 3
  rw [hsz] at this
  exact this
/-- What stays where all values' blocks stay. -/
def Stays (Q : List Value → World → Prop) : Prop := ∀ vs X Y, Q vs X → (∀ b cs, Is X b 34 cs → Is Y b 34 cs) → Q vs Y
set_option maxHeartbeats 8000000
set_option maxRecDepth 100000
theorem alloc_any {w : World} {hb mb : Nat} {most : Int} {made tags n m : Nat} {f : Int → Option Value} (h : HpAt w hb mb most true made tags n m f) (ht : tags ≤ 1000) (hmd : made ≤ 1000) (hmm : m ≤ 1000) (hn : (n : Int) < most) (hf : f made = none) {us : List Value} (h7 : us.length = 7) {Q : List Value → World → Prop} (hQ : Stays Q)
    (hcl : ∀ X, Below w.heap.size w X → Calls Try.prog 27 #[.agg us.toArray] X fun e w' => ∃ vs, e = .returned (.agg vs.toArray) ∧ vs.length = 7 ∧ Q vs w' ∧ Below X.heap.size X w') :
    Calls Try.prog 9 #[.pointer (some ⟨hb, 0, none⟩), .agg us.toArray] w fun e w' => ∃ vs cb g cap, e = .returned (.tuple #[.agg #[.int .i64 made, .slice none 0 0, .int .i64 ((tags + 1 : Nat) : Int)], .bool true]) ∧
      HpAt w' hb mb most true (made + 1) (tags + 1) (n + 1) (m + 1) (put f made (.pointer (some ⟨cb, 0, none⟩))) ∧ Al w' cb g cap vs [⟨((tags + 1 : Nat) : Int), [], true⟩] ∧ Q vs w' ∧ w.heap.size ≤ cb ∧ w.heap.size ≤ g ∧ Mod (fun k => k = hb ∨ k = mb) w w' := by
  obtain ⟨u0, u1, u2, u3, u4, u5, u6, rfl⟩ := seven h7
  obtain ⟨o1, ho1⟩ : ∃ o, Obj.cells #[u0, u1, u2, u3, u4, u5, u6] 34 = o := ⟨_, rfl⟩
  obtain ⟨o2, ho2⟩ : ∃ o, Obj.cells #[.int .i64 0, .slice none 0 0, .int .i64 0] 29 = o := ⟨_, rfl⟩
  have B2 : Below w.heap.size w ((w.alloc o1).alloc o2) := ((Below.refl _ w).alloc (Nat.le_refl _) o1).alloc (by simp) o2
  have hN : (w.alloc o1).heap.size = w.heap.size + 1 := by simp
  have i1 : Is ((w.alloc o1).alloc o2) w.heap.size 34 #[u0, u1, u2, u3, u4, u5, u6] := by rw [← ho1]; exact (Is.made w _ _).alloc _
  have i2 : Is ((w.alloc o1).alloc o2) (w.heap.size + 1) 29 #[.int .i64 0, .slice none 0 0, .int .i64 0] := by rw [← ho2]; exact hN ▸ Is.made (w.alloc o1) _ _
  obtain ⟨V, hV⟩ : ∃ V, (w.alloc o1).alloc o2 = V := ⟨_, rfl⟩
  rw [hV] at B2 i1 i2
  have HV : Hid ((w.alloc (.cells #[u0, u1, u2, u3, u4, u5, u6] 34)).alloc (.cells #[.int .i64 0, .slice none 0 0, .int .i64 0] 29) = V) := by rw [ho1, ho2]; exact hV
  have hK : ∀ X, Below V.heap.size V X → HpAt X hb mb most true made tags n m f ∧ Is X w.heap.size 34 #[u0, u1, u2, u3, u4, u5, u6] ∧ Is X (w.heap.size + 1) 29 #[.int .i64 0, .slice none 0 0, .int .i64 0] := fun X hX => ⟨(h.below B2).below hX, i1.below hX i1.lt, i2.below hX i2.lt⟩
  have HK := Lib.hid hK
  have h0 := (hK V (.refl _ _)).1.head.at_ 0
  have h4 := (hK V (.refl _ _)).1.head.at_ 4
  simp at h0 h4
  have hl : ∀ q, (Builtin.len_ #[72] 3 #[.map (some mb)]).run Try.prog (V.drewN q) = .ok (.int .i64 n) (V.drewN q) := fun q => len_map (w := V.drewN q) ⟨(h.below B2).head, (h.below B2).map⟩
  have HB := Lib.hid B2
  have HCL := Lib.hid hcl
  have HQ := Lib.hid hQ
  have HF := Lib.hid hf
  clear h hcl hQ hf h7 ho1 ho2 B2 hN i1 i2 hV hK
  go_enter Try.func9, Try.ntmps9
  go_wp2_with fail
  rw [HV.out]
  go_quiet (fail)
  rename_i nq
  obtain ⟨X, hX⟩ : ∃ X, V.drewN nq = X := ⟨_, rfl⟩
  rw [hX]
  have HXB : Hid (Below V.heap.size V X) := by rw [← hX]; exact below_drewN _ _
  obtain ⟨_, j1, _⟩ := HK.out X HXB.out
  have k0 := j1.at_ 0
  have k1 := j1.at_ 1
  have k2 := j1.at_ 2
  have k3 := j1.at_ 3
  have k4 := j1.at_ 4
  have k5 := j1.at_ 5
  have k6 := j1.at_ 6
  simp at k0 k1 k2 k3 k4 k5 k6
  clear j1 h0 h4 hl hX
  go_wp2_with fail
  refine (HCL.out X (HB.out.trans (HXB.out.mono HB.out.size))).mono ?_
  rintro e w1 ⟨vs, rfl, hv7, hq1, q1⟩
  obtain ⟨v0, v1, v2, v3, v4, v5, v6, rfl⟩ := seven hv7
  have HB1 := Lib.hid (HXB.out.trans (q1.mono HXB.out.size))
  have HQ1 := Lib.hid hq1
  obtain ⟨j1, _, j3⟩ := HK.out w1 HB1.out
  have g1 := j1.below ((Below.refl _ w1).alloc (Nat.le_refl _) (.cells #[v0, v1, v2, v3, v4, v5, v6, .slice none 0 0] 78))
  have c1 : Is (w1.alloc (.cells #[v0, v1, v2, v3, v4, v5, v6, .slice none 0 0] 78)) w1.heap.size 78 #[v0, v1, v2, v3, v4, v5, v6, .slice none 0 0] := Is.made w1 _ _
  have m2 := g1.head.at_ 2
  have mf : ∀ i, (w1.alloc (.cells #[v0, v1, v2, v3, v4, v5, v6, .slice none 0 0] 78)).frozen? ⟨hb, i, none⟩ = false := fun i => g1.head.free i
  simp at m2
  have g2 := g1.head.put 2 (.int .i64 ((made : Int) + 1))
  simp at g2
  have hm2 : Mod (fun k => k = hb) (w1.alloc (.cells #[v0, v1, v2, v3, v4, v5, v6, .slice none 0 0] 78)) ((w1.alloc (.cells #[v0, v1, v2, v3, v4, v5, v6, .slice none 0 0] 78)).setCell ⟨hb, 2, none⟩ (.int .i64 ((made : Int) + 1))) := (Mod.refl (fun k => k = hb) _).put (fun _ => rfl) _ _
  have g3 := g1.map.mod hm2 (fun e => g1.ne e.symm)
  have m4 := g2.at_ 4
  have hcb : w1.heap.size ≠ hb := fun e => by have := j1.head.lt; omega
  have hcm : w1.heap.size ≠ mb := fun e => by have := j1.map.lt; omega
  have c2 := hm2.is c1 hcb
  simp at m4
  have hwf : (Lit.int .i64 (made : Int)).wf = true := wf_int (by omega) (by omega)
  obtain ⟨Y2, hrun, g4, ht2⟩ := putI (t := 72) (e := 75) g3 Try.underlying3 Try.underlying72 (by unfold maxLen; omega) hwf (.pointer (some ⟨w1.heap.size, 0, none⟩))
  have hT2 : Mod (fun k => k = mb) _ Y2 := turned_mod ht2 rfl
  have hbm : hb ≠ mb := j1.ne
  have g5 : HpAt Y2 hb mb most true (made + 1) tags (n + 1) (m + 1) (put f made (.pointer (some ⟨w1.heap.size, 0, none⟩))) := by
    rw [HF.out] at g4
    exact ⟨by have := hT2.is g2 hbm; simpa using this, g4⟩
  have c5 := hT2.is c2 hcm
  have HA := Lib.hid (hadd_any (c := 0) g5 ht (vs := [v0, v1, v2, v3, v4, v5, v6]) (sv := .slice none 0 0) c5 rfl (.inl ⟨rfl, rfl⟩) (by simp) (PathAt.nil Y2 none) (by simp) true)
  simp only [List.length_nil, List.nil_append, Nat.zero_add] at HA
  have hMM : Mod (fun k => k = hb ∨ k = mb) w1 Y2 := (((Mod.refl (fun k => k = hb ∨ k = mb) w1).alloc _).andThen hm2 (fun _ _ h => .inl h)).andThen hT2 (fun _ _ h => .inr h)
  have H2 := Lib.hid hMM
  have HS2 : Hid (w1.heap.size + 1 ≤ Y2.heap.size) := by
    have h1 := hT2.size
    have h2 := hm2.size
    have h3 := size_al w1 (.cells #[v0, v1, v2, v3, v4, v5, v6, .slice none 0 0] 78)
    show _ ≤ _
    omega
  have J3 := Lib.hid j3
  have J1 := Lib.hid j1
  have HCN := Lib.hid (And.intro hcb hcm)
  clear q1 hq1 hv7 k0 k1 k2 k3 k4 k5 k6 HCL hMM c5 g5 hT2 c2 hcb hcm g3 hm2 g2 c1 g1 j3 j1 g4 ht2 hwf hbm
  go_wp2_with fail
  refine HA.out.mono ?_
  rintro e w2 ⟨g, cap, rfl, a1, a2, a3, a4, a5⟩
  have hrb : w.heap.size + 1 ≠ hb ∧ w.heap.size + 1 ≠ mb ∧ w.heap.size + 1 ≠ w1.heap.size := by
    refine ⟨fun e => is_ne J3.out J1.out.head (by decide) e, fun e => ?_, fun e => by have := J3.out.lt; omega⟩
    obtain ⟨D, ⟨es, clock, h2, _⟩, _⟩ := J1.out.map
    have k1' : w1.heap[w.heap.size + 1]? = _ := J3.out
    rw [e, h2] at k1'
    cases k1'
  have ib := a4.is (H2.out.is J3.out (fun e => e.elim hrb.1 hrb.2.1)) (fun e => by
    rcases e with e | e | e
    · exact hrb.1 e
    · exact hrb.2.2 e
    · cases e)
  have b0 := ib.at_ 0
  have b1 := ib.at_ 1
  have b2 := ib.at_ 2
  have bf : ∀ i, w2.frozen? ⟨w.heap.size + 1, i, none⟩ = false := fun i => ib.free i
  simp at b0 b1 b2
  have hg : w1.heap.size + 1 ≤ g := by
    rcases a5 with e | e
    · cases e
    · exact Nat.le_trans HS2.out e
  have hw1 : w.heap.size ≤ w1.heap.size := Nat.le_trans HB.out.size HB1.out.size
  have hm4 : Mod (fun k => k = w.heap.size + 1) w2 (((w2.setCell ⟨w.heap.size + 1, 0, none⟩ (.int .i64 made)).setCell ⟨w.heap.size + 1, 1, none⟩ (.slice none 0 0)).setCell ⟨w.heap.size + 1, 2, none⟩ (.int .i64 ((tags + 1 : Nat) : Int))) := (((Mod.refl (fun k => k = w.heap.size + 1) w2).put (fun _ => rfl) _ _).put (fun _ => rfl) _ _).put (fun _ => rfl) _ _
  have hri : ∀ k, k = w.heap.size + 1 → ¬IntB w2 k := fun k e => by subst e; exact not_int ib (by decide)
  have HR : Hid (HpAt (((w2.setCell ⟨w.heap.size + 1, 0, none⟩ (.int .i64 made)).setCell ⟨w.heap.size + 1, 1, none⟩ (.slice none 0 0)).setCell ⟨w.heap.size + 1, 2, none⟩ (.int .i64 ((tags + 1 : Nat) : Int))) hb mb most true (made + 1) (tags + 1) (n + 1) (m + 1) (put f made (.pointer (some ⟨w1.heap.size, 0, none⟩))) ∧ Al (((w2.setCell ⟨w.heap.size + 1, 0, none⟩ (.int .i64 made)).setCell ⟨w.heap.size + 1, 1, none⟩ (.slice none 0 0)).setCell ⟨w.heap.size + 1, 2, none⟩ (.int .i64 ((tags + 1 : Nat) : Int))) w1.heap.size g cap [v0, v1, v2, v3, v4, v5, v6] [⟨((tags + 1 : Nat) : Int), [], true⟩] ∧ Q [v0, v1, v2, v3, v4, v5, v6] (((w2.setCell ⟨w.heap.size + 1, 0, none⟩ (.int .i64 made)).setCell ⟨w.heap.size + 1, 1, none⟩ (.slice none 0 0)).setCell ⟨w.heap.size + 1, 2, none⟩ (.int .i64 ((tags + 1 : Nat) : Int))) ∧ w.heap.size ≤ w1.heap.size ∧ w.heap.size ≤ g ∧ Mod (fun k => k = hb ∨ k = mb) w (((w2.setCell ⟨w.heap.size + 1, 0, none⟩ (.int .i64 made)).setCell ⟨w.heap.size + 1, 1, none⟩ (.slice none 0 0)).setCell ⟨w.heap.size + 1, 2, none⟩ (.int .i64 ((tags + 1 : Nat) : Int)))) := by
    refine ⟨a1.mod hm4 (fun e => hrb.1 e.symm) (fun e => hrb.2.1 e.symm), ⟨hm4.is a2 (fun e => hrb.2.2 e.symm), a3.mod hm4 hri (fun e => ?_), rfl, by simp, fun i j hi hj _ => ?_⟩, ?_, hw1, by omega, ?_⟩
    · have := HV
      have := J3.out.lt
      omega
    · simp at hi hj
      subst hi hj
      exact Int.le_refl _
    · refine HQ.out _ _ _ HQ1.out (fun b cs hi => ?_)
      have hbb : b ≠ hb ∧ b ≠ mb := by
        refine ⟨fun e => is_ne hi J1.out.head (by decide) e, fun e => ?_⟩
        subst e
        obtain ⟨D, ⟨es, clock, h2, _⟩, _⟩ := J1.out.map
        have k1' : w1.heap[b]? = _ := hi
        rw [h2] at k1'
        cases k1'
      have i2 := H2.out.is hi (fun e => e.elim hbb.1 hbb.2)
      have i3 := a4.is i2 (fun e => by
        rcases e with e | e | e
        · exact hbb.1 e
        · have := hi.lt; omega
        · cases e)
      exact hm4.is i3 (fun e => by subst e; exact is_ne i3 ib (by decide) rfl)
    · refine ((((Mod.of (HB.out.trans (HB1.out.mono HB.out.size))).andThen H2.out (fun _ _ h => h)).andThen a4 (fun i hi h => ?_)).andThen hm4 (fun i hi h => ?_))
      · rcases h with h | h | h
        · exact .inl h
        · omega
        · cases h
      · omega
  clear a1 a2 a3 a4 a5 ib hrb hg hw1 hm4 hri HQ1 HA
  have HTG : Hid (((tags + 1 : Nat) : Int) = (tags : Int) + 1) := by show _ = _; simp
  rw [HTG.out] at HR ⊢
  go_wp2
  refine bodyPost_ret (v := .tuple #[.agg #[.int .i64 made, .slice none 0 0, .int .i64 ((tags : Int) + 1)], .bool true]) (by simp [results, Try.results9, go_sem, b0, b1, b2]) rfl ⟨_, _, _, _, rfl, HR.out⟩
theorem stays_leaf (k n al : Int) : Stays (fun vs _ => vs = leafC k n al) := fun _ _ _ h _ => h
theorem stays_two (B : Nat) (k n k' n' : Int) : Stays (fun vs X => ∃ q, B ≤ q ∧ vs = twoC q ∧ TwoIn X q k n k' n') := fun _ _ _ ⟨q, h0, h1, h2⟩ hs => ⟨q, h0, h1, hs _ _ h2⟩
end Hp
end Go.Proofs.Ytbhjdpaicfnfcaa

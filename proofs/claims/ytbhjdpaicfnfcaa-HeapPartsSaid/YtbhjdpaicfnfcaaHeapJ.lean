/- Layer 13: a right more. -/
import Derived.Deep.RegionLaw
import Derived.Test.YtbhjdpaicfnfcaaHeapI
import Derived.Test.YtbhjdpaicfnfcaaTypesX
namespace Go.Proofs.Ytbhjdpaicfnfcaa
open Go.RowKit Go.Deep Tr
namespace Hp
theorem info_hd : (Try.prog.info? 96).map (fun i => (i.zero, i.size, i.bytes)) = some (some zeroHd, 3, 40) := by kernel_rfl
theorem clone_path {w : World} {A : Option Addr} {l : List Int} (h : PathAt w A l) (c : Nat) (hl : l.length ≤ 100) :
    Calls Try.prog 30 #[.slice A l.length c] w fun e w' => ∃ A' c', e = .returned (.slice A' l.length c') ∧ l.length ≤ c' ∧ PathAt w' A' l ∧ Below w.heap.size w w' :=
  (Ts.clone_any (h.row c) (by omega)).mono fun e w' ⟨v', h1, h2, h3⟩ => by
    obtain ⟨A', c', rfl, _⟩ := own_slice h2
    obtain ⟨A'', c'', e', hL⟩ := (rowI_own h2).1
    injection e' with e1 e2 e3
    subst e1 e3
    refine ⟨A', c', h1, ?_, ⟨hL, fun h0 => ?_⟩, h3⟩
    · rcases h2.2 with ⟨e, h0⟩ | ⟨g, cap, cur, e, _, _, h4, _⟩
      · omega
      · injection e with _ _ e; omega
    · rcases h2.2 with ⟨e, h4⟩ | ⟨g, cap, cur, e, _, hb, _⟩
      · omega
      · injection e with e _ _
        exact ⟨⟨g, 0, none⟩, e, cur, _, hb⟩
/-- A stack that may be empty yet. -/
def StkV (w : World) (sv : Value) (S : List Hd) : Prop := (sv = .slice none 0 0 ∧ S = []) ∨ ∃ g cap, sv = .slice (some ⟨g, 0, none⟩) S.length cap ∧ Stk w g cap S
theorem StkV.below {w w' : World} {sv : Value} {S : List Hd} (h : StkV w sv S) (hb : Below w.heap.size w w') : StkV w' sv S := by
  rcases h with h | ⟨g, cap, e, h⟩
  · exact .inl h
  · exact .inr ⟨g, cap, e, h.below hb⟩
theorem StkV.own {w : World} {sv : Value} {S : List Hd} (h : StkV w sv S) : ∃ xs, w.ownsRow 0 96 3 sv S.length xs ∧ (sv.ownBlock = none ∧ xs = [] ∧ S = [] ∨ ∃ g cap cur, sv = .slice (some ⟨g, 0, none⟩) S.length cap ∧ Is w g 96 cur ∧ RowH w cur 0 S ∧ xs = cur.toList.take (S.length * 3) ∧ S.length * 3 ≤ cur.size) := by
  rcases h with ⟨rfl, rfl⟩ | ⟨g, cap, rfl, h⟩
  · exact ⟨[], World.ownsRow_nil _ _ _ _, .inl ⟨rfl, rfl, rfl⟩⟩
  · obtain ⟨cur, h1, h2, h3⟩ := h.cells
    have hle := h.le
    refine ⟨cur.toList.take (S.length * 3), ⟨?_, .inr ⟨g, cap, cur, rfl, Nat.zero_le _, h1, h.le, h.max, h2, rfl⟩⟩, .inr ⟨g, cap, cur, rfl, h1, h3, rfl, by omega⟩⟩
    rw [List.length_take, Array.length_toList (xs := cur)]
    omega
/-- Behind the append. -/
theorem stk_more {w w1 w2 : World} {sv : Value} {S : List Hd} {xs : List Value} {g' cap' : Nat} {r : Hd} {a b c : Value} (hS : StkV w sv S) (hl : S.length ≤ 900) (hx : w.ownsRow 0 96 3 sv S.length xs) (hb : Below w.heap.size w w1) (hr : HdAt w1 r [a, b, c]) (hg : w1.grownBy w2 sv.ownBlock)
    (ho : w2.ownsRow 0 96 3 (.slice (some ⟨g', 0, none⟩) (S.length + 1) cap') (S.length + 1) (xs ++ [a, b, c])) : Stk w2 g' cap' (S ++ [r]) := by
  have hm : Mod (fun k => sv.ownBlock = some k) w1 w2 := (Mod.refl _ _).grown hg fun i h _ => h
  have hni : ∀ k, sv.ownBlock = some k → ¬IntB w1 k := fun k hk => by
    rcases hS with ⟨rfl, _⟩ | ⟨g, cap, rfl, h⟩
    · cases hk
    · obtain ⟨cur, h1, _⟩ := h.cells
      injection hk with hk
      subst hk
      exact not_int (h1.below hb h1.lt) (by decide)
  rcases ho.2 with ⟨e, _⟩ | ⟨g, cap, cur, e, _, hh, h4, h5, h6, h7⟩
  · cases e
  injection e with e1 _ e3
  injection e1 with e1
  injection e1 with e1
  subst e1 e3
  refine ⟨⟨cur, hh, h6, fun i hi => ?_⟩, by simpa using h4, h5⟩
  have hcell : ∀ (q : Nat) (u : Value), (xs ++ [a, b, c])[q]? = some u → cur[q]? = some u := by
    intro q u hq
    rw [← h7, List.getElem?_take] at hq
    split at hq
    · rwa [Array.getElem?_toList] at hq
    · cases hq
  have hxl : xs.length = S.length * 3 := hx.1
  rw [List.length_append, List.length_singleton] at hi
  by_cases hiS : i < S.length
  · rcases hS with ⟨_, rfl⟩ | ⟨g, cap, rfl, h⟩
    · simp at hiS
    obtain ⟨cur0, k1, k2, k3⟩ := h.cells
    obtain ⟨cs, m1, m2⟩ := k3 i hiS
    refine ⟨cs, by rw [List.getElem_append_left hiS]; exact (m1.below hb).mod hm hni, fun j u hj => ?_⟩
    have hj3 : j < 3 := by rw [← m1.three.1]; exact (List.getElem?_eq_some_iff.1 hj).1
    have m3 := m2 j u hj
    rcases hx.2 with ⟨e, _⟩ | ⟨g0, cap0, cur1, e, _, hh0, _, _, _, n7⟩
    · cases e
    injection e with e1 _ _
    injection e1 with e1
    injection e1 with e1
    subst e1
    have k1' : w.heap[g]? = _ := k1
    rw [k1'] at hh0
    injection hh0 with hh0
    injection hh0 with hh0
    subst hh0
    refine hcell _ u ?_
    rw [List.getElem?_append_left (by omega), ← n7, List.getElem?_take, if_pos (by omega), Array.getElem?_toList]
    exact m3
  · have e : i = S.length := by omega
    subst e
    refine ⟨[a, b, c], by rw [List.getElem_append_right (Nat.le_refl _)]; simpa using hr.mod hm hni, fun j u hj => ?_⟩
    have hj3 : j < 3 := by have := (List.getElem?_eq_some_iff.1 hj).1; simpa using this
    refine hcell _ u ?_
    rw [List.getElem?_append_right (by omega), hxl, show 0 + S.length * 3 + j - S.length * 3 = j by omega]
    exact hj
set_option maxHeartbeats 8000000
set_option maxRecDepth 100000
theorem cadd_any {w : World} {cb : Nat} {vs : List Value} {sv : Value} {S : List Hd} (hc : Is w cb 78 (vs ++ [sv]).toArray) (h7 : vs.length = 7) (hS : StkV w sv S) (hl : S.length ≤ 900) (tg : Int) {A : Option Addr} {c : Nat} {pa : List Int} (hp : PathAt w A pa) (hpl : pa.length ≤ 100) (uq : Bool) :
    Calls Try.prog 47 #[.pointer (some ⟨cb, 0, none⟩), .int .i64 tg, .slice A pa.length c, .bool uq] w fun e w' => ∃ g cap, e = .returned (.tuple #[]) ∧ Is w' cb 78 (cellC vs g (S.length + 1) cap) ∧ Stk w' g cap (S ++ [⟨tg, pa, uq⟩]) ∧ Mod (fun k => k = cb ∨ sv.ownBlock = some k) w w' ∧ (sv.ownBlock = some g ∨ w.heap.size ≤ g) := by
  obtain ⟨v0, v1, v2, v3, v4, v5, v6, rfl⟩ := seven h7
  obtain ⟨xs, hx, _⟩ := hS.own
  obtain ⟨i0, hi, hzz⟩ := Option.map_eq_some_iff.1 info_hd
  simp only [Prod.mk.injEq] at hzz
  obtain ⟨hz0, hz1, hz2⟩ := hzz
  have HI := Lib.hid hi
  have HNE := Lib.hid (own_ne hx hc (by decide))
  have hKC : ∀ X, Below w.heap.size w X → X.cell? ⟨cb, 7, none⟩ = some sv ∧ X.frozen? ⟨cb, 7, none⟩ = false := fun X hX => by
    have := hc.below hX hc.lt
    exact ⟨by have h7 := this.at_ 7; simpa using h7, this.free 7⟩
  have hCL : ∀ X, Below w.heap.size w X → Calls Try.prog 30 #[.slice A pa.length c] X fun e w' => ∃ A' c', e = .returned (.slice A' pa.length c') ∧ pa.length ≤ c' ∧ PathAt w' A' pa ∧ Below X.heap.size X w' := fun X hX => clone_path (hp.below hX) c hpl
  obtain ⟨lp, hlp⟩ : ∃ x, pa.length = x := ⟨_, rfl⟩
  obtain ⟨n, hn⟩ : ∃ x, S.length = x := ⟨_, rfl⟩
  rw [hlp] at hCL hpl ⊢
  rw [hn] at hx hl ⊢
  have HLP := Lib.hid hlp
  have HN := Lib.hid hn
  have HX := Lib.hid hx
  have HS := Lib.hid hS
  have HC := Lib.hid hc
  have c7 := (hKC w (Below.refl _ _)).1
  have HKC := Lib.hid hKC
  have HCL := Lib.hid hCL
  clear hc hS hp hx hi hKC hCL hlp hn
  go_enter Try.func47, Try.ntmps47
  go_wp2_with fail
  go_region_law
    (first
      | (go_simp; go_at_call 30; refine (HCL.out _ (below_drw _)).mono ?_; rintro e w1 ⟨A', c', rfl, hcc, hpp, q1⟩; have HB1 := Lib.hid ((below_drw w).trans q1); have HP1 := Lib.hid (And.intro hcc hpp); have c7 := (HKC.out _ HB1.out).1; have c8 := (HKC.out (w1.alloc (.cells #[.int .i64 tg, .slice A' lp c', .bool uq] 96)) (HB1.out.alloc HB1.out.size _)).1; clear q1 hcc hpp)
      | (refine step_append_lies _ (by rfl) _ _ _ (by rfl) 0 96 i0 _ 3 40 Try.underlying54 HI.out hz0 hz1 hz2 rfl (by decide) sv n xs (by rfl) ((own_below HX.out HB1.out).alloc _) ⟨w1.heap.size, 0, none⟩ 1 1 [.int .i64 tg, .slice A' lp c', .bool uq] (by rfl) (by rfl) (World.news_of_block (cs := #[.int .i64 tg, .slice A' lp c', .bool uq]) (t := 96) (fr := (0, 0)) (heap_alloc_new w1 _)) (by simp [Value.oneCell']) (by decide) (by unfold maxLen; omega) (by omega) (by simp) (w1.heap.size + 1) (by simp) ?_; intro gg cap' w3 hown1 hgrow hat hlt3; have ic := Lib.hid (((HC.out.below HB1.out HC.out.lt).alloc _).grown hgrow (fun e => HNE.out e.symm)); have d7 := ic.out.at_ 7; have f7 := ic.out.free 7; simp only [List.getElem?_toArray, List.cons_append, List.nil_append, List.getElem?_cons_zero, List.getElem?_cons_succ] at d7))
  all_goals
    have HF : Hid (Is (w3.setCell ⟨cb, 7, none⟩ (.slice (some ⟨gg, 0, none⟩) (n + 1) cap')) cb 78 (cellC [v0, v1, v2, v3, v4, v5, v6] gg (n + 1) cap') ∧ Stk (w3.setCell ⟨cb, 7, none⟩ (.slice (some ⟨gg, 0, none⟩) (n + 1) cap')) gg cap' (S ++ [⟨tg, pa, uq⟩]) ∧ Mod (fun k => k = cb ∨ sv.ownBlock = some k) w (w3.setCell ⟨cb, 7, none⟩ (.slice (some ⟨gg, 0, none⟩) (n + 1) cap')) ∧ (sv.ownBlock = some gg ∨ w.heap.size ≤ gg)) := by
      have hst := stk_more HS.out (by rw [HN.out]; exact hl) (by rw [HN.out]; exact HX.out) (w1 := w1.alloc (.cells #[.int .i64 tg, .slice A' lp c', .bool uq] 96)) (HB1.out.alloc HB1.out.size _) (r := ⟨tg, pa, uq⟩) ⟨A', c', by rw [HLP.out], by rw [HLP.out]; exact HP1.out.1, HP1.out.2.below ((Below.refl _ w1).alloc (Nat.le_refl _) _)⟩ hgrow (by rw [HN.out]; exact hown1)
      have hne : gg ≠ cb := fun e => by
        obtain ⟨cur, k1, _⟩ := hst.cells
        exact is_ne k1 ic.out (by decide) e
      have hm : Mod (fun k => k = cb ∨ sv.ownBlock = some k) w w3 := (Mod.of (HB1.out.alloc HB1.out.size _)).grown hgrow (fun i h _ => .inr h)
      refine ⟨?_, hst.mod (P := fun k => k = cb) ((Mod.refl (fun k => k = cb) w3).put (fun _ => rfl) _ _) (fun k e => by subst e; exact not_int ic.out (by decide)) hne, hm.put (fun _ => .inl rfl) _ _, hat.imp id fun e => by rw [e]; have := HB1.out.size; omega⟩
      have := ic.out.put 7 (.slice (some ⟨gg, 0, none⟩) (n + 1) cap')
      simpa [cellC] using this
    clear hown1 hgrow hat hlt3 ic d7 f7 c7 c8
    go_wp2
    refine bodyPost_end (v := .tuple #[]) (results_none (by kernel_rfl) _ _ _) rfl ⟨_, _, rfl, HF.out⟩
theorem hadd_any {w : World} {hb mb : Nat} {most : Int} {made tags n m : Nat} {f : Int → Option Value} (h : HpAt w hb mb most true made tags n m f) (ht : tags ≤ 1000) {cb : Nat} {vs : List Value} {sv : Value} {S : List Hd} (hc : Is w cb 78 (vs ++ [sv]).toArray) (h7 : vs.length = 7) (hS : StkV w sv S) (hl : S.length ≤ 900) {A : Option Addr} {c : Nat} {pa : List Int} (hp : PathAt w A pa) (hpl : pa.length ≤ 100) (uq : Bool) :
    Calls Try.prog 28 #[.pointer (some ⟨hb, 0, none⟩), .pointer (some ⟨cb, 0, none⟩), .slice A pa.length c, .bool uq] w fun e w' => ∃ g cap, e = .returned (.int .i64 ((tags + 1 : Nat) : Int)) ∧ HpAt w' hb mb most true made (tags + 1) n m f ∧ Is w' cb 78 (cellC vs g (S.length + 1) cap) ∧ Stk w' g cap (S ++ [⟨((tags + 1 : Nat) : Int), pa, uq⟩]) ∧ Mod (fun k => k = hb ∨ k = cb ∨ sv.ownBlock = some k) w w' ∧ (sv.ownBlock = some g ∨ w.heap.size ≤ g) := by
  have h1 := h.head.at_ 1
  have h3 := h.head.at_ 3
  have hf : ∀ i, w.frozen? ⟨hb, i, none⟩ = false := fun i => h.head.free i
  simp at h1 h3
  have hm : Mod (fun k => k = hb) w (w.setCell ⟨hb, 3, none⟩ (.int .i64 ((tags : Int) + 1))) := (Mod.refl (fun k => k = hb) w).put (fun _ => rfl) _ _
  have hh : Is (w.setCell ⟨hb, 3, none⟩ (.int .i64 ((tags : Int) + 1))) hb 74 #[.int .i64 most, .bool true, .int .i64 made, .int .i64 ((tags : Int) + 1), .map (some mb)] := by
    have := h.head.put 3 (.int .i64 ((tags : Int) + 1))
    simpa using this
  have g3 := hh.at_ 3
  simp at g3
  have hcb : cb ≠ hb := fun e => is_ne hc h.head (by decide) e
  have hni : ∀ k, k = hb → ¬IntB w k := fun k e => by subst e; exact not_int h.head (by decide)
  have hS' : StkV (w.setCell ⟨hb, 3, none⟩ (.int .i64 ((tags : Int) + 1))) sv S := by
    rcases hS with hS | ⟨g, cap, e, hS⟩
    · exact .inl hS
    · obtain ⟨cur, k1, _⟩ := hS.cells
      exact .inr ⟨g, cap, e, hS.mod hm hni (fun e => is_ne k1 h.head (by decide) e)⟩
  have HA := Lib.hid (cadd_any (hm.is hc hcb) h7 hS' hl ((tags : Int) + 1) (c := c) (hp.mod hm hni) hpl uq)
  have hso : ∀ k, sv.ownBlock = some k → k ≠ hb ∧ k ≠ mb := fun k hk => by
    rcases hS with ⟨rfl, _⟩ | ⟨g, cap, rfl, hS⟩
    · cases hk
    · obtain ⟨cur, k1, _⟩ := hS.cells
      injection hk with hk
      subst hk
      refine ⟨fun e => is_ne k1 h.head (by decide) e, fun e => ?_⟩
      subst e
      obtain ⟨D, ⟨es, clock, h2, _⟩, _⟩ := h.map
      have k1' : w.heap[g]? = _ := k1
      rw [k1'] at h2
      cases h2
  have hcm : cb ≠ mb := fun e => by
    subst e
    obtain ⟨D, ⟨es, clock, h2, _⟩, _⟩ := h.map
    have k1' : w.heap[cb]? = _ := hc
    rw [k1'] at h2
    cases h2
  have HM := Lib.hid hm
  have HH := Lib.hid hh
  have HE := Lib.hid (And.intro hso hcm)
  have H := Lib.hid h
  have HCB := Lib.hid hcb
  clear h hc hS hp hm hh hni hS' hso hcm hcb
  go_enter Try.func28, Try.ntmps28
  go_wp2_with fail
  refine HA.out.mono ?_
  rintro e w2 ⟨g, cap, rfl, q1, q2, q3, q4⟩
  have hhead := q3.is HH.out (fun e => by
    rcases e with e | e
    · exact HCB.out e.symm
    · exact (HE.out.1 _ e).1 rfl)
  have hmap := (H.out.map.mod HM.out (fun e => H.out.ne e.symm)).mod q3 (fun e => by
    rcases e with e | e
    · exact HE.out.2 e.symm
    · exact (HE.out.1 _ e).2 rfl)
  have HR : Hid (HpAt w2 hb mb most true made (tags + 1) n m f ∧ Is w2 cb 78 (cellC vs g (S.length + 1) cap) ∧ Stk w2 g cap (S ++ [⟨((tags + 1 : Nat) : Int), pa, uq⟩]) ∧ Mod (fun k => k = hb ∨ k = cb ∨ sv.ownBlock = some k) w w2 ∧ (sv.ownBlock = some g ∨ w.heap.size ≤ g)) := by
    refine ⟨⟨by simpa using hhead, hmap⟩, q1, by simpa using q2, (HM.out.mono fun k _ hk => .inl hk).andThen q3 (fun i _ hi => .inr hi), q4.imp id fun h => by simpa [World.setCell] using h⟩
  have r3 := hhead.at_ 3
  simp at r3
  clear q1 q2 q3 q4 hhead hmap HA
  go_wp2
  go_ret
  exact ⟨g, cap, by simp, HR.out⟩
end Hp
end Go.Proofs.Ytbhjdpaicfnfcaa

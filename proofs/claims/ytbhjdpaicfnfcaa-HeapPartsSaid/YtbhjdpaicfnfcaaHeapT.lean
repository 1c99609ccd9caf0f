/- Layer 13: a Box of a Box of a Box .. let go. -/
import Derived.Deep.AppendLies
import Derived.Test.YtbhjdpaicfnfcaaHeapO
import Derived.Test.YtbhjdpaicfnfcaaHeapN
namespace Go.Proofs.Ytbhjdpaicfnfcaa
open Go.RowKit Go.Deep Tr
namespace Hp
/-- The first one is a number; each other one a Box of the one ahead of it. -/
def chainC (x : Int) (i : Nat) : List Value := match i with | 0 => leafC 2 x 0 | i + 1 => leafC 6 0 i
def ChD (w : World) (f : Int → Option Value) (d : Nat) (x : Int) : Prop := ∀ i : Nat, i ≤ d → ∃ cb g sz cap, f i = some (.pointer (some ⟨cb, 0, none⟩)) ∧ Is w cb 78 (cellC (chainC x i) g sz cap)
/-- What is left when all from number j on are gone. -/
def upto (f : Int → Option Value) (j : Nat) : Int → Option Value := fun i => if i < j then f i else none
theorem ChD.mod {S : Nat → Prop} {w w' : World} {f : Int → Option Value} {d : Nat} {x : Int} (h : ChD w f d x) (hm : Mod S w w') (hS : ∀ k cs, Is w k 78 cs → ¬S k) : ChD w' f d x := fun i hi => by
  obtain ⟨cb, g, sz, cap, h1, h2⟩ := h i hi
  exact ⟨cb, g, sz, cap, h1, hm.is h2 (hS _ _ h2)⟩
/-- Where the work stands. -/
structure Wk (w wr : World) (hb mb : Nat) (most : Int) (watch : Bool) (made tags m : Nat) (f : Int → Option Value) (d : Nat) (x : Int) (N : Nat) (s : Value) (j : Nat) : Prop where
  hp : HpAt wr hb mb most watch made tags j m (upto f j)
  own : wr.ownsRow N 34 7 s 1 (chainC x j)
  ch : ChD wr f d x
  mod : Mod (fun k => k = mb) w wr
  box : ∃ cs, Is wr N 34 cs ∧ cs.size = 7
  ne : s.ownBlock ≠ some N
  low : w.heap.size = N
theorem not_cell {w : World} {P : Program} {k b n m : Nat} {f : Int → Option Value} {t : TypeId} {cs : Array Value} (h : MapIn w P k b n m f) {c : Nat} (hc : Is w c t cs) : c ≠ b := by
  rintro rfl
  obtain ⟨D, ⟨es, clock, h2, _⟩, _⟩ := h
  have hc' : w.heap[c]? = _ := hc
  rw [h2] at hc'
  cases hc'
set_option maxHeartbeats 8000000
set_option maxRecDepth 100000
theorem drop_chain {w : World} {hb mb : Nat} {most : Int} {watch : Bool} {made tags m : Nat} {f : Int → Option Value} {d : Nat} {x : Int} (h : HpAt w hb mb most watch made tags (d + 1) m f) (hd : d ≤ 100) (hch : ChD w f d x) (hno : ∀ j : Int, (j < 0 ∨ (d : Int) < j) → f j = none) :
    Calls Try.prog 22 #[.pointer (some ⟨hb, 0, none⟩), .agg (leafC 6 0 d).toArray] w fun e w' => e = .returned (.int .i64 0) ∧ HpAt w' hb mb most watch made tags 0 m (upto f 0) ∧ Mod (fun k => k = mb) w w' := by
  unfold leafC
  go_enter Try.func22, Try.ntmps22
  go_wp2
  obtain ⟨N, hN⟩ : ∃ N, w.heap.size = N := ⟨_, rfl⟩
  have HN := Lib.hid hN
  obtain ⟨W2, hW2⟩ : ∃ W2, ((w.alloc (.cells #[.int .i64 6, .int .u64 0, .string ⟨#[]⟩, .slice none 0 0, .int .i64 d, .slice none 0 0, .int .i64 0] 34)).alloc (.cells #[.int .i64 6, .int .u64 0, .string ⟨#[]⟩, .slice none 0 0, .int .i64 d, .slice none 0 0, .int .i64 0] 34)) = W2 := ⟨_, rfl⟩
  have HQ : Hid (Wk w W2 hb mb most watch made tags m f d x N (.slice (some ⟨N + 1, 0, none⟩) 1 1) (d + 1)) := by
    subst hN
    have hb2 : Below w.heap.size w W2 := by rw [← hW2]; exact ((Below.refl _ w).alloc (Nat.le_refl _) _).alloc (by simp) _
    have e : upto f (d + 1) = f := by
      funext i
      unfold upto
      split
      · rfl
      · rename_i hi
        exact (hno i (.inr (by omega))).symm
    have i2 : Is W2 (w.heap.size + 1) 34 #[.int .i64 6, .int .u64 0, .string ⟨#[]⟩, .slice none 0 0, .int .i64 d, .slice none 0 0, .int .i64 0] := by
      rw [← hW2]
      have := Is.made (w.alloc (.cells #[.int .i64 6, .int .u64 0, .string ⟨#[]⟩, .slice none 0 0, .int .i64 d, .slice none 0 0, .int .i64 0] 34)) 34 #[.int .i64 6, .int .u64 0, .string ⟨#[]⟩, .slice none 0 0, .int .i64 d, .slice none 0 0, .int .i64 0]
      simp only [size_al] at this
      exact this
    refine ⟨by rw [e]; exact h.below hb2, ⟨rfl, .inr ⟨w.heap.size + 1, 1, _, rfl, Nat.le_succ _, i2, Nat.le_refl _, by decide, rfl, rfl⟩⟩, hch.mod (.of hb2 : Mod (fun _ => False) w W2) (fun _ _ _ h => h), .of hb2, ⟨_, by rw [← hW2]; exact (Is.made w _ _).alloc _, rfl⟩, by simp [Value.ownBlock], rfl⟩
  rw [hW2, hN]
  clear hW2 hN h hch hno
  go_loopg [5] (d + 3) (fun gk s wr => (∃ j : Nat, j ≤ d + 1 ∧ j + 2 ≤ gk ∧ (∃ k c, s = .slice (some ⟨k, 0, none⟩) 1 c) ∧ Hid (Wk w wr hb mb most watch made tags m f d x N s j)) ∨ ((∃ k c, s = .slice (some ⟨k, 0, none⟩) 0 c) ∧ 0 < gk ∧ Hid (HpAt wr hb mb most watch made tags 0 m (upto f 0) ∧ Mod (fun k => k = mb) w wr)))
  case atStart => exact .inl ⟨d + 1, Nat.le_refl _, by omega, ⟨_, _, rfl⟩, HQ⟩
  clear HQ
  case round =>
    rcases hrel with ⟨j, hj, hgk, ⟨k, c, rfl⟩, HJ⟩ | ⟨⟨k, c, rfl⟩, hgk, HJ⟩
    · have own := HJ.out.own
      obtain ⟨csb, hib, hszb⟩ := HJ.out.box
      match csb, hszb with
      | ⟨[m0, m1, m2, m3, m4, m5, m6]⟩, _ =>
      have n0 := hib.at_ 0
      have n1 := hib.at_ 1
      have n2 := hib.at_ 2
      have n3 := hib.at_ 3
      have n4 := hib.at_ 4
      have n5 := hib.at_ 5
      have n6 := hib.at_ 6
      have mf : ∀ i, wr.frozen? ⟨N, i, none⟩ = false := fun i => hib.free i
      simp at n0 n1 n2 n3 n4 n5 n6
      have c0 := own.cellAt 0 (by decide)
      have c1 := own.cellAt 1 (by decide)
      have c2 := own.cellAt 2 (by decide)
      have c3 := own.cellAt 3 (by decide)
      have c4 := own.cellAt 4 (by decide)
      have c5 := own.cellAt 5 (by decide)
      have c6 := own.cellAt 6 (by decide)
      cases j with
      | zero =>
        simp [chainC, leafC] at c0 c1 c2 c3 c4 c5 c6
        clear own hib
        go_wp2_with fail
        go_region_law (fail)
        all_goals
          have HZ : Hid (HpAt (((((((wr.setCell ⟨N, 0, none⟩ (.int .i64 2)).setCell ⟨N, 1, none⟩ (.int .u64 x)).setCell ⟨N, 2, none⟩ (.string ⟨#[]⟩)).setCell ⟨N, 3, none⟩ (.slice none 0 0)).setCell ⟨N, 4, none⟩ (.int .i64 0)).setCell ⟨N, 5, none⟩ (.slice none 0 0)).setCell ⟨N, 6, none⟩ (.int .i64 0)).drew hb mb most watch made tags 0 m (upto f 0) ∧ Mod (fun k => k = mb) w (((((((wr.setCell ⟨N, 0, none⟩ (.int .i64 2)).setCell ⟨N, 1, none⟩ (.int .u64 x)).setCell ⟨N, 2, none⟩ (.string ⟨#[]⟩)).setCell ⟨N, 3, none⟩ (.slice none 0 0)).setCell ⟨N, 4, none⟩ (.int .i64 0)).setCell ⟨N, 5, none⟩ (.slice none 0 0)).setCell ⟨N, 6, none⟩ (.int .i64 0)).drew) := by
            have hm8 : Mod (fun k => k = N) wr (((((((wr.setCell ⟨N, 0, none⟩ (.int .i64 2)).setCell ⟨N, 1, none⟩ (.int .u64 x)).setCell ⟨N, 2, none⟩ (.string ⟨#[]⟩)).setCell ⟨N, 3, none⟩ (.slice none 0 0)).setCell ⟨N, 4, none⟩ (.int .i64 0)).setCell ⟨N, 5, none⟩ (.slice none 0 0)).setCell ⟨N, 6, none⟩ (.int .i64 0)).drew := Mod.drew ((((((((Mod.refl (fun k => k = N) wr).put (fun _ => rfl) _ _).put (fun _ => rfl) _ _).put (fun _ => rfl) _ _).put (fun _ => rfl) _ _).put (fun _ => rfl) _ _).put (fun _ => rfl) _ _).put (fun _ => rfl) _ _)
            obtain ⟨csb, hib, _⟩ := HJ.out.box
            exact ⟨HJ.out.hp.mod hm8 (fun e => is_ne HJ.out.hp.head hib (by decide) e) (fun e => not_cell HJ.out.hp.map hib e.symm), HJ.out.mod.andThen hm8 (fun i h1 h2 => by have := HJ.out.low; omega)⟩
          go_wp2
          go_roundg 1
          case measure => omega
          case rel => exact .inr ⟨⟨k, c, rfl⟩, by omega, HZ⟩
      | succ i =>
        simp [chainC, leafC] at c0 c1 c2 c3 c4 c5 c6
        obtain ⟨cb, g, sz, cap, hfi, hcb⟩ := HJ.out.ch i (by omega)
        obtain ⟨v0, v1, v2, v3, v4, v5, v6, hvs⟩ := seven (show (chainC x i).length = 7 by cases i <;> rfl)
        have hone : ∀ u ∈ [v0, v1, v2, v3, v4, v5, v6], u.oneCell' = true := by
          rw [← hvs]
          intro u hu
          cases i <;> (simp [chainC, leafC] at hu; rcases hu with rfl | rfl | rfl | rfl | rfl | rfl | rfl <;> rfl)
        obtain ⟨X8, hX8⟩ : ∃ X8, (((((((wr.setCell ⟨N, 0, none⟩ (.int .i64 6)).setCell ⟨N, 1, none⟩ (.int .u64 0)).setCell ⟨N, 2, none⟩ (.string ⟨#[]⟩)).setCell ⟨N, 3, none⟩ (.slice none 0 0)).setCell ⟨N, 4, none⟩ (.int .i64 (i : Int))).setCell ⟨N, 5, none⟩ (.slice none 0 0)).setCell ⟨N, 6, none⟩ (.int .i64 0)).drew = X8 := ⟨_, rfl⟩
        have hm8 : Mod (fun k => k = N) wr X8 := by rw [← hX8]; exact Mod.drew ((((((((Mod.refl (fun k => k = N) wr).put (fun _ => rfl) _ _).put (fun _ => rfl) _ _).put (fun _ => rfl) _ _).put (fun _ => rfl) _ _).put (fun _ => rfl) _ _).put (fun _ => rfl) _ _).put (fun _ => rfl) _ _)
        have hp8 := HJ.out.hp.mod hm8 (fun e => is_ne HJ.out.hp.head hib (by decide) e) (fun e => not_cell HJ.out.hp.map hib e.symm)
        have own8 := own.kept (w' := X8) (row := some N) ⟨hm8.os, hm8.tape, hm8.output, hm8.size, fun b hb hn => hm8.block b hb (fun e => hn (by rw [e]))⟩ (.inr HJ.out.ne)
        have hib8 : ∃ cs, Is X8 N 34 cs ∧ cs.size = 7 ∧ cs[4]? = some (.int .i64 (i : Int)) := by
          rw [← hX8]
          refine ⟨_, (((((((hib.put 0 (.int .i64 6)).put 1 (.int .u64 0)).put 2 (.string ⟨#[]⟩)).put 3 (.slice none 0 0)).put 4 (.int .i64 (i : Int))).put 5 (.slice none 0 0)).put 6 (.int .i64 0)).drew, by simp, by simp⟩
        obtain ⟨cs8, hib8, hsz8, h48⟩ := hib8
        have hcb8 := hm8.is hcb (fun e => is_ne hcb hib (by decide) e)
        have hch8 := HJ.out.ch.mod hm8 (fun k cs h e => is_ne h hib (by decide) e)
        have hwf : (Lit.int .i64 (i : Int)).wf = true := wf_int (by omega) (by omega)
        have hfd := find_any hp8 (i : Int) hwf cb (by unfold upto; rw [if_pos (by omega)]; exact hfi)
        obtain ⟨Y, hrun, hY, hturn⟩ := delI (t := 72) (e := 75) (w := X8.drew) (hp8.map.mod (Mod.drew (Mod.refl (fun _ => False) X8)) (fun e => e)) Try.underlying3 Try.underlying72 hwf 0
        have hmY : Mod (fun k => k = mb) X8 Y := (Mod.drew (Mod.refl (fun k => k = mb) X8)).trans (turned_mod hturn rfl)
        have e48 : X8.cell? ⟨N, 4, none⟩ = some (.int .i64 (i : Int)) := by rw [hib8.at_, h48]
        have h4 := hp8.head.at_ 4
        simp at h4
        have hcY := hmY.is hcb8 (not_cell hp8.map hcb8)
        have hN := hmY.is hib8 (not_cell hp8.map hib8)
        have k0 := hcY.at_ 0
        have k1 := hcY.at_ 1
        have k2 := hcY.at_ 2
        have k3 := hcY.at_ 3
        have k4 := hcY.at_ 4
        have k5 := hcY.at_ 5
        have k6 := hcY.at_ 6
        simp [cellC, hvs] at k0 k1 k2 k3 k4 k5 k6
        have hown8 : X8.ownsRow N 34 7 (.slice (some ⟨k, 0, none⟩) 0 c) 0 [] := by
          obtain ⟨_, ho⟩ := own8
          rcases ho with ⟨e, _⟩ | ⟨g, cap, cur, e, h1, h2, h3, h4, h5, _⟩
          · cases e
          · injection e with e1 _ e3
            injection e1 with e1
            injection e1 with e1
            subst e1 e3
            exact ⟨rfl, .inr ⟨k, c, cur, rfl, h1, h2, Nat.zero_le _, h4, h5, rfl⟩⟩
        have hownY := hown8.kept (w' := Y) (row := some mb) ⟨hmY.os, hmY.tape, hmY.output, hmY.size, fun b hb hn => hmY.block b hb (fun e => hn (by rw [e]))⟩ (.inr (fun e => by
          injection e with e
          rcases hown8.2 with ⟨e', _⟩ | ⟨g', cap', cur', e', _, h2, _⟩
          · cases e'
          · injection e' with e1 _ _
            injection e1 with e1
            injection e1 with e1
            subst e1
            exact not_cell hp8.map (show Is X8 k 34 cur' from h2) e))
        have HY : Hid (HpAt Y hb mb most watch made tags i m (upto f i)) := by
          refine ⟨hmY.is hp8.head hp8.ne, ?_⟩
          have e1 : upto f (i + 1) (i : Int) = some (.pointer (some ⟨cb, 0, none⟩)) := by unfold upto; rw [if_pos (by omega)]; exact hfi
          rw [e1] at hY
          have e2 : del (upto f (i + 1)) (i : Int) = upto f i := by
            funext t
            unfold del upto
            by_cases ht : t = (i : Int)
            · rw [if_pos ht, if_neg (by omega)]
            · rw [if_neg ht]
              by_cases h2 : t < ((i + 1 : Nat) : Int)
              · rw [if_pos h2, if_pos (by omega)]
              · rw [if_neg h2, if_neg (by omega)]
          rw [e2] at hY
          simpa using hY
        obtain ⟨i0, hi0, hzz⟩ := Option.map_eq_some_iff.1 info_val
        simp only [Prod.mk.injEq] at hzz
        obtain ⟨hz0, hz1, hz2⟩ := hzz
        have HI := Lib.hid hi0
        have HFD := Lib.hid hfd
        have HOY := Lib.hid hownY
        have HONE := Lib.hid hone
        have HX8 := Lib.hid hX8
        have HS := Lib.hid (And.intro hm8 (And.intro hmY (And.intro hch8 (And.intro hN (And.intro hsz8 hvs)))))
        have HNB := Lib.hid (And.intro hp8.map hib8)
        have HSZ : Hid (N ≤ Y.heap.size) := by
          have h1 := HJ.out.low
          have h2 := HJ.out.mod.size
          have h3 := hm8.size
          have h4 := hmY.size
          show N ≤ _
          omega
        clear own hib hm8 hp8 own8 hib8 h48 hsz8 hcb8 hch8 hfd hY hturn hmY hcY hN hown8 hownY hi0 hone hX8 hcb hfi hvs hwf
        go_wp2_with fail
        go_region_law (fail)
        all_goals
          go_wp2_with fail
          rw [HX8.out]
          refine HFD.out.mono ?_
          rintro e w5 ⟨rfl, rfl⟩
          go_wp2_with fail
          go_region_law (fail)
          all_goals
            go_wp2_with (at_builtin; refine wpList_append_lies _ rfl (.tmp 52) (.tmp 57) 32 rfl N 34 i0 zeroVal 7 96 Try.underlying32 HI.out hz0 hz1 hz2 rfl (by decide) _ _ _ rfl (HOY.out.alloc _) ⟨Y.heap.size, 0, none⟩ 1 1 [v0, v1, v2, v3, v4, v5, v6] rfl rfl (cells_made _ _ _) HONE.out (by decide) (by decide) (by decide) (by have := HSZ.out; simp; omega) _ rfl ?_)
            intro gg cap' w6 ho6 hg6 hat _
            have HR : Hid (Wk w w6 hb mb most watch made tags m f d x N (.slice (some ⟨gg, 0, none⟩) 1 cap') i) := by
              obtain ⟨hm8, hmY, hch8, hN, hsz8, hvs⟩ := HS.out
              have hbk : (Value.slice (some ⟨k, 0, none⟩) 0 c).ownBlock = some k := rfl
              have hk : k ≠ N := fun e => HJ.out.ne (by rw [e]; rfl)
              have hm6 : Mod (fun b => b = k) Y w6 := ((Mod.refl (fun b => b = k) Y).alloc _).grown hg6 (fun i h _ => by injection h with h; exact h.symm)
              obtain ⟨curk, hik⟩ : ∃ cur, Is Y k 34 cur := by
                rcases HOY.out.2 with ⟨e', _⟩ | ⟨g', cap'', cur', e', _, h2, _⟩
                · cases e'
                · injection e' with e1 _ _
                  injection e1 with e1
                  injection e1 with e1
                  subst e1
                  exact ⟨_, h2⟩
              refine ⟨HY.out.mod hm6 (fun e => is_ne HY.out.head hik (by decide) e) (fun e => not_cell HY.out.map hik e.symm), ?_, (hch8.mod hmY (fun b cs hc e => not_cell HNB.out.1 hc e)).mod hm6 (fun b cs hc e => is_ne hc hik (by decide) e), ?_, ⟨_, hm6.is hN (fun e => hk e.symm), hsz8⟩, ?_, HJ.out.low⟩
              · rw [hvs]; exact ho6
              · have h0 := HJ.out.mod.andThen hm8 (fun b h1 h2 => by have := HJ.out.low; omega)
                have h1 := h0.andThen hmY (fun _ _ h => h)
                exact h1.andThen hm6 (fun b h1 h2 => by
                  have := HJ.out.low
                  rcases HOY.out.lt k rfl with ⟨h3, _⟩
                  omega)
              · intro e
                have e' : gg = N := by injection e
                rcases hat with h | h
                · rw [hbk] at h
                  have h' : k = gg := by injection h
                  exact hk (h'.trans e')
                · have h2 := hN.lt
                  have h3 := size_al Y (.cells #[v0, v1, v2, v3, v4, v5, v6] 34)
                  omega
            clear ho6 hg6 hat HS HOY HY HNB HJ HFD HX8 hrun c0 c1 c2 c3 c4 c5 c6 k0 k1 k2 k3 k4 k5 k6 e48 h4 mf n0 n1 n2 n3 n4 n5 n6
            go_wp2
            go_roundg (i + 2)
            case measure => omega
            case rel => exact .inl ⟨i, by omega, Nat.le_refl _, ⟨_, _, rfl⟩, HR⟩
    · go_wp2
      go_ret
      exact ⟨rfl, HJ.out⟩
end Hp
end Go.Proofs.Ytbhjdpaicfnfcaa

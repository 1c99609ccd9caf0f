/- The law's own 'both': lifetimes with pairs, by the program and by the document: the walk. -/
import Derived.BigQuiet
import Derived.Deep.QuietTactic
import Derived.Deep.RegionLaw
import Derived.Test.YtfadojniihjneaaLifeB
namespace Go.Proofs.Ytfadojniihjneaa
open Go.RowKit Lf Go.Deep
section
variable {w : World} {b b1 : Nat} {B K : Nat → Nat} {m : Nat} {M : R2}
theorem add_bad (h : LRel w b b1 B K m M) {a d : Int} (hx : Bad m a ∨ Bad m d) : Calls Try.prog 20 #[.pointer (some ⟨b, 0, none⟩), .int .i64 a, .int .i64 d] w fun e w' => e = .returned (.int .i64 14) ∧ w = w' := by
  by_cases ha : Bad m a
  · exact add_bad1 h d ha
  · have hd : Bad m d := hx.resolve_left ha
    obtain ⟨k, rfl, hk⟩ := not_bad ha
    exact add_bad2 h hk hd
end
theorem below_drewN {B : Nat} {x y : World} (h : Below B x y) (q : Nat) : Below B x (y.drewN q) := ⟨h.os, h.tape, h.output, h.size, h.block⟩
theorem Both.drewN {w0 w : World} {H c m : Nat} {N v : Value} {P : List (Nat × Nat)} (h : Both w0 w H c m N v P) (q : Nat) : Both w0 (w.drewN q) H c m N v P :=
  ⟨h.rel.drewN q, h.head, h.own, below_drewN h.since q, h.fresh⟩
theorem grown_drew {w w' : World} {r : Option Nat} (h : w.drew.grownBy w' r) : w.grownBy w' r := ⟨h.os, h.tape, h.output, h.size, h.block⟩
theorem L_take {L : List (Int × Int)} {k : Nat} (h : k < L.length) {x y : Int} (e : L[k] = (x, y)) : L.take (k + 1) = L.take k ++ [(x, y)] := by
  rw [List.take_succ_eq_append_getElem h, e]
set_option maxHeartbeats 4000000 in
set_option maxRecDepth 100000 in
theorem both_any (w : World) {a : Int} {m : Nat} (A : Option Addr) (L : List (Int × Int)) (cp : Nat) (h0 : 0 ≤ a) (h300 : a ≤ 300) (ham : a + 1 = (m : Int)) (hL : PAt w A L) (hn : L.length ≤ 1000) :
    Calls Try.prog 10 #[.int .i64 a, .slice A L.length cp] w fun e w' => ∃ (c cap : Nat) (ao : Option Addr),
      e = .returned (.tuple #[.pointer (some ⟨w.heap.size + 1, 0, none⟩), .pointer (some ⟨c, 0, none⟩), .bool true]) ∧ Both w w' w.heap.size c m (.int .i64 a) (.slice ao (vp m L).length cap) (vp m L) := by
  have hmp : 0 < m := by omega
  have hm : m ≤ 301 := by omega
  obtain ⟨i0, hi0, hz0, hz1, hz2⟩ := info_parts info_two
  have HI := Lib.hid hi0
  have HL := Lib.hid hL
  obtain ⟨H, hH⟩ : ∃ x, w.heap.size = x := ⟨_, rfl⟩
  have HH := Lib.hid hH
  rw [hH]
  clear hL hH hi0
  go_enter Try.func10, Try.ntmps10
  go_wp2_with fail
  refine (new_any w h0 h300 ham).mono ?_
  rw [HH.out]
  rintro e w1 ⟨rfl, q1, q2⟩
  obtain ⟨c, hc⟩ : ∃ x, w1.heap.size = x := ⟨_, rfl⟩
  have HC := Lib.hid hc
  have B0 : Hid (Both w (w1.alloc (.cells #[.int .i64 a, .slice none 0 0] 49)) H c m (.int .i64 a) (.slice none 0 0) []) := by
    rw [← hc]
    have hs : H ≤ w1.heap.size := by have := q2.size; rw [HH.out] at this; exact this
    exact ⟨q1.below ((Below.refl _ w1).alloc (Nat.le_refl _) _), Is.made w1 _ _, ⟨rfl, .inl ⟨rfl, rfl⟩⟩, q2.alloc hs _, hs⟩
  clear q1 q2
  go_wp2
  clear hc
  go_loopw [10] (fun i wr => ∃ (k : Nat) (V : Value), k ≤ L.length ∧ i = .int .i64 k ∧ Hid (Both w wr H c m (.int .i64 a) V (vp m (L.take k)))) (fun i _ => L.length - (intOf i).toNat)
  case atStart => exact ⟨0, _, Nat.zero_le _, rfl, B0⟩
  case round =>
    obtain ⟨k, V, hk, rfl, HV0⟩ := hrel
    obtain ⟨ao, cap, rfl⟩ := own_slice HV0.out.own
    obtain ⟨n, hnn⟩ : ∃ n, (vp m (L.take k)).length = n := ⟨_, rfl⟩
    have HN := Lib.hid hnn
    rw [hnn] at HV0
    by_cases hlt : k < L.length
    · obtain ⟨pb, po, hA, hpb, hcell⟩ := HL.out (by omega)
      obtain ⟨cx0, cy0⟩ := hcell k hlt
      obtain ⟨x, y, hxy⟩ : ∃ x y, L[k] = (x, y) := ⟨_, _, rfl⟩
      rw [hxy] at cx0 cy0
      have hpH : pb < H := by have := HH.out; omega
      have cx := (HV0.out.since.cell (p := ⟨pb, po + k * 2, none⟩) hpH).trans cx0
      have cy := (HV0.out.since.cell (p := ⟨pb, po + k * 2 + 1, none⟩) hpH).trans cy0
      have HT := Lib.hid (L_take hlt hxy)
      subst hA
      have CX0 := Lib.hid cx0
      have CY0 := Lib.hid cy0
      clear hcell cx0 cy0 hxy hnn
      go_wp2_with fail
      go_quiet (fail)
      by_cases hg : ¬(Bad m x ∨ Bad m y)
      · obtain ⟨x', hxe, hx⟩ := not_bad (fun e => hg (.inl e))
        obtain ⟨y', hye, hy⟩ := not_bad (fun e => hg (.inr e))
        subst hxe hye
        have hxa : (x' : Int) ≤ a := by omega
        have hya : (y' : Int) ≤ a := by omega
        clear hg
        go_wp2_with fail
        refine (add_any (HV0.out.rel.drewN _) (all_ok _ stat_ok) hx hy).mono ?_
        rintro e w2 ⟨rfl, q1, q2⟩
        have HD := Lib.hid ((HV0.out.drewN nq).added (p := (x', y')) q1 q2)
        clear q1 q2
        have d1 : w2.cell? ⟨c, 1, none⟩ = some (.slice ao n cap) := by rw [HD.out.2.1.at_]; rfl
        have f1 : w2.frozen? ⟨c, 1, none⟩ = false := HD.out.2.1.free 1
        have do1 : ∀ o, (w2.alloc o).cell? ⟨c, 1, none⟩ = some (.slice ao n cap) := fun o => by rw [(HD.out.2.1.alloc o).at_]; rfl
        have ex := (HD.out.2.2.2.cell (p := ⟨pb, po + k * 2, none⟩) hpH).trans CX0.out
        have ey := (HD.out.2.2.2.cell (p := ⟨pb, po + k * 2 + 1, none⟩) hpH).trans CY0.out
        have lc : c < w2.heap.size := HD.out.2.1.lt
        have sH : H ≤ w2.heap.size := by have := HD.out.2.2.2.size; have := HH.out; omega
        have lp : pb < w2.heap.size := by omega
        have ho : w2.ownsRow H 40 2 (.slice ao n cap) n (pairC (vp m (L.take k))) := by have := HD.out.2.2.1; rw [HN.out] at this; exact this
        have ac : (Value.slice ao n cap).ownBlock ≠ some c := own_ne ho HD.out.2.1 (by decide)
        have ap : (Value.slice ao n cap).ownBlock ≠ some pb := fun e => by have := (ho.lt _ e).1; omega
        have hnk : n ≤ 1000 := by have h1 := vp_length m (L.take k); have h2 := HN.out; have h3 : (L.take k).length ≤ L.length := by rw [List.length_take]; omega
                                  omega
        have hk0 : (0 : Int) ≤ (k : Int) := Int.natCast_nonneg _
        have hk1 : (k : Int) < (L.length : Int) := by omega
        have HO := Lib.hid ho
        have HAC := Lib.hid ac
        have HAP := Lib.hid ap
        have b1 : n + 1 ≤ maxLen := by unfold maxLen; omega
        have b2 : (n + 1) * 16 ≤ 140737488355328 := by omega
        have B1 := Lib.hid b1
        have B2 := Lib.hid b2
        clear ho ac ap b1 b2
        go_wp2_with fail
        go_region_law ((refine step_append_lies _ (by rfl) _ _ _ (by rfl) H 40 i0 _ 2 16 Try.underlying22 HI.out hz0 hz1 hz2 rfl (by omega) (.slice ao n cap) n (pairC (vp m (L.take k))) (by rfl) ((HO.out.alloc _).drew) ⟨w2.heap.size, 0, none⟩ 1 1 [.int .i64 x', .int .i64 y'] (by rfl) (by rfl) (World.news_of_block (cs := #[.int .i64 x', .int .i64 y']) (t := 40) (fr := (0, 0)) (heap_alloc_new w2 _)) (by simp [Value.oneCell']) (by omega) B1.out B2.out (by simp; omega) (w2.heap.size + 1) (by simp) ?_; intro gg cap' w3 hown1 hgrow hat hlt3; have hgr := Lib.hid (grown_drew hgrow); have hi3 := HD.out.2.1.of (own_blk HO.out HD.out.2.1 (by decide) hgr.out); have d3 := hi3.at_ 1; have f3 := hi3.free 1; simp only [List.getElem?_toArray, List.getElem?_cons_zero, List.getElem?_cons_succ] at d3))
        all_goals
          have hb := both_step (P := vp m (L.take k) ++ [(x', y')]) (n' := n + 1) HD.out.1 HD.out.2.1 HO.out HD.out.2.2.2 HV0.out.fresh sH hgr.out hown1 (by rw [List.length_append, HN.out]; rfl) (pairC_append _ _ _).symm
          have HB : Hid (Both w (w3.setCell ⟨c, 1, none⟩ (.slice (some ⟨gg, 0, none⟩) (n + 1) cap')) H c m (.int .i64 a) (.slice (some ⟨gg, 0, none⟩) (n + 1) cap') (vp m (L.take (k + 1)))) := by
            show Both _ _ _ _ _ _ _ _
            rw [HT.out, vp_good hx hy]
            exact hb
          clear hb
          go_wp2
          go_roundw
          case rel => exact ⟨k + 1, _, by omega, by go_num, HB⟩
          case measure => simp [intOf]; omega
      · have hg' : x < 0 ∨ (0 ≤ x ∧ y < 0) ∨ (0 ≤ x ∧ 0 ≤ y ∧ a < x) ∨ (0 ≤ x ∧ 0 ≤ y ∧ x ≤ a ∧ a < y) := by
          unfold Bad at hg
          omega
        have HG := Lib.hid (Classical.not_not.1 hg)
        clear hg
        rcases hg' with g1 | ⟨g1, g2⟩ | ⟨g1, g2, g3⟩ | ⟨g1, g2, g3, g4⟩
        · have HV : Hid (Both w wr H c m (.int .i64 a) (.slice ao n cap) (vp m (L.take (k + 1)))) := by
            show Both _ _ _ _ _ _ _ _
            rw [HT.out, vp_bad HG.out]
            exact HV0.out
          have HBd : Hid (Bad m x ∨ Bad m y) := HG.out
          go_wp2_with fail
          refine (add_bad (HV0.out.rel.drewN _) HBd.out).mono ?_
          rintro e w2 ⟨rfl, rfl⟩
          go_wp2
          go_roundw
          case rel => exact ⟨k + 1, _, by omega, by go_num, (Both.drewN HV.out _)⟩
          case measure => simp [intOf]; omega
        · have HV : Hid (Both w wr H c m (.int .i64 a) (.slice ao n cap) (vp m (L.take (k + 1)))) := by
            show Both _ _ _ _ _ _ _ _
            rw [HT.out, vp_bad HG.out]
            exact HV0.out
          have HBd : Hid (Bad m x ∨ Bad m y) := HG.out
          go_wp2_with fail
          refine (add_bad (HV0.out.rel.drewN _) HBd.out).mono ?_
          rintro e w2 ⟨rfl, rfl⟩
          go_wp2
          go_roundw
          case rel => exact ⟨k + 1, _, by omega, by go_num, (Both.drewN HV.out _)⟩
          case measure => simp [intOf]; omega
        · have HV : Hid (Both w wr H c m (.int .i64 a) (.slice ao n cap) (vp m (L.take (k + 1)))) := by
            show Both _ _ _ _ _ _ _ _
            rw [HT.out, vp_bad HG.out]
            exact HV0.out
          have HBd : Hid (Bad m x ∨ Bad m y) := HG.out
          go_wp2_with fail
          refine (add_bad (HV0.out.rel.drewN _) HBd.out).mono ?_
          rintro e w2 ⟨rfl, rfl⟩
          go_wp2
          go_roundw
          case rel => exact ⟨k + 1, _, by omega, by go_num, (Both.drewN HV.out _)⟩
          case measure => simp [intOf]; omega
        · have HV : Hid (Both w wr H c m (.int .i64 a) (.slice ao n cap) (vp m (L.take (k + 1)))) := by
            show Both _ _ _ _ _ _ _ _
            rw [HT.out, vp_bad HG.out]
            exact HV0.out
          have HBd : Hid (Bad m x ∨ Bad m y) := HG.out
          go_wp2_with fail
          refine (add_bad (HV0.out.rel.drewN _) HBd.out).mono ?_
          rintro e w2 ⟨rfl, rfl⟩
          go_wp2
          go_roundw
          case rel => exact ⟨k + 1, _, by omega, by go_num, (Both.drewN HV.out _)⟩
          case measure => simp [intOf]; omega
    · have hke : k = L.length := by omega
      subst hke
      have HV : Hid (Both w wr H c m (.int .i64 a) (.slice ao (vp m L).length cap) (vp m L)) := by
        have h1 := HV0.out
        have h2 := HN.out
        rw [List.take_length] at h1 h2
        show Both _ _ _ _ _ _ _ _
        rw [h2]
        exact h1
      clear hnn
      go_wp2
      go_ret3
      exact ⟨c, cap, ao, rfl, HV.out⟩
end Go.Proofs.Ytfadojniihjneaa

/- Layer 13: the law HeapFrees. -/
import Derived.Deep.RegionLaw
import Derived.Test.YtbhjdpaicfnfcaaHeapU
namespace Go.Proofs.Ytbhjdpaicfnfcaa
open Go.RowKit Go.Deep Tr
namespace Hp
/-- Allocations 0 to d: each one but the first is a Box of the one ahead of it; made since w0. -/
structure Ch (w0 w : World) (hb mb d : Nat) (f : Int → Option Value) (x : Int) : Prop where
  hp : HpAt w hb mb 20 true (d + 1) (d + 1) (d + 1) (d + 1) f
  cells : ∀ i : Nat, i ≤ d → ∃ cb g cap, f i = some (.pointer (some ⟨cb, 0, none⟩)) ∧ Al w cb g cap (chainC x i) [⟨(i : Int) + 1, [], true⟩] ∧ w0.heap.size ≤ cb ∧ w0.heap.size ≤ g
  off : ∀ j : Int, (j < 0 ∨ (d : Int) < j) → f j = none
  low : w0.heap.size ≤ hb ∧ w0.heap.size ≤ mb
  since : Below w0.heap.size w0 w
theorem Al.mod {P : Nat → Prop} {w w' : World} {cb g cap : Nat} {vs : List Value} {S : List Hd} (h : Al w cb g cap vs S) (hm : Mod P w w') (hS : ∀ k, P k → ¬IntB w k) (h1 : ¬P cb) (h2 : ¬P g) : Al w' cb g cap vs S :=
  ⟨hm.is h.cell h1, h.stk.mod hm hS h2, h.seven, h.few, h.rise⟩
theorem Ch.below {w0 w w' : World} {hb mb d : Nat} {f : Int → Option Value} {x : Int} (h : Ch w0 w hb mb d f x) (hb' : Below w.heap.size w w') : Ch w0 w' hb mb d f x :=
  ⟨h.hp.below hb', fun i hi => by
    obtain ⟨cb, g, cap, h1, h2, h3⟩ := h.cells i hi
    exact ⟨cb, g, cap, h1, h2.below hb', h3⟩, h.off, h.low, h.since.trans (hb'.mono h.since.size)⟩
theorem Ch.more {w0 w w' : World} {hb mb d : Nat} {f : Int → Option Value} {x : Int} (h : Ch w0 w hb mb d f x) {cb g cap : Nat} (h1 : HpAt w' hb mb 20 true (d + 1 + 1) (d + 1 + 1) (d + 1 + 1) (d + 1 + 1) (put f ((d + 1 : Nat) : Int) (.pointer (some ⟨cb, 0, none⟩)))) (h2 : Al w' cb g cap (leafC 6 0 d) [⟨((d + 1 + 1 : Nat) : Int), [], true⟩]) (h3 : w.heap.size ≤ cb) (h4 : w.heap.size ≤ g) (h5 : Mod (fun k => k = hb ∨ k = mb) w w') :
    Ch w0 w' hb mb (d + 1) (put f ((d + 1 : Nat) : Int) (.pointer (some ⟨cb, 0, none⟩))) x ∧ Keeps w w' := by
  have hs := h.since.size
  obtain ⟨D, ⟨es, clock, m2, _⟩, _⟩ := h.hp.map
  have hmi := map_not_int h.hp.map
  refine ⟨⟨h1, fun i hi => ?_, fun j hj => ?_, h.low, h5.below h.since hs (fun k hk => by rcases hk with rfl | rfl; exact h.low.1; exact h.low.2)⟩, ?_⟩
  · by_cases hid : i = d + 1
    · subst hid
      exact ⟨cb, g, cap, by simp [put], by simpa [chainC] using h2, by omega, by omega⟩
    · obtain ⟨cb', g', cap', k1, k2, k3⟩ := h.cells i (by omega)
      obtain ⟨cur, s1, _⟩ := k2.stk.cells
      refine ⟨cb', g', cap', ?_, k2.mod h5 (fun k hk => ?_) ?_ ?_, k3⟩
      · unfold put
        rw [if_neg (by omega)]
        exact k1
      · rcases hk with rfl | rfl
        · exact not_int h.hp.head (by decide)
        · exact hmi
      · rintro (e | e)
        · exact is_ne k2.cell h.hp.head (by decide) e
        · exact not_cell h.hp.map k2.cell e
      · rintro (e | e)
        · exact is_ne s1 h.hp.head (by decide) e
        · exact not_cell h.hp.map s1 e
  · unfold put
    rw [if_neg (by omega)]
    exact h.off j (by omega)
  · exact keeps_mod h5 (fun k hk => by
      rcases hk with rfl | rfl
      · exact .inl ⟨_, h.hp.head⟩
      · exact .inr (.inr (.inr ⟨_, _, m2⟩)))
theorem Ch.box {w0 w w' : World} {hb mb d : Nat} {f : Int → Option Value} {x : Int} (h : Ch w0 w hb mb d f x) {b : Nat} {t : TypeId} {cs : Array Value} (hi : Is w b t cs) (ht : t ≠ 74 ∧ t ≠ 78 ∧ t ≠ 96 ∧ t ≠ 3) (hb' : w0.heap.size ≤ b) (hm : Mod (fun k => k = b) w w') : Ch w0 w' hb mb d f x := by
  refine ⟨h.hp.mod hm (fun e => is_ne h.hp.head hi (fun e => ht.1 e.symm) e) (fun e => not_cell h.hp.map hi e.symm), fun i hid => ?_, h.off, h.low, hm.below h.since h.since.size (fun k hk => by subst hk; exact hb')⟩
  obtain ⟨cb, g, cap, k1, k2, k3⟩ := h.cells i hid
  obtain ⟨cur, s1, _⟩ := k2.stk.cells
  exact ⟨cb, g, cap, k1, k2.mod hm (fun k e => by subst e; exact not_int hi ht.2.2.2) (fun e => is_ne k2.cell hi (fun e => ht.2.1 e.symm) e) (fun e => is_ne s1 hi (fun e => ht.2.2.1 e.symm) e), k3⟩
set_option maxHeartbeats 8000000
set_option maxRecDepth 100000
theorem frees_walk (W : World) (x : Int) (dp : Int) : Calls Try.prog 5 #[.int .u64 x, .int .i64 dp] W fun e W' => e = .returned (.bool true) ∧ Below W.heap.size W W' := by
  obtain ⟨z, hz⟩ : ∃ z, (IntKind.u64.wrap dp).tmod 6 = z := ⟨_, rfl⟩
  have hz0 : 0 ≤ z ∧ z < 6 := by
    rw [← hz]
    have h0 : 0 ≤ IntKind.u64.wrap dp := by rw [IntKind.wrap_u64]; omega
    exact ⟨Int.tmod_nonneg _ h0, Int.tmod_lt_of_pos _ (by decide)⟩
  obtain ⟨d, rfl⟩ : ∃ d : Nat, z = (d : Int) := ⟨z.toNat, by omega⟩
  have hd6 : d < 6 := by omega
  have hw1 : wrap64 ((d : Nat) : Int) = (d : Int) := by unfold wrap64; omega
  have hw2 : wrap64 (1 + (d : Int)) = ((d + 1 : Nat) : Int) := by unfold wrap64; omega
  have HZ := Lib.hid (And.intro hz (And.intro hw1 hw2))
  clear hz hz0 hw1 hw2
  go_enter Try.func5, Try.ntmps5
  go_wp2_with fail
  rw [HZ.out.1, HZ.out.2.1, HZ.out.2.2]
  refine (new_any _ 20 true).mono ?_
  rintro e w1 ⟨hb, mb, rfl, h1, lo1, lo2, b1⟩
  have H1 := Lib.hid h1
  have HB1 := Lib.hid b1
  have HLO := Lib.hid (And.intro lo1 lo2)
  clear h1 lo1 lo2 b1 HZ
  go_wp2_with fail
  refine (watched_any _).mono ?_
  rintro e w2 ⟨rfl, q2⟩
  have H2 := Lib.hid (H1.out.below q2)
  have HB2 := Lib.hid (HB1.out.trans (q2.mono HB1.out.size))
  clear q2 H1 HB1
  go_wp2_with fail
  refine (num_any _ x).mono ?_
  rintro e w3 ⟨rfl, q3⟩
  have h3 := H2.out.below q3
  have HB3 := Lib.hid (HB2.out.trans (q3.mono HB2.out.size))
  have HA := Lib.hid (alloc_any h3 (by decide) (by decide) (by decide) (by decide) rfl (us := leafC 2 x 0) rfl (stays_leaf 2 x 0) (fun X hX => (clone_leaf X 2 x 0).mono fun e w' ⟨h1, h2⟩ => ⟨_, h1, rfl, rfl, h2⟩))
  have H3 := Lib.hid h3
  clear q3 h3 H2 HB2
  go_wp2_with fail
  refine HA.out.mono ?_
  rintro e w4 ⟨vs, cb, g, cap, rfl, a1, a2, rfl, a3, a4, a5⟩
  have HC : Hid (Ch W w4 hb mb 0 (put (fun _ => none) 0 (.pointer (some ⟨cb, 0, none⟩))) x) := by
    have h0 := HB3.out.size
    refine ⟨a1, fun i hi => ?_, fun j hj => ?_, HLO.out, a5.below HB3.out HB3.out.size (fun k hk => by rcases hk with rfl | rfl; exact HLO.out.1; exact HLO.out.2)⟩
    · obtain rfl : i = 0 := by omega
      exact ⟨cb, g, cap, by simp [put], a2, by omega, by omega⟩
    · unfold put
      rw [if_neg (by omega)]
  clear a1 a2 a3 a4 a5 HA H3 HB3
  go_wp2_with fail
  obtain ⟨NP, hNP⟩ : ∃ N, w4.heap.size = N := ⟨_, rfl⟩
  obtain ⟨V4, hV4⟩ : ∃ V, (w4.alloc (.cells #[.int .i64 0, .slice none 0 0, .int .i64 1] 29)).alloc (.cells #[.int .i64 0, .slice none 0 0, .int .i64 1] 29) = V := ⟨_, rfl⟩
  have b4 : Below w4.heap.size w4 V4 := by rw [← hV4]; exact ((Below.refl _ w4).alloc (Nat.le_refl _) _).alloc (by simp) _
  have i1 : Is V4 NP 29 #[.int .i64 0, .slice none 0 0, .int .i64 1] := by rw [← hV4, ← hNP]; exact (Is.made w4 _ _).alloc _
  have i2 : Is V4 (NP + 1) 29 #[.int .i64 0, .slice none 0 0, .int .i64 1] := by
    rw [← hV4, ← hNP]
    have := Is.made (w4.alloc (.cells #[.int .i64 0, .slice none 0 0, .int .i64 1] 29)) 29 #[.int .i64 0, .slice none 0 0, .int .i64 1]
    simp only [size_al] at this
    exact this
  have HQ : Hid (∃ f, Ch W V4 hb mb 0 f x ∧ Is V4 NP 29 #[.int .i64 ((0 : Nat) : Int), .slice none 0 0, .int .i64 (((0 : Nat) : Int) + 1)] ∧ Is V4 (NP + 1) 29 #[.int .i64 0, .slice none 0 0, .int .i64 1]) := ⟨_, HC.out.below b4, i1, i2⟩
  have HNP : Hid (W.heap.size ≤ NP) := by show _ ≤ _; rw [← hNP]; exact HC.out.since.size
  rw [hV4, hNP]
  clear hV4 hNP b4 i1 i2 HC
  go_loopw [7, 9] (fun ok i wr => ∃ j : Nat, j ≤ d + 1 ∧ ok = .bool true ∧ i = .int .i64 j ∧ Hid (∃ f, Ch W wr hb mb j f x ∧ Is wr NP 29 #[.int .i64 (j : Int), .slice none 0 0, .int .i64 ((j : Int) + 1)] ∧ Is wr (NP + 1) 29 #[.int .i64 0, .slice none 0 0, .int .i64 1])) (fun _ i _ => d + 1 - (intOf i).toNat)
  case atStart => exact ⟨0, Nat.zero_le _, rfl, rfl, HQ⟩
  clear HQ
  case round =>
    obtain ⟨j, hj, rfl, rfl, HJ⟩ := hrel
    obtain ⟨f, hch, hip, hif⟩ := HJ.out
    by_cases hlt : j < d + 1
    · have p0 := hip.at_ 0
      simp at p0
      have HA := Lib.hid (alloc_any hch.hp (by omega) (by omega) (by omega) (by omega) (hch.off _ (.inr (by omega))) (us := leafC 6 0 j) rfl (stays_leaf 6 0 j) (fun X hX => (clone_leaf X 6 0 j).mono fun e w' ⟨h1, h2⟩ => ⟨_, h1, rfl, rfl, h2⟩))
      have HH := Lib.hid (And.intro hch (And.intro hip hif))
      clear hch hip hif HJ
      unfold leafC at HA
      go_wp2_with fail
      refine HA.out.mono ?_
      rintro e w5 ⟨vs, cb, g, cap, rfl, a1, a2, rfl, a3, a4, a5⟩
      obtain ⟨hc5, hk5⟩ := HH.out.1.more a1 a2 a3 a4 a5
      have ip5 := Keeps.is hk5 HH.out.2.1 (by decide)
      have if5 := Keeps.is hk5 HH.out.2.2 (by decide)
      have q0 := ip5.at_ 0
      have q1 := ip5.at_ 1
      have q2 := ip5.at_ 2
      have qf : ∀ i, w5.frozen? ⟨NP, i, none⟩ = false := fun i => ip5.free i
      simp at q0 q1 q2
      have HS : Hid (∃ f, Ch W (((w5.setCell ⟨NP, 0, none⟩ (.int .i64 ((j : Int) + 1))).setCell ⟨NP, 1, none⟩ (.slice none 0 0)).setCell ⟨NP, 2, none⟩ (.int .i64 ((j : Int) + 1 + 1))) hb mb (j + 1) f x ∧ Is (((w5.setCell ⟨NP, 0, none⟩ (.int .i64 ((j : Int) + 1))).setCell ⟨NP, 1, none⟩ (.slice none 0 0)).setCell ⟨NP, 2, none⟩ (.int .i64 ((j : Int) + 1 + 1))) NP 29 #[.int .i64 (((j + 1 : Nat)) : Int), .slice none 0 0, .int .i64 ((((j + 1 : Nat)) : Int) + 1)] ∧ Is (((w5.setCell ⟨NP, 0, none⟩ (.int .i64 ((j : Int) + 1))).setCell ⟨NP, 1, none⟩ (.slice none 0 0)).setCell ⟨NP, 2, none⟩ (.int .i64 ((j : Int) + 1 + 1))) (NP + 1) 29 #[.int .i64 0, .slice none 0 0, .int .i64 1]) := by
        have hm : Mod (fun k => k = NP) w5 (((w5.setCell ⟨NP, 0, none⟩ (.int .i64 ((j : Int) + 1))).setCell ⟨NP, 1, none⟩ (.slice none 0 0)).setCell ⟨NP, 2, none⟩ (.int .i64 ((j : Int) + 1 + 1))) := (((Mod.refl (fun k => k = NP) w5).put (fun _ => rfl) _ _).put (fun _ => rfl) _ _).put (fun _ => rfl) _ _
        refine ⟨_, hc5.box ip5 (by decide) HNP.out hm, ?_, hm.is if5 (by show NP + 1 ≠ NP; omega)⟩
        have := ((ip5.put 0 (.int .i64 ((j : Int) + 1))).put 1 (.slice none 0 0)).put 2 (.int .i64 ((j : Int) + 1 + 1))
        simpa using this
      clear a1 a2 a3 a4 a5 hc5 hk5 ip5 if5 HH HA p0
      go_wp2
      go_roundw
      case rel => exact ⟨j + 1, by omega, rfl, by go_num, HS⟩
      case measure => simp [intOf]; omega
    · have hje : j = d + 1 := by omega
      subst hje
      obtain ⟨cb0, g0, cap0, hf0, ha0, hl0⟩ := hch.cells 0 (Nat.zero_le _)
      have hwt : Wt W wr hb mb (d + 1 + 1) (d + 1 + 1) (d + 1 + 1) (d + 1 + 1) f 0 cb0 g0 cap0 (leafC 2 x 0) [⟨1, [], true⟩] :=
        ⟨⟨20, hch.hp⟩, ha0, hf0, wf_int (by omega) (by omega), ⟨hch.low.1, hch.low.2, hl0.1, hl0.2⟩, hch.since, ⟨by omega, by simp⟩, fun y hy => by simp at hy; subst hy; simp; omega⟩
      have hcd : ChD wr f (d + 1) x := fun i hi => by
        obtain ⟨cb, g, cap, k1, k2, _⟩ := hch.cells i hi
        exact ⟨cb, g, _, cap, k1, k2.cell⟩
      have q0 := hif.at_ 0
      have q1 := hif.at_ 1
      have q2 := hif.at_ 2
      simp at q0 q1 q2
      have HBO := Lib.hid (wt_borrow hwt (by omega) (by decide) 1 (c := 0) (PathAt.nil wr none) (Nat.zero_le _) (by decide) (place_leaf (by decide) none 0) false)
      simp only [List.length_nil] at HBO
      have HS := Lib.hid (And.intro hwt (And.intro hcd (And.intro hip hch.off)))
      clear hch hip hif HJ hwt hcd
      go_wp2_with fail
      refine HBO.out.mono ?_
      rintro e w5 ⟨p, b, hs, hc⟩
      obtain ⟨rfl, rfl⟩ := srch_hit hs 0 (by decide) rfl (fun k hk => absurd hk (Nat.not_lt_zero _))
      rcases hc with ⟨hc, _⟩ | ⟨_, A5, c5, g5, cap5, rfl, hc5, hp5, hw5, hk5, hm5⟩
      · cases hc
      obtain ⟨hwt, hcd, hip, hoff⟩ := HS.out
      have hcd5 : ChD w5 f (d + 1) x := fun i hi => by
        rcases Nat.eq_zero_or_pos i with rfl | hpos
        · exact ⟨cb0, g5, _, cap5, hf0, hw5.cell.cell⟩
        · obtain ⟨cb, g, sz, cap, k1, k2⟩ := hcd i hi
          obtain ⟨cur, s1, _⟩ := hwt.cell.stk.cells
          obtain ⟨most, hhp⟩ := hwt.hp
          refine ⟨cb, g, sz, cap, k1, hm5.is k2 ?_⟩
          rintro (e | e | e)
          · exact is_ne k2 hhp.head (by decide) e
          · subst e
            have e1 := hwt.cell.cell.at_ 0
            have e2 := k2.at_ 0
            rw [e1] at e2
            obtain ⟨i', rfl⟩ : ∃ i', i = i' + 1 := ⟨i - 1, by omega⟩
            simp [cellC, chainC, leafC] at e2
          · exact is_ne k2 s1 (by decide) e
      have ip5 := Keeps.is hk5 hip (by decide)
      have b6 : Below w5.heap.size w5 (w5.alloc (.cells #[.int .i64 0, .slice A5 0 c5, .int .i64 ((d : Int) + 1 + 1 + 1)] 29)) := (Below.refl _ _).alloc (Nat.le_refl _) _
      have hw6 := hw5.below b6
      have ip6 := ip5.below b6 ip5.lt
      have iq6 : Is (w5.alloc (.cells #[.int .i64 0, .slice A5 0 c5, .int .i64 ((d : Int) + 1 + 1 + 1)] 29)) w5.heap.size 29 #[.int .i64 0, .slice A5 0 c5, .int .i64 ((d : Int) + 1 + 1 + 1)] := Is.made w5 _ _
      have hcd6 : ChD (w5.alloc (.cells #[.int .i64 0, .slice A5 0 c5, .int .i64 ((d : Int) + 1 + 1 + 1)] 29)) f (d + 1) x := hcd5.mod (.of b6 : Mod (fun _ => False) w5 _) (fun _ _ _ h => h)
      obtain ⟨V6, hV6⟩ : ∃ V, w5.alloc (.cells #[.int .i64 0, .slice A5 0 c5, .int .i64 ((d : Int) + 1 + 1 + 1)] 29) = V := ⟨_, rfl⟩
      rw [hV6] at hw6 ip6 iq6 hcd6
      have HV6 := Lib.hid hV6
      have p0 := ip6.at_ 0
      simp at p0
      obtain ⟨most, hhp⟩ := hw6.hp
      have HLV := Lib.hid (live_any hhp)
      have HFR := Lib.hid (free_chain hhp (by omega) hcd6 hoff)
      have HOFF := Lib.hid hoff
      have H6 := Lib.hid (And.intro hhp (And.intro hw6.low (And.intro hw6.since (And.intro ip6 iq6))))
      obtain ⟨NQ, hNQ⟩ : ∃ N, w5.heap.size = N := ⟨_, rfl⟩
      rw [hNQ] at H6
      clear hs hc5 hp5 hw5 hk5 hm5 hwt hcd hip hoff hcd5 ip5 b6 hw6 ip6 iq6 hcd6 hV6 hhp HBO HS q0 q1 q2
      have hcast : ((d + 1 : Nat) : Int) = (d : Int) + 1 := by omega
      have hcast2 : ((d + 1 + 1 : Nat) : Int) = (d : Int) + 1 + 1 := by omega
      rw [hcast] at HFR
      rw [hcast2] at HLV
      clear hcast hcast2
      go_wp2_with fail
      rw [HV6.out]
      refine HLV.out.mono ?_
      rintro e w7 ⟨rfl, rfl⟩
      go_wp2_with fail
      refine HFR.out.mono ?_
      rintro e w8 ⟨rfl, h8, m8⟩
      have iq8 := m8.is H6.out.2.2.2.2 (not_cell H6.out.1.map H6.out.2.2.2.2)
      have ip8 := m8.is H6.out.2.2.2.1 (not_cell H6.out.1.map H6.out.2.2.2.1)
      have hB8 : Below W.heap.size W w8 := m8.below H6.out.2.2.1 H6.out.2.2.1.size (fun k hk => by subst hk; exact H6.out.2.1.2.1)
      have q0 := iq8.at_ 0
      have q1 := iq8.at_ 1
      have q2 := iq8.at_ 2
      simp at q0 q1 q2
      have hno : ∀ j, upto f 0 j = none := fun j => by
        unfold upto
        split
        · exact HOFF.out _ (.inl (by omega))
        · rfl
      have HRD := Lib.hid (read_none (w := w8) (hp := some ⟨hb, 0, none⟩) (al := 0) (A := A5) (l := 0) (c := c5) (tg := (d : Int) + 1 + 1 + 1) (fun X wt hX => huse_none (h8.below hX) (wf_int (by omega) (by omega)) (hno 0) A5 0 c5 _ wt))
      have H8 := Lib.hid (And.intro h8 (And.intro ip8 (And.intro hB8 hno)))
      clear h8 m8 iq8 ip8 hB8 hno HLV HFR H6 p0
      go_wp2_with fail
      refine HRD.out.mono ?_
      rintro e w9 ⟨rfl, b9⟩
      have bA : Below w9.heap.size w9 (w9.alloc (.cells #[.int .i64 0, .int .u64 0, .string ⟨#[]⟩, .slice none 0 0, .int .i64 0, .slice none 0 0, .int .i64 0] 34)) := (Below.refl _ _).alloc (Nat.le_refl _) _
      have hpA := (H8.out.1.below b9).below bA
      have ipA := (H8.out.2.1.below b9 H8.out.2.1.lt).below bA (H8.out.2.1.below b9 H8.out.2.1.lt).lt
      obtain ⟨VA, hVA⟩ : ∃ V, w9.alloc (.cells #[.int .i64 0, .int .u64 0, .string ⟨#[]⟩, .slice none 0 0, .int .i64 0, .slice none 0 0, .int .i64 0] 34) = V := ⟨_, rfl⟩
      rw [hVA] at hpA ipA bA
      have HVA := Lib.hid hVA
      have p0 := ipA.at_ 0
      simp at p0
      have HBA := Lib.hid ((H8.out.2.2.1.trans (b9.mono H8.out.2.2.1.size)).trans (bA.mono (Nat.le_trans H8.out.2.2.1.size b9.size)))
      have HLA := Lib.hid (live_any hpA)
      have HFA := Lib.hid (free_none (w := VA) (hp := some ⟨hb, 0, none⟩) (al := (d : Int) + 1) (fun X hX => find_none (hpA.below hX) _ (wf_int (by omega) (by omega)) (H8.out.2.2.2 _)))
      unfold leafC
      clear b9 bA hpA ipA hVA H8 q0 q1 q2 HRD
      go_wp2_with fail
      rw [HVA.out]
      refine HLA.out.mono ?_
      rintro e w10 ⟨rfl, rfl⟩
      go_wp2_with fail
      refine HFA.out.mono ?_
      rintro e w11 ⟨rfl, b11⟩
      have HBB := Lib.hid (HBA.out.trans (b11.mono HBA.out.size))
      clear b11 HFA HLA
      go_wp2
      go_ret
      exact ⟨rfl, HBB.out⟩
end Hp
end Go.Proofs.Ytbhjdpaicfnfcaa

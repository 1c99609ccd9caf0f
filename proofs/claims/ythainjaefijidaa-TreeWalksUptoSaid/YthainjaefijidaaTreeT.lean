/- The walks of layer 3's reference: is an expression small? -/
import Derived.Test.YthainjaefijidaaTreeS
namespace Go.Proofs.Ythainjaefijidaa
open Go.RowKit Go.Deep
namespace Tr
def SmallE (n : Nat) : Prop := ∀ (x : Ex) (cs : List Value) (d : Nat) (w : World), ExAt w n x cs → d ≤ 100 →
    Calls Try.prog 5 #[.agg cs.toArray, .int .i64 d] w fun e w' => SomeB e ∧ Below w.heap.size w w'
def SmallB (n : Nat) : Prop := ∀ (l : List St) (A : Option Addr) (c d : Nat) (w : World), ListAt w 17 (StAt w n) A l → d ≤ 100 →
    Calls Try.prog 6 #[.slice A l.length c, .int .i64 d] w fun e w' => SomeB e ∧ Below w.heap.size w w'
set_option maxHeartbeats 4000000 in
set_option maxRecDepth 100000 in
theorem smallE_step (n : Nat) (IHE : Hid (SmallE n)) (IHB : Hid (SmallB n)) : SmallE (n + 1) := by
    rintro ⟨k0, nm, v0, u, ar, ns, b, l, c⟩ cs d w h hd
    obtain ⟨A, ca, An, cn, B, cb, rfl, h1, h2, h3⟩ := h
    obtain ⟨la, hla⟩ : ∃ n, ar.length = n := ⟨_, rfl⟩
    obtain ⟨ln, hln⟩ : ∃ n, ns.length = n := ⟨_, rfl⟩
    obtain ⟨lb, hlb⟩ : ∃ n, b.length = n := ⟨_, rfl⟩
    have HLA := Lib.hid hla
    have HLN := Lib.hid hln
    have HLB := Lib.hid hlb
    rw [hla, hln, hlb]
    have H1 := Lib.hid h1
    have H2 := Lib.hid h2
    have H3 := Lib.hid h3
    have hb0 : Below w.heap.size w (w.alloc (.cells #[.int .i64 k0, .string nm, .int .u64 v0, .bool u, .slice A la ca, .slice An ln cn, .slice B lb cb, .int .i64 l, .int .i64 c] 29)) := (Below.refl _ w).alloc (Nat.le_refl _) _
    have I0 := Lib.hid (Is.made w 29 #[.int .i64 k0, .string nm, .int .u64 v0, .bool u, .slice A la ca, .slice An ln cn, .slice B lb cb, .int .i64 l, .int .i64 c])
    have B0 := Lib.hid hb0
    clear h1 h2 h3 hla hln hlb hb0
    by_cases hout : d = 0 ∨ (0 < d ∧ 10 < la) ∨ (0 < d ∧ la ≤ 10 ∧ 14 < ln) ∨ (0 < d ∧ la ≤ 10 ∧ ln ≤ 14 ∧ 100 < nm.size)
    · rcases hout with g1 | ⟨g1, g2⟩ | ⟨g1, g2, g3⟩ | ⟨g1, g2, g3, g4⟩
      · subst g1
        go_enter Try.func5, Try.ntmps5
        go_wp2
        go_ret
        exact ⟨⟨_, rfl⟩, B0.out⟩
      all_goals
        have e0 : ((d : Int) == 0) = false := by rw [beq_eq_false_iff_ne]; omega
        go_enter Try.func5, Try.ntmps5
        go_wp2
        go_ret
        exact ⟨⟨_, rfl⟩, B0.out⟩
    · have e0 : ((d : Int) == 0) = false := by rw [beq_eq_false_iff_ne]; omega
      have g2 : la ≤ 10 := by omega
      have g3 : ln ≤ 14 := by omega
      have g4 : nm.size ≤ 100 := by omega
      have g6 : 0 < d := by omega
      obtain ⟨dd, hdd⟩ : ∃ dd : Nat, (d : Int) - 1 = dd := ⟨d - 1, by omega⟩
      have hd1 : dd ≤ 100 := by omega
      clear hout
      go_enter Try.func5, Try.ntmps5
      go_wp2
      go_loopw [5] (fun i wr => ∃ k : Nat, k ≤ la ∧ i = .int .i64 k ∧ Hid (Below (w.heap.size + 1) (w.alloc (.cells #[.int .i64 k0, .string nm, .int .u64 v0, .bool u, .slice A la ca, .slice An ln cn, .slice B lb cb, .int .i64 l, .int .i64 c] 29)) wr)) (fun i _ => la - (intOf i).toNat)
      case atStart => exact ⟨0, Nat.zero_le _, rfl, Below.refl _ _⟩
      case round =>
        obtain ⟨q, hq, rfl, HB⟩ := hrel
        have IW := I0.out.below HB.out (by omega)
        have hsz : w.heap.size + 1 ≤ wr.heap.size := by have := HB.out.size; simpa using this
        have c4 := IW.at_ 4
        have c5 := IW.at_ 5
        have c6 := IW.at_ 6
        simp only [List.getElem?_toArray, List.getElem?_cons_zero, List.getElem?_cons_succ] at c4 c5 c6
        have BW : Hid (Below w.heap.size w wr) := B0.out.trans (HB.out.mono (by omega))
        clear IW
        by_cases hql : q < la
        · obtain ⟨bk, o, cs2, rfl, _, hl2, hs2, hc2⟩ := (H1.out.below BW.out (fun x _ cs h => ExAt.below BW.out n x cs h)).get (by decide) (show q < ar.length by rw [HLA.out]; exact hql)
          match cs2, hl2 with
          | [v0, v1, v2, v3, v4, v5, v6, v7, v8], _ =>
            have x0 := hc2 0 _ rfl
            rw [Nat.add_zero] at x0
            have x1 := hc2 1 _ rfl
            have x2 := hc2 2 _ rfl
            have x3 := hc2 3 _ rfl
            have x4 := hc2 4 _ rfl
            have x5 := hc2 5 _ rfl
            have x6 := hc2 6 _ rfl
            have x7 := hc2 7 _ rfl
            have x8 := hc2 8 _ rfl
            have HS := Lib.hid (IHE.out _ _ dd wr hs2 hd1)
            clear hc2 hs2
            go_wp2_with fail
            refine HS.out.mono ?_
            rintro e w3 ⟨⟨b, rfl⟩, q3⟩
            have HB3 := Lib.hid (HB.out.trans (q3.mono hsz))
            have BW3 := Lib.hid (BW.out.trans (q3.mono (by omega)))
            clear q3
            cases b with
            | true =>
              go_wp2
              go_roundw
              case rel => exact ⟨q + 1, by omega, by go_num, HB3⟩
              case measure => simp [intOf]; omega
            | false =>
              go_wp2
              go_ret
              exact ⟨⟨_, rfl⟩, BW3.out⟩
        · have hqe : q = la := by omega
          subst hqe
          go_wp2
          go_loop [6] (fun i => ∃ k : Nat, k ≤ ln ∧ i = .int .i64 k) (fun i => ln - (intOf i).toNat)
          case atStart => exact ⟨0, Nat.zero_le _, rfl⟩
          case round =>
            obtain ⟨j, hj, rfl⟩ := hrel
            by_cases hjl : j < ln
            · obtain ⟨bk, o, cs1, rfl, _, hl1, hs1, hc1⟩ := (H2.out.below BW.out (fun _ _ _ h => h)).get (by decide) (show j < ns.length by rw [HLN.out]; exact hjl)
              obtain ⟨s, hs⟩ : ∃ s, ns[j]'(by rw [HLN.out]; exact hjl) = s := ⟨_, rfl⟩
              rw [hs] at hs1
              have hc := hc1 0 (.string s) (by rw [show cs1 = [.string s] from hs1]; rfl)
              simp only [Nat.mul_one, Nat.add_zero] at hc
              clear hs1 hc1 hl1 hs
              by_cases hsz : 100 < s.size
              · go_wp2
                go_ret
                exact ⟨⟨_, rfl⟩, BW.out⟩
              · have hsz' : s.size ≤ 100 := by omega
                clear hsz
                go_wp2
                go_round
                case rel => exact ⟨j + 1, by omega, by go_num⟩
                case measure => simp [intOf]; omega
            · have hje : j = ln := by omega
              subst hje
              have HS := Lib.hid (IHB.out b B cb dd wr (H3.out.below BW.out (fun x _ cs h => StAt.below BW.out n x cs h)) hd1)
              rw [HLB.out] at HS
              go_wp2_with fail
              refine HS.out.mono ?_
              rintro e w3 ⟨⟨b, rfl⟩, q3⟩
              have BW3 := Lib.hid (BW.out.trans (q3.mono (by omega)))
              clear q3
              go_wp2
              go_ret
              exact ⟨⟨_, rfl⟩, BW3.out⟩
end Tr
end Go.Proofs.Ythainjaefijidaa

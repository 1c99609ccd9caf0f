/- The walks of layer 3's reference: is a type small? -/
import Derived.Test.YthainjaefijidaaTreeL
import Derived.Test.YthainjaefijidaaTreeP
namespace Go.Proofs.Ythainjaefijidaa
open Go.RowKit Go.Deep
namespace Tr
def SomeB (e : Ending) : Prop := ∃ b, e = .returned (.bool b)
def SmallTy (n : Nat) : Prop := ∀ (x : Ty) (cs : List Value) (d : Nat) (w : World), TyAt w n x cs → d ≤ 100 →
    Calls Try.prog 15 #[.agg cs.toArray, .int .i64 d] w fun e w' => SomeB e ∧ Below w.heap.size w w'
set_option maxHeartbeats 2000000 in
set_option maxRecDepth 100000 in
theorem smallType_step (n : Nat) (IH : Hid (SmallTy n)) : SmallTy (n + 1) := by
    rintro ⟨k0, nm, lf, u, ls, ar, l, c⟩ cs d w h hd
    obtain ⟨An, cn, A, ca, rfl, h1, h2⟩ := h
    obtain ⟨la, hla⟩ : ∃ n, ar.length = n := ⟨_, rfl⟩
    obtain ⟨ll, hll⟩ : ∃ n, ls.length = n := ⟨_, rfl⟩
    have HLA := Lib.hid hla
    have HLL := Lib.hid hll
    rw [hla, hll]
    have H1 := Lib.hid h1
    have H2 := Lib.hid h2
    have hb0 : Below w.heap.size w (w.alloc (.cells #[.int .i64 k0, .string nm, .string lf, .bool u, .slice An ll cn, .slice A la ca, .int .i64 l, .int .i64 c] 43)) := (Below.refl _ w).alloc (Nat.le_refl _) _
    have I0 := Lib.hid (Is.made w 43 #[.int .i64 k0, .string nm, .string lf, .bool u, .slice An ll cn, .slice A la ca, .int .i64 l, .int .i64 c])
    have B0 := Lib.hid hb0
    clear h1 h2 hla hll hb0
    by_cases hout : d = 0 ∨ (0 < d ∧ 8 < la) ∨ (0 < d ∧ la ≤ 8 ∧ 8 < ll) ∨ (0 < d ∧ la ≤ 8 ∧ ll ≤ 8 ∧ 100 < nm.size) ∨ (0 < d ∧ la ≤ 8 ∧ ll ≤ 8 ∧ nm.size ≤ 100 ∧ 100 < lf.size)
    · rcases hout with g1 | ⟨g1, g2⟩ | ⟨g1, g2, g3⟩ | ⟨g1, g2, g3, g4⟩ | ⟨g1, g2, g3, g4, g5⟩
      · subst g1
        go_enter Try.func15, Try.ntmps15
        go_wp2
        go_ret
        exact ⟨⟨_, rfl⟩, B0.out⟩
      all_goals
        have e0 : ((d : Int) == 0) = false := by rw [beq_eq_false_iff_ne]; omega
        go_enter Try.func15, Try.ntmps15
        go_wp2
        go_ret
        exact ⟨⟨_, rfl⟩, B0.out⟩
    · have e0 : ((d : Int) == 0) = false := by rw [beq_eq_false_iff_ne]; omega
      have g2 : la ≤ 8 := by omega
      have g3 : ll ≤ 8 := by omega
      have g4 : nm.size ≤ 100 := by omega
      have g5 : lf.size ≤ 100 := by omega
      have g6 : 0 < d := by omega
      clear hout
      go_enter Try.func15, Try.ntmps15
      go_wp2
      go_loop [5] (fun i => ∃ k : Nat, k ≤ ll ∧ i = .int .i64 k) (fun i => ll - (intOf i).toNat)
      case atStart => exact ⟨0, Nat.zero_le _, rfl⟩
      case round =>
        obtain ⟨j, hj, rfl⟩ := hrel
        by_cases hjl : j < ll
        · obtain ⟨bk, o, cs1, rfl, _, hl1, hs1, hc1⟩ := (H1.out.below B0.out (fun _ _ _ h => h)).get (by decide) (show j < ls.length by rw [HLL.out]; exact hjl)
          obtain ⟨s, hs⟩ : ∃ s, ls[j]'(by rw [HLL.out]; exact hjl) = s := ⟨_, rfl⟩
          rw [hs] at hs1
          have hc := hc1 0 (.string s) (by rw [show cs1 = [.string s] from hs1]; rfl)
          simp only [Nat.mul_one, Nat.add_zero] at hc
          clear hs1 hc1 hl1 hs
          by_cases hsz : 100 < s.size
          · go_wp2
            go_ret
            exact ⟨⟨_, rfl⟩, B0.out⟩
          · have hsz' : s.size ≤ 100 := by omega
            clear hsz
            go_wp2
            go_round
            case rel => exact ⟨j + 1, by omega, by go_num⟩
            case measure => simp [intOf]; omega
        · have hje : j = ll := by omega
          subst hje
          go_wp2
          go_loopw [6] (fun i wr => ∃ k : Nat, k ≤ la ∧ i = .int .i64 k ∧ Hid (Below (w.heap.size + 1) (w.alloc (.cells #[.int .i64 k0, .string nm, .string lf, .bool u, .slice An j cn, .slice A la ca, .int .i64 l, .int .i64 c] 43)) wr)) (fun i _ => la - (intOf i).toNat)
          case atStart => exact ⟨0, Nat.zero_le _, rfl, Below.refl _ _⟩
          case round =>
            obtain ⟨q, hq, rfl, HB⟩ := hrel
            have IW := I0.out.below HB.out (by omega)
            have hsz : w.heap.size + 1 ≤ wr.heap.size := by have := HB.out.size; simpa using this
            have c5 := IW.at_ 5
            simp only [List.getElem?_toArray, List.getElem?_cons_zero, List.getElem?_cons_succ] at c5
            have BW : Hid (Below w.heap.size w wr) := B0.out.trans (HB.out.mono (by omega))
            by_cases hql : q < la
            · obtain ⟨bk, o, cs2, rfl, _, hl2, hs2, hc2⟩ := (H2.out.below BW.out (fun x _ cs h => TyAt.below BW.out n x cs h)).get (by decide) (show q < ar.length by rw [HLA.out]; exact hql)
              match cs2, hl2 with
              | [v0, v1, v2, v3, v4, v5, v6, v7], _ =>
                have x0 := hc2 0 _ rfl
                rw [Nat.add_zero] at x0
                have x1 := hc2 1 _ rfl
                have x2 := hc2 2 _ rfl
                have x3 := hc2 3 _ rfl
                have x4 := hc2 4 _ rfl
                have x5 := hc2 5 _ rfl
                have x6 := hc2 6 _ rfl
                have x7 := hc2 7 _ rfl
                obtain ⟨dd, hdd⟩ : ∃ dd : Nat, (d : Int) - 1 = dd := ⟨d - 1, by omega⟩
                have HS := Lib.hid (IH.out _ _ dd wr hs2 (by omega))
                clear hc2 hs2 IW
                go_wp2_with fail
                refine HS.out.mono ?_
                rintro e w3 ⟨⟨b, rfl⟩, q3⟩
                have HB3 := Lib.hid (HB.out.trans (q3.mono hsz))
                have BW3 := Lib.hid (BW.out.trans (q3.mono (by omega)))
                clear q3
                cases b with
                | true =>
                  go_wp2
                  go_roundw
                  case rel => exact ⟨q + 1, by omega, by go_num, HB3⟩
                  case measure => simp [intOf]; omega
                | false =>
                  go_wp2
                  go_ret
                  exact ⟨⟨_, rfl⟩, BW3.out⟩
            · have hqe : q = la := by omega
              subst hqe
              go_wp2
              go_ret
              exact ⟨⟨_, rfl⟩, BW.out⟩
theorem smallType_any : ∀ n, SmallTy n
  | 0 => fun _ _ _ _ h _ => h.elim
  | n + 1 => smallType_step n (smallType_any n)
end Tr
end Go.Proofs.Ythainjaefijidaa

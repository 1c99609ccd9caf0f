/- Layer 13: is a value small? What nil memory tells. -/
import Derived.Test.YtbhjdpaicfnfcaaHeapW
import Derived.Test.YtbhjdpaicfnfcaaHeapU
namespace Go.Proofs.Ytbhjdpaicfnfcaa
open Go.RowKit Go.Deep Tr
namespace Hp
def SomeB (e : Ending) : Prop := ∃ b, e = .returned (.bool b)
def SmallVaOk (n : Nat) : Prop := ∀ (x : Va) (cs : List Value) (d : Nat) (w : World), VaAt w n x cs → d ≤ 100 →
    Calls Try.prog 19 #[.agg cs.toArray, .int .i64 d] w fun e w' => SomeB e ∧ Below w.heap.size w w'
set_option maxHeartbeats 8000000
set_option maxRecDepth 100000
theorem small_step (n : Nat) (IH : Hid (SmallVaOk n)) : SmallVaOk (n + 1) := by
  rintro ⟨k, m, nm, ps, al, pa, tg⟩ cs d w h hd
  obtain ⟨P, cp, R, cr, rfl, ⟨_, _⟩, h2⟩ := h
  obtain ⟨lp, hlp⟩ : ∃ n, ps.length = n := ⟨_, rfl⟩
  obtain ⟨la, hla⟩ : ∃ n, pa.length = n := ⟨_, rfl⟩
  have HLP := Lib.hid hlp
  rw [hlp, hla]
  have H2 := Lib.hid h2
  have I0 := Lib.hid (Is.made w 34 #[.int .i64 k, .int .u64 m, .string nm, .slice P lp cp, .int .i64 al, .slice R la cr, .int .i64 tg])
  have B0 : Hid (Below w.heap.size w (w.alloc (.cells #[.int .i64 k, .int .u64 m, .string nm, .slice P lp cp, .int .i64 al, .slice R la cr, .int .i64 tg] 34))) := (Below.refl _ w).alloc (Nat.le_refl _) _
  clear h2 hlp hla
  by_cases hout : d = 0 ∨ (0 < d ∧ 5 < lp) ∨ (0 < d ∧ lp ≤ 5 ∧ 60 < nm.size) ∨ (0 < d ∧ lp ≤ 5 ∧ nm.size ≤ 60 ∧ 6 < la)
  · rcases hout with g1 | ⟨g1, g2⟩ | ⟨g1, g2, g3⟩ | ⟨g1, g2, g3, g4⟩
    · subst g1
      go_enter Try.func19, Try.ntmps19
      go_wp2
      go_ret
      exact ⟨⟨_, rfl⟩, B0.out⟩
    all_goals
      have e0 : ((d : Int) == 0) = false := by rw [beq_eq_false_iff_ne]; omega
      go_enter Try.func19, Try.ntmps19
      go_wp2
      go_ret
      exact ⟨⟨_, rfl⟩, B0.out⟩
  · have e0 : ((d : Int) == 0) = false := by rw [beq_eq_false_iff_ne]; omega
    have g2 : lp ≤ 5 := by omega
    have g3 : nm.size ≤ 60 := by omega
    have g4 : la ≤ 6 := by omega
    obtain ⟨dd, rfl⟩ : ∃ dd, d = dd + 1 := ⟨d - 1, by omega⟩
    have hdd : ((dd + 1 : Nat) : Int) - 1 = (dd : Int) := by omega
    obtain ⟨di, hdi⟩ : ∃ di : Int, ((dd + 1 : Nat) : Int) = di := ⟨_, rfl⟩
    have hdi2 : di ≤ 100 := by omega
    have hdi3 : 0 < di := by omega
    rw [hdi] at e0 hdd ⊢
    clear hout hdi hd
    go_enter Try.func19, Try.ntmps19
    go_wp2
    go_loopw [5] (fun i wr => ∃ q : Nat, q ≤ lp ∧ i = .int .i64 q ∧ Hid (Below (w.heap.size + 1) (w.alloc (.cells #[.int .i64 k, .int .u64 m, .string nm, .slice P lp cp, .int .i64 al, .slice R la cr, .int .i64 tg] 34)) wr)) (fun i _ => lp - (intOf i).toNat)
    case atStart => exact ⟨0, Nat.zero_le _, rfl, Below.refl _ _⟩
    case round =>
      obtain ⟨q, hq, rfl, HB⟩ := hrel
      have IW := I0.out.below HB.out (by omega)
      have hsz : w.heap.size + 1 ≤ wr.heap.size := by have := HB.out.size; simpa using this
      have c3 := IW.at_ 3
      simp only [List.getElem?_toArray, List.getElem?_cons_zero, List.getElem?_cons_succ] at c3
      have BW : Hid (Below w.heap.size w wr) := B0.out.trans (HB.out.mono (by omega))
      by_cases hql : q < lp
      · have hqL : q < ps.length := by rw [HLP.out]; exact hql
        obtain ⟨bk, o, cs2, rfl, _, hl2, hs2, hc2⟩ := (H2.out.below BW.out (fun x _ cs h => VaAt.below BW.out n x cs h)).get (by decide) hqL
        obtain ⟨x, hx⟩ : ∃ x, ps[q] = x := ⟨_, rfl⟩
        rw [hx] at hs2
        obtain ⟨k0, m0, nm0, P0, lp0, cp0, al0, R0, lr0, cr0, tg0, rfl⟩ := hs2.shape
        have x0 := hc2 0 _ rfl
        rw [Nat.add_zero] at x0
        have x1 := hc2 1 _ rfl
        have x2 := hc2 2 _ rfl
        have x3 := hc2 3 _ rfl
        have x4 := hc2 4 _ rfl
        have x5 := hc2 5 _ rfl
        have x6 := hc2 6 _ rfl
        have HS := Lib.hid (IH.out _ _ dd wr hs2 (by omega))
        clear hc2 hs2 IW hx hqL
        go_wp2_with fail
        refine HS.out.mono ?_
        rintro e w3 ⟨⟨b, rfl⟩, q3⟩
        have HB3 := Lib.hid (HB.out.trans (q3.mono hsz))
        have BW3 := Lib.hid (BW.out.trans (q3.mono (by omega)))
        clear q3
        cases b with
        | true =>
          go_wp2
          go_roundw
          case rel => exact ⟨q + 1, by omega, by go_num, HB3⟩
          case measure => simp [intOf]; omega
        | false =>
          go_wp2
          go_ret
          exact ⟨⟨_, rfl⟩, BW3.out⟩
      · have hqe : q = lp := by omega
        subst hqe
        go_wp2
        go_ret
        exact ⟨⟨_, rfl⟩, BW.out⟩
theorem smallVa_any : ∀ n, SmallVaOk n
  | 0 => fun _ _ _ _ h _ => h.elim
  | n + 1 => small_step n (smallVa_any n)
end Hp
end Go.Proofs.Ytbhjdpaicfnfcaa

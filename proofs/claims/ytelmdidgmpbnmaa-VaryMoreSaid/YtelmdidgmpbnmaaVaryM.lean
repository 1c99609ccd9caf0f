/- Layer 8: are structs few and small? -/
import Derived.BigQuiet
import Derived.Test.YtelmdidgmpbnmaaSmallT
import Derived.Test.YtelmdidgmpbnmaaVaryK
namespace Go.Proofs.Ytelmdidgmpbnmaa
open Go.RowKit Go.Deep Tr Mp
namespace Vy
def FewB (l : List Df) (e : Ending) : Prop := ∃ b, e = .returned (.bool b) ∧ (b = true → l.length ≤ 6 ∧ ∀ d ∈ l, d.types.length ≤ 4 ∧ d.fields.length ≤ 5)
set_option maxHeartbeats 8000000 in
set_option maxRecDepth 100000 in
theorem few_any {n : Nat} {l : List Df} {A : Option Addr} {ca : Nat} {w : World} (h : ListAt w 4 (DfAt w n) A l) :
    Calls Try.prog 10 #[.slice A l.length ca] w fun e w' => FewB l e ∧ Below w.heap.size w w' := by
  obtain ⟨ll, hll⟩ : ∃ n, l.length = n := ⟨_, rfl⟩
  have H := Lib.hid h
  have HLL := Lib.hid hll
  have hle := h.le
  rw [hll] at hle ⊢
  unfold maxLen at hle
  clear h hll
  by_cases h6 : 6 < ll
  · go_enter Try.func10, Try.ntmps10
    go_wp2
    go_ret
    exact ⟨⟨_, rfl, fun e => by cases e⟩, Below.refl _ _⟩
  have h6 : ll ≤ 6 := by omega
  go_enter Try.func10, Try.ntmps10
  go_wp2
  go_loopw [3] (fun i wr => ∃ q : Nat, q ≤ ll ∧ i = .int .i64 q ∧ Hid (Below w.heap.size w wr) ∧ Hid (∀ d ∈ l.take q, d.types.length ≤ 4 ∧ d.fields.length ≤ 5)) (fun i _ => ll - (intOf i).toNat)
  case atStart => exact ⟨0, Nat.zero_le _, rfl, Below.refl _ _, by show ∀ d ∈ l.take 0, _; simp⟩
  case round =>
    obtain ⟨q, hq, rfl, BW, HT⟩ := hrel
    by_cases hql : q < ll
    · have hqL : q < l.length := by rw [HLL.out]; exact hql
      obtain ⟨bk, o, cs2, hA, hlt, _, hs2, hc2⟩ := H.out.get (by decide) hqL
      subst hA
      obtain ⟨d, hd⟩ : ∃ x, l[q] = x := ⟨_, rfl⟩
      rw [hd] at hs2
      have HX : Hid (l.take (q + 1) = l.take q ++ [d]) := by show _ = _; rw [List.take_succ_eq_append_getElem hqL, hd]
      obtain ⟨T, ct, A1, ca1, rfl, ⟨hn0, h1⟩, h2⟩ := hs2
      obtain ⟨nm, hnm⟩ : ∃ x, d.name = x := ⟨_, rfl⟩
      obtain ⟨li, hli⟩ : ∃ x, d.lifes = x := ⟨_, rfl⟩
      obtain ⟨lt, hltt⟩ : ∃ x, d.types.length = x := ⟨_, rfl⟩
      obtain ⟨lf, hlf⟩ : ∃ x, d.fields.length = x := ⟨_, rfl⟩
      rw [hnm, hli, hltt, hlf] at hc2
      have XC : Hid (∀ W', Below w.heap.size w W' → ∀ (j : Nat) (u : Value), [Value.string nm, .int .i64 li, .slice T lt ct, .slice A1 lf ca1][j]? = some u → W'.cell? ⟨bk, o + q * 4 + j, none⟩ = some u) := fun W' g j u hu => (g.cell (p := ⟨bk, o + q * 4 + j, none⟩) hlt).trans (hc2 j u hu)
      have x1 := XC.out wr BW.out 1 _ rfl
      have x2 := XC.out wr BW.out 2 _ rfl
      have x3 := XC.out wr BW.out 3 _ rfl
      have HLT := Lib.hid hltt
      have HLF := Lib.hid hlf
      have H2 := Lib.hid h2
      clear hd hc2 hlt hnm hli hltt hlf h1 h2 hn0
      by_cases hbad : li < 0 ∨ (0 ≤ li ∧ 5 < li) ∨ (0 ≤ li ∧ li ≤ 5 ∧ 4 < lt) ∨ (0 ≤ li ∧ li ≤ 5 ∧ lt ≤ 4 ∧ 5 < lf)
      · rcases hbad with g1 | ⟨g1, g2⟩ | ⟨g1, g2, g3⟩ | ⟨g1, g2, g3, g4⟩
        all_goals
          go_wp2
          go_ret
          exact ⟨⟨_, rfl, fun e => by cases e⟩, BW.out⟩
      · have g1 : 0 ≤ li := by omega
        have g2 : li ≤ 5 := by omega
        have g3 : lt ≤ 4 := by omega
        have g4 : lf ≤ 5 := by omega
        have HT2 : Hid (∀ d ∈ l.take (q + 1), d.types.length ≤ 4 ∧ d.fields.length ≤ 5) := fun y hy => by
          rw [HX.out] at hy
          rcases List.mem_append.1 hy with hy | hy
          · exact HT.out y hy
          · rw [List.mem_singleton.1 hy, HLT.out, HLF.out]; exact ⟨g3, g4⟩
        clear hbad HT HX HLT hqL
        go_wp2
        clear x1 x2 x3
        go_loopw [4] (fun i wx => ∃ k : Nat, k ≤ q ∧ i = .int .i64 k ∧ Hid (Below w.heap.size w wx)) (fun i _ => q - (intOf i).toNat)
        case atStart => exact ⟨0, Nat.zero_le _, rfl, BW⟩
        clear BW
        case round =>
          obtain ⟨k, hk, rfl, BW⟩ := hrel
          by_cases hkq : k < q
          · have hkL : k < l.length := by rw [HLL.out]; omega
            obtain ⟨bk', o'', cs3, hA, hlt, hl3, hs3, hc3⟩ := H.out.get (by decide) hkL
            injection hA with hA
            injection hA with e1 e2 e3
            subst e1 e2
            obtain ⟨T3, ct3, A3, ca3, rfl, hz1, hz2⟩ := hs3
            obtain ⟨nk, hnk⟩ : ∃ x, (l[k]).name = x := ⟨_, rfl⟩
            rw [hnk] at hc3
            have y0 := (BW.out.cell (p := ⟨bk, o + k * 4 + 0, none⟩) hlt).trans (hc3 0 _ rfl)
            have x0 := XC.out _ BW.out 0 _ rfl
            rw [Nat.add_zero] at x0 y0
            obtain ⟨bb, hbb⟩ : ∃ b, (nk.toList == nm.toList) = b := ⟨_, rfl⟩
            have hkll : k < ll := by omega
            clear hl3 hz1 hz2 hc3 hlt hnk hkL e3
            cases bb with
            | true =>
              go_wp2_with fail
              go_quiet (fail)
              go_wp2
              go_ret
              exact ⟨⟨_, rfl, fun e => by cases e⟩, ⟨BW.out.os, BW.out.tape, BW.out.output, BW.out.size, BW.out.block⟩⟩
            | false =>
              go_wp2_with fail
              go_quiet (fail)
              go_wp2
              go_roundw
              case rel => exact ⟨k + 1, by omega, by go_num, ⟨BW.out.os, BW.out.tape, BW.out.output, BW.out.size, BW.out.block⟩⟩
              case measure => simp [intOf]; omega
          · have hkq : k = q := by omega
            subst hkq
            go_wp2
            go_loopw [5] (fun i wx => ∃ j : Nat, j ≤ lf ∧ i = .int .i64 j ∧ Hid (Below w.heap.size w wx)) (fun i _ => lf - (intOf i).toNat)
            case atStart => exact ⟨0, Nat.zero_le _, rfl, BW⟩
            clear BW
            case round =>
              obtain ⟨j, hj, rfl, BW⟩ := hrel
              have x3 := XC.out _ BW.out 3 _ rfl
              by_cases hjl : j < lf
              · obtain ⟨bf, of, cs4, hA, hlt, _, hs4, hc4⟩ := H2.out.get (by decide) (show j < d.fields.length by rw [HLF.out]; exact hjl)
                subst hA
                obtain ⟨k0, nm0, u0, r0, R0, lr0, cr0, A0, la0, ca0, rfl⟩ := hs4.shape
                have z0 := (BW.out.cell (p := ⟨bf, of + j * 6 + 0, none⟩) hlt).trans (hc4 0 _ rfl)
                rw [Nat.add_zero] at z0
                have z1 := (BW.out.cell (p := ⟨bf, of + j * 6 + 1, none⟩) hlt).trans (hc4 1 _ rfl)
                have z2 := (BW.out.cell (p := ⟨bf, of + j * 6 + 2, none⟩) hlt).trans (hc4 2 _ rfl)
                have z3 := (BW.out.cell (p := ⟨bf, of + j * 6 + 3, none⟩) hlt).trans (hc4 3 _ rfl)
                have z4 := (BW.out.cell (p := ⟨bf, of + j * 6 + 4, none⟩) hlt).trans (hc4 4 _ rfl)
                have z5 := (BW.out.cell (p := ⟨bf, of + j * 6 + 5, none⟩) hlt).trans (hc4 5 _ rfl)
                have HS := Lib.hid (small_any n _ _ 6 _ (TyAt.below BW.out n _ _ hs4) (by decide))
                clear hs4 hc4 hlt
                go_wp2_with fail
                refine HS.out.mono ?_
                rintro e w3 ⟨⟨b, rfl, _⟩, q3⟩
                have BW3 := Lib.hid (BW.out.trans (q3.mono BW.out.size))
                clear q3 HS BW z0 z1 z2 z3 z4 z5 x3
                cases b with
                | true =>
                  go_wp2
                  go_roundw
                  case rel => exact ⟨j + 1, by omega, by go_num, BW3⟩
                  case measure => simp [intOf]; omega
                | false =>
                  go_wp2
                  go_ret
                  exact ⟨⟨_, rfl, fun e => by cases e⟩, BW3.out⟩
              · have hje : j = lf := by omega
                go_wp2
                go_roundw
                case rel => exact ⟨k + 1, by omega, by go_num, BW, HT2⟩
                case measure => simp [intOf]; omega
    · have hqe : q = ll := by omega
      have HF : Hid (l.length ≤ 6 ∧ ∀ d ∈ l, d.types.length ≤ 4 ∧ d.fields.length ≤ 5) := by
        have := HT.out
        rw [List.take_of_length_le (by rw [HLL.out]; omega)] at this
        exact ⟨by rw [HLL.out]; exact h6, this⟩
      subst hqe
      clear HT
      go_wp2
      go_ret
      exact ⟨⟨_, rfl, fun _ => HF.out⟩, BW.out⟩
end Vy
end Go.Proofs.Ytelmdidgmpbnmaa

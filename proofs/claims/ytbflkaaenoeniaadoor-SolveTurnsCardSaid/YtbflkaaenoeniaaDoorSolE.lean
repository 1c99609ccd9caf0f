/- The walks of layer 12: Has; spread. -/
import Derived.Deep.LoopGhost
import Derived.Deep.RegionLaw
import Derived.StillTailTactics
import Derived.Test.YtbflkaaenoeniaaDoorSolD
namespace Go.Proofs.YtbflkaaenoeniaaDoor
open Go.RowKit Lf Go.Deep
namespace Sv
theorem own_pop {w : World} {B n cap x : Nat} {A : Option Addr} {l : List Nat} (h : w.ownsRow B 3 1 (.slice A (n + 1) cap) (n + 1) (natsC (l ++ [x]))) (hn : l.length = n) :
    w.ownsRow B 3 1 (.slice A n cap) n (natsC l) ∧ ∃ g, A = some ⟨g, 0, none⟩ ∧ w.cell? ⟨g, n, none⟩ = some (.int .i64 (x : Int)) ∧ w.frozen? ⟨g, n, none⟩ = false ∧ n + 1 ≤ cap := by
  have hc := h
  rcases h.2 with ⟨e, h0⟩ | ⟨g, cap', cur, e, h1, h2, h3, h4, h5, h6⟩
  · cases h0
  · injection e with e1 e2 e3
    subst e1 e3
    have hl : (natsC l).length = n := by rw [natsC_length, hn]
    refine ⟨⟨by rw [hl, Nat.mul_one], .inr ⟨g, cap, cur, rfl, h1, h2, by omega, h4, h5, ?_⟩⟩, g, rfl, ?_, Tr.own_free h rfl n, h3⟩
    · have h7 := congrArg (List.take n) h6
      rw [Nat.mul_one, List.take_take, Nat.min_eq_left (by omega), natsC_snoc, List.take_append_of_le_length (by omega), List.take_of_length_le (by omega : (natsC l).length ≤ n)] at h7
      rw [Nat.mul_one]
      exact h7
    · have := hc.cells (g := g) rfl n (.int .i64 (x : Int)) (by rw [natsC_snoc, List.getElem?_append_right (by omega), hl]; simp)
      rwa [show (⟨g, 0, none⟩ : Addr).add n = ⟨g, n, none⟩ from by unfold Addr.add; split <;> simp_all] at this
theorem snoc_of {l : List Nat} (h : l ≠ []) : ∃ l' x, l = l' ++ [x] := ⟨l.dropLast, l.getLast h, (List.dropLast_concat_getLast h).symm⟩
section
variable {w w' : World} {b b1 b2 : Nat} {O I : Nat → Nat} {n m : Nat} {X Y : Nat → Nat}
theorem has_any (h : Sol w b b1 b2 O I n m X Y) {r e : Nat} (hr : r < n) (he : e < m) : Calls Tryd.prog 13 #[.pointer (some ⟨b, 0, none⟩), .int .i64 r, .int .i64 e] w fun x w' => x = .returned (.bool ((Y e).testBit r)) ∧ w = w' := by
  have hb := hasBoth_any h.toHead (r : Int) (e : Int)
  rw [inB_nat hr, inB_nat he] at hb
  have HB := Lib.hid hb
  have c1 := h.c1
  have ci := h.ci he
  have HS := Lib.hid (has_bit (h.yi he) (h.y64 he) (show r < 64 from Nat.lt_of_lt_of_le hr h.few))
  have hm := h.most
  clear h hb
  go_enter Tryd.func13, Tryd.ntmps13
  go_wp2_with fail
  refine HB.out.mono ?_
  rintro e w1 ⟨rfl, rfl⟩
  go_wp2_with fail
  refine HS.out.mono ?_
  rintro e w1 ⟨rfl, rfl⟩
  go_wp2
  go_ret
  exact ⟨rfl, rfl⟩
theorem has_nil (r e : Int) (w : World) : Calls Tryd.prog 13 #[.pointer none, .int .i64 r, .int .i64 e] w fun x w' => x = .returned (.bool false) ∧ w = w' := by
  go_enter Tryd.func13, Tryd.ntmps13
  go_wp2_with fail
  refine (hasBoth_nil _ _ _).mono ?_
  rintro e w1 ⟨rfl, rfl⟩
  go_wp2
  go_ret
  exact ⟨rfl, rfl⟩
/-- What a spread element's word is then. -/
def Spread (M : R2) (r S0 S : Nat) : Prop := ∀ y, S.testBit y = (S0.testBit y || M y r)
theorem put_put (Y : Nat → Nat) (e u v : Nat) : put (put Y e u) e v = put Y e v := by funext i; unfold put; split <;> rfl
theorem put_at (Y : Nat → Nat) (e u : Nat) : put Y e u e = u := if_pos rfl
theorem put_same (Y : Nat → Nat) (e : Nat) : put Y e (Y e) = Y := by funext i; unfold put; split <;> simp_all
set_option maxHeartbeats 4000000 in
set_option maxRecDepth 100000 in
theorem spread_any (h : Sol w b b1 b2 O I n m X Y) {M : R2} (hcl : Cl X n M) {r e : Nat} (hr : r < n) (he : e < m) (hc : ∀ x y, (Y e).testBit x = true → (X x).testBit y = true → (Y e).testBit y = true ∨ y = r) :
    Calls Tryd.prog 22 #[.pointer (some ⟨b, 0, none⟩), .int .i64 r, .int .i64 e] w fun x w' => x = .returned (.tuple #[]) ∧ ∃ S, Spread M r (Y e) S ∧ Sol w' b b1 b2 O I n m X (put Y e S) ∧ Mod (fun k => k = I e) w w' := by
  have H := Lib.hid h
  have HCL := Lib.hid hcl
  have hm := h.most
  have hr64 : r < 64 := Nat.lt_of_lt_of_le hr h.few
  have c1 := h.c1
  have ci := h.ci he
  have HS := Lib.hid (has_bit (h.yi he) (h.y64 he) hr64)
  cases hbit : (Y e).testBit r with
  | true =>
    rw [hbit] at HS
    have HX : Hid (Spread M r (Y e) (Y e)) := fun y => by
      rw [Bool.eq_iff_iff, Bool.or_eq_true]
      refine ⟨.inl, fun hy => ?_⟩
      rcases hy with hy | hy
      · exact hy
      · have := hcl.least (fun c d => !(Y e).testBit d || (Y e).testBit c) ⟨fun c => by cases (Y e).testBit c <;> rfl, fun c d f h1 h2 => by cases hc : (Y e).testBit c <;> cases hf : (Y e).testBit f <;> simp_all⟩
          (fun i j hi hj => by
            cases hq : (Y e).testBit i with
            | false => rfl
            | true =>
              rcases hc i j hq hj with h1 | rfl
              · simp [h1]
              · simp [hbit]) y r hy
        simpa [hbit] using this
    clear h hcl hc hbit
    go_enter Tryd.func22, Tryd.ntmps22
    go_wp2_with fail
    refine HS.out.mono ?_
    rintro e w1 ⟨rfl, rfl⟩
    go_wp2
    refine bodyPost_ret (results_none (by kernel_rfl) _ _ _) rfl ?_
    exact ⟨rfl, Y e, HX.out, by rw [put_same]; exact H.out, Mod.refl _ _⟩
  | false =>
    rw [hbit] at HS
    have HSP := Lib.hid (sp_start hcl hr (h.ylt e he) hc)
    have HA := Lib.hid (add_bit (h.irow e he) (h.y64 he) hr64)
    have HB0 : 0 < w.heap.size := h.tab.pos
    obtain ⟨B, hB⟩ : ∃ B, w.heap.size = B := ⟨_, rfl⟩
    have HIe : I e < B := by rw [← hB]; exact (h.irow e he).lt
    have HBB := Lib.hid hB
    rw [hB] at HB0
    clear h hcl hc hbit hB
    go_enter Tryd.func22, Tryd.ntmps22
    go_wp2_with fail
    refine HS.out.mono ?_
    rintro e w1 ⟨rfl, rfl⟩
    go_wp2_with fail
    refine HA.out.mono ?_
    rintro e w2 ⟨rfl, q1, q2⟩
    have M2 : Hid (Mod (fun k => k = I e) w w2) := (Mod.refl _ w).but q2 rfl
    have S2 : Hid (Sol w2 b b1 b2 O I n m X (put Y e (Y e ||| 2 ^ r))) := H.out.inn_put he M2.out q1 HSP.out.lt
    clear q1 q2 c1 ci HS HA
    have OW : Hid (Own (w2.alloc (.cells #[.int .i64 r] 3)) B (.slice (some ⟨w2.heap.size, 0, none⟩) 1 1) [r]) := by
      refine ⟨rfl, .inr ⟨w2.heap.size, 1, _, rfl, by rw [← HBB.out]; exact M2.out.size, heap_alloc_new w2 _, Nat.le_refl _, by unfold maxLen; omega, rfl, rfl⟩⟩
    have S3 := Lib.hid (S2.out.below (w' := w2.alloc (.cells #[.int .i64 r] 3)) ((Below.refl _ _).alloc (Nat.le_refl _) _))
    have M3 : Hid (Mod (fun k => k = I e ∨ B ≤ k) w (w2.alloc (.cells #[.int .i64 r] 3))) := (M2.out.mono (fun _ _ h => .inl h)).alloc _
    go_wp2
    obtain ⟨w3, hw3⟩ : ∃ w3, w2.alloc (.cells #[.int .i64 r] 3) = w3 := ⟨_, rfl⟩
    obtain ⟨g2, hg2⟩ : ∃ g, w2.heap.size = g := ⟨_, rfl⟩
    rw [hw3, hg2] at OW
    rw [hw3] at S3 M3 ⊢
    rw [hg2]
    clear hw3 hg2 S2 M2
    go_loopg [6] (1 + 64) (fun gk v wr => ∃ (l : List Nat) (S : Nat), Hid (Own wr B v l) ∧ Hid (Sp X n M r (Y e) S l) ∧ Hid (Sol wr b b1 b2 O I n m X (put Y e S)) ∧ Hid (Mod (fun k => k = I e ∨ B ≤ k) w wr) ∧ Hid (l.length + (64 - card S) ≤ gk ∧ gk ≤ 65))
    case atStart => exact ⟨[r], Y e ||| 2 ^ r, OW, HSP, S3, M3, by show 1 + (64 - _) ≤ 1 + 64; omega, Nat.le_refl _⟩
    case round =>
      obtain ⟨l, S, HO, HP, HL, HM, HG⟩ := hrel
      by_cases hl0 : l = []
      · subst hl0
        obtain ⟨A, cp, rfl, _⟩ := Tr.own_slice HO.out
        go_wp2
        go_end0
        exact ⟨rfl, S, HP.out.done HCL.out, HL.out, ⟨HM.out.os, HM.out.tape, HM.out.output, HM.out.size, fun k hk hn => HM.out.block k hk (fun e => by rcases e with e | e; exact hn e; exact absurd hk (by rw [HBB.out]; omega))⟩⟩
      · obtain ⟨l', x, rfl⟩ := snoc_of hl0
        obtain ⟨q, hq⟩ : ∃ q, l'.length = q := ⟨_, rfl⟩
        have hlen : (l' ++ [x]).length = q + 1 := by rw [List.length_append, hq]; rfl
        obtain ⟨A, cp, rfl, _⟩ := Tr.own_slice HO.out
        have ho := HO.out
        unfold Own at ho
        rw [hlen] at ho
        obtain ⟨o1, g, rfl, cx, fx, hcp⟩ := own_pop ho hq
        have hst := HP.out.step HL.out.few HCL.out HL.out.xlt
        have hxn := hst.2
        have HST := Lib.hid hst.1
        have hcard := card_or S (X x)
        have hq64 : q + 1 + (64 - card S) ≤ gk := by rw [← hlen]; exact HG.out.1
        have hgk := HG.out.2
        have hq65 : q ≤ 64 := by omega
        have O1 : Hid (Own wr B (.slice (some ⟨g, 0, none⟩) q cp) l') := by
          show World.ownsRow _ _ _ _ _ _ _
          rw [hq]; exact o1
        rw [hlen]
        clear HO ho o1 hst hl0
        go_wp2_with fail
        go_region
        have HL4 := Lib.hid HL.out.drew
        have O4 : Hid (Own wr.drew B (.slice (some ⟨g, 0, none⟩) q cp) l') := O1.out.drew
        have HM4 := Lib.hid HM.out.drew
        obtain ⟨w4, hw4⟩ : ∃ w4, wr.drew = w4 := ⟨_, rfl⟩
        rw [hw4] at HL4 O4 HM4 ⊢
        clear hw4 HL HM O1 cx fx
        have d0 := HL4.out.c0
        have d1 := HL4.out.c1
        have do_ := HL4.out.co hxn
        have di := HL4.out.ci he
        go_wp2_with fail
        go_still_tail 15, (by kernel_rfl)
        change wpList _ _ _ _ _ w4.drew
        have HL5 := Lib.hid HL4.out.drew
        have O5 : Hid (Own w4.drew B (.slice (some ⟨g, 0, none⟩) q cp) l') := O4.out.drew
        have HM5 := Lib.hid HM4.out.drew
        obtain ⟨w5, hw5⟩ : ∃ w5, w4.drew = w5 := ⟨_, rfl⟩
        rw [hw5] at HL5 O5 HM5 ⊢
        clear hw5 HL4 HM4 O4 d0 d1 do_ di
        go_wp2_with fail
        have hi5 := HL5.out.irow e he
        rw [put_at] at hi5
        have hB5 : B ≤ w5.heap.size := by have := HM5.out.size; rw [HBB.out] at this; exact this
        refine (addNew_any HL5.out.tab hi5 (HL5.out.orow x hxn) (Nat.lt_of_lt_of_le HP.out.lt (Nat.pow_le_pow_right (by decide) HL5.out.few)) (HL5.out.x64 hxn) (B := B) (l := l') (by unfold Own; rw [hq]; have := O5.out; unfold Own at this; rw [hq] at this; exact this) (by omega) hB5 HB0).mono ?_
        rintro e6 w6 ⟨v6, rfl, q1, q2, q3⟩
        have HM6 : Hid (Mod (fun k => k = I e ∨ B ≤ k) w w6) := HM5.out.trans q3
        have hlow : Mod (fun k => k = I e) w w6 := ⟨HM6.out.os, HM6.out.tape, HM6.out.output, HM6.out.size, fun k hk hn => HM6.out.block k hk (fun e' => by rcases e' with e' | e'; exact hn e'; exact absurd hk (by rw [HBB.out]; omega))⟩
        have HL6 : Hid (Sol w6 b b1 b2 O I n m X (put Y e (S ||| X x))) := H.out.inn_put he hlow q2 HST.out.lt
        have HO6 := Lib.hid q1
        have hless : (l' ++ bl (fresh (X x) S)).length + (64 - card (S ||| X x)) < gk := by
          have h1 := card_le (S ||| X x)
          rw [hcard] at h1 ⊢
          rw [List.length_append, hq]
          have h2 : (bl (fresh (X x) S)).length = card (fresh (X x) S) := rfl
          rw [h2]
          omega
        have HLS := Lib.hid hless
        have hgk' := hgk
        clear q1 q2 q3 hlow HM5 HL5 O5 hi5 hless
        go_wp2
        go_roundg ((l' ++ bl (fresh (X x) S)).length + (64 - card (S ||| X x)))
        case measure => exact HLS.out
        case rel => exact ⟨l' ++ bl (fresh (X x) S), S ||| X x, HO6, HST, HL6, HM6, Nat.le_refl _, by have := HLS.out; omega⟩
end
end Sv
end Go.Proofs.YtbflkaaenoeniaaDoor

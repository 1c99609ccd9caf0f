/- Layer 7: the law TypesWf. -/
import Derived.BigQuiet
import Derived.Deep.QuietTactic
import Derived.Deep.RegionHeld3
import Derived.Carry
import Derived.Test.YtiljpnghahkjhaaDoorTypesWF
import Derived.Test.YtiljpnghahkjhaaDoorTypesWG
import Derived.Test.YtiljpnghahkjhaaDoorTypesQ
namespace Go.Proofs.YtiljpnghahkjhaaDoor
open Go.RowKit Go.Deep Tr Mp
namespace Ts
/-- One struct's needs. -/
def ndS (L : List (Int × Int)) : Nds := fun s => if s = ⟨#[83]⟩ then L else []
theorem needsAt_one {w3 : World} {b : Nat} {AL : Option Addr} {cL : Nat} {L : List (Int × Int)} (hm : MapAt w3 Tryd.prog 9 b 1 (put (fun _ => none) ⟨#[83]⟩ (.slice AL L.length cL))) (hL : ListAt w3 2 TwoAt AL L) : NeedsAt w3 (.map (some b)) (ndS L) := by
  intro w' s hb hs
  have hl := look_at (hm.below hb hm.lt) Tryd.underlying9 Tryd.underlying42 (zero_pairs w') hs
  unfold ndS
  by_cases h : s = ⟨#[83]⟩
  · rw [if_pos h]
    refine ⟨AL, cL, ?_, hL⟩
    rw [hl]
    simp [put, h]
  · rw [if_neg h]
    refine ⟨none, 0, ?_, ListAt.none _ _ _ _⟩
    rw [hl]
    simp [put, h]
set_option maxHeartbeats 16000000 in
set_option maxRecDepth 100000 in
theorem typesWf_walk {n : Nat} {x : Ty} {cs : List Value} {W : World} {AL : Option Addr} {L : List (Int × Int)} {cL : Nat} (h : TyAt W n x cs) (hL : ListAt W 2 TwoAt AL L) :
    Calls Tryd.prog 7 #[.agg cs.toArray, .slice AL L.length cL] W fun e W' => e = .returned (.bool true) ∧ Below W.heap.size W W' := by
  obtain ⟨k, nm, u, r, R, lr, cr, A, la, ca, rfl⟩ := h.shape
  have hLle := hL.le
  unfold maxLen at hLle
  obtain ⟨ln, hln⟩ : ∃ j, L.length = j := ⟨_, rfl⟩
  have HLN := Lib.hid hln
  rw [hln] at hLle ⊢
  obtain ⟨o1, ho1⟩ : ∃ o, Obj.cells #[.int .i64 k, .string nm, .bool u, .int .i64 r, .slice R lr cr, .slice A la ca] 25 = o := ⟨_, rfl⟩
  have B1 : Below W.heap.size W (W.alloc o1) := (Below.refl _ W).alloc (Nat.le_refl _) o1
  have i1 : Is (W.alloc o1) W.heap.size 25 #[.int .i64 k, .string nm, .bool u, .int .i64 r, .slice R lr cr, .slice A la ca] := by rw [← ho1]; exact Is.made W _ _
  obtain ⟨V, hV⟩ : ∃ V, W.alloc o1 = V := ⟨_, rfl⟩
  rw [hV] at B1 i1
  have HV : Hid (W.alloc (.cells #[.int .i64 k, .string nm, .bool u, .int .i64 r, .slice R lr cr, .slice A la ca] 25) = V) := by rw [← hV, ← ho1]; exact rfl
  have KC : Hid (∀ X, Below V.heap.size V X → (X.cell? ⟨W.heap.size, 0, none⟩ = some (.int .i64 k) ∧ X.cell? ⟨W.heap.size, 1, none⟩ = some (.string nm) ∧ X.cell? ⟨W.heap.size, 2, none⟩ = some (.bool u) ∧ X.cell? ⟨W.heap.size, 3, none⟩ = some (.int .i64 r) ∧ X.cell? ⟨W.heap.size, 4, none⟩ = some (.slice R lr cr) ∧ X.cell? ⟨W.heap.size, 5, none⟩ = some (.slice A la ca))) := by
    intro X hX
    have j1 := i1.below hX i1.lt
    exact ⟨j1.at_ 0, j1.at_ 1, j1.at_ 2, j1.at_ 3, j1.at_ 4, j1.at_ 5⟩
  have HT : Hid (∀ X, Below V.heap.size V X → TyAt X n x [.int .i64 k, .string nm, .bool u, .int .i64 r, .slice R lr cr, .slice A la ca]) := fun X hX => TyAt.below (B1.trans (hX.mono B1.size)) _ _ _ h
  have HLA : Hid (∀ X, Below V.heap.size V X → ListAt X 2 TwoAt AL L) := fun X hX => hL.below (B1.trans (hX.mono B1.size)) (fun _ _ _ h => h)
  have HB := Lib.hid B1
  have HWV : Hid (∀ X, Below V.heap.size V X → Below W.heap.size W X) := fun X hX => B1.trans (hX.mono B1.size)
  clear h hL hln ho1 B1 i1 hV
  go_enter Tryd.func7, Tryd.ntmps7
  go_wp2_with fail
  rw [HV.out]
  refine (typed_any V).mono ?_
  rintro e W1 ⟨rfl, b1⟩
  have G1 := Lib.hid b1
  clear b1
  obtain ⟨n0, n1, n2, n3, n4, n5⟩ := KC.out W1 G1.out
  have HSA := Lib.hid (small_any n x _ 6 W1 (HT.out W1 G1.out) (by decide))
  go_wp2_with fail
  refine HSA.out.mono ?_
  rintro e W2 ⟨⟨sa, rfl, hsa⟩, b2⟩
  have G2 := Lib.hid (G1.out.trans (b2.mono G1.out.size))
  clear b2 HSA n0 n1 n2 n3 n4 n5
  cases sa with
  | false =>
    go_wp2_with fail
    refine (typed_any W2).mono ?_
    rintro e W3 ⟨rfl, b3⟩
    have G3 := Lib.hid (HWV.out _ (G2.out.trans (b3.mono G2.out.size)))
    clear b3
    go_wp2
    go_ret
    exact ⟨rfl, G3.out⟩
  | true =>
    have SA := Lib.hid (hsa rfl)
    clear hsa
    by_cases h10 : 10 < ln
    · go_wp2_with fail
      refine (typed_any W2).mono ?_
      rintro e W3 ⟨rfl, b3⟩
      have G3 := Lib.hid (HWV.out _ (G2.out.trans (b3.mono G2.out.size)))
      clear b3
      go_wp2
      go_ret
      exact ⟨rfl, G3.out⟩
    · have hmm := @run_makeMap Tryd.prog
      obtain ⟨b, hb⟩ : ∃ b, W2.heap.size = b := ⟨_, rfl⟩
      have m1 := MapAt.made W2 Tryd.prog 9
      rw [hb] at m1
      have hS1 : (⟨#[83]⟩ : ByteArray).size ≤ maxLen := by show (1 : Nat) ≤ maxLen; unfold maxLen; omega
      obtain ⟨w3, hput, m2, g2⟩ := put_at m1 Tryd.underlying9 Tryd.underlying42 (by unfold maxLen; omega) hS1 (.slice AL ln cL)
      have hbw : V.heap.size ≤ b := by rw [← hb]; exact G2.out.size
      have q3 : Below V.heap.size V w3 := (G2.out.alloc G2.out.size (.map #[] 0)).grown g2 (Nat.le_trans G2.out.size (by simp)) (fun j hj => by cases hj; exact hbw)
      rw [← HLN.out] at m2
      have hNd := needsAt_one m2 (HLA.out _ q3)
      have hfew : FewN (ndS L) := by
        intro s
        unfold ndS
        split
        · rw [HLN.out]; omega
        · exact Nat.zero_le _
      have hbw2 : (wfP (ndS L) x).length ≤ Big := Nat.le_trans (wf_le hfew 6 x SA.out) (Nat.le_trans most26 (by decide))
      have hall : (allP x).length ≤ Big := Nat.le_trans (all_le 6 x SA.out) (by decide)
      obtain ⟨nd, hnd⟩ : ∃ nd, ndS L = nd := ⟨_, rfl⟩
      rw [hnd] at hNd hbw2
      have G3 := Lib.hid q3
      have HW : Hid (∀ X, Below w3.heap.size w3 X → Calls Tryd.prog 24 #[.agg #[.int .i64 k, .string nm, .bool u, .int .i64 r, .slice R lr cr, .slice A la ca], .map (some b)] X fun e w' => ∃ v, e = .returned v ∧ RowPr w' v (wfP nd x) ∧ Below w3.heap.size w3 w') :=
        fun X hX => (wf_any (HT.out X (q3.trans (hX.mono q3.size))) hall (hNd.below hX) hbw2).mono fun _ _ ⟨v, e, ho, hb⟩ => ⟨v, e, (rowPr_own ho).1, hX.trans (hb.mono hX.size)⟩
      have HR : Hid (∀ X p, Below w3.heap.size w3 X → RowPr X p (wfP nd x) → Calls Tryd.prog 25 #[.agg #[.int .i64 k, .string nm, .bool u, .int .i64 r, .slice R lr cr, .slice A la ca], .map (some b)] X fun e w' => ∃ v, e = .returned v ∧ RowPr w' v (wfP nd x) ∧ RowPr w' p (wfP nd x) ∧ Below w3.heap.size w3 w') :=
        fun X _ hX hu => (rwf_any nd (some b) n x _ X (HT.out X (q3.trans (hX.mono q3.size))) hall (hNd.below hX) hbw2).mono fun _ _ ⟨v, e, ho, hb⟩ => ⟨v, e, ho, hu.below hb, hX.trans (hb.mono hX.size)⟩
      have HS : Hid (∀ X p q, RowPr X p (wfP nd x) → RowPr X q (wfP nd x) → Calls Tryd.prog 23 #[p, q] X fun e w' => e = .returned (.bool true) ∧ Below X.heap.size X w') :=
        fun X _ _ hu hv => (rsame_any hu hv).mono fun _ _ ⟨e, q, hq⟩ => ⟨e, hq ▸ below_drewN X q⟩
      have HWV3 : Hid (∀ X, Below w3.heap.size w3 X → Below W.heap.size W X) := fun X hX => HWV.out X (q3.trans (hX.mono q3.size))
      have KC3 : Hid (∀ X, Below w3.heap.size w3 X → (X.cell? ⟨W.heap.size, 0, none⟩ = some (.int .i64 k) ∧ X.cell? ⟨W.heap.size, 1, none⟩ = some (.string nm) ∧ X.cell? ⟨W.heap.size, 2, none⟩ = some (.bool u) ∧ X.cell? ⟨W.heap.size, 3, none⟩ = some (.int .i64 r) ∧ X.cell? ⟨W.heap.size, 4, none⟩ = some (.slice R lr cr) ∧ X.cell? ⟨W.heap.size, 5, none⟩ = some (.slice A la ca))) := fun X hX => KC.out X (q3.trans (hX.mono q3.size))
      have hput' : (Instr.mapUpdate 42 (.map (some b)) (.string ⟨#[83]⟩) (.slice AL ln cL)).run Tryd.prog (W2.alloc (.map #[] 0)) = .ok () w3 := hput
      have D0 : Hid (Below w3.heap.size w3 w3.drew) := below_drw (Below.refl _ w3)
      clear hput m1 hS1 m2 g2 hbw q3 hNd hfew hbw2 hall hnd HT HLA SA HLN KC HWV HB G1 G2 G3
      go_wp2_with fail
      clear hmm hput' hLle h10 HV
      go_region_held3 (fun X => (X.cell? ⟨W.heap.size, 0, none⟩ = some (.int .i64 k) ∧ X.cell? ⟨W.heap.size, 1, none⟩ = some (.string nm) ∧ X.cell? ⟨W.heap.size, 2, none⟩ = some (.bool u) ∧ X.cell? ⟨W.heap.size, 3, none⟩ = some (.int .i64 r) ∧ X.cell? ⟨W.heap.size, 4, none⟩ = some (.slice R lr cr) ∧ X.cell? ⟨W.heap.size, 5, none⟩ = some (.slice A la ca)))
          (first
            | exact KC3.out _ D6.out
            | exact KC3.out _ D5.out
            | exact KC3.out _ D4.out
            | exact KC3.out _ D0.out)
          (first
            | (go_at_call 23; refine (HS.out _ _ _ P5.out V5.out).mono ?_; rintro e w6 ⟨rfl, b⟩; have D6 := Lib.hid (D5.out.trans (b.mono D5.out.size)); clear b)
            | (go_at_call 25; refine (HR.out _ _ D4.out V4.out).mono ?_; rintro e w5 ⟨v5, rfl, hv, hu, b⟩; have D5 := Lib.hid b; have V5 := Lib.hid hv; have P5 := Lib.hid hu; clear b hv hu)
            | (go_at_call 24; refine (HW.out _ D0.out).mono ?_; rintro e w4 ⟨v4, rfl, hv, b⟩; have D4 := Lib.hid b; have V4 := Lib.hid hv; clear b hv))
      all_goals
        go_wp2
        go_ret
        exact ⟨rfl, HWV3.out _ D6.out⟩
end Ts
end Go.Proofs.YtiljpnghahkjhaaDoor

/- The walks of layer 6's program: Clone. -/
import Derived.WalkLawsBesides
import Derived.Deep.RegionHeld3
import Derived.Lib.BufferMore
import Derived.Deep.Slices
import Derived.WideShapes
import Derived.Deep.AppendLies
import Derived.Test.YtfadojniihjneaaLifeN
namespace Go.Proofs.Ytfadojniihjneaa
open Go.RowKit Lf Go.Deep
/-- m bools in a block of their own. -/
def Row (w : World) (R m : Nat) (f : Nat → Bool) : Prop := ∃ cs, Is w R 4 cs ∧ ∀ j, j < m → cs[j]? = some (.bool (f j))
def boolsC (m : Nat) (f : Nat → Bool) : List Value := (List.range m).map fun j => .bool (f j)
theorem boolsC_length (m : Nat) (f : Nat → Bool) : (boolsC m f).length = m := by simp [boolsC]
theorem boolsC_at {m : Nat} {f : Nat → Bool} {j : Nat} {u : Value} (h : (boolsC m f)[j]? = some u) : j < m ∧ u = .bool (f j) := by
  unfold boolsC at h
  rw [List.getElem?_map] at h
  obtain ⟨x, hx, rfl⟩ := Option.map_eq_some_iff.1 h
  obtain ⟨hj, rfl⟩ := List.getElem?_eq_some_iff.1 hx
  simp at hj
  simp [hj]
set_option maxHeartbeats 1000000 in
theorem clone_row {w : World} {R m K : Nat} {f : Nat → Bool} (h : Row w R m f) (hp : 0 < m) (hf : m ≤ 301) :
    Calls Try.prog 26 #[.slice (some ⟨R, 0, none⟩) m K] w fun e w' => ∃ g cap, e = .returned (.slice (some ⟨g, 0, none⟩) m cap) ∧ w.heap.size ≤ g ∧ m ≤ cap ∧ Row w' g m f ∧ Below w.heap.size w w' := by
  obtain ⟨i0, hi0, hz0, hz1, hz2⟩ := info_parts info_bool
  obtain ⟨cs, hc, hr⟩ := h
  have hlt := hc.lt
  have HC := Lib.hid hc
  have HR := Lib.hid hr
  clear hc hr
  have q51 : ∀ (w : World), (binOp .eql 51 (.slice (some ⟨R, 0, none⟩) m K) (.slice none 0 0)).run Try.prog w = .ok (.bool false) w := fun w => Lib.run_eql_slice_some_nil w _ _ _ Try.underlying51
  go_enter Try.func26, Try.ntmps26
  go_wp2_with (at_builtin; refine wpList_append_lies _ rfl _ _ 51 rfl w.heap.size 4 i0 (.bool false) 1 1 Try.underlying51 hi0 hz0 hz1 hz2 rfl (by decide) _ _ _ rfl (World.ownsRow_made w #[] 0 (Nat.le_refl _) (Nat.zero_le _) rfl) ⟨R, 0, none⟩ m K (boolsC m f) rfl ?qc1 ?qc2 ?qc3 hp ?qc4 ?qc5 ?qc6 (w.heap.size + 1) ?qc7 ?_)
  case qc1 => simp [boolsC]
  case qc2 =>
    intro j u hj
    obtain ⟨hjm, rfl⟩ := boolsC_at hj
    rw [WideShapes.add_plain, Nat.zero_add, (HC.out.alloc _).at_, HR.out j hjm]
  case qc3 =>
    intro u hu
    obtain ⟨j, _, rfl⟩ := List.mem_map.1 hu
    rfl
  case qc4 => unfold maxLen; omega
  case qc5 => omega
  case qc6 => simp
  case qc7 => simp
  intro g cap w1 hown hgrow hat hlt1
  go_wp2
  go_ret
  rcases hown.2 with ⟨h1, _⟩ | ⟨g', cap', cur, h1, h2, h3, h4, h5, h6, h7⟩
  · cases h1
  · injection h1 with h1 _ h8
    injection h1 with h1
    injection h1 with h1
    subst h1 h8
    refine ⟨_, _, rfl, h2, h4, ⟨cur, h3, fun j hj => ?_⟩, ((Below.refl _ w).alloc (Nat.le_refl _) _).grown hgrow (by simp) (by intro k hk; simp [Value.ownBlock] at hk; omega)⟩
    have h8 : cur.toList[j]? = (boolsC m f)[j]? := by
      rw [← h7, List.getElem?_take, if_pos (by omega)]
    rw [← Array.getElem?_toList, h8]
    simp [boolsC, hj]
/-- While Clone builds. -/
structure CPart (w0 w : World) (H m k : Nat) (B K : Nat → Nat) (M : R2) : Prop where
  room : H + 2 ≤ w.heap.size
  head : Is w (H + 1) 54 #[.slice (some ⟨H, 0, none⟩) m m]
  outer : ∃ cs, Is w H 51 cs ∧ cs.size = m ∧ ∀ i, i < k → cs[i]? = some (.slice (some ⟨B i, 0, none⟩) m (K i))
  row : ∀ i, i < k → m ≤ K i ∧ H + 2 ≤ B i ∧ Row w (B i) m (M i)
  apart : ∀ i j, i < k → j < k → B i = B j → i = j
  since : Below H w0 w
section
variable {w0 w w1 : World} {H m k : Nat} {B K : Nat → Nat} {M : R2}
theorem cpart_start (w : World) (m : Nat) (B K : Nat → Nat) (M : R2) : CPart w ((w.alloc (.cells (madeCells #[.slice none 0 0] m) 51)).alloc (.cells #[.slice (some ⟨w.heap.size, 0, none⟩) m m] 54)) w.heap.size m 0 B K M := by
  refine ⟨by simp, ?_, ⟨_, (Is.made w _ _).alloc _, by simp [madeCells], fun i hi => by omega⟩, fun i hi => by omega, fun i j hi => by omega, ((Below.refl _ w).alloc (Nat.le_refl _) _).alloc (by simp) _⟩
  have := Is.made (w.alloc (.cells (madeCells #[.slice none 0 0] m) 51)) 54 #[.slice (some ⟨w.heap.size, 0, none⟩) m m]
  rwa [show (w.alloc (.cells (madeCells #[.slice none 0 0] m) 51)).heap.size = w.heap.size + 1 from by simp] at this
theorem Row.below {R : Nat} {f : Nat → Bool} (h : Row w R m f) (hb : Below w.heap.size w w1) : Row w1 R m f := by
  obtain ⟨cs, hc, hr⟩ := h
  exact ⟨cs, hc.below hb hc.lt, hr⟩
theorem CPart.step (h : CPart w0 w H m k B K M) (hk : k < m) {g cap : Nat} (hg : w.heap.size ≤ g) (hcap : m ≤ cap) (hr : Row w1 g m (M k)) (hb : Below w.heap.size w w1) :
    CPart w0 (w1.setCell ⟨H, k, none⟩ (.slice (some ⟨g, 0, none⟩) m cap)) H m (k + 1) (fun i => if i = k then g else B i) (fun i => if i = k then cap else K i) M := by
  have hroom := h.room
  have hs := hb.size
  obtain ⟨cs, hc, hm, hx⟩ := h.outer
  have hc1 := hc.below hb hc.lt
  have hBlt : ∀ i, i < k → B i < w.heap.size := fun i hi => by obtain ⟨_, _, cs, hc, _⟩ := h.row i hi; exact hc.lt
  refine ⟨by simp [World.setCell]; omega, (h.head.below hb h.head.lt).aside (by show H + 1 ≠ H; omega) _, ⟨_, hc1.put k _, by simp [hm], fun i hi => ?_⟩, fun i hi => ?_, fun i j hi hj => ?_, (h.since.trans (hb.mono (by omega))).setCell (Nat.le_refl _) _⟩
  · rw [Array.getElem?_setIfInBounds]
    by_cases hik : k = i
    · subst hik
      rw [if_pos rfl, if_pos (by omega), if_pos rfl, if_pos rfl]
    · rw [if_neg hik, if_neg (fun e => hik e.symm), if_neg (fun e => hik e.symm)]
      exact hx i (by omega)
  · by_cases hik : i = k
    · subst hik
      rw [if_pos rfl, if_pos rfl]
      obtain ⟨cs, hc, hr⟩ := hr
      exact ⟨hcap, by omega, cs, hc.aside (by show g ≠ H; omega) _, hr⟩
    · rw [if_neg hik, if_neg hik]
      obtain ⟨h1, h2, h3⟩ := h.row i (by omega)
      obtain ⟨cs, hc, hr⟩ := h3.below hb
      exact ⟨h1, h2, cs, hc.aside (by show B i ≠ H; omega) _, hr⟩
  · by_cases hik : i = k
    · by_cases hjk : j = k
      · intro _; omega
      · rw [if_pos hik, if_neg hjk]
        intro e
        have := hBlt j (by omega)
        omega
    · by_cases hjk : j = k
      · rw [if_neg hik, if_pos hjk]
        intro e
        have := hBlt i (by omega)
        omega
      · rw [if_neg hik, if_neg hjk]
        exact h.apart i j (by omega) (by omega)
theorem CPart.slot (h : CPart w0 w H m k B K M) (hb : Below w.heap.size w w1) (hk : k < m) : ∃ v, w1.cell? ⟨H, k, none⟩ = some v := by
  obtain ⟨cs, hc, hm, _⟩ := h.outer
  exact ⟨cs[k], by rw [(hc.below hb hc.lt).at_, Array.getElem?_eq_getElem (by omega)]⟩
theorem CPart.unfrozen (h : CPart w0 w H m k B K M) (hb : Below w.heap.size w w1) (i : Nat) : w1.frozen? ⟨H, i, none⟩ = false := by
  obtain ⟨cs, hc, _⟩ := h.outer
  exact (hc.below hb hc.lt).free i
theorem CPart.rel (h : CPart w0 w H m m B K M) (hp : 0 < m) (hf : m ≤ 301) : LRel w (H + 1) H B K m M := by
  obtain ⟨cs, hc, _, hx⟩ := h.outer
  exact ⟨hp, hf, h.head, ⟨cs, hc, hx⟩, fun i hi => ⟨(h.row i hi).1, (h.row i hi).2.2⟩, h.apart⟩
theorem CPart.drewN (h : CPart w0 w H m k B K M) (q : Nat) : CPart w0 (w.drewN q) H m k B K M :=
  ⟨h.room, h.head, h.outer, h.row, h.apart, ⟨h.since.os, h.since.tape, h.since.output, h.since.size, h.since.block⟩⟩
theorem keepS {w : World} {H k b b1 : Nat} {v x0 x1 x2 : Value} (h : w.cell? ⟨H + 1, 0, none⟩ = some x0 ∧ w.cell? ⟨b, 0, none⟩ = some x1 ∧ w.cell? ⟨b1, k, none⟩ = some x2) (n1 : b ≠ H) (n2 : b1 ≠ H) :
    (w.setCell ⟨H, k, none⟩ v).cell? ⟨H + 1, 0, none⟩ = some x0 ∧ (w.setCell ⟨H, k, none⟩ v).cell? ⟨b, 0, none⟩ = some x1 ∧ (w.setCell ⟨H, k, none⟩ v).cell? ⟨b1, k, none⟩ = some x2 := by
  refine ⟨?_, ?_, ?_⟩
  · rw [World.cell?_setCell_other _ _ _ _ (fun e => absurd (congrArg Addr.block e) (show H ≠ H + 1 by omega))]; exact h.1
  · rw [World.cell?_setCell_other _ _ _ _ (fun e => absurd (congrArg Addr.block e) (Ne.symm n1))]; exact h.2.1
  · rw [World.cell?_setCell_other _ _ _ _ (fun e => absurd (congrArg Addr.block e) (Ne.symm n2))]; exact h.2.2
theorem clone_nil (w : World) : Calls Try.prog 21 #[.pointer none] w fun e w' => e = .returned (.pointer none) ∧ w = w' := by
  go_enter Try.func21, Try.ntmps21
  go_wp2
  go_ret
  exact ⟨rfl, rfl⟩
end
set_option maxHeartbeats 2000000 in
theorem clone_any {w : World} {b b1 : Nat} {B K : Nat → Nat} {m : Nat} {M : R2} (h : LRel w b b1 B K m M) : Calls Try.prog 21 #[.pointer (some ⟨b, 0, none⟩)] w fun e w' =>
    e = .returned (.pointer (some ⟨w.heap.size + 1, 0, none⟩)) ∧ (∃ B' K', LRel w' (w.heap.size + 1) w.heap.size B' K' m M ∧ ∀ i, i < m → w.heap.size + 2 ≤ B' i) ∧ Below w.heap.size w w' := by
  have R := Lib.hid h
  have hm := h.few
  have hmp := h.pos
  have c0 := h.c0
  have hmk := run_make_row' (P := Try.prog) 52 51 (.slice none 0 0) 24 Try.underlying52 info_row rfl .i64 .i64 m (by omega) (by omega)
  have p0 := cpart_start w m (fun _ => 0) (fun _ => 0) M
  obtain ⟨H, hH⟩ : ∃ x, w.heap.size = x := ⟨_, rfl⟩
  have HH := Lib.hid hH
  rw [hH] at p0 ⊢
  have P0 := Lib.hid p0
  clear p0 h
  go_enter Try.func21, Try.ntmps21
  go_wp2_with fail
  refine (lifetimes_any (R.out.below (P0.out.since.mono (by rw [HH.out]; exact Nat.le_refl _)))).mono ?_
  rintro e w1 ⟨rfl, rfl⟩
  go_wp2
  clear hmk c0 hH
  go_loopw [17] (fun i wr => ∃ (k : Nat) (B' K' : Nat → Nat), k ≤ m ∧ i = .int .i64 k ∧ Hid (CPart w wr H m k B' K' M)) (fun i _ => m - (intOf i).toNat)
  case atStart => exact ⟨0, _, _, Nat.zero_le _, rfl, P0⟩
  case round =>
    obtain ⟨k, B', K', hk, rfl, HP⟩ := hrel
    by_cases hlt : k < m
    · have hsz : H ≤ wr.heap.size := by have := HP.out.room; omega
      have hsz2 := HP.out.room
      have hbw : ∀ k, k < H → k < wr.heap.size := fun k hk => by omega
      have hb := R.out.lt
      have hb1 := R.out.lt1
      rw [HH.out] at hb hb1
      have RW := Lib.hid (R.out.below (HP.out.since.mono (by rw [HH.out]; exact Nat.le_refl _)))
      have c0 := RW.out.c0
      have c1 := RW.out.c1 hlt
      have d0 : wr.cell? ⟨H + 1, 0, none⟩ = some (.slice (some ⟨H, 0, none⟩) m m) := by rw [HP.out.head.at_]; rfl
      have HRow : Hid (Row wr.drew (B k) m (M k)) := by
        obtain ⟨_, cs, hc, hr⟩ := RW.out.row k hlt
        exact ⟨cs, hc, hr⟩
      have HD := Lib.hid (HP.out.drewN 1)
      obtain ⟨R1, hR1⟩ : ∃ x, B k = x := ⟨_, rfl⟩
      obtain ⟨K1, hK1⟩ : ∃ x, K k = x := ⟨_, rfl⟩
      rw [hR1] at c1 HRow
      rw [hK1] at c1
      clear hR1 hK1
      have n1 : b ≠ H := by omega
      have n2 : b1 ≠ H := by omega
      have hk0 : (0 : Int) ≤ (k : Int) := Int.natCast_nonneg _
      have hk1 : (k : Int) < (m : Int) := by omega
      have C0 := Lib.hid c0
      have C1 := Lib.hid c1
      have D0 := Lib.hid d0
      go_wp2_with fail
      go_region_held3 (fun w' => w'.cell? ⟨H + 1, 0, none⟩ = some (.slice (some ⟨H, 0, none⟩) m m) ∧ w'.cell? ⟨b, 0, none⟩ = some (.slice (some ⟨b1, 0, none⟩) m m) ∧ w'.cell? ⟨b1, k, none⟩ = some (.slice (some ⟨R1, 0, none⟩) m K1))
        (first
          | (go_keep; done)
          | exact ⟨(q4.cell (p := ⟨H + 1, 0, none⟩) (show H + 1 < wr.heap.size by omega)).trans D0.out, (q4.cell (p := ⟨b, 0, none⟩) (hbw b hb)).trans C0.out, (q4.cell (p := ⟨b1, k, none⟩) (hbw b1 hb1)).trans C1.out⟩
          | (refine keepS ?_ n1 n2; exact ⟨(q4.cell (p := ⟨H + 1, 0, none⟩) (show H + 1 < wr.heap.size by omega)).trans D0.out, (q4.cell (p := ⟨b, 0, none⟩) (hbw b hb)).trans C0.out, (q4.cell (p := ⟨b1, k, none⟩) (hbw b1 hb1)).trans C1.out⟩))
        (first
          | (go_at_call 26; refine (clone_row HRow.out hmp hm).mono ?_; rintro e w2 ⟨g, cap, rfl, q1, q2, q3, q4⟩; have HS := Lib.hid (HD.out.step hlt q1 q2 q3 q4); have s1 : (∃ v, w2.cell? ⟨H, k, none⟩ = some v) := HD.out.slot q4 hlt; have s2 : w2.frozen? ⟨H, k, none⟩ = false := HD.out.unfrozen q4 k; obtain ⟨v, hv⟩ := s1))
      go_wp2
      go_roundw
      case rel => exact ⟨k + 1, _, _, by omega, by go_num, HS⟩
      case measure => simp [intOf]; omega
    · have hkm : k = m := by omega
      subst hkm
      go_wp2
      go_ret
      exact ⟨rfl, ⟨B', K', HP.out.rel hmp hm, fun i hi => (HP.out.row i hi).2.1⟩, HP.out.since⟩
end Go.Proofs.Ytfadojniihjneaa

/- Sets: all of another one in it; nothing of another one in it. Several of them in memory. -/
import Derived.Test.YtbeepedobnaojaaDoorSolS
import Derived.Test.YtbeepedobnaojaaDoorFlowB
namespace Go.Proofs.YtbeepedobnaojaaDoor
open Go.RowKit Lf Go.Deep Sv
namespace Fl
set_option maxHeartbeats 1000000 in
theorem addAll_any {w : World} {r1 r2 x y : Nat} (h1 : Is w r1 40 #[.int .u64 x]) (h2 : Is w r2 40 #[.int .u64 y]) (hx : x < 2 ^ 64) (hy : y < 2 ^ 64) :
    Calls Tryd.prog 28 #[.slice (some ⟨r1, 0, none⟩) 1 1, .slice (some ⟨r2, 0, none⟩) 1 1] w fun e w' => e = .returned (.tuple #[]) ∧ Is w' r1 40 #[.int .u64 ((x ||| y : Nat) : Int)] ∧ But r1 w w' := by
  have e2 := bits_or_u64_nat x y hx hy
  have c1 := h1.at_ 0
  have c2 := h2.at_ 0
  have f1 := h1.free 0
  have I1 := Lib.hid h1
  have I2 := Lib.hid (h1.put 0 (.int .u64 ((x ||| y : Nat) : Int)))
  simp only [List.getElem?_toArray, List.getElem?_cons_zero] at c1 c2
  clear h1 h2
  go_enter Tryd.func28, Tryd.ntmps28
  go_wp2
  go_loopw [7] (fun i wr => (i = .int .i64 0 ∧ wr = w) ∨ (i = .int .i64 1 ∧ Hid (Is wr r1 40 #[.int .u64 ((x ||| y : Nat) : Int)] ∧ But r1 w wr))) (fun i _ => 1 - (intOf i).toNat)
  case atStart => exact .inl ⟨rfl, rfl⟩
  case round =>
    rcases hrel with ⟨rfl, rfl⟩ | ⟨rfl, HF⟩
    · go_wp2_with fail
      go_region
      go_wp2
      go_roundw
      case rel => exact .inr ⟨rfl, I2.out.drew, ((But.refl r1 _).put _ _).drew⟩
      case measure => simp [intOf]
    · have := HF.out
      go_wp2
      go_end0
      exact ⟨rfl, this⟩
set_option maxHeartbeats 1000000 in
theorem remove_any {w : World} {r1 r2 x y : Nat} (h1 : Is w r1 40 #[.int .u64 x]) (h2 : Is w r2 40 #[.int .u64 y]) (hx : x < 2 ^ 64) (hy : y < 2 ^ 64) :
    Calls Tryd.prog 37 #[.slice (some ⟨r1, 0, none⟩) 1 1, .slice (some ⟨r2, 0, none⟩) 1 1] w fun e w' => e = .returned (.tuple #[]) ∧ Is w' r1 40 #[.int .u64 ((fresh x y : Nat) : Int)] ∧ But r1 w w' := by
  have e2 := bits_andNot x y hx hy
  have c1 := h1.at_ 0
  have c2 := h2.at_ 0
  have f1 := h1.free 0
  have I1 := Lib.hid h1
  have I2 := Lib.hid (h1.put 0 (.int .u64 ((fresh x y : Nat) : Int)))
  simp only [List.getElem?_toArray, List.getElem?_cons_zero] at c1 c2
  clear h1 h2
  go_enter Tryd.func37, Tryd.ntmps37
  go_wp2
  go_loopw [7] (fun i wr => (i = .int .i64 0 ∧ wr = w) ∨ (i = .int .i64 1 ∧ Hid (Is wr r1 40 #[.int .u64 ((fresh x y : Nat) : Int)] ∧ But r1 w wr))) (fun i _ => 1 - (intOf i).toNat)
  case atStart => exact .inl ⟨rfl, rfl⟩
  case round =>
    rcases hrel with ⟨rfl, rfl⟩ | ⟨rfl, HF⟩
    · go_wp2_with fail
      go_region
      go_wp2
      go_roundw
      case rel => exact .inr ⟨rfl, I2.out.drew, ((But.refl r1 _).put _ _).drew⟩
      case measure => simp [intOf]
    · have := HF.out
      go_wp2
      go_end0
      exact ⟨rfl, this⟩
/-- So many words behind a slice of sets. -/
structure Sw (w : World) (b cnt : Nat) (X : Nat → Nat) : Prop where
  outer : ∃ cs, Is w b 52 cs ∧ cs.size = cnt ∧ ∀ i, i < cnt → cs[i]? = some (.slice (some ⟨b + 1 + i, 0, none⟩) 1 1)
  row : ∀ i, i < cnt → Is w (b + 1 + i) 40 #[.int .u64 ((X i : Nat) : Int)]
section
variable {w w' : World} {b cnt : Nat} {X : Nat → Nat}
theorem Sw.cell (h : Sw w b cnt X) {i : Nat} (hi : i < cnt) : w.cell? ⟨b, i, none⟩ = some (.slice (some ⟨b + 1 + i, 0, none⟩) 1 1) := by
  obtain ⟨cs, hc, _, hr⟩ := h.outer
  rw [hc.at_, hr i hi]
theorem Sw.word (h : Sw w b cnt X) {i : Nat} (hi : i < cnt) : w.cell? ⟨b + 1 + i, 0, none⟩ = some (.int .u64 ((X i : Nat) : Int)) := by rw [(h.row i hi).at_]; rfl
theorem Sw.of (h : Sw w b cnt X) (hm : ∀ k, b ≤ k → k ≤ b + cnt → w'.heap[k]? = w.heap[k]?) : Sw w' b cnt X := by
  obtain ⟨cs, hc, hs, hr⟩ := h.outer
  exact ⟨⟨cs, hc.of (hm _ (Nat.le_refl _) (by omega)), hs, hr⟩, fun i hi => (h.row i hi).of (hm _ (by omega) (by omega))⟩
theorem Sw.lt (h : Sw w b cnt X) : b + cnt < w.heap.size := by
  obtain ⟨cs, hc, _, _⟩ := h.outer
  rcases Nat.eq_zero_or_pos cnt with h0 | h0
  · have := hc.lt; omega
  · have := (h.row (cnt - 1) (by omega)).lt
    omega
theorem Sw.below (h : Sw w b cnt X) (hb : Below w.heap.size w w') : Sw w' b cnt X := h.of fun k _ hk => hb.block k (by have := h.lt; omega)
theorem Sw.drew (h : Sw w b cnt X) : Sw w.drew b cnt X := h.of fun _ _ _ => rfl
theorem Sw.mod {S : Nat → Prop} (h : Sw w b cnt X) (hm : Mod S w w') (hS : ∀ k, b ≤ k → k ≤ b + cnt → ¬S k) : Sw w' b cnt X := h.of fun k h1 h2 => hm.block k (by have := h.lt; omega) (hS k h1 h2)
theorem Sw.but (h : Sw w b cnt X) {i y : Nat} (hi : i < cnt) (hb : But (b + 1 + i) w w') (hr : Is w' (b + 1 + i) 40 #[.int .u64 ((y : Nat) : Int)]) : Sw w' b cnt (put X i y) := by
  obtain ⟨cs, hc, hs, ho⟩ := h.outer
  refine ⟨⟨cs, hc.of (hb.block _ (by omega)), hs, ho⟩, fun j hj => ?_⟩
  unfold put
  by_cases hji : j = i
  · subst hji
    rw [if_pos rfl]
    exact hr
  · rw [if_neg hji]
    exact (h.row j hj).of (hb.block _ (by omega))
theorem Sw.other {c cnt' i : Nat} (h : Sw w b cnt X) (hb : But (c + 1 + i) w w') (hi : i < cnt') (hc : b + cnt < c ∨ c + cnt' < b) : Sw w' b cnt X := h.of fun k h1 h2 => hb.block k (by omega)
end
theorem made_one_word : madeCells #[.int .u64 0] 1 = #[.int .u64 ((0 : Nat) : Int)] := by kernel_rfl
theorem Sw.made {w w' : World} {m : Nat} (h : Part w w' w.heap.size m m 1) : Sw w' w.heap.size m (fun _ => 0) := by
  obtain ⟨cs, h1, h2, h3⟩ := h.outer
  refine ⟨⟨cs, h1, h2, h3⟩, fun i hi => ?_⟩
  have := h.row i hi
  rw [made_one_word] at this
  exact this
end Fl
end Go.Proofs.YtbeepedobnaojaaDoor

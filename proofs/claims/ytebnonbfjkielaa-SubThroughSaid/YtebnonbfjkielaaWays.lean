/- Ways of structs as they lie in memory; vary.Through, vary.Of. -/
import Derived.Test.YtebnonbfjkielaaBox
import Derived.Test.YtebnonbfjkielaaTypeO
import Derived.Test.YtebnonbfjkielaaMaps
import Derived.Test.YtebnonbfjkielaaVaryA
namespace Go.Proofs.Ytebnonbfjkielaa
open Go.RowKit Go.Deep Tr Mp
namespace Vy
theorem zero_ints (w : World) : (zeroValue 22).run Try.prog w = .ok (.slice none 0 0) w := by kernel_rfl
def ints (a : List Nat) : List Int := a.map fun (x : Nat) => (x : Int)
theorem ints_length (a : List Nat) : (ints a).length = a.length := by simp [ints]
theorem ints_get (a : List Nat) {i : Nat} (h : i < a.length) : (ints a)[i]'(by rw [ints_length]; exact h) = ((a.getD i 3 : Nat) : Int) := by simp [ints, List.getD_eq_getElem?_getD, h]
theorem ints_inj {a b : List Nat} (h : ints a = ints b) : a = b := by
  induction a generalizing b with
  | nil => cases b with
    | nil => rfl
    | cons y b => simp [ints] at h
  | cons x a ih => cases b with
    | nil => simp [ints] at h
    | cons y b =>
      simp only [ints, List.map_cons] at h
      injection h with h1 h2
      rw [ih h2, Int.ofNat_inj.1 h1]
def OptR (w : World) : Option Value → Option (List Nat) → Prop
  | none, none => True
  | some v, some a => RowI w v (ints a)
  | _, _ => False
def WaysAt (w : World) (v : Value) (W : Ws) : Prop := (v = .map none ∧ W = fun _ => none) ∨ ∃ b n f, v = .map (some b) ∧ MapAt w Try.prog 9 b n f ∧ ∀ s, OptR w (f s) (W s)
theorem OptR.below {w w' : World} (hb : Below w.heap.size w w') {x : Option Value} {y : Option (List Nat)} (h : OptR w x y) : OptR w' x y := by
  unfold OptR at *
  split at h
  · trivial
  · exact h.below hb
  · exact h.elim
theorem WaysAt.below {w w' : World} (hb : Below w.heap.size w w') {v : Value} {W : Ws} (h : WaysAt w v W) : WaysAt w' v W := by
  rcases h with h | ⟨b, n, f, e, h1, h2⟩
  · exact .inl h
  · exact .inr ⟨b, n, f, e, h1.below hb h1.lt, fun s => (h2 s).below hb⟩
theorem WaysAt.look {w : World} {v : Value} {W : Ws} (h : WaysAt w v W) {s : ByteArray} (hs : s.size ≤ maxLen) : ∃ u, (Instr.lookup 33 v (.string s) false).run Try.prog w = .ok u w ∧ RowI w u (ints ((W s).getD [])) := by
  rcases h with ⟨rfl, rfl⟩ | ⟨b, n, f, rfl, h1, h2⟩
  · exact ⟨_, look_nil_at w Try.underlying9 Try.underlying33 (zero_ints w) hs, RowI.nil w⟩
  · refine ⟨_, look_at h1 Try.underlying9 Try.underlying33 (zero_ints w) hs, ?_⟩
    have h3 := h2 s
    unfold OptR at h3
    split at h3
    · rename_i e1 e2
      rw [e1, e2]
      exact RowI.nil w
    · rename_i e1 e2
      rw [e1, e2]
      exact h3
    · exact h3.elim
section
variable {w : World}
theorem through_int {a b : Int} (ha : a = 0 ∨ a = 1 ∨ a = 2 ∨ a = 3) (hb : b = 0 ∨ b = 1 ∨ b = 2 ∨ b = 3) : Calls Try.prog 24 #[.int .i64 a, .int .i64 b] w fun e w' => e = .returned (.int .i64 (thr a.toNat b.toNat : Nat)) ∧ w = w' := by
  rcases ha with rfl | rfl | rfl | rfl <;> rcases hb with rfl | rfl | rfl | rfl
  all_goals
    go_enter Try.func24, Try.ntmps24
    go_wp2
    go_ret
    exact ⟨rfl, rfl⟩
theorem through_any {a b : Nat} (ha : a < 4) (hb : b < 4) : Calls Try.prog 24 #[.int .i64 a, .int .i64 b] w fun e w' => e = .returned (.int .i64 (thr a b : Nat)) ∧ w = w' := by
  have := through_int (w := w) (a := a) (b := b) (by omega) (by omega)
  simpa using this
theorem of_low (u : Value) (s : ByteArray) {v : Value} {i : Int} (hi : i < 0) (hrun : (Instr.lookup 33 v (.string s) false).run Try.prog w = .ok u w) : Calls Try.prog 26 #[v, .string s, .int .i64 i] w fun e w' => e = .returned (.int .i64 3) ∧ w = w' := by
  have h1 : decide (i < 0) = true := decide_eq_true hi
  go_enter Try.func26, Try.ntmps26
  go_wp2
  go_ret
  exact ⟨rfl, rfl⟩
theorem of_high {u : Value} (s : ByteArray) {v : Value} {l : List Int} {i : Int} (hi : (l.length : Int) ≤ i) (hrun : (Instr.lookup 33 v (.string s) false).run Try.prog w = .ok u w) (hu : RowI w u l) : Calls Try.prog 26 #[v, .string s, .int .i64 i] w fun e w' => e = .returned (.int .i64 3) ∧ w = w' := by
  obtain ⟨A, c, rfl, h1⟩ := hu
  obtain ⟨n, hn⟩ : ∃ n, l.length = n := ⟨_, rfl⟩
  rw [hn] at hi hrun
  clear h1 hn
  have h1 : decide (i < 0) = false := decide_eq_false (by omega)
  go_enter Try.func26, Try.ntmps26
  go_wp2
  go_ret
  exact ⟨rfl, rfl⟩
theorem of_in {u : Value} (s : ByteArray) {v : Value} {l : List Int} {i : Nat} (hi : i < l.length) (hrun : (Instr.lookup 33 v (.string s) false).run Try.prog w = .ok u w) (hu : RowI w u l) : Calls Try.prog 26 #[v, .string s, .int .i64 i] w fun e w' => e = .returned (.int .i64 l[i]) ∧ w = w' := by
  obtain ⟨A, c, rfl, h1⟩ := hu
  obtain ⟨bk, o, rfl, _, hc⟩ := int_at h1 hi
  have hle := h1.le
  obtain ⟨x, hx⟩ : ∃ x, l[i] = x := ⟨_, rfl⟩
  rw [hx] at hc ⊢
  obtain ⟨n, hn⟩ : ∃ n, l.length = n := ⟨_, rfl⟩
  rw [hn] at hle hrun
  have hi' : i < n := by omega
  clear h1 hx hn hi
  have h0 : decide ((i : Int) < 0) = false := decide_eq_false (by omega)
  go_enter Try.func26, Try.ntmps26
  go_wp2
  go_ret
  exact ⟨rfl, rfl⟩
theorem of_any {v : Value} {W : Ws} (h : WaysAt w v W) {s : ByteArray} (hs : s.size ≤ maxLen) (i : Nat) : Calls Try.prog 26 #[v, .string s, .int .i64 i] w fun e w' => e = .returned (.int .i64 (wayOf W s i : Nat)) ∧ w = w' := by
  obtain ⟨u, hrun, hu⟩ := h.look hs
  unfold wayOf
  cases hW : W s with
  | none =>
    rw [hW] at hu
    exact of_high s (l := []) (by simp) hrun hu
  | some a =>
    rw [hW] at hu
    by_cases hi : i < a.length
    · have := of_in s (i := i) (by rw [ints_length]; exact hi) hrun hu
      rw [show (ints ((some a).getD []))[i]'(by rw [ints_length]; exact hi) = _ from ints_get a hi] at this
      exact this
    · have := of_high s (i := i) (by rw [ints_length]; simp; omega) hrun hu
      have e3 : a.getD i 3 = 3 := by rw [List.getD_eq_getElem?_getD, List.getElem?_eq_none (by omega)]; rfl
      dsimp only
      rw [e3]
      exact this
theorem of_sum {v : Value} {W : Ws} (h : WaysAt w v W) {s : ByteArray} (hs : s.size ≤ maxLen) {q j : Nat} (hq : q ≤ maxLen) (hj : j ≤ maxLen) : Calls Try.prog 26 #[v, .string s, .int .i64 (IntKind.i64.wrap ((q : Int) + (j : Int)))] w fun e w' => e = .returned (.int .i64 (wayOf W s (q + j) : Nat)) ∧ w = w' := by
  unfold maxLen at hq hj
  by_cases hm : q + j ≤ 9223372036854775807
  · rw [IntWalk.i64_in _ (by omega), show (q : Int) + (j : Int) = ((q + j : Nat) : Int) by omega]
    exact of_any h hs (q + j)
  · have hneg : IntKind.i64.wrap ((q : Int) + (j : Int)) < 0 := by rw [IntKind.wrap_i64]; omega
    obtain ⟨u, hrun, hu⟩ := h.look hs
    have h3 : wayOf W s (q + j) = 3 := by
      unfold wayOf
      split
      · rfl
      · rename_i l hl
        rw [hl] at hu
        obtain ⟨A, c, _, hA⟩ := hu
        have := hA.le
        rw [ints_length] at this
        unfold maxLen at this
        rw [List.getD_eq_getElem?_getD, List.getElem?_eq_none (by simp at this; omega)]
        rfl
    rw [h3]
    exact of_low u s hneg hrun
end
end Vy
end Go.Proofs.Ytebnonbfjkielaa

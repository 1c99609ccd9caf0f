/- The walks of layer 1's laws: what they hold side by side. -/
import Derived.Test.YtccajbcblbfgnaaLexV
namespace Go.Proofs.Ytccajbcblbfgnaa
open Go.RowKit Lx
/-- A slice's cells are these tokens'. -/
def Toks (w : World) (A : Option Addr) (ts : List Tok) : Prop := 0 < ts.length → ∃ g, A = some ⟨g, 0, none⟩ ∧ g < w.heap.size ∧ ∀ (i : Nat) (h : i < ts.length) (j : Nat), j < 5 → w.cell? ⟨g, i * 5 + j, none⟩ = (tokC ts[i])[j]?
theorem rowC_at (ts : List Tok) (i : Nat) (h : i < ts.length) (j : Nat) (hj : j < 5) : (rowC ts)[i * 5 + j]? = (tokC ts[i])[j]? := by
  induction ts generalizing i with
  | nil => cases h
  | cons t r ih =>
    have e : rowC (t :: r) = tokC t ++ rowC r := rfl
    have hl : (tokC t).length = 5 := rfl
    rw [e]
    cases i with
    | zero => rw [List.getElem?_append_left (by rw [hl]; omega)]; simp
    | succ i =>
      rw [List.getElem?_append_right (by rw [hl]; omega), hl, show (i + 1) * 5 + j - 5 = i * 5 + j from by omega]
      exact ih i (by simpa using h)
theorem toks_of {w : World} {base : Nat} {e : TypeId} {v : Value} {ts : List Tok} (h : w.ownsRow base e 5 v ts.length (rowC ts)) : ∃ A c, v = .slice A ts.length c ∧ Toks w A ts := by
  rcases h.2 with ⟨rfl, hn⟩ | ⟨g, cap, cur, rfl, hg, hh, r⟩
  · exact ⟨none, 0, by rw [hn], fun h => absurd h (by omega)⟩
  · refine ⟨_, _, rfl, fun _ => ⟨g, rfl, lt_of_block hh, fun i hi j hj => ?_⟩⟩
    rw [h.cellAt (i * 5 + j) (by omega), rowC_at ts i hi j hj]
theorem Toks.below {w w' : World} {A : Option Addr} {ts : List Tok} (h : Toks w A ts) (hb : Below w.heap.size w w') : Toks w' A ts := fun h0 => by
  obtain ⟨g, e, hg, hc⟩ := h h0
  exact ⟨g, e, Nat.lt_of_lt_of_le hg hb.size, fun i hi j hj => (hb.cell (p := ⟨g, _, none⟩) hg).trans (hc i hi j hj)⟩
theorem fault_any (c l k : Nat) (w : World) :
    Calls Try.prog 11 #[.agg #[.int .i64 c, .int .i64 l, .int .i64 k], .agg #[.int .i64 c, .int .i64 l, .int .i64 k]] w fun e w' => e = .returned (.bool true) ∧ Below w.heap.size w w' := by
  go_enter Try.func11, Try.ntmps11
  go_wp2
  go_ret
  exact ⟨rfl, ((Below.refl _ _).alloc (Nat.le_refl _) _).alloc (by simp) _⟩
set_option maxHeartbeats 1000000 in
theorem same_any (ts : List Tok) (hn : ts.length ≤ 1000000) (A B : Option Addr) (ca cb : Nat) (w : World) (hA : Toks w A ts) (hB : Toks w B ts) :
    Calls Try.prog 12 #[.slice A ts.length ca, .slice B ts.length cb] w fun e w' => e = .returned (.bool true) ∧ ∃ q, w' = w.drewN q := by
  have HA := Lib.hid hA
  have HB := Lib.hid hB
  clear hA hB
  go_enter Try.func12, Try.ntmps12
  go_wp2
  go_loopw [5] (fun i wr => ∃ k q : Nat, k ≤ ts.length ∧ i = .int .i64 k ∧ wr = w.drewN q) (fun i _ => ts.length - (intOf i).toNat)
  case atStart => exact ⟨0, 0, Nat.zero_le _, rfl, rfl⟩
  case round =>
    obtain ⟨k, q, hk, rfl, hw⟩ := hrel
    have HW := Lib.hid hw
    have hcw : ∀ p : Addr, wr.cell? p = w.cell? p := fun p => by rw [hw]; rfl
    clear hw
    by_cases hlt : k < ts.length
    · obtain ⟨ga, rfl, _, ca5⟩ := HA.out (by omega)
      obtain ⟨gb, rfl, _, cb5⟩ := HB.out (by omega)
      have a0 := (hcw _).trans (ca5 k hlt 0 (by omega))
      have a1 := (hcw _).trans (ca5 k hlt 1 (by omega))
      have a2 := (hcw _).trans (ca5 k hlt 2 (by omega))
      have a3 := (hcw _).trans (ca5 k hlt 3 (by omega))
      have a4 := (hcw _).trans (ca5 k hlt 4 (by omega))
      have b0 := (hcw _).trans (cb5 k hlt 0 (by omega))
      have b1 := (hcw _).trans (cb5 k hlt 1 (by omega))
      have b2 := (hcw _).trans (cb5 k hlt 2 (by omega))
      have b3 := (hcw _).trans (cb5 k hlt 3 (by omega))
      have b4 := (hcw _).trans (cb5 k hlt 4 (by omega))
      simp only [tokC, List.getElem?_cons_zero, List.getElem?_cons_succ, Nat.add_zero] at a0 a1 a2 a3 a4 b0 b1 b2 b3 b4
      clear ca5 cb5 hcw
      go_wp2_with fail
      go_quiet (fail)
      go_wp2_with fail
      go_roundw
      case rel => exact ⟨k + 1, q + nq, by omega, by go_num, by rw [HW.out]; exact World.drewN_drewN _ _ _⟩
      case measure => simp [intOf]; omega
    · clear hcw
      go_wp2
      go_ret
      exact ⟨rfl, q, HW.out⟩
def cutText : ByteArray := ⟨#[97, 45, 62, 39, 98, 32, 55, 32, 47, 47, 32, 99]⟩
def cutToks : List Tok := [⟨1, ⟨#[97]⟩, 1, 1, 0⟩, ⟨5, ⟨#[45, 62]⟩, 1, 2, 0⟩, ⟨2, ⟨#[39, 98]⟩, 1, 4, 0⟩, ⟨3, ⟨#[55]⟩, 1, 7, 7⟩, ⟨0, ⟨#[]⟩, 1, 13, 0⟩]
theorem cut_all : lexAll (bs cutText) = ⟨cutToks, 0, 0, 0⟩ := by kernel_rfl
theorem cut_any (w : World) : Calls Try.prog 8 #[] w fun e w' => e = .returned (.bool true) ∧ Below w.heap.size w w' := by
  have h := fun w => lall_any cutText (by decide) w
  rw [cut_all] at h
  have H := Lib.hid h
  clear h
  go_enter Try.func8, Try.ntmps8
  go_wp2_with fail
  refine (H.out _).mono ?_
  rintro e w1 ⟨v, rfl, hown, hb⟩
  obtain ⟨A, c, rfl, ht⟩ := toks_of hown
  obtain ⟨g, rfl, hg, hc⟩ := ht (by decide)
  have a1 := hc 1 (by decide) 1 (by omega)
  have a2 := hc 2 (by decide) 0 (by omega)
  have a3 := hc 3 (by decide) 4 (by omega)
  have a4 := hc 4 (by decide) 0 (by omega)
  have a5 := hc 4 (by decide) 2 (by omega)
  have a6 := hc 4 (by decide) 3 (by omega)
  simp only [cutToks, tokC, List.getElem_cons_zero, List.getElem_cons_succ, List.getElem?_cons_zero, List.getElem?_cons_succ] at a1 a2 a3 a4 a5 a6
  clear hown hc ht
  go_wp2_with fail
  go_ret
  exact ⟨rfl, hb.alloc hb.size _⟩
end Go.Proofs.Ytccajbcblbfgnaa

/- The statements of layer 6: what every row's proof takes. -/
import Derived.Test.YtfadojniihjneaaRows
import Derived.Test.YtfadojniihjneaaClose
import Derived.Deep.Slices
import Derived.Test.YtfadojniihjneaaLifeR
namespace Go.Proofs.Ytfadojniihjneaa
open Go.ChangeShapes Go.WideShapes Go.ChangeAt Go.RowKit Go.Deep
theorem own : ownKnob Try.prog.godebug = none := by kernel_rfl
theorem laidOut : laidOutB Try.prog = true := by kernel_rfl
theorem readable_i : Try.prog.readableRec 3 = true ∧ 3 < Try.prog.types.size := ⟨by kernel_rfl, of_decide_eq_true (by kernel_rfl)⟩
theorem readable_pp : Try.prog.readableRec 22 = true ∧ 22 < Try.prog.types.size := ⟨by kernel_rfl, of_decide_eq_true (by kernel_rfl)⟩
theorem two_cells : Try.prog.cellsOf 40 = 2 := by kernel_rfl
theorem int_cells : Try.prog.cellsOf 3 = 1 := by kernel_rfl
theorem cell_plain {w : World} {a : Addr} {v : Value} (h : w.cell? a = some v) : a = ⟨a.block, a.off, none⟩ := by
  obtain ⟨b, o, s⟩ := a
  cases s with
  | none => rfl
  | some k =>
    unfold World.cell? at h
    split at h
    · simp at h
    · cases h
theorem pairs_open {H : Type} {enc : TypeId × Value → H} {P : Program} {W : World} {base b0 : Nat} {spare : Nat → Bool} {held : Bool} {r : Reach} {t e f : TypeId} {v : Value} {d : DataW H} {p : List MemPlace}
    (ht : P.underlying t = some (.slice e)) (he : P.underlying e = some (.array 2 f)) (hf : P.underlying f = some (.int .i64)) (ce : P.cellsOf e = 2) (cf : P.cellsOf f = 1) (hv : Value.okWide P W r b0 t v) (h : DataW.Trod enc P W base spare held t v d p) :
    ∃ (A : Option Addr) (L : List (Int × Int)) (c : Nat), v = .slice A L.length c ∧ PAt W A L ∧ L.length ≤ maxLen := by
  obtain ⟨a, len, cap, rfl⟩ := okWide_slice ht hv
  obtain ⟨fuel, hf0⟩ := h
  rcases open_slice ht hf0 with ⟨hcs, hx⟩ | ⟨a', len', cap', m, n, D, Pl, hcs, _, hl, hm, hmm, hx, hcell⟩
  · simp [Value.cells] at hcs
    obtain ⟨rfl, rfl, rfl⟩ := hcs
    exact ⟨none, [], 0, rfl, fun h => absurd h (by simp), Nat.zero_le _⟩
  · simp [Value.cells] at hcs
    obtain ⟨rfl, rfl, rfl⟩ := hcs
    have hlm : len ≤ m := by rw [hmm]; split <;> omega
    have each : ∀ i, i < len → ∃ q : Int × Int, W.cell? (a'.add (i * 2)) = some (.int .i64 q.1) ∧ W.cell? (a'.add (i * 2 + 1)) = some (.int .i64 q.2) := by
      intro i hi
      obtain ⟨cs', h1, h2⟩ := hcell i (by omega)
      rw [ce] at h1
      obtain ⟨_, hlen, hc⟩ := World.cells?_some h1
      obtain ⟨xs, k, _, _, _, hxl, hg⟩ := DataW.trod_array he h2
      match xs, hxl, cs', hlen with
      | [y0, y1], _, [v0, v1], _ =>
        have g0 := hg 0 (by omega)
        have g1 := hg 1 (by omega)
        simp [cf] at g0 g1
        obtain ⟨n0, e0, _, _⟩ := DataW.trod_int hf g0
        obtain ⟨n1, e1, _, _⟩ := DataW.trod_int hf g1
        simp at e0 e1
        subst e0 e1
        have c0 := hc 0 (by omega)
        have c1 := hc 1 (by omega)
        rw [add_add] at c0 c1
        exact ⟨(n0, n1), by simpa using c0, by simpa using c1⟩
    obtain ⟨q, hq⟩ := choose_lt each
    have hll : ((List.range len).map q).length = len := by simp
    refine ⟨some a', (List.range len).map q, cap, by rw [hll], fun h0 => ?_, by rw [hll]; omega⟩
    rw [hll] at h0
    have h1 := (hq 0 h0).1
    have hpl : a' = ⟨a'.block, a'.off, none⟩ := by
      have h2 := cell_plain h1
      obtain ⟨b, o, s⟩ := a'
      cases s with
      | none => rfl
      | some k => unfold Addr.add at h2; simp at h2
    refine ⟨a'.block, a'.off, by rw [← hpl], ?_, fun i hi => ?_⟩
    · have := World.block_lt_of_cell? _ _ h1
      have e : (a'.add (0 * 2)).block = a'.block := by unfold Addr.add; split <;> rfl
      rwa [e] at this
    · have hi' : i < len := by rw [hll] at hi; exact hi
      obtain ⟨a1, a2⟩ := hq i hi'
      rw [hpl] at a1 a2
      rw [add_plain] at a1 a2
      rw [← Nat.add_assoc] at a2
      simp only [List.getElem_map, List.getElem_range]
      exact ⟨a1, a2⟩
theorem three_cells : Try.prog.cellsOf 37 = 3 := by kernel_rfl
theorem readable_a2 : Try.prog.readableRec 40 = true ∧ 40 < Try.prog.types.size := ⟨by kernel_rfl, of_decide_eq_true (by kernel_rfl)⟩
theorem readable_a3 : Try.prog.readableRec 37 = true ∧ 37 < Try.prog.types.size := ⟨by kernel_rfl, of_decide_eq_true (by kernel_rfl)⟩
theorem okWide_array {P : Program} {W : World} {r : Reach} {b0 n : Nat} {t f : TypeId} {v : Value} (ht : P.underlying t = some (.array n f)) (h : Value.okWide P W r b0 t v) : ∃ cs, v = .agg cs := by
  unfold Value.okWide at h
  rw [ht] at h
  obtain ⟨cs, e, _⟩ := h
  exact ⟨cs, e⟩
section
variable {H : Type} {enc : TypeId × Value → H} {P : Program} {W : World} {base b0 : Nat} {spare : Nat → Bool} {held : Bool} {r : Reach} {t f : TypeId} {v : Value} {d : DataW H} {p : List MemPlace}
theorem two_open (ht : P.underlying t = some (.array 2 f)) (hf : P.underlying f = some (.int .i64)) (ct : P.cellsOf t = 2) (cf : P.cellsOf f = 1) (hv : Value.okWide P W r b0 t v) (h : DataW.Trod enc P W base spare held t v d p) :
    ∃ x y : Int, v = .agg #[.int .i64 x, .int .i64 y] := by
  obtain ⟨cs, rfl⟩ := okWide_array ht hv
  obtain ⟨fuel, h2⟩ := h
  obtain ⟨xs, k, _, _, hcl, hxl, hg⟩ := DataW.trod_array ht h2
  rw [ct] at hcl
  obtain ⟨l⟩ := cs
  simp only [Value.cells] at hcl hg
  match xs, hxl, l, hcl with
  | [y0, y1], _, [v0, v1], _ =>
    have g0 := hg 0 (by omega)
    have g1 := hg 1 (by omega)
    simp [cf] at g0 g1
    obtain ⟨n0, e0, _, _⟩ := DataW.trod_int hf g0
    obtain ⟨n1, e1, _, _⟩ := DataW.trod_int hf g1
    simp at e0 e1
    subst e0 e1
    exact ⟨n0, n1, rfl⟩
theorem three_open (ht : P.underlying t = some (.array 3 f)) (hf : P.underlying f = some (.int .i64)) (ct : P.cellsOf t = 3) (cf : P.cellsOf f = 1) (hv : Value.okWide P W r b0 t v) (h : DataW.Trod enc P W base spare held t v d p) :
    ∃ x y z : Int, v = .agg #[.int .i64 x, .int .i64 y, .int .i64 z] := by
  obtain ⟨cs, rfl⟩ := okWide_array ht hv
  obtain ⟨fuel, h2⟩ := h
  obtain ⟨xs, k, _, _, hcl, hxl, hg⟩ := DataW.trod_array ht h2
  rw [ct] at hcl
  obtain ⟨l⟩ := cs
  simp only [Value.cells] at hcl hg
  match xs, hxl, l, hcl with
  | [y0, y1, y2], _, [v0, v1, v2], _ =>
    have g0 := hg 0 (by omega)
    have g1 := hg 1 (by omega)
    have g2 := hg 2 (by omega)
    simp [cf] at g0 g1 g2
    obtain ⟨n0, e0, _, _⟩ := DataW.trod_int hf g0
    obtain ⟨n1, e1, _, _⟩ := DataW.trod_int hf g1
    obtain ⟨n2, e2, _, _⟩ := DataW.trod_int hf g2
    simp at e0 e1 e2
    subst e0 e1 e2
    exact ⟨n0, n1, n2, rfl⟩
end
end Go.Proofs.Ytfadojniihjneaa

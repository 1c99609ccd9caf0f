/- Layer 13: values (api.Value) and pointers as they lie in memory, opened out of an argument's reading. -/
import Derived.Test.YtbhjdpaicfnfcaaChecked
import Derived.Test.YtbhjdpaicfnfcaaOpenL
import Derived.Test.YtbhjdpaicfnfcaaRowAt
namespace Go.Proofs.Ytbhjdpaicfnfcaa
open Go.ChangeShapes Go.WideShapes Go.ChangeAt Go.RowKit Go.Deep
namespace Tr
inductive Va | mk (kind : Int) (num : Int) (name : ByteArray) (parts : List Va) (al : Int) (path : List Int) (tag : Int)
instance : Inhabited Va := ⟨.mk 0 0 ⟨#[]⟩ [] 0 [] 0⟩
def VaAt (w : World) : Nat → Va → List Value → Prop
  | 0, _, _ => False
  | n + 1, .mk k m nm ps al pa tg, cs => ∃ P cp R cr, cs = [.int .i64 k, .int .u64 m, .string nm, .slice P ps.length cp, .int .i64 al, .slice R pa.length cr, .int .i64 tg] ∧ (nm.size ≤ maxLen ∧ ListAt w 1 IntAt R pa) ∧ ListAt w 7 (VaAt w n) P ps
theorem VaAt.below {w w' : World} (hb : Below w.heap.size w w') : ∀ (n : Nat) (x : Va) (cs : List Value), VaAt w n x cs → VaAt w' n x cs
  | 0, _, _, h => h
  | n + 1, .mk _ _ _ _ _ _ _, cs, h => by
    obtain ⟨P, cp, R, cr, e, h1, h2⟩ := h
    exact ⟨P, cp, R, cr, e, ⟨h1.1, h1.2.below hb fun _ _ _ h => h⟩, h2.below hb fun x _ cs h => VaAt.below hb n x cs h⟩
theorem VaAt.shape {w : World} : ∀ {n : Nat} {x : Va} {cs : List Value}, VaAt w n x cs → ∃ (k m : Int) (nm : ByteArray) (P : Option Addr) (lp cp : Nat) (al : Int) (R : Option Addr) (lr cr : Nat) (tg : Int),
    cs = [.int .i64 k, .int .u64 m, .string nm, .slice P lp cp, .int .i64 al, .slice R lr cr, .int .i64 tg]
  | 0, _, _, h => h.elim
  | n + 1, .mk _ _ _ _ _ _ _, cs, h => by
    obtain ⟨P, cp, R, cr, rfl, _⟩ := h
    exact ⟨_, _, _, _, _, _, _, _, _, _, _, rfl⟩
theorem VaAt.one {w : World} {n : Nat} {x : Va} {cs : List Value} (h : VaAt w n x cs) : cs.length = 7 ∧ ∀ u ∈ cs, u.oneCell' = true := by
  obtain ⟨_, _, _, _, _, _, _, _, _, _, _, rfl⟩ := h.shape
  exact ⟨rfl, fun u hu => by simp at hu; rcases hu with rfl | rfl | rfl | rfl | rfl | rfl | rfl <;> rfl⟩
set_option maxRecDepth 100000
theorem k_int : Try.prog.cellsOf 3 = 1 := by kernel_rfl
theorem k_u64 : Try.prog.cellsOf 22 = 1 := by kernel_rfl
theorem k_str : Try.prog.cellsOf 9 = 1 := by kernel_rfl
theorem k_ints : Try.prog.cellsOf 27 = 1 := by kernel_rfl
theorem k_vals : Try.prog.cellsOf 32 = 1 := by kernel_rfl
theorem k_val : Try.prog.cellsOf 34 = 7 := by kernel_rfl
theorem k_ptr : Try.prog.cellsOf 29 = 3 := by kernel_rfl
section
variable {H : Type} {enc : TypeId × Value → H} {w : World} {base : Nat} {spare : Nat → Bool} {held : Bool}
theorem open_int {f : Nat} {cs : List Value} {d : DataW H} {ps : List MemPlace} (h : DataW.trod enc Try.prog w base spare held f 3 cs = some (d, ps)) : ∃ s, IntAt s cs ∧ (fun _ : Int => 0) s ≤ Rows.uptoBulk d := by
  obtain ⟨s, e, _, _⟩ := DataW.trod_int Try.underlying3 h
  exact ⟨s, e, Nat.zero_le _⟩
theorem open_ptr {f : Nat} {cs : List Value} {d : DataW H} {ps : List MemPlace} (h : DataW.trod enc Try.prog w base spare held f 29 cs = some (d, ps)) : ∃ al R pa cr tg, cs = [.int .i64 al, .slice R (List.length pa) cr, .int .i64 tg] ∧ ListAt w 1 IntAt R pa := by
  obtain ⟨xs, n, _, _, hl, hxl, hf⟩ := DataW.trod_struct Try.underlying29 h
  rw [k_ptr] at hl
  match cs, hl, xs, hxl with
  | [v0, v1, v2], _, [y0, y1, y2], _ =>
    have g0 := hf 0 _ rfl
    have g1 := hf 1 _ rfl
    have g2 := hf 2 _ rfl
    simp [k_int, k_ints] at g0 g1 g2
    obtain ⟨n0, e0, _, _⟩ := DataW.trod_int Try.underlying3 g0
    obtain ⟨A1, l1, c1, e1, h1, _, _⟩ := open_listAt IntAt (fun _ => 0) Try.underlying27 k_int (by decide) (fun _ _ h => h.one.2) (fun _ _ _ h => open_int h) g1
    obtain ⟨n2, e2, _, _⟩ := DataW.trod_int Try.underlying3 g2
    simp at e0 e1 e2
    subst e0 e1 e2
    exact ⟨n0, A1, l1, c1, n2, rfl, h1⟩
theorem open_val : ∀ (f : Nat) (cs : List Value) (d : DataW H) (ps : List MemPlace), DataW.trod enc Try.prog w base spare held f 34 cs = some (d, ps) → ∃ x, VaAt w f x cs ∧ (fun _ : Va => 0) x ≤ Rows.uptoBulk d
  | 0, _, _, _, h => by simp [DataW.trod] at h
  | f + 1, cs, d, ps, h => by
    obtain ⟨xs, n, hn, _, hl, hxl, hf⟩ := DataW.trod_struct Try.underlying34 h
    obtain rfl : f = n := by omega
    rw [k_val] at hl
    match cs, hl, xs, hxl with
    | [v0, v1, v2, v3, v4, v5, v6], _, [y0, y1, y2, y3, y4], _ =>
      have g0 := hf 0 _ rfl
      have g1 := hf 1 _ rfl
      have g2 := hf 2 _ rfl
      have g3 := hf 3 _ rfl
      have g4 := hf 4 _ rfl
      simp [k_int, k_str, k_u64, k_vals, k_ptr] at g0 g1 g2 g3 g4
      obtain ⟨n0, e0, _, _⟩ := DataW.trod_int Try.underlying3 g0
      obtain ⟨n1, e1, _, _⟩ := DataW.trod_int Try.underlying22 g1
      obtain ⟨n2, e2, _, b2⟩ := DataW.trod_string Try.underlying9 g2
      obtain ⟨A3, l3, c3, e3, h3, _, _⟩ := open_listAt (VaAt w f) (fun _ => 0) Try.underlying32 k_val (by decide) (fun _ _ h => h.one.2) (open_val f) g3
      obtain ⟨al, R, pa, cr, tg, e4, h4⟩ := open_ptr g4
      simp at e0 e1 e2 e3 e4
      obtain ⟨e4, e5, e6⟩ := e4
      subst e0 e1 e2 e3 e4 e5 e6
      exact ⟨.mk n0 n1 n2 l3 al pa tg, ⟨A3, c3, R, cr, rfl, ⟨b2, h4⟩, h3⟩, Nat.zero_le _⟩
end
end Tr
end Go.Proofs.Ytbhjdpaicfnfcaa

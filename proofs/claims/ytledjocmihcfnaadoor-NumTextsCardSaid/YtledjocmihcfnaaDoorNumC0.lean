/- The statements of layer 2: each law's row, and its card. -/
import Derived.Test.YtledjocmihcfnaaDoorCards
import Derived.Test.YtledjocmihcfnaaDoorTie
import Derived.Test.YtledjocmihcfnaaDoorClose
import Derived.Test.YtledjocmihcfnaaDoorNumL
import Derived.Deep.DeepHandedRow
import Derived.Lib.LaidTab
namespace Go.Proofs.YtledjocmihcfnaaDoor
open Go.ChangeShapes Go.WideShapes Go.ChangeAt Go.RowKit

theorem own : ownKnob Tryd.prog.godebug = none := by kernel_rfl
theorem laidOut : laidOutB Tryd.prog = true := by kernel_rfl
theorem readable_i : Tryd.prog.readableRec 2 = true ∧ 2 < Tryd.prog.types.size := ⟨by kernel_rfl, of_decide_eq_true (by kernel_rfl)⟩
theorem readable_u : Tryd.prog.readableRec 27 = true ∧ 27 < Tryd.prog.types.size := ⟨by kernel_rfl, of_decide_eq_true (by kernel_rfl)⟩

theorem laidMet_tail {P : Program} {x : String × DataW Unit} {r : List (String × DataW Unit)} {w : World} (h : laidMet P (x :: r) w) : laidMet P r w := by
  obtain ⟨ps, ⟨g, t, cs, fuel, p, q, _, _, _, _, hr, rfl⟩, hn, hm⟩ := h
  exact ⟨q, hr, (List.nodup_append.1 hn).2.1, fun b off hb => hm b off (List.mem_append_right _ hb)⟩

theorem tab_type : (Tryd.prog.globals[gtab]?).map (·.type) = some 79 := by kernel_rfl
theorem tab_cells : Tryd.prog.cellsOf 79 = 20 := by kernel_rfl
theorem u64_cells : Tryd.prog.cellsOf 27 = 1 := by kernel_rfl

/-- What the list of variables gives: the library's table of powers of ten. -/
theorem tab_of {W : World} (h : laidMetH Tryd.prog Rows.numWholesRow.laid W) : Tab W ∧ gtab < W.heap.size := by
  have h' : laidMet Tryd.prog Rows.numWholesRow.laid W := h
  have ht : Tab W := Lib.tabIs_of_head (rest := []) gtab_named tab_type Tryd.underlying79 Tryd.underlying27 u64_cells tab_cells (laidMet_tail (laidMet_tail h'))
  exact ⟨ht, World.block_lt_of_cell? _ _ (Lib.TabIs.cell ht gtab_named 0 (by decide))⟩

/-- A variable's numbers, as its cells. -/
def cellsIn : DataW Unit → Array Value
  | .agg l => (l.map fun | .lit (.int k n) => .int k n | _ => .bool false).toArray
  | _ => #[]
noncomputable def put (w : World) (g : Nat) (d : DataW Unit) : World :=
  { w with heap := w.heap.modify g fun | .cells _ t fr => .cells (cellsIn d) t fr | o => o }
/-- A world for the witness: the listed variables hold what their initialisers lay. -/
noncomputable def laidWorld (os : Os) : World :=
  put (put (put (World.holding Tryd.prog os ⟨#[], #[], []⟩) 3 Rows.laid_math_bits_deBruijn32tab) 4 Rows.laid_math_bits_deBruijn64tab) 1 Rows.laid_internal_strconv_uint64pow10

theorem u64_nat {a : Int} (w : (Lit.int .u64 a).wf = true) : ∃ n : Nat, a = n ∧ n < 18446744073709551616 := by
  have hx : 0 ≤ a ∧ a ≤ 18446744073709551615 := by simpa [Lit.wf, IntKind.min, IntKind.max, IntKind.signed, IntKind.bits] using w
  exact ⟨a.toNat, by omega, by omega⟩
theorem i64_bd {a : Int} (w : (Lit.int .i64 a).wf = true) : -9223372036854775808 ≤ a ∧ a ≤ 9223372036854775807 := by
  simpa [Lit.wf, IntKind.min, IntKind.max, IntKind.signed, IntKind.bits] using w
end Go.Proofs.YtledjocmihcfnaaDoor

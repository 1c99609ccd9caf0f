/-
  DERIVED. GIVEN WITH THE SEED: THE CARDS: each row of YtbflkaaenoeniaaDoorRows.lean that lists a variable, with what it lists TIED to the program's text (the seventh form; the later family's looks); each row that meets fmt, with fmt's text TOLD by the authors' own Lean function (tested against real Go, not proved from fmt's source: count such statements apart). THE CARD IS WHAT COUNTS. Prove the row's statement (the work); the ties are given (YtbflkaaenoeniaaDoorTie.lean); close each card by the builder's one call (the guide's Derived/Test/ToyasCard.lean, 'card_holds'). Laid BY PROGRAM, IN A SANDBOX (cutbox-door.mjs). By AI agents, Wed Nov 11 2026. No macro, syntax, notation, axiom, sorry.
-/
import Derived.Test.YtbflkaaenoeniaaDoorRows
import GoSem.ClaimSeven
namespace Go.Proofs.YtbflkaaenoeniaaDoor
namespace Rows

/-- THE TIED CARD OF 'chattellaw12.SolveLeast'. -/
def solveLeastCard : Claim7 := { stood := { row := solveLeastRow, standIns := [], harness := (true, "c4328e38eec3634d8a5ddc07378bc119864d30fc82385e8b2e9aee44dd03b7db"), looks := false }, kinds := [], alts := [], laidByText := true, laidKinds := [.data], laidTests := true, laidLooks := .later }
def SolveLeastCardSaid : Prop := Claim7.holds Tryd.pinned (.plain (OpenSpec.ofChange solveLeastSpec)) solveLeastCard

/-- THE TIED CARD OF 'chattellaw12.SolveTurns'. -/
def solveTurnsCard : Claim7 := { stood := { row := solveTurnsRow, standIns := [], harness := (true, "c4328e38eec3634d8a5ddc07378bc119864d30fc82385e8b2e9aee44dd03b7db"), looks := false }, kinds := [], alts := [], laidByText := true, laidKinds := [.data], laidTests := true, laidLooks := .later }
def SolveTurnsCardSaid : Prop := Claim7.holds Tryd.pinned (.plain (OpenSpec.ofChange solveTurnsSpec)) solveTurnsCard

/-- THE TIED CARD OF 'chattellaw12.SolveGrows'. -/
def solveGrowsCard : Claim7 := { stood := { row := solveGrowsRow, standIns := [], harness := (true, "c4328e38eec3634d8a5ddc07378bc119864d30fc82385e8b2e9aee44dd03b7db"), looks := false }, kinds := [], alts := [], laidByText := true, laidKinds := [.data], laidTests := true, laidLooks := .later }
def SolveGrowsCardSaid : Prop := Claim7.holds Tryd.pinned (.plain (OpenSpec.ofChange solveGrowsSpec)) solveGrowsCard

/-- THE TIED CARD OF 'chattellaw12.SolveRows'. -/
def solveRowsCard : Claim7 := { stood := { row := solveRowsRow, standIns := [], harness := (true, "c4328e38eec3634d8a5ddc07378bc119864d30fc82385e8b2e9aee44dd03b7db"), looks := false }, kinds := [], alts := [], laidByText := true, laidKinds := [.data], laidTests := true, laidLooks := .later }
def SolveRowsCardSaid : Prop := Claim7.holds Tryd.pinned (.plain (OpenSpec.ofChange solveRowsSpec)) solveRowsCard

/-- THE TIED CARD OF 'chattellaw12.SolveNils'. -/
def solveNilsCard : Claim7 := { stood := { row := solveNilsRow, standIns := [], harness := (true, "c4328e38eec3634d8a5ddc07378bc119864d30fc82385e8b2e9aee44dd03b7db"), looks := false }, kinds := [], alts := [], laidByText := true, laidKinds := [.data], laidTests := true, laidLooks := .later }
def SolveNilsCardSaid : Prop := Claim7.holds Tryd.pinned (.plain (OpenSpec.ofChange solveNilsSpec)) solveNilsCard

/-- THE SECOND FORM's CARD OF 'chattellaw12.SolveLeast'. -/
def solveLeastUptoCard : Claim7 := { stood := { row := solveLeastUptoRow, standIns := [], harness := (true, "c4328e38eec3634d8a5ddc07378bc119864d30fc82385e8b2e9aee44dd03b7db"), looks := false }, kinds := [], alts := [], laidByText := true, laidKinds := [.data], laidTests := true, laidLooks := .later }
def SolveLeastUptoCardSaid : Prop := Claim7.holds Tryd.pinned (.plain (OpenSpec.upto solveLeastSpec)) solveLeastUptoCard

/-- THE SECOND FORM's CARD OF 'chattellaw12.SolveTurns'. -/
def solveTurnsUptoCard : Claim7 := { stood := { row := solveTurnsUptoRow, standIns := [], harness := (true, "c4328e38eec3634d8a5ddc07378bc119864d30fc82385e8b2e9aee44dd03b7db"), looks := false }, kinds := [], alts := [], laidByText := true, laidKinds := [.data], laidTests := true, laidLooks := .later }
def SolveTurnsUptoCardSaid : Prop := Claim7.holds Tryd.pinned (.plain (OpenSpec.upto solveTurnsSpec)) solveTurnsUptoCard

/-- THE SECOND FORM's CARD OF 'chattellaw12.SolveGrows'. -/
def solveGrowsUptoCard : Claim7 := { stood := { row := solveGrowsUptoRow, standIns := [], harness := (true, "c4328e38eec3634d8a5ddc07378bc119864d30fc82385e8b2e9aee44dd03b7db"), looks := false }, kinds := [], alts := [], laidByText := true, laidKinds := [.data], laidTests := true, laidLooks := .later }
def SolveGrowsUptoCardSaid : Prop := Claim7.holds Tryd.pinned (.plain (OpenSpec.upto solveGrowsSpec)) solveGrowsUptoCard

/-- THE SECOND FORM's CARD OF 'chattellaw12.SolveRows'. -/
def solveRowsUptoCard : Claim7 := { stood := { row := solveRowsUptoRow, standIns := [], harness := (true, "c4328e38eec3634d8a5ddc07378bc119864d30fc82385e8b2e9aee44dd03b7db"), looks := false }, kinds := [], alts := [], laidByText := true, laidKinds := [.data], laidTests := true, laidLooks := .later }
def SolveRowsUptoCardSaid : Prop := Claim7.holds Tryd.pinned (.plain (OpenSpec.upto solveRowsSpec)) solveRowsUptoCard

/-- THE SECOND FORM's CARD OF 'chattellaw12.SolveNils'. -/
def solveNilsUptoCard : Claim7 := { stood := { row := solveNilsUptoRow, standIns := [], harness := (true, "c4328e38eec3634d8a5ddc07378bc119864d30fc82385e8b2e9aee44dd03b7db"), looks := false }, kinds := [], alts := [], laidByText := true, laidKinds := [.data], laidTests := true, laidLooks := .later }
def SolveNilsUptoCardSaid : Prop := Claim7.holds Tryd.pinned (.plain (OpenSpec.upto solveNilsSpec)) solveNilsUptoCard
end Rows
end Go.Proofs.YtbflkaaenoeniaaDoor

/-
  DERIVED. GIVEN WITH THE SEED: THE CARDS: each row of YtiljpnghahkjhaaDoorRows.lean that lists a variable, with what it lists TIED to the program's text (the seventh form; the later family's looks); each row that meets fmt, with fmt's text TOLD by the authors' own Lean function (tested against real Go, not proved from fmt's source: count such statements apart). THE CARD IS WHAT COUNTS. Prove the row's statement (the work); the ties are given (YtiljpnghahkjhaaDoorTie.lean); close each card by the builder's one call (the guide's Derived/Test/ToyasCard.lean, 'card_holds'). Laid BY PROGRAM, IN A SANDBOX (cutbox-door.mjs). By AI agents, Wed Nov 11 2026. No macro, syntax, notation, axiom, sorry.
-/
import Derived.Test.YtiljpnghahkjhaaDoorRows
import GoSem.ClaimSeven
namespace Go.Proofs.YtiljpnghahkjhaaDoor
namespace Rows

/-- THE TIED CARD OF 'chattellaw07.TypesMaps'. -/
def typesMapsCard : Claim7 := { stood := { row := typesMapsRow, standIns := [], harness := (true, "e51ecaea72c70084df92839cbf6c26cfb7323a5a508043a900f7f58dbf2252a5"), looks := false }, kinds := [], alts := [], laidByText := true, laidKinds := [.data, .data, .data], laidTests := true, laidLooks := .later }
def TypesMapsCardSaid : Prop := Claim7.holds Tryd.pinned (.plain (OpenSpec.ofChange typesMapsSpec)) typesMapsCard

/-- THE TIED CARD OF 'chattellaw07.TypesSame'. -/
def typesSameCard : Claim7 := { stood := { row := typesSameRow, standIns := [], harness := (true, "e51ecaea72c70084df92839cbf6c26cfb7323a5a508043a900f7f58dbf2252a5"), looks := false }, kinds := [], alts := [], laidByText := true, laidKinds := [.data, .data, .data], laidTests := true, laidLooks := .later }
def TypesSameCardSaid : Prop := Claim7.holds Tryd.pinned (.plain (OpenSpec.ofChange typesSameSpec)) typesSameCard

/-- THE TIED CARD OF 'chattellaw07.TypesInsts'. -/
def typesInstsCard : Claim7 := { stood := { row := typesInstsRow, standIns := [], harness := (true, "e51ecaea72c70084df92839cbf6c26cfb7323a5a508043a900f7f58dbf2252a5"), looks := false }, kinds := [], alts := [], laidByText := true, laidKinds := [.data, .data, .data], laidTests := true, laidLooks := .later }
def TypesInstsCardSaid : Prop := Claim7.holds Tryd.pinned (.plain (OpenSpec.ofChange typesInstsSpec)) typesInstsCard

/-- THE TIED CARD OF 'chattellaw07.TypesTwice'. -/
def typesTwiceCard : Claim7 := { stood := { row := typesTwiceRow, standIns := [], harness := (true, "e51ecaea72c70084df92839cbf6c26cfb7323a5a508043a900f7f58dbf2252a5"), looks := false }, kinds := [], alts := [], laidByText := true, laidKinds := [.data, .data, .data], laidTests := true, laidLooks := .later }
def TypesTwiceCardSaid : Prop := Claim7.holds Tryd.pinned (.plain (OpenSpec.ofChange typesTwiceSpec)) typesTwiceCard

/-- THE TIED CARD OF 'chattellaw07.TypesWf'. -/
def typesWfCard : Claim7 := { stood := { row := typesWfRow, standIns := [], harness := (true, "e51ecaea72c70084df92839cbf6c26cfb7323a5a508043a900f7f58dbf2252a5"), looks := false }, kinds := [], alts := [], laidByText := true, laidKinds := [.data, .data, .data], laidTests := true, laidLooks := .later }
def TypesWfCardSaid : Prop := Claim7.holds Tryd.pinned (.plain (OpenSpec.ofChange typesWfSpec)) typesWfCard

/-- THE SECOND FORM's CARD OF 'chattellaw07.TypesMaps'. -/
def typesMapsUptoCard : Claim7 := { stood := { row := typesMapsUptoRow, standIns := [], harness := (true, "e51ecaea72c70084df92839cbf6c26cfb7323a5a508043a900f7f58dbf2252a5"), looks := false }, kinds := [], alts := [], laidByText := true, laidKinds := [.data, .data, .data], laidTests := true, laidLooks := .later }
def TypesMapsUptoCardSaid : Prop := Claim7.holds Tryd.pinned (.plain (OpenSpec.upto typesMapsSpec)) typesMapsUptoCard

/-- THE SECOND FORM's CARD OF 'chattellaw07.TypesSame'. -/
def typesSameUptoCard : Claim7 := { stood := { row := typesSameUptoRow, standIns := [], harness := (true, "e51ecaea72c70084df92839cbf6c26cfb7323a5a508043a900f7f58dbf2252a5"), looks := false }, kinds := [], alts := [], laidByText := true, laidKinds := [.data, .data, .data], laidTests := true, laidLooks := .later }
def TypesSameUptoCardSaid : Prop := Claim7.holds Tryd.pinned (.plain (OpenSpec.upto typesSameSpec)) typesSameUptoCard

/-- THE SECOND FORM's CARD OF 'chattellaw07.TypesInsts'. -/
def typesInstsUptoCard : Claim7 := { stood := { row := typesInstsUptoRow, standIns := [], harness := (true, "e51ecaea72c70084df92839cbf6c26cfb7323a5a508043a900f7f58dbf2252a5"), looks := false }, kinds := [], alts := [], laidByText := true, laidKinds := [.data, .data, .data], laidTests := true, laidLooks := .later }
def TypesInstsUptoCardSaid : Prop := Claim7.holds Tryd.pinned (.plain (OpenSpec.upto typesInstsSpec)) typesInstsUptoCard

/-- THE SECOND FORM's CARD OF 'chattellaw07.TypesTwice'. -/
def typesTwiceUptoCard : Claim7 := { stood := { row := typesTwiceUptoRow, standIns := [], harness := (true, "e51ecaea72c70084df92839cbf6c26cfb7323a5a508043a900f7f58dbf2252a5"), looks := false }, kinds := [], alts := [], laidByText := true, laidKinds := [.data, .data, .data], laidTests := true, laidLooks := .later }
def TypesTwiceUptoCardSaid : Prop := Claim7.holds Tryd.pinned (.plain (OpenSpec.upto typesTwiceSpec)) typesTwiceUptoCard

/-- THE SECOND FORM's CARD OF 'chattellaw07.TypesWf'. -/
def typesWfUptoCard : Claim7 := { stood := { row := typesWfUptoRow, standIns := [], harness := (true, "e51ecaea72c70084df92839cbf6c26cfb7323a5a508043a900f7f58dbf2252a5"), looks := false }, kinds := [], alts := [], laidByText := true, laidKinds := [.data, .data, .data], laidTests := true, laidLooks := .later }
def TypesWfUptoCardSaid : Prop := Claim7.holds Tryd.pinned (.plain (OpenSpec.upto typesWfSpec)) typesWfUptoCard
end Rows
end Go.Proofs.YtiljpnghahkjhaaDoor

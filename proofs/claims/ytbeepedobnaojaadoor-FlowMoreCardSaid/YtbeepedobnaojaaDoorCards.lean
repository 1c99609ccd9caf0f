/-
  DERIVED. GIVEN WITH THE SEED: THE CARDS: each row of YtbeepedobnaojaaDoorRows.lean that lists a variable, with what it lists TIED to the program's text (the seventh form; the later family's looks); each row that meets fmt, with fmt's text TOLD by the authors' own Lean function (tested against real Go, not proved from fmt's source: count such statements apart). THE CARD IS WHAT COUNTS. Prove the row's statement (the work); the ties are given (YtbeepedobnaojaaDoorTie.lean); close each card by the builder's one call (the guide's Derived/Test/ToyasCard.lean, 'card_holds'). Laid BY PROGRAM, IN A SANDBOX (cutbox-door.mjs). By AI agents, Wed Nov 11 2026. No macro, syntax, notation, axiom, sorry.
-/
import Derived.Test.YtbeepedobnaojaaDoorRows
import GoSem.ClaimSeven
namespace Go.Proofs.YtbeepedobnaojaaDoor
namespace Rows

/-- THE TIED CARD OF 'chattellaw15.FlowForward'. -/
def flowForwardCard : Claim7 := { stood := { row := flowForwardRow, standIns := [], harness := (true, "58dc2c9929b1b617b3fa40eddee09b19dd44873650f8f1a5d5768f445ddbf3ce"), looks := false }, kinds := [], alts := [], laidByText := true, laidKinds := [.data], laidTests := true, laidLooks := .later }
def FlowForwardCardSaid : Prop := Claim7.holds Tryd.pinned (.plain (OpenSpec.ofChange flowForwardSpec)) flowForwardCard

/-- THE TIED CARD OF 'chattellaw15.FlowBackward'. -/
def flowBackwardCard : Claim7 := { stood := { row := flowBackwardRow, standIns := [], harness := (true, "58dc2c9929b1b617b3fa40eddee09b19dd44873650f8f1a5d5768f445ddbf3ce"), looks := false }, kinds := [], alts := [], laidByText := true, laidKinds := [.data], laidTests := true, laidLooks := .later }
def FlowBackwardCardSaid : Prop := Claim7.holds Tryd.pinned (.plain (OpenSpec.ofChange flowBackwardSpec)) flowBackwardCard

/-- THE TIED CARD OF 'chattellaw15.FlowWays'. -/
def flowWaysCard : Claim7 := { stood := { row := flowWaysRow, standIns := [], harness := (true, "58dc2c9929b1b617b3fa40eddee09b19dd44873650f8f1a5d5768f445ddbf3ce"), looks := false }, kinds := [], alts := [], laidByText := true, laidKinds := [.data], laidTests := true, laidLooks := .later }
def FlowWaysCardSaid : Prop := Claim7.holds Tryd.pinned (.plain (OpenSpec.ofChange flowWaysSpec)) flowWaysCard

/-- THE TIED CARD OF 'chattellaw15.FlowApart'. -/
def flowApartCard : Claim7 := { stood := { row := flowApartRow, standIns := [], harness := (true, "58dc2c9929b1b617b3fa40eddee09b19dd44873650f8f1a5d5768f445ddbf3ce"), looks := false }, kinds := [], alts := [], laidByText := true, laidKinds := [.data], laidTests := true, laidLooks := .later }
def FlowApartCardSaid : Prop := Claim7.holds Tryd.pinned (.plain (OpenSpec.ofChange flowApartSpec)) flowApartCard

/-- THE TIED CARD OF 'chattellaw15.FlowMore'. -/
def flowMoreCard : Claim7 := { stood := { row := flowMoreRow, standIns := [], harness := (true, "58dc2c9929b1b617b3fa40eddee09b19dd44873650f8f1a5d5768f445ddbf3ce"), looks := false }, kinds := [], alts := [], laidByText := true, laidKinds := [.data], laidTests := true, laidLooks := .later }
def FlowMoreCardSaid : Prop := Claim7.holds Tryd.pinned (.plain (OpenSpec.ofChange flowMoreSpec)) flowMoreCard

/-- THE TIED CARD OF 'chattellaw15.FlowNils'. -/
def flowNilsCard : Claim7 := { stood := { row := flowNilsRow, standIns := [], harness := (true, "58dc2c9929b1b617b3fa40eddee09b19dd44873650f8f1a5d5768f445ddbf3ce"), looks := false }, kinds := [], alts := [], laidByText := true, laidKinds := [.data], laidTests := true, laidLooks := .later }
def FlowNilsCardSaid : Prop := Claim7.holds Tryd.pinned (.plain (OpenSpec.ofChange flowNilsSpec)) flowNilsCard

/-- THE SECOND FORM's CARD OF 'chattellaw15.FlowForward'. -/
def flowForwardUptoCard : Claim7 := { stood := { row := flowForwardUptoRow, standIns := [], harness := (true, "58dc2c9929b1b617b3fa40eddee09b19dd44873650f8f1a5d5768f445ddbf3ce"), looks := false }, kinds := [], alts := [], laidByText := true, laidKinds := [.data], laidTests := true, laidLooks := .later }
def FlowForwardUptoCardSaid : Prop := Claim7.holds Tryd.pinned (.plain (OpenSpec.upto flowForwardSpec)) flowForwardUptoCard

/-- THE SECOND FORM's CARD OF 'chattellaw15.FlowBackward'. -/
def flowBackwardUptoCard : Claim7 := { stood := { row := flowBackwardUptoRow, standIns := [], harness := (true, "58dc2c9929b1b617b3fa40eddee09b19dd44873650f8f1a5d5768f445ddbf3ce"), looks := false }, kinds := [], alts := [], laidByText := true, laidKinds := [.data], laidTests := true, laidLooks := .later }
def FlowBackwardUptoCardSaid : Prop := Claim7.holds Tryd.pinned (.plain (OpenSpec.upto flowBackwardSpec)) flowBackwardUptoCard

/-- THE SECOND FORM's CARD OF 'chattellaw15.FlowWays'. -/
def flowWaysUptoCard : Claim7 := { stood := { row := flowWaysUptoRow, standIns := [], harness := (true, "58dc2c9929b1b617b3fa40eddee09b19dd44873650f8f1a5d5768f445ddbf3ce"), looks := false }, kinds := [], alts := [], laidByText := true, laidKinds := [.data], laidTests := true, laidLooks := .later }
def FlowWaysUptoCardSaid : Prop := Claim7.holds Tryd.pinned (.plain (OpenSpec.upto flowWaysSpec)) flowWaysUptoCard

/-- THE SECOND FORM's CARD OF 'chattellaw15.FlowApart'. -/
def flowApartUptoCard : Claim7 := { stood := { row := flowApartUptoRow, standIns := [], harness := (true, "58dc2c9929b1b617b3fa40eddee09b19dd44873650f8f1a5d5768f445ddbf3ce"), looks := false }, kinds := [], alts := [], laidByText := true, laidKinds := [.data], laidTests := true, laidLooks := .later }
def FlowApartUptoCardSaid : Prop := Claim7.holds Tryd.pinned (.plain (OpenSpec.upto flowApartSpec)) flowApartUptoCard

/-- THE SECOND FORM's CARD OF 'chattellaw15.FlowMore'. -/
def flowMoreUptoCard : Claim7 := { stood := { row := flowMoreUptoRow, standIns := [], harness := (true, "58dc2c9929b1b617b3fa40eddee09b19dd44873650f8f1a5d5768f445ddbf3ce"), looks := false }, kinds := [], alts := [], laidByText := true, laidKinds := [.data], laidTests := true, laidLooks := .later }
def FlowMoreUptoCardSaid : Prop := Claim7.holds Tryd.pinned (.plain (OpenSpec.upto flowMoreSpec)) flowMoreUptoCard

/-- THE SECOND FORM's CARD OF 'chattellaw15.FlowNils'. -/
def flowNilsUptoCard : Claim7 := { stood := { row := flowNilsUptoRow, standIns := [], harness := (true, "58dc2c9929b1b617b3fa40eddee09b19dd44873650f8f1a5d5768f445ddbf3ce"), looks := false }, kinds := [], alts := [], laidByText := true, laidKinds := [.data], laidTests := true, laidLooks := .later }
def FlowNilsUptoCardSaid : Prop := Claim7.holds Tryd.pinned (.plain (OpenSpec.upto flowNilsSpec)) flowNilsUptoCard
end Rows
end Go.Proofs.YtbeepedobnaojaaDoor

/-
  DERIVED. GIVEN WITH THE SEED: THE CARDS: each row of YtjboghmcmlkpoaaGreatDoorRows.lean that lists a variable, with what it lists TIED to the program's text (the seventh form; the later family's looks); each row that meets fmt, with fmt's text TOLD by the authors' own Lean function (tested against real Go, not proved from fmt's source: count such statements apart). THE CARD IS WHAT COUNTS. Prove the row's statement (the work); the ties are given (YtjboghmcmlkpoaaGreatDoorTie.lean); close each card by the builder's one call (the guide's Derived/Test/ToyasCard.lean, 'card_holds'). Laid BY PROGRAM, IN A SANDBOX (cutbox-door.mjs). By AI agents, Wed Nov 11 2026. No macro, syntax, notation, axiom, sorry.
-/
import Derived.Test.YtjboghmcmlkpoaaGreatDoorRows
import GoSem.ClaimSeven
namespace Go.Proofs.YtjboghmcmlkpoaaGreatDoor
namespace Rows

/-- THE TIED CARD OF 'laws.FnProgBack'. -/
def fnProgBackCard : Claim7 := { stood := { row := fnProgBackRow, standIns := [], harness := (true, "ec543a5bdf284cfab8010a8b2ae1712a85626faee95bc84c62b9835ecfe7406d"), looks := true }, kinds := [], alts := [], laidByText := true, laidKinds := [.data, .data, .data, .data, .handle, .data, .data, .sentinel, .sentinel, .pinned], laidTests := true, laidLooks := .later }
def FnProgBackCardSaid : Prop := Claim7.holds Tryz.pinned (.plain (OpenSpec.ofChange fnProgBackSpec)) fnProgBackCard

/-- THE TIED CARD OF 'laws.FnExpBack'. -/
def fnExpBackCard : Claim7 := { stood := { row := fnExpBackRow, standIns := [], harness := (true, "ec543a5bdf284cfab8010a8b2ae1712a85626faee95bc84c62b9835ecfe7406d"), looks := true }, kinds := [], alts := [], laidByText := true, laidKinds := [.data, .data, .data, .data, .data, .sentinel, .sentinel, .pinned], laidTests := true, laidLooks := .later }
def FnExpBackCardSaid : Prop := Claim7.holds Tryz.pinned (.plain (OpenSpec.ofChange fnExpBackSpec)) fnExpBackCard

/-- THE TIED CARD OF 'laws.FnExactShowExp'. -/
def fnExactShowExpCard : Claim7 := { stood := { row := fnExactShowExpRow, standIns := [], harness := (true, "ec543a5bdf284cfab8010a8b2ae1712a85626faee95bc84c62b9835ecfe7406d"), looks := true }, kinds := [], alts := [], laidByText := true, laidKinds := [.data, .data, .data, .data], laidTests := true, laidLooks := .later }
def FnExactShowExpCardSaid : Prop := Claim7.holds Tryz.pinned (.plain (OpenSpec.ofChange fnExactShowExpSpec)) fnExactShowExpCard

/-- THE TIED CARD OF 'laws.FnExactReadExp'. -/
def fnExactReadExpCard : Claim7 := { stood := { row := fnExactReadExpRow, standIns := [], harness := (true, "ec543a5bdf284cfab8010a8b2ae1712a85626faee95bc84c62b9835ecfe7406d"), looks := true }, kinds := [], alts := [], laidByText := true, laidKinds := [.data, .data, .data, .data, .data, .sentinel, .sentinel, .pinned], laidTests := true, laidLooks := .later }
def FnExactReadExpCardSaid : Prop := Claim7.holds Tryz.pinned (.plain (OpenSpec.ofChange fnExactReadExpSpec)) fnExactReadExpCard

/-- THE TIED CARD OF 'laws.FnExactShowProg'. -/
def fnExactShowProgCard : Claim7 := { stood := { row := fnExactShowProgRow, standIns := [], harness := (true, "ec543a5bdf284cfab8010a8b2ae1712a85626faee95bc84c62b9835ecfe7406d"), looks := true }, kinds := [], alts := [], laidByText := true, laidKinds := [.data, .data, .data, .data, .data], laidTests := true, laidLooks := .later }
def FnExactShowProgCardSaid : Prop := Claim7.holds Tryz.pinned (.plain (OpenSpec.ofChange fnExactShowProgSpec)) fnExactShowProgCard

/-- THE TIED CARD OF 'laws.FnExactReadProg'. -/
def fnExactReadProgCard : Claim7 := { stood := { row := fnExactReadProgRow, standIns := [], harness := (true, "ec543a5bdf284cfab8010a8b2ae1712a85626faee95bc84c62b9835ecfe7406d"), looks := true }, kinds := [], alts := [], laidByText := true, laidKinds := [.data, .data, .data, .data, .handle, .data, .data, .sentinel, .sentinel, .pinned], laidTests := true, laidLooks := .later }
def FnExactReadProgCardSaid : Prop := Claim7.holds Tryz.pinned (.plain (OpenSpec.ofChange fnExactReadProgSpec)) fnExactReadProgCard

/-- THE SECOND FORM's CARD OF 'laws.FnProgBack'. -/
def fnProgBackUptoCard : Claim7 := { stood := { row := fnProgBackUptoRow, standIns := [], harness := (true, "ec543a5bdf284cfab8010a8b2ae1712a85626faee95bc84c62b9835ecfe7406d"), looks := true }, kinds := [], alts := [], laidByText := true, laidKinds := [.data, .data, .data, .data, .handle, .data, .data, .sentinel, .sentinel, .pinned], laidTests := true, laidLooks := .later }
def FnProgBackUptoCardSaid : Prop := Claim7.holds Tryz.pinned (.plain (OpenSpec.upto fnProgBackSpec)) fnProgBackUptoCard

/-- THE SECOND FORM's CARD OF 'laws.FnExpBack'. -/
def fnExpBackUptoCard : Claim7 := { stood := { row := fnExpBackUptoRow, standIns := [], harness := (true, "ec543a5bdf284cfab8010a8b2ae1712a85626faee95bc84c62b9835ecfe7406d"), looks := true }, kinds := [], alts := [], laidByText := true, laidKinds := [.data, .data, .data, .data, .data, .sentinel, .sentinel, .pinned], laidTests := true, laidLooks := .later }
def FnExpBackUptoCardSaid : Prop := Claim7.holds Tryz.pinned (.plain (OpenSpec.upto fnExpBackSpec)) fnExpBackUptoCard

/-- THE SECOND FORM's CARD OF 'laws.FnExactShowExp'. -/
def fnExactShowExpUptoCard : Claim7 := { stood := { row := fnExactShowExpUptoRow, standIns := [], harness := (true, "ec543a5bdf284cfab8010a8b2ae1712a85626faee95bc84c62b9835ecfe7406d"), looks := true }, kinds := [], alts := [], laidByText := true, laidKinds := [.data, .data, .data, .data], laidTests := true, laidLooks := .later }
def FnExactShowExpUptoCardSaid : Prop := Claim7.holds Tryz.pinned (.plain (OpenSpec.upto fnExactShowExpSpec)) fnExactShowExpUptoCard

/-- THE SECOND FORM's CARD OF 'laws.FnExactReadExp'. -/
def fnExactReadExpUptoCard : Claim7 := { stood := { row := fnExactReadExpUptoRow, standIns := [], harness := (true, "ec543a5bdf284cfab8010a8b2ae1712a85626faee95bc84c62b9835ecfe7406d"), looks := true }, kinds := [], alts := [], laidByText := true, laidKinds := [.data, .data, .data, .data, .data, .sentinel, .sentinel, .pinned], laidTests := true, laidLooks := .later }
def FnExactReadExpUptoCardSaid : Prop := Claim7.holds Tryz.pinned (.plain (OpenSpec.upto fnExactReadExpSpec)) fnExactReadExpUptoCard

/-- THE SECOND FORM's CARD OF 'laws.FnExactShowProg'. -/
def fnExactShowProgUptoCard : Claim7 := { stood := { row := fnExactShowProgUptoRow, standIns := [], harness := (true, "ec543a5bdf284cfab8010a8b2ae1712a85626faee95bc84c62b9835ecfe7406d"), looks := true }, kinds := [], alts := [], laidByText := true, laidKinds := [.data, .data, .data, .data, .data], laidTests := true, laidLooks := .later }
def FnExactShowProgUptoCardSaid : Prop := Claim7.holds Tryz.pinned (.plain (OpenSpec.upto fnExactShowProgSpec)) fnExactShowProgUptoCard

/-- THE SECOND FORM's CARD OF 'laws.FnExactReadProg'. -/
def fnExactReadProgUptoCard : Claim7 := { stood := { row := fnExactReadProgUptoRow, standIns := [], harness := (true, "ec543a5bdf284cfab8010a8b2ae1712a85626faee95bc84c62b9835ecfe7406d"), looks := true }, kinds := [], alts := [], laidByText := true, laidKinds := [.data, .data, .data, .data, .handle, .data, .data, .sentinel, .sentinel, .pinned], laidTests := true, laidLooks := .later }
def FnExactReadProgUptoCardSaid : Prop := Claim7.holds Tryz.pinned (.plain (OpenSpec.upto fnExactReadProgSpec)) fnExactReadProgUptoCard
end Rows
end Go.Proofs.YtjboghmcmlkpoaaGreatDoor

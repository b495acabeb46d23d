/-
  DERIVED. GIVEN WITH THE SEED: THE CARDS: each row of YtdhnhgppapkikaaGreatDoorRows.lean that lists a variable, with what it lists TIED to the program's text (the seventh form; the later family's looks); each row that meets fmt, with fmt's text TOLD by the authors' own Lean function (tested against real Go, not proved from fmt's source: count such statements apart). THE CARD IS WHAT COUNTS. Prove the row's statement (the work); the ties are given (YtdhnhgppapkikaaGreatDoorTie.lean); close each card by the builder's one call (the guide's Derived/Test/ToyasCard.lean, 'card_holds'). Laid BY PROGRAM, IN A SANDBOX (cutbox-door.mjs). By AI agents, Wed Nov 11 2026. No macro, syntax, notation, axiom, sorry.
-/
import Derived.Test.YtdhnhgppapkikaaGreatDoorRows
import GoSem.ClaimSeven
namespace Go.Proofs.YtdhnhgppapkikaaGreatDoor
namespace Rows

/-- THE TIED CARD OF 'laws.FnPins'. -/
def fnPinsCard : Claim7 := { stood := { row := fnPinsRow, standIns := [], harness := (true, "be314c19c9990ca89470695043433339eef36e87d81dc8aa92bf9764d1aa6919"), looks := true }, kinds := [], alts := [], laidByText := true, laidKinds := [.handle], laidTests := true, laidLooks := .later }
def FnPinsCardSaid : Prop := Claim7.holds Tryz.pinned (.plain (OpenSpec.ofChange fnPinsSpec)) fnPinsCard

/-- THE TIED CARD OF 'laws.FnExactPinOf'. -/
def fnExactPinOfCard : Claim7 := { stood := { row := fnExactPinOfRow, standIns := [], harness := (true, "be314c19c9990ca89470695043433339eef36e87d81dc8aa92bf9764d1aa6919"), looks := true }, kinds := [], alts := [], laidByText := true, laidKinds := [.handle], laidTests := true, laidLooks := .later }
def FnExactPinOfCardSaid : Prop := Claim7.holds Tryz.pinned (.plain (OpenSpec.ofChange fnExactPinOfSpec)) fnExactPinOfCard

/-- THE TIED CARD OF 'laws.FnExactUnpinOf'. -/
def fnExactUnpinOfCard : Claim7 := { stood := { row := fnExactUnpinOfRow, standIns := [], harness := (true, "be314c19c9990ca89470695043433339eef36e87d81dc8aa92bf9764d1aa6919"), looks := true }, kinds := [], alts := [], laidByText := true, laidKinds := [.handle], laidTests := true, laidLooks := .later }
def FnExactUnpinOfCardSaid : Prop := Claim7.holds Tryz.pinned (.plain (OpenSpec.ofChange fnExactUnpinOfSpec)) fnExactUnpinOfCard

/-- THE SECOND FORM's CARD OF 'laws.FnPins'. -/
def fnPinsUptoCard : Claim7 := { stood := { row := fnPinsUptoRow, standIns := [], harness := (true, "be314c19c9990ca89470695043433339eef36e87d81dc8aa92bf9764d1aa6919"), looks := true }, kinds := [], alts := [], laidByText := true, laidKinds := [.handle], laidTests := true, laidLooks := .later }
def FnPinsUptoCardSaid : Prop := Claim7.holds Tryz.pinned (.plain (OpenSpec.upto fnPinsSpec)) fnPinsUptoCard

/-- THE SECOND FORM's CARD OF 'laws.FnExactPinOf'. -/
def fnExactPinOfUptoCard : Claim7 := { stood := { row := fnExactPinOfUptoRow, standIns := [], harness := (true, "be314c19c9990ca89470695043433339eef36e87d81dc8aa92bf9764d1aa6919"), looks := true }, kinds := [], alts := [], laidByText := true, laidKinds := [.handle], laidTests := true, laidLooks := .later }
def FnExactPinOfUptoCardSaid : Prop := Claim7.holds Tryz.pinned (.plain (OpenSpec.upto fnExactPinOfSpec)) fnExactPinOfUptoCard

/-- THE SECOND FORM's CARD OF 'laws.FnExactUnpinOf'. -/
def fnExactUnpinOfUptoCard : Claim7 := { stood := { row := fnExactUnpinOfUptoRow, standIns := [], harness := (true, "be314c19c9990ca89470695043433339eef36e87d81dc8aa92bf9764d1aa6919"), looks := true }, kinds := [], alts := [], laidByText := true, laidKinds := [.handle], laidTests := true, laidLooks := .later }
def FnExactUnpinOfUptoCardSaid : Prop := Claim7.holds Tryz.pinned (.plain (OpenSpec.upto fnExactUnpinOfSpec)) fnExactUnpinOfUptoCard
end Rows
end Go.Proofs.YtdhnhgppapkikaaGreatDoor

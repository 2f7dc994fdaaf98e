/-
  DERIVED. GIVEN WITH THE SEED: THE CARDS: each row of YtbinmkigolkhcaaDoorRows.lean that lists a variable, with what it lists TIED to the program's text (the seventh form; the later family's looks); each row that meets fmt, with fmt's text TOLD by the authors' own Lean function (tested against real Go, not proved from fmt's source: count such statements apart). THE CARD IS WHAT COUNTS. Prove the row's statement (the work); the ties are given (YtbinmkigolkhcaaDoorTie.lean); close each card by the builder's one call (the guide's Derived/Test/ToyasCard.lean, 'card_holds'). Laid BY PROGRAM, IN A SANDBOX (cutbox-door.mjs). By AI agents, Wed Nov 11 2026. No macro, syntax, notation, axiom, sorry.
-/
import Derived.Test.YtbinmkigolkhcaaDoorRows
import GoSem.ClaimSeven
namespace Go.Proofs.YtbinmkigolkhcaaDoor
namespace Rows

/-- THE TIED CARD OF 'kimberlitelaw07.ProofHashes'. -/
def proofHashesCard : Claim7 := { stood := { row := proofHashesRow, standIns := [], harness := (true, "05396d5674170714a5f9dc24e5637f2bf583603d2f9fdb5282903cf869a64653"), looks := false }, kinds := [], alts := [], laidByText := true, laidKinds := [.data, .data], laidTests := true, laidLooks := .later }
def ProofHashesCardSaid : Prop := Claim7.holds Tryd.pinned (.plain (OpenSpec.ofChange proofHashesSpec)) proofHashesCard

/-- THE TIED CARD OF 'kimberlitelaw07.ProofMakes'. -/
def proofMakesCard : Claim7 := { stood := { row := proofMakesRow, standIns := [], harness := (true, "05396d5674170714a5f9dc24e5637f2bf583603d2f9fdb5282903cf869a64653"), looks := false }, kinds := [], alts := [], laidByText := true, laidKinds := [.data, .data], laidTests := true, laidLooks := .later }
def ProofMakesCardSaid : Prop := Claim7.holds Tryd.pinned (.plain (OpenSpec.ofChange proofMakesSpec)) proofMakesCard

/-- THE TIED CARD OF 'kimberlitelaw07.ProofJudges'. -/
def proofJudgesCard : Claim7 := { stood := { row := proofJudgesRow, standIns := [], harness := (true, "05396d5674170714a5f9dc24e5637f2bf583603d2f9fdb5282903cf869a64653"), looks := false }, kinds := [], alts := [], laidByText := true, laidKinds := [.data, .data], laidTests := true, laidLooks := .later }
def ProofJudgesCardSaid : Prop := Claim7.holds Tryd.pinned (.plain (OpenSpec.ofChange proofJudgesSpec)) proofJudgesCard

/-- THE TIED CARD OF 'kimberlitelaw07.ProofAccuses'. -/
def proofAccusesCard : Claim7 := { stood := { row := proofAccusesRow, standIns := [], harness := (true, "05396d5674170714a5f9dc24e5637f2bf583603d2f9fdb5282903cf869a64653"), looks := false }, kinds := [], alts := [], laidByText := true, laidKinds := [.data, .data], laidTests := true, laidLooks := .later }
def ProofAccusesCardSaid : Prop := Claim7.holds Tryd.pinned (.plain (OpenSpec.ofChange proofAccusesSpec)) proofAccusesCard

/-- THE TIED CARD OF 'kimberlitelaw07.ProofLogs'. -/
def proofLogsCard : Claim7 := { stood := { row := proofLogsRow, standIns := [], harness := (true, "05396d5674170714a5f9dc24e5637f2bf583603d2f9fdb5282903cf869a64653"), looks := false }, kinds := [], alts := [], laidByText := true, laidKinds := [.data, .data], laidTests := true, laidLooks := .later }
def ProofLogsCardSaid : Prop := Claim7.holds Tryd.pinned (.plain (OpenSpec.ofChange proofLogsSpec)) proofLogsCard

/-- THE TIED CARD OF 'kimberlitelaw07.ProofNobody'. -/
def proofNobodyCard : Claim7 := { stood := { row := proofNobodyRow, standIns := [], harness := (true, "05396d5674170714a5f9dc24e5637f2bf583603d2f9fdb5282903cf869a64653"), looks := false }, kinds := [], alts := [], laidByText := true, laidKinds := [.data, .data], laidTests := true, laidLooks := .later }
def ProofNobodyCardSaid : Prop := Claim7.holds Tryd.pinned (.plain (OpenSpec.ofChange proofNobodySpec)) proofNobodyCard

/-- THE TIED CARD OF 'kimberlitelaw07.ProofComplete'. -/
def proofCompleteCard : Claim7 := { stood := { row := proofCompleteRow, standIns := [], harness := (true, "05396d5674170714a5f9dc24e5637f2bf583603d2f9fdb5282903cf869a64653"), looks := false }, kinds := [], alts := [], laidByText := true, laidKinds := [.data, .data], laidTests := true, laidLooks := .later }
def ProofCompleteCardSaid : Prop := Claim7.holds Tryd.pinned (.plain (OpenSpec.ofChange proofCompleteSpec)) proofCompleteCard

/-- THE TIED CARD OF 'kimberlitelaw07.ProofBinds'. -/
def proofBindsCard : Claim7 := { stood := { row := proofBindsRow, standIns := [], harness := (true, "05396d5674170714a5f9dc24e5637f2bf583603d2f9fdb5282903cf869a64653"), looks := false }, kinds := [], alts := [], laidByText := true, laidKinds := [.data, .data], laidTests := true, laidLooks := .later }
def ProofBindsCardSaid : Prop := Claim7.holds Tryd.pinned (.plain (OpenSpec.ofChange proofBindsSpec)) proofBindsCard

/-- THE TIED CARD OF 'kimberlitelaw07.ProofBlames'. -/
def proofBlamesCard : Claim7 := { stood := { row := proofBlamesRow, standIns := [], harness := (true, "05396d5674170714a5f9dc24e5637f2bf583603d2f9fdb5282903cf869a64653"), looks := false }, kinds := [], alts := [], laidByText := true, laidKinds := [.data, .data], laidTests := true, laidLooks := .later }
def ProofBlamesCardSaid : Prop := Claim7.holds Tryd.pinned (.plain (OpenSpec.ofChange proofBlamesSpec)) proofBlamesCard

/-- THE TIED CARD OF 'kimberlitelaw07.ProofGrows'. -/
def proofGrowsCard : Claim7 := { stood := { row := proofGrowsRow, standIns := [], harness := (true, "05396d5674170714a5f9dc24e5637f2bf583603d2f9fdb5282903cf869a64653"), looks := false }, kinds := [], alts := [], laidByText := true, laidKinds := [.data, .data], laidTests := true, laidLooks := .later }
def ProofGrowsCardSaid : Prop := Claim7.holds Tryd.pinned (.plain (OpenSpec.ofChange proofGrowsSpec)) proofGrowsCard

/-- THE TIED CARD OF 'kimberlitelaw07.ProofShort'. -/
def proofShortCard : Claim7 := { stood := { row := proofShortRow, standIns := [], harness := (true, "05396d5674170714a5f9dc24e5637f2bf583603d2f9fdb5282903cf869a64653"), looks := false }, kinds := [], alts := [], laidByText := true, laidKinds := [.data, .data], laidTests := true, laidLooks := .later }
def ProofShortCardSaid : Prop := Claim7.holds Tryd.pinned (.plain (OpenSpec.ofChange proofShortSpec)) proofShortCard

/-- THE TIED CARD OF 'kimberlitelaw07.ProofOrder'. -/
def proofOrderCard : Claim7 := { stood := { row := proofOrderRow, standIns := [], harness := (true, "05396d5674170714a5f9dc24e5637f2bf583603d2f9fdb5282903cf869a64653"), looks := false }, kinds := [], alts := [], laidByText := true, laidKinds := [.data, .data], laidTests := true, laidLooks := .later }
def ProofOrderCardSaid : Prop := Claim7.holds Tryd.pinned (.plain (OpenSpec.ofChange proofOrderSpec)) proofOrderCard

/-- THE TIED CARD OF 'kimberlitelaw07.ProofFull'. -/
def proofFullCard : Claim7 := { stood := { row := proofFullRow, standIns := [], harness := (true, "05396d5674170714a5f9dc24e5637f2bf583603d2f9fdb5282903cf869a64653"), looks := false }, kinds := [], alts := [], laidByText := true, laidKinds := [.data, .data], laidTests := true, laidLooks := .later }
def ProofFullCardSaid : Prop := Claim7.holds Tryd.pinned (.plain (OpenSpec.ofChange proofFullSpec)) proofFullCard

/-- THE SECOND FORM's CARD OF 'kimberlitelaw07.ProofHashes'. -/
def proofHashesUptoCard : Claim7 := { stood := { row := proofHashesUptoRow, standIns := [], harness := (true, "05396d5674170714a5f9dc24e5637f2bf583603d2f9fdb5282903cf869a64653"), looks := false }, kinds := [], alts := [], laidByText := true, laidKinds := [.data, .data], laidTests := true, laidLooks := .later }
def ProofHashesUptoCardSaid : Prop := Claim7.holds Tryd.pinned (.plain (OpenSpec.upto proofHashesSpec)) proofHashesUptoCard

/-- THE SECOND FORM's CARD OF 'kimberlitelaw07.ProofMakes'. -/
def proofMakesUptoCard : Claim7 := { stood := { row := proofMakesUptoRow, standIns := [], harness := (true, "05396d5674170714a5f9dc24e5637f2bf583603d2f9fdb5282903cf869a64653"), looks := false }, kinds := [], alts := [], laidByText := true, laidKinds := [.data, .data], laidTests := true, laidLooks := .later }
def ProofMakesUptoCardSaid : Prop := Claim7.holds Tryd.pinned (.plain (OpenSpec.upto proofMakesSpec)) proofMakesUptoCard

/-- THE SECOND FORM's CARD OF 'kimberlitelaw07.ProofJudges'. -/
def proofJudgesUptoCard : Claim7 := { stood := { row := proofJudgesUptoRow, standIns := [], harness := (true, "05396d5674170714a5f9dc24e5637f2bf583603d2f9fdb5282903cf869a64653"), looks := false }, kinds := [], alts := [], laidByText := true, laidKinds := [.data, .data], laidTests := true, laidLooks := .later }
def ProofJudgesUptoCardSaid : Prop := Claim7.holds Tryd.pinned (.plain (OpenSpec.upto proofJudgesSpec)) proofJudgesUptoCard

/-- THE SECOND FORM's CARD OF 'kimberlitelaw07.ProofAccuses'. -/
def proofAccusesUptoCard : Claim7 := { stood := { row := proofAccusesUptoRow, standIns := [], harness := (true, "05396d5674170714a5f9dc24e5637f2bf583603d2f9fdb5282903cf869a64653"), looks := false }, kinds := [], alts := [], laidByText := true, laidKinds := [.data, .data], laidTests := true, laidLooks := .later }
def ProofAccusesUptoCardSaid : Prop := Claim7.holds Tryd.pinned (.plain (OpenSpec.upto proofAccusesSpec)) proofAccusesUptoCard

/-- THE SECOND FORM's CARD OF 'kimberlitelaw07.ProofLogs'. -/
def proofLogsUptoCard : Claim7 := { stood := { row := proofLogsUptoRow, standIns := [], harness := (true, "05396d5674170714a5f9dc24e5637f2bf583603d2f9fdb5282903cf869a64653"), looks := false }, kinds := [], alts := [], laidByText := true, laidKinds := [.data, .data], laidTests := true, laidLooks := .later }
def ProofLogsUptoCardSaid : Prop := Claim7.holds Tryd.pinned (.plain (OpenSpec.upto proofLogsSpec)) proofLogsUptoCard

/-- THE SECOND FORM's CARD OF 'kimberlitelaw07.ProofNobody'. -/
def proofNobodyUptoCard : Claim7 := { stood := { row := proofNobodyUptoRow, standIns := [], harness := (true, "05396d5674170714a5f9dc24e5637f2bf583603d2f9fdb5282903cf869a64653"), looks := false }, kinds := [], alts := [], laidByText := true, laidKinds := [.data, .data], laidTests := true, laidLooks := .later }
def ProofNobodyUptoCardSaid : Prop := Claim7.holds Tryd.pinned (.plain (OpenSpec.upto proofNobodySpec)) proofNobodyUptoCard

/-- THE SECOND FORM's CARD OF 'kimberlitelaw07.ProofComplete'. -/
def proofCompleteUptoCard : Claim7 := { stood := { row := proofCompleteUptoRow, standIns := [], harness := (true, "05396d5674170714a5f9dc24e5637f2bf583603d2f9fdb5282903cf869a64653"), looks := false }, kinds := [], alts := [], laidByText := true, laidKinds := [.data, .data], laidTests := true, laidLooks := .later }
def ProofCompleteUptoCardSaid : Prop := Claim7.holds Tryd.pinned (.plain (OpenSpec.upto proofCompleteSpec)) proofCompleteUptoCard

/-- THE SECOND FORM's CARD OF 'kimberlitelaw07.ProofBinds'. -/
def proofBindsUptoCard : Claim7 := { stood := { row := proofBindsUptoRow, standIns := [], harness := (true, "05396d5674170714a5f9dc24e5637f2bf583603d2f9fdb5282903cf869a64653"), looks := false }, kinds := [], alts := [], laidByText := true, laidKinds := [.data, .data], laidTests := true, laidLooks := .later }
def ProofBindsUptoCardSaid : Prop := Claim7.holds Tryd.pinned (.plain (OpenSpec.upto proofBindsSpec)) proofBindsUptoCard

/-- THE SECOND FORM's CARD OF 'kimberlitelaw07.ProofBlames'. -/
def proofBlamesUptoCard : Claim7 := { stood := { row := proofBlamesUptoRow, standIns := [], harness := (true, "05396d5674170714a5f9dc24e5637f2bf583603d2f9fdb5282903cf869a64653"), looks := false }, kinds := [], alts := [], laidByText := true, laidKinds := [.data, .data], laidTests := true, laidLooks := .later }
def ProofBlamesUptoCardSaid : Prop := Claim7.holds Tryd.pinned (.plain (OpenSpec.upto proofBlamesSpec)) proofBlamesUptoCard

/-- THE SECOND FORM's CARD OF 'kimberlitelaw07.ProofGrows'. -/
def proofGrowsUptoCard : Claim7 := { stood := { row := proofGrowsUptoRow, standIns := [], harness := (true, "05396d5674170714a5f9dc24e5637f2bf583603d2f9fdb5282903cf869a64653"), looks := false }, kinds := [], alts := [], laidByText := true, laidKinds := [.data, .data], laidTests := true, laidLooks := .later }
def ProofGrowsUptoCardSaid : Prop := Claim7.holds Tryd.pinned (.plain (OpenSpec.upto proofGrowsSpec)) proofGrowsUptoCard

/-- THE SECOND FORM's CARD OF 'kimberlitelaw07.ProofShort'. -/
def proofShortUptoCard : Claim7 := { stood := { row := proofShortUptoRow, standIns := [], harness := (true, "05396d5674170714a5f9dc24e5637f2bf583603d2f9fdb5282903cf869a64653"), looks := false }, kinds := [], alts := [], laidByText := true, laidKinds := [.data, .data], laidTests := true, laidLooks := .later }
def ProofShortUptoCardSaid : Prop := Claim7.holds Tryd.pinned (.plain (OpenSpec.upto proofShortSpec)) proofShortUptoCard

/-- THE SECOND FORM's CARD OF 'kimberlitelaw07.ProofOrder'. -/
def proofOrderUptoCard : Claim7 := { stood := { row := proofOrderUptoRow, standIns := [], harness := (true, "05396d5674170714a5f9dc24e5637f2bf583603d2f9fdb5282903cf869a64653"), looks := false }, kinds := [], alts := [], laidByText := true, laidKinds := [.data, .data], laidTests := true, laidLooks := .later }
def ProofOrderUptoCardSaid : Prop := Claim7.holds Tryd.pinned (.plain (OpenSpec.upto proofOrderSpec)) proofOrderUptoCard

/-- THE SECOND FORM's CARD OF 'kimberlitelaw07.ProofFull'. -/
def proofFullUptoCard : Claim7 := { stood := { row := proofFullUptoRow, standIns := [], harness := (true, "05396d5674170714a5f9dc24e5637f2bf583603d2f9fdb5282903cf869a64653"), looks := false }, kinds := [], alts := [], laidByText := true, laidKinds := [.data, .data], laidTests := true, laidLooks := .later }
def ProofFullUptoCardSaid : Prop := Claim7.holds Tryd.pinned (.plain (OpenSpec.upto proofFullSpec)) proofFullUptoCard
end Rows
end Go.Proofs.YtbinmkigolkhcaaDoor

/-
  DERIVED. GIVEN WITH THE SEED: THE CARDS: each row of YtmecbppblbmchaaGreatDoorRows.lean that lists a variable, with what it lists TIED to the program's text (the seventh form; the later family's looks); each row that meets fmt, with fmt's text TOLD by the authors' own Lean function (tested against real Go, not proved from fmt's source: count such statements apart). THE CARD IS WHAT COUNTS. Prove the row's statement (the work); the ties are given (YtmecbppblbmchaaGreatDoorTie.lean); close each card by the builder's one call (the guide's Derived/Test/ToyasCard.lean, 'card_holds'). Laid BY PROGRAM, IN A SANDBOX (cutbox-door.mjs). By AI agents, Wed Nov 11 2026. No macro, syntax, notation, axiom, sorry.
-/
import Derived.Test.YtmecbppblbmchaaGreatDoorRows
import GoSem.ClaimSeven
namespace Go.Proofs.YtmecbppblbmchaaGreatDoor
namespace Rows

/-- THE TIED CARD OF 'laws.FnExactBegin'. -/
def fnExactBeginCard : Claim7 := { stood := { row := fnExactBeginRow, standIns := [], harness := (true, "16bbb8f8f4b840752c4bacd6aeed18ef8d9a8d8892ae63030fad336b7b91feaf"), looks := true }, kinds := [], alts := [], laidByText := true, laidKinds := [.handle], laidTests := true, laidLooks := .later }
def FnExactBeginCardSaid : Prop := Claim7.holds Tryz.pinned (.plain (OpenSpec.ofChange fnExactBeginSpec)) fnExactBeginCard

/-- THE TIED CARD OF 'laws.FnExactTxRead'. -/
def fnExactTxReadCard : Claim7 := { stood := { row := fnExactTxReadRow, standIns := [], harness := (true, "16bbb8f8f4b840752c4bacd6aeed18ef8d9a8d8892ae63030fad336b7b91feaf"), looks := true }, kinds := [], alts := [], laidByText := true, laidKinds := [.handle], laidTests := true, laidLooks := .later }
def FnExactTxReadCardSaid : Prop := Claim7.holds Tryz.pinned (.plain (OpenSpec.ofChange fnExactTxReadSpec)) fnExactTxReadCard

/-- THE TIED CARD OF 'laws.FnExactTxWrite'. -/
def fnExactTxWriteCard : Claim7 := { stood := { row := fnExactTxWriteRow, standIns := [], harness := (true, "16bbb8f8f4b840752c4bacd6aeed18ef8d9a8d8892ae63030fad336b7b91feaf"), looks := true }, kinds := [], alts := [], laidByText := true, laidKinds := [.handle], laidTests := true, laidLooks := .later }
def FnExactTxWriteCardSaid : Prop := Claim7.holds Tryz.pinned (.plain (OpenSpec.ofChange fnExactTxWriteSpec)) fnExactTxWriteCard

/-- THE TIED CARD OF 'laws.FnExactCommit'. -/
def fnExactCommitCard : Claim7 := { stood := { row := fnExactCommitRow, standIns := [], harness := (true, "16bbb8f8f4b840752c4bacd6aeed18ef8d9a8d8892ae63030fad336b7b91feaf"), looks := true }, kinds := [], alts := [], laidByText := true, laidKinds := [.handle], laidTests := true, laidLooks := .later }
def FnExactCommitCardSaid : Prop := Claim7.holds Tryz.pinned (.plain (OpenSpec.ofChange fnExactCommitSpec)) fnExactCommitCard

/-- THE TIED CARD OF 'laws.FnExactAbortTx'. -/
def fnExactAbortTxCard : Claim7 := { stood := { row := fnExactAbortTxRow, standIns := [], harness := (true, "16bbb8f8f4b840752c4bacd6aeed18ef8d9a8d8892ae63030fad336b7b91feaf"), looks := true }, kinds := [], alts := [], laidByText := true, laidKinds := [.handle], laidTests := true, laidLooks := .later }
def FnExactAbortTxCardSaid : Prop := Claim7.holds Tryz.pinned (.plain (OpenSpec.ofChange fnExactAbortTxSpec)) fnExactAbortTxCard

/-- THE SECOND FORM's CARD OF 'laws.FnExactBegin'. -/
def fnExactBeginUptoCard : Claim7 := { stood := { row := fnExactBeginUptoRow, standIns := [], harness := (true, "16bbb8f8f4b840752c4bacd6aeed18ef8d9a8d8892ae63030fad336b7b91feaf"), looks := true }, kinds := [], alts := [], laidByText := true, laidKinds := [.handle], laidTests := true, laidLooks := .later }
def FnExactBeginUptoCardSaid : Prop := Claim7.holds Tryz.pinned (.plain (OpenSpec.upto fnExactBeginSpec)) fnExactBeginUptoCard

/-- THE SECOND FORM's CARD OF 'laws.FnExactTxRead'. -/
def fnExactTxReadUptoCard : Claim7 := { stood := { row := fnExactTxReadUptoRow, standIns := [], harness := (true, "16bbb8f8f4b840752c4bacd6aeed18ef8d9a8d8892ae63030fad336b7b91feaf"), looks := true }, kinds := [], alts := [], laidByText := true, laidKinds := [.handle], laidTests := true, laidLooks := .later }
def FnExactTxReadUptoCardSaid : Prop := Claim7.holds Tryz.pinned (.plain (OpenSpec.upto fnExactTxReadSpec)) fnExactTxReadUptoCard

/-- THE SECOND FORM's CARD OF 'laws.FnExactTxWrite'. -/
def fnExactTxWriteUptoCard : Claim7 := { stood := { row := fnExactTxWriteUptoRow, standIns := [], harness := (true, "16bbb8f8f4b840752c4bacd6aeed18ef8d9a8d8892ae63030fad336b7b91feaf"), looks := true }, kinds := [], alts := [], laidByText := true, laidKinds := [.handle], laidTests := true, laidLooks := .later }
def FnExactTxWriteUptoCardSaid : Prop := Claim7.holds Tryz.pinned (.plain (OpenSpec.upto fnExactTxWriteSpec)) fnExactTxWriteUptoCard

/-- THE SECOND FORM's CARD OF 'laws.FnExactCommit'. -/
def fnExactCommitUptoCard : Claim7 := { stood := { row := fnExactCommitUptoRow, standIns := [], harness := (true, "16bbb8f8f4b840752c4bacd6aeed18ef8d9a8d8892ae63030fad336b7b91feaf"), looks := true }, kinds := [], alts := [], laidByText := true, laidKinds := [.handle], laidTests := true, laidLooks := .later }
def FnExactCommitUptoCardSaid : Prop := Claim7.holds Tryz.pinned (.plain (OpenSpec.upto fnExactCommitSpec)) fnExactCommitUptoCard

/-- THE SECOND FORM's CARD OF 'laws.FnExactAbortTx'. -/
def fnExactAbortTxUptoCard : Claim7 := { stood := { row := fnExactAbortTxUptoRow, standIns := [], harness := (true, "16bbb8f8f4b840752c4bacd6aeed18ef8d9a8d8892ae63030fad336b7b91feaf"), looks := true }, kinds := [], alts := [], laidByText := true, laidKinds := [.handle], laidTests := true, laidLooks := .later }
def FnExactAbortTxUptoCardSaid : Prop := Claim7.holds Tryz.pinned (.plain (OpenSpec.upto fnExactAbortTxSpec)) fnExactAbortTxUptoCard
end Rows
end Go.Proofs.YtmecbppblbmchaaGreatDoor

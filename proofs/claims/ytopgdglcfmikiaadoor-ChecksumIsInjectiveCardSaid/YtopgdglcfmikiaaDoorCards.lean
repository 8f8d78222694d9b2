/-
  DERIVED. GIVEN WITH THE SEED: THE CARDS: each row of YtopgdglcfmikiaaDoorRows.lean that lists a variable, with what it lists TIED to the program's text (the seventh form; the later family's looks); each row that meets fmt, with fmt's text TOLD by the authors' own Lean function (tested against real Go, not proved from fmt's source: count such statements apart). THE CARD IS WHAT COUNTS. Prove the row's statement (the work); the ties are given (YtopgdglcfmikiaaDoorTie.lean); close each card by the builder's one call (the guide's Derived/Test/ToyasCard.lean, 'card_holds'). Laid BY PROGRAM, IN A SANDBOX (cutbox-door.mjs). By AI agents, Wed Nov 11 2026. No macro, syntax, notation, axiom, sorry.
-/
import Derived.Test.YtopgdglcfmikiaaDoorRows
import GoSem.ClaimSeven
namespace Go.Proofs.YtopgdglcfmikiaaDoor
namespace Rows

/-- THE TIED CARD OF 'samaritanlaw04.ChecksumSums'. -/
def checksumSumsCard : Claim7 := { stood := { row := checksumSumsRow, standIns := [], harness := (true, "cc1fd3a563d53d79da6f23c0cbb6197404069777bcc8557c8d1f11e1e8228a42"), looks := true }, kinds := [], alts := [], laidByText := true, laidKinds := [.data, .data, .data, .sentinel, .sentinel], laidTests := true, laidLooks := .later }
def ChecksumSumsCardSaid : Prop := Claim7.holds Tryd.pinned (.plain (OpenSpec.ofChange checksumSumsSpec)) checksumSumsCard

/-- THE TIED CARD OF 'samaritanlaw04.ChecksumChains'. -/
def checksumChainsCard : Claim7 := { stood := { row := checksumChainsRow, standIns := [], harness := (true, "cc1fd3a563d53d79da6f23c0cbb6197404069777bcc8557c8d1f11e1e8228a42"), looks := true }, kinds := [], alts := [], laidByText := true, laidKinds := [.data, .data, .data, .sentinel, .sentinel], laidTests := true, laidLooks := .later }
def ChecksumChainsCardSaid : Prop := Claim7.holds Tryd.pinned (.plain (OpenSpec.ofChange checksumChainsSpec)) checksumChainsCard

/-- THE TIED CARD OF 'samaritanlaw04.ChecksumFormats'. -/
def checksumFormatsCard : Claim7 := { stood := { row := checksumFormatsRow, standIns := [], harness := (true, "cc1fd3a563d53d79da6f23c0cbb6197404069777bcc8557c8d1f11e1e8228a42"), looks := true }, kinds := [], alts := [], laidByText := true, laidKinds := [.data, .data, .data, .sentinel, .sentinel], laidTests := true, laidLooks := .later }
def ChecksumFormatsCardSaid : Prop := Claim7.holds Tryd.pinned (.plain (OpenSpec.ofChange checksumFormatsSpec)) checksumFormatsCard

/-- THE TIED CARD OF 'samaritanlaw04.ChecksumConcatenates'. -/
def checksumConcatenatesCard : Claim7 := { stood := { row := checksumConcatenatesRow, standIns := [], harness := (true, "cc1fd3a563d53d79da6f23c0cbb6197404069777bcc8557c8d1f11e1e8228a42"), looks := true }, kinds := [], alts := [], laidByText := true, laidKinds := [.data, .data, .data, .sentinel, .sentinel], laidTests := true, laidLooks := .later }
def ChecksumConcatenatesCardSaid : Prop := Claim7.holds Tryd.pinned (.plain (OpenSpec.ofChange checksumConcatenatesSpec)) checksumConcatenatesCard

/-- THE TIED CARD OF 'samaritanlaw04.ChecksumDetectsChange'. -/
def checksumDetectsChangeCard : Claim7 := { stood := { row := checksumDetectsChangeRow, standIns := [], harness := (true, "cc1fd3a563d53d79da6f23c0cbb6197404069777bcc8557c8d1f11e1e8228a42"), looks := true }, kinds := [], alts := [], laidByText := true, laidKinds := [.data, .data, .data, .sentinel, .sentinel], laidTests := true, laidLooks := .later }
def ChecksumDetectsChangeCardSaid : Prop := Claim7.holds Tryd.pinned (.plain (OpenSpec.ofChange checksumDetectsChangeSpec)) checksumDetectsChangeCard

/-- THE TIED CARD OF 'samaritanlaw04.ChecksumIsInjective'. -/
def checksumIsInjectiveCard : Claim7 := { stood := { row := checksumIsInjectiveRow, standIns := [], harness := (true, "cc1fd3a563d53d79da6f23c0cbb6197404069777bcc8557c8d1f11e1e8228a42"), looks := true }, kinds := [], alts := [], laidByText := true, laidKinds := [.data, .data, .data, .sentinel, .sentinel], laidTests := true, laidLooks := .later }
def ChecksumIsInjectiveCardSaid : Prop := Claim7.holds Tryd.pinned (.plain (OpenSpec.ofChange checksumIsInjectiveSpec)) checksumIsInjectiveCard

/-- THE SECOND FORM's CARD OF 'samaritanlaw04.ChecksumSums'. -/
def checksumSumsUptoCard : Claim7 := { stood := { row := checksumSumsUptoRow, standIns := [], harness := (true, "cc1fd3a563d53d79da6f23c0cbb6197404069777bcc8557c8d1f11e1e8228a42"), looks := true }, kinds := [], alts := [], laidByText := true, laidKinds := [.data, .data, .data, .sentinel, .sentinel], laidTests := true, laidLooks := .later }
def ChecksumSumsUptoCardSaid : Prop := Claim7.holds Tryd.pinned (.plain (OpenSpec.upto checksumSumsSpec)) checksumSumsUptoCard

/-- THE SECOND FORM's CARD OF 'samaritanlaw04.ChecksumChains'. -/
def checksumChainsUptoCard : Claim7 := { stood := { row := checksumChainsUptoRow, standIns := [], harness := (true, "cc1fd3a563d53d79da6f23c0cbb6197404069777bcc8557c8d1f11e1e8228a42"), looks := true }, kinds := [], alts := [], laidByText := true, laidKinds := [.data, .data, .data, .sentinel, .sentinel], laidTests := true, laidLooks := .later }
def ChecksumChainsUptoCardSaid : Prop := Claim7.holds Tryd.pinned (.plain (OpenSpec.upto checksumChainsSpec)) checksumChainsUptoCard

/-- THE SECOND FORM's CARD OF 'samaritanlaw04.ChecksumFormats'. -/
def checksumFormatsUptoCard : Claim7 := { stood := { row := checksumFormatsUptoRow, standIns := [], harness := (true, "cc1fd3a563d53d79da6f23c0cbb6197404069777bcc8557c8d1f11e1e8228a42"), looks := true }, kinds := [], alts := [], laidByText := true, laidKinds := [.data, .data, .data, .sentinel, .sentinel], laidTests := true, laidLooks := .later }
def ChecksumFormatsUptoCardSaid : Prop := Claim7.holds Tryd.pinned (.plain (OpenSpec.upto checksumFormatsSpec)) checksumFormatsUptoCard

/-- THE SECOND FORM's CARD OF 'samaritanlaw04.ChecksumConcatenates'. -/
def checksumConcatenatesUptoCard : Claim7 := { stood := { row := checksumConcatenatesUptoRow, standIns := [], harness := (true, "cc1fd3a563d53d79da6f23c0cbb6197404069777bcc8557c8d1f11e1e8228a42"), looks := true }, kinds := [], alts := [], laidByText := true, laidKinds := [.data, .data, .data, .sentinel, .sentinel], laidTests := true, laidLooks := .later }
def ChecksumConcatenatesUptoCardSaid : Prop := Claim7.holds Tryd.pinned (.plain (OpenSpec.upto checksumConcatenatesSpec)) checksumConcatenatesUptoCard

/-- THE SECOND FORM's CARD OF 'samaritanlaw04.ChecksumDetectsChange'. -/
def checksumDetectsChangeUptoCard : Claim7 := { stood := { row := checksumDetectsChangeUptoRow, standIns := [], harness := (true, "cc1fd3a563d53d79da6f23c0cbb6197404069777bcc8557c8d1f11e1e8228a42"), looks := true }, kinds := [], alts := [], laidByText := true, laidKinds := [.data, .data, .data, .sentinel, .sentinel], laidTests := true, laidLooks := .later }
def ChecksumDetectsChangeUptoCardSaid : Prop := Claim7.holds Tryd.pinned (.plain (OpenSpec.upto checksumDetectsChangeSpec)) checksumDetectsChangeUptoCard

/-- THE SECOND FORM's CARD OF 'samaritanlaw04.ChecksumIsInjective'. -/
def checksumIsInjectiveUptoCard : Claim7 := { stood := { row := checksumIsInjectiveUptoRow, standIns := [], harness := (true, "cc1fd3a563d53d79da6f23c0cbb6197404069777bcc8557c8d1f11e1e8228a42"), looks := true }, kinds := [], alts := [], laidByText := true, laidKinds := [.data, .data, .data, .sentinel, .sentinel], laidTests := true, laidLooks := .later }
def ChecksumIsInjectiveUptoCardSaid : Prop := Claim7.holds Tryd.pinned (.plain (OpenSpec.upto checksumIsInjectiveSpec)) checksumIsInjectiveUptoCard
end Rows
end Go.Proofs.YtopgdglcfmikiaaDoor

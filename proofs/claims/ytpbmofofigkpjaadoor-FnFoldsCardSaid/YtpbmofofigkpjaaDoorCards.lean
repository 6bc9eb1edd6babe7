/-
  DERIVED. GIVEN WITH THE SEED: THE CARDS: each row of YtpbmofofigkpjaaDoorRows.lean that lists a variable, with what it lists TIED to the program's text (the seventh form; the later family's looks); each row that meets fmt, with fmt's text TOLD by the authors' own Lean function (tested against real Go, not proved from fmt's source: count such statements apart). THE CARD IS WHAT COUNTS. Prove the row's statement (the work); the ties are given (YtpbmofofigkpjaaDoorTie.lean); close each card by the builder's one call (the guide's Derived/Test/ToyasCard.lean, 'card_holds'). Laid BY PROGRAM, IN A SANDBOX (cutbox-door.mjs). By AI agents, Wed Nov 11 2026. No macro, syntax, notation, axiom, sorry.
-/
import Derived.Test.YtpbmofofigkpjaaDoorRows
import GoSem.ClaimSeven
namespace Go.Proofs.YtpbmofofigkpjaaDoor
namespace Rows

/-- THE TIED CARD OF 'laws.FnQuoted'. -/
def fnQuotedCard : Claim7 := { stood := { row := fnQuotedRow, standIns := [], harness := (true, "af99919a0ecd7bab5024af0b1a84859c1c4d109d96e04781f256aa9f1b12e3b7"), looks := false }, kinds := [], alts := [], laidByText := true, laidKinds := [.data, .data, .pinned], laidTests := true, laidLooks := .later }
def FnQuotedCardSaid : Prop := Claim7.holds Tryd.pinned (.plain (OpenSpec.ofChange fnQuotedSpec)) fnQuotedCard

/-- THE TIED CARD OF 'laws.FnWords'. -/
def fnWordsCard : Claim7 := { stood := { row := fnWordsRow, standIns := [], harness := (true, "af99919a0ecd7bab5024af0b1a84859c1c4d109d96e04781f256aa9f1b12e3b7"), looks := false }, kinds := [], alts := [], laidByText := true, laidKinds := [.listed, .data, .data, .data], laidTests := true, laidLooks := .later }
def FnWordsCardSaid : Prop := Claim7.holds Tryd.pinned (.plain (OpenSpec.ofChange fnWordsSpec)) fnWordsCard

/-- THE TIED CARD OF 'laws.FnFolds'. -/
def fnFoldsCard : Claim7 := { stood := { row := fnFoldsRow, standIns := [], harness := (true, "af99919a0ecd7bab5024af0b1a84859c1c4d109d96e04781f256aa9f1b12e3b7"), looks := false }, kinds := [], alts := [], laidByText := true, laidKinds := [.data, .listed, .data, .pinned], laidTests := true, laidLooks := .later }
def FnFoldsCardSaid : Prop := Claim7.holds Tryd.pinned (.plain (OpenSpec.ofChange fnFoldsSpec)) fnFoldsCard

/-- THE TIED CARD OF 'laws.FnExactLongestLine'. -/
def fnExactLongestLineCard : Claim7 := { stood := { row := fnExactLongestLineRow, standIns := [], harness := (true, "af99919a0ecd7bab5024af0b1a84859c1c4d109d96e04781f256aa9f1b12e3b7"), looks := false }, kinds := [], alts := [], laidByText := true, laidKinds := [.data, .pinned], laidTests := true, laidLooks := .later }
def FnExactLongestLineCardSaid : Prop := Claim7.holds Tryd.pinned (.plain (OpenSpec.ofChange fnExactLongestLineSpec)) fnExactLongestLineCard

/-- THE TIED CARD OF 'laws.FnExactEncodeWords'. -/
def fnExactEncodeWordsCard : Claim7 := { stood := { row := fnExactEncodeWordsRow, standIns := [], harness := (true, "af99919a0ecd7bab5024af0b1a84859c1c4d109d96e04781f256aa9f1b12e3b7"), looks := false }, kinds := [], alts := [], laidByText := true, laidKinds := [.data], laidTests := true, laidLooks := .later }
def FnExactEncodeWordsCardSaid : Prop := Claim7.holds Tryd.pinned (.plain (OpenSpec.ofChange fnExactEncodeWordsSpec)) fnExactEncodeWordsCard

/-- THE SECOND FORM's CARD OF 'laws.FnQuoted'. -/
def fnQuotedUptoCard : Claim7 := { stood := { row := fnQuotedUptoRow, standIns := [], harness := (true, "af99919a0ecd7bab5024af0b1a84859c1c4d109d96e04781f256aa9f1b12e3b7"), looks := false }, kinds := [], alts := [], laidByText := true, laidKinds := [.data, .data, .pinned], laidTests := true, laidLooks := .later }
def FnQuotedUptoCardSaid : Prop := Claim7.holds Tryd.pinned (.plain (OpenSpec.upto fnQuotedSpec)) fnQuotedUptoCard

/-- THE SECOND FORM's CARD OF 'laws.FnWords'. -/
def fnWordsUptoCard : Claim7 := { stood := { row := fnWordsUptoRow, standIns := [], harness := (true, "af99919a0ecd7bab5024af0b1a84859c1c4d109d96e04781f256aa9f1b12e3b7"), looks := false }, kinds := [], alts := [], laidByText := true, laidKinds := [.listed, .data, .data, .data], laidTests := true, laidLooks := .later }
def FnWordsUptoCardSaid : Prop := Claim7.holds Tryd.pinned (.plain (OpenSpec.upto fnWordsSpec)) fnWordsUptoCard

/-- THE SECOND FORM's CARD OF 'laws.FnFolds'. -/
def fnFoldsUptoCard : Claim7 := { stood := { row := fnFoldsUptoRow, standIns := [], harness := (true, "af99919a0ecd7bab5024af0b1a84859c1c4d109d96e04781f256aa9f1b12e3b7"), looks := false }, kinds := [], alts := [], laidByText := true, laidKinds := [.data, .listed, .data, .pinned], laidTests := true, laidLooks := .later }
def FnFoldsUptoCardSaid : Prop := Claim7.holds Tryd.pinned (.plain (OpenSpec.upto fnFoldsSpec)) fnFoldsUptoCard

/-- THE SECOND FORM's CARD OF 'laws.FnExactLongestLine'. -/
def fnExactLongestLineUptoCard : Claim7 := { stood := { row := fnExactLongestLineUptoRow, standIns := [], harness := (true, "af99919a0ecd7bab5024af0b1a84859c1c4d109d96e04781f256aa9f1b12e3b7"), looks := false }, kinds := [], alts := [], laidByText := true, laidKinds := [.data, .pinned], laidTests := true, laidLooks := .later }
def FnExactLongestLineUptoCardSaid : Prop := Claim7.holds Tryd.pinned (.plain (OpenSpec.upto fnExactLongestLineSpec)) fnExactLongestLineUptoCard

/-- THE SECOND FORM's CARD OF 'laws.FnExactEncodeWords'. -/
def fnExactEncodeWordsUptoCard : Claim7 := { stood := { row := fnExactEncodeWordsUptoRow, standIns := [], harness := (true, "af99919a0ecd7bab5024af0b1a84859c1c4d109d96e04781f256aa9f1b12e3b7"), looks := false }, kinds := [], alts := [], laidByText := true, laidKinds := [.data], laidTests := true, laidLooks := .later }
def FnExactEncodeWordsUptoCardSaid : Prop := Claim7.holds Tryd.pinned (.plain (OpenSpec.upto fnExactEncodeWordsSpec)) fnExactEncodeWordsUptoCard
end Rows
end Go.Proofs.YtpbmofofigkpjaaDoor

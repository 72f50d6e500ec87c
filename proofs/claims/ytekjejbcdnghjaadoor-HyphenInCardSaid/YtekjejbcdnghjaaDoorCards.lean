/-
  DERIVED. GIVEN WITH THE SEED: THE CARDS: each row of YtekjejbcdnghjaaDoorRows.lean that lists a variable, with what it lists TIED to the program's text (the seventh form; the later family's looks); each row that meets fmt, with fmt's text TOLD by the authors' own Lean function (tested against real Go, not proved from fmt's source: count such statements apart). THE CARD IS WHAT COUNTS. Prove the row's statement (the work); the ties are given (YtekjejbcdnghjaaDoorTie.lean); close each card by the builder's one call (the guide's Derived/Test/ToyasCard.lean, 'card_holds'). Laid BY PROGRAM, IN A SANDBOX (cutbox-door.mjs). By AI agents, Wed Nov 11 2026. No macro, syntax, notation, axiom, sorry.
-/
import Derived.Test.YtekjejbcdnghjaaDoorRows
import GoSem.ClaimSeven
namespace Go.Proofs.YtekjejbcdnghjaaDoor
namespace Rows

/-- THE TIED CARD OF 'typecaselaw20.HyphenParses'. -/
def hyphenParsesCard : Claim7 := { stood := { row := hyphenParsesRow, standIns := [], harness := (true, "8f12925327af1023e18dad4401c83661eccb7f969d023d93e450a7510352a27c"), looks := false }, kinds := [], alts := [], laidByText := true, laidKinds := [.data, .pinned], laidTests := true, laidLooks := .later }
def HyphenParsesCardSaid : Prop := Claim7.holds Tryd.pinned (.plain (OpenSpec.ofChange hyphenParsesSpec)) hyphenParsesCard

/-- THE TIED CARD OF 'typecaselaw20.HyphenPrints'. -/
def hyphenPrintsCard : Claim7 := { stood := { row := hyphenPrintsRow, standIns := [], harness := (true, "8f12925327af1023e18dad4401c83661eccb7f969d023d93e450a7510352a27c"), looks := false }, kinds := [], alts := [], laidByText := true, laidKinds := [.data, .data, .data, .data, .pinned], laidTests := true, laidLooks := .later }
def HyphenPrintsCardSaid : Prop := Claim7.holds Tryd.pinned (.plain (OpenSpec.ofChange hyphenPrintsSpec)) hyphenPrintsCard

/-- THE TIED CARD OF 'typecaselaw20.HyphenMany'. -/
def hyphenManyCard : Claim7 := { stood := { row := hyphenManyRow, standIns := [], harness := (true, "8f12925327af1023e18dad4401c83661eccb7f969d023d93e450a7510352a27c"), looks := false }, kinds := [], alts := [], laidByText := true, laidKinds := [.data, .pinned], laidTests := true, laidLooks := .later }
def HyphenManyCardSaid : Prop := Claim7.holds Tryd.pinned (.plain (OpenSpec.ofChange hyphenManySpec)) hyphenManyCard

/-- THE TIED CARD OF 'typecaselaw20.HyphenPoints'. -/
def hyphenPointsCard : Claim7 := { stood := { row := hyphenPointsRow, standIns := [], harness := (true, "8f12925327af1023e18dad4401c83661eccb7f969d023d93e450a7510352a27c"), looks := false }, kinds := [], alts := [], laidByText := true, laidKinds := [.data, .pinned], laidTests := true, laidLooks := .later }
def HyphenPointsCardSaid : Prop := Claim7.holds Tryd.pinned (.plain (OpenSpec.ofChange hyphenPointsSpec)) hyphenPointsCard

/-- THE TIED CARD OF 'typecaselaw20.HyphenIn'. -/
def hyphenInCard : Claim7 := { stood := { row := hyphenInRow, standIns := [], harness := (true, "8f12925327af1023e18dad4401c83661eccb7f969d023d93e450a7510352a27c"), looks := false }, kinds := [], alts := [], laidByText := true, laidKinds := [.data, .pinned], laidTests := true, laidLooks := .later }
def HyphenInCardSaid : Prop := Claim7.holds Tryd.pinned (.plain (OpenSpec.ofChange hyphenInSpec)) hyphenInCard

/-- THE TIED CARD OF 'typecaselaw20.HyphenKeeps'. -/
def hyphenKeepsCard : Claim7 := { stood := { row := hyphenKeepsRow, standIns := [], harness := (true, "8f12925327af1023e18dad4401c83661eccb7f969d023d93e450a7510352a27c"), looks := false }, kinds := [], alts := [], laidByText := true, laidKinds := [.data, .pinned], laidTests := true, laidLooks := .later }
def HyphenKeepsCardSaid : Prop := Claim7.holds Tryd.pinned (.plain (OpenSpec.ofChange hyphenKeepsSpec)) hyphenKeepsCard

/-- THE SECOND FORM's CARD OF 'typecaselaw20.HyphenParses'. -/
def hyphenParsesUptoCard : Claim7 := { stood := { row := hyphenParsesUptoRow, standIns := [], harness := (true, "8f12925327af1023e18dad4401c83661eccb7f969d023d93e450a7510352a27c"), looks := false }, kinds := [], alts := [], laidByText := true, laidKinds := [.data, .pinned], laidTests := true, laidLooks := .later }
def HyphenParsesUptoCardSaid : Prop := Claim7.holds Tryd.pinned (.plain (OpenSpec.upto hyphenParsesSpec)) hyphenParsesUptoCard

/-- THE SECOND FORM's CARD OF 'typecaselaw20.HyphenPrints'. -/
def hyphenPrintsUptoCard : Claim7 := { stood := { row := hyphenPrintsUptoRow, standIns := [], harness := (true, "8f12925327af1023e18dad4401c83661eccb7f969d023d93e450a7510352a27c"), looks := false }, kinds := [], alts := [], laidByText := true, laidKinds := [.data, .data, .data, .data, .pinned], laidTests := true, laidLooks := .later }
def HyphenPrintsUptoCardSaid : Prop := Claim7.holds Tryd.pinned (.plain (OpenSpec.upto hyphenPrintsSpec)) hyphenPrintsUptoCard

/-- THE SECOND FORM's CARD OF 'typecaselaw20.HyphenMany'. -/
def hyphenManyUptoCard : Claim7 := { stood := { row := hyphenManyUptoRow, standIns := [], harness := (true, "8f12925327af1023e18dad4401c83661eccb7f969d023d93e450a7510352a27c"), looks := false }, kinds := [], alts := [], laidByText := true, laidKinds := [.data, .pinned], laidTests := true, laidLooks := .later }
def HyphenManyUptoCardSaid : Prop := Claim7.holds Tryd.pinned (.plain (OpenSpec.upto hyphenManySpec)) hyphenManyUptoCard

/-- THE SECOND FORM's CARD OF 'typecaselaw20.HyphenPoints'. -/
def hyphenPointsUptoCard : Claim7 := { stood := { row := hyphenPointsUptoRow, standIns := [], harness := (true, "8f12925327af1023e18dad4401c83661eccb7f969d023d93e450a7510352a27c"), looks := false }, kinds := [], alts := [], laidByText := true, laidKinds := [.data, .pinned], laidTests := true, laidLooks := .later }
def HyphenPointsUptoCardSaid : Prop := Claim7.holds Tryd.pinned (.plain (OpenSpec.upto hyphenPointsSpec)) hyphenPointsUptoCard

/-- THE SECOND FORM's CARD OF 'typecaselaw20.HyphenIn'. -/
def hyphenInUptoCard : Claim7 := { stood := { row := hyphenInUptoRow, standIns := [], harness := (true, "8f12925327af1023e18dad4401c83661eccb7f969d023d93e450a7510352a27c"), looks := false }, kinds := [], alts := [], laidByText := true, laidKinds := [.data, .pinned], laidTests := true, laidLooks := .later }
def HyphenInUptoCardSaid : Prop := Claim7.holds Tryd.pinned (.plain (OpenSpec.upto hyphenInSpec)) hyphenInUptoCard

/-- THE SECOND FORM's CARD OF 'typecaselaw20.HyphenKeeps'. -/
def hyphenKeepsUptoCard : Claim7 := { stood := { row := hyphenKeepsUptoRow, standIns := [], harness := (true, "8f12925327af1023e18dad4401c83661eccb7f969d023d93e450a7510352a27c"), looks := false }, kinds := [], alts := [], laidByText := true, laidKinds := [.data, .pinned], laidTests := true, laidLooks := .later }
def HyphenKeepsUptoCardSaid : Prop := Claim7.holds Tryd.pinned (.plain (OpenSpec.upto hyphenKeepsSpec)) hyphenKeepsUptoCard
end Rows
end Go.Proofs.YtekjejbcdnghjaaDoor

/-
  DERIVED. GIVEN WITH THE SEED: THE CARDS: each row of YtgpakglkhogdnaaDoorRows.lean that lists a variable, with what it lists TIED to the program's text (the seventh form; the later family's looks); each row that meets fmt, with fmt's text TOLD by the authors' own Lean function (tested against real Go, not proved from fmt's source: count such statements apart). THE CARD IS WHAT COUNTS. Prove the row's statement (the work); the ties are given (YtgpakglkhogdnaaDoorTie.lean); close each card by the builder's one call (the guide's Derived/Test/ToyasCard.lean, 'card_holds'). Laid BY PROGRAM, IN A SANDBOX (cutbox-door.mjs). By AI agents, Wed Nov 11 2026. No macro, syntax, notation, axiom, sorry.
-/
import Derived.Test.YtgpakglkhogdnaaDoorRows
import GoSem.ClaimSeven
namespace Go.Proofs.YtgpakglkhogdnaaDoor
namespace Rows

/-- THE TIED CARD OF 'pidginlaw03.NumberParses'. -/
def numberParsesCard : Claim7 := { stood := { row := numberParsesRow, standIns := [], harness := (true, "b534a984334b871f4ab3bcf729e1586a35f9c05fe08a75abac1f654369187dde"), looks := false }, kinds := [], alts := [], laidByText := true, laidKinds := [.data, .data, .data], laidTests := true, laidLooks := .later }
def NumberParsesCardSaid : Prop := Claim7.holds Tryd.pinned (.plain (OpenSpec.ofChange numberParsesSpec)) numberParsesCard

/-- THE TIED CARD OF 'pidginlaw03.NumberShows'. -/
def numberShowsCard : Claim7 := { stood := { row := numberShowsRow, standIns := [], harness := (true, "b534a984334b871f4ab3bcf729e1586a35f9c05fe08a75abac1f654369187dde"), looks := false }, kinds := [], alts := [], laidByText := true, laidKinds := [.data, .data, .data], laidTests := true, laidLooks := .later }
def NumberShowsCardSaid : Prop := Claim7.holds Tryd.pinned (.plain (OpenSpec.ofChange numberShowsSpec)) numberShowsCard

/-- THE TIED CARD OF 'pidginlaw03.NumberQuotes'. -/
def numberQuotesCard : Claim7 := { stood := { row := numberQuotesRow, standIns := [], harness := (true, "b534a984334b871f4ab3bcf729e1586a35f9c05fe08a75abac1f654369187dde"), looks := false }, kinds := [], alts := [], laidByText := true, laidKinds := [.data, .data, .data, .data, .pinned], laidTests := true, laidLooks := .later }
def NumberQuotesCardSaid : Prop := Claim7.holds Tryd.pinned (.plain (OpenSpec.ofChange numberQuotesSpec)) numberQuotesCard

/-- THE TIED CARD OF 'pidginlaw03.NumberNames'. -/
def numberNamesCard : Claim7 := { stood := { row := numberNamesRow, standIns := [], harness := (true, "b534a984334b871f4ab3bcf729e1586a35f9c05fe08a75abac1f654369187dde"), looks := false }, kinds := [], alts := [], laidByText := true, laidKinds := [.data, .data, .data], laidTests := true, laidLooks := .later }
def NumberNamesCardSaid : Prop := Claim7.holds Tryd.pinned (.plain (OpenSpec.ofChange numberNamesSpec)) numberNamesCard

/-- THE TIED CARD OF 'pidginlaw03.NumberBases'. -/
def numberBasesCard : Claim7 := { stood := { row := numberBasesRow, standIns := [], harness := (true, "b534a984334b871f4ab3bcf729e1586a35f9c05fe08a75abac1f654369187dde"), looks := false }, kinds := [], alts := [], laidByText := true, laidKinds := [.data, .data, .data], laidTests := true, laidLooks := .later }
def NumberBasesCardSaid : Prop := Claim7.holds Tryd.pinned (.plain (OpenSpec.ofChange numberBasesSpec)) numberBasesCard

/-- THE TIED CARD OF 'pidginlaw03.NumberBack'. -/
def numberBackCard : Claim7 := { stood := { row := numberBackRow, standIns := [], harness := (true, "b534a984334b871f4ab3bcf729e1586a35f9c05fe08a75abac1f654369187dde"), looks := false }, kinds := [], alts := [], laidByText := true, laidKinds := [.data, .data, .data, .data, .pinned], laidTests := true, laidLooks := .later }
def NumberBackCardSaid : Prop := Claim7.holds Tryd.pinned (.plain (OpenSpec.ofChange numberBackSpec)) numberBackCard

/-- THE TIED CARD OF 'pidginlaw03.NumberDigits'. -/
def numberDigitsCard : Claim7 := { stood := { row := numberDigitsRow, standIns := [], harness := (true, "b534a984334b871f4ab3bcf729e1586a35f9c05fe08a75abac1f654369187dde"), looks := false }, kinds := [], alts := [], laidByText := true, laidKinds := [.data, .data, .data], laidTests := true, laidLooks := .later }
def NumberDigitsCardSaid : Prop := Claim7.holds Tryd.pinned (.plain (OpenSpec.ofChange numberDigitsSpec)) numberDigitsCard

/-- THE SECOND FORM's CARD OF 'pidginlaw03.NumberParses'. -/
def numberParsesUptoCard : Claim7 := { stood := { row := numberParsesUptoRow, standIns := [], harness := (true, "b534a984334b871f4ab3bcf729e1586a35f9c05fe08a75abac1f654369187dde"), looks := false }, kinds := [], alts := [], laidByText := true, laidKinds := [.data, .data, .data], laidTests := true, laidLooks := .later }
def NumberParsesUptoCardSaid : Prop := Claim7.holds Tryd.pinned (.plain (OpenSpec.upto numberParsesSpec)) numberParsesUptoCard

/-- THE SECOND FORM's CARD OF 'pidginlaw03.NumberShows'. -/
def numberShowsUptoCard : Claim7 := { stood := { row := numberShowsUptoRow, standIns := [], harness := (true, "b534a984334b871f4ab3bcf729e1586a35f9c05fe08a75abac1f654369187dde"), looks := false }, kinds := [], alts := [], laidByText := true, laidKinds := [.data, .data, .data], laidTests := true, laidLooks := .later }
def NumberShowsUptoCardSaid : Prop := Claim7.holds Tryd.pinned (.plain (OpenSpec.upto numberShowsSpec)) numberShowsUptoCard

/-- THE SECOND FORM's CARD OF 'pidginlaw03.NumberQuotes'. -/
def numberQuotesUptoCard : Claim7 := { stood := { row := numberQuotesUptoRow, standIns := [], harness := (true, "b534a984334b871f4ab3bcf729e1586a35f9c05fe08a75abac1f654369187dde"), looks := false }, kinds := [], alts := [], laidByText := true, laidKinds := [.data, .data, .data, .data, .pinned], laidTests := true, laidLooks := .later }
def NumberQuotesUptoCardSaid : Prop := Claim7.holds Tryd.pinned (.plain (OpenSpec.upto numberQuotesSpec)) numberQuotesUptoCard

/-- THE SECOND FORM's CARD OF 'pidginlaw03.NumberNames'. -/
def numberNamesUptoCard : Claim7 := { stood := { row := numberNamesUptoRow, standIns := [], harness := (true, "b534a984334b871f4ab3bcf729e1586a35f9c05fe08a75abac1f654369187dde"), looks := false }, kinds := [], alts := [], laidByText := true, laidKinds := [.data, .data, .data], laidTests := true, laidLooks := .later }
def NumberNamesUptoCardSaid : Prop := Claim7.holds Tryd.pinned (.plain (OpenSpec.upto numberNamesSpec)) numberNamesUptoCard

/-- THE SECOND FORM's CARD OF 'pidginlaw03.NumberBases'. -/
def numberBasesUptoCard : Claim7 := { stood := { row := numberBasesUptoRow, standIns := [], harness := (true, "b534a984334b871f4ab3bcf729e1586a35f9c05fe08a75abac1f654369187dde"), looks := false }, kinds := [], alts := [], laidByText := true, laidKinds := [.data, .data, .data], laidTests := true, laidLooks := .later }
def NumberBasesUptoCardSaid : Prop := Claim7.holds Tryd.pinned (.plain (OpenSpec.upto numberBasesSpec)) numberBasesUptoCard

/-- THE SECOND FORM's CARD OF 'pidginlaw03.NumberBack'. -/
def numberBackUptoCard : Claim7 := { stood := { row := numberBackUptoRow, standIns := [], harness := (true, "b534a984334b871f4ab3bcf729e1586a35f9c05fe08a75abac1f654369187dde"), looks := false }, kinds := [], alts := [], laidByText := true, laidKinds := [.data, .data, .data, .data, .pinned], laidTests := true, laidLooks := .later }
def NumberBackUptoCardSaid : Prop := Claim7.holds Tryd.pinned (.plain (OpenSpec.upto numberBackSpec)) numberBackUptoCard

/-- THE SECOND FORM's CARD OF 'pidginlaw03.NumberDigits'. -/
def numberDigitsUptoCard : Claim7 := { stood := { row := numberDigitsUptoRow, standIns := [], harness := (true, "b534a984334b871f4ab3bcf729e1586a35f9c05fe08a75abac1f654369187dde"), looks := false }, kinds := [], alts := [], laidByText := true, laidKinds := [.data, .data, .data], laidTests := true, laidLooks := .later }
def NumberDigitsUptoCardSaid : Prop := Claim7.holds Tryd.pinned (.plain (OpenSpec.upto numberDigitsSpec)) numberDigitsUptoCard
end Rows
end Go.Proofs.YtgpakglkhogdnaaDoor

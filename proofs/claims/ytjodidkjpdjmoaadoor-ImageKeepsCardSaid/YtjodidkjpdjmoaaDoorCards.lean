/-
  DERIVED. GIVEN WITH THE SEED: THE CARDS: each row of YtjodidkjpdjmoaaDoorRows.lean that lists a variable, with what it lists TIED to the program's text (the seventh form; the later family's looks); each row that meets fmt, with fmt's text TOLD by the authors' own Lean function (tested against real Go, not proved from fmt's source: count such statements apart). THE CARD IS WHAT COUNTS. Prove the row's statement (the work); the ties are given (YtjodidkjpdjmoaaDoorTie.lean); close each card by the builder's one call (the guide's Derived/Test/ToyasCard.lean, 'card_holds'). Laid BY PROGRAM, IN A SANDBOX (cutbox-door.mjs). By AI agents, Wed Nov 11 2026. No macro, syntax, notation, axiom, sorry.
-/
import Derived.Test.YtjodidkjpdjmoaaDoorRows
import GoSem.ClaimSeven
namespace Go.Proofs.YtjodidkjpdjmoaaDoor
namespace Rows

/-- THE TIED CARD OF 'pidginlaw02.ImagePlays'. -/
def imagePlaysCard : Claim7 := { stood := { row := imagePlaysRow, standIns := [], harness := (true, "00167e2e8b11d6bfab954b972e9bf4d3da848a99075986db3578406671ad447a"), looks := false }, kinds := [], alts := [], laidByText := true, laidKinds := [.data], laidTests := true, laidLooks := .later }
def ImagePlaysCardSaid : Prop := Claim7.holds Tryd.pinned (.plain (OpenSpec.ofChange imagePlaysSpec)) imagePlaysCard

/-- THE TIED CARD OF 'pidginlaw02.ImageFills'. -/
def imageFillsCard : Claim7 := { stood := { row := imageFillsRow, standIns := [], harness := (true, "00167e2e8b11d6bfab954b972e9bf4d3da848a99075986db3578406671ad447a"), looks := false }, kinds := [], alts := [], laidByText := true, laidKinds := [.data], laidTests := true, laidLooks := .later }
def ImageFillsCardSaid : Prop := Claim7.holds Tryd.pinned (.plain (OpenSpec.ofChange imageFillsSpec)) imageFillsCard

/-- THE TIED CARD OF 'pidginlaw02.ImageSame'. -/
def imageSameCard : Claim7 := { stood := { row := imageSameRow, standIns := [], harness := (true, "00167e2e8b11d6bfab954b972e9bf4d3da848a99075986db3578406671ad447a"), looks := false }, kinds := [], alts := [], laidByText := true, laidKinds := [.data], laidTests := true, laidLooks := .later }
def ImageSameCardSaid : Prop := Claim7.holds Tryd.pinned (.plain (OpenSpec.ofChange imageSameSpec)) imageSameCard

/-- THE TIED CARD OF 'pidginlaw02.ImageKeeps'. -/
def imageKeepsCard : Claim7 := { stood := { row := imageKeepsRow, standIns := [], harness := (true, "00167e2e8b11d6bfab954b972e9bf4d3da848a99075986db3578406671ad447a"), looks := false }, kinds := [], alts := [], laidByText := true, laidKinds := [.data], laidTests := true, laidLooks := .later }
def ImageKeepsCardSaid : Prop := Claim7.holds Tryd.pinned (.plain (OpenSpec.ofChange imageKeepsSpec)) imageKeepsCard

/-- THE TIED CARD OF 'pidginlaw02.ImageRises'. -/
def imageRisesCard : Claim7 := { stood := { row := imageRisesRow, standIns := [], harness := (true, "00167e2e8b11d6bfab954b972e9bf4d3da848a99075986db3578406671ad447a"), looks := false }, kinds := [], alts := [], laidByText := true, laidKinds := [.data], laidTests := true, laidLooks := .later }
def ImageRisesCardSaid : Prop := Claim7.holds Tryd.pinned (.plain (OpenSpec.ofChange imageRisesSpec)) imageRisesCard

/-- THE SECOND FORM's CARD OF 'pidginlaw02.ImagePlays'. -/
def imagePlaysUptoCard : Claim7 := { stood := { row := imagePlaysUptoRow, standIns := [], harness := (true, "00167e2e8b11d6bfab954b972e9bf4d3da848a99075986db3578406671ad447a"), looks := false }, kinds := [], alts := [], laidByText := true, laidKinds := [.data], laidTests := true, laidLooks := .later }
def ImagePlaysUptoCardSaid : Prop := Claim7.holds Tryd.pinned (.plain (OpenSpec.upto imagePlaysSpec)) imagePlaysUptoCard

/-- THE SECOND FORM's CARD OF 'pidginlaw02.ImageFills'. -/
def imageFillsUptoCard : Claim7 := { stood := { row := imageFillsUptoRow, standIns := [], harness := (true, "00167e2e8b11d6bfab954b972e9bf4d3da848a99075986db3578406671ad447a"), looks := false }, kinds := [], alts := [], laidByText := true, laidKinds := [.data], laidTests := true, laidLooks := .later }
def ImageFillsUptoCardSaid : Prop := Claim7.holds Tryd.pinned (.plain (OpenSpec.upto imageFillsSpec)) imageFillsUptoCard

/-- THE SECOND FORM's CARD OF 'pidginlaw02.ImageSame'. -/
def imageSameUptoCard : Claim7 := { stood := { row := imageSameUptoRow, standIns := [], harness := (true, "00167e2e8b11d6bfab954b972e9bf4d3da848a99075986db3578406671ad447a"), looks := false }, kinds := [], alts := [], laidByText := true, laidKinds := [.data], laidTests := true, laidLooks := .later }
def ImageSameUptoCardSaid : Prop := Claim7.holds Tryd.pinned (.plain (OpenSpec.upto imageSameSpec)) imageSameUptoCard

/-- THE SECOND FORM's CARD OF 'pidginlaw02.ImageKeeps'. -/
def imageKeepsUptoCard : Claim7 := { stood := { row := imageKeepsUptoRow, standIns := [], harness := (true, "00167e2e8b11d6bfab954b972e9bf4d3da848a99075986db3578406671ad447a"), looks := false }, kinds := [], alts := [], laidByText := true, laidKinds := [.data], laidTests := true, laidLooks := .later }
def ImageKeepsUptoCardSaid : Prop := Claim7.holds Tryd.pinned (.plain (OpenSpec.upto imageKeepsSpec)) imageKeepsUptoCard

/-- THE SECOND FORM's CARD OF 'pidginlaw02.ImageRises'. -/
def imageRisesUptoCard : Claim7 := { stood := { row := imageRisesUptoRow, standIns := [], harness := (true, "00167e2e8b11d6bfab954b972e9bf4d3da848a99075986db3578406671ad447a"), looks := false }, kinds := [], alts := [], laidByText := true, laidKinds := [.data], laidTests := true, laidLooks := .later }
def ImageRisesUptoCardSaid : Prop := Claim7.holds Tryd.pinned (.plain (OpenSpec.upto imageRisesSpec)) imageRisesUptoCard
end Rows
end Go.Proofs.YtjodidkjpdjmoaaDoor

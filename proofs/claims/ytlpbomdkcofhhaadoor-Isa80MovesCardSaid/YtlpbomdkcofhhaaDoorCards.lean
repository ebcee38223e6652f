/-
  DERIVED. GIVEN WITH THE SEED: THE CARDS: each row of YtlpbomdkcofhhaaDoorRows.lean that lists a variable, with what it lists TIED to the program's text (the seventh form; the later family's looks); each row that meets fmt, with fmt's text TOLD by the authors' own Lean function (tested against real Go, not proved from fmt's source: count such statements apart). THE CARD IS WHAT COUNTS. Prove the row's statement (the work); the ties are given (YtlpbomdkcofhhaaDoorTie.lean); close each card by the builder's one call (the guide's Derived/Test/ToyasCard.lean, 'card_holds'). Laid BY PROGRAM, IN A SANDBOX (cutbox-door.mjs). By AI agents, Wed Nov 11 2026. No macro, syntax, notation, axiom, sorry.
-/
import Derived.Test.YtlpbomdkcofhhaaDoorRows
import GoSem.ClaimSeven
namespace Go.Proofs.YtlpbomdkcofhhaaDoor
namespace Rows

/-- THE TIED CARD OF 'pidginlaw06.Isa80Forms'. -/
def isa80FormsCard : Claim7 := { stood := { row := isa80FormsRow, standIns := [], harness := (true, "e7200fe39ed919743e010573278ca3e74805f112d3f24b2d8fda839d3b8e05c0"), looks := false }, kinds := [], alts := [], laidByText := true, laidKinds := [.data, .data, .data, .data, .data, .data], laidTests := true, laidLooks := .later }
def Isa80FormsCardSaid : Prop := Claim7.holds Tryd.pinned (.plain (OpenSpec.ofChange isa80FormsSpec)) isa80FormsCard

/-- THE TIED CARD OF 'pidginlaw06.Isa80Bytes'. -/
def isa80BytesCard : Claim7 := { stood := { row := isa80BytesRow, standIns := [], harness := (true, "e7200fe39ed919743e010573278ca3e74805f112d3f24b2d8fda839d3b8e05c0"), looks := false }, kinds := [], alts := [], laidByText := true, laidKinds := [.data, .data, .data, .data, .data, .data], laidTests := true, laidLooks := .later }
def Isa80BytesCardSaid : Prop := Claim7.holds Tryd.pinned (.plain (OpenSpec.ofChange isa80BytesSpec)) isa80BytesCard

/-- THE TIED CARD OF 'pidginlaw06.Isa80Kinds'. -/
def isa80KindsCard : Claim7 := { stood := { row := isa80KindsRow, standIns := [], harness := (true, "e7200fe39ed919743e010573278ca3e74805f112d3f24b2d8fda839d3b8e05c0"), looks := false }, kinds := [], alts := [], laidByText := true, laidKinds := [.data, .data, .data, .data, .data, .data], laidTests := true, laidLooks := .later }
def Isa80KindsCardSaid : Prop := Claim7.holds Tryd.pinned (.plain (OpenSpec.ofChange isa80KindsSpec)) isa80KindsCard

/-- THE TIED CARD OF 'pidginlaw06.Isa80Back'. -/
def isa80BackCard : Claim7 := { stood := { row := isa80BackRow, standIns := [], harness := (true, "e7200fe39ed919743e010573278ca3e74805f112d3f24b2d8fda839d3b8e05c0"), looks := false }, kinds := [], alts := [], laidByText := true, laidKinds := [.data, .data, .data, .data, .data, .data], laidTests := true, laidLooks := .later }
def Isa80BackCardSaid : Prop := Claim7.holds Tryd.pinned (.plain (OpenSpec.ofChange isa80BackSpec)) isa80BackCard

/-- THE TIED CARD OF 'pidginlaw06.Isa80Many'. -/
def isa80ManyCard : Claim7 := { stood := { row := isa80ManyRow, standIns := [], harness := (true, "e7200fe39ed919743e010573278ca3e74805f112d3f24b2d8fda839d3b8e05c0"), looks := false }, kinds := [], alts := [], laidByText := true, laidKinds := [.data, .data, .data, .data, .data, .data], laidTests := true, laidLooks := .later }
def Isa80ManyCardSaid : Prop := Claim7.holds Tryd.pinned (.plain (OpenSpec.ofChange isa80ManySpec)) isa80ManyCard

/-- THE TIED CARD OF 'pidginlaw06.Isa80Moves'. -/
def isa80MovesCard : Claim7 := { stood := { row := isa80MovesRow, standIns := [], harness := (true, "e7200fe39ed919743e010573278ca3e74805f112d3f24b2d8fda839d3b8e05c0"), looks := false }, kinds := [], alts := [], laidByText := true, laidKinds := [.data, .data, .data, .data, .data, .data], laidTests := true, laidLooks := .later }
def Isa80MovesCardSaid : Prop := Claim7.holds Tryd.pinned (.plain (OpenSpec.ofChange isa80MovesSpec)) isa80MovesCard

/-- THE SECOND FORM's CARD OF 'pidginlaw06.Isa80Forms'. -/
def isa80FormsUptoCard : Claim7 := { stood := { row := isa80FormsUptoRow, standIns := [], harness := (true, "e7200fe39ed919743e010573278ca3e74805f112d3f24b2d8fda839d3b8e05c0"), looks := false }, kinds := [], alts := [], laidByText := true, laidKinds := [.data, .data, .data, .data, .data, .data], laidTests := true, laidLooks := .later }
def Isa80FormsUptoCardSaid : Prop := Claim7.holds Tryd.pinned (.plain (OpenSpec.upto isa80FormsSpec)) isa80FormsUptoCard

/-- THE SECOND FORM's CARD OF 'pidginlaw06.Isa80Bytes'. -/
def isa80BytesUptoCard : Claim7 := { stood := { row := isa80BytesUptoRow, standIns := [], harness := (true, "e7200fe39ed919743e010573278ca3e74805f112d3f24b2d8fda839d3b8e05c0"), looks := false }, kinds := [], alts := [], laidByText := true, laidKinds := [.data, .data, .data, .data, .data, .data], laidTests := true, laidLooks := .later }
def Isa80BytesUptoCardSaid : Prop := Claim7.holds Tryd.pinned (.plain (OpenSpec.upto isa80BytesSpec)) isa80BytesUptoCard

/-- THE SECOND FORM's CARD OF 'pidginlaw06.Isa80Kinds'. -/
def isa80KindsUptoCard : Claim7 := { stood := { row := isa80KindsUptoRow, standIns := [], harness := (true, "e7200fe39ed919743e010573278ca3e74805f112d3f24b2d8fda839d3b8e05c0"), looks := false }, kinds := [], alts := [], laidByText := true, laidKinds := [.data, .data, .data, .data, .data, .data], laidTests := true, laidLooks := .later }
def Isa80KindsUptoCardSaid : Prop := Claim7.holds Tryd.pinned (.plain (OpenSpec.upto isa80KindsSpec)) isa80KindsUptoCard

/-- THE SECOND FORM's CARD OF 'pidginlaw06.Isa80Back'. -/
def isa80BackUptoCard : Claim7 := { stood := { row := isa80BackUptoRow, standIns := [], harness := (true, "e7200fe39ed919743e010573278ca3e74805f112d3f24b2d8fda839d3b8e05c0"), looks := false }, kinds := [], alts := [], laidByText := true, laidKinds := [.data, .data, .data, .data, .data, .data], laidTests := true, laidLooks := .later }
def Isa80BackUptoCardSaid : Prop := Claim7.holds Tryd.pinned (.plain (OpenSpec.upto isa80BackSpec)) isa80BackUptoCard

/-- THE SECOND FORM's CARD OF 'pidginlaw06.Isa80Many'. -/
def isa80ManyUptoCard : Claim7 := { stood := { row := isa80ManyUptoRow, standIns := [], harness := (true, "e7200fe39ed919743e010573278ca3e74805f112d3f24b2d8fda839d3b8e05c0"), looks := false }, kinds := [], alts := [], laidByText := true, laidKinds := [.data, .data, .data, .data, .data, .data], laidTests := true, laidLooks := .later }
def Isa80ManyUptoCardSaid : Prop := Claim7.holds Tryd.pinned (.plain (OpenSpec.upto isa80ManySpec)) isa80ManyUptoCard

/-- THE SECOND FORM's CARD OF 'pidginlaw06.Isa80Moves'. -/
def isa80MovesUptoCard : Claim7 := { stood := { row := isa80MovesUptoRow, standIns := [], harness := (true, "e7200fe39ed919743e010573278ca3e74805f112d3f24b2d8fda839d3b8e05c0"), looks := false }, kinds := [], alts := [], laidByText := true, laidKinds := [.data, .data, .data, .data, .data, .data], laidTests := true, laidLooks := .later }
def Isa80MovesUptoCardSaid : Prop := Claim7.holds Tryd.pinned (.plain (OpenSpec.upto isa80MovesSpec)) isa80MovesUptoCard
end Rows
end Go.Proofs.YtlpbomdkcofhhaaDoor

/-
  NARROWER THAN 'FOR EVERY INPUT', by the rows' own cells (each row's printed sentence says how): Isa80Forms: laid · Isa80Bytes: laid · Isa80Kinds: laid · Isa80Back: laid · Isa80Many: laid · Isa80Moves: laid.
  DERIVED. THE GIVEN ROWS OF THIS SEAT. 6 by the template 'for every input the law returns true; each argument reads behind the call as it read before'; 0 by the template 'total and deterministic' (their statements: YtlpbomdkcofhhaaDoorTotals.lean).
  GIVEN WITH THE SEED: the statements are not yours to turn. If you find one false, say at which input.
  Laid BY PROGRAM, IN A SANDBOX (cutbox-rows.mjs): the forced cells as the released guide's own fill.sh prints them over the translation 82029702dfd6ebf0… (all of the seat's roots in one cut). By AI agents, Wed Nov 11 2026. No macro, syntax, notation, axiom, sorry.
-/
import Derived.Test.YtlpbomdkcofhhaaDoorChecked
import GoSem.Claim
import GoSem.ClaimJoined
import GoSem.ClaimMapViews
import Derived.JoinedTies
import Derived.KernelRfl
namespace Go.Proofs.YtlpbomdkcofhhaaDoor
/- THE CELL 'sum', in the pinned program and in every row, IS THE sha256 OF THE DUMP (.gsa) THAT YtlpbomdkcofhhaaDoorProg.lean LOADS. Nothing in Lean hashes anything: it is a label: what it is worth is what the hold of that sum in a sandbox is worth. -/
noncomputable def Tryd.pinned : Pinned := { name := "ytlpbomdkcofhhaadoor", sum := "82029702dfd6ebf00b18977c9b7e11c143b9c1e376e1a336c1fe7b55de37637f", checked := Tryd.checked }
namespace Rows
def none {H : Type} : Left H := { results := [], args := [] }

/- WHAT THE LISTED PACKAGE-LEVEL VARIABLES READ AS WHEN THE CALL BEGINS. Each datum BY PROGRAM (the guide's laid-datum.mjs) off the statement by which the dump's own 'gosem.cut.vars' lays the variable. In a bare row this is a premise. The card (YtlpbomdkcofhhaaDoorCards.lean) ties it to the program's text. -/
def laid_pidgin_isa80_registers {H : Type} : DataW H := .agg [.lit (.string [66]), .lit (.string [67]), .lit (.string [68]), .lit (.string [69]), .lit (.string [72]), .lit (.string [76]), .lit (.string [77]), .lit (.string [65])]
def laid_pidgin_isa80_pairs {H : Type} : DataW H := .agg [.lit (.string [66]), .lit (.string [68]), .lit (.string [72]), .lit (.string [83, 80])]
def laid_pidgin_isa80_conditions {H : Type} : DataW H := .agg [.lit (.string [78, 90]), .lit (.string [90]), .lit (.string [78, 67]), .lit (.string [67]), .lit (.string [80, 79]), .lit (.string [80, 69]), .lit (.string [80]), .lit (.string [77])]
def laid_pidgin_isa80_reckoners {H : Type} : DataW H := .agg [.lit (.string [65, 68, 68]), .lit (.string [65, 68, 67]), .lit (.string [83, 85, 66]), .lit (.string [83, 66, 66]), .lit (.string [65, 78, 65]), .lit (.string [88, 82, 65]), .lit (.string [79, 82, 65]), .lit (.string [67, 77, 80])]
def laid_pidgin_isa80_numbered {H : Type} : DataW H := .agg [.lit (.string [65, 68, 73]), .lit (.string [65, 67, 73]), .lit (.string [83, 85, 73]), .lit (.string [83, 66, 73]), .lit (.string [65, 78, 73]), .lit (.string [88, 82, 73]), .lit (.string [79, 82, 73]), .lit (.string [67, 80, 73])]
def laid_pidgin_isa80_turns {H : Type} : DataW H := .agg [.lit (.string [82, 76, 67]), .lit (.string [82, 82, 67]), .lit (.string [82, 65, 76]), .lit (.string [82, 65, 82]), .lit (.string [68, 65, 65]), .lit (.string [67, 77, 65]), .lit (.string [83, 84, 67]), .lit (.string [67, 77, 67])]

/-- 'pidginlaw06.Isa80Forms': WHATEVER THE INPUT: true; the input reads as it did. -/
def isa80FormsSpec : ChangeSpec := { name := "isa80Forms", fn := fun _ => fun
  | [d] => { results := [.lit (.bool true)], args := [d] }
  | _ => none }
def isa80FormsRow : OpenClaim := { program := "ytlpbomdkcofhhaadoor", sum := "82029702dfd6ebf00b18977c9b7e11c143b9c1e376e1a336c1fe7b55de37637f", func := "pidgin/pidginlaw06.Isa80Forms", spec := "isa80Forms", named := ["pidgin/isa80.registers", "pidgin/isa80.reckoners", "pidgin/isa80.pairs", "pidgin/isa80.turns", "pidgin/isa80.conditions", "pidgin/isa80.numbered"], apart := false, laid := [("pidgin/isa80.registers", laid_pidgin_isa80_registers), ("pidgin/isa80.pairs", laid_pidgin_isa80_pairs), ("pidgin/isa80.conditions", laid_pidgin_isa80_conditions), ("pidgin/isa80.reckoners", laid_pidgin_isa80_reckoners), ("pidgin/isa80.numbered", laid_pidgin_isa80_numbered), ("pidgin/isa80.turns", laid_pidgin_isa80_turns)] }
def Isa80FormsSaid : Prop := isa80FormsRow.holds Tryd.pinned (OpenSpec.ofChange isa80FormsSpec)

/-- ITS FALSE NEIGHBOUR: 'it returns false'. Refute it at one input. -/
def isa80FormsWrong : ChangeSpec := { name := "isa80Forms", fn := fun _ => fun
  | [d] => { results := [.lit (.bool false)], args := [d] }
  | _ => none }
def Isa80FormsWrongFalsely : Prop := isa80FormsRow.holds Tryd.pinned (OpenSpec.ofChange isa80FormsWrong)

/-- 'pidginlaw06.Isa80Bytes': WHATEVER THE INPUT: true; the input reads as it did. -/
def isa80BytesSpec : ChangeSpec := { name := "isa80Bytes", fn := fun _ => fun
  | [d1, d2, d3] => { results := [.lit (.bool true)], args := [d1, d2, d3] }
  | _ => none }
def isa80BytesRow : OpenClaim := { program := "ytlpbomdkcofhhaadoor", sum := "82029702dfd6ebf00b18977c9b7e11c143b9c1e376e1a336c1fe7b55de37637f", func := "pidgin/pidginlaw06.Isa80Bytes", spec := "isa80Bytes", named := ["pidgin/isa80.registers", "pidgin/isa80.reckoners", "pidgin/isa80.pairs", "pidgin/isa80.turns", "pidgin/isa80.conditions", "pidgin/isa80.numbered"], apart := false, laid := [("pidgin/isa80.registers", laid_pidgin_isa80_registers), ("pidgin/isa80.pairs", laid_pidgin_isa80_pairs), ("pidgin/isa80.conditions", laid_pidgin_isa80_conditions), ("pidgin/isa80.reckoners", laid_pidgin_isa80_reckoners), ("pidgin/isa80.numbered", laid_pidgin_isa80_numbered), ("pidgin/isa80.turns", laid_pidgin_isa80_turns)] }
def Isa80BytesSaid : Prop := isa80BytesRow.holds Tryd.pinned (OpenSpec.ofChange isa80BytesSpec)

/-- ITS FALSE NEIGHBOUR: 'it returns false'. Refute it at one input. -/
def isa80BytesWrong : ChangeSpec := { name := "isa80Bytes", fn := fun _ => fun
  | [d1, d2, d3] => { results := [.lit (.bool false)], args := [d1, d2, d3] }
  | _ => none }
def Isa80BytesWrongFalsely : Prop := isa80BytesRow.holds Tryd.pinned (OpenSpec.ofChange isa80BytesWrong)

/-- 'pidginlaw06.Isa80Kinds': WHATEVER THE INPUT: true; the input reads as it did. -/
def isa80KindsSpec : ChangeSpec := { name := "isa80Kinds", fn := fun _ => fun
  | [d] => { results := [.lit (.bool true)], args := [d] }
  | _ => none }
def isa80KindsRow : OpenClaim := { program := "ytlpbomdkcofhhaadoor", sum := "82029702dfd6ebf00b18977c9b7e11c143b9c1e376e1a336c1fe7b55de37637f", func := "pidgin/pidginlaw06.Isa80Kinds", spec := "isa80Kinds", named := ["pidgin/isa80.registers", "pidgin/isa80.reckoners", "pidgin/isa80.pairs", "pidgin/isa80.turns", "pidgin/isa80.conditions", "pidgin/isa80.numbered"], apart := false, laid := [("pidgin/isa80.registers", laid_pidgin_isa80_registers), ("pidgin/isa80.pairs", laid_pidgin_isa80_pairs), ("pidgin/isa80.conditions", laid_pidgin_isa80_conditions), ("pidgin/isa80.reckoners", laid_pidgin_isa80_reckoners), ("pidgin/isa80.numbered", laid_pidgin_isa80_numbered), ("pidgin/isa80.turns", laid_pidgin_isa80_turns)] }
def Isa80KindsSaid : Prop := isa80KindsRow.holds Tryd.pinned (OpenSpec.ofChange isa80KindsSpec)

/-- ITS FALSE NEIGHBOUR: 'it returns false'. Refute it at one input. -/
def isa80KindsWrong : ChangeSpec := { name := "isa80Kinds", fn := fun _ => fun
  | [d] => { results := [.lit (.bool false)], args := [d] }
  | _ => none }
def Isa80KindsWrongFalsely : Prop := isa80KindsRow.holds Tryd.pinned (OpenSpec.ofChange isa80KindsWrong)

/-- 'pidginlaw06.Isa80Back': WHATEVER THE INPUT: true; the input reads as it did. -/
def isa80BackSpec : ChangeSpec := { name := "isa80Back", fn := fun _ => fun
  | [d1, d2, d3] => { results := [.lit (.bool true)], args := [d1, d2, d3] }
  | _ => none }
def isa80BackRow : OpenClaim := { program := "ytlpbomdkcofhhaadoor", sum := "82029702dfd6ebf00b18977c9b7e11c143b9c1e376e1a336c1fe7b55de37637f", func := "pidgin/pidginlaw06.Isa80Back", spec := "isa80Back", named := ["pidgin/isa80.registers", "pidgin/isa80.reckoners", "pidgin/isa80.pairs", "pidgin/isa80.turns", "pidgin/isa80.conditions", "pidgin/isa80.numbered"], apart := false, laid := [("pidgin/isa80.registers", laid_pidgin_isa80_registers), ("pidgin/isa80.pairs", laid_pidgin_isa80_pairs), ("pidgin/isa80.conditions", laid_pidgin_isa80_conditions), ("pidgin/isa80.reckoners", laid_pidgin_isa80_reckoners), ("pidgin/isa80.numbered", laid_pidgin_isa80_numbered), ("pidgin/isa80.turns", laid_pidgin_isa80_turns)] }
def Isa80BackSaid : Prop := isa80BackRow.holds Tryd.pinned (OpenSpec.ofChange isa80BackSpec)

/-- ITS FALSE NEIGHBOUR: 'it returns false'. Refute it at one input. -/
def isa80BackWrong : ChangeSpec := { name := "isa80Back", fn := fun _ => fun
  | [d1, d2, d3] => { results := [.lit (.bool false)], args := [d1, d2, d3] }
  | _ => none }
def Isa80BackWrongFalsely : Prop := isa80BackRow.holds Tryd.pinned (OpenSpec.ofChange isa80BackWrong)

/-- 'pidginlaw06.Isa80Many': WHATEVER THE INPUT: true; the input reads as it did. -/
def isa80ManySpec : ChangeSpec := { name := "isa80Many", fn := fun _ => fun
  | [d] => { results := [.lit (.bool true)], args := [d] }
  | _ => none }
def isa80ManyRow : OpenClaim := { program := "ytlpbomdkcofhhaadoor", sum := "82029702dfd6ebf00b18977c9b7e11c143b9c1e376e1a336c1fe7b55de37637f", func := "pidgin/pidginlaw06.Isa80Many", spec := "isa80Many", named := ["pidgin/isa80.registers", "pidgin/isa80.reckoners", "pidgin/isa80.pairs", "pidgin/isa80.turns", "pidgin/isa80.conditions", "pidgin/isa80.numbered"], apart := false, laid := [("pidgin/isa80.registers", laid_pidgin_isa80_registers), ("pidgin/isa80.pairs", laid_pidgin_isa80_pairs), ("pidgin/isa80.conditions", laid_pidgin_isa80_conditions), ("pidgin/isa80.reckoners", laid_pidgin_isa80_reckoners), ("pidgin/isa80.numbered", laid_pidgin_isa80_numbered), ("pidgin/isa80.turns", laid_pidgin_isa80_turns)] }
def Isa80ManySaid : Prop := isa80ManyRow.holds Tryd.pinned (OpenSpec.ofChange isa80ManySpec)

/-- ITS FALSE NEIGHBOUR: 'it returns false'. Refute it at one input. -/
def isa80ManyWrong : ChangeSpec := { name := "isa80Many", fn := fun _ => fun
  | [d] => { results := [.lit (.bool false)], args := [d] }
  | _ => none }
def Isa80ManyWrongFalsely : Prop := isa80ManyRow.holds Tryd.pinned (OpenSpec.ofChange isa80ManyWrong)

/-- 'pidginlaw06.Isa80Moves': WHATEVER THE INPUT: true; the input reads as it did. -/
def isa80MovesSpec : ChangeSpec := { name := "isa80Moves", fn := fun _ => fun
  | [d1, d2] => { results := [.lit (.bool true)], args := [d1, d2] }
  | _ => none }
def isa80MovesRow : OpenClaim := { program := "ytlpbomdkcofhhaadoor", sum := "82029702dfd6ebf00b18977c9b7e11c143b9c1e376e1a336c1fe7b55de37637f", func := "pidgin/pidginlaw06.Isa80Moves", spec := "isa80Moves", named := ["pidgin/isa80.registers", "pidgin/isa80.reckoners", "pidgin/isa80.pairs", "pidgin/isa80.turns", "pidgin/isa80.conditions", "pidgin/isa80.numbered"], apart := false, laid := [("pidgin/isa80.registers", laid_pidgin_isa80_registers), ("pidgin/isa80.pairs", laid_pidgin_isa80_pairs), ("pidgin/isa80.conditions", laid_pidgin_isa80_conditions), ("pidgin/isa80.reckoners", laid_pidgin_isa80_reckoners), ("pidgin/isa80.numbered", laid_pidgin_isa80_numbered), ("pidgin/isa80.turns", laid_pidgin_isa80_turns)] }
def Isa80MovesSaid : Prop := isa80MovesRow.holds Tryd.pinned (OpenSpec.ofChange isa80MovesSpec)

/-- ITS FALSE NEIGHBOUR: 'it returns false'. Refute it at one input. -/
def isa80MovesWrong : ChangeSpec := { name := "isa80Moves", fn := fun _ => fun
  | [d1, d2] => { results := [.lit (.bool false)], args := [d1, d2] }
  | _ => none }
def Isa80MovesWrongFalsely : Prop := isa80MovesRow.holds Tryd.pinned (OpenSpec.ofChange isa80MovesWrong)

/- THE SECOND FORM. 'bulk': how many values and letters a reading holds, each counted each time it is reached (what is shared counts as often as it is met; a slice's spare places count too). A statement '..UptoSaid' is the law's where the arguments, and the package variables that the reading takes, are together of bulk at most 1048576: NARROWER than '..Said'. Prove '..Said' where nothing that the law and all that it calls make is longer than what came in: it says more and counts as full. Else prove '..UptoSaid'. A law counts once. -/
mutual
def uptoBulk {H : Type} : DataW H → Nat
  | .lit (.string bytes) => bytes.length + 1
  | .lit _ => 1
  | .nil => 1
  | .ptr d => uptoBulk d + 1
  | .slice elems spare => uptoBulkAll elems + uptoBulkAll spare + 1
  | .agg parts => uptoBulkAll parts + 1
  | .iface _ d => uptoBulk d + 1
  | .map entries => uptoBulkEntries entries + 1
  | .held _ => 1
def uptoBulkAll {H : Type} : List (DataW H) → Nat
  | [] => 0
  | d :: r => uptoBulk d + uptoBulkAll r
def uptoBulkEntries {H : Type} : List (Lit × DataW H) → Nat
  | [] => 0
  | x :: r => uptoBulkEntry x + uptoBulkEntries r
def uptoBulkEntry {H : Type} : Lit × DataW H → Nat
  | (.string bytes, d) => bytes.length + uptoBulk d + 1
  | (_, d) => uptoBulk d + 1
 end
def uptoSmall : (H : Type) → List (DataW H) → Bool := fun _ ds => decide (uptoBulkAll ds ≤ 1048576)
def OpenSpec.upto (s : _root_.Go.ChangeSpec) : _root_.Go.OpenSpec := { _root_.Go.OpenSpec.ofChange s with cond := some uptoSmall }

/-- 'pidginlaw06.Isa80Forms', WHERE WHAT IT READS IS OF BULK AT MOST 1048576: true; the input reads as it did. -/
def isa80FormsUptoRow : OpenClaim := { program := "ytlpbomdkcofhhaadoor", sum := "82029702dfd6ebf00b18977c9b7e11c143b9c1e376e1a336c1fe7b55de37637f", func := "pidgin/pidginlaw06.Isa80Forms", spec := "isa80Forms", named := ["pidgin/isa80.registers", "pidgin/isa80.reckoners", "pidgin/isa80.pairs", "pidgin/isa80.turns", "pidgin/isa80.conditions", "pidgin/isa80.numbered"], apart := false, laid := [("pidgin/isa80.registers", laid_pidgin_isa80_registers), ("pidgin/isa80.pairs", laid_pidgin_isa80_pairs), ("pidgin/isa80.conditions", laid_pidgin_isa80_conditions), ("pidgin/isa80.reckoners", laid_pidgin_isa80_reckoners), ("pidgin/isa80.numbered", laid_pidgin_isa80_numbered), ("pidgin/isa80.turns", laid_pidgin_isa80_turns)], narrowed := true }
def Isa80FormsUptoSaid : Prop := isa80FormsUptoRow.holds Tryd.pinned (OpenSpec.upto isa80FormsSpec)

/-- 'pidginlaw06.Isa80Bytes', WHERE WHAT IT READS IS OF BULK AT MOST 1048576: true; the input reads as it did. -/
def isa80BytesUptoRow : OpenClaim := { program := "ytlpbomdkcofhhaadoor", sum := "82029702dfd6ebf00b18977c9b7e11c143b9c1e376e1a336c1fe7b55de37637f", func := "pidgin/pidginlaw06.Isa80Bytes", spec := "isa80Bytes", named := ["pidgin/isa80.registers", "pidgin/isa80.reckoners", "pidgin/isa80.pairs", "pidgin/isa80.turns", "pidgin/isa80.conditions", "pidgin/isa80.numbered"], apart := false, laid := [("pidgin/isa80.registers", laid_pidgin_isa80_registers), ("pidgin/isa80.pairs", laid_pidgin_isa80_pairs), ("pidgin/isa80.conditions", laid_pidgin_isa80_conditions), ("pidgin/isa80.reckoners", laid_pidgin_isa80_reckoners), ("pidgin/isa80.numbered", laid_pidgin_isa80_numbered), ("pidgin/isa80.turns", laid_pidgin_isa80_turns)], narrowed := true }
def Isa80BytesUptoSaid : Prop := isa80BytesUptoRow.holds Tryd.pinned (OpenSpec.upto isa80BytesSpec)

/-- 'pidginlaw06.Isa80Kinds', WHERE WHAT IT READS IS OF BULK AT MOST 1048576: true; the input reads as it did. -/
def isa80KindsUptoRow : OpenClaim := { program := "ytlpbomdkcofhhaadoor", sum := "82029702dfd6ebf00b18977c9b7e11c143b9c1e376e1a336c1fe7b55de37637f", func := "pidgin/pidginlaw06.Isa80Kinds", spec := "isa80Kinds", named := ["pidgin/isa80.registers", "pidgin/isa80.reckoners", "pidgin/isa80.pairs", "pidgin/isa80.turns", "pidgin/isa80.conditions", "pidgin/isa80.numbered"], apart := false, laid := [("pidgin/isa80.registers", laid_pidgin_isa80_registers), ("pidgin/isa80.pairs", laid_pidgin_isa80_pairs), ("pidgin/isa80.conditions", laid_pidgin_isa80_conditions), ("pidgin/isa80.reckoners", laid_pidgin_isa80_reckoners), ("pidgin/isa80.numbered", laid_pidgin_isa80_numbered), ("pidgin/isa80.turns", laid_pidgin_isa80_turns)], narrowed := true }
def Isa80KindsUptoSaid : Prop := isa80KindsUptoRow.holds Tryd.pinned (OpenSpec.upto isa80KindsSpec)

/-- 'pidginlaw06.Isa80Back', WHERE WHAT IT READS IS OF BULK AT MOST 1048576: true; the input reads as it did. -/
def isa80BackUptoRow : OpenClaim := { program := "ytlpbomdkcofhhaadoor", sum := "82029702dfd6ebf00b18977c9b7e11c143b9c1e376e1a336c1fe7b55de37637f", func := "pidgin/pidginlaw06.Isa80Back", spec := "isa80Back", named := ["pidgin/isa80.registers", "pidgin/isa80.reckoners", "pidgin/isa80.pairs", "pidgin/isa80.turns", "pidgin/isa80.conditions", "pidgin/isa80.numbered"], apart := false, laid := [("pidgin/isa80.registers", laid_pidgin_isa80_registers), ("pidgin/isa80.pairs", laid_pidgin_isa80_pairs), ("pidgin/isa80.conditions", laid_pidgin_isa80_conditions), ("pidgin/isa80.reckoners", laid_pidgin_isa80_reckoners), ("pidgin/isa80.numbered", laid_pidgin_isa80_numbered), ("pidgin/isa80.turns", laid_pidgin_isa80_turns)], narrowed := true }
def Isa80BackUptoSaid : Prop := isa80BackUptoRow.holds Tryd.pinned (OpenSpec.upto isa80BackSpec)

/-- 'pidginlaw06.Isa80Many', WHERE WHAT IT READS IS OF BULK AT MOST 1048576: true; the input reads as it did. -/
def isa80ManyUptoRow : OpenClaim := { program := "ytlpbomdkcofhhaadoor", sum := "82029702dfd6ebf00b18977c9b7e11c143b9c1e376e1a336c1fe7b55de37637f", func := "pidgin/pidginlaw06.Isa80Many", spec := "isa80Many", named := ["pidgin/isa80.registers", "pidgin/isa80.reckoners", "pidgin/isa80.pairs", "pidgin/isa80.turns", "pidgin/isa80.conditions", "pidgin/isa80.numbered"], apart := false, laid := [("pidgin/isa80.registers", laid_pidgin_isa80_registers), ("pidgin/isa80.pairs", laid_pidgin_isa80_pairs), ("pidgin/isa80.conditions", laid_pidgin_isa80_conditions), ("pidgin/isa80.reckoners", laid_pidgin_isa80_reckoners), ("pidgin/isa80.numbered", laid_pidgin_isa80_numbered), ("pidgin/isa80.turns", laid_pidgin_isa80_turns)], narrowed := true }
def Isa80ManyUptoSaid : Prop := isa80ManyUptoRow.holds Tryd.pinned (OpenSpec.upto isa80ManySpec)

/-- 'pidginlaw06.Isa80Moves', WHERE WHAT IT READS IS OF BULK AT MOST 1048576: true; the input reads as it did. -/
def isa80MovesUptoRow : OpenClaim := { program := "ytlpbomdkcofhhaadoor", sum := "82029702dfd6ebf00b18977c9b7e11c143b9c1e376e1a336c1fe7b55de37637f", func := "pidgin/pidginlaw06.Isa80Moves", spec := "isa80Moves", named := ["pidgin/isa80.registers", "pidgin/isa80.reckoners", "pidgin/isa80.pairs", "pidgin/isa80.turns", "pidgin/isa80.conditions", "pidgin/isa80.numbered"], apart := false, laid := [("pidgin/isa80.registers", laid_pidgin_isa80_registers), ("pidgin/isa80.pairs", laid_pidgin_isa80_pairs), ("pidgin/isa80.conditions", laid_pidgin_isa80_conditions), ("pidgin/isa80.reckoners", laid_pidgin_isa80_reckoners), ("pidgin/isa80.numbered", laid_pidgin_isa80_numbered), ("pidgin/isa80.turns", laid_pidgin_isa80_turns)], narrowed := true }
def Isa80MovesUptoSaid : Prop := isa80MovesUptoRow.holds Tryd.pinned (OpenSpec.upto isa80MovesSpec)

end Rows
end Go.Proofs.YtlpbomdkcofhhaaDoor

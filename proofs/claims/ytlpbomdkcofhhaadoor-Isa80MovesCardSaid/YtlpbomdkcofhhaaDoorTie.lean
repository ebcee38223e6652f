/-
  DERIVED. GIVEN WITH THE SEED: THE PROGRAM's TIES (one call each: nine closed facts by the kernel) AND EACH ROW's TIE, after the 31st guide's Derived/Test/Toyas{Tie, Card}.lean. No idea stands in it: it is a product of the set-up. Laid BY PROGRAM, IN A SANDBOX (cutbox-door.mjs). By AI agents, Wed Nov 11 2026. No macro, syntax, notation, axiom, sorry.
-/
import Derived.Test.YtlpbomdkcofhhaaDoorRows
import Derived.LaidByTextLater
import Derived.SevenTiedAt
import Derived.LaidSub
import Derived.LaidOnce
namespace Go.Proofs.YtlpbomdkcofhhaaDoor
open Go
set_option maxRecDepth 100000
theorem seatTie1 : Tryd.prog.laidByTextLater [("pidgin/isa80.registers", Rows.laid_pidgin_isa80_registers), ("pidgin/isa80.pairs", Rows.laid_pidgin_isa80_pairs), ("pidgin/isa80.conditions", Rows.laid_pidgin_isa80_conditions), ("pidgin/isa80.reckoners", Rows.laid_pidgin_isa80_reckoners), ("pidgin/isa80.numbered", Rows.laid_pidgin_isa80_numbered), ("pidgin/isa80.turns", Rows.laid_pidgin_isa80_turns)] [.data, .data, .data, .data, .data, .data] true :=
  Program.laidByTextLater_by_one 39 8 9 (by kernel_rfl) (by kernel_rfl) (by kernel_rfl) (by kernel_rfl) (by kernel_rfl) (by kernel_rfl) (fun _ _ => by kernel_rfl)
theorem noOwnUnsafe : Tryd.pinned.checked.prog.headLifts.contains "ownunsafe" = false := by kernel_rfl
theorem tie : Tryd.prog.laidByTextLater [("pidgin/isa80.registers", Rows.laid_pidgin_isa80_registers), ("pidgin/isa80.pairs", Rows.laid_pidgin_isa80_pairs), ("pidgin/isa80.conditions", Rows.laid_pidgin_isa80_conditions), ("pidgin/isa80.reckoners", Rows.laid_pidgin_isa80_reckoners), ("pidgin/isa80.numbered", Rows.laid_pidgin_isa80_numbered), ("pidgin/isa80.turns", Rows.laid_pidgin_isa80_turns)] [.data, .data, .data, .data, .data, .data] true :=
  Program.laidByTextLater.sub seatTie1 ["pidgin/isa80.registers", "pidgin/isa80.pairs", "pidgin/isa80.conditions", "pidgin/isa80.reckoners", "pidgin/isa80.numbered", "pidgin/isa80.turns"] (by kernel_rfl) (by kernel_rfl)
theorem isa80Forms_row_tie : Rows.isa80FormsRow.laidByTextAt .later Tryd.pinned [.data, .data, .data, .data, .data, .data] true :=
  OpenClaim.laidByTextAt_later rfl rfl tie noOwnUnsafe
theorem isa80Bytes_row_tie : Rows.isa80BytesRow.laidByTextAt .later Tryd.pinned [.data, .data, .data, .data, .data, .data] true :=
  OpenClaim.laidByTextAt_later rfl rfl tie noOwnUnsafe
theorem isa80Kinds_row_tie : Rows.isa80KindsRow.laidByTextAt .later Tryd.pinned [.data, .data, .data, .data, .data, .data] true :=
  OpenClaim.laidByTextAt_later rfl rfl tie noOwnUnsafe
theorem isa80Back_row_tie : Rows.isa80BackRow.laidByTextAt .later Tryd.pinned [.data, .data, .data, .data, .data, .data] true :=
  OpenClaim.laidByTextAt_later rfl rfl tie noOwnUnsafe
theorem isa80Many_row_tie : Rows.isa80ManyRow.laidByTextAt .later Tryd.pinned [.data, .data, .data, .data, .data, .data] true :=
  OpenClaim.laidByTextAt_later rfl rfl tie noOwnUnsafe
theorem isa80Moves_row_tie : Rows.isa80MovesRow.laidByTextAt .later Tryd.pinned [.data, .data, .data, .data, .data, .data] true :=
  OpenClaim.laidByTextAt_later rfl rfl tie noOwnUnsafe
theorem isa80FormsUpto_row_tie : Rows.isa80FormsUptoRow.laidByTextAt .later Tryd.pinned [.data, .data, .data, .data, .data, .data] true :=
  OpenClaim.laidByTextAt_later rfl rfl tie noOwnUnsafe
theorem isa80BytesUpto_row_tie : Rows.isa80BytesUptoRow.laidByTextAt .later Tryd.pinned [.data, .data, .data, .data, .data, .data] true :=
  OpenClaim.laidByTextAt_later rfl rfl tie noOwnUnsafe
theorem isa80KindsUpto_row_tie : Rows.isa80KindsUptoRow.laidByTextAt .later Tryd.pinned [.data, .data, .data, .data, .data, .data] true :=
  OpenClaim.laidByTextAt_later rfl rfl tie noOwnUnsafe
theorem isa80BackUpto_row_tie : Rows.isa80BackUptoRow.laidByTextAt .later Tryd.pinned [.data, .data, .data, .data, .data, .data] true :=
  OpenClaim.laidByTextAt_later rfl rfl tie noOwnUnsafe
theorem isa80ManyUpto_row_tie : Rows.isa80ManyUptoRow.laidByTextAt .later Tryd.pinned [.data, .data, .data, .data, .data, .data] true :=
  OpenClaim.laidByTextAt_later rfl rfl tie noOwnUnsafe
theorem isa80MovesUpto_row_tie : Rows.isa80MovesUptoRow.laidByTextAt .later Tryd.pinned [.data, .data, .data, .data, .data, .data] true :=
  OpenClaim.laidByTextAt_later rfl rfl tie noOwnUnsafe
end Go.Proofs.YtlpbomdkcofhhaaDoor

/- From a row's reading of its arguments to what the walks of expressions are told. -/
import Derived.Test.YtaoeipbofhkkcaaGreatDoorExo
import Derived.Test.YtaoeipbofhkkcaaGreatDoorExTwo
import Derived.Test.YtaoeipbofhkkcaaGreatDoorNumArgs5
namespace Go.Proofs.YtaoeipbofhkkcaaGreatDoor
open Go.ChangeShapes Go.WideShapes Go.ChangeAt Go.WideMaps Go.WideElems Go.RowKit Go.Deep

theorem cells25 : Tryz.prog.cellsOf 25 = 4 := by kernel_rfl
theorem cells9 : Tryz.prog.cellsOf 9 = 1 := by kernel_rfl
theorem cells22 : Tryz.prog.cellsOf 22 = 1 := by kernel_rfl
theorem cells23 : Tryz.prog.cellsOf 23 = 1 := by kernel_rfl
theorem cells57 : Tryz.prog.cellsOf 57 = 2 := by kernel_rfl
set_option maxRecDepth 100000 in
theorem ex_arg {H : Type} {enc : TypeId × Value → H} {W : World} {base b0 : Nat} {spare : Nat → Bool} {held : Bool} {fuel : Nat} {v : Value} {x : DataW H × List MemPlace} (hok : Value.okWide Tryz.prog W .any b0 25 v) (h : DataW.trod enc Tryz.prog W base spare held fuel 25 v.cells.toList = some x) : ∃ e, ExV W v e := by
  obtain ⟨cs, rfl, hcs⟩ := okWide_struct Tryz.underlying25 hok
  rw [cells25] at hcs
  have hl : (Value.agg cs).cells.toList = cs.toList := by simp [Value.cells]
  rw [hl] at h
  obtain ⟨v0, v1, v2, v3, e, he, hv⟩ := (exs_open Tryz.underlying23 Tryz.underlying25 rfl rfl rfl rfl rfl rfl rfl rfl Tryz.underlying9 Tryz.underlying22 cells9 cells22 cells23 cells25 fuel fuel (Nat.le_refl _)).1 _ _ h (by simpa using hcs)
  have : cs = #[v0, v1, v2, v3] := by rw [← Array.toArray_toList (xs := cs), he]
  rw [this]
  exact ⟨e, hv⟩
set_option maxRecDepth 100000 in
theorem syms_arg {H : Type} {enc : TypeId × Value → H} {W : World} {base : Nat} {spare : Nat → Bool} {held : Bool} {fuel : Nat} {a : Option Addr} {n c : Nat} {x : DataW H × List MemPlace} (h : DataW.trod enc Tryz.prog W base spare held fuel 26 (Value.slice a n c).cells.toList = some x) : ∃ l, SymR W (.slice a n c) l := by
  have hl : (Value.slice a n c).cells.toList = [Value.slice a n c] := by simp [Value.cells]
  rw [hl] at h
  obtain ⟨l, b, o, sp, c', hv, hsp, hx⟩ := syms_open Tryz.underlying26 Tryz.underlying57 rfl rfl rfl rfl Tryz.underlying9 Tryz.underlying22 cells9 cells22 cells57 h
  exact ⟨l, b, o, sp, c', hv, hsp, hx⟩
end Go.Proofs.YtaoeipbofhkkcaaGreatDoor

/- That 'alive' answers true, and lets all stand that was there before it; where the library's table of bits is laid. -/
import Derived.Test.YtaoeipbofhkkcaaGreatDoorNumShow
namespace Go.Proofs.YtaoeipbofhkkcaaGreatDoor
open Go.RowKit Go.Proofs.NumMath

theorem show255 : showL 255 = [48, 70, 70, 72] := by
  unfold showL hexL
  rw [digits_ge true 16 255 (by omega) (by omega), digits_lt true 16 (255 / 16) (by omega)]
  decide
theorem parse1 (w : World) : Calls Tryz.prog 71 #[.string ⟨#[48, 102, 102, 104]⟩] w fun e w' => e = .returned (.tuple #[.int .u16 255, .int .i64 0]) ∧ Below w.heap.size w w' :=
  (parse_any ⟨#[48, 102, 102, 104]⟩ (by decide) w).mono fun _ _ ⟨he, hb⟩ => ⟨he.trans (by rw [show parseL (⟨#[48, 102, 102, 104]⟩ : ByteArray).data.toList = (255, 0) by decide]; rfl), hb⟩
theorem parse2 (w : World) : Calls Tryz.prog 71 #[.string ⟨#[51, 55, 55, 81]⟩] w fun e w' => e = .returned (.tuple #[.int .u16 255, .int .i64 0]) ∧ Below w.heap.size w w' :=
  (parse_any ⟨#[51, 55, 55, 81]⟩ (by decide) w).mono fun _ _ ⟨he, hb⟩ => ⟨he.trans (by rw [show parseL (⟨#[51, 55, 55, 81]⟩ : ByteArray).data.toList = (255, 0) by decide]; rfl), hb⟩
theorem parse3 (w : World) : Calls Tryz.prog 71 #[.string ⟨#[49, 49, 49, 49, 49, 49, 49, 49, 98]⟩] w fun e w' => e = .returned (.tuple #[.int .u16 255, .int .i64 0]) ∧ Below w.heap.size w w' :=
  (parse_any ⟨#[49, 49, 49, 49, 49, 49, 49, 49, 98]⟩ (by decide) w).mono fun _ _ ⟨he, hb⟩ => ⟨he.trans (by rw [show parseL (⟨#[49, 49, 49, 49, 49, 49, 49, 49, 98]⟩ : ByteArray).data.toList = (255, 0) by decide]; rfl), hb⟩
theorem show1 (w : World) (hT : Tab16 w) : Calls Tryz.prog 63 #[.int .u16 255] w fun e w' => e = .returned (.string ⟨#[48, 70, 70, 72]⟩) ∧ Below w.heap.size w w' :=
  (show_any 255 (by omega) w hT).mono fun _ _ ⟨he, hb⟩ => ⟨he.trans (by rw [show255]), hb⟩
theorem below_two {a b c : World} (h : Below a.heap.size a b) (k : Below b.heap.size b c) : Below a.heap.size a c := h.trans (k.mono h.size)
end Go.Proofs.YtaoeipbofhkkcaaGreatDoor

/- What strconv.FormatUint does at base 16 of a number from 10 to 65535: it answers its digits, and leaves all that was there as it was; where the library's table of bits is laid. -/
import Derived.Test.YtaoeipbofhkkcaaGreatDoorNumTexts
namespace Go.Proofs.YtaoeipbofhkkcaaGreatDoor
open Go.RowKit Go.Proofs.NumMath

/-- the library's table of bits, at the one place that is read -/
def Tab16 (w : World) : Prop := w.cell? ⟨5, 15, none⟩ = some (.int .u8 4)
theorem Tab16.below {w w' : World} (h : Tab16 w) (hb : Below w.heap.size w w') : Tab16 w' := by
  unfold Tab16 at *
  rw [hb.cell (p := ⟨5, 15, none⟩) (World.block_lt_of_cell? _ _ h)]
  exact h
theorem pow_any (w : World) : Calls Tryz.prog 125 #[.int .i64 16] w fun e w' => e = .returned (.bool true) ∧ w = w' := by
  go_enter Tryz.func125, Tryz.ntmps125
  go_wp2
  go_ret
  exact ⟨rfl, rfl⟩
theorem tz_any (w : World) (h : Tab16 w) : Calls Tryz.prog 134 #[.int .u64 16] w fun e w' => e = .returned (.int .i64 4) ∧ w = w' := by
  unfold Tab16 at h
  have key : IntKind.u64.wrap (bits BinOp.and IntKind.u64 16 (IntKind.u64.wrap (-16)) * 285870213051353865) / 288230376151711744 = ((15 : Nat) : Int) := by decide
  go_enter Tryz.func134, Tryz.ntmps134
  go_wp2_with (simp only [key])
  go_ret
  exact ⟨rfl, rfl⟩
theorem tzs_any (w : World) (h : Tab16 w) : Calls Tryz.prog 126 #[.int .u64 16] w fun e w' => e = .returned (.int .i64 4) ∧ w = w' := by
  go_enter Tryz.func126, Tryz.ntmps126
  go_wp2_with (go_at_call 134; refine (tz_any _ h).mono ?_; rintro e w' ⟨rfl, rfl⟩)
  go_ret
  exact ⟨rfl, rfl⟩
theorem len72 : Tryz.prog.arrayLen 142 = 65 := by kernel_rfl
theorem elem72 : Tryz.prog.elem 142 = 5 := by kernel_rfl
theorem under72 : Tryz.prog.underlying 142 = some (.array (Tryz.prog.arrayLen 142) (Tryz.prog.elem 142)) := by kernel_rfl
theorem slice72 (W : World) (b k : Nat) (h : k < 65) : (Instr.sliceAt 142 (.pointer (some ⟨b, 0, none⟩)) (some (.int .i64 (k : Int))) none none).run Tryz.prog W = .ok (.slice (some ⟨b, k, none⟩) (65 - k) (65 - k)) W := by
  rw [run_sliceAt_array_l W 142 ⟨b, 0, none⟩ under72 .i64 (k : Int) (by omega) (by rw [len72]; omega), elem72, Tryz.sizeOf5]
  have e : ¬ 65 = k := by omega
  have e2 : (⟨b, 0, none⟩ : Addr).add k = ⟨b, k, none⟩ := by unfold Addr.add; split <;> simp_all
  simp [Result.andThen, slicedAt, len72, e, e2]
theorem hex_at (j : Nat) (hj : j < 16) (h : j < (⟨#[48, 49, 50, 51, 52, 53, 54, 55, 56, 57, 97, 98, 99, 100, 101, 102, 103, 104, 105, 106, 107, 108, 109, 110, 111, 112, 113, 114, 115, 116, 117, 118, 119, 120, 121, 122]⟩ : ByteArray).size) :
    (⟨#[48, 49, 50, 51, 52, 53, 54, 55, 56, 57, 97, 98, 99, 100, 101, 102, 103, 104, 105, 106, 107, 108, 109, 110, 111, 112, 113, 114, 115, 116, 117, 118, 119, 120, 121, 122]⟩ : ByteArray)[j].toNat = (ch false j).toNat := by
  have hh : ∀ i, i < 16 → (([48, 49, 50, 51, 52, 53, 54, 55, 56, 57, 97, 98, 99, 100, 101, 102, 103, 104, 105, 106, 107, 108, 109, 110, 111, 112, 113, 114, 115, 116, 117, 118, 119, 120, 121, 122] : List UInt8).getD i 0).toNat = (ch false i).toNat := by decide
  rw [← hh j hj]
  simp only [List.getD]
  rw [List.getElem?_eq_getElem (by exact h)]
  rfl
theorem and15 (m : Nat) (h : m ≤ 65535) : bits BinOp.and IntKind.u64 (m : Int) 15 = ((m % 16 : Nat) : Int) := by
  have := bits_and_u64_nat m 15 (by omega) (by omega)
  rw [Nat.and_two_pow_sub_one_eq_mod m 4] at this
  exact this
theorem drop_set {α : Type} (L : List α) (k : Nat) (x : α) (h : 1 ≤ k) (hk : k ≤ L.length) : (L.set (k - 1) x).drop (k - 1) = x :: L.drop k := by
  have hl : k - 1 < (L.set (k - 1) x).length := by rw [List.length_set]; omega
  rw [List.drop_eq_getElem_cons hl, List.getElem_set_self, show k - 1 + 1 = k by omega, List.drop_set_of_lt (by omega)]
theorem zero72 (w : World) : RowAt (w.alloc (.cells Tryz.zeroCells142 142)) w.heap.size (List.replicate 65 0) := by
  intro j hj
  have hj' : j < 65 := by simpa using hj
  have e : Tryz.zeroCells142 = Array.replicate 65 (Value.int .u8 0) := by kernel_rfl
  rw [e]
  refine ⟨?_, ?_⟩
  · rw [List.getElem_replicate]
    simp [World.cell?, World.alloc, -World.alloc_eq, hj']
  · simp [World.frozen?, World.alloc, -World.alloc_eq]
set_option maxRecDepth 100000 in
set_option maxHeartbeats 4000000 in
theorem format_any (n : Nat) (h1 : 10 ≤ n) (h2 : n ≤ 65535) (w : World) (hT : Tab16 w) : Calls Tryz.prog 112 #[.slice none 0 0, .int .u64 n, .int .i64 16, .bool false, .bool false] w fun e w' =>
    e = .returned (.tuple #[.slice none 0 0, .string ⟨(digits false 16 n).toArray⟩]) ∧ Below w.heap.size w w' := by
  have hT' : ∀ o, Tab16 (w.alloc o) := fun o => hT.below ((Below.refl _ _).alloc (Nat.le_refl _) _)
  go_enter Tryz.func112, Tryz.ntmps112
  go_wp2_with (first
    | (go_at_call 125; refine (pow_any _).mono ?_; rintro e w' ⟨rfl, rfl⟩)
    | (go_at_call 126; refine (tzs_any _ (hT' _)).mono ?_; rintro e w' ⟨rfl, rfl⟩))
  have hz := Lib.hid (zero72 w)
  go_loopw [1, 13] (fun u i wr => ∃ (m k : Nat) (L suf : List UInt8), u = .int .u64 m ∧ i = .int .i64 k ∧ L.length = 65 ∧ L.drop k = suf ∧ k + suf.length = 65 ∧ 1 ≤ m ∧ m * 16 ^ suf.length ≤ 65535 ∧ digits false 16 n = digits false 16 m ++ suf ∧ RowAt wr w.heap.size L ∧ Below w.heap.size w wr) (fun u _ _ => (intOf u).toNat)
  case atStart => exact ⟨n, 65, List.replicate 65 0, [], rfl, rfl, by simp, by simp, by simp, by omega, by simpa using h2, by simp, hz.out, (Below.refl _ _).alloc (Nat.le_refl _) _⟩
  case round =>
    obtain ⟨m, k, L, suf, rfl, rfl, hL, hd, hk, hm, hpow, hdig, hr, hB⟩ := hrel
    have hsl : suf.length ≤ 3 := by
      by_cases h : suf.length ≤ 3
      · exact h
      · have := Nat.pow_le_pow_right (show 0 < 16 by omega) (show 4 ≤ suf.length by omega)
        have := Nat.mul_le_mul hm this
        omega
    have hm2 : m ≤ 65535 := by
      have := Nat.pow_pos (n := suf.length) (show 0 < 16 by omega)
      exact Nat.le_trans (Nat.le_mul_of_pos_right m this) hpow
    have hk1 : 1 ≤ k := by omega
    have hkk : k - 1 < L.length := by omega
    obtain ⟨hc1, hc2⟩ := hr (k - 1) hkk
    have HR := Lib.hid hr
    have HD := Lib.hid hd
    have HG := Lib.hid hdig
    clear hr hd hdig
    by_cases hlt : 16 ≤ m
    · have hand := and15 m hm2
      have hx := hex_at (m % 16) (by omega)
      have hm16 : m % 16 < 16 := by omega
      go_wp2
      go_roundw
      case rel =>
        refine ⟨m / 16, k - 1, L.set (k - 1) (ch false (m % 16)), ch false (m % 16) :: suf, by go_num, ?_, by rw [List.length_set]; exact hL, ?_, ?_, by omega, ?_, ?_, HR.out.set (k - 1) hkk _, hB.setCell (Nat.le_refl _) _⟩
        · congr 1; omega
        · rw [drop_set L k _ hk1 (by omega), HD.out]
        · simp; omega
        · have e1 : m / 16 * 16 ≤ m := by omega
          have e2 := Nat.mul_le_mul_right (16 ^ suf.length) e1
          rw [List.length_cons, Nat.pow_succ, Nat.mul_comm (16 ^ suf.length) 16, ← Nat.mul_assoc]
          omega
        · rw [HG.out, digits_ge false 16 m (by omega) hlt]; simp
      case measure => simp [intOf]; omega
    · have hx := hex_at m (by omega)
      have hs72 : ∀ W, (Instr.sliceAt 142 (.pointer (some ⟨w.heap.size, 0, none⟩)) (some (.int .i64 ((k : Int) - 1))) none none).run Tryz.prog W = .ok (.slice (some ⟨w.heap.size, k - 1, none⟩) (65 - (k - 1)) (65 - (k - 1))) W := fun W => by
        have := slice72 W w.heap.size (k - 1) (by omega)
        rw [show ((k - 1 : Nat) : Int) = (k : Int) - 1 by omega] at this
        exact this
      have hr3 := HR.out.set (k - 1) hkk (ch false m)
      have hd3 : (L.set (k - 1) (ch false m)).drop (k - 1) = digits false 16 n := by
        rw [drop_set L k _ hk1 (by omega), HD.out, HG.out, digits_lt false 16 m (by omega)]; rfl
      have hlen : (digits false 16 n).length = 65 - (k - 1) := by
        rw [← hd3, List.length_drop, List.length_set]; omega
      have hcv := run_convert_bytes_back (P := Tryz.prog) (wr.setCell ⟨w.heap.size, k - 1, none⟩ (.int .u8 ((ch false m).toNat : Int))) 59 9 5 ⟨w.heap.size, k - 1, none⟩ (65 - (k - 1)) (digits false 16 n) Tryz.underlying59 Tryz.underlying5 Tryz.underlying9 (fun j hj => by
        have hj2 : (k - 1) + j < (L.set (k - 1) (ch false m)).length := by rw [List.length_set]; omega
        have h3 := (hr3 _ hj2).1
        have e : (⟨w.heap.size, k - 1, none⟩ : Addr).add j = ⟨w.heap.size, k - 1 + j, none⟩ := by unfold Addr.add; split <;> simp_all
        rw [e, h3]
        have e3 : (digits false 16 n)[j] = (L.set (k - 1) (ch false m))[k - 1 + j] := by
          have : (digits false 16 n)[j]? = (L.set (k - 1) (ch false m))[k - 1 + j]? := by rw [← hd3, List.getElem?_drop]
          rw [List.getElem?_eq_getElem hj, List.getElem?_eq_getElem hj2] at this
          exact Option.some.inj this
        rw [e3])
      rw [hlen] at hcv
      clear hd3 hlen hr3
      go_wp2
      go_ret2
      exact ⟨rfl, hB.setCell (Nat.le_refl _) _⟩
theorem fmt40_any (n : Nat) (h1 : 10 ≤ n) (h2 : n ≤ 65535) (w : World) (hT : Tab16 w) : Calls Tryz.prog 98 #[.int .u64 n, .int .i64 16] w fun e w' =>
    e = .returned (.string ⟨(digits false 16 n).toArray⟩) ∧ Below w.heap.size w w' := by
  go_enter Tryz.func98, Tryz.ntmps98
  go_wp2_with (go_at_call 112; refine (format_any n h1 h2 _ hT).mono ?_; rintro e w' ⟨rfl, hb⟩)
  go_ret
  exact ⟨rfl, hb⟩
theorem fmt_any (n : Nat) (h1 : 10 ≤ n) (h2 : n ≤ 65535) (w : World) (hT : Tab16 w) : Calls Tryz.prog 80 #[.int .u64 n, .int .i64 16] w fun e w' =>
    e = .returned (.string ⟨(digits false 16 n).toArray⟩) ∧ Below w.heap.size w w' := by
  go_enter Tryz.func80, Tryz.ntmps80
  go_wp2_with (go_at_call 98; refine (fmt40_any n h1 h2 _ hT).mono ?_; rintro e w' ⟨rfl, hb⟩)
  go_ret
  exact ⟨rfl, hb⟩

/-! ### the law's own digits -/
theorem hex16_at (j : Nat) (hj : j < 16) (h : j < (⟨#[48, 49, 50, 51, 52, 53, 54, 55, 56, 57, 97, 98, 99, 100, 101, 102]⟩ : ByteArray).size) :
    (⟨#[48, 49, 50, 51, 52, 53, 54, 55, 56, 57, 97, 98, 99, 100, 101, 102]⟩ : ByteArray)[j].toNat = (ch false j).toNat := by
  have hh : ∀ i, i < 16 → (([48, 49, 50, 51, 52, 53, 54, 55, 56, 57, 97, 98, 99, 100, 101, 102] : List UInt8).getD i 0).toNat = (ch false i).toNat := by decide
  rw [← hh j hj]
  simp only [List.getD]
  rw [List.getElem?_eq_getElem (by exact h)]
  rfl
theorem one_str (w : World) (c : UInt8) (cap : Nat) : (convert 59 9 (.slice (some ⟨w.heap.size, 0, none⟩) 1 cap)).run Tryz.prog (w.alloc (.cells #[.int .u8 (c.toNat : Int)] 5)) = .ok (.string ⟨#[c]⟩) (w.alloc (.cells #[.int .u8 (c.toNat : Int)] 5)) := by
  have := run_convert_bytes_back (P := Tryz.prog) (w.alloc (.cells #[.int .u8 (c.toNat : Int)] 5)) 59 9 5 ⟨w.heap.size, 0, none⟩ cap [c] Tryz.underlying59 Tryz.underlying5 Tryz.underlying9 (fun j hj => by
    have : j = 0 := by simpa using hj
    subst this
    have e : (⟨w.heap.size, 0, none⟩ : Addr).add 0 = ⟨w.heap.size, 0, none⟩ := by unfold Addr.add; split <;> simp_all
    rw [e]
    exact cell_new _ _ _)
  exact this
end Go.Proofs.YtaoeipbofhkkcaaGreatDoor

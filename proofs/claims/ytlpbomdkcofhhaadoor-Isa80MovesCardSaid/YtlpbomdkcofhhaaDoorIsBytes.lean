/- What the program's Bytes and the document's answer: the bytes of an instruction, or why there are none; the program's tables hold what its text says. -/
import Derived.Test.YtlpbomdkcofhhaaDoorIsByt
import Derived.Test.YtlpbomdkcofhhaaDoorIsOut
import Derived.Test.YtlpbomdkcofhhaaDoorIsRef
namespace Go.Proofs.YtlpbomdkcofhhaaDoor
open Go.RowKit

theorem cells_ins {W : World} {k : Nat} {u0 u1 : Value} {t : TypeId} {fr : Nat × Nat} (h : W.heap[k]? = some (.cells #[u0, u1] t fr)) : W.cell? ⟨k, 0, none⟩ = some u0 ∧ W.cell? ⟨k, 1, none⟩ = some u1 := by simp [World.cell?, h]
/-- the bytes of an instruction of a size, and why there are none -/
def bytesS (s op n : Nat) : List Nat × Nat :=
  if s = 0 then ([], 8) else if s = 1 then (if n = 0 then ([op], 0) else ([], 5)) else if s = 2 then (if n ≤ 255 then ([op, n], 0) else ([], 5)) else ([op, n % 256, n / 256], 0)
theorem byteR_block {W : World} {k s c : Nat} {l : List Nat} {cs : Array Value} {t : TypeId} {fr : Nat × Nat} (h : W.heap[k]? = some (.cells cs t fr)) (hs : l.length = s) (hc : s ≤ c) (hl : ∀ (i x : Nat), l[i]? = some x → x < 256 ∧ cs[i]? = some (Value.int .u8 (x : Nat))) : ByteR W (.slice (some ⟨k, 0, none⟩) s c) l := by
  subst hs
  refine ⟨k, 0, _, c, rfl, hc, fun _ => rfl, fun i x hx => ⟨(hl i x hx).1, ?_⟩⟩
  rw [Nat.zero_add]
  unfold World.cell?
  simp only [h]
  exact (hl i x hx).2
theorem byteR1 {W : World} {k c : Nat} {a : Nat} {cs : List Value} {t : TypeId} {fr : Nat × Nat} (h : W.heap[k]? = some (.cells (.int .u8 a :: cs).toArray t fr)) (ha : a < 256) (hc : 1 ≤ c) : ByteR W (.slice (some ⟨k, 0, none⟩) 1 c) [a] :=
  byteR_block h rfl hc fun i x hx => by
    match i, hx with
    | 0, hx => simp at hx; subst hx; exact ⟨ha, by simp⟩
    | i + 1, hx => simp at hx
theorem byteR2 {W : World} {k c : Nat} {a b : Nat} {cs : List Value} {t : TypeId} {fr : Nat × Nat} (h : W.heap[k]? = some (.cells (.int .u8 a :: .int .u8 b :: cs).toArray t fr)) (ha : a < 256) (hb : b < 256) (hc : 2 ≤ c) : ByteR W (.slice (some ⟨k, 0, none⟩) 2 c) [a, b] :=
  byteR_block h rfl hc fun i x hx => by
    match i, hx with
    | 0, hx => simp at hx; subst hx; exact ⟨ha, by simp⟩
    | 1, hx => simp at hx; subst hx; exact ⟨hb, by simp⟩
    | i + 2, hx => simp at hx
theorem byteR3 {W : World} {k c : Nat} {a b d : Nat} {t : TypeId} {fr : Nat × Nat} (h : W.heap[k]? = some (.cells #[.int .u8 a, .int .u8 b, .int .u8 d] t fr)) (ha : a < 256) (hb : b < 256) (hd : d < 256) (hc : 3 ≤ c) : ByteR W (.slice (some ⟨k, 0, none⟩) 3 c) [a, b, d] :=
  byteR_block h rfl hc fun i x hx => by
    match i, hx with
    | 0, hx => simp at hx; subst hx; exact ⟨ha, by simp⟩
    | 1, hx => simp at hx; subst hx; exact ⟨hb, by simp⟩
    | 2, hx => simp at hx; subst hx; exact ⟨hd, by simp⟩
    | i + 3, hx => simp at hx
set_option maxHeartbeats 1000000 in
theorem bytes_any (op n : Nat) (h : op < 256) (hn : n < 65536) (w : World) (hT : Tabs w) : Calls Tryd.prog 17 #[.agg #[.int .u8 op, .int .u16 n]] w fun e w' => ∃ v, e = .returned (.tuple #[v, .int .i64 ((bytesS (sizeF (formL op)) op n).2 : Nat)]) ∧ ByteR w' v (bytesS (sizeF (formL op)) op n).1 ∧ Below w.heap.size w w' := by
  have HS := Lib.hid (fun o => size_any op h (w.alloc o) (hT.alloc o))
  have hs3 := (size_form h).2.2.1
  generalize sizeF (formL op) = s at HS hs3 ⊢
  clear hT
  match s, hs3 with
  | 0, _ =>
    go_enter Tryd.func17, Tryd.ntmps17
    go_wp2_with (go_at_call 14; refine (HS.out _).mono ?_; rintro _ w1 ⟨rfl, hb1⟩; obtain ⟨k0, k1⟩ := cells_ins (at_below hb1 (at_new w _)); have HB := Lib.hid (below_new _ hb1); clear hb1)
    go_ret2
    exact ⟨_, rfl, byteR_nil _, HB.out⟩
  | 1, _ =>
    by_cases h0 : n = 0
    · subst h0
      go_enter Tryd.func17, Tryd.ntmps17
      go_wp2_with (go_at_call 14; refine (HS.out _).mono ?_; rintro _ w1 ⟨rfl, hb1⟩; obtain ⟨k0, k1⟩ := cells_ins (at_below hb1 (at_new w _)); have HB := Lib.hid (below_new _ hb1); clear hb1)
      have e : bytesS 1 op 0 = ([op], 0) := rfl
      rw [e]
      go_ret2
      exact ⟨_, rfl, byteR1 (cs := [_, _]) (at_new _ _) h (by decide), HB.out.alloc HB.out.size _⟩
    · have hb : ((n : Int) != 0) = true := by rw [bne_iff_ne]; omega
      have e : bytesS 1 op n = ([], 5) := by unfold bytesS; rw [if_neg (by decide), if_pos rfl, if_neg h0]
      rw [e]
      go_enter Tryd.func17, Tryd.ntmps17
      go_wp2_with (go_at_call 14; refine (HS.out _).mono ?_; rintro _ w1 ⟨rfl, hb1⟩; obtain ⟨k0, k1⟩ := cells_ins (at_below hb1 (at_new w _)); have HB := Lib.hid (below_new _ hb1); clear hb1)
      go_ret2
      exact ⟨_, rfl, byteR_nil _, HB.out⟩
  | 2, _ =>
    by_cases h0 : n ≤ 255
    · have hb : decide (255 < (n : Int)) = false := decide_eq_false (by omega)
      go_enter Tryd.func17, Tryd.ntmps17
      go_wp2_with (go_at_call 14; refine (HS.out _).mono ?_; rintro _ w1 ⟨rfl, hb1⟩; obtain ⟨k0, k1⟩ := cells_ins (at_below hb1 (at_new w _)); have HB := Lib.hid (below_new _ hb1); clear hb1)
      have e : bytesS 2 op n = ([op, n], 0) := by unfold bytesS; rw [if_neg (by decide), if_neg (by decide), if_pos rfl, if_pos h0]
      rw [e]
      go_ret2
      exact ⟨_, rfl, byteR2 (cs := [_]) (at_new _ _) h (by omega) (by decide), HB.out.alloc HB.out.size _⟩
    · have hb : decide (255 < (n : Int)) = true := decide_eq_true (by omega)
      have e : bytesS 2 op n = ([], 5) := by unfold bytesS; rw [if_neg (by decide), if_neg (by decide), if_pos rfl, if_neg h0]
      rw [e]
      go_enter Tryd.func17, Tryd.ntmps17
      go_wp2_with (go_at_call 14; refine (HS.out _).mono ?_; rintro _ w1 ⟨rfl, hb1⟩; obtain ⟨k0, k1⟩ := cells_ins (at_below hb1 (at_new w _)); have HB := Lib.hid (below_new _ hb1); clear hb1)
      go_ret2
      exact ⟨_, rfl, byteR_nil _, HB.out⟩
  | 3, _ =>
    go_enter Tryd.func17, Tryd.ntmps17
    go_wp2_with (go_at_call 14; refine (HS.out _).mono ?_; rintro _ w1 ⟨rfl, hb1⟩; obtain ⟨k0, k1⟩ := cells_ins (at_below hb1 (at_new w _)); have HB := Lib.hid (below_new _ hb1); clear hb1)
    go_ret2
    exact ⟨_, rfl, byteR3 (a := op) (b := n % 256) (d := n / 256) (at_new _ _) h (by omega) (by omega) (by decide), HB.out.alloc HB.out.size _⟩
set_option maxHeartbeats 1000000 in
theorem rbytes_any (op n : Nat) (h : op < 256) (hn : n < 65536) (w : World) : Calls Tryd.prog 18 #[.int .u8 op, .int .u16 n] w fun e w' => ∃ v, e = .returned (.tuple #[v, .int .i64 ((bytesS (sizeF (formL op)) op n).2 : Nat)]) ∧ ByteR w' v (bytesS (sizeF (formL op)) op n).1 ∧ Below w.heap.size w w' := by
  have HS := Lib.hid (rsize_any op h w)
  have hs3 := (size_form h).2.2.1
  have hz : bits .and .u16 (n : Int) 255 = (n : Int) % 256 := by
    have h1 : (BitVec.ofInt 16 (n : Int)).toNat = n := by rw [BitVec.toNat_ofInt]; omega
    have h2 : (BitVec.ofInt 16 255).toNat = 255 := by decide
    show IntKind.u16.wrap (((BitVec.ofInt 16 (n : Int) &&& BitVec.ofInt 16 255).toNat : Nat) : Int) = _
    rw [BitVec.toNat_and, h1, h2, show (255 : Nat) = 2 ^ 8 - 1 from rfl, Nat.and_two_pow_sub_one_eq_mod]
    have e1 : IntKind.u16.signed = false := rfl
    have e2 : IntKind.u16.bits = 16 := rfl
    simp only [IntKind.wrap, e1, e2]
    simp
    omega
  generalize sizeF (formL op) = s at HS hs3 ⊢
  match s, hs3 with
  | 0, _ =>
    go_enter Tryd.func18, Tryd.ntmps18
    go_wp2_with (go_at_call 15; refine HS.out.mono ?_; rintro _ w1 ⟨rfl, hb1⟩; have HB := Lib.hid hb1; clear hb1)
    go_ret2
    exact ⟨_, rfl, byteR_nil _, HB.out⟩
  | 1, _ =>
    by_cases h0 : n = 0
    · subst h0
      go_enter Tryd.func18, Tryd.ntmps18
      go_wp2_with (go_at_call 15; refine HS.out.mono ?_; rintro _ w1 ⟨rfl, hb1⟩; have HB := Lib.hid hb1; clear hb1)
      have e : bytesS 1 op 0 = ([op], 0) := rfl
      rw [e]
      go_ret2
      exact ⟨_, rfl, byteR1 (cs := []) (at_new _ _) h (by decide), HB.out.alloc HB.out.size _⟩
    · have hb : ((n : Int) != 0) = true := by rw [bne_iff_ne]; omega
      have e : bytesS 1 op n = ([], 5) := by unfold bytesS; rw [if_neg (by decide), if_pos rfl, if_neg h0]
      rw [e]
      go_enter Tryd.func18, Tryd.ntmps18
      go_wp2_with (go_at_call 15; refine HS.out.mono ?_; rintro _ w1 ⟨rfl, hb1⟩; have HB := Lib.hid hb1; clear hb1)
      go_ret2
      exact ⟨_, rfl, byteR_nil _, HB.out⟩
  | 2, _ =>
    by_cases h0 : n ≤ 255
    · have hb : decide (255 < (n : Int)) = false := decide_eq_false (by omega)
      go_enter Tryd.func18, Tryd.ntmps18
      go_wp2_with (go_at_call 15; refine HS.out.mono ?_; rintro _ w1 ⟨rfl, hb1⟩; have HB := Lib.hid hb1; clear hb1)
      have e : bytesS 2 op n = ([op, n], 0) := by unfold bytesS; rw [if_neg (by decide), if_neg (by decide), if_pos rfl, if_pos h0]
      rw [e]
      go_ret2
      exact ⟨_, rfl, byteR2 (cs := []) (at_new _ _) h (by omega) (by decide), HB.out.alloc HB.out.size _⟩
    · have hb : decide (255 < (n : Int)) = true := decide_eq_true (by omega)
      have e : bytesS 2 op n = ([], 5) := by unfold bytesS; rw [if_neg (by decide), if_neg (by decide), if_pos rfl, if_neg h0]
      rw [e]
      go_enter Tryd.func18, Tryd.ntmps18
      go_wp2_with (go_at_call 15; refine HS.out.mono ?_; rintro _ w1 ⟨rfl, hb1⟩; have HB := Lib.hid hb1; clear hb1)
      go_ret2
      exact ⟨_, rfl, byteR_nil _, HB.out⟩
  | 3, _ =>
    go_enter Tryd.func18, Tryd.ntmps18
    go_wp2_with (go_at_call 15; refine HS.out.mono ?_; rintro _ w1 ⟨rfl, hb1⟩; have HB := Lib.hid hb1; clear hb1)
    go_ret2
    exact ⟨_, rfl, byteR3 (a := op) (b := n % 256) (d := n / 256) (at_new _ _) h (by omega) (by omega) (by decide), HB.out.alloc HB.out.size _⟩
end Go.Proofs.YtlpbomdkcofhhaaDoor

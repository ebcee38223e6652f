/- The walk of Isa80Bytes: it answers true of any instruction and of any bytes; the program's tables hold what its text says. -/
import Derived.Test.YtlpbomdkcofhhaaDoorIsAlive
import Derived.Test.YtlpbomdkcofhhaaDoorIsRread
namespace Go.Proofs.YtlpbomdkcofhhaaDoor
open Go.RowKit

theorem bytesS_len (s op n : Nat) : (bytesS s op n).1.length ≤ 3 := by
  unfold bytesS
  split
  · simp
  · split
    · split <;> simp
    · split
      · split <;> simp
      · simp
theorem underI : Tryd.prog.underlying 35 = some (.struct (Tryd.prog.fieldsOf 35)) := by kernel_rfl
theorem fieldsI : (Tryd.prog.fieldsOf 35).toList = [{ name := "Op", type := 5, offset := 0, embedded := false, tag := "", pkgPath := "", byteOffset := 0 }, { name := "N", type := 29, offset := 1, embedded := false, tag := "", pkgPath := "", byteOffset := 2 }] := by kernel_rfl
theorem eqI (a b : Nat) (w : World) : (Op.equalIn 10000 35 (.agg #[.int .u8 (a : Nat), .int .u16 (b : Nat)]) (.agg #[.int .u8 (a : Nat), .int .u16 (b : Nat)])).run Tryd.prog w = .ok true w := by
  rw [show (10000 : Nat) = 9999 + 1 from rfl, run_equalIn_agg (P := Tryd.prog) w 9999 35 _ _ underI (by kernel_rfl), fieldsI]
  have p1 : ∀ a b : Value, (part 5 #[a, b] 0).run Tryd.prog w = .ok a w := fun a b => by simp [part, Tryd.isAgg5]
  have p2 : ∀ a b : Value, (part 29 #[a, b] 1).run Tryd.prog w = .ok b w := fun a b => by simp [part, Tryd.isAgg29]
  have e1 := run_equalIn_int (P := Tryd.prog) w 9998 5 .u8 .u8 a a Tryd.underlying5
  have e2 := run_equalIn_int (P := Tryd.prog) w 9998 29 .u16 .u16 b b Tryd.underlying29
  have n1 : ("Op" : String) ≠ "_" := by decide
  have n2 : ("N" : String) ≠ "_" := by decide
  simp only [Op.eqFields, if_pos n1, if_pos n2, Sem.run_bind, p1, p2, e1, e2, Result.andThen_ok, Sem.run_ite, Sem.run_pure]
  simp
set_option maxHeartbeats 4000000 in
theorem isa80Bytes_walk (op n : Nat) (h : op < 256) (hn : n < 65536) (a : Option Addr) (len cap : Nat) (l : List Nat) (w : World) (hv : ByteR w (.slice a len cap) l) (hT : Tabs w) : Calls Tryd.prog 4 #[.int .u8 op, .int .u16 n, .slice a len cap] w fun e w' => e = .returned (.bool true) ∧ Below w.heap.size w w' := by
  have hlen : len = l.length := by
    obtain ⟨b, o, sp, c, e, _⟩ := hv
    simp only [Value.slice.injEq] at e
    exact e.2.1
  have HA := Lib.hid (fun w hT => alive_any w hT)
  have HV := Lib.hid hv
  have HT := Lib.hid hT
  clear hv hT
  by_cases h1000 : 1000 < len
  · have hb : decide ((1000 : Int) < len) = true := decide_eq_true (by omega)
    go_enter Tryd.func4, Tryd.ntmps4
    go_wp2_with (go_at_call 16; refine (HA.out _ HT.out).mono ?_; rintro _ w8 ⟨rfl, hb⟩; have B8 := Lib.hid hb; clear hb)
    go_ret
    exact ⟨rfl, B8.out⟩
  have hb : decide ((1000 : Int) < len) = false := decide_eq_false (by omega)
  have H1 := Lib.hid (fun w hT => bytes_any op n h hn w hT)
  have H2 := Lib.hid (fun w => rbytes_any op n h hn w)
  have H3 := Lib.hid (fun w hv hT => read_any l (by omega) (.slice a len cap) w hv hT)
  have H4 := Lib.hid (fun w hv => rread_any l (by omega) (.slice a len cap) w hv)
  have hbl := bytesS_len (sizeF (formL op)) op n
  generalize bytesS (sizeF (formL op)) op n = B at H1 H2 hbl
  obtain ⟨bs, k⟩ := B
  generalize readL l = R at H3 H4
  obtain ⟨ro, rn, rs, rk⟩ := R
  simp only at H1 H2 H3 H4 hbl
  have HX := Lib.hid (fun va vb w ha hb => byteseq_any bs bs (by omega) va vb w ha hb)
  rw [decide_eq_true (rfl : bs = bs)] at HX
  clear hbl hlen h1000
  have hq := eqI ro rn
  go_enter Tryd.func4, Tryd.ntmps4
  go_wp2_with (first
    | (go_at_call 17; refine (H1.out _ HT.out).mono ?_; rintro _ w1 ⟨v1, rfl, hR, hb1⟩; have R1 := Lib.hid hR; have B1 := Lib.hid hb1; clear hb1 hR)
    | (go_at_call 18; refine (H2.out _).mono ?_; rintro _ w2 ⟨v2, rfl, hR, hb1⟩; have R2 := Lib.hid hR; have R1' := Lib.hid (R1.out.below hb1); have B2 := Lib.hid (below_step B1.out hb1); clear hb1 hR)
    | (go_at_call 19; refine (H3.out _ (HV.out.below B2.out) (HT.out.below B2.out)).mono ?_; rintro _ w3 ⟨rfl, hb1⟩; have R2' := Lib.hid (R2.out.below hb1); have R1'' := Lib.hid (R1'.out.below hb1); have B3 := Lib.hid (below_step B2.out hb1); clear hb1)
    | (go_at_call 20; refine (H4.out _ ((HV.out.below B3.out).alloc _)).mono ?_; rintro _ w4 ⟨rfl, hb1⟩; have K4 := Lib.hid (at_below hb1 (at_new w3 _)); have B34 := Lib.hid (below_new _ hb1); clear hb1)
    | (go_at_call 21; refine (HX.out _ _ _ (R1''.out.below B34.out) (R2'.out.below B34.out)).mono ?_; rintro _ w5 ⟨rfl, hb1⟩; obtain ⟨k0, k1⟩ := cells_ins (at_below hb1 K4.out); have B5 := Lib.hid (below_step (below_step B3.out B34.out) hb1); clear hb1)
    | (go_at_call 16; refine (HA.out _ (HT.out.below B5.out)).mono ?_; rintro _ w8 ⟨rfl, hb1⟩; have B8 := Lib.hid (below_step B5.out hb1); clear hb1))
  go_ret
  exact ⟨rfl, B8.out⟩
end Go.Proofs.YtlpbomdkcofhhaaDoor

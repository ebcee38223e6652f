/- Bytes in memory: what can be read of a row of them, whether two rows are the same, and the number of at most two of them; a row that is held against another is short. -/
import Derived.Test.YtlpbomdkcofhhaaDoorIsSame
namespace Go.Proofs.YtlpbomdkcofhhaaDoor
open Go.RowKit

/-- what can be read of a row of bytes -/
def ByteR (w : World) (v : Value) (l : List Nat) : Prop := ∃ b o sp c, v = .slice sp l.length c ∧ l.length ≤ c ∧ (0 < l.length → sp = some ⟨b, o, none⟩) ∧
  ∀ i x, l[i]? = some x → x < 256 ∧ w.cell? ⟨b, o + i, none⟩ = some (.int .u8 (x : Nat))
theorem ByteR.keep {w w' : World} {v : Value} {l : List Nat} (h : ByteR w v l) (hk : ∀ p u, w.cell? p = some u → w'.cell? p = some u) : ByteR w' v l := by
  obtain ⟨b, o, sp, c, h1, hc, h2, h3⟩ := h
  exact ⟨b, o, sp, c, h1, hc, h2, fun i x hx => ⟨(h3 i x hx).1, hk _ _ (h3 i x hx).2⟩⟩
theorem ByteR.below {w w' : World} {v : Value} {l : List Nat} (h : ByteR w v l) (hb : Below w.heap.size w w') : ByteR w' v l := h.keep (keep_below hb)
theorem ByteR.alloc {w : World} {v : Value} {l : List Nat} (h : ByteR w v l) (o : Obj) : ByteR (w.alloc o) v l := h.keep fun _ _ hu => cell_alloc o hu
theorem byteR_nil (w : World) : ByteR w (.slice none 0 0) [] := ⟨0, 0, none, 0, rfl, Nat.le_refl _, by simp, by simp⟩
set_option maxHeartbeats 1000000 in
theorem byteseq_any (l m : List Nat) (hl : l.length ≤ 1000000) (va vb : Value) (w : World) (ha : ByteR w va l) (hb : ByteR w vb m) : Calls Tryd.prog 21 #[va, vb] w fun e w' => e = .returned (.bool (decide (l = m))) ∧ Below w.heap.size w w' := by
  obtain ⟨b, o, sp, c, rfl, hc, h2, h3⟩ := ha
  obtain ⟨b', o', sp', c', rfl, hc', h2', h3'⟩ := hb
  by_cases hlen : l.length = m.length
  · have H2 := Lib.hid h2
    have H3 := Lib.hid h3
    have H2' := Lib.hid h2'
    have H3' := Lib.hid h3'
    clear h2 h3 h2' h3'
    obtain ⟨n, hn⟩ : ∃ n, l.length = n := ⟨_, rfl⟩
    have hn' : m.length = n := by omega
    have HN := Lib.hid hn
    have HN' := Lib.hid hn'
    rw [hn] at hl hc ⊢
    rw [hn'] at hc' ⊢
    clear hn hn' hlen
    have HD : ∀ k, Hid (l.take k = m.take k → n ≤ k → decide (l = m) = true) := fun k => Lib.hid fun h hk => by
      rw [List.take_of_length_le (by rw [HN.out]; exact hk), List.take_of_length_le (by rw [HN'.out]; exact hk)] at h
      exact decide_eq_true h
    generalize hd : decide (l = m) = d at HD ⊢
    have HDD := Lib.hid hd
    clear hd
    go_enter Tryd.func21, Tryd.ntmps21
    go_wp2
    go_loopw [5] (fun i wr => ∃ k : Nat, k ≤ n ∧ i = .int .i64 k ∧ Hid (Below w.heap.size w wr) ∧ Hid (l.take k = m.take k)) (fun i _ => n - (intOf i).toNat)
    case atStart => exact ⟨0, Nat.zero_le _, rfl, Lib.hid (Below.refl _ _), Lib.hid rfl⟩
    case round =>
      obtain ⟨k, hk, rfl, hB, hx⟩ := hrel
      by_cases hlt : k < n
      · have hi : k < l.length := by rw [HN.out]; exact hlt
        have hi' : k < m.length := by rw [HN'.out]; exact hlt
        obtain ⟨x, hy⟩ : ∃ y, l[k]? = some y := ⟨_, List.getElem?_eq_getElem hi⟩
        obtain ⟨y, hy'⟩ : ∃ y, m[k]? = some y := ⟨_, List.getElem?_eq_getElem hi'⟩
        obtain rfl := H2.out (by rw [HN.out]; omega)
        obtain rfl := H2'.out (by rw [HN'.out]; omega)
        have k0 := keep_below hB.out _ _ (H3.out k x hy).2
        have k1 := keep_below hB.out _ _ (H3'.out k y hy').2
        have HY := Lib.hid hy
        have HY' := Lib.hid hy'
        clear hy hy'
        by_cases he : x = y
        · subst he
          have hxx : ((x : Int) != x) = false := by simp
          go_wp2
          go_quiet (fail)
          go_wp2
          go_roundw
          case rel => exact ⟨k + 1, by omega, by go_num, Lib.hid (below_drewN hB.out _), Lib.hid (by rw [List.take_add_one, List.take_add_one, HY.out, HY'.out, hx.out])⟩
          case measure => simp [intOf]; omega
        · have hbb : ((x : Int) == y) = false := by rw [beq_eq_false_iff_ne]; omega
          have hbn : ((x : Int) != y) = true := by rw [bne_iff_ne]; omega
          obtain rfl : d = false := by
            rw [← HDD.out]
            refine decide_eq_false fun e => he ?_
            have h1 := HY.out
            rw [e, HY'.out] at h1
            exact (Option.some.inj h1).symm
          go_wp2
          go_quiet (fail)
          go_wp2
          go_ret
          exact ⟨rfl, below_drewN hB.out _⟩
      · obtain rfl : k = n := by omega
        have hd := (HD k).out hx.out (Nat.le_refl _)
        subst hd
        clear HD
        go_wp2
        go_ret
        exact ⟨rfl, hB.out⟩
  · have hd : decide (l = m) = false := decide_eq_false fun e => hlen (by rw [e])
    rw [hd]
    clear h2 h3 h2' h3' hd
    generalize l.length = p at hlen hc ⊢
    generalize m.length = q at hlen hc' ⊢
    have hb1 : ((p : Int) == q) = false := by rw [beq_eq_false_iff_ne]; omega
    have hb2 : ((p : Int) != q) = true := by rw [bne_iff_ne]; omega
    go_enter Tryd.func21, Tryd.ntmps21
    go_wp2
    go_ret
    exact ⟨rfl, Below.refl _ _⟩
theorem or_zero {x : Nat} (h : x < 256) : bits .or .u16 0 (x : Int) = (x : Int) :=
  of_decide_eq_true (List.all_eq_true.1 (show ((List.range 256).all fun (n : Nat) => decide (bits .or .u16 0 (n : Int) = (n : Int))) = true by kernel_rfl) x (List.mem_range.2 h))
theorem or_high {x y : Nat} (hx : x < 256) (hy : y < 256) : bits .or .u16 (x : Int) ((y : Int) * 256) = ((x + y * 256 : Nat) : Int) := by
  have h1 : (BitVec.ofInt 16 (x : Int)).toNat = x := by rw [BitVec.toNat_ofInt]; omega
  have h2 : (BitVec.ofInt 16 ((y : Int) * 256)).toNat = y * 256 := by rw [BitVec.toNat_ofInt]; omega
  have h3 : x ||| y * 256 = x + y * 256 := by
    have := Nat.shiftLeft_add_eq_or_of_lt (b := x) (i := 8) hx y
    rw [Nat.shiftLeft_eq] at this
    rw [Nat.or_comm, Nat.add_comm]
    exact this.symm
  show IntKind.u16.wrap (((BitVec.ofInt 16 (x : Int) ||| BitVec.ofInt 16 ((y : Int) * 256)).toNat : Nat) : Int) = _
  rw [BitVec.toNat_or, h1, h2, h3]
  have h4 : (x + y * 256 : Nat) < 65536 := by omega
  generalize x + y * 256 = z at h4
  have e1 : IntKind.u16.signed = false := rfl
  have e2 : IntKind.u16.bits = 16 := rfl
  simp only [IntKind.wrap, e1, e2]
  simp
  omega
set_option maxHeartbeats 1000000 in
theorem lowFirst_any (l : List Nat) (hl : l.length ≤ 2) (v : Value) (w : World) (hv : ByteR w v l) : Calls Tryd.prog 34 #[v] w fun e w' => e = .returned (.int .u16 (l.getD 0 0 + l.getD 1 0 * 256 : Nat)) ∧ w' = w := by
  obtain ⟨b, o, sp, c, rfl, hc, h2, h3⟩ := hv
  match l, hl with
  | [], _ =>
    go_enter Tryd.func34, Tryd.ntmps34
    go_wp2
    go_loopw [3, 4, 5, 8] (fun n _ _ i wr => n = .int .u16 0 ∧ i = .int .i64 0 ∧ wr = w) (fun _ _ _ i _ => 0)
    case atStart => exact ⟨rfl, rfl, rfl⟩
    case round =>
      obtain ⟨rfl, rfl, rfl⟩ := hrel
      go_wp2
      go_ret
      exact ⟨rfl, rfl⟩
  | [x], _ =>
    obtain rfl := h2 (by simp)
    obtain ⟨hx, k0⟩ := h3 0 x rfl
    rw [Nat.add_zero] at k0
    clear h3
    go_enter Tryd.func34, Tryd.ntmps34
    go_wp2
    go_loopw [3, 4, 5, 8] (fun n _ _ i wr => ∃ k : Nat, k ≤ 1 ∧ n = .int .u16 (if k = 0 then 0 else (x : Int)) ∧ i = .int .i64 k ∧ wr = w) (fun _ _ _ i _ => 1 - (intOf i).toNat)
    case atStart => exact ⟨0, by omega, rfl, rfl, rfl⟩
    case round =>
      obtain ⟨k, hk, rfl, rfl, rfl⟩ := hrel
      match k, hk with
      | 0, _ =>
        go_wp2
        refine ⟨⟨1, by omega, ?_, rfl, trivial⟩, by simp [intOf]⟩
        rw [or_zero hx]
        rfl
      | 1, _ =>
        go_wp2
        go_ret
        exact ⟨by simp, rfl⟩
  | [x, y], _ =>
    obtain rfl := h2 (by simp)
    obtain ⟨hx, k0⟩ := h3 0 x rfl
    obtain ⟨hy, k1⟩ := h3 1 y rfl
    rw [Nat.add_zero] at k0
    clear h3
    go_enter Tryd.func34, Tryd.ntmps34
    go_wp2
    go_loopw [3, 4, 5, 8] (fun n _ _ i wr => ∃ k : Nat, k ≤ 2 ∧ n = .int .u16 (if k = 0 then 0 else if k = 1 then (x : Int) else ((x + y * 256 : Nat) : Int)) ∧ i = .int .i64 k ∧ wr = w) (fun _ _ _ i _ => 2 - (intOf i).toNat)
    case atStart => exact ⟨0, by omega, rfl, rfl, rfl⟩
    case round =>
      obtain ⟨k, hk, rfl, rfl, rfl⟩ := hrel
      match k, hk with
      | 0, _ =>
        go_wp2
        refine ⟨⟨1, by omega, ?_, rfl, trivial⟩, by simp [intOf]⟩
        rw [or_zero hx]
        rfl
      | 1, _ =>
        go_wp2
        refine ⟨⟨2, by omega, ?_, rfl, trivial⟩, by simp [intOf]⟩
        rw [or_high hx hy]
        rfl
      | 2, _ =>
        go_wp2
        go_ret
        exact ⟨by simp, rfl⟩
end Go.Proofs.YtlpbomdkcofhhaaDoor

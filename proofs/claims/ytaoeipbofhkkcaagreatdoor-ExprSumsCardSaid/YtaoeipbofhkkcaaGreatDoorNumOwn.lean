/- Rows of bytes that a call owns: to append one byte, and to make a string of them; no condition but that a row is shorter than 140737488355328 bytes. -/
import Derived.Test.YtaoeipbofhkkcaaGreatDoorNumParse
import Derived.Laws.AppendOwn
import Derived.Laws.IdiomStrings
import Derived.Laws.OwnMore
import Derived.Laws.Concat
import Derived.ArgAppend
import Derived.Below
import Derived.WalkSmall
import Derived.Lib.ConvBytes
import Derived.Lib.OthersKept
import Derived.Lib.SlBytesConst
namespace Go.Proofs.YtaoeipbofhkkcaaGreatDoor
open Go.RowKit Go.Proofs.NumMath

def bys (l : List UInt8) : List Value := l.map fun b => Value.int .u8 (b.toNat : Int)
theorem bys_length (l : List UInt8) : (bys l).length = l.length := by simp [bys]
theorem info5 : (Tryz.prog.info? 5).map (fun i => (i.zero, i.size, i.bytes)) = some (some (.int .u8 0), 1, 1) := by kernel_rfl

/-- a row that may be appended to: the call's own, or a full one that is only read -/
def Row1 (w : World) (base : Nat) (v : Value) (n : Nat) (l : List UInt8) : Prop :=
  w.ownsRow base 5 1 v n (bys l) ∨ ∃ b, v = .slice (some ⟨b, 0, none⟩) n n ∧ ∀ j u, (bys l)[j]? = some u → w.cell? ((⟨b, 0, none⟩ : Addr).add j) = some u
theorem cell_alloc {w : World} {p : Addr} {u : Value} (o : Obj) (h : w.cell? p = some u) : (w.alloc o).cell? p = some u := Lib.cell?_alloc_marked o h
theorem Row1.alloc {w : World} {base : Nat} {v : Value} {n : Nat} {l : List UInt8} (h : Row1 w base v n l) (o : Obj) : Row1 (w.alloc o) base v n l := by
  rcases h with h | ⟨b, hv, hc⟩
  · exact .inl (h.alloc o)
  · exact .inr ⟨b, hv, fun j u hj => cell_alloc o (hc j u hj)⟩
theorem own_lower {w : World} {B B' : Nat} {v : Value} {n : Nat} {xs : List Value} (h : w.ownsRow B 5 1 v n xs) (hb : B' ≤ B) : w.ownsRow B' 5 1 v n xs := by
  refine ⟨h.1, ?_⟩
  rcases h.2 with h2 | ⟨g, cap, cur, a, b, c⟩
  · exact .inl h2
  · exact .inr ⟨g, cap, cur, a, Nat.le_trans hb b, c⟩
theorem wpList_append_u8 {w : World} {ops : Array Oper} {rest : List Oper} {o : Oper} {a : Act} {Q : Exit → Act → World → Prop} (hgd : o.guard = none) (s x : Operand)
    (ho : o.op = .call { callee := .builtin .append, args := #[s, x], argTypes := #[59, 59] })
    (base : Nat) (v : Value) (n : Nat) (l : List UInt8) (hs : a.eval s = v) (hrow : Row1 w base v n l) (hln : l.length = n)
    (ad : Addr) (c : Nat) (z : Int) (u : UInt8) (hx : a.eval x = .slice (some ad) 1 c) (hc : w.cell? ad = some (.int .u8 z)) (hz : z = (u.toNat : Int)) (hn : n < 140737488355328) (hbase : base ≤ w.heap.size)
    (h : ∀ v' w', w'.ownsRow base 5 1 v' (n + 1) (bys (l ++ [u])) → Below base w w' → wpList Tryz.prog ops Q rest (a.put o.dst v') w') : wpList Tryz.prog ops Q (o :: rest) a w := by
  obtain ⟨i5, p1, p2, p3, p4⟩ := info_parts info5
  have hnews : ∀ j u', ([Value.int .u8 z] : List Value)[j]? = some u' → w.cell? (ad.add j) = some u' := fun j u' hj => by
    match j, hj with
    | 0, hj => simp at hj; subst hj; simpa [Addr.add] using hc
    | j + 1, hj => simp at hj
  have e1 : bys l ++ [Value.int .u8 z] = bys (l ++ [u]) := by simp [bys, hz]
  subst hln
  rcases hrow with hrow | ⟨b, rfl, hcl⟩
  · refine wpList_append_own w hgd s x 59 ho base 5 i5 (.int .u8 0) 1 1 Tryz.underlying59 p1 p2 p3 p4 rfl (by decide) v l.length (bys l) hs hrow ad 1 c [.int .u8 z] hx rfl hnews (by simp [Value.oneCell']) (by simp only [maxLen]; omega) (by omega) hbase fun v' w' h2 h3 _ => ?_
    rw [e1] at h2
    exact h v' w' h2 ((Below.refl base w).grown h3 hbase (fun r e => (hrow.lt r e).1))
  · refine wpList_append_grows w hgd s x 59 ho 5 i5 (.int .u8 0) 1 1 Tryz.underlying59 p1 p2 p3 p4 rfl (by decide) (some ⟨b, 0, none⟩) l.length l.length (bys l) hs (by simp) (by simp [bys]) (by rintro b' e j u' hj; cases e; exact hcl j u' hj) ad 1 c [.int .u8 z] hx rfl hnews (by simp [Value.oneCell']) (by omega) (by simp only [maxLen]; omega) (by omega) fun v' w' h2 h3 => ?_
    rw [e1] at h2
    exact h v' w' (own_lower h2 hbase) ((Below.refl base w).grown h3 hbase (fun r e => by cases e))

theorem own_str {W : World} {base : Nat} {v : Value} {n : Nat} {l : List UInt8} (h : W.ownsRow base 5 1 v n (bys l)) : (convert 59 9 v).run Tryz.prog W = .ok (.string ⟨l.toArray⟩) W := by
  have hl : l.length = n := by have := h.1; simp [bys] at this; omega
  rcases h.2 with ⟨rfl, h0⟩ | ⟨g, cap, cur, rfl, _⟩
  · have : l = [] := List.length_eq_zero_iff.1 (by omega)
    subst this
    rw [run_convert_bytes_string W 59 9 5 none 0 0 Tryz.underlying59 Tryz.underlying5 Tryz.underlying9]
    simp [Conv.bytesToString]
    rfl
  · subst hl
    exact run_convert_bytes_back W 59 9 5 ⟨g, 0, none⟩ cap l Tryz.underlying59 Tryz.underlying5 Tryz.underlying9 fun j hj => by
      refine h.cells (g := g) rfl j _ ?_
      simp [bys, List.getElem?_eq_getElem hj]
theorem own_len {W : World} {base : Nat} {v : Value} {n : Nat} {xs : List Value} (h : W.ownsRow base 5 1 v n xs) : ∃ so co, v = .slice so n co := by
  rcases h.2 with ⟨rfl, h0⟩ | ⟨g, cap, cur, rfl, _⟩
  · subst h0; exact ⟨_, _, rfl⟩
  · exact ⟨_, _, rfl⟩
theorem cell_new (w : World) (z : Value) (t : TypeId) : (w.alloc (.cells #[z] t)).cell? ⟨w.heap.size, 0, none⟩ = some z := by
  simp

theorem take_up (s : ByteArray) (k : Nat) (h : k < s.size) : (s.data.toList.take (k + 1)).map up = (s.data.toList.take k).map up ++ [up (s[k]'h)] := by
  have hl : s.data.toList.length = s.size := by simp
  rw [List.take_succ_eq_append_getElem (by rw [hl]; exact h), List.map_append]
  rfl
theorem data_size (s : ByteArray) : s.data.toList.length = s.size := by simp
theorem ret_str {a b : ByteArray} (h : a = b) : Ending.returned (.string a) = .returned (.string b) := by rw [h]
set_option maxHeartbeats 1000000 in
theorem rupper_any (s : ByteArray) (hs : s.size < 140737488355328) (w : World) : Calls Tryz.prog 56 #[.string s] w fun e w' => e = .returned (.string ⟨(upL s.data.toList).toArray⟩) ∧ Below w.heap.size w w' := by
  go_enter Tryz.func56, Tryz.ntmps56
  go_wp2
  go_loopw [3, 4] (fun v i wr => ∃ k : Nat, k ≤ s.size ∧ i = .int .i64 k ∧ wr.ownsRow w.heap.size 5 1 v k (bys ((s.data.toList.take k).map up)) ∧ Below w.heap.size w wr) (fun _ i _ => s.size - (intOf i).toNat)
  case atStart => exact ⟨0, Nat.zero_le _, rfl, World.ownsRow_nil _ _ _ _, Below.refl _ _⟩
  case round =>
    obtain ⟨k, hk, rfl, hown, hB⟩ := hrel
    have hsz := hB.size
    obtain ⟨so, co, rfl⟩ := own_len hown
    by_cases hlt : k < s.size
    · have hT := Lib.hid (take_up s k hlt)
      have hlk : ((s.data.toList.take k).map up).length = k := by simp; omega
      obtain ⟨x, hx⟩ : ∃ x, s[k]'hlt = x := ⟨_, rfl⟩
      have hx8 := x.toNat_lt
      rw [hx] at hT
      obtain ⟨l, hl⟩ : ∃ l, (s.data.toList.take k).map up = l := ⟨_, rfl⟩
      rw [hl] at hT hown hlk
      clear hl
      have hun : ((up x).toNat : Int) = if 97 ≤ x.toNat ∧ x.toNat ≤ 122 then (x.toNat : Int) - 32 else x.toNat := by rw [up_toNat]; unfold upN; split <;> omega
      have HU := Lib.hid hun
      clear hun
      by_cases h1 : 97 ≤ x.toNat <;> by_cases h2 : x.toNat ≤ 122
      all_goals try (exfalso; omega)
      all_goals
        go_wp2_with (at_builtin; refine wpList_append_u8 rfl (.tmp 23) (.tmp 25) rfl w.heap.size _ k l rfl (Row1.alloc (.inl hown) _) hlk ⟨wr.heap.size, 0, none⟩ 1 _ (up x) rfl (cell_new _ _ _) (by rw [HU.out]; split <;> omega) (by omega) (by simp; omega) ?_; intro v3 w3 hown3 hb3)
        go_roundw
        case rel => exact ⟨k + 1, by omega, by go_num, by rw [hT.out]; exact hown3, (hB.alloc hsz _).trans hb3⟩
        case measure => simp [intOf]; omega
    · obtain rfl : k = s.size := by omega
      have hcv := own_str hown
      rw [show s.data.toList.take s.size = s.data.toList from List.take_of_length_le (by simp)] at hcv
      go_wp2
      go_ret
      exact ⟨rfl, hB⟩

/-! ### Quote, by the document -/
def quoB (c : UInt8) : List UInt8 := if c = 39 then [39, 39] else [c]
def quoL (l : List UInt8) : List UInt8 := l.flatMap quoB
/-- a text between two quotes, each quote in it twice -/
def quoteL (l : List UInt8) : List UInt8 := [39] ++ quoL l ++ [39]
theorem quoL_snoc (l : List UInt8) (c : UInt8) : quoL (l ++ [c]) = quoL l ++ quoB c := by simp [quoL]
theorem quoL_len (l : List UInt8) : (quoL l).length ≤ 2 * l.length := by
  induction l with
  | nil => simp [quoL]
  | cons c l ih =>
    have : quoL (c :: l) = quoB c ++ quoL l := by simp [quoL]
    rw [this]
    have : (quoB c).length ≤ 2 := by unfold quoB; split <;> simp
    simp
    omega
theorem take_snoc (s : ByteArray) (k : Nat) (h : k < s.size) : s.data.toList.take (k + 1) = s.data.toList.take k ++ [s[k]'h] := by
  have hl : s.data.toList.length = s.size := by simp
  rw [List.take_succ_eq_append_getElem (by rw [hl]; exact h)]
  rfl
theorem toNat39 (x : UInt8) : x.toNat = 39 ↔ x = 39 := by
  rw [← UInt8.toNat_inj]; rfl
theorem row1_of_marked (w : World) : Row1 (w.alloc (.cells #[.int .u8 39] 5 (1, 2))) w.heap.size (.slice (some ⟨w.heap.size, 0, none⟩) 1 1) 1 [39] := by
  refine .inr ⟨_, rfl, fun j u hj => ?_⟩
  match j, hj with
  | 0, hj =>
    simp [bys] at hj
    subst hj
    simp [Addr.add, World.cell?, World.alloc, -World.alloc_eq]
  | j + 1, hj => simp [bys] at hj
theorem row1_len {W : World} {base : Nat} {v : Value} {n : Nat} {xs : List UInt8} (h : Row1 W base v n xs) : ∃ so co, v = .slice so n co := by
  rcases h with h | ⟨b, rfl, _⟩
  · exact own_len h
  · exact ⟨_, _, rfl⟩
end Go.Proofs.YtaoeipbofhkkcaaGreatDoor

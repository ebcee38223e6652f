/- ZilogKinds, walked: true for every opcode; the program's tables hold what its text says. -/
import Derived.Test.YtlindlmcojmhcaaDoorZKindsE
import Derived.Test.YtlindlmcojmhcaaDoorZpAlive
namespace Go.Proofs.YtlindlmcojmhcaaDoor
open Go.RowKit

theorem oracleK_sound {op : Nat} (h : op < 256) {w0 : World} (hT : Tabs w0) (f : FuncId) (args : Array Value) (v : Value) (he : oracleK op (formL op).1 (zfmL op).1 (condI op) f args = some v) (w : World) (hs : Below w0.heap.size w0 w) :
    Calls Tryd.prog f args w fun e w1 => e = .returned v ∧ Below w0.heap.size w0 w1 := by
  have hTw := hT.below hs
  have hcl : ∀ (e : Ending) (w1 : World) (x : Value), (e = .returned x ∧ Below w.heap.size w w1) → x = v → e = .returned v ∧ Below w0.heap.size w0 w1 := fun e w1 x h1 h2 => ⟨by rw [h1.1, h2], below_step hs h1.2⟩
  unfold oracleK at he
  split at he
  · rename_i y ha
    have hargs : args = #[.int .u8 y] := Array.toList_inj.1 ha
    subst hargs
    split at he
    · rename_i hy
      have hy := of_decide_eq_true hy
      subst hy
      split at he
      · injection he with he
        exact (zname_any op h w hTw).mono fun e w1 h1 => hcl e w1 _ h1 he
      · injection he with he
        exact (name_any op h w hTw).mono fun e w1 h1 => hcl e w1 _ h1 he
      · injection he with he
        refine (cond_any op h w).mono ?_
        rintro _ _ ⟨rfl, rfl⟩
        exact ⟨by rw [he], hs⟩
      · cases he
    · cases he
  · rename_i ha
    have hargs : args = #[] := Array.toList_inj.1 ha
    subst hargs
    split at he
    · injection he with he
      exact (zalive_any w hTw).mono fun e w1 h1 => hcl e w1 _ h1 he
    · cases he
  · cases he
theorem zilogKinds_walk (op : Nat) (h : op < 256) (w : World) (hT : Tabs w) : Calls Tryd.prog 7 #[.int .u8 op] w fun e w' => e = .returned (.bool true) ∧ Below w.heap.size w w' :=
  evLaw_sound (S := fun w1 => Below w.heap.size w w1) (oracleK_sound h hT) (List.all_eq_true.1 kindsE0 op (List.mem_range.2 h)) w (Below.refl _ _)
end Go.Proofs.YtlindlmcojmhcaaDoor

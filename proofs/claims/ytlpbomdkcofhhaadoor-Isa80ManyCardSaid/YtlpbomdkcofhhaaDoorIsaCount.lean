/- Just 244 opcodes are documented, from whichever number one counts in their circle; no condition. -/
import Derived.Test.YtlpbomdkcofhhaaDoorIsInj
namespace Go.Proofs.YtlpbomdkcofhhaaDoor
open Go.RowKit

def docB (a : Nat) : Nat := if (formL (a % 256)).1 = [] then 0 else 1
theorem docs_step (a n : Nat) : docsFrom a (n + 1) = docsFrom a n + docB (n + a) := rfl
theorem docs_shift (a : Nat) : ∀ n, docsFrom (a + 1) n + docB a = docsFrom a (n + 1)
  | 0 => by rw [docs_step]; simp [docsFrom]
  | n + 1 => by
    rw [docs_step (a + 1) n, docs_step a (n + 1), ← docs_shift a n]
    rw [show n + (a + 1) = n + 1 + a by omega]
    omega
theorem docs_all (a : Nat) : docsFrom a 256 = 244 := by
  induction a with
  | zero => kernel_rfl
  | succ a ih =>
    have h := docs_shift a 256
    rw [docs_step a 256, ih] at h
    have : docB (256 + a) = docB a := by unfold docB; rw [show (256 + a) % 256 = a % 256 by omega]
    omega
end Go.Proofs.YtlpbomdkcofhhaaDoor

/- ZilogKinds of all opcodes, by the kernel's reckoning, where what its callees answer is said; no condition. -/
import Derived.Test.YtlindlmcojmhcaaDoorEval
import Derived.Test.YtlindlmcojmhcaaDoorZPlain
import Derived.Test.YtlindlmcojmhcaaDoorIsKinds
namespace Go.Proofs.YtlindlmcojmhcaaDoor
open Go.RowKit

/-- what the callees of ZilogKinds answer of an opcode with these names and this condition -/
def oracleK (op : Nat) (i z : List UInt8) (c : Int) (f : FuncId) (args : Array Value) : Option Value := match args.toList with
  | [.int .u8 y] => match decide (y = (op : Int)) with
    | true => match f with
      | 8 => some (.string ⟨z.toArray⟩)
      | 18 => some (.string ⟨i.toArray⟩)
      | 21 => some (.int .i64 c)
      | _ => none
    | false => none
  | [] => match f with
    | 13 => some (.bool true)
    | _ => none
  | _ => none
theorem kindsE0 : ((List.range 256).all fun op => evLaw (oracleK op (formL op).1 (zfmL op).1 (condI op)) Tryd.prog 7 #[.int .u8 op]) = true := by kernel_rfl
end Go.Proofs.YtlindlmcojmhcaaDoor

/- What the document's Forms answers: the words of all opcodes; no condition. -/
import Derived.Test.YtlpbomdkcofhhaaDoorProg
import Derived.WalkKit
import Derived.WalkSpells
import Derived.WalkLawsBesides
import Derived.Handy
import Derived.Lib.Hide
import Derived.Below
import Derived.WalkSmall
import Derived.Great.BuildSlice
import Derived.Deep.Cut
namespace Go.Proofs.YtlpbomdkcofhhaaDoor
open Go.RowKit

/-- the forms of all opcodes, by their numbers, as bytes -/
def formsL : List (List UInt8) := [
  [78, 79, 80], [76, 88, 73, 32, 66, 32, 100, 49, 54], [83, 84, 65, 88, 32, 66], [73, 78, 88, 32, 66], [73, 78, 82, 32, 66], [68, 67, 82, 32, 66], [77, 86, 73, 32, 66, 32, 100, 56], [82, 76, 67],
  [], [68, 65, 68, 32, 66], [76, 68, 65, 88, 32, 66], [68, 67, 88, 32, 66], [73, 78, 82, 32, 67], [68, 67, 82, 32, 67], [77, 86, 73, 32, 67, 32, 100, 56], [82, 82, 67],
  [], [76, 88, 73, 32, 68, 32, 100, 49, 54], [83, 84, 65, 88, 32, 68], [73, 78, 88, 32, 68], [73, 78, 82, 32, 68], [68, 67, 82, 32, 68], [77, 86, 73, 32, 68, 32, 100, 56], [82, 65, 76],
  [], [68, 65, 68, 32, 68], [76, 68, 65, 88, 32, 68], [68, 67, 88, 32, 68], [73, 78, 82, 32, 69], [68, 67, 82, 32, 69], [77, 86, 73, 32, 69, 32, 100, 56], [82, 65, 82],
  [], [76, 88, 73, 32, 72, 32, 100, 49, 54], [83, 72, 76, 68, 32, 100, 49, 54], [73, 78, 88, 32, 72], [73, 78, 82, 32, 72], [68, 67, 82, 32, 72], [77, 86, 73, 32, 72, 32, 100, 56], [68, 65, 65],
  [], [68, 65, 68, 32, 72], [76, 72, 76, 68, 32, 100, 49, 54], [68, 67, 88, 32, 72], [73, 78, 82, 32, 76], [68, 67, 82, 32, 76], [77, 86, 73, 32, 76, 32, 100, 56], [67, 77, 65],
  [], [76, 88, 73, 32, 83, 80, 32, 100, 49, 54], [83, 84, 65, 32, 100, 49, 54], [73, 78, 88, 32, 83, 80], [73, 78, 82, 32, 77], [68, 67, 82, 32, 77], [77, 86, 73, 32, 77, 32, 100, 56], [83, 84, 67],
  [], [68, 65, 68, 32, 83, 80], [76, 68, 65, 32, 100, 49, 54], [68, 67, 88, 32, 83, 80], [73, 78, 82, 32, 65], [68, 67, 82, 32, 65], [77, 86, 73, 32, 65, 32, 100, 56], [67, 77, 67],
  [77, 79, 86, 32, 66, 32, 66], [77, 79, 86, 32, 66, 32, 67], [77, 79, 86, 32, 66, 32, 68], [77, 79, 86, 32, 66, 32, 69], [77, 79, 86, 32, 66, 32, 72], [77, 79, 86, 32, 66, 32, 76], [77, 79, 86, 32, 66, 32, 77], [77, 79, 86, 32, 66, 32, 65],
  [77, 79, 86, 32, 67, 32, 66], [77, 79, 86, 32, 67, 32, 67], [77, 79, 86, 32, 67, 32, 68], [77, 79, 86, 32, 67, 32, 69], [77, 79, 86, 32, 67, 32, 72], [77, 79, 86, 32, 67, 32, 76], [77, 79, 86, 32, 67, 32, 77], [77, 79, 86, 32, 67, 32, 65],
  [77, 79, 86, 32, 68, 32, 66], [77, 79, 86, 32, 68, 32, 67], [77, 79, 86, 32, 68, 32, 68], [77, 79, 86, 32, 68, 32, 69], [77, 79, 86, 32, 68, 32, 72], [77, 79, 86, 32, 68, 32, 76], [77, 79, 86, 32, 68, 32, 77], [77, 79, 86, 32, 68, 32, 65],
  [77, 79, 86, 32, 69, 32, 66], [77, 79, 86, 32, 69, 32, 67], [77, 79, 86, 32, 69, 32, 68], [77, 79, 86, 32, 69, 32, 69], [77, 79, 86, 32, 69, 32, 72], [77, 79, 86, 32, 69, 32, 76], [77, 79, 86, 32, 69, 32, 77], [77, 79, 86, 32, 69, 32, 65],
  [77, 79, 86, 32, 72, 32, 66], [77, 79, 86, 32, 72, 32, 67], [77, 79, 86, 32, 72, 32, 68], [77, 79, 86, 32, 72, 32, 69], [77, 79, 86, 32, 72, 32, 72], [77, 79, 86, 32, 72, 32, 76], [77, 79, 86, 32, 72, 32, 77], [77, 79, 86, 32, 72, 32, 65],
  [77, 79, 86, 32, 76, 32, 66], [77, 79, 86, 32, 76, 32, 67], [77, 79, 86, 32, 76, 32, 68], [77, 79, 86, 32, 76, 32, 69], [77, 79, 86, 32, 76, 32, 72], [77, 79, 86, 32, 76, 32, 76], [77, 79, 86, 32, 76, 32, 77], [77, 79, 86, 32, 76, 32, 65],
  [77, 79, 86, 32, 77, 32, 66], [77, 79, 86, 32, 77, 32, 67], [77, 79, 86, 32, 77, 32, 68], [77, 79, 86, 32, 77, 32, 69], [77, 79, 86, 32, 77, 32, 72], [77, 79, 86, 32, 77, 32, 76], [72, 76, 84], [77, 79, 86, 32, 77, 32, 65],
  [77, 79, 86, 32, 65, 32, 66], [77, 79, 86, 32, 65, 32, 67], [77, 79, 86, 32, 65, 32, 68], [77, 79, 86, 32, 65, 32, 69], [77, 79, 86, 32, 65, 32, 72], [77, 79, 86, 32, 65, 32, 76], [77, 79, 86, 32, 65, 32, 77], [77, 79, 86, 32, 65, 32, 65],
  [65, 68, 68, 32, 66], [65, 68, 68, 32, 67], [65, 68, 68, 32, 68], [65, 68, 68, 32, 69], [65, 68, 68, 32, 72], [65, 68, 68, 32, 76], [65, 68, 68, 32, 77], [65, 68, 68, 32, 65],
  [65, 68, 67, 32, 66], [65, 68, 67, 32, 67], [65, 68, 67, 32, 68], [65, 68, 67, 32, 69], [65, 68, 67, 32, 72], [65, 68, 67, 32, 76], [65, 68, 67, 32, 77], [65, 68, 67, 32, 65],
  [83, 85, 66, 32, 66], [83, 85, 66, 32, 67], [83, 85, 66, 32, 68], [83, 85, 66, 32, 69], [83, 85, 66, 32, 72], [83, 85, 66, 32, 76], [83, 85, 66, 32, 77], [83, 85, 66, 32, 65],
  [83, 66, 66, 32, 66], [83, 66, 66, 32, 67], [83, 66, 66, 32, 68], [83, 66, 66, 32, 69], [83, 66, 66, 32, 72], [83, 66, 66, 32, 76], [83, 66, 66, 32, 77], [83, 66, 66, 32, 65],
  [65, 78, 65, 32, 66], [65, 78, 65, 32, 67], [65, 78, 65, 32, 68], [65, 78, 65, 32, 69], [65, 78, 65, 32, 72], [65, 78, 65, 32, 76], [65, 78, 65, 32, 77], [65, 78, 65, 32, 65],
  [88, 82, 65, 32, 66], [88, 82, 65, 32, 67], [88, 82, 65, 32, 68], [88, 82, 65, 32, 69], [88, 82, 65, 32, 72], [88, 82, 65, 32, 76], [88, 82, 65, 32, 77], [88, 82, 65, 32, 65],
  [79, 82, 65, 32, 66], [79, 82, 65, 32, 67], [79, 82, 65, 32, 68], [79, 82, 65, 32, 69], [79, 82, 65, 32, 72], [79, 82, 65, 32, 76], [79, 82, 65, 32, 77], [79, 82, 65, 32, 65],
  [67, 77, 80, 32, 66], [67, 77, 80, 32, 67], [67, 77, 80, 32, 68], [67, 77, 80, 32, 69], [67, 77, 80, 32, 72], [67, 77, 80, 32, 76], [67, 77, 80, 32, 77], [67, 77, 80, 32, 65],
  [82, 78, 90], [80, 79, 80, 32, 66], [74, 78, 90, 32, 100, 49, 54], [74, 77, 80, 32, 100, 49, 54], [67, 78, 90, 32, 100, 49, 54], [80, 85, 83, 72, 32, 66], [65, 68, 73, 32, 100, 56], [82, 83, 84, 32, 48],
  [82, 90], [82, 69, 84], [74, 90, 32, 100, 49, 54], [], [67, 90, 32, 100, 49, 54], [67, 65, 76, 76, 32, 100, 49, 54], [65, 67, 73, 32, 100, 56], [82, 83, 84, 32, 49],
  [82, 78, 67], [80, 79, 80, 32, 68], [74, 78, 67, 32, 100, 49, 54], [79, 85, 84, 32, 100, 56], [67, 78, 67, 32, 100, 49, 54], [80, 85, 83, 72, 32, 68], [83, 85, 73, 32, 100, 56], [82, 83, 84, 32, 50],
  [82, 67], [], [74, 67, 32, 100, 49, 54], [73, 78, 32, 100, 56], [67, 67, 32, 100, 49, 54], [], [83, 66, 73, 32, 100, 56], [82, 83, 84, 32, 51],
  [82, 80, 79], [80, 79, 80, 32, 72], [74, 80, 79, 32, 100, 49, 54], [88, 84, 72, 76], [67, 80, 79, 32, 100, 49, 54], [80, 85, 83, 72, 32, 72], [65, 78, 73, 32, 100, 56], [82, 83, 84, 32, 52],
  [82, 80, 69], [80, 67, 72, 76], [74, 80, 69, 32, 100, 49, 54], [88, 67, 72, 71], [67, 80, 69, 32, 100, 49, 54], [], [88, 82, 73, 32, 100, 56], [82, 83, 84, 32, 53],
  [82, 80], [80, 79, 80, 32, 80, 83, 87], [74, 80, 32, 100, 49, 54], [68, 73], [67, 80, 32, 100, 49, 54], [80, 85, 83, 72, 32, 80, 83, 87], [79, 82, 73, 32, 100, 56], [82, 83, 84, 32, 54],
  [82, 77], [83, 80, 72, 76], [74, 77, 32, 100, 49, 54], [69, 73], [67, 77, 32, 100, 49, 54], [], [67, 80, 73, 32, 100, 56], [82, 83, 84, 32, 55]]
theorem parts_strs (a : Act) (parts : Array (Nat × Operand)) (ss : List (List UInt8)) (hparts : parts.toList = (ss.zipIdx 0).map fun x => (x.2, Operand.const (Value.string ⟨x.1.toArray⟩))) :
    (parts.map fun (i, x) => (i, a.eval x)).toList = ((ss.map fun s => Value.string ⟨s.toArray⟩).zipIdx 0).map fun x => (x.2, x.1) := by
  rw [Array.toList_map, hparts, List.zipIdx_map, List.map_map, List.map_map]
  rfl
theorem wpList_buildStrs {P : Program} {ops : Array Oper} {rest : List Oper} {o : Oper} {a : Act} {w : World} {Q : Exit → Act → World → Prop} (hg : o.guard = none) (t e : TypeId) (len : Nat) (parts : Array (Nat × Operand)) (ho : o.op = .buildSlice t len parts)
    (ss : List (List UInt8))
    (hu : P.underlying t = some (.slice e)) (hsz : (P.info? e).map (·.size) = some 1) (hz : ((P.info? e).bind (·.zero)).isSome = true)
    (hlen : len = ss.length) (hpos : 0 < len) (hsmall : len ≤ 2 ^ 24)
    (hparts : parts.toList = (ss.zipIdx 0).map fun x => (x.2, Operand.const (Value.string ⟨x.1.toArray⟩)))
    (h : wpList P ops Q rest (a.put o.dst (.slice (some ⟨w.heap.size, 0, none⟩) len len)) (w.alloc (.cells (ss.map fun s => Value.string ⟨s.toArray⟩).toArray e))) : wpList P ops Q (o :: rest) a w := by
  cases hie : P.info? e with
  | none => simp [hie] at hsz
  | some ie =>
    simp only [hie, Option.map_some, Option.some.injEq, Option.bind_some] at hsz hz
    obtain ⟨z, hzz⟩ := Option.isSome_iff_exists.1 hz
    refine wpList_buildSlice hg t e len parts ho _ ie z hu hie hzz (by rw [hsz]; omega) (by rw [hsz]; omega) ?_ h
    rw [parts_strs a parts ss hparts, hsz]
    exact Great.fill_flat _ _ (fun v hv => by obtain ⟨n, _, rfl⟩ := List.mem_map.1 hv; rfl) (by simp [hlen])
/-- the literal's parts, behind a name -/
def partsF : Array (Nat × Operand) := ((formsL.zipIdx 0).map fun x => (x.2, Operand.const (Value.string ⟨x.1.toArray⟩))).toArray
def codeF (parts : Array (Nat × Operand)) : Code := (Code.region 0 #[{ dst := some 0, op := Op.assign (Operand.const (Value.slice none 0 0)), type := 24, pos := "ref.go:7", after := #[], guard := none }] false).seq
  ((Code.region 1 #[{ dst := some 1, op := Op.buildSlice 24 256 parts, type := 24, pos := "ref.go:8", after := #[], guard := none },
    { dst := some 0, op := Op.assign (Operand.tmp 1), type := 24, pos := "ref.go:8", after := #[{ on := 0, ground := Ground.data }, { on := 0, ground := Ground.phase }], guard := none }] false).seq Code.ret)
theorem formsF : Tryd.prog.funcs[31]? = some { Tryd.f31 with body := some (codeF partsF) } := by kernel_rfl
set_option maxHeartbeats 4000000 in
theorem forms_walk (w : World) (F : Func) (hF : F.results = #[.tmp 0]) (parts : Array (Nat × Operand)) (ss : List (List UInt8)) (hlen : 256 = ss.length) (hparts : parts.toList = (ss.zipIdx 0).map fun x => (x.2, Operand.const (Value.string ⟨x.1.toArray⟩))) :
    Code.wp Tryd.prog (codeF parts) (bodyPost Tryd.prog F fun x w' => x = .returned (.slice (some ⟨w.heap.size, 0, none⟩) 256 256) ∧ w' = w.alloc (.cells (ss.map fun s => Value.string ⟨s.toArray⟩).toArray 9)) { tmps := #[undef, undef], defers := [] } w := by
  have HP := Lib.hid hparts
  have HN := Lib.hid hlen
  clear hparts hlen
  unfold codeF
  go_step
  go_step
  go_step
  go_step
  go_step
  go_step
  go_step
  go_step
  go_step
  go_step
  refine wp_region_list ?_
  refine wpList_buildStrs rfl 24 9 256 parts rfl ss Tryd.underlying24 (by kernel_rfl) (by kernel_rfl) HN.out (by decide) (by decide) HP.out ?_
  generalize hw : w.alloc (.cells (ss.map fun s => Value.string ⟨s.toArray⟩).toArray 9) = w1
  generalize hk : w.heap.size = k
  have HW := Lib.hid hw
  have HK := Lib.hid hk
  clear HP HN hw hk
  go_step
  go_step
  go_step
  go_step
  go_step
  go_step
  go_step
  exact bodyPost_ret (v := .slice (some ⟨k, 0, none⟩) 256 256) (by simp [results, hF, go_sem]) rfl ⟨by rw [HK.out], HW.out.symm⟩
theorem forms_any (w : World) : Calls Tryd.prog 31 #[] w fun x w' => x = .returned (.slice (some ⟨w.heap.size, 0, none⟩) 256 256) ∧ w' = w.alloc (.cells (formsL.map fun s => Value.string ⟨s.toArray⟩).toArray 9) := by
  refine calls_of_wp formsF rfl ?_
  simp only [Tryd.ntmps31, List.size_toArray, List.length_nil, Nat.reduceSub, Array.replicate_succ, Array.replicate_zero, List.push_toArray, List.append_toArray, List.nil_append, List.cons_append]
  exact forms_walk w _ rfl partsF formsL (by kernel_rfl) rfl
end Go.Proofs.YtlpbomdkcofhhaaDoor

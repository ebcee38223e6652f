/- What the program's functions on Intel's and Zilog's names answer: names, conditions, pairs, operands; no condition but that the name is one of an opcode's. -/
import Derived.Test.YtlindlmcojmhcaaDoorEval
import Derived.Test.YtlindlmcojmhcaaDoorZPlain
import Derived.Test.YtlindlmcojmhcaaDoorIsKinds
import Derived.Test.YtlindlmcojmhcaaDoorIsOut
namespace Go.Proofs.YtlindlmcojmhcaaDoor
open Go.RowKit

/-- names of opcodes without a condition, and Zilog's -/
def namesP : List (List UInt8 × List UInt8) := [([78, 79, 80], [78, 79, 80]), ([76, 88, 73], [76, 68]), ([83, 84, 65, 88], [76, 68]), ([73, 78, 88], [73, 78, 67]), ([73, 78, 82], [73, 78, 67]), ([68, 67, 82], [68, 69, 67]), ([77, 86, 73], [76, 68]), ([82, 76, 67], [82, 76, 67, 65]), ([], []), ([68, 65, 68], [65, 68, 68]), ([76, 68, 65, 88], [76, 68]), ([68, 67, 88], [68, 69, 67]), ([82, 82, 67], [82, 82, 67, 65]), ([82, 65, 76], [82, 76, 65]), ([82, 65, 82], [82, 82, 65]), ([83, 72, 76, 68], [76, 68]), ([68, 65, 65], [68, 65, 65]), ([76, 72, 76, 68], [76, 68]), ([67, 77, 65], [67, 80, 76]), ([83, 84, 65], [76, 68]), ([83, 84, 67], [83, 67, 70]), ([76, 68, 65], [76, 68]), ([67, 77, 67], [67, 67, 70]), ([77, 79, 86], [76, 68]), ([72, 76, 84], [72, 65, 76, 84]), ([65, 68, 68], [65, 68, 68]), ([65, 68, 67], [65, 68, 67]), ([83, 85, 66], [83, 85, 66]), ([83, 66, 66], [83, 66, 67]), ([65, 78, 65], [65, 78, 68]), ([88, 82, 65], [88, 79, 82]), ([79, 82, 65], [79, 82]), ([67, 77, 80], [67, 80]), ([80, 79, 80], [80, 79, 80]), ([74, 77, 80], [74, 80]), ([80, 85, 83, 72], [80, 85, 83, 72]), ([65, 68, 73], [65, 68, 68]), ([82, 83, 84], [82, 83, 84]), ([82, 69, 84], [82, 69, 84]), ([67, 65, 76, 76], [67, 65, 76, 76]), ([65, 67, 73], [65, 68, 67]), ([79, 85, 84], [79, 85, 84]), ([83, 85, 73], [83, 85, 66]), ([73, 78], [73, 78]), ([83, 66, 73], [83, 66, 67]), ([88, 84, 72, 76], [69, 88]), ([65, 78, 73], [65, 78, 68]), ([80, 67, 72, 76], [74, 80]), ([88, 67, 72, 71], [69, 88]), ([88, 82, 73], [88, 79, 82]), ([68, 73], [68, 73]), ([79, 82, 73], [79, 82]), ([83, 80, 72, 76], [76, 68]), ([69, 73], [69, 73]), ([67, 80, 73], [67, 80])]
/-- names of opcodes with a condition, and Zilog's -/
def leapsP : List (List UInt8 × List UInt8) := [([82, 78, 90], [82, 69, 84]), ([74, 78, 90], [74, 80]), ([67, 78, 90], [67, 65, 76, 76]), ([82, 90], [82, 69, 84]), ([74, 90], [74, 80]), ([67, 90], [67, 65, 76, 76]), ([82, 78, 67], [82, 69, 84]), ([74, 78, 67], [74, 80]), ([67, 78, 67], [67, 65, 76, 76]), ([82, 67], [82, 69, 84]), ([74, 67], [74, 80]), ([67, 67], [67, 65, 76, 76]), ([82, 80, 79], [82, 69, 84]), ([74, 80, 79], [74, 80]), ([67, 80, 79], [67, 65, 76, 76]), ([82, 80, 69], [82, 69, 84]), ([74, 80, 69], [74, 80]), ([67, 80, 69], [67, 65, 76, 76]), ([82, 80], [82, 69, 84]), ([74, 80], [74, 80]), ([67, 80], [67, 65, 76, 76]), ([82, 77], [82, 69, 84]), ([74, 77], [74, 80]), ([67, 77], [67, 65, 76, 76])]
theorem names_in : ((List.range 256).all fun op => decide ((condI op < 0 → ((formL op).1, (zfmL op).1) ∈ namesP) ∧ (0 ≤ condI op → ((formL op).1, (zfmL op).1) ∈ leapsP))) = true := by kernel_rfl
theorem nameOf_all : (namesP.all fun p => evT Tryd.prog 5 23 [p.1] p.2) = true := by kernel_rfl
theorem leapName_all : (leapsP.all fun p => evT Tryd.prog 5 22 [p.1] p.2 && evT Tryd.prog 5 29 [p.1] p.1.tail) = true := by kernel_rfl
theorem nameOf_any {op : Nat} (h : op < 256) (hc : condI op < 0) (w : World) : Calls Tryd.prog 23 #[.string ⟨(formL op).1.toArray⟩] w fun e w1 => e = .returned (.string ⟨(zfmL op).1.toArray⟩) ∧ w1 = w := by
  have h1 := (of_decide_eq_true (List.all_eq_true.1 names_in op (List.mem_range.2 h))).1 hc
  exact evT_sound (List.all_eq_true.1 nameOf_all _ h1) w
theorem leapName_any {op : Nat} (h : op < 256) (hc : 0 ≤ condI op) (w : World) : Calls Tryd.prog 22 #[.string ⟨(formL op).1.toArray⟩] w fun e w1 => e = .returned (.string ⟨(zfmL op).1.toArray⟩) ∧ w1 = w := by
  have h1 := (of_decide_eq_true (List.all_eq_true.1 names_in op (List.mem_range.2 h))).2 hc
  have h2 := List.all_eq_true.1 leapName_all _ h1
  rw [Bool.and_eq_true] at h2
  exact evT_sound h2.1 w
theorem condition_any {op : Nat} (h : op < 256) (hc : 0 ≤ condI op) (w : World) : Calls Tryd.prog 29 #[.string ⟨(formL op).1.toArray⟩] w fun e w1 => e = .returned (.string ⟨(formL op).1.tail.toArray⟩) ∧ w1 = w := by
  have h1 := (of_decide_eq_true (List.all_eq_true.1 names_in op (List.mem_range.2 h))).2 hc
  have h2 := List.all_eq_true.1 leapName_all _ h1
  rw [Bool.and_eq_true] at h2
  exact evT_sound h2.2 w
/-- the names whose letters are pairs -/
def pairsN : List (List UInt8) := [[76, 88, 73], [83, 84, 65, 88], [76, 68, 65, 88], [73, 78, 88], [68, 67, 88], [68, 65, 68], [80, 85, 83, 72], [80, 79, 80]]
def hasP (s : List UInt8) : Bool := decide (s ∈ pairsN)
theorem hasPairs_all : ((namesP ++ leapsP).all fun p => evB Tryd.prog 5 43 [p.1] (hasP p.1)) = true := by kernel_rfl
theorem hasPairs_any {op : Nat} (h : op < 256) (w : World) : Calls Tryd.prog 43 #[.string ⟨(formL op).1.toArray⟩] w fun e w1 => e = .returned (.bool (hasP (formL op).1)) ∧ w1 = w := by
  have h1 := of_decide_eq_true (List.all_eq_true.1 names_in op (List.mem_range.2 h))
  have h2 : ((formL op).1, (zfmL op).1) ∈ namesP ++ leapsP := by
    rcases Int.lt_or_le (condI op) 0 with hc | hc
    · exact List.mem_append.2 (.inl (h1.1 hc))
    · exact List.mem_append.2 (.inr (h1.2 hc))
  exact evB_sound (List.all_eq_true.1 hasPairs_all _ h2) w
/-- a pair by both its letters -/
def pairL (s : List UInt8) : List UInt8 := if s = [66] then [66, 67] else if s = [68] then [68, 69] else if s = [72] then [72, 76] else if s = [80, 83, 87] then [65, 70] else s
/-- what Zilog calls otherwise wherever it stands -/
def opndL (s : List UInt8) : List UInt8 := if s = [77] then [40, 72, 76, 41] else if s = [100, 56] then [110] else if s = [100, 49, 54] then [110, 110] else s
/-- Intel's operands -/
def argsI : List (List UInt8) := [[66], [67], [68], [69], [72], [76], [77], [65], [83, 80], [80, 83, 87], [100, 56], [100, 49, 54], [48], [49], [50], [51], [52], [53], [54], [55]]
theorem pair_all : (argsI.all fun x => evT Tryd.prog 5 44 [x] (pairL x) && evT Tryd.prog 5 45 [x] (opndL x) && evT Tryd.prog 5 45 [pairL x] (opndL (pairL x))) = true := by kernel_rfl
/-- one operand of Zilog's, by the name and Intel's -/
def argZ (s x : List UInt8) : List UInt8 := opndL (if hasP s = true then pairL x else x)
theorem args_in : ((List.range 256).all fun op => (formL op).2.all fun x => decide (x ∈ argsI)) = true := by kernel_rfl
theorem arg_in {op : Nat} (h : op < 256) {x : List UInt8} (hx : x ∈ (formL op).2) : x ∈ argsI :=
  of_decide_eq_true (List.all_eq_true.1 (List.all_eq_true.1 args_in op (List.mem_range.2 h)) x hx)
theorem pair_any {x : List UInt8} (h : x ∈ argsI) (w : World) : Calls Tryd.prog 44 #[.string ⟨x.toArray⟩] w fun e w1 => e = .returned (.string ⟨(pairL x).toArray⟩) ∧ w1 = w := by
  have h1 := List.all_eq_true.1 pair_all x h
  rw [Bool.and_eq_true, Bool.and_eq_true] at h1
  exact evT_sound h1.1.1 w
theorem operand_any {s x : List UInt8} (h : x ∈ argsI) (w : World) : Calls Tryd.prog 45 #[.string ⟨(if hasP s = true then pairL x else x).toArray⟩] w fun e w1 => e = .returned (.string ⟨(argZ s x).toArray⟩) ∧ w1 = w := by
  have h1 := List.all_eq_true.1 pair_all x h
  rw [Bool.and_eq_true, Bool.and_eq_true] at h1
  unfold argZ
  split
  · exact evT_sound h1.2 w
  · exact evT_sound h1.1.2 w
/-- the texts in parentheses that the program makes -/
def insI : List (List UInt8) := [[66, 67], [68, 69], [110], [110, 110], [72, 76], [83, 80]]
theorem within_all : (insI.all fun x => evT Tryd.prog 5 47 [x] ([40] ++ x ++ [41])) = true := by kernel_rfl
theorem within_any {x : List UInt8} (h : x ∈ insI) (w : World) : Calls Tryd.prog 47 #[.string ⟨x.toArray⟩] w fun e w1 => e = .returned (.string ⟨([40] ++ x ++ [41]).toArray⟩) ∧ w1 = w :=
  evT_sound (List.all_eq_true.1 within_all x h) w
/-- where RST goes to, by its number's digit -/
def rstP : List (List UInt8 × List UInt8) := [([48], [48]), ([49], [56]), ([50], [49, 54]), ([51], [50, 52]), ([52], [51, 50]), ([53], [52, 48]), ([54], [52, 56]), ([55], [53, 54])]
theorem restart_all : (rstP.all fun p => evT Tryd.prog 9 48 [p.1] p.2) = true := by kernel_rfl
theorem restart_any {x y : List UInt8} (h : (x, y) ∈ rstP) (w : World) : Calls Tryd.prog 48 #[.string ⟨x.toArray⟩] w fun e w1 => e = .returned (.string ⟨y.toArray⟩) ∧ w1 = w :=
  evT_sound (List.all_eq_true.1 restart_all _ h) w
set_option maxHeartbeats 1000000 in
theorem zname_any (op : Nat) (h : op < 256) (w : World) (hT : Tabs w) : Calls Tryd.prog 8 #[.int .u8 op] w fun e w' => e = .returned (.string ⟨(zfmL op).1.toArray⟩) ∧ Below w.heap.size w w' := by
  have HN := Lib.hid (name_any op h w hT)
  have HC := Lib.hid (fun w => cond_any op h w)
  have hL := fun hc w => leapName_any h hc w
  have hN := fun hc w => nameOf_any h hc w
  clear hT
  generalize condI op = c at HC hL hN
  generalize (formL op).1 = x at HN hL hN
  generalize (zfmL op).1 = y at hL hN ⊢
  rcases Int.lt_or_le c 0 with hc | hc
  · have HL := Lib.hid (hN hc)
    have hd : decide (0 ≤ c) = false := decide_eq_false (by omega)
    clear hL hN hc
    go_enter Tryd.func8, Tryd.ntmps8
    go_wp2_with (first
      | (go_at_call 18; refine HN.out.mono ?_; rintro _ w1 ⟨rfl, hb1⟩; have HB := Lib.hid hb1; clear hb1)
      | (go_at_call 21; refine (HC.out _).mono ?_; rintro _ _ ⟨rfl, rfl⟩)
      | (go_at_call 23; refine (HL.out _).mono ?_; rintro _ _ ⟨rfl, rfl⟩))
    go_ret
    exact ⟨rfl, HB.out⟩
  · have HL := Lib.hid (hL hc)
    have hd : decide (0 ≤ c) = true := decide_eq_true (by omega)
    clear hL hN
    go_enter Tryd.func8, Tryd.ntmps8
    go_wp2_with (first
      | (go_at_call 18; refine HN.out.mono ?_; rintro _ w1 ⟨rfl, hb1⟩; have HB := Lib.hid hb1; clear hb1)
      | (go_at_call 21; refine (HC.out _).mono ?_; rintro _ _ ⟨rfl, rfl⟩)
      | (go_at_call 22; refine (HL.out _).mono ?_; rintro _ _ ⟨rfl, rfl⟩))
    go_ret
    exact ⟨rfl, HB.out⟩
end Go.Proofs.YtlindlmcojmhcaaDoor

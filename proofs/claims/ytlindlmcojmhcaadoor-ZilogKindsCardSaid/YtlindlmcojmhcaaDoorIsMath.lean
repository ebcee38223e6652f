/- The forms of all opcodes by their bits, as bytes, and that they are the document's; no condition. -/
import Derived.Test.YtlindlmcojmhcaaDoorForms
import Derived.Test.YtlindlmcojmhcaaDoorIsWords
namespace Go.Proofs.YtlindlmcojmhcaaDoor
open Go.RowKit

def regsL : List (List UInt8) := [[66], [67], [68], [69], [72], [76], [77], [65]]
def pairsL : List (List UInt8) := [[66], [68], [72], [83, 80]]
def condsL : List (List UInt8) := [[78, 90], [90], [78, 67], [67], [80, 79], [80, 69], [80], [77]]
def recksL : List (List UInt8) := [[65, 68, 68], [65, 68, 67], [83, 85, 66], [83, 66, 66], [65, 78, 65], [88, 82, 65], [79, 82, 65], [67, 77, 80]]
def numbsL : List (List UInt8) := [[65, 68, 73], [65, 67, 73], [83, 85, 73], [83, 66, 73], [65, 78, 73], [88, 82, 73], [79, 82, 73], [67, 80, 73]]
def turnsL : List (List UInt8) := [[82, 76, 67], [82, 82, 67], [82, 65, 76], [82, 65, 82], [68, 65, 65], [67, 77, 65], [83, 84, 67], [67, 77, 67]]
abbrev d8L : List UInt8 := [100, 56]
abbrev d16L : List UInt8 := [100, 49, 54]
def ix (l : List (List UInt8)) (i : Nat) : List UInt8 := l.getD i []
abbrev Fm := List UInt8 × List (List UInt8)
def stackedL (op : Nat) : List UInt8 := if op / 16 % 4 = 3 then [80, 83, 87] else ix pairsL (op / 16 % 4)
def storeL (op : Nat) : Fm := match op / 8 % 8 with
  | 0 => ([83, 84, 65, 88], [ix pairsL (op / 16 % 4)])
  | 2 => ([83, 84, 65, 88], [ix pairsL (op / 16 % 4)])
  | 1 => ([76, 68, 65, 88], [ix pairsL (op / 16 % 4)])
  | 3 => ([76, 68, 65, 88], [ix pairsL (op / 16 % 4)])
  | 4 => ([83, 72, 76, 68], [d16L])
  | 5 => ([76, 72, 76, 68], [d16L])
  | 6 => ([83, 84, 65], [d16L])
  | _ => ([76, 68, 65], [d16L])
def leapL (op : Nat) : Fm := match op / 16 % 4 with
  | 0 => ([82, 69, 84], [])
  | 2 => ([80, 67, 72, 76], [])
  | 3 => ([83, 80, 72, 76], [])
  | _ => ([], [])
def oddB (op : Nat) : Bool := op / 8 % 2 == 1
def pushL (op : Nat) : Fm := if oddB op = false then ([80, 85, 83, 72], [stackedL op]) else if op / 16 % 4 = 0 then ([67, 65, 76, 76], [d16L]) else ([], [])
def mixedL (op : Nat) : Fm := match op / 8 % 8 with
  | 0 => ([74, 77, 80], [d16L])
  | 2 => ([79, 85, 84], [d8L])
  | 3 => ([73, 78], [d8L])
  | 4 => ([88, 84, 72, 76], [])
  | 5 => ([88, 67, 72, 71], [])
  | 6 => ([68, 73], [])
  | 7 => ([69, 73], [])
  | _ => ([], [])
def lowL (op : Nat) : Fm := match op % 8 with
  | 0 => if op = 0 then ([78, 79, 80], []) else ([], [])
  | 1 => if oddB op = true then ([68, 65, 68], [ix pairsL (op / 16 % 4)]) else ([76, 88, 73], [ix pairsL (op / 16 % 4), d16L])
  | 2 => storeL op
  | 3 => if oddB op = true then ([68, 67, 88], [ix pairsL (op / 16 % 4)]) else ([73, 78, 88], [ix pairsL (op / 16 % 4)])
  | 4 => ([73, 78, 82], [ix regsL (op / 8 % 8)])
  | 5 => ([68, 67, 82], [ix regsL (op / 8 % 8)])
  | 6 => ([77, 86, 73], [ix regsL (op / 8 % 8), d8L])
  | _ => (ix turnsL (op / 8 % 8), [])
def highL (op : Nat) : Fm := match op % 8 with
  | 0 => ([82] ++ ix condsL (op / 8 % 8), [])
  | 1 => if oddB op = true then leapL op else ([80, 79, 80], [stackedL op])
  | 2 => ([74] ++ ix condsL (op / 8 % 8), [d16L])
  | 3 => mixedL op
  | 4 => ([67] ++ ix condsL (op / 8 % 8), [d16L])
  | 5 => pushL op
  | 6 => (ix numbsL (op / 8 % 8), [d8L])
  | _ => ([82, 83, 84], [[(48 + op / 8 % 8).toUInt8]])
/-- the form of an opcode, by its bits -/
def formL (op : Nat) : Fm := match op / 64 with
  | 0 => lowL op
  | 1 => if op = 118 then ([72, 76, 84], []) else ([77, 79, 86], [ix regsL (op / 8 % 8), ix regsL (op % 8)])
  | 2 => (ix recksL (op / 8 % 8), [ix regsL (op % 8)])
  | _ => highL op
/-- the words of an opcode's form -/
def wordsOf (f : Fm) : List (List UInt8) := if f.1 = [] then [] else f.1 :: f.2
theorem forms_len : formsL.length = 256 := by kernel_rfl
theorem words_all : ((List.range 256).all fun op => decide (wordsL (formsL.getD op []) = wordsOf (formL op))) = true := by kernel_rfl
theorem words_form {op : Nat} (h : op < 256) : ∃ s, formsL[op]? = some s ∧ s.length ≤ 1000 ∧ wordsL s = wordsOf (formL op) := by
  have h1 := List.all_eq_true.1 words_all op (List.mem_range.2 h)
  have h2 : ∀ s ∈ formsL, s.length ≤ 1000 := by
    have : (formsL.all fun s => decide (s.length ≤ 1000)) = true := by kernel_rfl
    intro s hs
    simpa using List.all_eq_true.1 this s hs
  have hl : op < formsL.length := by rw [forms_len]; exact h
  refine ⟨formsL[op], List.getElem?_eq_getElem hl, h2 _ (List.getElem_mem hl), ?_⟩
  rw [List.getD_eq_getElem?_getD, List.getElem?_eq_getElem hl] at h1
  exact of_decide_eq_true h1
/-- how many bytes an instruction of a form has -/
def sizeF (f : Fm) : Nat := if f.1 = [] then 0 else if d16L ∈ f.2 then 3 else if d8L ∈ f.2 then 2 else 1
def sizeR (l : List (List UInt8)) : Nat := if l = [] then 0 else if l.getLastD [] = d8L then 2 else if l.getLastD [] = d16L then 3 else 1
theorem size_all : ((List.range 256).all fun op => decide (sizeR (wordsOf (formL op)) = sizeF (formL op) ∧ (formL op).2.length ≤ 2 ∧ sizeF (formL op) ≤ 3 ∧ (formL op).1.length ≤ 100 ∧ ((formL op).1 = [] → (formL op).2 = []))) = true := by kernel_rfl
theorem size_form {op : Nat} (h : op < 256) : sizeR (wordsOf (formL op)) = sizeF (formL op) ∧ (formL op).2.length ≤ 2 ∧ sizeF (formL op) ≤ 3 ∧ (formL op).1.length ≤ 100 ∧ ((formL op).1 = [] → (formL op).2 = []) :=
  of_decide_eq_true (List.all_eq_true.1 size_all op (List.mem_range.2 h))
/-- a text's number -/
def codeT (s : List UInt8) : Nat := s.foldl (fun n c => n * 256 + c.toNat) 1
def codeF2 (f : Fm) : List Nat := (codeT f.1) :: f.2.map codeT
def codeN (f : Fm) : Nat := (codeF2 f).foldl (fun n c => n * 4294967296 + c) 0
def codes : List Nat := (List.range 256).map fun op => codeN (formL op)
def apartB : List Nat → Bool
  | [] => true
  | x :: r => (Nat.beq x 1 || r.all fun y => !(Nat.beq x y)) && apartB r
end Go.Proofs.YtlindlmcojmhcaaDoor

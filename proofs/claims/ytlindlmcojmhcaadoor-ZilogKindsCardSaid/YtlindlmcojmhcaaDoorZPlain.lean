/- Zilog's forms of all opcodes, by the document: no two alike, each of as many bytes as Intel's; no condition. -/
import Derived.Test.YtlindlmcojmhcaaDoorIsInj
import Derived.Test.YtlindlmcojmhcaaDoorZForms
namespace Go.Proofs.YtlindlmcojmhcaaDoor
open Go.RowKit

/-- Zilog's form of an opcode: its name, and its operands -/
def zfmL (op : Nat) : Fm := match wordsL (zformsL.getD op []) with
  | [] => ([], [])
  | x :: r => (x, r)
theorem zforms_len : zformsL.length = 256 := by kernel_rfl
theorem zwords_all : (zformsL.all fun s => decide (s.length ≤ 1000 ∧ ∀ x ∈ wordsL s, x ≠ [])) = true := by kernel_rfl
theorem zwords_form {op : Nat} (h : op < 256) : ∃ s, zformsL[op]? = some s ∧ s.length ≤ 1000 ∧ wordsL s = wordsOf (zfmL op) := by
  have hl : op < zformsL.length := by rw [zforms_len]; exact h
  have h1 := of_decide_eq_true (List.all_eq_true.1 zwords_all zformsL[op] (List.getElem_mem hl))
  refine ⟨zformsL[op], List.getElem?_eq_getElem hl, h1.1, ?_⟩
  unfold zfmL
  rw [List.getD_eq_getElem?_getD, List.getElem?_eq_getElem hl]
  simp only [Option.getD_some]
  cases e : wordsL zformsL[op] with
  | nil => rfl
  | cons x r =>
    have hx := h1.2 x (by rw [e]; simp)
    unfold wordsOf
    rw [if_neg hx]
theorem zfm_nil {op : Nat} : (zfmL op).1 = [] → (zfmL op).2 = [] := by
  unfold zfmL
  cases e : wordsL (zformsL.getD op []) with
  | nil => intro _; rfl
  | cons x r =>
    intro hx
    by_cases h : op < zformsL.length
    · have h1 := of_decide_eq_true (List.all_eq_true.1 zwords_all zformsL[op] (List.getElem_mem h))
      rw [List.getD_eq_getElem?_getD, List.getElem?_eq_getElem h] at e
      exact absurd hx (h1.2 x (by rw [show wordsL zformsL[op] = x :: r from e]; simp))
    · rw [List.getD_eq_getElem?_getD, List.getElem?_eq_none (by omega)] at e
      cases e
def zcodes : List Nat := (List.range 256).map fun op => codeN (zfmL op)
theorem zcodes_apart : apartB zcodes = true := by kernel_rfl
theorem zcode_at {i : Nat} (h : i < 256) : zcodes[i]? = some (codeN (zfmL i)) := by
  unfold zcodes
  rw [List.getElem?_map, List.getElem?_range h]
  rfl
theorem zcode_doc : ((List.range 256).all fun op => decide (codeN (zfmL op) = 1 → (zfmL op).1 = [])) = true := by kernel_rfl
/-- opcodes of one form of Zilog's are one opcode -/
theorem zform_inj {i j : Nat} (hi : i < 256) (hj : j < 256) (h : zfmL i = zfmL j) (hd : (zfmL i).1 ≠ []) : i = j := by
  have key : codeN (zfmL i) ≠ 1 := fun e => hd (of_decide_eq_true (List.all_eq_true.1 zcode_doc i (List.mem_range.2 hi)) e)
  rcases Nat.lt_trichotomy i j with hlt | he | hlt
  · exact absurd (apart_get zcodes zcodes_apart i j _ _ hlt (zcode_at hi) (zcode_at hj) (by rw [h])) key
  · exact he
  · rw [h] at key
    exact absurd (apart_get zcodes zcodes_apart j i _ _ hlt (zcode_at hj) (zcode_at hi) (by rw [h])) key
/-- how many bytes the operands of a form of Zilog's tell -/
def sizeZ (l : List (List UInt8)) : Nat := l.foldl (fun s x => if x = [110, 110] ∨ x = [40, 110, 110, 41] then 3 else if x = [110] ∨ x = [40, 110, 41] then 2 else s) 1
theorem zboth_all : ((List.range 256).all fun op => decide (((zfmL op).1 = [] ↔ (formL op).1 = []) ∧ ((formL op).1 ≠ [] → sizeZ (zfmL op).2 = sizeF (formL op)) ∧ (zfmL op).2.length ≤ 2 ∧ (zfmL op).1.length ≤ 100)) = true := by kernel_rfl
theorem zboth {op : Nat} (h : op < 256) : ((zfmL op).1 = [] ↔ (formL op).1 = []) ∧ ((formL op).1 ≠ [] → sizeZ (zfmL op).2 = sizeF (formL op)) ∧ (zfmL op).2.length ≤ 2 ∧ (zfmL op).1.length ≤ 100 :=
  of_decide_eq_true (List.all_eq_true.1 zboth_all op (List.mem_range.2 h))
/-- whether an opcode has a condition -/
def hasC (op : Nat) : Prop := 192 ≤ op ∧ (op % 8 = 0 ∨ op % 8 = 2 ∨ op % 8 = 4)
instance (op : Nat) : Decidable (hasC op) := by unfold hasC; infer_instance
def ldsL : List (List UInt8) := [[77, 79, 86], [77, 86, 73], [76, 88, 73], [76, 68, 65], [83, 84, 65], [76, 72, 76, 68], [83, 72, 76, 68], [76, 68, 65, 88], [83, 84, 65, 88], [83, 80, 72, 76]]
theorem zkinds_all : ((List.range 256).all fun op => decide (
    ((zfmL op).1 = [74, 80] ↔ ((formL op).1 = [74, 77, 80] ∨ (formL op).1 = [80, 67, 72, 76] ∨ (hasC op ∧ op % 8 = 2))) ∧
    ((zfmL op).1 = [67, 65, 76, 76] ↔ ((formL op).1 = [67, 65, 76, 76] ∨ (hasC op ∧ op % 8 = 4))) ∧
    ((zfmL op).1 = [82, 69, 84] ↔ ((formL op).1 = [82, 69, 84] ∨ (hasC op ∧ op % 8 = 0))) ∧
    ((zfmL op).1 = [82, 83, 84] ↔ (formL op).1 = [82, 83, 84]) ∧
    ((zfmL op).1 = [72, 65, 76, 84] ↔ (formL op).1 = [72, 76, 84]) ∧
    ((zfmL op).1 = [76, 68] ↔ (formL op).1 ∈ ldsL))) = true := by kernel_rfl
theorem zkinds {op : Nat} (h : op < 256) :
    ((zfmL op).1 = [74, 80] ↔ ((formL op).1 = [74, 77, 80] ∨ (formL op).1 = [80, 67, 72, 76] ∨ (hasC op ∧ op % 8 = 2))) ∧
    ((zfmL op).1 = [67, 65, 76, 76] ↔ ((formL op).1 = [67, 65, 76, 76] ∨ (hasC op ∧ op % 8 = 4))) ∧
    ((zfmL op).1 = [82, 69, 84] ↔ ((formL op).1 = [82, 69, 84] ∨ (hasC op ∧ op % 8 = 0))) ∧
    ((zfmL op).1 = [82, 83, 84] ↔ (formL op).1 = [82, 83, 84]) ∧
    ((zfmL op).1 = [72, 65, 76, 84] ↔ (formL op).1 = [72, 76, 84]) ∧
    ((zfmL op).1 = [76, 68] ↔ (formL op).1 ∈ ldsL) :=
  of_decide_eq_true (List.all_eq_true.1 zkinds_all op (List.mem_range.2 h))
end Go.Proofs.YtlindlmcojmhcaaDoor

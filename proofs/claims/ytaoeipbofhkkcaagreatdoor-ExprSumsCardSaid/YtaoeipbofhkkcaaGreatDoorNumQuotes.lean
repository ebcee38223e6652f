/- What Quote and Unquote of the package number, and the document's Unquote do when they are called: a text between quotes, and the text of any quotes; a text is shorter than 17592186044416 (the document's) or 100000 bytes, where the library's variable MaxLen holds a number. -/
import Derived.Test.YtaoeipbofhkkcaaGreatDoorNumRep
import Derived.Test.YtaoeipbofhkkcaaGreatDoorNumAlive
import Derived.Test.YtaoeipbofhkkcaaGreatDoorNumShelfA
import Derived.Test.YtaoeipbofhkkcaaGreatDoorNumShelfB
namespace Go.Proofs.YtaoeipbofhkkcaaGreatDoor
open Go.RowKit Go.Proofs.NumMath

/-- the library's variable MaxLen holds a number -/
def MaxAt (w : World) (m : Int) : Prop := w.cell? ⟨0, 0, none⟩ = some (.int .i64 m)
theorem MaxAt.below {w w' : World} {m : Int} (h : MaxAt w m) (hb : Below w.heap.size w w') : MaxAt w' m := by
  unfold MaxAt at *
  rw [hb.cell (p := ⟨0, 0, none⟩) (World.block_lt_of_cell? _ _ h)]
  exact h
theorem repl_any (s old new : ByteArray) (m : Int) (w : World) (hs : s.size ≤ 100000) (hm : MaxAt w m) (h1 : 1 ≤ old.size) (hn : new.size ≤ 2) (hne : old.data.toList ≠ new.data.toList) :
    Calls Tryz.prog 89 #[.string s, .string old, .string new] w fun e w' => e = .returned (.string ⟨(RA old.data.toList new.data.toList s.data.toList).toArray⟩) ∧ Below w.heap.size w w' := by
  have hc : Lib.countB s old ≤ s.size := Lib.countB_le old h1 s.size s (Nat.le_refl _)
  have hl : Lib.countB s old * new.size ≤ 100000 * 2 := Nat.mul_le_mul (by omega) hn
  have h := Tryz.strings_ReplaceAll s old new m w (by omega) hm h1 (by omega)
  rw [RA_of _ _ _ hne] at h
  exact h
/-! ### Unquote -/
theorem ret_unq {l l' : List UInt8} {n n' : Nat} (h : (l, n) = (l', n')) : Ending.returned (.tuple #[.string ⟨l.toArray⟩, .int .i64 (n : Int)]) = .returned (.tuple #[.string ⟨l'.toArray⟩, .int .i64 (n' : Int)]) := by
  cases h; rfl
set_option maxHeartbeats 2000000 in
theorem unq_any (s : ByteArray) (hs : s.size ≤ 100000) (m : Int) (w : World) (hm : MaxAt w m) : Calls Tryz.prog 73 #[.string s] w fun e w' =>
    e = .returned (.tuple #[.string ⟨(unR (unqL s.data.toList)).1.toArray⟩, .int .i64 ((unR (unqL s.data.toList)).2 : Nat)]) ∧ Below w.heap.size w w' := by
  have hcp := Tryz.strings_CutPrefix s ⟨#[39]⟩
  rw [show (⟨#[39]⟩ : ByteArray).data.toList = [39] from rfl] at hcp
  obtain ⟨l1, hl1⟩ : ∃ l, Lib.trimPrefix s.data.toList [39] = l := ⟨_, rfl⟩
  have hlen1 : l1.length ≤ s.size := by rw [← hl1]; unfold Lib.trimPrefix; split <;> simp
  have hcs := Tryz.strings_CutSuffix ⟨l1.toArray⟩ ⟨#[39]⟩
  rw [show (⟨#[39]⟩ : ByteArray).data.toList = [39] from rfl, show (⟨l1.toArray⟩ : ByteArray).data.toList = l1 by simp] at hcs
  have hcs := hcs (w := w) (by rw [size_mk]; omega)
  have hcode := codeU_eq s.data.toList
  unfold codeU at hcode
  rw [hl1] at hcode hcp
  obtain ⟨l2, hl2⟩ : ∃ l, Lib.trimSuffix l1 [39] = l := ⟨_, rfl⟩
  have hlen2 : l2.length ≤ s.size := by
    rw [← hl2]; unfold Lib.trimSuffix; split
    · simp; omega
    · exact hlen1
  rw [hl2] at hcode hcs
  rw [unqIn_eq l2] at hcode
  obtain ⟨bp, hbp⟩ : ∃ b, Lib.hasPrefix s.data.toList [39] = b := ⟨_, rfl⟩
  obtain ⟨bs, hbs⟩ : ∃ b, Lib.hasSuffix l1 [39] = b := ⟨_, rfl⟩
  rw [hbp] at hcp hcode
  rw [hbs] at hcs hcode
  have hr1 := repl_any ⟨l2.toArray⟩ ⟨#[39, 39]⟩ ⟨#[]⟩ m w (by rw [size_mk]; omega) hm (by decide) (by decide) (by decide)
  rw [show (⟨#[39, 39]⟩ : ByteArray).data.toList = [39, 39] from rfl, show (⟨#[]⟩ : ByteArray).data.toList = [] from rfl, show (⟨l2.toArray⟩ : ByteArray).data.toList = l2 by simp, RA_rep] at hr1
  have hr2 := fun (w : World) (hm : MaxAt w m) => repl_any ⟨l2.toArray⟩ ⟨#[39, 39]⟩ ⟨#[39]⟩ m w (by rw [size_mk]; omega) hm (by decide) (by decide) (by decide)
  rw [show (⟨#[39, 39]⟩ : ByteArray).data.toList = [39, 39] from rfl, show (⟨#[39]⟩ : ByteArray).data.toList = [39] from rfl, show (⟨l2.toArray⟩ : ByteArray).data.toList = l2 by simp, RA_rep] at hr2
  have hco := Tryz.strings_Contains_one ⟨(rep [] l2).toArray⟩ 39
  rw [show (⟨(rep [] l2).toArray⟩ : ByteArray).data.toList = rep [] l2 by simp] at hco
  have hpr := prt_any ⟨l2.toArray⟩ (by rw [size_mk]; omega)
  rw [show (⟨l2.toArray⟩ : ByteArray).data.toList = l2 by simp] at hpr
  obtain ⟨al, hal⟩ : ∃ b, decide (0 ≤ Lib.indexByte (rep [] l2) 39) = b := ⟨_, rfl⟩
  have hal2 : 39 ∈ rep [] l2 ↔ al = true := by rw [← hal, decide_eq_true_eq, mem_index]
  obtain ⟨pr, hpp⟩ : ∃ b, prt l2 = b := ⟨_, rfl⟩
  rw [hal] at hco
  rw [hpp] at hpr hcode
  simp only [hal2] at hcode
  obtain ⟨U, hU⟩ : ∃ U, unqL s.data.toList = U := ⟨_, rfl⟩
  rw [hU] at hcode ⊢
  obtain ⟨r1, hr1'⟩ : ∃ l, rep [] l2 = l := ⟨_, rfl⟩
  obtain ⟨r2, hr2'⟩ : ∃ l, rep [39] l2 = l := ⟨_, rfl⟩
  rw [hr1'] at hr1 hco
  rw [hr2'] at hr2 hcode
  have HC := Lib.hid hcode
  clear hl1 hl2 hcode hbp hbs hal hal2 hpp hU hr1' hr2'
  have hm' : ∀ w', Below w.heap.size w w' → MaxAt w' m := fun w' hb => hm.below hb
  cases bp <;> cases bs <;> cases al <;> cases pr
  all_goals
    go_enter Tryz.func73, Tryz.ntmps73
    go_wp2_with (first
      | (go_at_call 86; refine (hcp _).mono ?_; rintro e w' ⟨rfl, hw⟩; rw [hw])
      | (go_at_call 87; refine hcs.mono ?_; rintro e w' ⟨rfl, hw⟩; rw [hw])
      | (go_at_call 89; with_reducible refine hr1.mono ?_; rintro e w1 ⟨rfl, hb1⟩)
      | (go_at_call 88; refine (hco _).mono ?_; rintro e w' ⟨rfl, hw⟩; rw [hw])
      | (go_at_call 90; refine (hpr _).mono ?_; rintro e w2 ⟨rfl, hb2⟩; (have hc2 := below_two hb1 hb2); clear hb2)
      | (go_at_call 89; refine (hr2 _ (hm' _ hc2)).mono ?_; rintro e w3 ⟨rfl, hb3⟩; (have hc3 := below_two hc2 hb3); clear hb3))
    go_ret2
    have e := HC.out
    first
      | exact ⟨ret_unq (by rw [← e]; rfl), hb1⟩
      | exact ⟨ret_unq (by rw [← e]; rfl), hc2⟩
      | exact ⟨ret_unq (by rw [← e]; rfl), hc3⟩
end Go.Proofs.YtaoeipbofhkkcaaGreatDoor

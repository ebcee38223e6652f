/- ExprEvals answers true, at any expression and any symbols; where the library's tables are laid. -/
import Derived.Test.YtaoeipbofhkkcaaGreatDoorPrOf
import Derived.Test.YtaoeipbofhkkcaaGreatDoorExLen
namespace Go.Proofs.YtaoeipbofhkkcaaGreatDoor
open Go.RowKit Go.Proofs.NumMath

set_option maxHeartbeats 4000000 in
set_option maxRecDepth 100000 in
theorem exprEvals_walk (w : World) (v vs : Value) (e : Ex) (here : Nat) (l : List (List UInt8 × Nat)) (hv : ExV w v e) (hh : here ≤ 65535) (hS : SymR w vs l) (m : Int) (hT : Tab16 w) (hm : MaxAt w m) : Calls Tryz.prog 3 #[v, .int .u16 here, vs] w fun x w' => x = .returned (.bool true) ∧ Below w.heap.size w w' := by
  have HV0 := Lib.hid hv
  have HS0 := Lib.hid hS
  have hle := hS.le
  obtain ⟨eo, en, es, el⟩ := e
  obtain ⟨hn, b, o, sp, c, rfl, hsp, hll⟩ := hv
  obtain ⟨sb, so, ssp, sc, rfl, hssp, hsc⟩ := hS
  obtain ⟨q, hq⟩ : ∃ q, el.length = q := ⟨_, rfl⟩
  obtain ⟨k, hk⟩ : ∃ k, l.length = k := ⟨_, rfl⟩
  rw [hq] at HV0 ⊢
  rw [hk] at HS0 ⊢
  have HK := Lib.hid hk
  have HLe := Lib.hid hle
  clear hsp hll hssp hsc hq hk hle
  obtain ⟨g0, g1⟩ := new_two w (Obj.cells #[.string ⟨eo.toArray⟩, .int .u16 (en : Nat), .string ⟨es.toArray⟩, .slice sp q c] 25) (Obj.cells #[.slice ssp k sc] 26)
  have hB0 := below_2o w (Obj.cells #[.string ⟨eo.toArray⟩, .int .u16 (en : Nat), .string ⟨es.toArray⟩, .slice sp q c] 25) (Obj.cells #[.slice ssp k sc] 26)
  have HSm := Lib.hid (small_any _ _ _ (HV0.out.below hB0))
  have HG0 := Lib.hid g0
  have HG1 := Lib.hid g1
  have HB0 := Lib.hid hB0
  have HM := Lib.hid hm
  have HT := Lib.hid hT
  have HA := Lib.hid (fun W (h : Below w.heap.size w W) => alive5_any m W (HM.out.below h) (HT.out.below h))
  obtain ⟨x, hx⟩ := EvX.some here (findL l) (.mk eo en es el)
  have HXx := Lib.hid hx
  clear g0 g1 hB0 hm hT hx
  go_enter Tryz.func3, Tryz.ntmps3
  go_wp2_with (go_at_call 8; refine HSm.out.mono ?_)
  rintro _ w1 ⟨bb, rfl, hsm, hB1⟩
  have HB1 := Lib.hid (HB0.out.trans (hB1.mono HB0.out.size))
  obtain ⟨e0, e1, e2, e3⟩ := cells_box (below_heap hB1 HG0.out)
  have l0 := cells_one (below_heap hB1 HG1.out)
  have HG2 := Lib.hid (below_heap hB1 HG0.out)
  have HG3 := Lib.hid (below_heap hB1 HG1.out)
  clear hB1
  cases bb
  · clear hsm
    go_wp2_with (go_at_call 9; refine (HA.out _ HB1.out).mono ?_; rintro _ w2 ⟨rfl, hB2⟩)
    go_ret
    exact ⟨rfl, HB1.out.trans (hB2.mono HB1.out.size)⟩
  · have hsm := hsm rfl
    have hs := lightX_short _ _ hsm.1
    by_cases h100 : k ≤ 100
    · have hk1 : ¬ (100 : Int) < (k : Int) := by omega
      have HSs := Lib.hid hs
      have HE := Lib.hid (pEval_any here hh (findL l) (fun s => findL_le s HLe.out) (.func (.func 11) #[] #[.pointer (some ⟨w.heap.size + 1, 0, none⟩)]) _ (.mk eo en es el) x w1 hs (HV0.out.below HB1.out) (.inr ⟨_, _, _, rfl⟩) (askAt_sym ⟨w.heap.size + 1, 0, none⟩ _ l w1 (cells_one HG3.out) (HS0.out.below HB1.out) (by rw [HK.out]; omega)) HXx.out)
      have HR := Lib.hid (fun W (h : Below w.heap.size w W) => Eval_any _ _ (.mk eo en es el) here l x W hs (HV0.out.below h) (HS0.out.below h) (by rw [HK.out]; omega) hh HXx.out)
      have hmf : ∀ (fn : Fn) (first cap : Array Value) (w : World), (Instr.makeFunc fn first cap).run Tryz.prog w = .ok (.func fn first cap) w := fun _ _ _ _ => rfl
      clear hsm hs
      go_wp2_with (first
        | (go_at_call 10; refine HE.out.mono ?_; rintro _ w2 ⟨rfl, hB2⟩
           obtain ⟨d0, d1, d2, d3⟩ := cells_box (below_heap hB2 HG2.out)
           have l1 := cells_one (below_heap hB2 HG3.out)
           have HB2 := Lib.hid (HB1.out.trans (hB2.mono HB1.out.size))
           clear hB2)
        | (go_at_call 13; refine (HR.out _ HB2.out).mono ?_; rintro _ w3 ⟨rfl, hB3⟩
           have HB3 := Lib.hid (HB2.out.trans (hB3.mono HB2.out.size))
           clear hB3)
        | (go_at_call 9; refine (HA.out _ HB3.out).mono ?_; rintro _ w4 ⟨rfl, hB4⟩))
      go_ret
      exact ⟨rfl, HB3.out.trans (hB4.mono HB3.out.size)⟩
    · have hk1 : (100 : Int) < (k : Int) := by omega
      clear hsm hs
      go_wp2_with (go_at_call 9; refine (HA.out _ HB1.out).mono ?_; rintro _ w2 ⟨rfl, hB2⟩)
      go_ret
      exact ⟨rfl, HB1.out.trans (hB2.mono HB1.out.size)⟩
end Go.Proofs.YtaoeipbofhkkcaaGreatDoor

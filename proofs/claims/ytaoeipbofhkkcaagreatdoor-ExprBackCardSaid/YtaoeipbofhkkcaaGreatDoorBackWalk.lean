/- ExprBack answers true, at any expression; where the library's tables are laid. -/
import Derived.Test.YtaoeipbofhkkcaaGreatDoorPrOf
import Derived.Test.YtaoeipbofhkkcaaGreatDoorExSam
namespace Go.Proofs.YtaoeipbofhkkcaaGreatDoor
open Go.RowKit Go.Proofs.NumMath

theorem sameX_self (e : Ex) : sameX e e = true := (sameX_eq e e).2 rfl
set_option maxHeartbeats 4000000 in
set_option maxRecDepth 100000 in
theorem exprBack_walk (w : World) (v : Value) (e : Ex) (hv : ExV w v e) (m : Int) (hT : Tab16 w) (hm : MaxAt w m) : Calls Tryz.prog 4 #[v] w fun x w' => x = .returned (.bool true) ∧ Below w.heap.size w w' := by
  have HV0 := Lib.hid hv
  obtain ⟨eo, en, es, el⟩ := e
  obtain ⟨hn, b, o, sp, c, rfl, hsp, hll⟩ := hv
  obtain ⟨q, hq⟩ : ∃ q, el.length = q := ⟨_, rfl⟩
  rw [hq] at HV0 ⊢
  clear hsp hll hq
  have hB0 := box_below w (Obj.cells #[.string ⟨eo.toArray⟩, .int .u16 (en : Nat), .string ⟨es.toArray⟩, .slice sp q c] 25)
  have HG0 := Lib.hid (heap_alloc_new w (Obj.cells #[.string ⟨eo.toArray⟩, .int .u16 (en : Nat), .string ⟨es.toArray⟩, .slice sp q c] 25))
  have HSm := Lib.hid (small_any _ _ _ (HV0.out.below hB0))
  have HB0 := Lib.hid hB0
  have HM := Lib.hid hm
  have HT := Lib.hid hT
  have HA := Lib.hid (fun W (h : Below w.heap.size w W) => alive5_any m W (HM.out.below h) (HT.out.below h))
  clear hB0 hm hT
  go_enter Tryz.func4, Tryz.ntmps4
  go_wp2_with (go_at_call 8; refine HSm.out.mono ?_)
  rintro _ w1 ⟨bb, rfl, hsm, hB1⟩
  have HB1 := Lib.hid (HB0.out.trans (hB1.mono HB0.out.size))
  have HG1 := Lib.hid (below_heap hB1 HG0.out)
  obtain ⟨e0, e1, e2, e3⟩ := cells_box HG1.out
  clear hB1
  cases bb
  · clear hsm
    go_wp2_with (go_at_call 9; refine (HA.out _ HB1.out).mono ?_; rintro _ w2 ⟨rfl, hB2⟩)
    go_ret
    exact ⟨rfl, HB1.out.trans (hB2.mono HB1.out.size)⟩
  · have hsm := hsm rfl
    have hs := lightX_short _ _ hsm.1
    cases hr : rightX 1 (.mk eo en es el)
    · have HS := Lib.hid (pShow_any _ (.mk eo en es el) ([], 2) w1 hs (HV0.out.below HB1.out) (HT.out.below HB1.out) (.inl ⟨hr, rfl⟩) (by decide))
      clear hsm hs hr
      go_wp2_with (first
        | (go_at_call 14; refine HS.out.mono ?_; rintro _ w2 ⟨rfl, hB2⟩; have HB2 := Lib.hid (HB1.out.trans (hB2.mono HB1.out.size)); clear hB2)
        | (go_at_call 9; refine (HA.out _ HB2.out).mono ?_; rintro _ w3 ⟨rfl, hB3⟩))
      go_ret
      exact ⟨rfl, HB2.out.trans (hB3.mono HB2.out.size)⟩
    · obtain ⟨r, h1, h2, h3⟩ := right_toEx _ 1 hr
      have hnod : nodesX (toEx r) ≤ 300 := by rw [h1]; exact hsm.2
      have hTl := textR_len r 1 h2
      have HS := Lib.hid (pShow_any _ (.mk eo en es el) (textR r 1, 0) w1 hs (HV0.out.below HB1.out) (HT.out.below HB1.out) (.inr ⟨r, h1, h2, hr, rfl⟩) (by show (textR r 1).length < 1000000; omega))
      have hsz := bsize (textR r 1)
      have HL := Lib.hid (fun (h : (textR r 1).length ≤ 200) W (hb : Below w.heap.size w W) => ltext_any r h2 h m W (HM.out.below hb))
      have HAl := Lib.hid (fun lv W (h : TokR W lv (tokR r 1)) => alltext_any r h2 (by omega) hnod (by rw [h1]; exact hs) lv W h)
      rw [h1] at HAl
      have HSs := Lib.hid hs
      obtain ⟨S, hS⟩ : ∃ S, (⟨(textR r 1).toArray⟩ : ByteArray) = S := ⟨_, rfl⟩
      have HS' : Hid (Calls Tryz.prog 14 #[.agg #[.string ⟨eo.toArray⟩, .int .u16 (en : Nat), .string ⟨es.toArray⟩, .slice sp q c]] w1 fun e w' => e = .returned (.tuple #[.string ⟨(textR r 1).toArray⟩, .int .i64 0]) ∧ Below w1.heap.size w1 w') := HS
      rw [hS] at hsz HS' HL
      by_cases h200 : (textR r 1).length ≤ 200
      · have hk : ¬ (200 : Int) < (S.size : Int) := by omega
        have HL2 := Lib.hid (HL.out h200)
        clear hsm hs hr h1 h2 h3 hnod hTl hsz hS HS HL h200
        go_wp2_with (first
          | (go_at_call 14; refine HS'.out.mono ?_; rintro _ w2 ⟨rfl, hB2⟩; have HB2 := Lib.hid (HB1.out.trans (hB2.mono HB1.out.size)); have HG2 := Lib.hid (below_heap hB2 HG1.out); clear hB2)
          | (go_at_call 15; refine (HL2.out _ HB2.out).mono ?_; rintro _ w3 ⟨g, c3, n3, rfl, hT3, hB3⟩
             have HT3 := Lib.hid hT3
             have HG3 := Lib.hid (below_heap hB3 HG2.out)
             have HB3 := Lib.hid (HB2.out.trans (hB3.mono HB2.out.size))
             clear hT3 hB3)
          | (go_at_call 16; refine (HAl.out _ _ HT3.out).mono ?_; rintro _ w4 ⟨v4, rfl, hv4, hB4⟩
             have hv5 := hv4.plain
             obtain ⟨hn4, b4, o4, sp4, c4, rfl, hsp4, hll4⟩ := hv4
             obtain ⟨q4, hq4⟩ : ∃ q, el.length = q := ⟨_, rfl⟩
             rw [hq4] at hv5 ⊢
             have hbx := box_below w4 (Obj.cells #[.string ⟨eo.toArray⟩, .int .u16 (en : Nat), .string ⟨es.toArray⟩, .slice sp4 q4 c4] 25)
             obtain ⟨d0, d1, d2, d3⟩ := cells_box (below_heap hbx (below_heap hB4 HG3.out))
             have HB4 := Lib.hid (HB3.out.trans ((hB4.trans (hbx.mono hB4.size)).mono HB3.out.size))
             have HV5 := Lib.hid (hv5.below hbx)
             clear hv5 hsp4 hll4 hq4 hbx hB4)
          | (go_at_call 17; refine (Same_any _ _ (.mk eo en es el) (.mk eo en es el) _ HSs.out HSs.out (HV0.out.below HB4.out) HV5.out).mono ?_; rintro _ w6 ⟨rfl, hB6⟩
             rw [sameX_self]
             have HB6 := Lib.hid (HB4.out.trans (hB6.mono HB4.out.size))
             clear hB6)
          | (go_at_call 9; refine (HA.out _ (by first | exact HB6.out | exact HB2.out)).mono ?_; rintro _ w7 ⟨rfl, hB7⟩))
        go_ret
        exact ⟨rfl, HB6.out.trans (hB7.mono HB6.out.size)⟩
      · have hk : (200 : Int) < (S.size : Int) := by omega
        clear hsm hs hr h1 h2 h3 hnod hTl hsz hS HS HL h200
        go_wp2_with (first
          | (go_at_call 14; refine HS'.out.mono ?_; rintro _ w2 ⟨rfl, hB2⟩; have HB2 := Lib.hid (HB1.out.trans (hB2.mono HB1.out.size)); clear hB2)
          | (go_at_call 9; refine (HA.out _ HB2.out).mono ?_; rintro _ w3 ⟨rfl, hB3⟩))
        go_ret
        exact ⟨rfl, HB2.out.trans (hB3.mono HB2.out.size)⟩
end Go.Proofs.YtaoeipbofhkkcaaGreatDoor

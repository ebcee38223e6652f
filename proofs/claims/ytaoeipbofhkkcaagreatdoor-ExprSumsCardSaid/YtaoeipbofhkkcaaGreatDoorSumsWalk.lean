/- ExprSums answers true, at any three numbers; where the library's tables are laid. -/
import Derived.Test.YtaoeipbofhkkcaaGreatDoorSumsOwn
namespace Go.Proofs.YtaoeipbofhkkcaaGreatDoor
open Go.RowKit Go.Proofs.NumMath

theorem rD_mk (a b c : Nat) : ∃ L, toEx (rD a b c) = .mk [45] 0 [] L := ⟨_, rfl⟩
set_option maxHeartbeats 8000000 in
set_option maxRecDepth 100000 in
theorem exprSums_walk (w : World) (a b c : Nat) (ha : a ≤ 65535) (hb : b ≤ 65535) (hc : c ≤ 65535) (m : Int) (hT : Tab16 w) (hm : MaxAt w m) : Calls Tryz.prog 5 #[.int .u16 (a : Nat), .int .u16 (b : Nat), .int .u16 (c : Nat)] w fun x w' => x = .returned (.bool true) ∧ Below w.heap.size w w' := by
  have HM := Lib.hid hm
  have HT := Lib.hid hT
  have HA := Lib.hid (fun W (h : Below w.heap.size w W) => alive5_any m W (HM.out.below h) (HT.out.below h))
  have HLa := Lib.hid (fun W => leaf18_any a W)
  have HLb := Lib.hid (fun W => leaf18_any b W)
  have HLc := Lib.hid (fun W => leaf18_any c W)
  clear hm hT
  go_enter Tryz.func5, Tryz.ntmps5
  go_upto_region 3 with (first
    | (go_at_call 18; (with_reducible refine (HLa.out _).mono ?_); rintro _ w1 ⟨rfl, hB1⟩)
    | (go_at_call 18; (with_reducible refine (HLb.out _).mono ?_); rintro _ w2 ⟨rfl, hB2⟩)
    | (go_at_call 18; (with_reducible refine (HLc.out _).mono ?_); rintro _ w3 ⟨rfl, hB3⟩))
  have hD := treeD a b c ha hb hc hB1 hB2 hB3
  clear hB1 hB2 hB3
  generalize (w3.alloc (oTL ⟨#[45]⟩ w2.heap.size c)).alloc (oT ⟨#[45]⟩ w3.heap.size 2) = X1 at hD ⊢
  generalize w3.heap.size + 1 = kD at hD ⊢
  generalize w3.heap.size = jD at hD ⊢
  have HD := Lib.hid hD
  clear hD
  go_upto_region 4 with (first
    | (go_at_call 18; (with_reducible refine (HLa.out _).mono ?_); rintro _ w1 ⟨rfl, hB1⟩)
    | (go_at_call 18; (with_reducible refine (HLb.out _).mono ?_); rintro _ w2 ⟨rfl, hB2⟩)
    | (go_at_call 18; (with_reducible refine (HLc.out _).mono ?_); rintro _ w3 ⟨rfl, hB3⟩))
  have hE := treeE a b c ha hb hc hB1 hB2 hB3
  clear hB1 hB2 hB3
  generalize ((w3.alloc (oLL b c)).alloc (oLT ⟨#[43]⟩ a w3.heap.size)).alloc (oT ⟨#[45]⟩ (w3.heap.size + 1) 2) = X2 at hE ⊢
  generalize w3.heap.size + 1 + 1 = kE at hE ⊢
  generalize w3.heap.size + 1 = jE at hE ⊢
  have HE := Lib.hid hE
  clear hE
  go_upto_region 5 with (go_at_call 18; (with_reducible refine (HLa.out _).mono ?_); rintro _ w1 ⟨rfl, hB1⟩)
  have hF := treeU [78, 79, 84] a ha hB1
  clear hB1
  generalize ((w1.alloc (oL a)).alloc (oT ⟨#[78, 79, 84]⟩ w1.heap.size 1)).alloc (oT ⟨#[78, 79, 84]⟩ (w1.heap.size + 1) 1) = X3 at hF ⊢
  generalize w1.heap.size + 1 + 1 = kF at hF ⊢
  generalize w1.heap.size + 1 = jF at hF ⊢
  have HF := Lib.hid hF
  clear hF
  go_upto_region 6 with (go_at_call 18; (with_reducible refine (HLa.out _).mono ?_); rintro _ w1 ⟨rfl, hB1⟩)
  have hG := treeU [78, 69, 71] a ha hB1
  clear hB1
  generalize ((w1.alloc (oL a)).alloc (oT ⟨#[78, 69, 71]⟩ w1.heap.size 1)).alloc (oT ⟨#[78, 69, 71]⟩ (w1.heap.size + 1) 1) = X4 at hG ⊢
  generalize w1.heap.size + 1 + 1 = kG at hG ⊢
  generalize w1.heap.size + 1 = jG at hG ⊢
  obtain ⟨vD, gD, bD⟩ := HD.out
  obtain ⟨vE, gE, bE⟩ := HE.out
  obtain ⟨vF, gF, bF⟩ := HF.out
  obtain ⟨vG, gG, bG⟩ := hG
  clear HD HE HF HLa HLb HLc
  have b34 := bF.trans (bG.mono bF.size)
  have b24 := bE.trans (b34.mono bE.size)
  have HB0 := Lib.hid (bD.trans (b24.mono bD.size))
  have HVD := Lib.hid (vD.below b24)
  have HVE := Lib.hid (vE.below b34)
  have HVF := Lib.hid (vF.below bG)
  have HVG := Lib.hid vG
  have HGD := Lib.hid (below_heap b24 gD)
  have HGE := Lib.hid (below_heap b34 gE)
  have HGF := Lib.hid (below_heap bG gF)
  have HGG := Lib.hid gG
  clear vD gD bD vE gE bE vF gF bF vG gG bG b34 b24
  have okD := rD_ok a b c ha hb hc
  have shD := rD_short a b c
  have ED := Lib.hid (evalT (rD a b c) okD (by simp [rD, deepR]) shD _ (rD_val a b c) _ X4 HVD.out)
  have EE := Lib.hid (fun W (h : Below X4.heap.size X4 W) => evalT (rE a b c) (rE_ok a b c ha hb hc) (by simp [rE, deepR]) (rE_short a b c) _ (rE_val a b c ha hb hc) _ W (HVE.out.below h))
  have EF := Lib.hid (fun W (h : Below X4.heap.size X4 W) => evalT (rF a) (rF_ok a ha) (by simp [rF, deepR]) (rF_short a) _ (rF_val a ha) _ W (HVF.out.below h))
  have EG := Lib.hid (fun W (h : Below X4.heap.size X4 W) => evalT (rG a) (rG_ok a ha) (by simp [rG, deepR]) (rG_short a) _ (rG_val a ha) _ W (HVG.out.below h))
  have es1 : IntKind.u16.wrap ((a : Int) - b) = ((two16 .sub a b).1 : Nat) := ap_sub a b hb
  have es2 : IntKind.u16.wrap (((two16 .sub a b).1 : Nat) - (c : Int)) = ((two16 .sub (two16 .sub a b).1 c).1 : Nat) := ap_sub _ c hc
  generalize (two16 .sub (two16 .sub a b).1 c).1 = x at ED EE es2
  generalize (two16 .sub a b).1 = u at es1 es2
  have hlen := rD_len a b c okD
  have HS := Lib.hid (fun W (h : Below X4.heap.size X4 W) => pShow_any _ _ (textR (rD a b c) 1, 0) W shD (HVD.out.below h) (HT.out.below (HB0.out.trans (h.mono HB0.out.size))) (.inr ⟨rD a b c, rfl, okD, toEx_right _ 1 okD (by simp [rD, deepR]), rfl⟩) (by show (textR (rD a b c) 1).length < 1000000; omega))
  have HL := Lib.hid (fun W (h : Below X4.heap.size X4 W) => ltext_any (rD a b c) okD hlen m W (HM.out.below (HB0.out.trans (h.mono HB0.out.size))))
  have HAl := Lib.hid (fun lv W (h : TokR W lv (tokR (rD a b c) 1)) => alltext_any (rD a b c) okD (by simp [rD, deepR]) (by rw [rD_nodes]; omega) shD lv W h)
  obtain ⟨LD, hLD⟩ := rD_mk a b c
  rw [hLD] at HVD HAl shD
  have HSs := Lib.hid shD
  obtain ⟨S, hS⟩ : ∃ S, (⟨(textR (rD a b c) 1).toArray⟩ : ByteArray) = S := ⟨_, rfl⟩
  have HS' : Hid (∀ W, Below X4.heap.size X4 W → Calls Tryz.prog 14 #[vT ⟨#[45]⟩ jD 2] W fun e w' => e = .returned (.tuple #[.string ⟨(textR (rD a b c) 1).toArray⟩, .int .i64 0]) ∧ Below W.heap.size W w') := HS
  rw [hS] at HS' HL
  clear HS hS hlen okD shD hLD
  obtain ⟨d0, d1, d2, d3⟩ := cells_box HGD.out
  go_wp2_with (first
    | (go_at_call 10; (with_reducible refine ED.out.mono ?_); rintro _ w1 ⟨rfl, hB1⟩
       have HB1 := Lib.hid hB1
       clear hB1 d0 d1 d2 d3
       obtain ⟨e0, e1, e2, e3⟩ := cells_box (below_heap HB1.out HGE.out))
    | (go_at_call 10; (with_reducible refine (EE.out _ HB1.out).mono ?_); rintro _ w2 ⟨rfl, hB2⟩
       have HB2 := Lib.hid (HB1.out.trans (hB2.mono HB1.out.size))
       clear hB2 e0 e1 e2 e3
       obtain ⟨f0, f1, f2, f3⟩ := cells_box (below_heap HB2.out HGF.out))
    | (go_at_call 10; (with_reducible refine (EF.out _ HB2.out).mono ?_); rintro _ w3 ⟨rfl, hB3⟩
       have HB3 := Lib.hid (HB2.out.trans (hB3.mono HB2.out.size))
       clear hB3 f0 f1 f2 f3
       obtain ⟨g0, g1, g2, g3⟩ := cells_box (below_heap HB3.out HGG.out))
    | (go_at_call 10; (with_reducible refine (EG.out _ HB3.out).mono ?_); rintro _ w4 ⟨rfl, hB4⟩
       have HB4 := Lib.hid (HB3.out.trans (hB4.mono HB3.out.size))
       clear hB4 g0 g1 g2 g3
       obtain ⟨h0, h1, h2, h3⟩ := cells_box (below_heap HB4.out HGD.out))
    | (go_at_call 14; (with_reducible refine (HS'.out _ HB4.out).mono ?_); rintro _ w5 ⟨rfl, hB5⟩
       have HB5 := Lib.hid (HB4.out.trans (hB5.mono HB4.out.size))
       clear hB5 h0 h1 h2 h3)
    | (go_at_call 15; refine (HL.out _ HB5.out).mono ?_; rintro _ w6 ⟨q, c6, n6, rfl, hT6, hB6⟩
       have HT6 := Lib.hid hT6
       have HB6 := Lib.hid (HB5.out.trans (hB6.mono HB5.out.size))
       clear hT6 hB6)
    | (go_at_call 16; refine (HAl.out _ _ HT6.out).mono ?_; rintro _ w7 ⟨v7, rfl, hv7, hB7⟩
       have hv8 := hv7.plain
       obtain ⟨hn7, b7, o7, sp7, c7, rfl, hsp7, hll7⟩ := hv7
       obtain ⟨q7, hq7⟩ : ∃ q, LD.length = q := ⟨_, rfl⟩
       rw [hq7] at hv8 ⊢
       have hbx := box_below w7 (Obj.cells #[.string ⟨#[45]⟩, .int .u16 0, .string ⟨#[]⟩, .slice sp7 q7 c7] 25)
       have HB7 := Lib.hid (HB6.out.trans ((hB7.trans (hbx.mono hB7.size)).mono HB6.out.size))
       obtain ⟨i0, i1, i2, i3⟩ := cells_box (below_heap HB7.out HGD.out)
       have HV8 := Lib.hid (hv8.below hbx)
       clear hv8 hsp7 hll7 hq7 hbx hB7)
    | (go_at_call 17; refine (Same_any _ _ (.mk [45] 0 [] LD) (.mk [45] 0 [] LD) _ HSs.out HSs.out HV8.out (HVD.out.below HB7.out)).mono ?_; rintro _ w8 ⟨rfl, hB8⟩
       rw [(sameX_eq _ _).2 rfl]
       have HB8 := Lib.hid (HB7.out.trans (hB8.mono HB7.out.size))
       clear hB8)
    | (go_at_call 9; refine (HA.out _ (HB0.out.trans (HB8.out.mono HB0.out.size))).mono ?_; rintro _ w9 ⟨rfl, hB9⟩))
  go_ret
  have hB := HB0.out.trans (HB8.out.mono HB0.out.size)
  exact ⟨rfl, hB.trans (hB9.mono hB.size)⟩
end Go.Proofs.YtaoeipbofhkkcaaGreatDoor

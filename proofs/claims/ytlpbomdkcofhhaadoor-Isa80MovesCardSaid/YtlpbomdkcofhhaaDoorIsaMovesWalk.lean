/- The walk of Isa80Moves: it answers true of any two numbers; the program's tables hold what its text says. -/
import Derived.Test.YtlpbomdkcofhhaaDoorIsAlive
import Derived.Deep.RegionHeld3
namespace Go.Proofs.YtlpbomdkcofhhaaDoor
open Go.RowKit

theorem cell_later {w w' : World} {p : Addr} {u : Value} (hb : Below w.heap.size w w') (h : w.cell? p = some u) : w'.cell? p = some u := keep_below hb p u h
theorem moves_all : ((List.range 8).all fun d => (List.range 8).all fun s => decide (((d = 6 ∧ s = 6) ∨ formL (64 + d * 8 + s) = ([77, 79, 86], [ix regsL d, ix regsL s])) ∧ formL (64 + d * 8 + s + 64) = (ix recksL d, [ix regsL s]) ∧ (formL (128 + d * 8)).1 = ix recksL d ∧ sizeF (formL (64 + d * 8 + s)) = 1)) = true := by kernel_rfl
theorem moves_at {d s : Nat} (hd : d < 8) (hs : s < 8) : ((d = 6 ∧ s = 6) ∨ formL (64 + d * 8 + s) = ([77, 79, 86], [ix regsL d, ix regsL s])) ∧ formL (64 + d * 8 + s + 64) = (ix recksL d, [ix regsL s]) ∧ (formL (128 + d * 8)).1 = ix recksL d ∧ sizeF (formL (64 + d * 8 + s)) = 1 :=
  of_decide_eq_true (List.all_eq_true.1 (List.all_eq_true.1 moves_all d (List.mem_range.2 hd)) s (List.mem_range.2 hs))
theorem form118 : formL 118 = ([72, 76, 84], []) := by decide
theorem wrap_u8 {z : Int} (h0 : 0 ≤ z) (h1 : z < 256) : IntKind.u8.wrap z = z := by
  have e1 : IntKind.u8.signed = false := rfl
  have e2 : IntKind.u8.bits = 8 := rfl
  simp only [IntKind.wrap, e1, e2]
  simp
  omega
abbrev regsO : Obj := .cells #[.string ⟨#[66]⟩, .string ⟨#[67]⟩, .string ⟨#[68]⟩, .string ⟨#[69]⟩, .string ⟨#[72]⟩, .string ⟨#[76]⟩, .string ⟨#[77]⟩, .string ⟨#[65]⟩] 9
theorem regs_cell {w : World} {k d : Nat} (h : w.heap[k]? = some regsO) (hd : d < 8) : w.cell? ⟨k, d, none⟩ = some (.string ⟨(ix regsL d).toArray⟩) := by
  unfold World.cell?
  simp only [h]
  match d, hd with
  | 0, _ => rfl
  | 1, _ => rfl
  | 2, _ => rfl
  | 3, _ => rfl
  | 4, _ => rfl
  | 5, _ => rfl
  | 6, _ => rfl
  | 7, _ => rfl
set_option maxRecDepth 100000 in
set_option maxHeartbeats 8000000 in
theorem isa80Moves_walk (d s : Nat) (hd : d < 256) (hs : s < 256) (w : World) (hT : Tabs w) : Calls Tryd.prog 8 #[.int .u8 d, .int .u8 s] w fun e w' => e = .returned (.bool true) ∧ Below w.heap.size w w' := by
  have HA := Lib.hid (fun w hT => alive_any w hT)
  have HT := Lib.hid hT
  clear hT
  by_cases hd7 : 7 < d
  · have b1 : decide (7 < (d : Int)) = true := decide_eq_true (by omega)
    go_enter Tryd.func8, Tryd.ntmps8
    go_wp2_with (go_at_call 16; refine (HA.out _ HT.out).mono ?_; rintro _ w8 ⟨rfl, hb1⟩; have B8 := Lib.hid hb1; clear hb1)
    go_ret
    exact ⟨rfl, B8.out⟩
  have b1 : decide (7 < (d : Int)) = false := decide_eq_false (by omega)
  by_cases hs7 : 7 < s
  · have b2 : decide (7 < (s : Int)) = true := decide_eq_true (by omega)
    go_enter Tryd.func8, Tryd.ntmps8
    go_wp2_with (go_at_call 16; refine (HA.out _ HT.out).mono ?_; rintro _ w8 ⟨rfl, hb1⟩; have B8 := Lib.hid hb1; clear hb1)
    go_ret
    exact ⟨rfl, B8.out⟩
  have b2 : decide (7 < (s : Int)) = false := decide_eq_false (by omega)
  obtain ⟨hm1, hm2, hm3, hm4⟩ := moves_at (d := d) (s := s) (by omega) (by omega)
  by_cases h66 : d = 6 ∧ s = 6
  · obtain ⟨rfl, rfl⟩ := h66
    have H2 := Lib.hid (fun w hT => name_any 118 (by decide) w hT)
    have H3 := Lib.hid (fun w hT => args_any 118 (by decide) w hT)
    rw [form118] at H2 H3
    clear hm1 hm2 hm3 hm4 b1 b2 hd hs hd7 hs7
    go_enter Tryd.func8, Tryd.ntmps8
    go_wp2_with (first
      | (go_at_call 12; refine (H3.out _ (HT.out.alloc _)).mono ?_; rintro _ w3 ⟨v, rfl, ⟨b, o, sp, c, rfl, _, _, _⟩, hb1⟩; have B3 := Lib.hid (below_new _ hb1); clear hb1)
      | (go_at_call 9; refine (H2.out _ (HT.out.below B3.out)).mono ?_; rintro _ w4 ⟨rfl, hb1⟩; have B4 := Lib.hid (below_step B3.out hb1); clear hb1)
      | (go_at_call 16; refine (HA.out _ (HT.out.below B4.out)).mono ?_; rintro _ w8 ⟨rfl, hb1⟩; have B8 := Lib.hid (below_step B4.out hb1); clear hb1))
    go_ret
    exact ⟨rfl, B8.out⟩
  have hm1' := hm1.resolve_left h66
  have h1 := fun w hT => args_any (64 + d * 8 + s) (by omega) w hT
  have h2 := fun w hT => args_any (64 + d * 8 + s + 64) (by omega) w hT
  have h3 := fun w hT => name_any (64 + d * 8 + s) (by omega) w hT
  have h4 := fun w hT => name_any (64 + d * 8 + s + 64) (by omega) w hT
  have h5 := fun w hT => name_any (128 + d * 8) (by omega) w hT
  have h6 := fun w hT => size_any (64 + d * 8 + s) (by omega) w hT
  rw [hm1', show ((64 + d * 8 + s : Nat) : Int) = 64 + (d : Int) * 8 + s by omega] at h1 h3
  rw [hm2, show ((64 + d * 8 + s + 64 : Nat) : Int) = 64 + (d : Int) * 8 + s + 64 by omega] at h2 h4
  rw [hm3, show ((128 + d * 8 : Nat) : Int) = 128 + (d : Int) * 8 by omega] at h5
  rw [hm4, show ((64 + d * 8 + s : Nat) : Int) = 64 + (d : Int) * 8 + s by omega] at h6
  have HC := fun (w : World) (k : Nat) (h : w.heap[k]? = some regsO) => And.intro (regs_cell h (d := d) (by omega)) (regs_cell h (d := s) (by omega))
  generalize ix regsL d = rd at h1 h3 HC
  generalize ix regsL s = rs at h1 h2 h3 h4 HC
  generalize ix recksL d = nm at h2 h4 h5
  have H1 := Lib.hid h1
  have H2 := Lib.hid h2
  have H3 := Lib.hid h3
  have H4 := Lib.hid h4
  have H5 := Lib.hid h5
  have H6 := Lib.hid h6
  clear h1 h2 h3 h4 h5 h6 hm1 hm2 hm3 hm4 hm1'
  have HCC := Lib.hid HC
  have hdi : (d : Int) < 8 := by omega
  have hsi : (s : Int) < 8 := by omega
  have hd8 : d < 8 := by omega
  have hs8 : s < 8 := by omega
  have h66' : ((d : Int) == 6) = false ∨ ((s : Int) == 6) = false := by
    by_cases e : d = 6
    · right; rw [beq_eq_false_iff_ne]; omega
    · left; rw [beq_eq_false_iff_ne]; omega
  clear hd hs hd7 hs7 h66 HC
  cases hd6 : ((d : Int) == 6)
  · clear h66'
    go_enter Tryd.func8, Tryd.ntmps8
    go_wp2_with (first
      | (go_at_call 12; refine (H1.out _ (HT.out.alloc _)).mono ?_; rintro _ w3 ⟨v, rfl, ⟨b7, o7, sp7, c7, rfl, hc7, g7, e7⟩, hb1⟩; obtain rfl := g7 (by simp); have E70 := Lib.hid (e7 0 rd rfl); have E71 := Lib.hid (e7 1 rs rfl); have KR := Lib.hid (at_below hb1 (at_new w _)); have B3 := Lib.hid (below_new _ hb1); clear hb1 e7 g7 H1)
      | (go_at_call 12; refine (H2.out _ (HT.out.below B3.out)).mono ?_; rintro _ w4 ⟨v, rfl, ⟨b8, o8, sp8, c8, rfl, hc8, g8, e8⟩, hb1⟩; obtain rfl := g8 (by simp); have k80 := e8 0 rs rfl; have k70 := keep_below hb1 _ _ E70.out; have k71 := keep_below hb1 _ _ E71.out; obtain ⟨kd, ks⟩ := HCC.out _ _ (at_below hb1 KR.out); have B4 := Lib.hid (below_step B3.out hb1); clear hb1 e8 g8))
    rw [Nat.add_zero] at k70 k80
    unfold strV at k70 k71 k80
    have hB := B4.out
    clear B4 B3 KR E70 E71
    have q1 : IntKind.u8.wrap (64 + (d : Int) * 8 + s + 64) = 64 + (d : Int) * 8 + s + 64 := wrap_u8 (by omega) (by omega)
    have q2 : IntKind.u8.wrap ((d : Int) * 8) = (d : Int) * 8 := wrap_u8 (by omega) (by omega)
    have q3 : IntKind.u8.wrap (128 + (d : Int) * 8) = 128 + (d : Int) * 8 := wrap_u8 (by omega) (by omega)
    go_region_held3 (fun W' => Below w.heap.size w W' ∧ W'.cell? ⟨b7, o7, none⟩ = some (.string ⟨rd.toArray⟩) ∧ W'.cell? ⟨b7, o7 + 1, none⟩ = some (.string ⟨rs.toArray⟩) ∧ W'.cell? ⟨b8, o8, none⟩ = some (.string ⟨rs.toArray⟩) ∧ W'.cell? ⟨w.heap.size, d, none⟩ = some (.string ⟨rd.toArray⟩) ∧ W'.cell? ⟨w.heap.size, s, none⟩ = some (.string ⟨rs.toArray⟩))
      (first | (go_split_ands; exact ⟨below_step (by assumption) hbb, cell_later hbb (by assumption), cell_later hbb (by assumption), cell_later hbb (by assumption), cell_later hbb (by assumption), cell_later hbb (by assumption)⟩) | ((repeat' apply And.intro) <;> first | (with_reducible refine Below.drew ?_; assumption) | go_keep))
      ((first
        | (go_at_call 9; (try go_split_ands); (with_reducible refine (H3.out _ (HT.out.below (by assumption))).mono ?_); rintro e Wb ⟨rfl, hbb⟩)
        | (go_at_call 9; (try go_split_ands); (with_reducible refine (H4.out _ (HT.out.below (by assumption))).mono ?_); rintro e Wb ⟨rfl, hbb⟩)
        | (go_at_call 9; (try go_split_ands); (with_reducible refine (H5.out _ (HT.out.below (by assumption))).mono ?_); rintro e Wb ⟨rfl, hbb⟩)
        | (go_at_call 14; (try go_split_ands); (with_reducible refine (H6.out _ (HT.out.below (by assumption))).mono ?_); rintro e Wb ⟨rfl, hbb⟩)
        | (go_at_call 16; (try go_split_ands); (with_reducible refine (HA.out _ (HT.out.below (by assumption))).mono ?_); rintro e Wb ⟨rfl, hbb⟩)))
    go_wp2
    go_split_ands
    go_ret
    exact ⟨rfl, by assumption⟩
  · rw [hd6] at h66'
    have hs6 := h66'.resolve_left (by simp)
    clear h66'
    go_enter Tryd.func8, Tryd.ntmps8
    go_wp2_with (first
      | (go_at_call 12; refine (H1.out _ (HT.out.alloc _)).mono ?_; rintro _ w3 ⟨v, rfl, ⟨b7, o7, sp7, c7, rfl, hc7, g7, e7⟩, hb1⟩; obtain rfl := g7 (by simp); have E70 := Lib.hid (e7 0 rd rfl); have E71 := Lib.hid (e7 1 rs rfl); have KR := Lib.hid (at_below hb1 (at_new w _)); have B3 := Lib.hid (below_new _ hb1); clear hb1 e7 g7 H1)
      | (go_at_call 12; refine (H2.out _ (HT.out.below B3.out)).mono ?_; rintro _ w4 ⟨v, rfl, ⟨b8, o8, sp8, c8, rfl, hc8, g8, e8⟩, hb1⟩; obtain rfl := g8 (by simp); have k80 := e8 0 rs rfl; have k70 := keep_below hb1 _ _ E70.out; have k71 := keep_below hb1 _ _ E71.out; obtain ⟨kd, ks⟩ := HCC.out _ _ (at_below hb1 KR.out); have B4 := Lib.hid (below_step B3.out hb1); clear hb1 e8 g8))
    rw [Nat.add_zero] at k70 k80
    unfold strV at k70 k71 k80
    have hB := B4.out
    clear B4 B3 KR E70 E71
    have q1 : IntKind.u8.wrap (64 + (d : Int) * 8 + s + 64) = 64 + (d : Int) * 8 + s + 64 := wrap_u8 (by omega) (by omega)
    have q2 : IntKind.u8.wrap ((d : Int) * 8) = (d : Int) * 8 := wrap_u8 (by omega) (by omega)
    have q3 : IntKind.u8.wrap (128 + (d : Int) * 8) = 128 + (d : Int) * 8 := wrap_u8 (by omega) (by omega)
    go_region_held3 (fun W' => Below w.heap.size w W' ∧ W'.cell? ⟨b7, o7, none⟩ = some (.string ⟨rd.toArray⟩) ∧ W'.cell? ⟨b7, o7 + 1, none⟩ = some (.string ⟨rs.toArray⟩) ∧ W'.cell? ⟨b8, o8, none⟩ = some (.string ⟨rs.toArray⟩) ∧ W'.cell? ⟨w.heap.size, d, none⟩ = some (.string ⟨rd.toArray⟩) ∧ W'.cell? ⟨w.heap.size, s, none⟩ = some (.string ⟨rs.toArray⟩))
      (first | (go_split_ands; exact ⟨below_step (by assumption) hbb, cell_later hbb (by assumption), cell_later hbb (by assumption), cell_later hbb (by assumption), cell_later hbb (by assumption), cell_later hbb (by assumption)⟩) | ((repeat' apply And.intro) <;> first | (with_reducible refine Below.drew ?_; assumption) | go_keep))
      ((first
        | (go_at_call 9; (try go_split_ands); (with_reducible refine (H3.out _ (HT.out.below (by assumption))).mono ?_); rintro e Wb ⟨rfl, hbb⟩)
        | (go_at_call 9; (try go_split_ands); (with_reducible refine (H4.out _ (HT.out.below (by assumption))).mono ?_); rintro e Wb ⟨rfl, hbb⟩)
        | (go_at_call 9; (try go_split_ands); (with_reducible refine (H5.out _ (HT.out.below (by assumption))).mono ?_); rintro e Wb ⟨rfl, hbb⟩)
        | (go_at_call 14; (try go_split_ands); (with_reducible refine (H6.out _ (HT.out.below (by assumption))).mono ?_); rintro e Wb ⟨rfl, hbb⟩)
        | (go_at_call 16; (try go_split_ands); (with_reducible refine (HA.out _ (HT.out.below (by assumption))).mono ?_); rintro e Wb ⟨rfl, hbb⟩)))
    go_wp2
    go_split_ands
    go_ret
    exact ⟨rfl, by assumption⟩
end Go.Proofs.YtlpbomdkcofhhaaDoor

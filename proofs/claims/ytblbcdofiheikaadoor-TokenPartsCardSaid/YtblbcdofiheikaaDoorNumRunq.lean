/- What the document's Unquote does when it is called; a text is shorter than 17592186044416 bytes. -/
import Derived.Test.YtblbcdofiheikaaDoorNumQuotes
namespace Go.Proofs.YtblbcdofiheikaaDoor
open Go.RowKit Go.Proofs.NumMath

theorem unq_step (c : UInt8) (t : List UInt8) (h : c ≠ 39) (ho : ok c = true) : unqIn (c :: t) = (unqIn t).map (c :: ·) := by
  cases t with
  | nil =>
    have e : unqIn [c] = if c = 39 ∨ ok c = false then none else some [c] := by rw [unqIn]
    rw [e, if_neg (by simp [h, ho])]
    rfl
  | cons d l => rw [unqIn, if_neg (by simp [ho]), if_neg h]
theorem unq_bad (c : UInt8) (t : List UInt8) (ho : ok c = false) : unqIn (c :: t) = none := by
  cases t with
  | nil => rw [unqIn, if_pos (.inr ho)]
  | cons d l => rw [unqIn, if_pos ho]
theorem unq_two (t : List UInt8) : unqIn (39 :: 39 :: t) = (unqIn t).map (39 :: ·) := by
  rw [unqIn, if_neg (by simp [ok39]), if_pos rfl, if_pos rfl]
theorem unq_alone (t : List UInt8) (h : ∀ u, t ≠ 39 :: u) : unqIn (39 :: t) = none := by
  cases t with
  | nil => rw [unqIn, if_pos (.inl rfl)]
  | cons d l => rw [unqIn, if_neg (by simp [ok39]), if_pos rfl, if_neg (fun e => h l (by rw [e]))]
theorem map_map_app (U : Option (List UInt8)) (acc : List UInt8) (c : UInt8) : (U.map (c :: ·)).map (acc ++ ·) = U.map ((acc ++ [c]) ++ ·) := by
  cases U <;> simp
theorem own_empty (w : World) (B : Nat) : w.ownsRow B 5 1 (.slice none 0 0) 0 (bys []) := World.ownsRow_nil _ _ _ _
theorem last_at (s : ByteArray) (h : 2 ≤ s.size) : lastN s.data.toList = (s[s.size - 1]'(by omega)).toNat := lastN_at s (by omega)
theorem inner_data (s : ByteArray) : (s.extract 1 (s.size - 1)).data.toList = (s.data.toList.drop 1).dropLast := by
  simp only [ByteArray.data_extract, Array.toList_extract, List.extract_eq_take_drop]
  rw [List.dropLast_eq_take, List.length_drop, data_size]
set_option maxHeartbeats 4000000 in
theorem runq_any (s : ByteArray) (hs : s.size < 17592186044416) (w : World) : Calls Tryd.prog 48 #[.string s] w fun e w' =>
    e = .returned (.tuple #[.string ⟨(unR (unqL s.data.toList)).1.toArray⟩, .int .i64 ((unR (unqL s.data.toList)).2 : Nat)]) ∧ Below w.heap.size w w' := by
  obtain ⟨U, hU⟩ : ∃ U, unqL s.data.toList = U := ⟨_, rfl⟩
  rw [hU]
  by_cases h2 : 2 ≤ s.size
  · have h0 : 0 < s.size := by omega
    have hl1 : s.size - 1 < s.size := by omega
    have hh := headN_at s h0
    have hl := last_at s h2
    have hin := inner_data s
    have hus : unqL s.data.toList = if (s[0]'h0).toNat = 39 ∧ (s[s.size - 1]'hl1).toNat = 39 then unqIn (s.extract 1 (s.size - 1)).data.toList else none := by
      unfold unqL
      rw [hh, hl, hin, data_size]
      simp only [h2, true_and]
    rw [hU] at hus
    obtain ⟨x, hx⟩ : ∃ x, s[0]'h0 = x := ⟨_, rfl⟩
    obtain ⟨y, hy⟩ : ∃ y, s[s.size - 1]'hl1 = y := ⟨_, rfl⟩
    rw [hx, hy] at hus
    have hx8 := x.toNat_lt
    have hy8 := y.toNat_lt
    obtain ⟨D, hD⟩ : ∃ D, s.extract 1 (s.size - 1) = D := ⟨_, rfl⟩
    have hDs : D.size ≤ s.size := by rw [← hD]; simp; omega
    rw [hD] at hus
    have HU := Lib.hid hus
    clear hus hU hh hl hin
    by_cases hxx : x.toNat = 39
    · by_cases hyy : y.toNat = 39
      · have e1 := HU.out
        rw [if_pos ⟨hxx, hyy⟩] at e1
        have HU2 := Lib.hid e1
        clear e1 HU
        have hb1 : ((x.toNat : Int) != 39) = false := by rw [bne_eq_false_iff_eq]; omega
        have hb2 : ((y.toNat : Int) != 39) = false := by rw [bne_eq_false_iff_eq]; omega
        clear hxx hyy
        go_enter Tryd.func48, Tryd.ntmps48
        go_wp2
        clear hb1 hb2 hx hy hD
        go_loopw [5, 6] (fun v i wr => ∃ (k m : Nat) (acc : List UInt8), k ≤ D.size ∧ i = .int .i64 k ∧ acc.length = m ∧ m ≤ k ∧ wr.ownsRow w.heap.size 5 1 v m (bys acc) ∧ U = (unqIn (D.data.toList.drop k)).map (acc ++ ·) ∧ Below w.heap.size w wr) (fun _ i _ => D.size - (intOf i).toNat)
        case atStart => exact ⟨0, 0, [], by omega, rfl, rfl, by omega, own_empty _ _, by rw [HU2.out]; simp, Below.refl _ _⟩
        case round =>
          obtain ⟨k, m, acc, hk, rfl, hm, hmk, hown, hu, hB⟩ := hrel
          have hsz := hB.size
          have HE := Lib.hid hu
          have HM := Lib.hid hm
          obtain ⟨so, co, rfl⟩ := own_len hown
          clear hu hm HU2
          by_cases hlt : k < D.size
          · have hdr := drop_at D k hlt
            obtain ⟨c, hc⟩ : ∃ c, D[k]'hlt = c := ⟨_, rfl⟩
            rw [hc] at hdr
            have hc8 := c.toNat_lt
            have HR := Lib.hid hdr
            clear hdr
            by_cases ho : 32 ≤ c.toNat ∧ c.toNat ≤ 126
            · obtain ⟨o1, o2⟩ := ho
              have hok : ok c = true := by unfold ok; rw [decide_eq_true o1, decide_eq_true o2]; rfl
              by_cases h39 : c.toNat = 39
              · obtain rfl := (toNat39 c).1 h39
                clear h39 hok
                by_cases hlast : k + 1 < D.size
                · have hdr2 := drop_at D (k + 1) hlast
                  obtain ⟨d, hd⟩ : ∃ d, D[k + 1]'hlast = d := ⟨_, rfl⟩
                  rw [hd] at hdr2
                  have hd8 := d.toNat_lt
                  have HR2 := Lib.hid hdr2
                  have hkl : ((k : Int) == (D.size : Int) - 1) = false := by rw [beq_eq_false_iff_ne]; omega
                  clear hdr2
                  by_cases hd39 : d.toNat = 39
                  · obtain rfl := (toNat39 d).1 hd39
                    clear hd39
                    have HN : Hid (U = (unqIn (D.data.toList.drop (k + 1 + 1))).map ((acc ++ [39]) ++ ·)) := by
                      rw [HE.out, HR.out, HR2.out, unq_two, map_map_app]; exact Lib.hid rfl
                    clear HE HR HR2
                    go_wp2_with (at_builtin; refine wpList_append_u8 rfl (.tmp 62) (.tmp 66) rfl w.heap.size _ m acc rfl (Row1.alloc (.inl hown) _) HM.out ⟨wr.heap.size, 0, none⟩ 1 _ 39 rfl (cell_new _ _ _) rfl (by omega) (by simp; omega) ?_; intro v3 w3 hown3 hb3)
                    go_roundw
                    case rel => exact ⟨k + 1 + 1, m + 1, acc ++ [39], by omega, by go_num, by simp [HM.out], by omega, hown3, HN.out, (hB.alloc hsz _).trans hb3⟩
                    case measure => simp [intOf]; omega
                  · have hbn : ((d.toNat : Int) != 39) = true := by rw [bne_iff_ne]; omega
                    have HN : Hid (U = none) := by
                      rw [HE.out, HR.out, HR2.out, unq_alone _ (fun u e => hd39 ((toNat39 d).2 (by injection e)))]; exact Lib.hid rfl
                    clear HE HR HR2
                    go_wp2
                    go_ret2
                    exact ⟨ret_unq (by rw [HN.out]; rfl), hB⟩
                · have hkl : ((k : Int) == (D.size : Int) - 1) = true := by rw [beq_iff_eq]; omega
                  have HN : Hid (U = none) := by
                    rw [HE.out, HR.out, drop_end D (k + 1) hlast, unq_alone _ (fun u e => by simp at e)]; exact Lib.hid rfl
                  clear HE HR
                  go_wp2
                  go_ret2
                  exact ⟨ret_unq (by rw [HN.out]; rfl), hB⟩
              · have hbn : ((c.toNat : Int) == 39) = false := by rw [beq_eq_false_iff_ne]; omega
                have HN : Hid (U = (unqIn (D.data.toList.drop (k + 1))).map ((acc ++ [c]) ++ ·)) := by
                  rw [HE.out, HR.out, unq_step c _ (fun e => h39 ((toNat39 c).2 e)) hok, map_map_app]; exact Lib.hid rfl
                clear HE HR hok
                go_wp2_with (at_builtin; refine wpList_append_u8 rfl (.tmp 62) (.tmp 66) rfl w.heap.size _ m acc rfl (Row1.alloc (.inl hown) _) HM.out ⟨wr.heap.size, 0, none⟩ 1 _ c rfl (cell_new _ _ _) rfl (by omega) (by simp; omega) ?_; intro v3 w3 hown3 hb3)
                go_roundw
                case rel => exact ⟨k + 1, m + 1, acc ++ [c], by omega, by go_num, by simp [HM.out], by omega, hown3, HN.out, (hB.alloc hsz _).trans hb3⟩
                case measure => simp [intOf]; omega
            · have hok : ok c = false := by
                unfold ok
                rw [Bool.eq_false_iff]
                intro h
                simp at h
                exact ho h
              have HN : Hid (U = none) := by rw [HE.out, HR.out, unq_bad c _ hok]; exact Lib.hid rfl
              clear HE HR hok
              by_cases o1 : 32 ≤ c.toNat
              · have o2 : ¬ c.toNat ≤ 126 := fun h => ho ⟨o1, h⟩
                clear ho
                go_wp2
                go_ret2
                exact ⟨ret_unq (by rw [HN.out]; rfl), hB⟩
              · clear ho
                go_wp2
                go_ret2
                exact ⟨ret_unq (by rw [HN.out]; rfl), hB⟩
          · obtain rfl : k = D.size := by omega
            have HN : Hid (U = some acc) := by rw [HE.out, drop_end D _ hlt, unqIn]; exact Lib.hid (by simp)
            have hcv := own_str hown
            clear HE
            go_wp2
            go_ret2
            exact ⟨ret_unq (by rw [HN.out]; rfl), hB⟩
      · have hb1 : ((x.toNat : Int) != 39) = false := by rw [bne_eq_false_iff_eq]; omega
        have hb2 : ((y.toNat : Int) != 39) = true := by rw [bne_iff_ne]; omega
        have e1 := HU.out
        rw [if_neg (fun h => hyy h.2)] at e1
        have HN := Lib.hid e1
        clear e1 HU hxx hyy
        go_enter Tryd.func48, Tryd.ntmps48
        go_wp2
        go_ret2
        exact ⟨ret_unq (by rw [HN.out]; rfl), Below.refl _ _⟩
    · have hb1 : ((x.toNat : Int) != 39) = true := by rw [bne_iff_ne]; omega
      have e1 := HU.out
      rw [if_neg (fun h => hxx h.1)] at e1
      have HN := Lib.hid e1
      clear e1 HU hxx
      go_enter Tryd.func48, Tryd.ntmps48
      go_wp2
      go_ret2
      exact ⟨ret_unq (by rw [HN.out]; rfl), Below.refl _ _⟩
  · have HN : Hid (U = none) := by rw [← hU]; unfold unqL; rw [data_size, if_neg (fun h => h2 h.1)]; exact Lib.hid rfl
    clear hU
    go_enter Tryd.func48, Tryd.ntmps48
    go_wp2
    go_ret2
    exact ⟨ret_unq (by rw [HN.out]; rfl), Below.refl _ _⟩
end Go.Proofs.YtblbcdofiheikaaDoor

/- What Psw does when it is called, of both packages, said of values and of the world; there is no condition. -/
import Derived.Test.YtpkiobnnpjimaaaBytes
import Derived.Lib.Hide
namespace Go.Proofs.Ytpkiobnnpjimaaa
open Go.RowKit Go.Proofs.WordMath

theorem bi_bd (b : Bool) (n : Int) (h : 0 ≤ n) : 0 ≤ bi b n ∧ bi b n ≤ n := by cases b <;> simp [bi, h]
set_option maxHeartbeats 2000000 in
theorem psw_any (s z h p c : Bool) (w : World) : Calls Try.prog 12 #[.agg #[.bool s, .bool z, .bool h, .bool p, .bool c]] w fun e w' => e = .returned (.int .u8 (pswV s z h p c)) ∧ Below w.heap.size w w' := by
  have q1 := Lib.hid or_s
  have q2 := Lib.hid (or_z s)
  have q3 := Lib.hid (or_h s z)
  have q4 := Lib.hid (or_p s z h)
  have q5 := Lib.hid (or_c s z h p)
  go_enter Try.func12, Try.ntmps12
  go_wp2_with (first
    | (go_at_call 42; (with_reducible refine (set_any 7 128 (2) (w.heap.size + 1) s (.inl ⟨rfl, rfl⟩) q1.out _ (at_new' (by simp))).mono ?_); rintro e W1 ⟨rfl, hs1⟩; (have hk1 := hs1.2.1); (have hx1 := (hs1.1 w.heap.size (by omega)).trans (at_old (at_new w _))); (have hg1 : Below w.heap.size w W1 := hs1.below (((Below.refl _ _).alloc (Nat.le_refl _) _).alloc (by simp) _) (by omega)); obtain ⟨_, _, _, _, _⟩ := (five hx1).1; obtain ⟨_, _⟩ := cell_one hk1; clear hs1)
    | (go_at_call 42; (with_reducible refine (set_any 6 64 (2 + bi s 128) (w.heap.size + 1) z (.inr (.inl ⟨rfl, rfl⟩)) q2.out _ hk1).mono ?_); rintro e W2 ⟨rfl, hs2⟩; (have hk2 := hs2.2.1); (have hx2 := (hs2.1 w.heap.size (by omega)).trans hx1); (have hg2 : Below w.heap.size w W2 := hs2.below hg1 (by omega)); clear hk1 hx1 hg1; obtain ⟨_, _, _, _, _⟩ := (five hx2).1; obtain ⟨_, _⟩ := cell_one hk2; clear hs2)
    | (go_at_call 42; (with_reducible refine (set_any 4 16 (2 + bi s 128 + bi z 64) (w.heap.size + 1) h (.inr (.inr (.inl ⟨rfl, rfl⟩))) q3.out _ hk2).mono ?_); rintro e W3 ⟨rfl, hs3⟩; (have hk3 := hs3.2.1); (have hx3 := (hs3.1 w.heap.size (by omega)).trans hx2); (have hg3 : Below w.heap.size w W3 := hs3.below hg2 (by omega)); clear hk2 hx2 hg2; obtain ⟨_, _, _, _, _⟩ := (five hx3).1; obtain ⟨_, _⟩ := cell_one hk3; clear hs3)
    | (go_at_call 42; (with_reducible refine (set_any 2 4 (2 + bi s 128 + bi z 64 + bi h 16) (w.heap.size + 1) p (.inr (.inr (.inr (.inl ⟨rfl, rfl⟩)))) q4.out _ hk3).mono ?_); rintro e W4 ⟨rfl, hs4⟩; (have hk4 := hs4.2.1); (have hx4 := (hs4.1 w.heap.size (by omega)).trans hx3); (have hg4 : Below w.heap.size w W4 := hs4.below hg3 (by omega)); clear hk3 hx3 hg3; obtain ⟨_, _, _, _, _⟩ := (five hx4).1; obtain ⟨_, _⟩ := cell_one hk4; clear hs4)
    | (go_at_call 42; (with_reducible refine (set_any 0 1 (2 + bi s 128 + bi z 64 + bi h 16 + bi p 4) (w.heap.size + 1) c (.inr (.inr (.inr (.inr ⟨rfl, rfl⟩)))) q5.out _ hk4).mono ?_); rintro e W5 ⟨rfl, hs5⟩; (have hk5 := hs5.2.1); (have hx5 := (hs5.1 w.heap.size (by omega)).trans hx4); (have hg5 : Below w.heap.size w W5 := hs5.below hg4 (by omega)); clear hk4 hx4 hg4; obtain ⟨_, _, _, _, _⟩ := (five hx5).1; obtain ⟨_, _⟩ := cell_one hk5; clear hs5))
  go_ret
  exact ⟨rfl, hg5⟩
set_option maxHeartbeats 2000000 in
theorem rpsw_any (s z h p c : Bool) (w : World) : Calls Try.prog 14 #[.agg #[.bool s, .bool z, .bool h, .bool p, .bool c]] w fun e w' => e = .returned (.int .u8 (pswV s z h p c)) ∧ Below w.heap.size w w' := by
  obtain ⟨s0, s1⟩ := bi_bd s 128 (by omega)
  obtain ⟨z0, z1⟩ := bi_bd z 64 (by omega)
  obtain ⟨h0, h1⟩ := bi_bd h 16 (by omega)
  obtain ⟨p0, p1⟩ := bi_bd p 4 (by omega)
  obtain ⟨c0, c1⟩ := bi_bd c 1 (by omega)
  obtain ⟨v0, v1⟩ := pswV_bd s z h p c
  have q := pswV_ref s z h p c
  go_enter Try.func14, Try.ntmps14
  go_wp2_with fail
  go_quiet ((go_at_call 43; exact Calls.quiet_of_same ((bit_any _ _ _).mono fun _ _ hh => ⟨hh.1, hh.2.symm⟩)))
  simp only [Exit.then]
  go_step
  go_step
  go_step
  go_ret
  exact ⟨rfl, grow_drewN (by go_grown) nq⟩
theorem of_psw_v : ∀ s z h p c : Bool, ((pswV s z h p c / 128 % 2 == 1) = s ∧ (pswV s z h p c / 64 % 2 == 1) = z ∧ (pswV s z h p c / 16 % 2 == 1) = h) ∧ (pswV s z h p c / 4 % 2 == 1) = p ∧ (pswV s z h p c % 2 == 1) = c := by decide +kernel
theorem of_psw (s z h p c : Bool) (w : World) : Calls Try.prog 16 #[.int .u8 (pswV s z h p c)] w fun e w' => e = .returned (.agg #[.bool s, .bool z, .bool h, .bool p, .bool c]) ∧ Below w.heap.size w w' :=
  (of_any (pswV s z h p c) (pswV_bd s z h p c).1 (pswV_bd s z h p c).2 w).mono fun _ _ ⟨he, hb⟩ => ⟨he.trans (by
    obtain ⟨⟨e1, e2, e3⟩, e4, e5⟩ := of_psw_v s z h p c
    exact ret_agg5 e1 e2 e3 e4 e5), hb⟩
theorem par_below (a : Int) (h0 : 0 ≤ a) (h1 : a ≤ 255) (w : World) : Calls Try.prog 18 #[.int .u8 a] w fun e w' => e = .returned (.bool (par a)) ∧ Below w.heap.size w w' :=
  (par_any a h0 h1 w).mono fun _ _ ⟨he, hw⟩ => ⟨he, hw ▸ Below.refl _ _⟩
theorem rpar_below (a : Int) (h0 : 0 ≤ a) (h1 : a ≤ 255) (w : World) : Calls Try.prog 19 #[.int .u8 a] w fun e w' => e = .returned (.bool (par a)) ∧ Below w.heap.size w w' :=
  (rpar_any a h0 h1 w).mono fun _ _ ⟨he, hw⟩ => ⟨he, hw ▸ Below.refl _ _⟩
end Go.Proofs.Ytpkiobnnpjimaaa

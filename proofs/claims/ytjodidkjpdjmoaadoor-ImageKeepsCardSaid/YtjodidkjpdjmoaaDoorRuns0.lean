/- Runs in memory: a row of places and rows of bytes; what it is to add a run, and to lengthen the last one. -/
import Derived.Test.YtjodidkjpdjmoaaDoorAll
namespace Go.Proofs.YtjodidkjpdjmoaaDoor
open Go.RowKit

def runCells : List (Run × Value) → List Value
  | [] => []
  | x :: t => runCells t ++ [.int .u16 (x.1.p : Nat), x.2]
theorem runCells_length : ∀ ps : List (Run × Value), (runCells ps).length = ps.length * 2
  | [] => rfl
  | x :: t => by simp [runCells, runCells_length t]; omega

/-- The slice v, of elements of type e, holds the runs, the last one ahead; each run's bytes lie in a row of their own. -/
structure RunsAt (W : World) (B : Nat) (e : TypeId) (v : Value) (ps : List (Run × Value)) : Prop where
  row : W.ownsRow B e 2 v ps.length (runCells ps)
  bytes : ∀ x ∈ ps, W.ownsRow B 5 1 x.2 x.1.bs.length (x.1.bs.map (Value.int .u8))
  apart : ps.Pairwise (fun x y => ∀ q, x.2.ownBlock = some q → y.2.ownBlock ≠ some q)

theorem own_tag {W : World} {B : Nat} {e : TypeId} {s : Nat} {v : Value} {n : Nat} {xs : List Value} (h : W.ownsRow B e s v n xs) {q : Nat} (hq : v.ownBlock = some q) : ∃ cur, W.heap[q]? = some (.cells cur e (0, 0)) := by
  rcases h.2 with ⟨rfl, _⟩ | ⟨g, cap, cur, rfl, _, hg, _⟩
  · simp [Value.ownBlock] at hq
  · simp [Value.ownBlock] at hq; subst hq; exact ⟨cur, hg⟩
theorem own_apart {W : World} {B B' : Nat} {e e' : TypeId} {s s' : Nat} {v v' : Value} {n n' : Nat} {xs xs' : List Value} (h : W.ownsRow B e s v n xs) (h' : W.ownsRow B' e' s' v' n' xs') (hne : e ≠ e') :
    v.ownBlock = none ∨ v.ownBlock ≠ v'.ownBlock := by
  cases hq : v.ownBlock with
  | none => exact .inl rfl
  | some q =>
    refine .inr fun e1 => ?_
    obtain ⟨c, h1⟩ := own_tag h hq
    obtain ⟨c', h2⟩ := own_tag h' e1.symm
    rw [h1] at h2
    simp at h2
    exact hne h2.2
theorem own_row {W : World} {B : Nat} {e : TypeId} {s : Nat} {v : Value} {n : Nat} {xs : List Value} (h : W.ownsRow B e s v n xs) {row : Option Nat} (hr : ∀ r, row = some r → ∃ o, W.heap[r]? = some o ∧ ∀ c, o ≠ .cells c e (0, 0)) : v.ownBlock = none ∨ v.ownBlock ≠ row := by
  cases hq : v.ownBlock with
  | none => exact .inl rfl
  | some q =>
    refine .inr fun e1 => ?_
    obtain ⟨c, h1⟩ := own_tag h hq
    obtain ⟨o, h2, h3⟩ := hr q e1.symm
    rw [h1] at h2
    exact h3 c (Option.some.inj h2).symm

theorem RunsAt.nil (W : World) (B : Nat) (e : TypeId) : RunsAt W B e (.slice none 0 0) [] := ⟨World.ownsRow_nil _ _ _ _, fun _ hx => (List.not_mem_nil hx).elim, List.Pairwise.nil⟩
/-- What turns no such row leaves the runs as they are. -/
theorem RunsAt.kept {W W' : World} {B : Nat} {e : TypeId} {v : Value} {ps : List (Run × Value)} (h : RunsAt W B e v ps) {row : Option Nat} (hg : W.grownBy W' row)
    (hr : ∀ r, row = some r → ∃ o, W.heap[r]? = some o ∧ (∀ c, o ≠ .cells c e (0, 0)) ∧ ∀ c, o ≠ .cells c 5 (0, 0)) : RunsAt W' B e v ps :=
  ⟨h.row.kept hg (own_row h.row fun r e => let ⟨o, h1, h2, _⟩ := hr r e; ⟨o, h1, h2⟩), fun x hx => (h.bytes x hx).kept hg (own_row (h.bytes x hx) fun r e => let ⟨o, h1, _, h3⟩ := hr r e; ⟨o, h1, h3⟩), h.apart⟩
theorem RunsAt.alloc {W : World} {B : Nat} {e : TypeId} {v : Value} {ps : List (Run × Value)} (h : RunsAt W B e v ps) (o : Obj) : RunsAt (W.alloc o) B e v ps := h.kept (World.grownBy_alloc W o none) (fun r e => by cases e)

/-- A run more. -/
theorem RunsAt.add {W W2 : World} {B : Nat} {e : TypeId} {v v' vb : Value} {ps : List (Run × Value)} (h : RunsAt W B e v ps) (he : (5 : TypeId) ≠ e) {a : Nat} {bs : List Int}
    (hown : W2.ownsRow B e 2 v' (ps.length + 1) (runCells ps ++ [.int .u16 (a : Nat), vb])) (hg : W.grownBy W2 v.ownBlock) (hvb : W2.ownsRow B 5 1 vb bs.length (bs.map (Value.int .u8)))
    (hnew : ∀ x ∈ ps, ∀ q, vb.ownBlock = some q → x.2.ownBlock ≠ some q) : RunsAt W2 B e v' ((⟨a, bs⟩, vb) :: ps) := by
  refine ⟨hown, fun x hx => ?_, ?_⟩
  · rcases List.mem_cons.1 hx with rfl | hx
    · exact hvb
    · exact (h.bytes x hx).kept hg (own_apart (h.bytes x hx) h.row he)
  · exact List.pairwise_cons.2 ⟨fun x hx q hq => hnew x hx q hq, h.apart⟩

/-- The last run a byte longer. -/
theorem RunsAt.longer {W W2 : World} {B g cap : Nat} {e : TypeId} {vb vb' : Value} {r : Run} {t : List (Run × Value)} (h : RunsAt W B e (.slice (some ⟨g, 0, none⟩) (t.length + 1) cap) ((r, vb) :: t)) (he : (5 : TypeId) ≠ e) {x : Int}
    (hown : W2.ownsRow B 5 1 vb' (r.bs.length + 1) (r.bs.map (Value.int .u8) ++ [.int .u8 x])) (hg : W.grownBy W2 vb.ownBlock) (hat : vb'.ownBlock = vb.ownBlock ∨ ∃ q, vb'.ownBlock = some q ∧ W.heap.size ≤ q) :
    RunsAt (W2.setCell ⟨g, 2 * t.length + 1, none⟩ vb') B e (.slice (some ⟨g, 0, none⟩) (t.length + 1) cap) ((⟨r.p, r.bs ++ [x]⟩, vb') :: t) := by
  have hb := h.bytes (r, vb) (List.mem_cons_self ..)
  have hrow2 := h.row.kept hg (own_apart h.row hb (fun e1 => he e1.symm))
  obtain ⟨hst, hgs⟩ := hrow2.stored (2 * t.length + 1) vb'
  have hset : (runCells ((r, vb) :: t)).set (2 * t.length + 1) vb' = runCells ((⟨r.p, r.bs ++ [x]⟩, vb') :: t) := by
    simp only [runCells]
    rw [List.set_append_right _ _ (by rw [runCells_length]; omega), runCells_length]
    congr 1
    rw [show 2 * t.length + 1 - t.length * 2 = 1 by omega]
    rfl
  rw [hset] at hst
  have hap := List.pairwise_cons.1 h.apart
  refine ⟨hst, fun y hy => ?_, List.pairwise_cons.2 ⟨fun y hy q hq => ?_, hap.2⟩⟩
  · rcases List.mem_cons.1 hy with rfl | hy
    · have hown2 : W2.ownsRow B 5 1 vb' (r.bs ++ [x]).length ((r.bs ++ [x]).map (Value.int .u8)) := by
        simp only [List.length_append, List.length_singleton, List.map_append, List.map_cons, List.map_nil]; exact hown
      exact hown2.kept hgs (own_apart hown2 hrow2 he)
    · have hy1 := h.bytes y (List.mem_cons_of_mem _ hy)
      have hy2 := hy1.kept hg (by
        cases hq : y.2.ownBlock with
        | none => exact .inl rfl
        | some q => exact .inr fun e1 => hap.1 y hy q e1.symm hq)
      exact hy2.kept hgs (own_apart hy2 hrow2 he)
  · rcases hat with h1 | ⟨q', h1, h2⟩
    · exact hap.1 y hy q (h1.symm.trans hq)
    · intro e1
      have := (h.bytes y (List.mem_cons_of_mem _ hy)).lt q e1
      rw [h1] at hq; cases hq; omega

/-- An append inside a fence, which tells where the longer row lies. -/
theorem wpListIn_append_at {F : Fence} {m : Nat} {P : Program} (w : World) {ops : Array Oper} {rest : List Oper} {o : Oper} {a : Act} {Q : Exit → Act → World → Prop} (hg : o.guard = none) (s x : Operand) (t : TypeId)
    (ho : o.op = .call { callee := .builtin .append, args := #[s, x], argTypes := #[t, t] }) (base : Nat) (e : TypeId) (i : TypeInfo) (z : Value) (size bytes : Nat) (ht : P.underlying t = some (.slice e)) (hi : P.info? e = some i) (hz : i.zero = some z)
    (hsize : i.size = size) (hby : i.bytes = bytes) (hzs : z.cells.size = size) (hsz : 0 < size) (v : Value) (n : Nat) (xs : List Value) (hs : a.eval s = v) (hown : w.ownsRow base e size v n xs)
    (ad : Addr) (k c : Nat) (news : List Value) (hx : a.eval x = .slice (some ad) k c) (hl : news.length = k * size) (hnews : ∀ j u, news[j]? = some u → w.cell? (ad.add j) = some u) (h1 : ∀ u ∈ news, u.oneCell' = true)
    (h63 : n + k ≤ maxLen) (hbytes : (n + k) * bytes ≤ 140737488355328) (hbase : base ≤ w.heap.size)
    (h : ∀ v' w', w'.ownsRow base e size v' (n + k) (xs ++ news) → w.grownBy w' v.ownBlock → (v'.ownBlock = v.ownBlock ∨ v'.ownBlock = some w.heap.size) → wpListIn F m P ops Q rest (a.put o.dst v') w') :
    wpListIn F m P ops Q (o :: rest) a w := by
  refine wpListIn_plain hg fun K hK => ?_
  obtain ⟨v', w', hr, h2, h3, _, h5⟩ := run_append_own_at (P := P) w base t o.type e i z size bytes ht hi hz hsize hby hzs hsz v n xs hown ad k c news hl hnews h1 h63 hbytes hbase
  unfold Oper.wpIn
  refine ⟨by simp [Oper.about, ho, resolve, Target.leads, Sem.run_pure], ?_⟩
  rw [Oper.semAt_plain F _ _ (by rw [ho]; intro c hc; cases hc)]
  simp [execOp, ho, resolve, invoke, builtin, hs, hx, hr, Result.andThen]
  exact hK _ _ (h v' w' h2 h3 h5)

theorem own_slice {W : World} {B : Nat} {e : TypeId} {s : Nat} {v : Value} {n : Nat} {xs : List Value} (h : W.ownsRow B e s v n xs) : ∃ a cap, v = .slice a n cap := by
  rcases h.2 with ⟨rfl, rfl⟩ | ⟨g, cap, _, rfl, _⟩
  · exact ⟨_, _, rfl⟩
  · exact ⟨_, _, rfl⟩
theorem two_new (w : World) (x y : Value) (t : TypeId) : ∀ j u, [x, y][j]? = some u → (w.alloc (.cells #[x, y] t)).cell? ((⟨w.heap.size, 0, none⟩ : Addr).add j) = some u := by
  intro j u hj
  rw [Addr.add_mid, Nat.zero_add, cell_of_row _ _ j #[x, y] t (0, 0) (heap_alloc_new w _)]
  simpa using hj
theorem one_at {w : World} {k : Nat} (hk : k = w.heap.size) (x : Value) (t : TypeId) : ∀ j u, [x][j]? = some u → (w.alloc (.cells #[x] t)).cell? ((⟨k, 0, none⟩ : Addr).add j) = some u := by
  subst hk; exact cell_one_new w x t
theorem two_at {w : World} {k : Nat} (hk : k = w.heap.size) (x y : Value) (t : TypeId) : ∀ j u, [x, y][j]? = some u → (w.alloc (.cells #[x, y] t)).cell? ((⟨k, 0, none⟩ : Addr).add j) = some u := by
  subst hk; exact two_new w x y t
/-- The last run's two cells. -/
theorem row_last {W : World} {B g cap : Nat} {e : TypeId} {r : Run} {vb : Value} {t : List (Run × Value)} (h : W.ownsRow B e 2 (.slice (some ⟨g, 0, none⟩) (t.length + 1) cap) (t.length + 1) (runCells ((r, vb) :: t))) :
    W.cell? ⟨g, t.length * 2, none⟩ = some (.int .u16 (r.p : Nat)) ∧ W.cell? ⟨g, t.length * 2 + 1, none⟩ = some vb ∧ W.frozen? ⟨g, t.length * 2 + 1, none⟩ = false := by
  have h1 := h.cellAt (t.length * 2) (by omega)
  have h2 := h.cellAt (t.length * 2 + 1) (by omega)
  refine ⟨h1.trans ?_, h2.trans ?_, h.frozenAt _⟩
  · simp only [runCells]
    rw [List.getElem?_append_right (by rw [runCells_length]; omega), runCells_length, Nat.sub_self]; rfl
  · simp only [runCells]
    rw [List.getElem?_append_right (by rw [runCells_length]; omega), runCells_length, show t.length * 2 + 1 - t.length * 2 = 1 by omega]; rfl
theorem info44 : (Tryd.prog.info? 44).map (fun i => (i.zero, i.size, i.bytes)) = some (some (.agg #[.int .u16 0, .slice none 0 0]), 2, 32) := by kernel_rfl
theorem info5 : (Tryd.prog.info? 5).map (fun i => (i.zero, i.size, i.bytes)) = some (some (.int .u8 0), 1, 1) := by kernel_rfl

theorem runsRev_le (l : List Ent) : (runsRev l).length ≤ l.length ∧ ∀ r ∈ runsRev l, r.bs.length ≤ l.length := by
  suffices h : ∀ (l : List Ent), (runsRev l.reverse).length ≤ l.length ∧ ∀ r ∈ runsRev l.reverse, r.bs.length ≤ l.length by
    have := h l.reverse; simpa using this
  intro l
  induction l with
  | nil => simp [runsRev]
  | cons x l ih =>
    rw [List.reverse_cons, runsRev_snoc]
    obtain ⟨h1, h2⟩ := ih
    cases hr : runsRev l.reverse with
    | nil => simp [stepR]
    | cons r t =>
      rw [hr] at h1 h2
      have hr2 := h2 r (List.mem_cons_self ..)
      by_cases e : r.p + r.bs.length = x.a
      · rw [stepR, if_pos e]
        refine ⟨by simp at h1 ⊢; omega, fun y hy => ?_⟩
        rcases List.mem_cons.1 hy with rfl | hy
        · simp; omega
        · have := h2 y (List.mem_cons_of_mem _ hy); simp; omega
      · rw [stepR, if_neg e]
        refine ⟨by simp at h1 ⊢; omega, fun y hy => ?_⟩
        rcases List.mem_cons.1 hy with rfl | hy
        · simp
        · have := h2 y hy; simp; omega

/-- The pointer leads to an image of these bytes; or it is nil, and there are none. -/
def Holds (w : World) (q : Option Addr) (xs : List Ent) : Prop :=
  (q = none ∧ xs = []) ∨ ∃ b g M, q = some ⟨b, 0, none⟩ ∧ xs = lst g ∧ Img w b g M ∧ Tab w ∧ b < w.heap.size
theorem Holds.below {w W : World} {q : Option Addr} {xs : List Ent} (h : Holds w q xs) (hb : Below w.heap.size w W) : Holds W q xs := by
  rcases h with h | ⟨b, g, M, h1, h2, h3, h4, h5⟩
  · exact .inl h
  · exact .inr ⟨b, g, M, h1, h2, h3.below h5 hb, h4.below (by omega) hb, by have := hb.size; omega⟩
theorem Holds.goes {w W : World} {q : Option Addr} {xs : List Ent} (h : Holds w q xs) (hb : Below w.heap.size w W) {n : Nat} (hn : 1 ≤ n) : Goes n (.pointer q) xs w.heap.size W := by
  rcases h with ⟨rfl, rfl⟩ | ⟨b, g, M, rfl, rfl, h3, h4, h5⟩
  · exact goes_nil _ _ _
  · exact goes_img hn h5 (by omega) hb.size (h3.below h5 hb) (h4.below (by omega) hb)
theorem Holds.length {w : World} {q : Option Addr} {xs : List Ent} (h : Holds w q xs) : xs.length ≤ 65536 := by
  rcases h with ⟨_, rfl⟩ | ⟨b, g, M, _, rfl, _⟩
  · simp
  · exact lst_length_le g

set_option maxHeartbeats 1000000 in
theorem ends_any (p a : Nat) (hp : p < 65536) (ha : a < 65536) (sa : Option Addr) (n cap : Nat) (hn : n ≤ 65536) (w : World) :
    Calls Tryd.prog 27 #[.agg #[.int .u16 p, .slice sa n cap], .int .u16 a] w fun e w' => e = .returned (.bool (decide (p + n = a))) ∧ w' = w.alloc (.cells #[.int .u16 p, .slice sa n cap] 44) := by
  go_enter Tryd.func27, Tryd.ntmps27
  go_wp2
  go_ret
  refine ⟨?_, rfl⟩
  show Ending.returned (.bool _) = _
  congr 2
  rw [Bool.eq_iff_iff]
  simp
  omega
end Go.Proofs.YtjodidkjpdjmoaaDoor

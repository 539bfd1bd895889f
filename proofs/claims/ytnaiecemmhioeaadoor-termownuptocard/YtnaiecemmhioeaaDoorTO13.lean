/-
  TermOwn: ask, again and again; lists that are written over.
-/
import Derived.Test.YtnaiecemmhioeaaDoorTO12
import Derived.Test.YtnaiecemmhioeaaDoorTO7
namespace Go.Proofs.YtnaiecemmhioeaaDoor
open Go.RowKit

/-- The law's lists behind k calls of ask. -/
def TL (W : World) (Lb k : Nat) (X : World) : Prop := ∃ (vT vB vN : Value) (ts bs ns : List (Value × Nat)), AL W W.heap.size Lb vT vB vN ts bs ns X Tr Tr Tr ∧ ts.length = k ∧ bs.length = 3 * k ∧ ns.length = 2 * k ∧ (∀ q ∈ ts, q.2 ≤ 1100000000000) ∧ (∀ q ∈ bs, q.2 ≤ 1100000000000) ∧ (∀ q ∈ ns, q.2 ≤ 1100000000000)
theorem TL.below {W X : World} {Lb k : Nat} (h : TL W Lb k X) : Below W.heap.size W X := by obtain ⟨_, _, _, _, _, _, h, -⟩ := h; exact h.b
theorem TL.start (W : World) : TL W W.heap.size 0 (W.alloc (.cells #[.slice none 0 0, .slice none 0 0, .slice none 0 0] 36)) :=
  ⟨_, _, _, [], [], [], ⟨⟨World.ownsRow_nil _ _ _ _, fun k x h => by simp at h, fun i j x y b h => by simp at h⟩, ⟨World.ownsRow_nil _ _ _ _, fun k x h => by simp at h, fun i j x y b h => by simp at h⟩, ⟨World.ownsRow_nil _ _ _ _, fun k x h => by simp at h, fun i j x y b h => by simp at h⟩, Blk.new _ _ _, below1 _ _, (below1 _ _).size⟩, rfl, rfl, rfl, by simp, by simp, by simp⟩
theorem ask_tl (p a : At) (s : List Bd) (x y v : Value) (W X : World) (Lb k : Nat) (h : TL W Lb k X) (hL : W.heap.size ≤ Lb) (hx : Ts W x p.args) (hy : Ts W y a.args) (hv : Bs W v s) (h1 : p.args.length ≤ 100000000000) (h2 : s.length ≤ 100000000000) (hk : k ≤ 100) :
    Calls Tryd.prog 6 #[.pointer (some ⟨Lb, 0, none⟩), p.v x, a.v y, v] X fun e w' => e = .returned (.tuple #[]) ∧ TL W Lb (k + 1) w' := by
  obtain ⟨vT, vB, vN, ts, bs, ns, h, l1, l2, l3, b1, b2, b3⟩ := h
  obtain ⟨⟨pk, pn, ps⟩, pm, pl⟩ := p
  obtain ⟨⟨ak, an, az⟩, am, al⟩ := a
  refine (ask_go pk pn ak an ps pm az am pl al s x y v W X Lb vT vB vN ts bs ns h hL hx hy hv h1 h2 (by omega) (by omega) (by omega)).mono ?_
  rintro e w' ⟨rfl, vT', vB', vN', q1, q2, q3, h', e1, e2, e3, c1, c2, c3⟩
  refine ⟨rfl, vT', vB', vN', _, _, _, h', by rw [List.length_append]; omega, by rw [List.length_append]; omega, by rw [List.length_append]; omega, fun q hq => ?_, fun q hq => ?_, fun q hq => ?_⟩
  · exact (List.mem_append.1 hq).elim (b1 q) (c1 q)
  · exact (List.mem_append.1 hq).elim (b2 q) (c2 q)
  · exact (List.mem_append.1 hq).elim (b3 q) (c3 q)
theorem alone_tl (W X : World) (Lb k : Nat) (h : TL W Lb k X) (hk : k ≤ 100) : Calls Tryd.prog 7 #[.pointer (some ⟨Lb, 0, none⟩)] X fun e w' => e = .returned (.bool true) ∧ Below W.heap.size W w' := by
  obtain ⟨vT, vB, vN, ts, bs, ns, h, l1, l2, l3, b1, b2, b3⟩ := h
  refine (alone_any Lb W.heap.size vT vB vN ts bs ns X ⟨h.t, h.b', h.n, h.l, Below.refl _ _, h.z⟩ (by omega) (by omega) (by omega) b1 b2 b3).mono ?_
  rintro e w' ⟨rfl, hb⟩
  exact ⟨rfl, h.b.trans hb⟩
theorem tso_own {X : World} {S g c : Nat} {l : List Tm} {n : Nat} (h : OwnT X S (.slice (some ⟨g, 0, none⟩) (n + 1) c) l) (hn : n + 1 = l.length) (hb : n ≤ 100000000000) : TsO X (.slice (some ⟨g, 0, none⟩) (l.take n).length c) (l.take n) := by
  have hl : (l.take n).length = n := by rw [List.length_take]; omega
  refine Or.inr ⟨⟨g, 0, none⟩, c, rfl, by omega, ?_⟩
  refine Or.inr ⟨g, 0, rfl, (World.ownsRow.lt h g rfl).2, fun i t ht => ?_⟩
  have hi : i < n := by have := (List.getElem?_eq_some_iff.1 ht).1; omega
  rw [List.getElem?_take_of_lt hi] at ht
  simpa using ownT_cells h i t ht
theorem bso_own {X : World} {S g c : Nat} {l : List Bd} {n : Nat} (h : Own X S (.slice (some ⟨g, 0, none⟩) (n + 1) c) l) (hn : n + 1 = l.length) (hb : n ≤ 100000000000) : BsO X (.slice (some ⟨g, 0, none⟩) (l.take n).length c) (l.take n) := by
  have hl : (l.take n).length = n := by rw [List.length_take]; omega
  refine Or.inr ⟨⟨g, 0, none⟩, c, rfl, by omega, ?_⟩
  refine Or.inr ⟨g, 0, rfl, (World.ownsRow.lt h g rfl).2, fun i t ht => ?_⟩
  have hi : i < n := by have := (List.getElem?_eq_some_iff.1 ht).1; omega
  rw [List.getElem?_take_of_lt hi] at ht
  simpa using own_cells h i t ht
/-- The lent lists, in boxes and out of them, while they are written over. -/
structure Ow (w : World) (M1 M2 : Nat) (E F : Array Value) (Sx Sy Sb gx gy gb nx ny nb cx cy cb : Nat) (X : World) : Prop where
  e : Blk X M1 E 26
  f : Blk X M2 F 26
  x : ∃ l : List Tm, l.length = nx + 1 ∧ X.ownsRow Sx 23 3 (.slice (some ⟨gx, 0, none⟩) (nx + 1) cx) (nx + 1) (l.flatMap Tm.cs)
  y : ∃ l : List Tm, l.length = ny + 1 ∧ X.ownsRow Sy 23 3 (.slice (some ⟨gy, 0, none⟩) (ny + 1) cy) (ny + 1) (l.flatMap Tm.cs)
  v : ∃ l : List Bd, l.length = nb + 1 ∧ X.ownsRow Sb 43 4 (.slice (some ⟨gb, 0, none⟩) (nb + 1) cb) (nb + 1) (l.flatMap Bd.cs)
  b : Below w.heap.size w X
  o : w.heap.size ≤ gx ∧ gx < gy ∧ gy < gb
theorem ty_ne {X : World} {S K n c g : Nat} {ty t : TypeId} {cs : List Value} (h : X.ownsRow S ty K (.slice (some ⟨g, 0, none⟩) n c) n cs) (hne : ty ≠ t) : ∀ b, some g = some b → ∃ cur ty', X.heap[b]? = some (.cells cur ty' (0, 0)) ∧ ty' ≠ t := fun b e => by
  cases e; obtain ⟨-, cur, hc⟩ := own_block h (b := g) rfl; exact ⟨cur, ty, hc, hne⟩
section
variable {w : World} {M1 M2 : Nat} {E F : Array Value} {Sx Sy Sb gx gy gb nx ny nb cx cy cb : Nat} {X : World}
theorem Ow.putX (h : Ow w M1 M2 E F Sx Sy Sb gx gy gb nx ny nb cx cy cb X) {i : Nat} (hi : i < nx) (t : Tm) : Ow w M1 M2 E F Sx Sy Sb gx gy gb nx ny nb cx cy cb (((X.setCell ⟨gx, i * 3, none⟩ (.int .i64 t.k)).setCell ⟨gx, i * 3 + 1, none⟩ (.int .i64 t.n)).setCell ⟨gx, i * 3 + 2, none⟩ (.string t.s)) := by
  obtain ⟨l, h1, h2⟩ := h.x
  have hg := (((grown_put X gx (i * 3) (.int .i64 t.k)).trans (grown_put _ gx (i * 3 + 1) (.int .i64 t.n))).trans (grown_put _ gx (i * 3 + 2) (.string t.s)))
  refine ⟨h.e.grown9 hg (ty_ne h2 (by decide)), h.f.grown9 hg (ty_ne h2 (by decide)), ⟨l.set i t, by rw [List.length_set]; exact h1, ?_⟩, ?_, ?_, h.b.grown hg h.b.size (fun k e => by cases e; exact h.o.1), h.o⟩
  · rw [← set3 l i t (by omega)]
    exact row_put (i := i * 3 + 2) (.string t.s) (row_put (i := i * 3 + 1) (.int .i64 t.n) (row_put (i := i * 3) (.int .i64 t.k) h2 (by omega)) (by omega)) (by omega)
  · obtain ⟨m, h3, h4⟩ := h.y; exact ⟨m, h3, own_kept h4 hg (fun b e e2 => by have := h.o; have a1 : some gy = some b := e; have a2 : some gx = some b := e2; simp only [Option.some.injEq] at a1 a2; omega)⟩
  · obtain ⟨m, h3, h4⟩ := h.v; exact ⟨m, h3, own_kept h4 hg (fun b e e2 => by have := h.o; have a1 : some gb = some b := e; have a2 : some gx = some b := e2; simp only [Option.some.injEq] at a1 a2; omega)⟩
theorem Ow.putY (h : Ow w M1 M2 E F Sx Sy Sb gx gy gb nx ny nb cx cy cb X) {i : Nat} (hi : i < ny) (t : Tm) : Ow w M1 M2 E F Sx Sy Sb gx gy gb nx ny nb cx cy cb (((X.setCell ⟨gy, i * 3, none⟩ (.int .i64 t.k)).setCell ⟨gy, i * 3 + 1, none⟩ (.int .i64 t.n)).setCell ⟨gy, i * 3 + 2, none⟩ (.string t.s)) := by
  obtain ⟨l, h1, h2⟩ := h.y
  have hg := (((grown_put X gy (i * 3) (.int .i64 t.k)).trans (grown_put _ gy (i * 3 + 1) (.int .i64 t.n))).trans (grown_put _ gy (i * 3 + 2) (.string t.s)))
  refine ⟨h.e.grown9 hg (ty_ne h2 (by decide)), h.f.grown9 hg (ty_ne h2 (by decide)), ?_, ⟨l.set i t, by rw [List.length_set]; exact h1, ?_⟩, ?_, h.b.grown hg h.b.size (fun k e => by cases e; have := h.o; omega), h.o⟩
  · obtain ⟨m, h3, h4⟩ := h.x; exact ⟨m, h3, own_kept h4 hg (fun b e e2 => by have := h.o; have a1 : some gx = some b := e; have a2 : some gy = some b := e2; simp only [Option.some.injEq] at a1 a2; omega)⟩
  · rw [← set3 l i t (by omega)]
    exact row_put (i := i * 3 + 2) (.string t.s) (row_put (i := i * 3 + 1) (.int .i64 t.n) (row_put (i := i * 3) (.int .i64 t.k) h2 (by omega)) (by omega)) (by omega)
  · obtain ⟨m, h3, h4⟩ := h.v; exact ⟨m, h3, own_kept h4 hg (fun b e e2 => by have := h.o; have a1 : some gb = some b := e; have a2 : some gy = some b := e2; simp only [Option.some.injEq] at a1 a2; omega)⟩
theorem Ow.putB (h : Ow w M1 M2 E F Sx Sy Sb gx gy gb nx ny nb cx cy cb X) {i : Nat} (hi : i < nb) (t : Bd) : Ow w M1 M2 E F Sx Sy Sb gx gy gb nx ny nb cx cy cb ((((X.setCell ⟨gb, i * 4, none⟩ (.int .i64 t.x)).setCell ⟨gb, i * 4 + 1, none⟩ (.int .i64 t.to.k)).setCell ⟨gb, i * 4 + 2, none⟩ (.int .i64 t.to.n)).setCell ⟨gb, i * 4 + 3, none⟩ (.string t.to.s)) := by
  obtain ⟨l, h1, h2⟩ := h.v
  have hg := ((((grown_put X gb (i * 4) (.int .i64 t.x)).trans (grown_put _ gb (i * 4 + 1) (.int .i64 t.to.k))).trans (grown_put _ gb (i * 4 + 2) (.int .i64 t.to.n))).trans (grown_put _ gb (i * 4 + 3) (.string t.to.s)))
  refine ⟨h.e.grown9 hg (ty_ne h2 (by decide)), h.f.grown9 hg (ty_ne h2 (by decide)), ?_, ?_, ⟨l.set i t, by rw [List.length_set]; exact h1, ?_⟩, h.b.grown hg h.b.size (fun k e => by cases e; have := h.o; omega), h.o⟩
  · obtain ⟨m, h3, h4⟩ := h.x; exact ⟨m, h3, own_kept h4 hg (fun b e e2 => by have := h.o; have a1 : some gx = some b := e; have a2 : some gb = some b := e2; simp only [Option.some.injEq] at a1 a2; omega)⟩
  · obtain ⟨m, h3, h4⟩ := h.y; exact ⟨m, h3, own_kept h4 hg (fun b e e2 => by have := h.o; have a1 : some gy = some b := e; have a2 : some gb = some b := e2; simp only [Option.some.injEq] at a1 a2; omega)⟩
  · rw [← set4 l i t (by omega)]
    exact row_put (i := i * 4 + 3) (.string t.to.s) (row_put (i := i * 4 + 2) (.int .i64 t.to.n) (row_put (i := i * 4 + 1) (.int .i64 t.to.k) (row_put (i := i * 4) (.int .i64 t.x) h2 (by omega)) (by omega)) (by omega)) (by omega)
theorem Ow.later {Y : World} (h : Ow w M1 M2 E F Sx Sy Sb gx gy gb nx ny nb cx cy cb X) (hb : Below X.heap.size X Y) : Ow w M1 M2 E F Sx Sy Sb gx gy gb nx ny nb cx cy cb Y := by
  refine ⟨h.e.later hb, h.f.later hb, ?_, ?_, ?_, below_step h.b hb, h.o⟩
  · obtain ⟨m, h3, h4⟩ := h.x; exact ⟨m, h3, own_kept h4 (gb_below hb) (fun b _ e => by cases e)⟩
  · obtain ⟨m, h3, h4⟩ := h.y; exact ⟨m, h3, own_kept h4 (gb_below hb) (fun b _ e => by cases e)⟩
  · obtain ⟨m, h3, h4⟩ := h.v; exact ⟨m, h3, own_kept h4 (gb_below hb) (fun b _ e => by cases e)⟩
end
end Go.Proofs.YtnaiecemmhioeaaDoor

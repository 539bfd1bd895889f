/-
  TermOwn's lists: some more of them. (Written by TO9.py.)
-/
import Derived.Test.YtnaiecemmhioeaaDoorTO8
namespace Go.Proofs.YtnaiecemmhioeaaDoor
open Go.RowKit

/-- Some more behind a list of the call's own: in its block, or in a new one. -/
theorem step_more {P : Program} {w : World} {ops : Array Oper} {o : Oper} {a : Act} {Kn : Act → World → Prop} {Q : Exit → Act → World → Prop} {E : Prop} (hgd : o.guard = none) (s x : Operand) (t : TypeId)
    (ho : o.op = .call { callee := .builtin .append, args := #[s, x], argTypes := #[t, t] })
    (base : Nat) (e : TypeId) (i : TypeInfo) (z : Value) (size bytes : Nat) (ht : P.underlying t = some (.slice e)) (hi : P.info? e = some i) (hz : i.zero = some z)
    (hsize : i.size = size) (hby : i.bytes = bytes) (hzs : z.cells.size = size) (hsz : 0 < size)
    (v : Value) (n : Nat) (xs : List Value) (hs : a.eval s = v) (hown : w.ownsRow base e size v n xs)
    (b k : Nat) (hk : 0 < k) (news : Array Value) (hx : a.eval x = .slice (some ⟨b, 0, none⟩) k k) (hl : news.size = k * size) (hblk : w.heap[b]? = some (.cells news e (0, 0))) (h1 : ∀ u ∈ news.toList, u.oneCell' = true)
    (h63 : n + k ≤ 1000000000000) (hby2 : bytes ≤ 100) (hbase : base ≤ w.heap.size)
    (h : ∀ v' w', w'.ownsRow base e size v' (n + k) (xs ++ news.toList) → w.grownBy w' v.ownBlock → Kn (a.put o.dst v') w') :
    if Region.wanted o (yielded ops a.tmps) = true then Oper.wp P o a w Kn Q else E := by
  have hnews : ∀ j u, news.toList[j]? = some u → w.cell? ((⟨b, 0, none⟩ : Addr).add j) = some u := World.news_of_block hblk
  have hlen : news.toList.length = k * size := by rw [Array.length_toList, hl]
  have hb63 : n + k ≤ maxLen := by unfold maxLen; omega
  have hbb : (n + k) * bytes ≤ 140737488355328 := Nat.le_trans (Nat.mul_le_mul h63 hby2) (by decide)
  have grows : ∀ (ao : Option Addr) (cap : Nat), v = .slice ao n cap → (ao = none → n = 0 ∧ cap = 0) → (∀ b, ao = some b → ∀ j u, xs[j]? = some u → w.cell? (b.add j) = some u) → cap < n + k → if Region.wanted o (yielded ops a.tmps) = true then Oper.wp P o a w Kn Q else E := fun ao cap hv hno hold hfull => by
    refine step_append_grows hgd s x t ho e i z size bytes ht hi hz hsize hby hzs hsz ao n cap xs (hs.trans hv) hno hown.1 hold ⟨b, 0, none⟩ k k news.toList hx hlen hnews h1 hfull hb63 hbb fun v' w' h2 h3 => ?_
    refine h v' w' ?_ (gb_weak h3 _)
    refine ⟨h2.1, ?_⟩
    rcases h2.2 with h4 | ⟨g, c, cur, h5, h6, h7⟩
    · exact Or.inl h4
    · exact Or.inr ⟨g, c, cur, h5, Nat.le_trans hbase h6, h7⟩
  rcases hown.2 with ⟨hv, hn⟩ | ⟨g, cap, cur, hv, hbg, hg, hnc, hcm, hcs, htake⟩
  · subst hn
    exact grows none 0 hv (fun _ => ⟨rfl, rfl⟩) (fun b e => by cases e) (by omega)
  · by_cases hroom : n + k ≤ cap
    · have hw : Region.wanted o (yielded ops a.tmps) = true := by simp [Region.wanted, hgd]
      rw [if_pos hw]
      have hown2 : w.ownsRow base e size (.slice (some ⟨g, 0, none⟩) n cap) n xs := by rw [← hv]; exact hown
      obtain ⟨w', hrun, r1, r2⟩ := run_append_fits (P := P) w base t o.type e i size ht hi hsize g n cap xs hown2 ⟨b, 0, none⟩ k k news.toList hlen hnews h1 hroom
      have hs2 : a.eval s = .slice (some ⟨g, 0, none⟩) n cap := hs.trans hv
      unfold Oper.wp
      simp [execOp, ho, resolve, invoke, builtin, hs2, hx, hrun, Result.andThen]
      exact h _ _ r1 (by rw [hv]; exact r2)
    · refine grows (some ⟨g, 0, none⟩) cap hv (fun e => by cases e) (fun b e j u hu => ?_) (by omega)
      cases e
      have hj : j < n * size := by rw [← hown.1]; exact (List.getElem?_eq_some_iff.1 hu).1
      have hadd : (⟨g, 0, none⟩ : Addr).add j = ⟨g, j, none⟩ := by unfold Addr.add; split <;> simp_all
      rw [hadd, cell_of_row w g j cur e (0, 0) hg]
      rw [← htake, List.getElem?_take_of_lt hj] at hu
      simpa using hu
/-- New lists: in blocks of their own. -/
structure Nw (ity : TypeId) (K : Nat) {α : Type} (enc : α → List Value) (X : World) (B Z : Nat) (qs : List (Value × Nat)) : Prop where
  i : ∀ q ∈ qs, (∃ l : List α, l.length = q.2 ∧ X.ownsRow B ity K q.1 q.2 (l.flatMap enc)) ∧ ∀ b, q.1.ownBlock = some b → Z ≤ b
  d : ∀ (i j : Nat) (x y : Value × Nat) (b : Nat), qs[i]? = some x → qs[j]? = some y → x.1.ownBlock = some b → y.1.ownBlock = some b → i = j
abbrev Tr {α : Type} : Nat → List α → Prop := fun _ _ => True
section
variable {ity oty : TypeId} {K : Nat} {α : Type} {enc : α → List Value} {X Y : World} {B Z : Nat} {v v' : Value} {xs qs : List (Value × Nat)}
theorem Nw.nil : Nw ity K enc X B Z [] := ⟨fun q h => by simp at h, fun i j x y b h => by simp at h⟩
theorem Nw.kept {row : Option Nat} (h : Nw ity K enc X B Z qs) (hg : X.grownBy Y row) (hne : ∀ b, row = some b → ∃ cur ty, X.heap[b]? = some (.cells cur ty (0, 0)) ∧ ty ≠ ity) : Nw ity K enc Y B Z qs := by
  refine ⟨fun q hq => ?_, h.d⟩
  obtain ⟨⟨l, h1, h2⟩, h3⟩ := h.i q hq
  refine ⟨⟨l, h1, own_kept h2 hg fun b hb e => ?_⟩, h3⟩
  obtain ⟨cur, ty, h4, h5⟩ := hne b e
  obtain ⟨-, cur2, hc⟩ := own_block h2 hb
  rw [h4] at hc
  simp only [Option.some.injEq, Obj.cells.injEq] at hc
  exact h5 hc.2.1
theorem Nw.later (h : Nw ity K enc X B Z qs) (hb : Below X.heap.size X Y) : Nw ity K enc Y B Z qs := h.kept (gb_below hb) (fun b e => by cases e)
/-- One list more, younger than those that are there. -/
theorem Nw.snoc {S : Nat} {q : Value} {l : List α} (h : Nw ity K enc X B Z qs) (hS : ∀ x ∈ qs, ∀ b, x.1.ownBlock = some b → b < S) (hB : B ≤ S) (hZ : Z ≤ S) (hq : X.ownsRow S ity K q l.length (l.flatMap enc)) : Nw ity K enc X B Z (qs ++ [(q, l.length)]) := by
  have hlow : ∀ b, q.ownBlock = some b → S ≤ b := fun b hb => (own_block hq hb).1
  have hq2 : X.ownsRow B ity K q l.length (l.flatMap enc) := by
    refine ⟨hq.1, ?_⟩
    rcases hq.2 with h4 | ⟨g, c, cur, h5, h6, h7⟩
    · exact Or.inl h4
    · exact Or.inr ⟨g, c, cur, h5, Nat.le_trans hB h6, h7⟩
  refine ⟨fun y hy => ?_, fun i j x y b hx hy hbx hby => ?_⟩
  · rcases List.mem_append.1 hy with hy | hy
    · exact h.i y hy
    · simp only [List.mem_singleton] at hy; subst hy
      exact ⟨⟨l, rfl, hq2⟩, fun b hb => Nat.le_trans hZ (hlow b hb)⟩
  · have cs : ∀ (i : Nat) (x : Value × Nat), (qs ++ [(q, l.length)])[i]? = some x → (qs[i]? = some x ∧ x ∈ qs) ∨ (i = qs.length ∧ x = (q, l.length)) := fun i x hx => by
      by_cases hi : i < qs.length
      · rw [List.getElem?_append_left hi] at hx; exact Or.inl ⟨hx, List.mem_of_getElem? hx⟩
      · have hi2 := (List.getElem?_eq_some_iff.1 hx).1
        rw [List.length_append, List.length_singleton] at hi2
        have : i = qs.length := by omega
        subst this
        rw [List.getElem?_append_right (Nat.le_refl _), Nat.sub_self] at hx
        simp only [List.getElem?_cons_zero, Option.some.injEq] at hx
        exact Or.inr ⟨rfl, hx.symm⟩
    rcases cs i x hx with ⟨h1, m1⟩ | ⟨h1, e1⟩ <;> rcases cs j y hy with ⟨h2, m2⟩ | ⟨h2, e2⟩
    · exact h.d i j x y b h1 h2 hbx hby
    · have := hS x m1 b hbx; rw [e2] at hby; have := hlow b hby; omega
    · have := hS y m2 b hby; rw [e1] at hbx; have := hlow b hbx; omega
    · omega
theorem Nw.lt (h : Nw ity K enc X B Z qs) : ∀ x ∈ qs, ∀ b, x.1.ownBlock = some b → b < X.heap.size := fun x hx b hb => by
  obtain ⟨⟨l, -, h2⟩, -⟩ := h.i x hx
  exact (World.ownsRow.lt h2 b hb).2
theorem Kd.lt {P : Nat → List α → Prop} (h : Kd ity oty K enc X B v xs P) : ∀ x ∈ xs, ∀ b, x.1.ownBlock = some b → b < X.heap.size := fun x hx b hb => by
  obtain ⟨k, hk⟩ := List.mem_iff_getElem?.1 hx
  obtain ⟨l, -, h2, -⟩ := h.i k x hk
  exact (World.ownsRow.lt h2 b hb).2
theorem Kd.more (h : Kd ity oty K enc X B v xs Tr) (hio : ity ≠ oty) (hxs : ∀ x ∈ xs, ∀ b, x.1.ownBlock = some b → b < Z) (hq : Nw ity K enc X B Z qs)
    (ha : Y.ownsRow B oty 1 v' (xs.length + qs.length) (xs.map (·.1) ++ qs.map (·.1))) (hg : X.grownBy Y v.ownBlock) : Kd ity oty K enc Y B v' (xs ++ qs) Tr := by
  have hrow : ∀ b, v.ownBlock = some b → ∃ cur ty, X.heap[b]? = some (.cells cur ty (0, 0)) ∧ ty ≠ ity := fun b e => by obtain ⟨-, cur, hc⟩ := own_block h.o e; exact ⟨cur, oty, hc, fun e => hio e.symm⟩
  have hq' := hq.kept hg hrow
  have kp : ∀ {m : Nat} {q : Value} {cs : List Value}, X.ownsRow B ity K q m cs → Y.ownsRow B ity K q m cs := fun h2 => own_kept h2 hg fun b hb e => by
    obtain ⟨cur, ty, h4, h5⟩ := hrow b e
    obtain ⟨-, cur2, hc⟩ := own_block h2 hb
    rw [h4] at hc
    simp only [Option.some.injEq, Obj.cells.injEq] at hc
    exact h5 hc.2.1
  have cs : ∀ (i : Nat) (x : Value × Nat), (xs ++ qs)[i]? = some x → (xs[i]? = some x ∧ x ∈ xs ∧ i < xs.length) ∨ (qs[i - xs.length]? = some x ∧ x ∈ qs ∧ xs.length ≤ i) := fun i x hx => by
    by_cases hi : i < xs.length
    · rw [List.getElem?_append_left hi] at hx; exact Or.inl ⟨hx, List.mem_of_getElem? hx, hi⟩
    · rw [List.getElem?_append_right (by omega)] at hx; exact Or.inr ⟨hx, List.mem_of_getElem? hx, by omega⟩
  refine ⟨by rw [List.length_append, List.map_append]; exact ha, fun k x hx => ?_, fun i j x y b hx hy hbx hby => ?_⟩
  · rcases cs k x hx with ⟨h1, -, -⟩ | ⟨h1, m1, -⟩
    · obtain ⟨l, h2, h3, -⟩ := h.i k x h1
      exact ⟨l, h2, kp h3, trivial⟩
    · obtain ⟨⟨l, h2, h3⟩, -⟩ := hq'.i x m1
      exact ⟨l, h2, h3, trivial⟩
  · rcases cs i x hx with ⟨h1, m1, l1⟩ | ⟨h1, m1, l1⟩ <;> rcases cs j y hy with ⟨h2, m2, l2⟩ | ⟨h2, m2, l2⟩
    · exact h.d i j x y b h1 h2 hbx hby
    · have := hxs x m1 b hbx; have := (hq.i y m2).2 b hby; omega
    · have := hxs y m2 b hby; have := (hq.i x m1).2 b hbx; omega
    · have := hq.d _ _ x y b h1 h2 hbx hby; omega
end
theorem AL.moreT {W X Y : World} {B Lb Z : Nat} {vT vB vN v' : Value} {ts bs ns qs : List (Value × Nat)} (h : AL W B Lb vT vB vN ts bs ns X Tr Tr Tr) (hL : B ≤ Lb) (hxs : ∀ x ∈ ts, ∀ b, x.1.ownBlock = some b → b < Z) (hq : Nw 23 3 Tm.cs X B Z qs)
    (ha : Y.ownsRow B 24 1 v' (ts.length + qs.length) (ts.map (·.1) ++ qs.map (·.1))) (hg : X.grownBy Y vT.ownBlock) : AL W B Lb v' vB vN (ts ++ qs) bs ns (Y.setCell ⟨Lb, 0, none⟩ v') Tr Tr Tr ∧ Blk Y Lb #[vT, vB, vN] 36 := by
  have hu : ∀ b, vT.ownBlock = some b → ∃ cur, X.heap[b]? = some (.cells cur 24 (0, 0)) := fun b e => (own_block h.t.o e).2
  have hl1 : Blk Y Lb #[vT, vB, vN] 36 := h.l.grown9 hg (fun b e => by obtain ⟨cur, hc⟩ := hu b e; exact ⟨cur, _, hc, by decide⟩)
  have hM : Y.heap[Lb]? = some (.cells #[vT, vB, vN] 36 (0, 0)) := hl1
  have hg3 := grown_put Y Lb 0 v'
  refine ⟨⟨(h.t.more (by decide) hxs hq ha hg).kept hg3 (ne9 hM (by decide) (by decide)), (h.b'.kept hg (ne10 hu (by decide) (by decide))).kept hg3 (ne9 hM (by decide) (by decide)), (h.n.kept hg (ne10 hu (by decide) (by decide))).kept hg3 (ne9 hM (by decide) (by decide)), heap_setCell_same _ _ _ _ _ _ hM, (h.b.grown hg h.z (fun k e => (own_block h.t.o e).1)).grown hg3 (Nat.le_trans h.z hg.size) (fun k e => by cases e; exact hL), Nat.le_trans (Nat.le_trans h.z hg.size) hg3.size⟩, hl1⟩
theorem AL.moreB {W X Y : World} {B Lb Z : Nat} {vT vB vN v' : Value} {ts bs ns qs : List (Value × Nat)} (h : AL W B Lb vT vB vN ts bs ns X Tr Tr Tr) (hL : B ≤ Lb) (hxs : ∀ x ∈ bs, ∀ b, x.1.ownBlock = some b → b < Z) (hq : Nw 43 4 Bd.cs X B Z qs)
    (ha : Y.ownsRow B 28 1 v' (bs.length + qs.length) (bs.map (·.1) ++ qs.map (·.1))) (hg : X.grownBy Y vB.ownBlock) : AL W B Lb vT v' vN ts (bs ++ qs) ns (Y.setCell ⟨Lb, 1, none⟩ v') Tr Tr Tr ∧ Blk Y Lb #[vT, vB, vN] 36 := by
  have hu : ∀ b, vB.ownBlock = some b → ∃ cur, X.heap[b]? = some (.cells cur 28 (0, 0)) := fun b e => (own_block h.b'.o e).2
  have hl1 : Blk Y Lb #[vT, vB, vN] 36 := h.l.grown9 hg (fun b e => by obtain ⟨cur, hc⟩ := hu b e; exact ⟨cur, _, hc, by decide⟩)
  have hM : Y.heap[Lb]? = some (.cells #[vT, vB, vN] 36 (0, 0)) := hl1
  have hg3 := grown_put Y Lb 1 v'
  refine ⟨⟨(h.t.kept hg (ne10 hu (by decide) (by decide))).kept hg3 (ne9 hM (by decide) (by decide)), (h.b'.more (by decide) hxs hq ha hg).kept hg3 (ne9 hM (by decide) (by decide)), (h.n.kept hg (ne10 hu (by decide) (by decide))).kept hg3 (ne9 hM (by decide) (by decide)), heap_setCell_same _ _ _ _ _ _ hM, (h.b.grown hg h.z (fun k e => (own_block h.b'.o e).1)).grown hg3 (Nat.le_trans h.z hg.size) (fun k e => by cases e; exact hL), Nat.le_trans (Nat.le_trans h.z hg.size) hg3.size⟩, hl1⟩
theorem AL.moreN {W X Y : World} {B Lb Z : Nat} {vT vB vN v' : Value} {ts bs ns qs : List (Value × Nat)} (h : AL W B Lb vT vB vN ts bs ns X Tr Tr Tr) (hL : B ≤ Lb) (hxs : ∀ x ∈ ns, ∀ b, x.1.ownBlock = some b → b < Z) (hq : Nw 3 1 encI X B Z qs)
    (ha : Y.ownsRow B 48 1 v' (ns.length + qs.length) (ns.map (·.1) ++ qs.map (·.1))) (hg : X.grownBy Y vN.ownBlock) : AL W B Lb vT vB v' ts bs (ns ++ qs) (Y.setCell ⟨Lb, 2, none⟩ v') Tr Tr Tr ∧ Blk Y Lb #[vT, vB, vN] 36 := by
  have hu : ∀ b, vN.ownBlock = some b → ∃ cur, X.heap[b]? = some (.cells cur 48 (0, 0)) := fun b e => (own_block h.n.o e).2
  have hl1 : Blk Y Lb #[vT, vB, vN] 36 := h.l.grown9 hg (fun b e => by obtain ⟨cur, hc⟩ := hu b e; exact ⟨cur, _, hc, by decide⟩)
  have hM : Y.heap[Lb]? = some (.cells #[vT, vB, vN] 36 (0, 0)) := hl1
  have hg3 := grown_put Y Lb 2 v'
  refine ⟨⟨(h.t.kept hg (ne10 hu (by decide) (by decide))).kept hg3 (ne9 hM (by decide) (by decide)), (h.b'.kept hg (ne10 hu (by decide) (by decide))).kept hg3 (ne9 hM (by decide) (by decide)), (h.n.more (by decide) hxs hq ha hg).kept hg3 (ne9 hM (by decide) (by decide)), heap_setCell_same _ _ _ _ _ _ hM, (h.b.grown hg h.z (fun k e => (own_block h.n.o e).1)).grown hg3 (Nat.le_trans h.z hg.size) (fun k e => by cases e; exact hL), Nat.le_trans (Nat.le_trans h.z hg.size) hg3.size⟩, hl1⟩
theorem more9T {w : World} {ops : Array Oper} {o : Oper} {a : Act} {Kn : Act → World → Prop} {Q : Exit → Act → World → Prop} {E : Prop} (hgd : o.guard = none) (s x : Operand)
    (ho : o.op = .call { callee := .builtin .append, args := #[s, x], argTypes := #[32, 32] }) (base : Nat)
    (v : Value) (n : Nat) (xs : List Value) (hs : a.eval s = v) (hown : w.ownsRow base 24 1 v n xs)
    (b k : Nat) (hk : 0 < k) (news : Array Value) (hx : a.eval x = .slice (some ⟨b, 0, none⟩) k k) (hl : news.size = k * 1) (hblk : w.heap[b]? = some (.cells news 24 (0, 0))) (h1 : ∀ u ∈ news.toList, u.oneCell' = true)
    (h63 : n + k ≤ 1000000000000) (hbase : base ≤ w.heap.size)
    (h : ∀ v' w', w'.ownsRow base 24 1 v' (n + k) (xs ++ news.toList) → w.grownBy w' v.ownBlock → Kn (a.put o.dst v') w') :
    if Region.wanted o (yielded ops a.tmps) = true then Oper.wp Tryd.prog o a w Kn Q else E := by
  obtain ⟨i0, hi0, hz0, hz1, hz2⟩ := info_parts Tryd.infoTerms9
  exact step_more hgd s x 32 ho base 24 i0 _ 1 24 Tryd.underlying32 hi0 hz0 hz1 hz2 rfl (by omega) v n xs hs hown b k hk news hx hl hblk h1 h63 (by omega) hbase h
theorem more9N {w : World} {ops : Array Oper} {o : Oper} {a : Act} {Kn : Act → World → Prop} {Q : Exit → Act → World → Prop} {E : Prop} (hgd : o.guard = none) (s x : Operand)
    (ho : o.op = .call { callee := .builtin .append, args := #[s, x], argTypes := #[34, 34] }) (base : Nat)
    (v : Value) (n : Nat) (xs : List Value) (hs : a.eval s = v) (hown : w.ownsRow base 48 1 v n xs)
    (b k : Nat) (hk : 0 < k) (news : Array Value) (hx : a.eval x = .slice (some ⟨b, 0, none⟩) k k) (hl : news.size = k * 1) (hblk : w.heap[b]? = some (.cells news 48 (0, 0))) (h1 : ∀ u ∈ news.toList, u.oneCell' = true)
    (h63 : n + k ≤ 1000000000000) (hbase : base ≤ w.heap.size)
    (h : ∀ v' w', w'.ownsRow base 48 1 v' (n + k) (xs ++ news.toList) → w.grownBy w' v.ownBlock → Kn (a.put o.dst v') w') :
    if Region.wanted o (yielded ops a.tmps) = true then Oper.wp Tryd.prog o a w Kn Q else E := by
  obtain ⟨i0, hi0, hz0, hz1, hz2⟩ := info_parts Tryd.infoInts9
  exact step_more hgd s x 34 ho base 48 i0 _ 1 24 Tryd.underlying34 hi0 hz0 hz1 hz2 rfl (by omega) v n xs hs hown b k hk news hx hl hblk h1 h63 (by omega) hbase h
end Go.Proofs.YtnaiecemmhioeaaDoor

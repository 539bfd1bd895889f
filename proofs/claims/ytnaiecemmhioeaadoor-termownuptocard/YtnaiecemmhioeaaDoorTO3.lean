/-
  TermOwn's lists: how they lie; what a store and an append make of them.
-/
import Derived.Test.YtnaiecemmhioeaaDoorTO2
import Derived.Deep.RegionLawGrows
import Derived.Laws.OwnMore
namespace Go.Proofs.YtnaiecemmhioeaaDoor
open Go.RowKit

theorem own_block {X : World} {B : Nat} {ty : TypeId} {K n b : Nat} {v : Value} {cs : List Value} (h : X.ownsRow B ty K v n cs) (hb : v.ownBlock = some b) : B ≤ b ∧ ∃ cur, X.heap[b]? = some (.cells cur ty (0, 0)) := by
  rcases h.2 with ⟨rfl, -⟩ | ⟨g, cap, cur, rfl, h1, h2, -⟩
  · cases hb
  · cases hb; exact ⟨h1, cur, h2⟩
/-- Lists of lists, each in a block of its own. -/
structure Kd (ity oty : TypeId) (K : Nat) {α : Type} (enc : α → List Value) (X : World) (B : Nat) (v : Value) (xs : List (Value × Nat)) (P : Nat → List α → Prop) : Prop where
  o : X.ownsRow B oty 1 v xs.length (xs.map (·.1))
  i : ∀ k x, xs[k]? = some x → ∃ l : List α, l.length = x.2 ∧ X.ownsRow B ity K x.1 x.2 (l.flatMap enc) ∧ P k l
  d : ∀ (i j : Nat) (x y : Value × Nat) (b : Nat), xs[i]? = some x → xs[j]? = some y → x.1.ownBlock = some b → y.1.ownBlock = some b → i = j
section
variable {ity oty : TypeId} {K : Nat} {α : Type} {enc : α → List Value} {X Y : World} {B : Nat} {v : Value} {xs : List (Value × Nat)} {P P' : Nat → List α → Prop}
theorem Kd.kept {row : Option Nat} (h : Kd ity oty K enc X B v xs P) (hg : X.grownBy Y row) (hne : ∀ b cur, row = some b → X.heap[b]? ≠ some (.cells cur ity (0, 0)) ∧ X.heap[b]? ≠ some (.cells cur oty (0, 0))) : Kd ity oty K enc Y B v xs P := by
  refine ⟨World.ownsRow.kept h.o hg ?_, fun k x hx => ?_, h.d⟩
  · cases hv : v.ownBlock with
    | none => exact Or.inl rfl
    | some b =>
      obtain ⟨-, cur, hc⟩ := own_block h.o hv
      exact Or.inr (fun e => (hne b cur e.symm).2 hc)
  · obtain ⟨l, h1, h2, h3⟩ := h.i k x hx
    refine ⟨l, h1, World.ownsRow.kept h2 hg ?_, h3⟩
    cases hv : x.1.ownBlock with
    | none => exact Or.inl rfl
    | some b =>
      obtain ⟨-, cur, hc⟩ := own_block h2 hv
      exact Or.inr (fun e => (hne b cur e.symm).1 hc)
theorem Kd.later (h : Kd ity oty K enc X B v xs P) (hb : Below X.heap.size X Y) : Kd ity oty K enc Y B v xs P := h.kept (row := none) ⟨hb.os, hb.tape, hb.output, hb.size, fun k hk _ => hb.block k hk⟩ (fun b cur e => by cases e)
theorem Kd.mono (h : Kd ity oty K enc X B v xs P) (hP : ∀ k x l, xs[k]? = some x → l.length = x.2 → P k l → P' k l) : Kd ity oty K enc X B v xs P' :=
  ⟨h.o, fun k x hx => by obtain ⟨l, h1, h2, h3⟩ := h.i k x hx; exact ⟨l, h1, h2, hP k x l hx h1 h3⟩, h.d⟩
theorem Kd.upd (h : Kd ity oty K enc X B v xs P) (hity : ity ≠ oty) {n m cap g : Nat} (hx : xs[n]? = some (.slice (some ⟨g, 0, none⟩) m cap, m)) (hg : X.grownBy Y (some g)) {l' : List α} (hl : l'.length = m) (ho : Y.ownsRow B ity K (.slice (some ⟨g, 0, none⟩) m cap) m (l'.flatMap enc))
    (hP : P' n l') (hPo : ∀ k x l, k ≠ n → xs[k]? = some x → P k l → P' k l) : Kd ity oty K enc Y B v xs P' := by
  refine ⟨World.ownsRow.kept h.o hg ?_, fun k x hk => ?_, h.d⟩
  · cases hv : v.ownBlock with
    | none => exact Or.inl rfl
    | some b =>
      refine Or.inr (fun e => ?_)
      cases e
      obtain ⟨-, cur, hc⟩ := own_block h.o hv
      obtain ⟨l, h1, h2, h3⟩ := h.i n _ hx
      obtain ⟨-, cur2, hc2⟩ := own_block h2 (b := g) rfl
      rw [hc] at hc2
      simp only [Option.some.injEq, Obj.cells.injEq] at hc2
      exact hity hc2.2.1.symm
  · by_cases e : k = n
    · subst e
      rw [hx] at hk; cases hk
      exact ⟨l', hl, ho, hP⟩
    · obtain ⟨l, h1, h2, h3⟩ := h.i k x hk
      refine ⟨l, h1, World.ownsRow.kept h2 hg ?_, hPo k x l e hk h3⟩
      cases hv : x.1.ownBlock with
      | none => exact Or.inl rfl
      | some b =>
        refine Or.inr (fun e2 => ?_)
        cases e2
        exact e (h.d k n x _ g hk hx hv rfl)
theorem Kd.ss (h : Kd ity oty K enc X B v xs P) : Ss X v (xs.map (·.1)) := by
  rcases h.o.2 with ⟨rfl, hn⟩ | ⟨g, cap, cur, rfl, hb, hg, hn, hc, hs, ht⟩
  · have : xs = [] := List.length_eq_zero_iff.1 hn
    subst this; exact Or.inl ⟨rfl, rfl⟩
  · refine Or.inr ⟨g, cap, by rw [List.length_map], (Array.getElem?_eq_some_iff.1 hg).1, fun i u hu => ?_⟩
    have hi : i < xs.length := by have := (List.getElem?_eq_some_iff.1 hu).1; simpa using this
    rw [cell_of_row _ _ _ _ _ _ hg]
    have h1 : (cur.toList.take (xs.length * 1))[i]? = (xs.map (·.1))[i]? := by rw [ht]
    rw [List.getElem?_take_of_lt (by omega), hu] at h1
    simpa using h1
end
/-- One cell of a list of the call's own, written. -/
theorem row_put {X : World} {B : Nat} {ty : TypeId} {K g n cap i : Nat} {cs : List Value} (u : Value) (h : X.ownsRow B ty K (.slice (some ⟨g, 0, none⟩) n cap) n cs) (hi : i < n * K) : (X.setCell ⟨g, i, none⟩ u).ownsRow B ty K (.slice (some ⟨g, 0, none⟩) n cap) n (cs.set i u) := by
  refine ⟨by rw [List.length_set]; exact h.1, ?_⟩
  rcases h.2 with ⟨h, _⟩ | ⟨g', cap', cur, hv, hb, hg, hn, hc, hs, ht⟩
  · cases h
  · simp only [Value.slice.injEq, Option.some.injEq, Addr.mk.injEq] at hv
    obtain ⟨⟨rfl, -⟩, -, rfl⟩ := hv
    refine Or.inr ⟨g, cap, _, rfl, hb, heap_setCell_same _ _ _ _ _ _ hg, hn, hc, by simpa using hs, ?_⟩
    rw [← ht, Array.toList_setIfInBounds]
    apply List.ext_getElem?
    intro j
    by_cases hj : j < n * K
    · rw [List.getElem?_take_of_lt hj, List.getElem?_set, List.getElem?_set, List.getElem?_take_of_lt hj]
      have hcz : i < cur.toList.length := by rw [Array.length_toList, hs]; exact Nat.lt_of_lt_of_le hi (Nat.mul_le_mul_right _ hn)
      by_cases e : i = j
      · subst e
        rw [if_pos rfl, if_pos rfl, if_pos hcz, if_pos (by rw [List.length_take]; omega)]
      · rw [if_neg e, if_neg e]
    · rw [List.getElem?_take_eq_none (by omega), List.getElem?_eq_none (by rw [List.length_set, List.length_take]; omega)]
theorem grown_put (X : World) (g i : Nat) (u : Value) : X.grownBy (X.setCell ⟨g, i, none⟩ u) (some g) := by
  have h := (Below.refl 0 X).setCell (p := ⟨g, i, none⟩) (Nat.zero_le _) u
  exact ⟨h.os, h.tape, h.output, h.size, fun k _ hk => heap_setCell_other _ _ _ _ (fun e => hk (by rw [e]))⟩
/-- One more behind a list of the call's own: in its block, or in a new one. -/
theorem step_pair {P : Program} {w : World} {ops : Array Oper} {o : Oper} {a : Act} {Kn : Act → World → Prop} {Q : Exit → Act → World → Prop} {E : Prop} (hgd : o.guard = none) (s x : Operand) (t : TypeId)
    (ho : o.op = .call { callee := .builtin .append, args := #[s, x], argTypes := #[t, t] })
    (base : Nat) (e : TypeId) (i : TypeInfo) (z : Value) (size bytes : Nat) (ht : P.underlying t = some (.slice e)) (hi : P.info? e = some i) (hz : i.zero = some z)
    (hsize : i.size = size) (hby : i.bytes = bytes) (hzs : z.cells.size = size) (hsz : 0 < size)
    (v : Value) (n : Nat) (xs : List Value) (hs : a.eval s = v) (hown : w.ownsRow base e size v n xs)
    (b : Nat) (news : Array Value) (hx : a.eval x = .slice (some ⟨b, 0, none⟩) 1 1) (hl : news.size = size) (hblk : w.heap[b]? = some (.cells news e (0, 0))) (h1 : ∀ u ∈ news.toList, u.oneCell' = true)
    (h63 : n + 1 ≤ 1200000000000) (hby2 : bytes ≤ 100) (hbase : base ≤ w.heap.size)
    (h : ∀ v' w', w'.ownsRow base e size v' (n + 1) (xs ++ news.toList) → ((∃ g cap, v = .slice (some ⟨g, 0, none⟩) n cap ∧ v' = .slice (some ⟨g, 0, none⟩) (n + 1) cap ∧ w.grownBy w' (some g)) ∨ (w.grownBy w' none ∧ ∀ k, v'.ownBlock = some k → w.heap.size ≤ k)) → Kn (a.put o.dst v') w') :
    if Region.wanted o (yielded ops a.tmps) = true then Oper.wp P o a w Kn Q else E := by
  have hnews : ∀ j u, news.toList[j]? = some u → w.cell? ((⟨b, 0, none⟩ : Addr).add j) = some u := World.news_of_block hblk
  have hlen : news.toList.length = 1 * size := by rw [Array.length_toList, hl, Nat.one_mul]
  have hb63 : n + 1 ≤ maxLen := by unfold maxLen; omega
  have hbb : (n + 1) * bytes ≤ 140737488355328 := Nat.le_trans (Nat.mul_le_mul h63 hby2) (by decide)
  have grows : ∀ (ao : Option Addr) (cap : Nat), v = .slice ao n cap → (ao = none → n = 0 ∧ cap = 0) → (∀ b, ao = some b → ∀ j u, xs[j]? = some u → w.cell? (b.add j) = some u) → cap < n + 1 → if Region.wanted o (yielded ops a.tmps) = true then Oper.wp P o a w Kn Q else E := fun ao cap hv hno hold hfull => by
    refine step_append_grows hgd s x t ho e i z size bytes ht hi hz hsize hby hzs hsz ao n cap xs (hs.trans hv) hno hown.1 hold ⟨b, 0, none⟩ 1 1 news.toList hx hlen hnews h1 hfull hb63 hbb fun v' w' h2 h3 => ?_
    refine h v' w' ?_ (Or.inr ⟨h3, fun k hk => (World.ownsRow.lt h2 k hk).1⟩)
    refine ⟨h2.1, ?_⟩
    rcases h2.2 with h4 | ⟨g, c, cur, h5, h6, h7⟩
    · exact Or.inl h4
    · exact Or.inr ⟨g, c, cur, h5, Nat.le_trans hbase h6, h7⟩
  rcases hown.2 with ⟨hv, hn⟩ | ⟨g, cap, cur, hv, hbg, hg, hnc, hcm, hcs, htake⟩
  · subst hn
    exact grows none 0 hv (fun _ => ⟨rfl, rfl⟩) (fun b e => by cases e) (by omega)
  · by_cases hroom : n + 1 ≤ cap
    · have hw : Region.wanted o (yielded ops a.tmps) = true := by simp [Region.wanted, hgd]
      rw [if_pos hw]
      have hown2 : w.ownsRow base e size (.slice (some ⟨g, 0, none⟩) n cap) n xs := by rw [← hv]; exact hown
      obtain ⟨w', hrun, r1, r2⟩ := run_append_fits (P := P) w base t o.type e i size ht hi hsize g n cap xs hown2 ⟨b, 0, none⟩ 1 1 news.toList hlen hnews h1 hroom
      have hs2 : a.eval s = .slice (some ⟨g, 0, none⟩) n cap := hs.trans hv
      unfold Oper.wp
      simp [execOp, ho, resolve, invoke, builtin, hs2, hx, hrun, Result.andThen]
      exact h _ _ r1 (Or.inl ⟨g, cap, hv, rfl, r2⟩)
    · refine grows (some ⟨g, 0, none⟩) cap hv (fun e => by cases e) (fun b e j u hu => ?_) (by omega)
      cases e
      have hj : j < n * size := by rw [← hown.1]; exact (List.getElem?_eq_some_iff.1 hu).1
      have hadd : (⟨g, 0, none⟩ : Addr).add j = ⟨g, j, none⟩ := by unfold Addr.add; split <;> simp_all
      rw [hadd, cell_of_row w g j cur e (0, 0) hg]
      rw [← htake, List.getElem?_take_of_lt hj] at hu
      simpa using hu
end Go.Proofs.YtnaiecemmhioeaaDoor

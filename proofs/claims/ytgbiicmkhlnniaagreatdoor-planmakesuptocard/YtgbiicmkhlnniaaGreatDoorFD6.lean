/-
  ref 9: what is left of the plan (plain); the first tests.
-/
import Derived.Test.YtgbiicmkhlnniaaGreatDoorFD5
namespace Go.Proofs.YtgbiicmkhlnniaaGreatDoor
open Go.RowKit
attribute [local go_sem ↓] Go.wp_at_zero Go.wp_at_succ

/-- The joins that are still to come. -/
def R9 (c : Cm) (lead : Int) (met : List Bool) (A O : List Int) : List Js9 := if O = [] then js9 c lead else pln9 c A.length met A (T9 c met)
theorem pln9_cons {c : Cm} {met : List Bool} {A : List Int} (hn : A.Nodup) (_hi : ∀ m ∈ A, ∃ i : Nat, m = (i : Int)) (hA : A ≠ []) {n : Nat} (he : (n : Int) = mn9 c met A) : pln9 c A.length met A (T9 c met) = jr9 c met (T9 c met) n :: pln9 c (jA9 A n).length (jm9 c met n) (jA9 A n) (T9 c (jm9 c met n)) := by
  have hm := mn9_mem c met hA
  have hnm : (n : Int) ∈ A := by rw [he]; exact hm
  have e : (mn9 c met A).toNat = n := by omega
  have hl := jA9_len hn hnm
  rw [← hl, pln9, e, T9_next]
theorem R9_step {c : Cm} {lead : Int} {met : List Bool} {A O Vs K : List Int} (h : Rl9 c met A O Vs K) (h0 : O = [] → met = List.replicate (dis c.vars).length false ∧ A = up9 c.body.length) (hl1 : -1 ≤ lead) (hl2 : lead < c.body.length) (hA : A ≠ []) {n : Nat} (he : (n : Int) = if O = [] ∧ 0 ≤ lead then lead else mn9 c met A) : (n : Int) ∈ A ∧ R9 c lead met A O = jr9 c met (T9 c met) n :: R9 c lead (jm9 c met n) (jA9 A n) (O ++ [(n : Int)]) := by
  have hi : ∀ m ∈ A, ∃ i : Nat, m = (i : Int) := fun m hm => by obtain ⟨i, e, -⟩ := h.ps.lo m hm; exact ⟨i, e⟩
  have hO : R9 c lead (jm9 c met n) (jA9 A n) (O ++ [(n : Int)]) = pln9 c (jA9 A n).length (jm9 c met n) (jA9 A n) (T9 c (jm9 c met n)) := by unfold R9; rw [if_neg (by simp)]
  rw [hO]
  by_cases e0 : O = []
  · obtain ⟨hm0, hA0⟩ := h0 e0
    unfold R9
    rw [if_pos e0]
    by_cases e1 : 0 ≤ lead
    · rw [if_pos ⟨e0, e1⟩] at he
      have hnA : (n : Int) ∈ A := by rw [hA0]; exact List.mem_map.2 ⟨n, List.mem_range.2 (by omega), rfl⟩
      refine ⟨hnA, ?_⟩
      unfold js9
      rw [if_neg (by omega), ← he, Int.toNat_natCast]
      rw [hm0, hA0, show ts9 c = T9 c (List.replicate (dis c.vars).length false) from rfl, T9_next]
    · rw [if_neg (by rintro ⟨-, h⟩; exact e1 h)] at he
      have hm := mn9_mem c met hA
      refine ⟨by rw [he]; exact hm, ?_⟩
      have hlead : lead = -1 := by omega
      have key := pln9_cons h.ps.nd hi hA he
      rw [← key]
      unfold js9
      rw [if_pos hlead, hm0, hA0]
      rfl
  · rw [if_neg (by rintro ⟨h, -⟩; exact e0 h)] at he
    have hm := mn9_mem c met hA
    refine ⟨by rw [he]; exact hm, ?_⟩
    unfold R9
    rw [if_neg e0]
    exact pln9_cons h.ps.nd hi hA he
/-- The lists of the joins. -/
def LJ9 (l : List (Js9 × Value × Value)) : List (Value × List Int) := l.flatMap fun x => [(x.2.1, x.1.k), (x.2.2, x.1.t)]
def MkR9 (c : Cm) (lead : Int) (w : World) (e : Ending) (w' : World) : Prop :=
  Below w.heap.size w w' ∧ ((er9 c lead ≠ 0 ∧ e = .returned (.tuple #[.agg #[.slice none 0 0, .slice none 0 0], .int .i64 (er9 c lead)])) ∨
    (er9 c lead = 0 ∧ ∃ av jv l, e = .returned (.tuple #[.agg #[av, jv], .int .i64 0]) ∧ OwI w' w.heap.size av (ah9 c) ∧ PJ9 w' w.heap.size jv l ∧ l.map Prod.fst = js9 c lead))
theorem RS9.app1 {w : World} {c : Cm} {cb rb pb g m cap : Nat} {av jv v : Value} {x : List Int} {n : Int} {l : List (Js9 × Value × Value)} {L : List (Value × List Int)} {Y Y' : World} (h : RS9 w c cb rb pb av jv l ((v, x) :: L) Y) (hm : x.length = m) (ho : Y'.ownsRow w.heap.size 3 1 (.slice (some ⟨g, 0, none⟩) (m + 1) cap) (m + 1) (ibs7 x ++ [.int .i64 n])) (hg : Y.grownBy Y' v.ownBlock) (hv : v.ownBlock = some g ∨ g = Y.heap.size) : RS9 w c cb rb pb av jv l ((.slice (some ⟨g, 0, none⟩) (m + 1) cap, x ++ [n]) :: L) Y' :=
  h.app (g := Y.heap.size) (OwI.snoc9 hm.symm ho) hg (fun b hb => by
    have e : g = b := by simpa [Value.ownBlock] using hb
    subst e; exact hv) (Nat.le_refl _)
theorem perm7_9 {α : Type} (a b c d e f : α) (L : List α) : (a :: b :: c :: d :: e :: f :: L).Perm (f :: d :: c :: a :: (L ++ [e, b])) := by
  have h1 : (a :: b :: c :: d :: e :: f :: L).Perm (f :: a :: b :: c :: d :: e :: L) := List.perm_middle (l₁ := [a, b, c, d, e])
  have h2 : (a :: b :: c :: d :: e :: L).Perm (d :: a :: b :: c :: e :: L) := List.perm_middle (l₁ := [a, b, c])
  have h3 : (a :: b :: c :: e :: L).Perm (c :: a :: b :: e :: L) := List.perm_middle (l₁ := [a, b])
  have h4 : (b :: e :: L).Perm (L ++ [e, b]) := (List.Perm.swap e b L).trans (List.perm_append_comm (l₁ := [e, b]) (l₂ := L))
  exact h1.trans (.cons f (h2.trans (.cons d (h3.trans (.cons c (.cons a h4))))))
theorem tk9_base {c : Cm} {met : List Bool} {m : Int} (hm : tk9 c (List.replicate (dis c.vars).length false) m = true) : tk9 c met m = true := by
  unfold tk9 at hm ⊢
  split at hm
  · simp only [Bool.and_eq_true] at hm ⊢
    have key : ∀ u : Tm, kn9 (List.replicate (dis c.vars).length false) u = true → kn9 met u = true := fun u hu => by
      unfold kn9 at hu ⊢
      cases hv : u.var with
      | false => rfl
      | true =>
        rw [hv, List.getElem?_replicate] at hu
        split at hu <;> simp at hu
    exact ⟨key _ hm.1, key _ hm.2⟩
  · cases hm
theorem has9_tl {c : Cm} {met met' : List Bool} {A O Vs K : List Int} (h : Rl9 c met A O Vs K) {i : Nat} (hi : i < c.tests.length) : decide ((i : Int) ∈ K ++ tl9 c met met' i) = (tk9 c met i && !tk9 c (List.replicate (dis c.vars).length false) i) := by
  have h1 : ¬ (i : Int) ∈ tl9 c met met' i := fun e => by
    obtain ⟨k, hk, e2⟩ := List.mem_map.1 (List.mem_filter.1 e).1
    have := List.mem_range.1 hk
    omega
  have h2 : ((i : Int) ∈ K ++ tl9 c met met' i) ↔ (tk9 c met i = true ∧ tk9 c (List.replicate (dis c.vars).length false) i = false) := by
    rw [List.mem_append, ← h.k i hi]
    exact ⟨fun e => e.elim id fun e => absurd e h1, Or.inl⟩
  cases e1 : tk9 c met i <;> cases e2 : tk9 c (List.replicate (dis c.vars).length false) i <;> simp [h2, e1, e2]
theorem nx9_zero {c : Cm} {met : List Bool} {A : List Int} (hi : ∀ m ∈ A, ∃ k : Nat, m = (k : Int)) : nx9 c met A 0 = -1 := by
  unfold nx9
  rw [List.filter_eq_nil_iff.2 fun m hm => by obtain ⟨k, rfl⟩ := hi m hm; simp]
/-- A store into the box of the join in the making. -/
theorem RS9.setJ {w : World} {c : Cm} {cb rb pb jb i : Nat} {av jv v : Value} {cs : Array Value} {l : List (Js9 × Value × Value)} {L : List (Value × List Int)} {Y : World} (h : RS9 w c cb rb pb av jv l L Y) (hj : Bk Y jb cs 57) (hlo : w.heap.size ≤ jb) (hn : jv.ownBlock ≠ some jb) : RS9 w c cb rb pb av jv l L (Y.setCell ⟨jb, i, none⟩ v) := by
  have hf : Fr (fun b => b = jb) Y (Y.setCell ⟨jb, i, none⟩ v) := (Fr.refl _ _).set (Or.inl rfl)
  have hne : ∀ {b : Nat} {cs' : Array Value} {t : TypeId}, Bk Y b cs' t → 57 ≠ t → ¬ b = jb := fun hb ht e => ht (hj.ty (e ▸ hb))
  exact ⟨h.be.setCell hlo _, h.bc.fr hf (hne h.bc (by decide)), h.br.fr hf (hne h.br (by decide)), h.bp.fr hf (hne h.bp (by decide)), h.lc, h.lr, h.lp, h.ne, row7_fr h.row hf (fun b hb e => hn (e ▸ hb)), h.ll.fr hf fun b hb => ⟨cs, 57, by rw [hb]; exact hj, by decide⟩⟩
theorem RS9.nil {w : World} {c : Cm} {cb rb pb : Nat} {av jv : Value} {l : List (Js9 × Value × Value)} {L : List (Value × List Int)} {Y : World} (h : RS9 w c cb rb pb av jv l L Y) : RS9 w c cb rb pb av jv l ((.slice none 0 0, []) :: L) Y :=
  ⟨h.be, h.bc, h.br, h.bp, h.lc, h.lr, h.lp, h.ne, h.row, ⟨fun p hp => by
    rcases List.mem_cons.1 hp with rfl | hp
    · exact OwI.nil _ _
    · exact h.ll.own p hp, List.pairwise_cons.2 ⟨fun q _ b hb => (by cases hb), h.ll.ne⟩⟩⟩
/-- append of a join. -/
theorem japp9 {ops : Array Oper} {rest : List Oper} {o : Oper} {a : Act} {Q : Exit → Act → World → Prop} {w : World} (hgd : o.guard = none) (s x : Operand)
    (ho : o.op = .call { callee := .builtin .append, args := #[s, x], argTypes := #[33, 33] }) (base : Nat) (v : Value) (n : Nat) (l : List Value) (hs : a.eval s = v) (hown : w.ownsRow base 57 3 v n l)
    (b : Nat) (y0 y1 y2 : Value) (hx : a.eval x = .slice (some ⟨b, 0, none⟩) 1 1) (hblk : Bk w b #[y0, y1, y2] 57) (h1c : ∀ u ∈ [y0, y1, y2], u.oneCell' = true) (hlen : n ≤ 1000000) (hbase : base ≤ w.heap.size)
    (h : ∀ g cap w', w'.ownsRow base 57 3 (.slice (some ⟨g, 0, none⟩) (n + 1) cap) (n + 1) (l ++ [y0, y1, y2]) → w.grownBy w' v.ownBlock → wpList Tryz.prog ops Q rest (a.put o.dst (.slice (some ⟨g, 0, none⟩) (n + 1) cap)) w') : wpList Tryz.prog ops Q (o :: rest) a w := by
  obtain ⟨i0, hi0, hz0, hz1, hz2⟩ := info7 Tryz.infoJoin9
  refine wpList_append_lies _ hgd s x 33 ho base 57 i0 _ 3 56 Tryz.underlying33 hi0 hz0 hz1 hz2 rfl (by omega) v n l hs hown ⟨b, 0, none⟩ 1 1 [y0, y1, y2] hx rfl ?_ h1c (by omega) (by unfold maxLen; omega) (by omega) hbase _ rfl ?_
  · intro j u hj
    exact World.news_of_block (cs := #[y0, y1, y2]) (t := 57) (fr := (0, 0)) hblk j u (by simpa using hj)
  · intro g cap w' h1 h2 _ _
    exact h g cap w' h1 h2
theorem RS9.bpj {w : World} {c : Cm} {cb rb pb : Nat} {av jv : Value} {l : List (Js9 × Value × Value)} {L : List (Value × List Int)} {Y Y' : World} (h : RS9 w c cb rb pb av jv l L Y) (hg : Y.grownBy Y' jv.ownBlock) : Bk Y' pb #[av, jv] 35 :=
  h.bp.fr (P := fun b => jv.ownBlock = some b) (Fr.grown hg fun b hb => hb) fun e => by
    obtain ⟨cur, hc⟩ := row7_blk h.row e
    exact absurd (hc.ty h.bp) (by decide)
theorem RS9.join9 {w : World} {c : Cm} {cb rb pb m : Nat} {av jv jv' kw tw : Value} {l : List (Js9 × Value × Value)} {xj : Js9} {k : Int} {L : List (Value × List Int)} {Y Y' : World} (h : RS9 w c cb rb pb av jv l L Y) (hk : xj.n = k) (hm : l.length = m) (ho : Y'.ownsRow w.heap.size 57 3 jv' (m + 1) (jc9 l ++ [.int .i64 k, kw, tw])) (hg : Y.grownBy Y' jv.ownBlock) : RS9 w c cb rb pb av jv' (l ++ [(xj, kw, tw)]) L (Y'.setCell ⟨pb, 1, none⟩ jv') := by
  subst hk
  exact h.join hm ho hg
/-- Make at the head of its loop over the atoms. -/
def RT9 (w : World) (C : Cm) (lead : Int) (cb rb pb gg : Nat) (ov vv kv : Value) (wr : World) : Prop :=
  ∃ (av jv : Value) (l : List (Js9 × Value × Value)) (met : List Bool) (A O Vs K : List Int), O.length + gg = C.body.length ∧ Vs.length ≤ 100 * O.length ∧ K.length ≤ 100 * O.length ∧ RS9 w C cb rb pb av jv l ((av, ah9 C) :: (ov, O) :: (vv, Vs) :: (kv, K) :: LJ9 l) wr ∧ Rl9 C met A O Vs K ∧ (O = [] → met = List.replicate (dis C.vars).length false ∧ A = up9 C.body.length) ∧ l.map Prod.fst ++ R9 C lead met A O = js9 C lead
theorem RT9.end_ {w : World} {C : Cm} {lead : Int} {cb rb pb : Nat} {ov vv kv : Value} {wr : World} (hl1 : -1 ≤ lead) (hl2 : lead < (C.body.length : Int)) (h : RT9 w C lead cb rb pb 0 ov vv kv wr) : ∃ (av jv : Value) (l : List (Js9 × Value × Value)) (L : List (Value × List Int)), RS9 w C cb rb pb av jv l L wr ∧ OwI wr w.heap.size av (ah9 C) ∧ PJ9 wr w.heap.size jv l ∧ l.map Prod.fst = js9 C lead := by
  obtain ⟨av, jv, l, met, A, O, Vs, K, hg, -, -, hs, hr, h0, hj⟩ := h
  have hA : A = [] := List.eq_nil_of_length_eq_zero (by have := hr.ol; omega)
  have hR : R9 C lead met A O = [] := by
    unfold R9
    by_cases e : O = []
    · rw [if_pos e]
      have e1 := (h0 e).2
      rw [hA] at e1
      have e2 : C.body.length = 0 := by have := congrArg List.length e1; rw [up9_len] at this; exact this.symm
      unfold js9
      rw [if_pos (by omega), ← e1]; rfl
    · rw [if_neg e, hA]; rfl
  rw [hR, List.append_nil] at hj
  have hm : ∀ x ∈ l, (x.2.1, x.1.k) ∈ LJ9 l ∧ (x.2.2, x.1.t) ∈ LJ9 l := fun x hx => ⟨List.mem_flatMap.2 ⟨x, hx, by simp⟩, List.mem_flatMap.2 ⟨x, hx, by simp⟩⟩
  exact ⟨av, jv, l, _, hs, hs.ll.own _ (List.mem_cons_self ..), ⟨hs.row, fun x hx => hs.ll.own (x.2.1, x.1.k) (List.mem_cons_of_mem _ (List.mem_cons_of_mem _ (List.mem_cons_of_mem _ (List.mem_cons_of_mem _ (hm x hx).1)))), fun x hx => hs.ll.own (x.2.2, x.1.t) (List.mem_cons_of_mem _ (List.mem_cons_of_mem _ (List.mem_cons_of_mem _ (List.mem_cons_of_mem _ (hm x hx).2))))⟩, hj⟩
theorem RS9.start {w W : World} {c : Cm} {cb rb : Nat} (hb : Below w.heap.size w W) (hc : Bk W cb c.cs 30) (hr : Bk W rb #[.slice none 0 0, .slice none 0 0] 35) (lc : w.heap.size ≤ cb) (lr : w.heap.size ≤ rb) : RS9 w c cb rb W.heap.size (.slice none 0 0) (.slice none 0 0) [] [(.slice none 0 0, []), (.slice none 0 0, []), (.slice none 0 0, []), (.slice none 0 0, [])] (W.alloc (.cells #[.slice none 0 0, .slice none 0 0] 35)) := by
  have b1 := below1 W (.cells #[.slice none 0 0, .slice none 0 0] 35)
  have h1 := hr.lt
  refine ⟨hb.trans (b1.mono hb.size), hc.below b1, hr.below b1, Bk.new _ _ _, lc, lr, hb.size, by omega, World.ownsRow_nil _ _ _ _, ⟨fun p hp => ?_, ?_⟩⟩
  · have : p = (.slice none 0 0, []) := by simpa using hp
    rw [this]; exact OwI.nil _ _
  · simp [Value.ownBlock]
end Go.Proofs.YtgbiicmkhlnniaaGreatDoor

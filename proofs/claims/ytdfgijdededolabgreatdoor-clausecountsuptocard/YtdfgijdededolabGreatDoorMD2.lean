import Derived.Test.YtdfgijdededolabGreatDoorCL12
import Derived.Test.YtdfgijdededolabGreatDoorCL22
import Derived.Test.YtdfgijdededolabGreatDoorA1
import Derived.Laws.AppendOwnNone
import Derived.Laws.AppendOwn
import Derived.Test.YtdfgijdededolabGreatDoorCL20
import Derived.Test.YtdfgijdededolabGreatDoorW2
import Derived.Test.YtdfgijdededolabGreatDoorCL1
/-
  Clauses as plain data: what Made makes; numbering. (Plain.)
-/
namespace Go.Proofs.YtdfgijdededolabGreatDoor
open Go.RowKit

/-- A clause as plain data. -/
abbrev Ck := At × List At × List Te
def Ck.terms (x : Ck) : List Tm := x.1.pl ++ (x.2.1.flatMap At.pl ++ tls x.2.2)
def mapA (f : Tm → Tm) (a : At) : At := ⟨f a.by_, a.name, a.args.map f⟩
def mapE (f : Tm → Tm) (t : Te) : Te := ⟨t.op, f t.l, f t.r⟩
def mapC (f : Tm → Tm) (x : Ck) : Ck := (mapA f x.1, x.2.1.map (mapA f), x.2.2.map (mapE f))
end Go.Proofs.YtdfgijdededolabGreatDoor
/-
  Terms in memory that the call itself made; lent of the laws.
-/
namespace Go.Proofs.YtdfgijdededolabGreatDoor
open Go.RowKit

def Tm.cs (t : Tm) : List Value := [.int .i64 t.k, .int .i64 t.n, .string t.s]
def tcs (l : List Tm) : List Value := l.flatMap Tm.cs
theorem tcs_len (l : List Tm) : (tcs l).length = l.length * 3 := by
  induction l with
  | nil => rfl
  | cons d l ih => simp only [tcs, List.flatMap_cons, List.length_append, List.length_cons] at *; rw [ih]; simp [Tm.cs]; omega
theorem tcs_get (l : List Tm) (j : Nat) (d : Tm) (h : l[j]? = some d) (i : Nat) (hi : i < 3) : (tcs l)[j * 3 + i]? = d.cs[i]? := by
  induction l generalizing j with
  | nil => simp at h
  | cons e l ih =>
    rw [tcs, List.flatMap_cons]
    cases j with
    | zero =>
      simp only [List.getElem?_cons_zero, Option.some.injEq] at h
      subst h
      rw [List.getElem?_append_left (by simp [Tm.cs]; omega)]
      simp
    | succ j =>
      simp only [List.getElem?_cons_succ] at h
      rw [List.getElem?_append_right (by simp [Tm.cs]; omega)]
      have e1 : (j + 1) * 3 + i - (Tm.cs e).length = j * 3 + i := by simp [Tm.cs]; omega
      rw [e1]
      exact ih j h
/-- v holds the terms l, in a block of the call's own. -/
def OwnT (w : World) (base : Nat) (v : Value) (l : List Tm) : Prop := w.ownsRow base 35 3 v l.length (tcs l)
theorem ownT_cells {w : World} {base g cap n : Nat} {l : List Tm} (h : OwnT w base (.slice (some ⟨g, 0, none⟩) n cap) l) (j : Nat) (d : Tm) (hd : l[j]? = some d) :
    w.cell? ⟨g, j * 3, none⟩ = some (.int .i64 d.k) ∧ w.cell? ⟨g, j * 3 + 1, none⟩ = some (.int .i64 d.n) ∧ w.cell? ⟨g, j * 3 + 2, none⟩ = some (.string d.s) := by
  rcases h.2 with ⟨h, _⟩ | ⟨g', cap', cur, hv, hb, hg, hn, hc, hs, ht⟩
  · cases h
  · simp only [Value.slice.injEq, Option.some.injEq, Addr.mk.injEq] at hv
    obtain ⟨⟨rfl, -⟩, -, rfl⟩ := hv
    have hj := (List.getElem?_eq_some_iff.1 hd).1
    have key : ∀ i, i < 3 → w.cell? ⟨g, j * 3 + i, none⟩ = d.cs[i]? := fun i hi => by
      rw [cell_of_row _ _ _ _ _ _ hg, ← tcs_get l j d hd i hi, ← ht, List.getElem?_take_of_lt (by omega)]
      simp
    exact ⟨key 0 (by omega), key 1 (by omega), key 2 (by omega)⟩
theorem OwnT.lt {w : World} {base : Nat} {v : Value} {l : List Tm} (h : OwnT w base v l) : ∀ k, v.ownBlock = some k → base ≤ k ∧ k < w.heap.size := World.ownsRow.lt h
theorem OwnT.mono {w : World} {b b' : Nat} {v : Value} {l : List Tm} (h : OwnT w b v l) (hb : b' ≤ b) : OwnT w b' v l := by
  refine ⟨h.1, ?_⟩
  rcases h.2 with hn | ⟨g, cap, cur, hv, hbb, rest⟩
  · exact Or.inl hn
  · exact Or.inr ⟨g, cap, cur, hv, Nat.le_trans hb hbb, rest⟩
theorem OwnT.later {w w' : World} {base : Nat} {v : Value} {l : List Tm} (h : OwnT w base v l) (hb : Below w.heap.size w w') : OwnT w' base v l := by
  refine ⟨h.1, ?_⟩
  rcases h.2 with hn | ⟨g, cap, cur, hv, hbb, hg, rest⟩
  · exact Or.inl hn
  · exact Or.inr ⟨g, cap, cur, hv, hbb, (hb.block _ (Array.getElem?_eq_some_iff.1 hg).1).trans hg, rest⟩
theorem OwnT.set {w : World} {base G i : Nat} {a : Value} {v : Value} {l : List Tm} (h : OwnT w base v l) (hG : G < base) : OwnT (w.setCell ⟨G, i, none⟩ a) base v l := by
  refine ⟨h.1, ?_⟩
  rcases h.2 with hn | ⟨g, cap, cur, hv, hbb, hg, rest⟩
  · exact Or.inl hn
  · exact Or.inr ⟨g, cap, cur, hv, hbb, by rw [heap_setCell_other _ _ _ _ (show g ≠ G by omega)]; exact hg, rest⟩
def MarkOk (w : World) : Prop := 1 < w.heap.size ∧ w.cell? ⟨1, 0, none⟩ = some (.int .i64 3) ∧ w.cell? ⟨1, 1, none⟩ = some (.int .i64 901) ∧ w.cell? ⟨1, 2, none⟩ = some (.string ⟨#[109, 97, 114, 107]⟩)
theorem MarkOk.later {w w' : World} (h : MarkOk w) (hb : Below w.heap.size w w') : MarkOk w' :=
  ⟨Nat.lt_of_lt_of_le h.1 hb.size, by rw [hb.cell (p := ⟨1, _, none⟩) h.1]; exact h.2.1, by rw [hb.cell (p := ⟨1, _, none⟩) h.1]; exact h.2.2.1, by rw [hb.cell (p := ⟨1, _, none⟩) h.1]; exact h.2.2.2⟩
/-- A list of terms that came in: nil, or a slice with an address. -/
def TsO (w : World) (v : Value) (l : List Tm) : Prop := (v = .slice none 0 0 ∧ l = []) ∨ ∃ ad cap, v = .slice (some ad) l.length cap ∧ l.length * 32 ≤ 140737488351232 ∧ (l = [] ∨ ∃ b o, ad = ⟨b, o, none⟩ ∧ TRow w b o l)
theorem TsO.ts {w : World} {v : Value} {l : List Tm} (h : TsO w v l) : Ts w v l := by
  rcases h with ⟨rfl, rfl⟩ | ⟨ad, cap, rfl, hl, h⟩
  · exact ⟨none, 0, rfl, by simp, Or.inl rfl⟩
  · refine ⟨some ad, cap, rfl, by omega, ?_⟩
    rcases h with h | ⟨b, o, rfl, h⟩
    · exact Or.inl h
    · exact Or.inr ⟨b, o, rfl, h⟩
theorem TsO.later {w w' : World} {v : Value} {l : List Tm} (h : TsO w v l) (hb : Below w.heap.size w w') : TsO w' v l := by
  rcases h with h | ⟨ad, cap, h1, h2, h3⟩
  · exact Or.inl h
  · refine Or.inr ⟨ad, cap, h1, h2, ?_⟩
    rcases h3 with h3 | ⟨b, o, h3, h4⟩
    · exact Or.inl h3
    · exact Or.inr ⟨b, o, h3, h4.later hb⟩
theorem tcs_mem {l : List Tm} {u : Value} (h : u ∈ tcs l) : u.oneCell' = true := by
  simp only [tcs, List.mem_flatMap] at h
  obtain ⟨d, -, hu⟩ := h
  simp [Tm.cs] at hu
  rcases hu with rfl | rfl | rfl <;> rfl
theorem trow_get {w : World} {b o : Nat} {l : List Tm} (h : TRow w b o l) : ∀ j u, (tcs l)[j]? = some u → w.cell? ((⟨b, o, none⟩ : Addr).add j) = some u := fun j u hu => by
  have hj : j < l.length * 3 := by rw [← tcs_len]; exact (List.getElem?_eq_some_iff.1 hu).1
  have hq : j / 3 < l.length := by omega
  obtain ⟨d, hd⟩ : ∃ d, l[j / 3]? = some d := ⟨_, List.getElem?_eq_getElem hq⟩
  have hg := tcs_get l (j / 3) d hd (j % 3) (by omega)
  rw [show j / 3 * 3 + j % 3 = j by omega, hu] at hg
  have hc := h.2 _ _ hd
  have ha : (⟨b, o, none⟩ : Addr).add j = ⟨b, o + j / 3 * 3 + j % 3, none⟩ := by
    rw [Go.WideShapes.add_plain]; congr 1; omega
  rw [ha]
  have h4 : j % 3 = 0 ∨ j % 3 = 1 ∨ j % 3 = 2 := by omega
  rcases h4 with e | e | e <;> rw [e] at hg ⊢ <;> simp [Tm.cs] at hg <;> subst hg
  · exact hc.1
  · exact hc.2.1
  · exact hc.2.2
/-- The first terms of a longer list. -/
theorem ownT_pre {w : World} {base g cap : Nat} {s : List Tm} {d : Tm} (h : OwnT w base (.slice (some ⟨g, 0, none⟩) (s.length + 1) cap) (s ++ [d])) (hs : s.length < 1000000000000000000) : Ts w (.slice (some ⟨g, 0, none⟩) s.length cap) s := by
  have hlt : g < w.heap.size := (h.lt g rfl).2
  refine ⟨_, cap, rfl, hs, Or.inr ⟨g, 0, rfl, hlt, fun i t ht => ?_⟩⟩
  have hi := (List.getElem?_eq_some_iff.1 ht).1
  have := ownT_cells h i t (by rw [List.getElem?_append_left hi]; exact ht)
  simpa using this
theorem ownT_cap {w : World} {base g cap n : Nat} {l : List Tm} (h : OwnT w base (.slice (some ⟨g, 0, none⟩) n cap) l) : n ≤ cap := by
  rcases h.2 with ⟨h, _⟩ | ⟨g', c, cur, hv, _, _, hn, _⟩
  · cases h
  · simp only [Value.slice.injEq] at hv; omega
end Go.Proofs.YtdfgijdededolabGreatDoor
/-
  What Instance makes of a term.
-/
namespace Go.Proofs.YtdfgijdededolabGreatDoor
open Go.RowKit
attribute [local go_sem ↓] Go.wp_at_zero Go.wp_at_succ

/-- The list of values in its box. -/
def VB (w : World) (P : Nat) (v : Value) (vs : List Tm) : Prop := CBlk w P #[v] 24 ∧ Ts w v vs
theorem VB.later {w w' : World} {P : Nat} {v : Value} {vs : List Tm} (h : VB w P v vs) (hb : Below w.heap.size w w') : VB w' P v vs := ⟨h.1.later hb, h.2.later hb⟩
def ins (vs : List Tm) (t : Tm) : Tm := if t.var = true then (vs[t.n.toNat]?).getD t else t
end Go.Proofs.YtdfgijdededolabGreatDoor
/-
  safe, MadeConst; lists of terms appended; atomTerms.
-/
namespace Go.Proofs.YtdfgijdededolabGreatDoor
open Go.RowKit
attribute [local go_sem ↓] Go.wp_at_zero Go.wp_at_succ

/-- A list of terms in memory that is nil, or has a place. -/
def TsP (w : World) (v : Value) (l : List Tm) : Prop := (v = .slice none 0 0 ∧ l = []) ∨ ∃ ad cap, v = .slice (some ad) l.length cap ∧ (l = [] ∨ ∃ b o, ad = ⟨b, o, none⟩ ∧ TRow w b o l)
theorem TsP.later {w w' : World} {v : Value} {l : List Tm} (h : TsP w v l) (hb : Below w.heap.size w w') : TsP w' v l := by
  rcases h with h | ⟨ad, cap, h1, h2⟩
  · exact Or.inl h
  · refine Or.inr ⟨ad, cap, h1, ?_⟩
    rcases h2 with h2 | ⟨b, o, h2, h3⟩
    · exact Or.inl h2
    · exact Or.inr ⟨b, o, h2, h3.later hb⟩
theorem TsP.ts {w : World} {v : Value} {l : List Tm} (h : TsP w v l) (hl : l.length < 1000000000000000000) : Ts w v l := by
  rcases h with ⟨rfl, rfl⟩ | ⟨ad, cap, rfl, h2⟩
  · exact ⟨none, 0, rfl, by simp, Or.inl rfl⟩
  · refine ⟨some ad, cap, rfl, hl, ?_⟩
    rcases h2 with h2 | ⟨b, o, rfl, h3⟩
    · exact Or.inl h2
    · exact Or.inr ⟨b, o, rfl, h3⟩
theorem OwnT.tsP {w : World} {base : Nat} {v : Value} {l : List Tm} (h : OwnT w base v l) : TsP w v l := by
  have hh := h
  rcases h.2 with ⟨rfl, hn⟩ | ⟨g, cap, cur, rfl, hb, hg, -⟩
  · exact Or.inl ⟨rfl, List.length_eq_zero_iff.1 hn⟩
  · refine Or.inr ⟨_, cap, rfl, Or.inr ⟨g, 0, rfl, (Array.getElem?_eq_some_iff.1 hg).1, fun i t ht => ?_⟩⟩
    simpa using ownT_cells hh i t ht
theorem tcs_app (l m : List Tm) : tcs (l ++ m) = tcs l ++ tcs m := by simp [tcs]
theorem ownT_nil (w : World) (base : Nat) : OwnT w base (.slice none 0 0) [] := World.ownsRow_nil _ _ _ _
theorem grown_below3 {w w' : World} {base : Nat} {v : Value} (hg : w.grownBy w' v.ownBlock) (h : ∀ k, v.ownBlock = some k → base ≤ k) (hb : base ≤ w.heap.size) : Below base w w' :=
  (Below.refl _ _).grown hg hb h
theorem app_terms {ops : Array Oper} {rest : List Oper} {o : Oper} {a : Act} {Q : Exit → Act → World → Prop} {w : World} (hgd : o.guard = none) (s x : Operand)
    (ho : o.op = .call { callee := .builtin .append, args := #[s, x], argTypes := #[24, 24] }) (base : Nat) (v : Value) (l : List Tm) (hs : a.eval s = v) (hown : OwnT w base v l)
    (y : Value) (m : List Tm) (hx : a.eval x = y) (hy : TsP w y m) (hlen : l.length + m.length ≤ 4000000000000) (hbase : base ≤ w.heap.size)
    (h : ∀ v' w', OwnT w' base v' (l ++ m) → Below base w w' → w.grownBy w' v.ownBlock → wpList Tryz.prog ops Q rest (a.put o.dst v') w') : wpList Tryz.prog ops Q (o :: rest) a w := by
  obtain ⟨i0, hi0, hz0, hz1, hz2⟩ := info_parts Tryz.infoTerm
  rcases hy with ⟨rfl, rfl⟩ | ⟨ad, cap, rfl, hm⟩
  · refine wpList_append_own_none hgd s x 24 ho base 35 i0 3 Tryz.underlying24 hi0 v l.length (tcs l) hs hown hx ?_
    refine h v w (by rw [List.append_nil]; exact hown) (Below.refl _ _) ?_
    exact World.grownBy.refl _ _
  · refine wpList_append_own _ hgd s x 24 ho base 35 i0 _ 3 32 Tryz.underlying24 hi0 hz0 hz1 hz2 rfl (by omega) v l.length (tcs l) hs hown ad m.length cap (tcs m) hx (tcs_len m) ?_ (fun u hu => tcs_mem hu) (by unfold maxLen; omega) (by omega) hbase ?_
    · rcases hm with rfl | ⟨b, o', rfl, hm⟩
      · intro j u hu; simp [tcs] at hu
      · exact trow_get hm
    · intro v' w' h1 h2 _
      refine h v' w' ?_ (grown_below3 h2 (fun k hk => (World.ownsRow.lt hown k hk).1) hbase) h2
      unfold OwnT
      rw [List.length_append, tcs_app]
      exact h1
theorem TsP.one {w : World} {b : Nat} {t : Tm} (h : CBlk w b #[.int .i64 t.k, .int .i64 t.n, .string t.s] 35) : TsP w (.slice (some ⟨b, 0, none⟩) 1 1) [t] := by
  refine Or.inr ⟨_, 1, rfl, Or.inr ⟨b, 0, rfl, h.lt, fun i u hu => ?_⟩⟩
  obtain ⟨c0, c1, c2⟩ := cthree h
  cases i with
  | zero => simp at hu; subst hu; exact ⟨c0, c1, c2⟩
  | succ i => simp at hu
theorem TsP.two {w : World} {b : Nat} {t u : Tm} (h : CBlk w b #[.int .i64 t.k, .int .i64 t.n, .string t.s, .int .i64 u.k, .int .i64 u.n, .string u.s] 35) : TsP w (.slice (some ⟨b, 0, none⟩) 2 2) [t, u] := by
  refine Or.inr ⟨_, 2, rfl, Or.inr ⟨b, 0, rfl, h.lt, fun i x hx => ?_⟩⟩
  match i, hx with
  | 0, hx => simp at hx; subst hx; exact ⟨cell_of_row _ _ _ _ _ _ h, cell_of_row _ _ _ _ _ _ h, cell_of_row _ _ _ _ _ _ h⟩
  | 1, hx => simp at hx; subst hx; exact ⟨cell_of_row _ _ _ _ _ _ h, cell_of_row _ _ _ _ _ _ h, cell_of_row _ _ _ _ _ _ h⟩
  | i + 2, hx => simp at hx
theorem OwnT.one {w : World} {b base : Nat} {t : Tm} (h : CBlk w b #[.int .i64 t.k, .int .i64 t.n, .string t.s] 35) (hb : base ≤ b) : OwnT w base (.slice (some ⟨b, 0, none⟩) 1 1) [t] := by
  refine ⟨by simp [tcs, Tm.cs], Or.inr ⟨_, 1, #[.int .i64 t.k, .int .i64 t.n, .string t.s], rfl, hb, h, Nat.le_refl _, by unfold maxLen; omega, by simp, by simp [tcs, Tm.cs]⟩⟩
set_option maxHeartbeats 2000000 in
theorem atomTerms_any (x : At) (v : Value) (w : World) (h : TsP w v x.args) (hl : x.args.length ≤ 3900000000000) :
    Calls Tryz.prog 83 #[x.v v] w fun e w' => ∃ v', e = .returned v' ∧ OwnT w' w.heap.size v' x.pl ∧ Below w.heap.size w w' := by
  have hb2 := below2 w (.cells (At.cs x v) 37) (.cells #[.int .i64 x.by_.k, .int .i64 x.by_.n, .string x.by_.s] 35)
  have g1 := CBlk.new (w.alloc (.cells (At.cs x v) 37)) #[.int .i64 x.by_.k, .int .i64 x.by_.n, .string x.by_.s] 35
  rw [show (w.alloc (.cells (At.cs x v) 37)).heap.size = w.heap.size + 1 by simp] at g1
  have H1 : Hid _ := OwnT.one g1 (show w.heap.size ≤ w.heap.size + 1 by omega)
  have H2 : Hid _ := h.later hb2
  have HB : Hid _ := hb2
  clear hb2 g1 h
  obtain ⟨⟨k, n, ss⟩, nm, l⟩ := x
  simp only [At.cs] at H1 H2 HB hl
  simp only [At.pl]
  go_enter Tryz.func83, Tryz.ntmps83
  go_wp2_with (at_builtin; refine app_terms rfl _ _ rfl w.heap.size (.slice (some ⟨w.heap.size + 1, 0, none⟩) 1 1) [⟨k, n, ss⟩] (by rfl) H1.out v l (by rfl) H2.out (by simp; omega) (by simp; omega) ?_; intro v' w1 hown hb hg)
  go_ret
  exact ⟨_, rfl, hown, HB.out.trans hb⟩
end Go.Proofs.YtdfgijdededolabGreatDoor

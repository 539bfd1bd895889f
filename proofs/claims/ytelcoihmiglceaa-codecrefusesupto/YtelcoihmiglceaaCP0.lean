/-
  Lists of clauses in memory, for a seat without the sort. (Written by CP0.py.)
-/
import Derived.Test.YtelcoihmiglceaaCD1
import Derived.Test.YtelcoihmiglceaaCL27
import Derived.Test.YtelcoihmiglceaaCG1
import Derived.Laws.AppendOwn
import Derived.Lib.SliceRun
namespace Go.Proofs.Ytelcoihmiglceaa
open Go.RowKit

def Cm.csl (c : Cm) : List Value := c.cs.toList
def ccs (l : List Cm) : List Value := l.flatMap Cm.csl
theorem ccs_len (l : List Cm) : (ccs l).length = l.length * 7 := by
  induction l with
  | nil => rfl
  | cons d l ih => simp only [ccs, List.flatMap_cons, List.length_append, List.length_cons] at *; rw [ih]; simp [Cm.csl]; omega
theorem ccs_app (l m : List Cm) : ccs (l ++ m) = ccs l ++ ccs m := by simp [ccs]
theorem ccs_get (l : List Cm) (j : Nat) (d : Cm) (h : l[j]? = some d) (i : Nat) (hi : i < 7) : (ccs l)[j * 7 + i]? = d.csl[i]? := by
  induction l generalizing j with
  | nil => simp at h
  | cons e l ih =>
    have hl : e.csl.length = 7 := rfl
    have ec : ccs (e :: l) = e.csl ++ ccs l := by simp [ccs]
    cases j with
    | zero =>
      simp at h
      subst h
      rw [ec, Nat.zero_mul, Nat.zero_add, List.getElem?_append_left (by omega)]
    | succ j =>
      rw [List.getElem?_cons_succ] at h
      rw [ec, List.getElem?_append_right (by omega), hl, show (j + 1) * 7 + i - 7 = j * 7 + i by omega]
      exact ih j h
def OwnC (w : World) (base : Nat) (v : Value) (l : List Cm) : Prop := w.ownsRow base 38 7 v l.length (ccs l)
theorem OwnC.lt {w : World} {base : Nat} {v : Value} {l : List Cm} (h : OwnC w base v l) : ∀ k, v.ownBlock = some k → base ≤ k ∧ k < w.heap.size := World.ownsRow.lt h
def CRow (w : World) (b o : Nat) (l : List Cm) : Prop := b < w.heap.size ∧ ∀ (i : Nat) (c : Cm), l[i]? = some c → ∀ (k : Nat) (u : Value), c.csl[k]? = some u → w.cell? ⟨b, o + i * 7 + k, none⟩ = some u
theorem CRow.later {w w' : World} {b o : Nat} {l : List Cm} (h : CRow w b o l) (hb : Below w.heap.size w w') : CRow w' b o l :=
  ⟨Nat.lt_of_lt_of_le h.1 hb.size, fun i c hc k u hu => by rw [hb.cell (p := ⟨b, _, none⟩) h.1]; exact h.2 i c hc k u hu⟩
structure CsP (w : World) (v : Value) (l : List Cm) : Prop where
  m : (v = .slice none 0 0 ∧ l = []) ∨ ∃ ad cap, v = .slice (some ad) l.length cap ∧ (l = [] ∨ ∃ b o, ad = ⟨b, o, none⟩ ∧ CRow w b o l)
  ok : ∀ c ∈ l, c.ok w
theorem CsP.later {w w' : World} {v : Value} {l : List Cm} (h : CsP w v l) (hb : Below w.heap.size w w') : CsP w' v l := by
  refine ⟨?_, fun c hc => (h.ok c hc).later hb⟩
  rcases h.m with h | ⟨ad, cap, h1, h2⟩
  · exact Or.inl h
  · refine Or.inr ⟨ad, cap, h1, ?_⟩
    rcases h2 with h2 | ⟨b, o, h2, h3⟩
    · exact Or.inl h2
    · exact Or.inr ⟨b, o, h2, h3.later hb⟩
theorem OwnC.nil (w : World) (base : Nat) : OwnC w base (.slice none 0 0) [] := World.ownsRow_nil _ _ _ _
theorem OwnC.later {w w' : World} {base : Nat} {v : Value} {l : List Cm} (h : OwnC w base v l) (hb : Below w.heap.size w w') : OwnC w' base v l := by
  refine ⟨h.1, ?_⟩
  rcases h.2 with hn | ⟨g, cap, cur, hv, hbb, hg, rest⟩
  · exact Or.inl hn
  · exact Or.inr ⟨g, cap, cur, hv, hbb, (hb.block g (Array.getElem?_eq_some_iff.1 hg).1).trans hg, rest⟩
theorem OwnC.form {w : World} {base : Nat} {v : Value} {l : List Cm} (h : OwnC w base v l) : ∃ a cap, v = .slice a l.length cap := by
  rcases h.2 with ⟨rfl, hn⟩ | ⟨g, cap, cur, hv, _⟩
  · exact ⟨none, 0, by rw [hn]⟩
  · exact ⟨_, cap, hv⟩
theorem csl_one {c : Cm} {w : World} (h : c.ok w) : ∀ u ∈ c.csl, u.oneCell' = true := by
  obtain ⟨⟨a, n, cp, e1⟩, ⟨a', cp', e2⟩, ⟨a'', cp'', e3⟩, -, -⟩ := h.shape
  intro u hu
  simp only [Cm.csl, e1, e2, e3] at hu
  simp at hu
  rcases hu with rfl | rfl | rfl | rfl | rfl | rfl | rfl <;> rfl
theorem Try.infoClause : (Try.prog.info? 38).map (fun i => (i.zero, i.size, i.bytes)) = some (some (.agg #[.int .i64 0, .int .i64 0, .string ⟨#[]⟩, .string ⟨#[]⟩, .slice none 0 0, .slice none 0 0, .slice none 0 0]), 7, 120) := by kernel_rfl
theorem capp_one {ops : Array Oper} {rest : List Oper} {o : Oper} {a : Act} {Q : Exit → Act → World → Prop} {w : World} (hgd : o.guard = none) (s x : Operand)
    (ho : o.op = .call { callee := .builtin .append, args := #[s, x], argTypes := #[22, 22] }) (base : Nat) (v : Value) (l : List Cm) (hs : a.eval s = v) (hown : OwnC w base v l)
    (b : Nat) (y : Cm) (hx : a.eval x = .slice (some ⟨b, 0, none⟩) 1 1) (hblk : CBlk w b y.cs 38) {W : World} (h1c : y.ok W) (hlen : l.length ≤ 1000000000000) (hbase : base ≤ w.heap.size)
    (h : ∀ v' w', OwnC w' base v' (l ++ [y]) → Below base w w' → w.grownBy w' v.ownBlock → (∀ k, v'.ownBlock = some k → v.ownBlock = some k ∨ w.heap.size ≤ k) → wpList Try.prog ops Q rest (a.put o.dst v') w') : wpList Try.prog ops Q (o :: rest) a w := by
  obtain ⟨i0, hi0, hz0, hz1, hz2⟩ := info_parts Try.infoClause
  refine wpList_append_lies _ hgd s x 22 ho base 38 i0 _ 7 120 Try.underlying22 hi0 hz0 hz1 hz2 rfl (by omega) v l.length (ccs l) hs hown ⟨b, 0, none⟩ 1 1 (ccs [y]) hx (by rw [ccs_len]; rfl) ?_ (fun u hu => by obtain ⟨z, hz, hu⟩ := List.mem_flatMap.1 hu; rw [List.mem_singleton] at hz; subst hz; exact csl_one h1c u hu) (by omega) (by unfold maxLen; omega) (by omega) hbase _ rfl ?_
  · intro j u hj
    have := World.news_of_block (cs := y.cs) (t := 38) (fr := (0, 0)) hblk j u
    exact this (by simpa [ccs, Cm.csl] using hj)
  · intro g cap w' h1 h2 h3 h4
    refine h _ w' ?_ (grown_below3 h2 (fun k hk => (World.ownsRow.lt hown k hk).1) hbase) h2 (fun k hk => by cases hk; exact h3.imp id (fun e => Nat.le_of_eq e.symm))
    unfold OwnC
    rw [List.length_append, ccs_app]
    exact h1
theorem OwnC.mono {w : World} {b b' : Nat} {v : Value} {l : List Cm} (h : OwnC w b v l) (hb : b' ≤ b) : OwnC w b' v l := by
  refine ⟨h.1, ?_⟩
  rcases h.2 with hn | ⟨g, cap, cur, hv, hbb, hg, rest⟩
  · exact Or.inl hn
  · exact Or.inr ⟨g, cap, cur, hv, Nat.le_trans hb hbb, hg, rest⟩
theorem OwnC.adr {w : World} {base n cap j : Nat} {a : Option Addr} {l : List Cm} {c : Cm} (h : OwnC w base (.slice a n cap) l) (hc : l[j]? = some c) : ∃ b o, a = some ⟨b, o, none⟩ ∧ CRow w b o l := by
  rcases h.2 with ⟨-, hn⟩ | ⟨g', cap', cur, hv, hb, hg, hn, hcc, hs, ht⟩
  · have := (List.getElem?_eq_some_iff.1 hc).1; omega
  · simp only [Value.slice.injEq] at hv
    obtain ⟨rfl, -, rfl⟩ := hv
    refine ⟨g', 0, rfl, (Array.getElem?_eq_some_iff.1 hg).1, fun i d hd k u hu => ?_⟩
    have hk : k < 7 := by have := (List.getElem?_eq_some_iff.1 hu).1; simpa [Cm.csl] using this
    have hi := (List.getElem?_eq_some_iff.1 hd).1
    have h1 : (cur.toList.take (l.length * 7))[i * 7 + k]? = (ccs l)[i * 7 + k]? := by rw [ht]
    rw [List.getElem?_take_of_lt (by omega), ccs_get l i d hd k hk, hu] at h1
    rw [Nat.zero_add, cell_of_row _ _ _ _ _ _ hg]
    simpa using h1
theorem CRow.seven {w : World} {b o j : Nat} {l : List Cm} {c : Cm} (h : CRow w b o l) (hc : l[j]? = some c) :
    w.cell? ⟨b, o + j * 7, none⟩ = some (.int .i64 c.head.1.by_.k) ∧ w.cell? ⟨b, o + j * 7 + 1, none⟩ = some (.int .i64 c.head.1.by_.n) ∧ w.cell? ⟨b, o + j * 7 + 2, none⟩ = some (.string c.head.1.by_.s) ∧ w.cell? ⟨b, o + j * 7 + 3, none⟩ = some (.string c.head.1.name) ∧
      w.cell? ⟨b, o + j * 7 + 4, none⟩ = some c.head.2 ∧ w.cell? ⟨b, o + j * 7 + 5, none⟩ = some c.bv ∧ w.cell? ⟨b, o + j * 7 + 6, none⟩ = some c.tv :=
  ⟨h.2 j c hc 0 _ rfl, h.2 j c hc 1 _ rfl, h.2 j c hc 2 _ rfl, h.2 j c hc 3 _ rfl, h.2 j c hc 4 _ rfl, h.2 j c hc 5 _ rfl, h.2 j c hc 6 _ rfl⟩
theorem CsP.form {w : World} {v : Value} {l : List Cm} (h : CsP w v l) : ∃ a cap, v = .slice a l.length cap := by
  rcases h.m with ⟨rfl, rfl⟩ | ⟨ad, cap, rfl, -⟩
  · exact ⟨none, 0, rfl⟩
  · exact ⟨_, cap, rfl⟩
/-- A clause that lies from block B on. -/
def KpC (B : Nat) (X : World) (d : Cm) : Prop := ∀ Y : World, X.heap.size ≤ Y.heap.size → (∀ b, B ≤ b → b < X.heap.size → Y.heap[b]? = X.heap[b]?) → d.ok Y
theorem KpC.ok {B : Nat} {X : World} {d : Cm} (h : KpC B X d) : d.ok X := h X (Nat.le_refl _) fun _ _ _ => rfl
/-- A list of clauses that the call makes; they stay wherever the blocks but the list's own stay. -/
structure OutC (B : Nat) (X : World) (v : Value) (l : List Cm) : Prop where
  o : OwnC X B v l
  s : ∀ c ∈ l, ∀ Y : World, X.grownBy Y v.ownBlock → c.ok Y
theorem OutC.nil (B : Nat) (X : World) : OutC B X (.slice none 0 0) [] := ⟨OwnC.nil _ _, fun c hc => by cases hc⟩
theorem grown_of {X Y : World} (h : Below X.heap.size X Y) (row : Option Nat) : X.grownBy Y row := ⟨h.os, h.tape, h.output, h.size, fun k hk _ => h.block k hk⟩
theorem OutC.later {B : Nat} {X X' : World} {v : Value} {l : List Cm} (h : OutC B X v l) (hb : Below X.heap.size X X') : OutC B X' v l :=
  ⟨h.o.later hb, fun c hc Y hY => h.s c hc Y ((grown_of hb _).trans hY)⟩
theorem OutC.mono {B B' : Nat} {X : World} {v : Value} {l : List Cm} (h : OutC B X v l) (hb : B' ≤ B) : OutC B' X v l := ⟨h.o.mono hb, h.s⟩
theorem OutC.add {B : Nat} {X X' : World} {v v' : Value} {l : List Cm} {d : Cm} (H : OutC B X v l) (hd : ∀ Y, X.grownBy Y v.ownBlock → d.ok Y) (hown : OwnC X' B v' (l ++ [d])) (hg : X.grownBy X' v.ownBlock)
    (ha : ∀ k, v'.ownBlock = some k → v.ownBlock = some k ∨ X.heap.size ≤ k) : OutC B X' v' (l ++ [d]) :=
  ⟨hown, fun c hc Y hY => by
    have hG : X.grownBy Y v.ownBlock := hg.andThen hY fun k hk => (ha k hk).symm
    rcases List.mem_append.1 hc with hc | hc
    · exact H.s c hc Y hG
    · rw [List.mem_singleton] at hc; subst hc; exact hd Y hG⟩
theorem OutC.csp {B : Nat} {X : World} {v : Value} {l : List Cm} (h : OutC B X v l) : CsP X v l := by
  refine ⟨?_, fun c hc => h.s c hc X (World.grownBy.refl _ _)⟩
  have hf := h.o.form
  rcases h.o.2 with ⟨rfl, hn⟩ | ⟨g, cap, cur, hv, -⟩
  · exact Or.inl ⟨rfl, List.length_eq_zero_iff.1 hn⟩
  · refine Or.inr ⟨⟨g, 0, none⟩, cap, hv, ?_⟩
    cases l with
    | nil => exact Or.inl rfl
    | cons c l =>
      have ho := h.o
      rw [hv] at ho
      obtain ⟨b, o, e, hr⟩ := ho.adr (j := 0) (c := c) rfl
      exact Or.inr ⟨b, o, Option.some.inj e, hr⟩
end Go.Proofs.Ytelcoihmiglceaa

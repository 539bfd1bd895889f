import Derived.Test.YtcejljehjhlonaaGreatDoorCP0
import Derived.Test.YtcejljehjhlonaaGreatDoorCL28
namespace Go.Proofs.YtcejljehjhlonaaGreatDoor
open Go.RowKit

def Ns (w : World) (v : Value) (h : List Int) : Prop := ∃ a cap, v = .slice a h.length cap /\ h.length < 1000000000000000000 /\ (h = [] ∨ ∃ b o, a = some ⟨b, o, none⟩ /\ b < w.heap.size /\ ∀ (i : Nat) (x : Int), h[i]? = some x -> w.cell? ⟨b, o + i, none⟩ = some (.int .i64 x))
theorem Ns.later {w w' : World} {v : Value} {l : List Int} (h : Ns w v l) (hb : Below w.heap.size w w') : Ns w' v l := by
 obtain ⟨a, cap, rfl, hl, h⟩ := h
 refine ⟨a, cap, rfl, hl, h.imp id ?_⟩
 rintro ⟨b, o, rfl, h2, h3⟩
 exact ⟨b, o, rfl, Nat.lt_of_lt_of_le h2 hb.size, fun i x hx => cell_step hb h2 (h3 i x hx)⟩
structure St where
 rule : Int
 vals : List Tm
 vv : Value
 uses : List Int
 uv : Value
abbrev St.v (s : St) : Value := .agg #[.int .i64 s.rule, s.vv, s.uv]
abbrev St.cs (s : St) : Array Value := #[.int .i64 s.rule, s.vv, s.uv]
def St.csl (s : St) : List Value := s.cs.toList
abbrev Sk := Int × List Tm × List Int
def St.key (s : St) : Sk := (s.rule, s.vals, s.uses)
structure St.ok (w : World) (s : St) : Prop where
 t : Ts w s.vv s.vals
 u : Ns w s.uv s.uses
theorem St.ok.later {w w' : World} {s : St} (h : s.ok w) (hb : Below w.heap.size w w') : s.ok w' := ⟨h.t.later hb, h.u.later hb⟩
theorem St.ok.shape {w : World} {s : St} (h : s.ok w) : (∃ a cap, s.vv = .slice a s.vals.length cap) /\ (∃ a cap, s.uv = .slice a s.uses.length cap) /\ s.vals.length < 1000000000000000000 /\ s.uses.length < 1000000000000000000 := by
 obtain ⟨⟨a, c, e, l, -⟩, ⟨a', c', e', l', -⟩⟩ := h
 exact ⟨⟨a, c, e⟩, ⟨a', c', e'⟩, l, l'⟩
def scs (l : List St) : List Value := l.flatMap St.csl
theorem scs_len (l : List St) : (scs l).length = l.length * 3 := by
 induction l with
 | nil => rfl
 | cons d l ih => simp only [scs, List.flatMap_cons, List.length_append, List.length_cons] at *; rw [ih]; simp [St.csl]; omega
theorem scs_app (l m : List St) : scs (l ++ m) = scs l ++ scs m := by simp [scs]
theorem scs_get (l : List St) (j : Nat) (d : St) (h : l[j]? = some d) (i : Nat) (hi : i < 3) : (scs l)[j * 3 + i]? = d.csl[i]? := by
 induction l generalizing j with
 | nil => simp at h
 | cons e l ih =>
  have hl : e.csl.length = 3 := rfl
  have ec : scs (e :: l) = e.csl ++ scs l := by simp [scs]
  cases j with
  | zero =>
   simp at h
   subst h
   rw [ec, Nat.zero_mul, Nat.zero_add, List.getElem?_append_left (by omega)]
  | succ j =>
   rw [List.getElem?_cons_succ] at h
   rw [ec, List.getElem?_append_right (by omega), hl, show (j + 1) * 3 + i - 3 = j * 3 + i by omega]
   exact ih j h
def OwnS (w : World) (base : Nat) (v : Value) (l : List St) : Prop := w.ownsRow base 48 3 v l.length (scs l)
def SRow (w : World) (b o : Nat) (l : List St) : Prop := b < w.heap.size /\ ∀ (i : Nat) (c : St), l[i]? = some c -> ∀ (k : Nat) (u : Value), c.csl[k]? = some u -> w.cell? ⟨b, o + i * 3 + k, none⟩ = some u
theorem SRow.later {w w' : World} {b o : Nat} {l : List St} (h : SRow w b o l) (hb : Below w.heap.size w w') : SRow w' b o l :=
 ⟨Nat.lt_of_lt_of_le h.1 hb.size, fun i c hc k u hu => by rw [hb.cell (p := ⟨b, _, none⟩) h.1]; exact h.2 i c hc k u hu⟩
structure SsP (w : World) (v : Value) (l : List St) : Prop where
 m : (v = .slice none 0 0 /\ l = []) ∨ ∃ ad cap, v = .slice (some ad) l.length cap /\ (l = [] ∨ ∃ b o, ad = ⟨b, o, none⟩ /\ SRow w b o l)
 ok : ∀ c ∈ l, c.ok w
theorem SsP.later {w w' : World} {v : Value} {l : List St} (h : SsP w v l) (hb : Below w.heap.size w w') : SsP w' v l := by
 refine ⟨?_, fun c hc => (h.ok c hc).later hb⟩
 rcases h.m with h | ⟨ad, cap, h1, h2⟩
 ·exact Or.inl h
 ·refine Or.inr ⟨ad, cap, h1, ?_⟩
  rcases h2 with h2 | ⟨b, o, h2, h3⟩
  ·exact Or.inl h2
  ·exact Or.inr ⟨b, o, h2, h3.later hb⟩
theorem OwnS.nil (w : World) (base : Nat) : OwnS w base (.slice none 0 0) [] := World.ownsRow_nil _ _ _ _
theorem OwnS.later {w w' : World} {base : Nat} {v : Value} {l : List St} (h : OwnS w base v l) (hb : Below w.heap.size w w') : OwnS w' base v l := by
 refine ⟨h.1, ?_⟩
 rcases h.2 with hn | ⟨g, cap, cur, hv, hbb, hg, rest⟩
 ·exact Or.inl hn
 ·exact Or.inr ⟨g, cap, cur, hv, hbb, (hb.block g (Array.getElem?_eq_some_iff.1 hg).1).trans hg, rest⟩
theorem OwnS.form {w : World} {base : Nat} {v : Value} {l : List St} (h : OwnS w base v l) : ∃ a cap, v = .slice a l.length cap := by
 rcases h.2 with ⟨rfl, hn⟩ | ⟨g, cap, cur, hv, _⟩
 ·exact ⟨none, 0, by rw [hn]⟩
 ·exact ⟨_, cap, hv⟩
theorem ssl_one {s : St} {w : World} (h : s.ok w) : ∀ u ∈ s.csl, u.oneCell' = true := by
 obtain ⟨⟨a, cp, e1⟩, ⟨a', cp', e2⟩, -, -⟩ := h.shape
 intro u hu
 simp only [St.csl, e1, e2] at hu
 simp at hu
 rcases hu with rfl | rfl | rfl <;> rfl
theorem Tryz.infoStep : (Tryz.prog.info? 48).map (fun i => (i.zero, i.size, i.bytes)) = some (some (.agg #[.int .i64 0, .slice none 0 0, .slice none 0 0]), 3, 56) := by kernel_rfl
theorem sapp_one {ops : Array Oper} {rest : List Oper} {o : Oper} {a : Act} {Q : Exit -> Act -> World -> Prop} {w : World} (hgd : o.guard = none) (s x : Operand)
  (ho : o.op = .call { callee := .builtin .append, args := #[s, x], argTypes := #[23, 23] }) (base : Nat) (v : Value) (l : List St) (hs : a.eval s = v) (hown : OwnS w base v l)
  (b : Nat) (y : St) (hx : a.eval x = .slice (some ⟨b, 0, none⟩) 1 1) (hblk : CBlk w b y.cs 48) {W : World} (h1c : y.ok W) (hlen : l.length <= 1000000000000) (hbase : base <= w.heap.size)
  (h : ∀ v' w', OwnS w' base v' (l ++ [y]) -> Below base w w' -> w.grownBy w' v.ownBlock -> (∀ k, v'.ownBlock = some k -> v.ownBlock = some k ∨ w.heap.size <= k) -> wpList Tryz.prog ops Q rest (a.put o.dst v') w') : wpList Tryz.prog ops Q (o :: rest) a w := by
 obtain ⟨i0, hi0, hz0, hz1, hz2⟩ := info_parts Tryz.infoStep
 refine wpList_append_lies _ hgd s x 23 ho base 48 i0 _ 3 56 Tryz.underlying23 hi0 hz0 hz1 hz2 rfl (by omega) v l.length (scs l) hs hown ⟨b, 0, none⟩ 1 1 (scs [y]) hx (by rw [scs_len]; rfl) ?_ (fun u hu => by obtain ⟨z, hz, hu⟩ := List.mem_flatMap.1 hu; rw [List.mem_singleton] at hz; subst hz; exact ssl_one h1c u hu) (by omega) (by unfold maxLen; omega) (by omega) hbase _ rfl ?_
 ·intro j u hj
  have := World.news_of_block (cs := y.cs) (t := 48) (fr := (0, 0)) hblk j u
  exact this (by simpa [scs, St.csl] using hj)
 ·intro g cap w' h1 h2 h3 h4
  refine h _ w' ?_ (grown_below3 h2 (fun k hk => (World.ownsRow.lt hown k hk).1) hbase) h2 (fun k hk => by cases hk; exact h3.imp id (fun e => Nat.le_of_eq e.symm))
  unfold OwnS
  rw [List.length_append, scs_app]
  exact h1
theorem OwnS.mono {w : World} {b b' : Nat} {v : Value} {l : List St} (h : OwnS w b v l) (hb : b' <= b) : OwnS w b' v l := by
 refine ⟨h.1, ?_⟩
 rcases h.2 with hn | ⟨g, cap, cur, hv, hbb, hg, rest⟩
 ·exact Or.inl hn
 ·exact Or.inr ⟨g, cap, cur, hv, Nat.le_trans hb hbb, hg, rest⟩
theorem OwnS.adr {w : World} {base n cap j : Nat} {a : Option Addr} {l : List St} {c : St} (h : OwnS w base (.slice a n cap) l) (hc : l[j]? = some c) : ∃ b o, a = some ⟨b, o, none⟩ /\ SRow w b o l := by
 rcases h.2 with ⟨-, hn⟩ | ⟨g', cap', cur, hv, hb, hg, hn, hcc, hs, ht⟩
 ·have := (List.getElem?_eq_some_iff.1 hc).1; omega
 ·simp only [Value.slice.injEq] at hv
  obtain ⟨rfl, -, rfl⟩ := hv
  refine ⟨g', 0, rfl, (Array.getElem?_eq_some_iff.1 hg).1, fun i d hd k u hu => ?_⟩
  have hk : k < 3 := by have := (List.getElem?_eq_some_iff.1 hu).1; simpa [St.csl] using this
  have hi := (List.getElem?_eq_some_iff.1 hd).1
  have h1 : (cur.toList.take (l.length * 3))[i * 3 + k]? = (scs l)[i * 3 + k]? := by rw [ht]
  rw [List.getElem?_take_of_lt (by omega), scs_get l i d hd k hk, hu] at h1
  rw [Nat.zero_add, cell_of_row _ _ _ _ _ _ hg]
  simpa using h1
theorem SsP.form {w : World} {v : Value} {l : List St} (h : SsP w v l) : ∃ a cap, v = .slice a l.length cap := by
 rcases h.m with ⟨rfl, rfl⟩ | ⟨ad, cap, rfl, -⟩
 ·exact ⟨none, 0, rfl⟩
 ·exact ⟨_, cap, rfl⟩
theorem SRow.three {w : World} {b o j : Nat} {l : List St} {c : St} (h : SRow w b o l) (hc : l[j]? = some c) :
  w.cell? ⟨b, o + j * 3, none⟩ = some (.int .i64 c.rule) /\ w.cell? ⟨b, o + j * 3 + 1, none⟩ = some c.vv /\ w.cell? ⟨b, o + j * 3 + 2, none⟩ = some c.uv :=
 ⟨h.2 j c hc 0 _ rfl, h.2 j c hc 1 _ rfl, h.2 j c hc 2 _ rfl⟩
theorem SsP.at_ {w : World} {a : Option Addr} {n cap j : Nat} {l : List St} {s : St} (h : SsP w (.slice a n cap) l) (hj : l[j]? = some s) : ∃ b o, a = some ⟨b, o, none⟩ /\ b < w.heap.size /\ SRow w b o l /\ s.ok w := by
 have hne : l ≠ [] := fun e => by rw [e] at hj; simp at hj
 rcases h.m with ⟨-, e⟩ | ⟨ad, cap', e, e' | ⟨b, o, rfl, hr⟩⟩
 ·exact absurd e hne
 ·exact absurd e' hne
 ·simp only [Value.slice.injEq] at e
  exact ⟨b, o, e.1, hr.1, hr, h.ok s (List.mem_of_getElem? hj)⟩
theorem CsP.at_ {w : World} {a : Option Addr} {n cap j : Nat} {l : List Cm} {s : Cm} (h : CsP w (.slice a n cap) l) (hj : l[j]? = some s) : ∃ b o, a = some ⟨b, o, none⟩ /\ b < w.heap.size /\ CRow w b o l /\ s.ok w := by
 have hne : l ≠ [] := fun e => by rw [e] at hj; simp at hj
 rcases h.m with ⟨-, e⟩ | ⟨ad, cap', e, e' | ⟨b, o, rfl, hr⟩⟩
 ·exact absurd e hne
 ·exact absurd e' hne
 ·simp only [Value.slice.injEq] at e
  exact ⟨b, o, e.1, hr.1, hr, h.ok s (List.mem_of_getElem? hj)⟩
structure Kt (t : TypeId) (w w' : World) : Prop where
 size : w.heap.size <= w'.heap.size
 block : ∀ (k : Nat) (c : Array Value) (t' : TypeId) (fr : Nat × Nat), w.heap[k]? = some (.cells c t' fr) -> t' ≠ t -> w'.heap[k]? = some (.cells c t' fr)
theorem Kt.trans {t : TypeId} {a b c : World} (h : Kt t a b) (k : Kt t b c) : Kt t a c := ⟨Nat.le_trans h.size k.size, fun i d t' fr hi ht => k.block i d t' fr (h.block i d t' fr hi ht) ht⟩
theorem Kt.set {t : TypeId} {w : World} {G i : Nat} {cs : Array Value} {v : Value} {fr : Nat × Nat} (h : w.heap[G]? = some (.cells cs t fr)) : Kt t w (w.setCell ⟨G, i, none⟩ v) :=
 ⟨by simp [World.setCell], fun k c t' fr' hk ht => by
  rw [heap_setCell_other _ _ _ _ (show k ≠ G from fun e => by subst e; rw [h] at hk; cases hk; exact ht rfl)]
  exact hk⟩
theorem CBlk.kt {t t' : TypeId} {w w' : World} {g : Nat} {c : Array Value} (h : CBlk w g c t') (hk : Kt t w w') (ht : t' ≠ t) : CBlk w' g c t' := hk.block _ _ _ _ h ht
theorem row_kt {t e : TypeId} {w w' : World} {base n m : Nat} {v : Value} {xs : List Value} (h : w.ownsRow base e n v m xs) (hk : Kt t w w') (ht : e ≠ t) : w'.ownsRow base e n v m xs := by
 refine ⟨h.1, ?_⟩
 rcases h.2 with hn | ⟨g, cap, cur, hv, hbb, hg, rest⟩
 ·exact Or.inl hn
 ·exact Or.inr ⟨g, cap, cur, hv, hbb, hk.block _ _ _ _ hg ht, rest⟩
theorem row_agree {e : TypeId} {w w' : World} {base n m : Nat} {v : Value} {xs : List Value} (h : w.ownsRow base e n v m xs) (hb : ∀ k, v.ownBlock = some k -> w'.heap[k]? = w.heap[k]?) : w'.ownsRow base e n v m xs := by
 refine ⟨h.1, ?_⟩
 rcases h.2 with hn | ⟨g, cap, cur, rfl, hbb, hg, rest⟩
 ·exact Or.inl hn
 ·exact Or.inr ⟨g, cap, cur, rfl, hbb, (hb g rfl).trans hg, rest⟩
theorem row_grown {e : TypeId} {w w' : World} {base n m : Nat} {v : Value} {xs : List Value} (h : w.ownsRow base e n v m xs) (hg : w.grownBy w' v.ownBlock) : Kt e w w' := by
 refine ⟨hg.size, fun k c t fr hk ht => ?_⟩
 rw [hg.block k (Array.getElem?_eq_some_iff.1 hk).1 (fun e => ?_)]
 ·exact hk
 ·rcases h.2 with ⟨rfl, -⟩ | ⟨g, cap, cur, rfl, -, hgg, -⟩
  ·cases e
  ·cases e
   rw [hgg] at hk
   cases hk
   exact ht rfl
def nbs (l : List Int) : List Value := l.map (Value.int .i64)
def OwnN (w : World) (base : Nat) (v : Value) (l : List Int) : Prop := w.ownsRow base 3 1 v l.length (nbs l)
theorem ownN_nil (w : World) (base : Nat) : OwnN w base (.slice none 0 0) [] := World.ownsRow_nil _ _ _ _
theorem OwnN.later {w w' : World} {base : Nat} {v : Value} {l : List Int} (h : OwnN w base v l) (hb : Below w.heap.size w w') : OwnN w' base v l := by
 refine ⟨h.1, ?_⟩
 rcases h.2 with hn | ⟨g, cap, cur, hv, hbb, hg, rest⟩
 ·exact Or.inl hn
 ·exact Or.inr ⟨g, cap, cur, hv, hbb, (hb.block g (Array.getElem?_eq_some_iff.1 hg).1).trans hg, rest⟩
theorem OwnN.mono {w : World} {b b' : Nat} {v : Value} {l : List Int} (h : OwnN w b v l) (hb : b' <= b) : OwnN w b' v l := by
 refine ⟨h.1, ?_⟩
 rcases h.2 with hn | ⟨g, cap, cur, hv, hbb, hg, rest⟩
 ·exact Or.inl hn
 ·exact Or.inr ⟨g, cap, cur, hv, Nat.le_trans hb hbb, hg, rest⟩
theorem OwnN.form {w : World} {base : Nat} {v : Value} {l : List Int} (h : OwnN w base v l) : ∃ a cap, v = .slice a l.length cap := by
 rcases h.2 with ⟨rfl, hn⟩ | ⟨g, cap, cur, hv, _⟩
 ·exact ⟨none, 0, by rw [hn]⟩
 ·exact ⟨_, cap, hv⟩
theorem OwnN.ns {w : World} {base : Nat} {v : Value} {l : List Int} (h : OwnN w base v l) (hl : l.length < 1000000000000000000) : Ns w v l := by
 rcases h.2 with ⟨rfl, hn⟩ | ⟨g, cap, cur, hv, hbb, hg, hn, hc, hs, ht⟩
 ·have : l = [] := List.eq_nil_of_length_eq_zero hn
  subst this
  exact ⟨none, 0, rfl, hl, Or.inl rfl⟩
 ·refine ⟨_, cap, hv, hl, Or.inr ⟨g, 0, rfl, (Array.getElem?_eq_some_iff.1 hg).1, fun i x hx => ?_⟩⟩
  have hi := (List.getElem?_eq_some_iff.1 hx).1
  have h1 : (cur.toList.take (l.length * 1))[i]? = (nbs l)[i]? := by rw [ht]
  rw [List.getElem?_take_of_lt (by omega)] at h1
  simp only [nbs, List.getElem?_map, hx, Option.map_some] at h1
  rw [Nat.zero_add, cell_of_row _ _ _ _ _ _ hg]
  simpa using h1
theorem Tryz.infoInt8 : (Tryz.prog.info? 3).map (fun i => (i.zero, i.size, i.bytes)) = some (some (.int .i64 0), 1, 8) := by kernel_rfl
theorem napp_one {ops : Array Oper} {rest : List Oper} {o : Oper} {a : Act} {Q : Exit -> Act -> World -> Prop} {w : World} (hgd : o.guard = none) (s x : Operand)
  (ho : o.op = .call { callee := .builtin .append, args := #[s, x], argTypes := #[46, 46] }) (base : Nat) (v : Value) (l : List Int) (hs : a.eval s = v) (hown : OwnN w base v l)
  (b : Nat) (y : Int) (hx : a.eval x = .slice (some ⟨b, 0, none⟩) 1 1) (hblk : CBlk w b #[.int .i64 y] 3) (hlen : l.length <= 1000000000000) (hbase : base <= w.heap.size)
  (h : ∀ v' w', OwnN w' base v' (l ++ [y]) -> Below base w w' -> w.grownBy w' v.ownBlock -> (∀ k, v'.ownBlock = some k -> v.ownBlock = some k ∨ w.heap.size <= k) -> wpList Tryz.prog ops Q rest (a.put o.dst v') w') : wpList Tryz.prog ops Q (o :: rest) a w := by
 obtain ⟨i0, hi0, hz0, hz1, hz2⟩ := info_parts Tryz.infoInt8
 refine wpList_append_lies _ hgd s x 46 ho base 3 i0 _ 1 8 Tryz.underlying46 hi0 hz0 hz1 hz2 rfl (by omega) v l.length (nbs l) hs hown ⟨b, 0, none⟩ 1 1 (nbs [y]) hx (by simp [nbs]) ?_ (by simp [nbs, Value.oneCell']) (by omega) (by unfold maxLen; omega) (by omega) hbase _ rfl ?_
 ·intro j u hj
  exact World.news_of_block (cs := #[.int .i64 y]) (t := 3) (fr := (0, 0)) hblk j u (by simpa [nbs] using hj)
 ·intro g cap w' h1 h2 h3 h4
  refine h _ w' ?_ (grown_below3 h2 (fun k hk => (World.ownsRow.lt hown k hk).1) hbase) h2 (fun k hk => by cases hk; exact h3.imp id (fun e => Nat.le_of_eq e.symm))
  unfold OwnN
  rw [List.length_append, show nbs (l ++ [y]) = nbs l ++ nbs [y] by simp [nbs]]
  exact h1
theorem ctwo {w : World} {g : Nat} {a b : Value} {t : TypeId} (h : CBlk w g #[a, b] t) : w.cell? ⟨g, 0, none⟩ = some a /\ w.cell? ⟨g, 1, none⟩ = some b :=
 two_at h 0 a b rfl rfl
end Go.Proofs.YtcejljehjhlonaaGreatDoor

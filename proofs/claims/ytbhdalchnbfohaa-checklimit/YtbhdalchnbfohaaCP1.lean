/-
  Steps in memory. (Written by CP1.py.)
-/
import Derived.Test.YtbhdalchnbfohaaCP0
import Derived.Test.YtbhdalchnbfohaaMD14
namespace Go.Proofs.Ytbhdalchnbfohaa
open Go.RowKit

/-- Numbers in memory. -/
def Ns (w : World) (v : Value) (h : List Int) : Prop := ∃ a cap, v = .slice a h.length cap ∧ h.length < 1000000000000000000 ∧ (h = [] ∨ ∃ b o, a = some ⟨b, o, none⟩ ∧ b < w.heap.size ∧ ∀ (i : Nat) (x : Int), h[i]? = some x → w.cell? ⟨b, o + i, none⟩ = some (.int .i64 x))
theorem Ns.later {w w' : World} {v : Value} {l : List Int} (h : Ns w v l) (hb : Below w.heap.size w w') : Ns w' v l := by
  obtain ⟨a, cap, rfl, hl, h⟩ := h
  refine ⟨a, cap, rfl, hl, h.imp id ?_⟩
  rintro ⟨b, o, rfl, h2, h3⟩
  exact ⟨b, o, rfl, Nat.lt_of_lt_of_le h2 hb.size, fun i x hx => cell_step hb h2 (h3 i x hx)⟩
/-- A step in memory; as plain data. -/
structure St where
  rule : Int
  vals : List Tm
  vv : Value
  uses : List Int
  uv : Value
abbrev St.v (s : St) : Value := .agg #[.int .i64 s.rule, s.vv, s.uv]
abbrev St.cs (s : St) : Array Value := #[.int .i64 s.rule, s.vv, s.uv]
def St.csl (s : St) : List Value := s.cs.toList
abbrev Sk := Int × List Tm × List Int
def St.key (s : St) : Sk := (s.rule, s.vals, s.uses)
structure St.ok (w : World) (s : St) : Prop where
  t : Ts w s.vv s.vals
  u : Ns w s.uv s.uses
theorem St.ok.later {w w' : World} {s : St} (h : s.ok w) (hb : Below w.heap.size w w') : s.ok w' := ⟨h.t.later hb, h.u.later hb⟩
theorem St.ok.shape {w : World} {s : St} (h : s.ok w) : (∃ a cap, s.vv = .slice a s.vals.length cap) ∧ (∃ a cap, s.uv = .slice a s.uses.length cap) ∧ s.vals.length < 1000000000000000000 ∧ s.uses.length < 1000000000000000000 := by
  obtain ⟨⟨a, c, e, l, -⟩, ⟨a', c', e', l', -⟩⟩ := h
  exact ⟨⟨a, c, e⟩, ⟨a', c', e'⟩, l, l'⟩
def scs (l : List St) : List Value := l.flatMap St.csl
theorem scs_len (l : List St) : (scs l).length = l.length * 3 := by
  induction l with
  | nil => rfl
  | cons d l ih => simp only [scs, List.flatMap_cons, List.length_append, List.length_cons] at *; rw [ih]; simp [St.csl]; omega
theorem scs_app (l m : List St) : scs (l ++ m) = scs l ++ scs m := by simp [scs]
theorem scs_get (l : List St) (j : Nat) (d : St) (h : l[j]? = some d) (i : Nat) (hi : i < 3) : (scs l)[j * 3 + i]? = d.csl[i]? := by
  induction l generalizing j with
  | nil => simp at h
  | cons e l ih =>
    have hl : e.csl.length = 3 := rfl
    have ec : scs (e :: l) = e.csl ++ scs l := by simp [scs]
    cases j with
    | zero =>
      simp at h
      subst h
      rw [ec, Nat.zero_mul, Nat.zero_add, List.getElem?_append_left (by omega)]
    | succ j =>
      rw [List.getElem?_cons_succ] at h
      rw [ec, List.getElem?_append_right (by omega), hl, show (j + 1) * 3 + i - 3 = j * 3 + i by omega]
      exact ih j h
def OwnS (w : World) (base : Nat) (v : Value) (l : List St) : Prop := w.ownsRow base 35 3 v l.length (scs l)
theorem OwnS.lt {w : World} {base : Nat} {v : Value} {l : List St} (h : OwnS w base v l) : ∀ k, v.ownBlock = some k → base ≤ k ∧ k < w.heap.size := World.ownsRow.lt h
def SRow (w : World) (b o : Nat) (l : List St) : Prop := b < w.heap.size ∧ ∀ (i : Nat) (c : St), l[i]? = some c → ∀ (k : Nat) (u : Value), c.csl[k]? = some u → w.cell? ⟨b, o + i * 3 + k, none⟩ = some u
theorem SRow.later {w w' : World} {b o : Nat} {l : List St} (h : SRow w b o l) (hb : Below w.heap.size w w') : SRow w' b o l :=
  ⟨Nat.lt_of_lt_of_le h.1 hb.size, fun i c hc k u hu => by rw [hb.cell (p := ⟨b, _, none⟩) h.1]; exact h.2 i c hc k u hu⟩
structure SsP (w : World) (v : Value) (l : List St) : Prop where
  m : (v = .slice none 0 0 ∧ l = []) ∨ ∃ ad cap, v = .slice (some ad) l.length cap ∧ (l = [] ∨ ∃ b o, ad = ⟨b, o, none⟩ ∧ SRow w b o l)
  ok : ∀ c ∈ l, c.ok w
theorem SsP.later {w w' : World} {v : Value} {l : List St} (h : SsP w v l) (hb : Below w.heap.size w w') : SsP w' v l := by
  refine ⟨?_, fun c hc => (h.ok c hc).later hb⟩
  rcases h.m with h | ⟨ad, cap, h1, h2⟩
  · exact Or.inl h
  · refine Or.inr ⟨ad, cap, h1, ?_⟩
    rcases h2 with h2 | ⟨b, o, h2, h3⟩
    · exact Or.inl h2
    · exact Or.inr ⟨b, o, h2, h3.later hb⟩
theorem OwnS.later {w w' : World} {base : Nat} {v : Value} {l : List St} (h : OwnS w base v l) (hb : Below w.heap.size w w') : OwnS w' base v l := by
  refine ⟨h.1, ?_⟩
  rcases h.2 with hn | ⟨g, cap, cur, hv, hbb, hg, rest⟩
  · exact Or.inl hn
  · exact Or.inr ⟨g, cap, cur, hv, hbb, (hb.block g (Array.getElem?_eq_some_iff.1 hg).1).trans hg, rest⟩
theorem ssl_one {s : St} {w : World} (h : s.ok w) : ∀ u ∈ s.csl, u.oneCell' = true := by
  obtain ⟨⟨a, cp, e1⟩, ⟨a', cp', e2⟩, -, -⟩ := h.shape
  intro u hu
  simp only [St.csl, e1, e2] at hu
  simp at hu
  rcases hu with rfl | rfl | rfl <;> rfl
theorem Try.infoStep : (Try.prog.info? 35).map (fun i => (i.zero, i.size, i.bytes)) = some (some (.agg #[.int .i64 0, .slice none 0 0, .slice none 0 0]), 3, 56) := by kernel_rfl
theorem OwnS.adr {w : World} {base n cap j : Nat} {a : Option Addr} {l : List St} {c : St} (h : OwnS w base (.slice a n cap) l) (hc : l[j]? = some c) : ∃ b o, a = some ⟨b, o, none⟩ ∧ SRow w b o l := by
  rcases h.2 with ⟨-, hn⟩ | ⟨g', cap', cur, hv, hb, hg, hn, hcc, hs, ht⟩
  · have := (List.getElem?_eq_some_iff.1 hc).1; omega
  · simp only [Value.slice.injEq] at hv
    obtain ⟨rfl, -, rfl⟩ := hv
    refine ⟨g', 0, rfl, (Array.getElem?_eq_some_iff.1 hg).1, fun i d hd k u hu => ?_⟩
    have hk : k < 3 := by have := (List.getElem?_eq_some_iff.1 hu).1; simpa [St.csl] using this
    have hi := (List.getElem?_eq_some_iff.1 hd).1
    have h1 : (cur.toList.take (l.length * 3))[i * 3 + k]? = (scs l)[i * 3 + k]? := by rw [ht]
    rw [List.getElem?_take_of_lt (by omega), scs_get l i d hd k hk, hu] at h1
    rw [Nat.zero_add, cell_of_row _ _ _ _ _ _ hg]
    simpa using h1
theorem SsP.form {w : World} {v : Value} {l : List St} (h : SsP w v l) : ∃ a cap, v = .slice a l.length cap := by
  rcases h.m with ⟨rfl, rfl⟩ | ⟨ad, cap, rfl, -⟩
  · exact ⟨none, 0, rfl⟩
  · exact ⟨_, cap, rfl⟩
theorem SRow.three {w : World} {b o j : Nat} {l : List St} {c : St} (h : SRow w b o l) (hc : l[j]? = some c) :
    w.cell? ⟨b, o + j * 3, none⟩ = some (.int .i64 c.rule) ∧ w.cell? ⟨b, o + j * 3 + 1, none⟩ = some c.vv ∧ w.cell? ⟨b, o + j * 3 + 2, none⟩ = some c.uv :=
  ⟨h.2 j c hc 0 _ rfl, h.2 j c hc 1 _ rfl, h.2 j c hc 2 _ rfl⟩
/-- A list of steps, at one place. -/
theorem SsP.at_ {w : World} {a : Option Addr} {n cap j : Nat} {l : List St} {s : St} (h : SsP w (.slice a n cap) l) (hj : l[j]? = some s) : ∃ b o, a = some ⟨b, o, none⟩ ∧ b < w.heap.size ∧ SRow w b o l ∧ s.ok w := by
  have hne : l ≠ [] := fun e => by rw [e] at hj; simp at hj
  rcases h.m with ⟨-, e⟩ | ⟨ad, cap', e, e' | ⟨b, o, rfl, hr⟩⟩
  · exact absurd e hne
  · exact absurd e' hne
  · simp only [Value.slice.injEq] at e
    exact ⟨b, o, e.1, hr.1, hr, h.ok s (List.mem_of_getElem? hj)⟩
theorem CsP.at_ {w : World} {a : Option Addr} {n cap j : Nat} {l : List Cm} {s : Cm} (h : CsP w (.slice a n cap) l) (hj : l[j]? = some s) : ∃ b o, a = some ⟨b, o, none⟩ ∧ b < w.heap.size ∧ CRow w b o l ∧ s.ok w := by
  have hne : l ≠ [] := fun e => by rw [e] at hj; simp at hj
  rcases h.m with ⟨-, e⟩ | ⟨ad, cap', e, e' | ⟨b, o, rfl, hr⟩⟩
  · exact absurd e hne
  · exact absurd e' hne
  · simp only [Value.slice.injEq] at e
    exact ⟨b, o, e.1, hr.1, hr, h.ok s (List.mem_of_getElem? hj)⟩
/-- A list of numbers of the call's own. -/
def nbs (l : List Int) : List Value := l.map (Value.int .i64)
theorem ctwo {w : World} {g : Nat} {a b : Value} {t : TypeId} (h : CBlk w g #[a, b] t) : w.cell? ⟨g, 0, none⟩ = some a ∧ w.cell? ⟨g, 1, none⟩ = some b :=
  two_at h 0 a b rfl rfl
end Go.Proofs.Ytbhdalchnbfohaa

import Derived.Test.YtdfdnjkeiddfjaaDoorK4
import Derived.Test.YtdfdnjkeiddfjaaDoorJ4
import Derived.Test.YtdfdnjkeiddfjaaDoorK9
import Derived.Lib.AppendStr
/-
  variable, signOf, endsInRun, growTogether.
-/
namespace Go.Proofs.YtdfdnjkeiddfjaaDoor
open Go.RowKit

def vrb (s : ByteArray) : Bool := !decide (s = ⟨#[]⟩) && (grt (atK_ s 0) && decide (rne s 0 = s.size))
/-- The sign of a kind; nothing of what is none. -/
def sgo (k : Int) : ByteArray := if 0 ≤ k then (signL[k.toNat]?).getD ⟨#[]⟩ else ⟨#[]⟩
end Go.Proofs.YtdfdnjkeiddfjaaDoor
/-
  growTogether, Spell.
-/
namespace Go.Proofs.YtdfdnjkeiddfjaaDoor
open Go.RowKit

theorem cell_stepK {w' w3 : World} {b o : Nat} {v : Value} (h3 : Below w'.heap.size w' w3) (hb : b < w'.heap.size) (hc : w'.cell? ⟨b, o, none⟩ = some v) : w3.cell? ⟨b, o, none⟩ = some v := by
  rw [h3.cell (p := ⟨b, o, none⟩) hb]; exact hc
def itB (n : Int) : ByteArray := ⟨(Lib.itoa n).toArray⟩
/-- What a token is spelled as. -/
def spl (t : Tk) : Option ByteArray :=
  if t.k = 1 then (if wrd t.x = true ∧ t.n = 0 then some t.x else none)
  else if t.k = 2 then (if vrb t.x = true ∧ t.n = 0 then some t.x else none)
  else if t.k = 3 then (if t.n = 0 then some (qtB t.x) else none)
  else if t.k = 4 then (if t.x = ⟨#[]⟩ then some (itB t.n) else none)
  else if ¬ sgo t.k = ⟨#[]⟩ ∧ t.x = ⟨#[]⟩ ∧ t.n = 0 then some (sgo t.k) else none
end Go.Proofs.YtdfdnjkeiddfjaaDoor
/-
  Join.
-/
namespace Go.Proofs.YtdfdnjkeiddfjaaDoor
open Go.RowKit

/-- Tokens that lie in memory. -/
def Ks (w : World) (v : Value) (l : List Tk) : Prop :=
  ∃ a cap, v = .slice a l.length cap ∧ (l = [] ∨ ∃ b o, a = some ⟨b, o, none⟩ ∧ b < w.heap.size ∧ ∀ (i : Nat) (t : Tk), l[i]? = some t → w.cell? ⟨b, o + i * 5, none⟩ = some (.int .i64 t.k) ∧ w.cell? ⟨b, o + i * 5 + 1, none⟩ = some (.string t.x) ∧ w.cell? ⟨b, o + i * 5 + 2, none⟩ = some (.int .i64 t.n) ∧ w.cell? ⟨b, o + i * 5 + 3, none⟩ = some (.int .i64 t.a) ∧ w.cell? ⟨b, o + i * 5 + 4, none⟩ = some (.int .i64 t.e))
theorem Ks.later {w w' : World} {v : Value} {l : List Tk} (h : Ks w v l) (hb : Below w.heap.size w w') : Ks w' v l := by
  obtain ⟨a, cap, rfl, h⟩ := h
  refine ⟨a, cap, rfl, h.imp id ?_⟩
  rintro ⟨b, o, rfl, hlt, hc⟩
  refine ⟨b, o, rfl, Nat.lt_of_lt_of_le hlt hb.size, fun i t ht => ?_⟩
  obtain ⟨h0, h1, h2, h3, h4⟩ := hc i t ht
  exact ⟨cell_stepK hb hlt h0, cell_stepK hb hlt h1, cell_stepK hb hlt h2, cell_stepK hb hlt h3, cell_stepK hb hlt h4⟩
theorem kcs_get (l : List Tk) (i : Nat) (t : Tk) (h : l[i]? = some t) : (kcs l)[i * 5]? = some (.int .i64 t.k) ∧ (kcs l)[i * 5 + 1]? = some (.string t.x) ∧ (kcs l)[i * 5 + 2]? = some (.int .i64 t.n) ∧ (kcs l)[i * 5 + 3]? = some (.int .i64 t.a) ∧ (kcs l)[i * 5 + 4]? = some (.int .i64 t.e) := by
  have hi := (List.getElem?_eq_some_iff.1 h).1
  have e : l = l.take i ++ t :: l.drop (i + 1) := by
    have := (List.getElem?_eq_some_iff.1 h).2
    rw [← this, ← List.drop_eq_getElem_cons hi, List.take_append_drop]
  have hl : (kcs (l.take i)).length = i * 5 := by rw [kcs_len, List.length_take]; omega
  have e2 : kcs l = kcs (l.take i) ++ ([.int .i64 t.k, .string t.x, .int .i64 t.n, .int .i64 t.a, .int .i64 t.e] ++ kcs (l.drop (i + 1))) := by
    conv => lhs; rw [e]
    rw [kcs_app]; rfl
  rw [e2]
  refine ⟨?_, ?_, ?_, ?_, ?_⟩
  all_goals
    rw [List.getElem?_append_right (by omega), hl]
    simp
theorem OwnK.ks {w : World} {base : Nat} {v : Value} {l : List Tk} (h : OwnK w base v l) : Ks w v l := by
  rcases h.2 with ⟨hv, hn⟩ | ⟨g, cap, cur, hv, -, hg, -, -, -, ht⟩
  · have : l = [] := List.eq_nil_of_length_eq_zero hn
    subst this
    exact ⟨none, 0, hv, Or.inl rfl⟩
  · refine ⟨some ⟨g, 0, none⟩, cap, hv, Or.inr ⟨g, 0, rfl, (Array.getElem?_eq_some_iff.1 hg).1, fun i t hi => ?_⟩⟩
    have hc : ∀ (j : Nat) (u : Value), (kcs l)[j]? = some u → w.cell? ⟨g, 0 + j, none⟩ = some u := fun j u hj => by
      have := World.ownsRow.cells h (g := g) (by rw [hv]; rfl) j u hj
      rw [Addr.add_mid] at this
      exact this
    obtain ⟨h0, h1, h2, h3, h4⟩ := kcs_get l i t hi
    exact ⟨hc _ _ h0, hc _ _ h1, hc _ _ h2, hc _ _ h3, hc _ _ h4⟩
def pv (l : List Tk) (i : Nat) : Option Tk := if i = 0 then none else l[i - 1]?
def wt (t : Tk) : Nat := 4 * t.x.size + 32
def wts (l : List Tk) : Nat := (l.map wt).sum
end Go.Proofs.YtdfdnjkeiddfjaaDoor
/-
  head: its text, cut and joined.
-/
namespace Go.Proofs.YtdfdnjkeiddfjaaDoor
open Go.RowKit

def hB : ByteArray := ⟨#[112, 40, 88, 41, 58, 45, 34, 97, 34, 32, 115, 97, 121, 115, 32, 113, 44, 32, 88, 60, 61, 45, 55, 46]⟩
def hT : List Tk := [⟨1, ⟨#[112]⟩, 0, 0, 1⟩, ⟨6, ⟨#[]⟩, 0, 1, 2⟩, ⟨2, ⟨#[88]⟩, 0, 2, 3⟩, ⟨7, ⟨#[]⟩, 0, 3, 4⟩, ⟨11, ⟨#[]⟩, 0, 4, 6⟩, ⟨3, ⟨#[97]⟩, 0, 6, 9⟩, ⟨5, ⟨#[]⟩, 0, 10, 14⟩, ⟨1, ⟨#[113]⟩, 0, 15, 16⟩, ⟨8, ⟨#[]⟩, 0, 16, 17⟩, ⟨2, ⟨#[88]⟩, 0, 18, 19⟩, ⟨16, ⟨#[]⟩, 0, 19, 21⟩, ⟨4, ⟨#[]⟩, -7, 21, 23⟩, ⟨10, ⟨#[]⟩, 0, 23, 24⟩]
end Go.Proofs.YtdfdnjkeiddfjaaDoor

import Derived.Test.YtelcoihmiglceaaRows
import Derived.WalkKit
import Derived.WalkSpells
import Derived.KernelRfl
import Derived.WalkSmall
import GoSem.Op.String
import Derived.Laws.Strings
import Derived.Laws.Cover1
import Derived.Laws.IdiomStrings
import Derived.Deep.QuietTactic
import Derived.BigQuiet
/-
  Terms: what they are as plain data; Variable, Const, Principal.
-/
namespace Go.Proofs.Ytelcoihmiglceaa
open Go.RowKit

structure Tm where
  k : Int
  n : Int
  s : ByteArray
deriving DecidableEq
abbrev Tm.v (t : Tm) : Value := .agg #[.int .i64 t.k, .int .i64 t.n, .string t.s]
def Tm.var (t : Tm) : Bool := decide (t.k = 3 ∧ 0 ≤ t.n ∧ t.s = ⟨#[]⟩)
def Tm.con (t : Tm) : Bool := decide ((t.k = 1 ∧ t.s = ⟨#[]⟩) ∨ (t.k = 2 ∧ t.n = 0 ∧ t.s.size ≤ 64))
def Tm.prin (t : Tm) : Bool := decide (t.k = 2 ∧ t.n = 0 ∧ t.s.size ≤ 64 ∧ t.s ≠ ⟨#[]⟩)
theorem ret_b {a b : Bool} (h : a = b) : Ending.returned (.bool a) = .returned (.bool b) := by rw [h]
theorem ret_i {a b : Int} (h : a = b) : Ending.returned (.int .i64 a) = .returned (.int .i64 b) := by rw [h]
theorem isE (s : ByteArray) : s.toList.isEmpty = decide (s = ⟨#[]⟩) := by
  obtain ⟨a⟩ := s
  rw [ByteArray.toList_eq]
  rcases a with ⟨l⟩
  cases l <;> simp
theorem below1 (w : World) (o : Obj) : Below w.heap.size w (w.alloc o) := (Below.refl _ _).alloc (Nat.le_refl _) _
theorem below2 (w : World) (o p : Obj) : Below w.heap.size w ((w.alloc o).alloc p) := (below1 w o).alloc (by simp) _

theorem bcell {W w1 : World} (hb : Below W.heap.size W w1) : (∀ b o, b < W.heap.size → w1.cell? ⟨b, o, none⟩ = W.cell? ⟨b, o, none⟩) ∧ (∀ b o, b < W.heap.size → w1.frozen? ⟨b, o, none⟩ = W.frozen? ⟨b, o, none⟩) :=
  ⟨fun b o h => hb.cell (p := ⟨b, o, none⟩) h, fun b o h => hb.frozen (p := ⟨b, o, none⟩) h⟩

set_option maxHeartbeats 400000 in
theorem var_any (t : Tm) (w : World) :
    Calls Try.prog 93 #[t.v] w fun e w' => e = .returned (.bool t.var) ∧ Below w.heap.size w w' := by
  obtain ⟨k, n, s⟩ := t
  unfold Tm.var
  go_enter Try.func93, Try.ntmps93
  go_wp2
  all_goals
    go_ret
    refine ⟨ret_b ?_, below1 _ _⟩
    simp_all [isE]
    try omega
set_option maxHeartbeats 400000 in
theorem con_any (t : Tm) (w : World) :
    Calls Try.prog 45 #[t.v] w fun e w' => e = .returned (.bool t.con) ∧ Below w.heap.size w w' := by
  obtain ⟨k, n, s⟩ := t
  unfold Tm.con
  go_enter Try.func45, Try.ntmps45
  go_wp2
  all_goals
    go_ret
    refine ⟨ret_b ?_, below1 _ _⟩
    simp_all [isE]
    try omega
theorem prin_eq (k n : Int) (s : ByteArray) (h : k = 2) (h' : s ≠ ⟨#[]⟩) : Tm.con ⟨k, n, s⟩ = Tm.prin ⟨k, n, s⟩ := by
  subst h; simp [Tm.con, Tm.prin, h']
theorem prin_no (k n : Int) (s : ByteArray) (h : ¬ (k = 2 ∧ s ≠ ⟨#[]⟩)) : false = Tm.prin ⟨k, n, s⟩ := by
  simp only [Tm.prin, ne_eq, Bool.false_eq, decide_eq_false_iff_not] at *
  exact fun x => h ⟨x.1, x.2.2.2⟩
set_option maxHeartbeats 400000 in
theorem prin_any (t : Tm) (w : World) :
    Calls Try.prog 92 #[t.v] w fun e w' => e = .returned (.bool t.prin) ∧ Below w.heap.size w w' := by
  obtain ⟨k, n, s⟩ := t
  by_cases h1 : k = 2
  · subst h1
    cases h2 : s.toList.isEmpty
    · have h3 : s ≠ ⟨#[]⟩ := by rw [isE] at h2; simpa using h2
      go_enter Try.func92, Try.ntmps92
      go_wp2_with (go_at_call 45; refine (con_any ⟨2, n, s⟩ _).mono ?_; rintro e w1 ⟨rfl, hb⟩)
      go_ret
      exact ⟨ret_b (prin_eq _ _ _ rfl h3), (below1 _ _).trans (hb.mono (by simp))⟩
    · have h3 : s = ⟨#[]⟩ := by rw [isE] at h2; simpa using h2
      go_enter Try.func92, Try.ntmps92
      go_wp2
      go_ret
      exact ⟨ret_b (prin_no _ _ _ (fun x => x.2 h3)), below1 _ _⟩
  · go_enter Try.func92, Try.ntmps92
    go_wp2
    go_ret
    exact ⟨ret_b (prin_no _ _ _ (fun x => h1 x.1)), below1 _ _⟩
end Go.Proofs.Ytelcoihmiglceaa
/-
  Texts in their order, as plain mathematics.
-/
namespace Go.Proofs.Ytelcoihmiglceaa
namespace M

def bl := Go.Op.bytesLess
/-- -1, 0 or 1 of two texts. -/
def sgL (x y : List UInt8) : Int := if bl x y then -1 else if x = y then 0 else 1
def sgI (a b : Int) : Int := if a < b then -1 else if b < a then 1 else 0
def at_ (s : ByteArray) (j : Nat) : Int := if h : j < s.size then (s[j].toNat : Int) else 0
end M
end Go.Proofs.Ytelcoihmiglceaa
/-
  cmp.Compare of numbers and of texts; Compare of terms; the same of the reference.
-/
namespace Go.Proofs.Ytelcoihmiglceaa
open Go.RowKit

/-- Of two terms: by kind, number, text. -/
def Tm.cmp (a b : Tm) : Int := if a.k ≠ b.k then M.sgI a.k b.k else if a.n ≠ b.n then M.sgI a.n b.n else M.sgL a.s.toList b.s.toList
theorem toList_inj {a b : ByteArray} (h : a.toList = b.toList) : a = b := by
  rw [ByteArray.toList_eq, ByteArray.toList_eq] at h
  exact ByteArray.ext (Array.toList_inj.1 h)
end Go.Proofs.Ytelcoihmiglceaa
/-
  Lists of terms in memory; atoms; place, places, sameShape.
-/
namespace Go.Proofs.Ytelcoihmiglceaa
open Go.RowKit

def TRow (w : World) (b o : Nat) (l : List Tm) : Prop :=
  b < w.heap.size ∧ ∀ i t, l[i]? = some t → w.cell? ⟨b, o + i * 3, none⟩ = some (.int .i64 t.k) ∧ w.cell? ⟨b, o + i * 3 + 1, none⟩ = some (.int .i64 t.n) ∧ w.cell? ⟨b, o + i * 3 + 2, none⟩ = some (.string t.s)
/-- The slice value v holds the terms l. -/
def Ts (w : World) (v : Value) (l : List Tm) : Prop :=
  ∃ a cap, v = .slice a l.length cap ∧ l.length < 1000000000000000000 ∧ (l = [] ∨ ∃ b o, a = some ⟨b, o, none⟩ ∧ TRow w b o l)
theorem TRow.later {w w' : World} {b o l} (h : TRow w b o l) (hb : Below w.heap.size w w') : TRow w' b o l :=
  ⟨Nat.lt_of_lt_of_le h.1 hb.size, fun i t ht => by
    have := h.2 i t ht
    rw [hb.cell (p := ⟨b, _, none⟩) h.1, hb.cell (p := ⟨b, _, none⟩) h.1, hb.cell (p := ⟨b, _, none⟩) h.1]; exact this⟩
theorem Ts.later {w w' : World} {v l} (h : Ts w v l) (hb : Below w.heap.size w w') : Ts w' v l := by
  obtain ⟨a, cap, rfl, hl, h⟩ := h
  refine ⟨a, cap, rfl, hl, ?_⟩
  rcases h with h | ⟨b, o, rfl, h⟩
  · exact Or.inl h
  · exact Or.inr ⟨b, o, rfl, h.later hb⟩
structure At where
  by_ : Tm
  name : ByteArray
  args : List Tm
abbrev At.v (a : At) (x : Value) : Value := .agg #[.int .i64 a.by_.k, .int .i64 a.by_.n, .string a.by_.s, .string a.name, x]
def At.pl (a : At) : List Tm := a.by_ :: a.args
def At.ok (w : World) (a : At) (x : Value) : Prop := Ts w x a.args
theorem three {w : World} {g : Nat} {a b c : Value} {t : TypeId} (h : w.heap[g]? = some (.cells #[a, b, c] t (0, 0))) :
    w.cell? ⟨g, 0, none⟩ = some a ∧ w.cell? ⟨g, 1, none⟩ = some b ∧ w.cell? ⟨g, 2, none⟩ = some c ∧ w.frozen? ⟨g, 0, none⟩ = false ∧ w.frozen? ⟨g, 1, none⟩ = false ∧ w.frozen? ⟨g, 2, none⟩ = false :=
  ⟨cell_of_row _ _ _ _ _ _ h, cell_of_row _ _ _ _ _ _ h, cell_of_row _ _ _ _ _ _ h, frozen_of_row _ _ _ _ _ h, frozen_of_row _ _ _ _ _ h, frozen_of_row _ _ _ _ _ h⟩
/-- A bind: a variable's number, and what it stands for. -/
structure Bd where
  x : Int
  to : Tm
deriving DecidableEq
abbrev Bd.v (d : Bd) : Value := .agg #[.int .i64 d.x, .int .i64 d.to.k, .int .i64 d.to.n, .string d.to.s]
def BRow (w : World) (b o : Nat) (l : List Bd) : Prop :=
  b < w.heap.size ∧ ∀ i t, l[i]? = some t → w.cell? ⟨b, o + i * 4, none⟩ = some (.int .i64 t.x) ∧ w.cell? ⟨b, o + i * 4 + 1, none⟩ = some (.int .i64 t.to.k) ∧ w.cell? ⟨b, o + i * 4 + 2, none⟩ = some (.int .i64 t.to.n) ∧ w.cell? ⟨b, o + i * 4 + 3, none⟩ = some (.string t.to.s)
def Bs (w : World) (v : Value) (l : List Bd) : Prop :=
  ∃ a cap, v = .slice a l.length cap ∧ l.length < 1000000000000000000 ∧ (l = [] ∨ ∃ b o, a = some ⟨b, o, none⟩ ∧ BRow w b o l)
theorem BRow.later {w w' : World} {b o l} (h : BRow w b o l) (hb : Below w.heap.size w w') : BRow w' b o l :=
  ⟨Nat.lt_of_lt_of_le h.1 hb.size, fun i t ht => by
    have := h.2 i t ht
    rw [hb.cell (p := ⟨b, _, none⟩) h.1, hb.cell (p := ⟨b, _, none⟩) h.1, hb.cell (p := ⟨b, _, none⟩) h.1, hb.cell (p := ⟨b, _, none⟩) h.1]; exact this⟩
theorem Bs.later {w w' : World} {v l} (h : Bs w v l) (hb : Below w.heap.size w w') : Bs w' v l := by
  obtain ⟨a, cap, rfl, hl, h⟩ := h
  refine ⟨a, cap, rfl, hl, ?_⟩
  rcases h with h | ⟨b, o, rfl, h⟩
  · exact Or.inl h
  · exact Or.inr ⟨b, o, rfl, h.later hb⟩
def zt : Tm := ⟨0, 0, ⟨#[]⟩⟩
end Go.Proofs.Ytelcoihmiglceaa

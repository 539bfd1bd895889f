import Derived.Test.YtdfgijdededolabM1
import Derived.Laws.Cover1
import Derived.Laws.IdiomStrings
import Derived.Deep.QuietTactic
import Derived.BigQuiet
/-
  cmp.Compare of numbers and of texts; Compare of terms; the same of the reference.
-/
namespace Go.Proofs.Ytdfgijdededolab
open Go.RowKit

abbrev sgS (a b : ByteArray) : Int := M.sgL a.toList b.toList
theorem nanI_any (a : Int) (w : World) : Calls Try.prog 72 #[.int .i64 a] w fun e w' => e = .returned (.bool false) ∧ w' = w := by
  go_enter Try.func72, Try.ntmps72
  go_wp2
  go_ret
  exact ⟨ret_b (by simp), rfl⟩
theorem nanS_any (a : ByteArray) (w : World) : Calls Try.prog 71 #[.string a] w fun e w' => e = .returned (.bool false) ∧ w' = w := by
  go_enter Try.func71, Try.ntmps71
  go_wp2
  go_ret
  exact ⟨ret_b (by simp), rfl⟩
theorem cmpI_any (a b : Int) (w : World) : Calls Try.prog 49 #[.int .i64 a, .int .i64 b] w fun e w' => e = .returned (.int .i64 (M.sgI a b)) ∧ w' = w := by
  go_enter Try.func49, Try.ntmps49
  go_wp2_with (go_at_call 72; refine (nanI_any _ _).mono ?_; rintro e w1 ⟨rfl, rfl⟩)
  all_goals go_ret
  all_goals refine ⟨ret_i ?_, rfl⟩
  all_goals (unfold M.sgI; repeat' split) <;> omega
theorem cmpS_any (a b : ByteArray) (w : World) : Calls Try.prog 48 #[.string a, .string b] w fun e w' => e = .returned (.int .i64 (sgS a b)) ∧ w' = w := by
  go_enter Try.func48, Try.ntmps48
  go_wp2_with (go_at_call 71; refine (nanS_any _ _).mono ?_; rintro e w1 ⟨rfl, rfl⟩)
  all_goals go_ret
  all_goals refine ⟨ret_i ?_, rfl⟩
  all_goals (unfold sgS M.sgL M.bl; simp_all)
theorem run_index_at (s : ByteArray) (j : Nat) (hj : j < s.size) (i : Int) (hi : i = j) (w : World) (k : IntKind) : (Instr.index 9 (.string s) (.int k i)).run Try.prog w = .ok (.int .u8 (M.at_ s j)) w := by
  subst hi
  rw [run_index_string w 9 s k _ Try.underlying9, dif_pos (by omega), M.at_lt s j hj]
  rfl
theorem wrap_id (x : Int) (h0 : 0 ≤ x) (h1 : x ≤ 255) : IntKind.i64.wrap x = x := by
  simp only [IntKind.wrap, IntKind.bits, IntKind.signed]
  simp
  omega
/-- Of two terms: by kind, number, text. -/
def Tm.cmp (a b : Tm) : Int := if a.k ≠ b.k then M.sgI a.k b.k else if a.n ≠ b.n then M.sgI a.n b.n else M.sgL a.s.toList b.s.toList
theorem toList_inj {a b : ByteArray} (h : a.toList = b.toList) : a = b := by
  rw [ByteArray.toList_eq, ByteArray.toList_eq] at h
  exact ByteArray.ext (Array.toList_inj.1 h)
theorem Tm.cmp_zero (a b : Tm) : a.cmp b = 0 ↔ a = b := by
  obtain ⟨k, n, s⟩ := a
  obtain ⟨k', n', s'⟩ := b
  unfold Tm.cmp
  by_cases h1 : k = k'
  · by_cases h2 : n = n'
    · simp only [h1, h2, ne_eq, not_true_eq_false, if_false, M.sgL_zero, Tm.mk.injEq, true_and]
      exact ⟨toList_inj, fun e => by rw [e]⟩
    · simp only [h1, h2, ne_eq, not_true_eq_false, not_false_eq_true, if_false, if_true, Tm.mk.injEq, false_and, and_false, iff_false]
      unfold M.sgI; repeat' split
      all_goals omega
  · simp only [h1, ne_eq, not_false_eq_true, if_true, Tm.mk.injEq, false_and, iff_false]
    unfold M.sgI; repeat' split
    all_goals omega
set_option maxHeartbeats 400000 in
theorem compare_any (a b : Tm) (w : World) :
    Calls Try.prog 51 #[a.v, b.v] w fun e w' => e = .returned (.int .i64 (a.cmp b)) ∧ Below w.heap.size w w' := by
  obtain ⟨k, n, s⟩ := a
  obtain ⟨k', n', s'⟩ := b
  go_enter Try.func51, Try.ntmps51
  go_wp2_with (first
    | (go_at_call 49; refine (cmpI_any _ _ _).mono ?_; rintro e w1 ⟨rfl, rfl⟩)
    | (go_at_call 48; refine (cmpS_any _ _ _).mono ?_; rintro e w1 ⟨rfl, rfl⟩))
  all_goals go_ret
  all_goals refine ⟨ret_i ?_, below2 _ _ _⟩
  all_goals unfold Tm.cmp
  all_goals simp_all
  exact ((M.sgL_zero _ _).2 rfl).symm
end Go.Proofs.Ytdfgijdededolab
/-
  Lists of terms in memory; atoms; place, places, sameShape.
-/
namespace Go.Proofs.Ytdfgijdededolab
open Go.RowKit

def TRow (w : World) (b o : Nat) (l : List Tm) : Prop :=
  b < w.heap.size ∧ ∀ i t, l[i]? = some t → w.cell? ⟨b, o + i * 3, none⟩ = some (.int .i64 t.k) ∧ w.cell? ⟨b, o + i * 3 + 1, none⟩ = some (.int .i64 t.n) ∧ w.cell? ⟨b, o + i * 3 + 2, none⟩ = some (.string t.s)
/-- The slice value v holds the terms l. -/
def Ts (w : World) (v : Value) (l : List Tm) : Prop :=
  ∃ a cap, v = .slice a l.length cap ∧ l.length < 1000000000000000000 ∧ (l = [] ∨ ∃ b o, a = some ⟨b, o, none⟩ ∧ TRow w b o l)
theorem TRow.later {w w' : World} {b o l} (h : TRow w b o l) (hb : Below w.heap.size w w') : TRow w' b o l :=
  ⟨Nat.lt_of_lt_of_le h.1 hb.size, fun i t ht => by
    have := h.2 i t ht
    rw [hb.cell (p := ⟨b, _, none⟩) h.1, hb.cell (p := ⟨b, _, none⟩) h.1, hb.cell (p := ⟨b, _, none⟩) h.1]; exact this⟩
theorem Ts.later {w w' : World} {v l} (h : Ts w v l) (hb : Below w.heap.size w w') : Ts w' v l := by
  obtain ⟨a, cap, rfl, hl, h⟩ := h
  refine ⟨a, cap, rfl, hl, ?_⟩
  rcases h with h | ⟨b, o, rfl, h⟩
  · exact Or.inl h
  · exact Or.inr ⟨b, o, rfl, h.later hb⟩
structure At where
  by_ : Tm
  name : ByteArray
  args : List Tm
abbrev At.v (a : At) (x : Value) : Value := .agg #[.int .i64 a.by_.k, .int .i64 a.by_.n, .string a.by_.s, .string a.name, x]
def At.pl (a : At) : List Tm := a.by_ :: a.args
def At.ok (w : World) (a : At) (x : Value) : Prop := Ts w x a.args
theorem ret_t {a b : Tm} (h : a = b) : Ending.returned a.v = .returned b.v := by rw [h]

theorem places_any (a : At) (x : Value) (w : World) (h : Ts w x a.args) :
    Calls Try.prog 50 #[a.v x] w fun e w' => e = .returned (.int .i64 a.pl.length) ∧ Below w.heap.size w w' := by
  obtain ⟨⟨k, n, s⟩, nm, l⟩ := a
  obtain ⟨ad, cap, rfl, hl, -⟩ := h
  simp only at hl
  go_enter Try.func50, Try.ntmps50
  go_wp2
  go_ret
  exact ⟨ret_i (by simp [At.pl]; omega), below1 _ _⟩
set_option maxHeartbeats 400000 in
theorem place_any (a : At) (x : Value) (i : Nat) (t : Tm) (ht : a.pl[i]? = some t) (w : World) (h : Ts w x a.args) :
    Calls Try.prog 52 #[a.v x, .int .i64 i] w fun e w' => e = .returned t.v ∧ Below w.heap.size w w' := by
  obtain ⟨⟨k, n, s⟩, nm, l⟩ := a
  obtain ⟨ad, cap, rfl, hl, h⟩ := h
  simp only at hl
  cases i with
  | zero =>
    simp only [At.pl, List.getElem?_cons_zero, Option.some.injEq] at ht
    subst ht
    go_enter Try.func52, Try.ntmps52
    go_wp2
    exact bodyPost_ret (v := Tm.v ⟨k, n, s⟩) (by simp [results, Try.results52, go_sem]) rfl ⟨rfl, below2 _ _ _⟩
  | succ i =>
    simp only [At.pl, List.getElem?_cons_succ] at ht
    have hi : i < l.length := (List.getElem?_eq_some_iff.1 ht).1
    rcases h with h | ⟨b, o, rfl, hbs, h⟩
    · subst h; simp at hi
    · obtain ⟨c0, c1, c2⟩ := h i t ht
      obtain ⟨k', n', s'⟩ := t
      simp only at c0 c1 c2
      have TT : Hid (l[i]? = some ⟨k', n', s'⟩) := ht
      clear h ht
      have i1 : (0 : Int) ≤ (i : Int) := by omega
      have i2 : (i : Int) < (l.length : Int) := by omega
      have e1 : ((i + 1 : Nat) : Int) - 1 = i := by omega
      go_enter Try.func52, Try.ntmps52
      go_wp2
      exact bodyPost_ret (v := Tm.v ⟨k', n', s'⟩) (by simp [results, Try.results52, go_sem]) rfl ⟨rfl, below2 _ _ _⟩
/-- The shape of two atoms: name and number of arguments. -/
def shB (a b : At) : Bool := a.name.toList == b.name.toList && a.args.length == b.args.length
theorem three {w : World} {g : Nat} {a b c : Value} {t : TypeId} (h : w.heap[g]? = some (.cells #[a, b, c] t (0, 0))) :
    w.cell? ⟨g, 0, none⟩ = some a ∧ w.cell? ⟨g, 1, none⟩ = some b ∧ w.cell? ⟨g, 2, none⟩ = some c ∧ w.frozen? ⟨g, 0, none⟩ = false ∧ w.frozen? ⟨g, 1, none⟩ = false ∧ w.frozen? ⟨g, 2, none⟩ = false :=
  ⟨cell_of_row _ _ _ _ _ _ h, cell_of_row _ _ _ _ _ _ h, cell_of_row _ _ _ _ _ _ h, frozen_of_row _ _ _ _ _ h, frozen_of_row _ _ _ _ _ h, frozen_of_row _ _ _ _ _ h⟩
/-- A bind: a variable's number, and what it stands for. -/
structure Bd where
  x : Int
  to : Tm
deriving DecidableEq
abbrev Bd.v (d : Bd) : Value := .agg #[.int .i64 d.x, .int .i64 d.to.k, .int .i64 d.to.n, .string d.to.s]
def BRow (w : World) (b o : Nat) (l : List Bd) : Prop :=
  b < w.heap.size ∧ ∀ i t, l[i]? = some t → w.cell? ⟨b, o + i * 4, none⟩ = some (.int .i64 t.x) ∧ w.cell? ⟨b, o + i * 4 + 1, none⟩ = some (.int .i64 t.to.k) ∧ w.cell? ⟨b, o + i * 4 + 2, none⟩ = some (.int .i64 t.to.n) ∧ w.cell? ⟨b, o + i * 4 + 3, none⟩ = some (.string t.to.s)
def Bs (w : World) (v : Value) (l : List Bd) : Prop :=
  ∃ a cap, v = .slice a l.length cap ∧ l.length < 1000000000000000000 ∧ (l = [] ∨ ∃ b o, a = some ⟨b, o, none⟩ ∧ BRow w b o l)
theorem BRow.later {w w' : World} {b o l} (h : BRow w b o l) (hb : Below w.heap.size w w') : BRow w' b o l :=
  ⟨Nat.lt_of_lt_of_le h.1 hb.size, fun i t ht => by
    have := h.2 i t ht
    rw [hb.cell (p := ⟨b, _, none⟩) h.1, hb.cell (p := ⟨b, _, none⟩) h.1, hb.cell (p := ⟨b, _, none⟩) h.1, hb.cell (p := ⟨b, _, none⟩) h.1]; exact this⟩
theorem Bs.later {w w' : World} {v l} (h : Bs w v l) (hb : Below w.heap.size w w') : Bs w' v l := by
  obtain ⟨a, cap, rfl, hl, h⟩ := h
  refine ⟨a, cap, rfl, hl, ?_⟩
  rcases h with h | ⟨b, o, rfl, h⟩
  · exact Or.inl h
  · exact Or.inr ⟨b, o, rfl, h.later hb⟩
/-- The first bind for x. -/
def look : List Bd → Int → Option Tm
  | [], _ => none
  | d :: r, x => if d.x = x then some d.to else look r x
def zt : Tm := ⟨0, 0, ⟨#[]⟩⟩
def lookT (l : List Bd) (x : Int) : Tm := (look l x).getD zt
def lookB (l : List Bd) (x : Int) : Bool := (look l x).isSome
theorem look_drop (l : List Bd) (x : Int) (i : Nat) (d : Bd) (h : l[i]? = some d) (hd : ¬ d.x = x) : look (l.drop i) x = look (l.drop (i + 1)) x := by
  have hi := (List.getElem?_eq_some_iff.1 h).1
  have e := (List.getElem?_eq_some_iff.1 h).2
  rw [List.drop_eq_getElem_cons hi, e, look, if_neg hd]
theorem look_hit (l : List Bd) (x : Int) (i : Nat) (d : Bd) (h : l[i]? = some d) (hd : d.x = x) : look (l.drop i) x = some d.to := by
  have hi := (List.getElem?_eq_some_iff.1 h).1
  have e := (List.getElem?_eq_some_iff.1 h).2
  rw [List.drop_eq_getElem_cons hi, e, look, if_pos hd]
end Go.Proofs.Ytdfgijdededolab

import Derived.Test.YtdfgijdededolaaM1
import Derived.Laws.Cover1
import Derived.Laws.IdiomStrings
import Derived.Deep.QuietTactic
import Derived.BigQuiet
import Derived.ProofKit
import Derived.OpenShut
import Derived.ShutString
import Derived.ChangeOld
import Derived.Below
import Derived.Lib.SmallJoins
import Derived.Deep.Slices
import Derived.Deep.Strs
import Derived.SizedLaws
/-
  cmp.Compare of numbers and of texts; Compare of terms; the same of the reference.
-/
namespace Go.Proofs.Ytdfgijdededolaa
open Go.RowKit

abbrev sgS (a b : ByteArray) : Int := M.sgL a.toList b.toList
theorem nanI_any (a : Int) (w : World) : Calls Try.prog 80 #[.int .i64 a] w fun e w' => e = .returned (.bool false) ∧ w' = w := by
  go_enter Try.func80, Try.ntmps80
  go_wp2
  go_ret
  exact ⟨ret_b (by simp), rfl⟩
theorem nanS_any (a : ByteArray) (w : World) : Calls Try.prog 79 #[.string a] w fun e w' => e = .returned (.bool false) ∧ w' = w := by
  go_enter Try.func79, Try.ntmps79
  go_wp2
  go_ret
  exact ⟨ret_b (by simp), rfl⟩
theorem cmpI_any (a b : Int) (w : World) : Calls Try.prog 61 #[.int .i64 a, .int .i64 b] w fun e w' => e = .returned (.int .i64 (M.sgI a b)) ∧ w' = w := by
  go_enter Try.func61, Try.ntmps61
  go_wp2_with (go_at_call 80; refine (nanI_any _ _).mono ?_; rintro e w1 ⟨rfl, rfl⟩)
  all_goals go_ret
  all_goals refine ⟨ret_i ?_, rfl⟩
  all_goals (unfold M.sgI; repeat' split) <;> omega
theorem cmpS_any (a b : ByteArray) (w : World) : Calls Try.prog 60 #[.string a, .string b] w fun e w' => e = .returned (.int .i64 (sgS a b)) ∧ w' = w := by
  go_enter Try.func60, Try.ntmps60
  go_wp2_with (go_at_call 79; refine (nanS_any _ _).mono ?_; rintro e w1 ⟨rfl, rfl⟩)
  all_goals go_ret
  all_goals refine ⟨ret_i ?_, rfl⟩
  all_goals (unfold sgS M.sgL M.bl; simp_all)
theorem run_index_at (s : ByteArray) (j : Nat) (hj : j < s.size) (i : Int) (hi : i = j) (w : World) (k : IntKind) : (Instr.index 9 (.string s) (.int k i)).run Try.prog w = .ok (.int .u8 (M.at_ s j)) w := by
  subst hi
  rw [run_index_string w 9 s k _ Try.underlying9, dif_pos (by omega), M.at_lt s j hj]
  rfl
theorem wrap_id (x : Int) (h0 : 0 ≤ x) (h1 : x ≤ 255) : IntKind.i64.wrap x = x := by
  simp only [IntKind.wrap, IntKind.bits, IntKind.signed]
  simp
  omega
/-- Of two terms: by kind, number, text. -/
def Tm.cmp (a b : Tm) : Int := if a.k ≠ b.k then M.sgI a.k b.k else if a.n ≠ b.n then M.sgI a.n b.n else M.sgL a.s.toList b.s.toList
theorem toList_inj {a b : ByteArray} (h : a.toList = b.toList) : a = b := by
  rw [ByteArray.toList_eq, ByteArray.toList_eq] at h
  exact ByteArray.ext (Array.toList_inj.1 h)
theorem Tm.cmp_zero (a b : Tm) : a.cmp b = 0 ↔ a = b := by
  obtain ⟨k, n, s⟩ := a
  obtain ⟨k', n', s'⟩ := b
  unfold Tm.cmp
  by_cases h1 : k = k'
  · by_cases h2 : n = n'
    · simp only [h1, h2, ne_eq, not_true_eq_false, if_false, M.sgL_zero, Tm.mk.injEq, true_and]
      exact ⟨toList_inj, fun e => by rw [e]⟩
    · simp only [h1, h2, ne_eq, not_true_eq_false, not_false_eq_true, if_false, if_true, Tm.mk.injEq, false_and, and_false, iff_false]
      unfold M.sgI; repeat' split
      all_goals omega
  · simp only [h1, ne_eq, not_false_eq_true, if_true, Tm.mk.injEq, false_and, iff_false]
    unfold M.sgI; repeat' split
    all_goals omega
set_option maxHeartbeats 400000 in
theorem compare_any (a b : Tm) (w : World) :
    Calls Try.prog 63 #[a.v, b.v] w fun e w' => e = .returned (.int .i64 (a.cmp b)) ∧ Below w.heap.size w w' := by
  obtain ⟨k, n, s⟩ := a
  obtain ⟨k', n', s'⟩ := b
  go_enter Try.func63, Try.ntmps63
  go_wp2_with (first
    | (go_at_call 61; refine (cmpI_any _ _ _).mono ?_; rintro e w1 ⟨rfl, rfl⟩)
    | (go_at_call 60; refine (cmpS_any _ _ _).mono ?_; rintro e w1 ⟨rfl, rfl⟩))
  all_goals go_ret
  all_goals refine ⟨ret_i ?_, below2 _ _ _⟩
  all_goals unfold Tm.cmp
  all_goals simp_all
  exact ((M.sgL_zero _ _).2 rfl).symm
end Go.Proofs.Ytdfgijdededolaa
/-
  Lists of terms in memory; atoms; place, places, sameShape.
-/
namespace Go.Proofs.Ytdfgijdededolaa
open Go.RowKit

def TRow (w : World) (b o : Nat) (l : List Tm) : Prop :=
  b < w.heap.size ∧ ∀ i t, l[i]? = some t → w.cell? ⟨b, o + i * 3, none⟩ = some (.int .i64 t.k) ∧ w.cell? ⟨b, o + i * 3 + 1, none⟩ = some (.int .i64 t.n) ∧ w.cell? ⟨b, o + i * 3 + 2, none⟩ = some (.string t.s)
/-- The slice value v holds the terms l. -/
def Ts (w : World) (v : Value) (l : List Tm) : Prop :=
  ∃ a cap, v = .slice a l.length cap ∧ l.length < 1000000000000000000 ∧ (l = [] ∨ ∃ b o, a = some ⟨b, o, none⟩ ∧ TRow w b o l)
theorem TRow.later {w w' : World} {b o l} (h : TRow w b o l) (hb : Below w.heap.size w w') : TRow w' b o l :=
  ⟨Nat.lt_of_lt_of_le h.1 hb.size, fun i t ht => by
    have := h.2 i t ht
    rw [hb.cell (p := ⟨b, _, none⟩) h.1, hb.cell (p := ⟨b, _, none⟩) h.1, hb.cell (p := ⟨b, _, none⟩) h.1]; exact this⟩
theorem Ts.later {w w' : World} {v l} (h : Ts w v l) (hb : Below w.heap.size w w') : Ts w' v l := by
  obtain ⟨a, cap, rfl, hl, h⟩ := h
  refine ⟨a, cap, rfl, hl, ?_⟩
  rcases h with h | ⟨b, o, rfl, h⟩
  · exact Or.inl h
  · exact Or.inr ⟨b, o, rfl, h.later hb⟩
structure At where
  by_ : Tm
  name : ByteArray
  args : List Tm
abbrev At.v (a : At) (x : Value) : Value := .agg #[.int .i64 a.by_.k, .int .i64 a.by_.n, .string a.by_.s, .string a.name, x]
def At.pl (a : At) : List Tm := a.by_ :: a.args
def At.ok (w : World) (a : At) (x : Value) : Prop := Ts w x a.args
theorem ret_t {a b : Tm} (h : a = b) : Ending.returned a.v = .returned b.v := by rw [h]

theorem places_any (a : At) (x : Value) (w : World) (h : Ts w x a.args) :
    Calls Try.prog 62 #[a.v x] w fun e w' => e = .returned (.int .i64 a.pl.length) ∧ Below w.heap.size w w' := by
  obtain ⟨⟨k, n, s⟩, nm, l⟩ := a
  obtain ⟨ad, cap, rfl, hl, -⟩ := h
  simp only at hl
  go_enter Try.func62, Try.ntmps62
  go_wp2
  go_ret
  exact ⟨ret_i (by simp [At.pl]; omega), below1 _ _⟩
set_option maxHeartbeats 400000 in
theorem place_any (a : At) (x : Value) (i : Nat) (t : Tm) (ht : a.pl[i]? = some t) (w : World) (h : Ts w x a.args) :
    Calls Try.prog 64 #[a.v x, .int .i64 i] w fun e w' => e = .returned t.v ∧ Below w.heap.size w w' := by
  obtain ⟨⟨k, n, s⟩, nm, l⟩ := a
  obtain ⟨ad, cap, rfl, hl, h⟩ := h
  simp only at hl
  cases i with
  | zero =>
    simp only [At.pl, List.getElem?_cons_zero, Option.some.injEq] at ht
    subst ht
    go_enter Try.func64, Try.ntmps64
    go_wp2
    exact bodyPost_ret (v := Tm.v ⟨k, n, s⟩) (by simp [results, Try.results64, go_sem]) rfl ⟨rfl, below2 _ _ _⟩
  | succ i =>
    simp only [At.pl, List.getElem?_cons_succ] at ht
    have hi : i < l.length := (List.getElem?_eq_some_iff.1 ht).1
    rcases h with h | ⟨b, o, rfl, hbs, h⟩
    · subst h; simp at hi
    · obtain ⟨c0, c1, c2⟩ := h i t ht
      obtain ⟨k', n', s'⟩ := t
      simp only at c0 c1 c2
      have TT : Hid (l[i]? = some ⟨k', n', s'⟩) := ht
      clear h ht
      have i1 : (0 : Int) ≤ (i : Int) := by omega
      have i2 : (i : Int) < (l.length : Int) := by omega
      have e1 : ((i + 1 : Nat) : Int) - 1 = i := by omega
      go_enter Try.func64, Try.ntmps64
      go_wp2
      exact bodyPost_ret (v := Tm.v ⟨k', n', s'⟩) (by simp [results, Try.results64, go_sem]) rfl ⟨rfl, below2 _ _ _⟩
/-- The shape of two atoms: name and number of arguments. -/
def shB (a b : At) : Bool := a.name.toList == b.name.toList && a.args.length == b.args.length
theorem three {w : World} {g : Nat} {a b c : Value} {t : TypeId} (h : w.heap[g]? = some (.cells #[a, b, c] t (0, 0))) :
    w.cell? ⟨g, 0, none⟩ = some a ∧ w.cell? ⟨g, 1, none⟩ = some b ∧ w.cell? ⟨g, 2, none⟩ = some c ∧ w.frozen? ⟨g, 0, none⟩ = false ∧ w.frozen? ⟨g, 1, none⟩ = false ∧ w.frozen? ⟨g, 2, none⟩ = false :=
  ⟨cell_of_row _ _ _ _ _ _ h, cell_of_row _ _ _ _ _ _ h, cell_of_row _ _ _ _ _ _ h, frozen_of_row _ _ _ _ _ h, frozen_of_row _ _ _ _ _ h, frozen_of_row _ _ _ _ _ h⟩
/-- A bind: a variable's number, and what it stands for. -/
structure Bd where
  x : Int
  to : Tm
deriving DecidableEq
abbrev Bd.v (d : Bd) : Value := .agg #[.int .i64 d.x, .int .i64 d.to.k, .int .i64 d.to.n, .string d.to.s]
def BRow (w : World) (b o : Nat) (l : List Bd) : Prop :=
  b < w.heap.size ∧ ∀ i t, l[i]? = some t → w.cell? ⟨b, o + i * 4, none⟩ = some (.int .i64 t.x) ∧ w.cell? ⟨b, o + i * 4 + 1, none⟩ = some (.int .i64 t.to.k) ∧ w.cell? ⟨b, o + i * 4 + 2, none⟩ = some (.int .i64 t.to.n) ∧ w.cell? ⟨b, o + i * 4 + 3, none⟩ = some (.string t.to.s)
def Bs (w : World) (v : Value) (l : List Bd) : Prop :=
  ∃ a cap, v = .slice a l.length cap ∧ l.length < 1000000000000000000 ∧ (l = [] ∨ ∃ b o, a = some ⟨b, o, none⟩ ∧ BRow w b o l)
theorem BRow.later {w w' : World} {b o l} (h : BRow w b o l) (hb : Below w.heap.size w w') : BRow w' b o l :=
  ⟨Nat.lt_of_lt_of_le h.1 hb.size, fun i t ht => by
    have := h.2 i t ht
    rw [hb.cell (p := ⟨b, _, none⟩) h.1, hb.cell (p := ⟨b, _, none⟩) h.1, hb.cell (p := ⟨b, _, none⟩) h.1, hb.cell (p := ⟨b, _, none⟩) h.1]; exact this⟩
theorem Bs.later {w w' : World} {v l} (h : Bs w v l) (hb : Below w.heap.size w w') : Bs w' v l := by
  obtain ⟨a, cap, rfl, hl, h⟩ := h
  refine ⟨a, cap, rfl, hl, ?_⟩
  rcases h with h | ⟨b, o, rfl, h⟩
  · exact Or.inl h
  · exact Or.inr ⟨b, o, rfl, h.later hb⟩
/-- The first bind for x. -/
def look : List Bd → Int → Option Tm
  | [], _ => none
  | d :: r, x => if d.x = x then some d.to else look r x
def zt : Tm := ⟨0, 0, ⟨#[]⟩⟩
def lookT (l : List Bd) (x : Int) : Tm := (look l x).getD zt
def lookB (l : List Bd) (x : Int) : Bool := (look l x).isSome
theorem look_drop (l : List Bd) (x : Int) (i : Nat) (d : Bd) (h : l[i]? = some d) (hd : ¬ d.x = x) : look (l.drop i) x = look (l.drop (i + 1)) x := by
  have hi := (List.getElem?_eq_some_iff.1 h).1
  have e := (List.getElem?_eq_some_iff.1 h).2
  rw [List.drop_eq_getElem_cons hi, e, look, if_neg hd]
theorem look_hit (l : List Bd) (x : Int) (i : Nat) (d : Bd) (h : l[i]? = some d) (hd : d.x = x) : look (l.drop i) x = some d.to := by
  have hi := (List.getElem?_eq_some_iff.1 h).1
  have e := (List.getElem?_eq_some_iff.1 h).2
  rw [List.drop_eq_getElem_cons hi, e, look, if_pos hd]
end Go.Proofs.Ytdfgijdededolaa
/-
  Arguments opened: a term, a list of terms, an atom, a binding.
-/
namespace Go.Proofs.Ytdfgijdededolaa
open Go.ChangeShapes Go.WideShapes Go.ChangeAt Go.RowKit Go.Joins
open Go.ChangeMaps (open_string shut_string)

theorem Try.own : ownKnob Try.prog.godebug = none := by kernel_rfl
theorem Try.laidOut : laidOutB Try.prog = true := by kernel_rfl
theorem Try.cellsTerm : Try.prog.cellsOf 23 = 3 := by kernel_rfl

set_option maxRecDepth 100000 in
theorem open_term {H : Type} {enc : TypeId × Value → H} {W : World} {r : Reach} {b0 base : Nat} {spare : Nat → Bool} {held : Bool} {v : Value} {d : DataW H} {p : List MemPlace}
    (hv : Value.okWide Try.prog W r b0 23 v) (h : DataW.Trod enc Try.prog W base spare held 23 v d p) : ∃ t : Tm, v = t.v ∧ t.s.size ≤ maxLen := by
  obtain ⟨c0, c1, c2, y0, y1, y2, m, rfl, -, -, h0, h1, h2⟩ := open_agg3 Try.underlying23 (by kernel_rfl) Try.cellsTerm hv h
  obtain ⟨k, e0, -, -⟩ := DataW.trod_int Try.underlying3 h0
  obtain ⟨n, e1, -, -⟩ := DataW.trod_int Try.underlying3 h1
  obtain ⟨s, e2, -, hs⟩ := DataW.trod_string Try.underlying9 h2
  simp at e0 e1 e2
  subst e0 e1 e2
  exact ⟨⟨k, n, s⟩, rfl, hs⟩
end Go.Proofs.Ytdfgijdededolaa
/-
  Arguments opened: a list of terms, an atom.
-/
namespace Go.Proofs.Ytdfgijdededolaa
open Go.ChangeShapes Go.WideShapes Go.ChangeAt Go.RowKit Go.Joins Go.Deep

theorem Try.cellsAtom : Try.prog.cellsOf 26 = 5 := by kernel_rfl
theorem Try.cellsInt : Try.prog.cellsOf 3 = 1 := by kernel_rfl
theorem Try.cellsString : Try.prog.cellsOf 9 = 1 := by kernel_rfl
theorem Try.cellsTerms : Try.prog.cellsOf 24 = 1 := by kernel_rfl
theorem Try.bytesTerm : Try.prog.bytesOf 23 = 32 := by kernel_rfl
theorem list3 {α : Type} {l : List α} (h : l.length = 3) : ∃ a b c, l = [a, b, c] := by
  match l, h with
  | [a, b, c], _ => exact ⟨a, b, c, rfl⟩
theorem list5 {α : Type} {l : List α} (h : l.length = 5) : ∃ a b c d e, l = [a, b, c, d, e] := by
  match l, h with
  | [a, b, c, d, e], _ => exact ⟨a, b, c, d, e, rfl⟩
theorem term_of_cells {H : Type} {enc : TypeId × Value → H} {W : World} {base : Nat} {spare : Nat → Bool} {held : Bool} {fuel : Nat} {cs : List Value} {x : DataW H × List MemPlace}
    (h : DataW.trod enc Try.prog W base spare held fuel 23 cs = some x) (hl : cs.length = 3) : ∃ t : Tm, cs = [.int .i64 t.k, .int .i64 t.n, .string t.s] ∧ t.s.size ≤ maxLen := by
  obtain ⟨c0, c1, c2, rfl⟩ := list3 hl
  obtain ⟨y0, y1, y2, n, -, -, h0, h1, h2⟩ := trod_struct3 Try.underlying23 h
  rw [Try.cellsInt] at h0 h1
  rw [Try.cellsString] at h2
  obtain ⟨k, e0, -, -⟩ := DataW.trod_int Try.underlying3 h0
  obtain ⟨m, e1, -, -⟩ := DataW.trod_int Try.underlying3 h1
  obtain ⟨s, e2, -, hs⟩ := DataW.trod_string Try.underlying9 h2
  simp at e0 e1 e2
  subst e0 e1 e2
  exact ⟨⟨k, m, s⟩, rfl, hs⟩
theorem open_terms {H : Type} {enc : TypeId × Value → H} {W : World} {base : Nat} {spare : Nat → Bool} {held : Bool} {fuel : Nat} {cs : List Value} {x : DataW H × List MemPlace}
    (h : DataW.trod enc Try.prog W base spare held fuel 24 cs = some x) (hw : ∀ n ∈ x.1.weights Try.prog 24, n ≤ reachBytes) : ∃ v l, cs = [v] ∧ Ts W v l := by
  rcases open_slice Try.underlying24 h with ⟨rfl, -⟩ | ⟨a, len, cap, m, n, D, Pl, rfl, hba, hlc, hcm, hm, hx, hel⟩
  · exact ⟨_, [], rfl, none, 0, rfl, by simp, Or.inl rfl⟩
  · have hlen : len < 1000000000000000000 := by
      have := hw ((((List.range len).map D).length + ((List.range (m - len)).map fun j => D (len + j)).length) * Try.prog.bytesOf 23) (by rw [hx]; simp [DataW.weights, Try.underlying24])
      rw [Try.bytesTerm] at this
      simp only [List.length_map, List.length_range, reachBytes] at this
      omega
    rw [Try.cellsTerm] at hel
    have hlm : len ≤ m := by rw [hm]; split <;> omega
    have key : ∀ i : Nat, ∃ t : Tm, i < len → W.cell? (a.add (i * 3)) = some (.int .i64 t.k) ∧ W.cell? ((a.add (i * 3)).add 1) = some (.int .i64 t.n) ∧ W.cell? ((a.add (i * 3)).add 2) = some (.string t.s) := fun i => by
      by_cases hi : i < len
      · obtain ⟨cs', h1, h2⟩ := hel i (by omega)
        obtain ⟨-, hl, hc⟩ := World.cells?_some h1
        obtain ⟨t, rfl, -⟩ := term_of_cells h2 hl
        exact ⟨t, fun _ => ⟨hc 0 (by omega), hc 1 (by omega), hc 2 (by omega)⟩⟩
      · exact ⟨zt, fun h => absurd h hi⟩
    obtain ⟨f, hf⟩ := Classical.axiomOfChoice key
    refine ⟨_, (List.range len).map f, rfl, some a, cap, by simp, by simpa using hlen, ?_⟩
    rcases Nat.eq_zero_or_pos len with h0 | h0
    · left; subst h0; rfl
    · right
      obtain ⟨b, off, spot⟩ := a
      have hspot : spot = none := by simpa [Addr.add] using World.cell?_spot (hf 0 h0).1
      subst hspot
      refine ⟨b, off, rfl, ?_, fun i t ht => ?_⟩
      · exact World.block_lt_of_cell? W _ (by have := (hf 0 h0).1; simpa [Addr.add] using this)
      · have hi : i < len := by have := (List.getElem?_eq_some_iff.1 ht).1; simpa using this
        have e : t = f i := by
          rw [List.getElem?_map, List.getElem?_range hi] at ht; simpa using ht.symm
        subst e
        have := hf i hi
        rw [add_plain, add_plain, add_plain] at this
        exact this
set_option maxRecDepth 100000 in
theorem open_atom {H : Type} {enc : TypeId × Value → H} {W : World} {r : Reach} {b0 base : Nat} {spare : Nat → Bool} {held : Bool} {v : Value} {d : DataW H} {p : List MemPlace}
    (hv : Value.okWide Try.prog W r b0 26 v) (h : DataW.Trod enc Try.prog W base spare held 26 v d p) (hw : ∀ n ∈ d.weights Try.prog 26, n ≤ reachBytes) : ∃ (a : At) (x : Value), v = a.v x ∧ Ts W x a.args ∧ a.by_.s.size ≤ maxLen ∧ a.name.size ≤ maxLen := by
  obtain ⟨cs, rfl, hsz⟩ := okWide_struct Try.underlying26 hv
  rw [Try.cellsAtom] at hsz
  obtain ⟨fuel, hf⟩ := h
  obtain ⟨l⟩ := cs
  obtain ⟨c0, c1, c2, c3, c4, rfl⟩ := list5 (by simpa using hsz)
  obtain ⟨y0, y1, y2, n, hd, -, h0, h1, h2⟩ := trod_struct3 Try.underlying26 hf
  rw [Try.cellsTerm] at h0
  rw [Try.cellsString] at h1
  rw [Try.cellsTerms] at h2
  obtain ⟨t, e0, ht⟩ := term_of_cells h0 (by simp [Value.cells])
  obtain ⟨s, e1, -, hs⟩ := DataW.trod_string Try.underlying9 h1
  obtain ⟨x, l, e2, hx⟩ := open_terms h2 (fun m hm => by
    simp only [Prod.mk.injEq] at hd
    refine hw m ?_
    rw [hd.1, DataW.weights, Try.underlying26]
    exact DataW.weights_mem_each (j := 2) rfl rfl m hm)
  simp [Value.cells] at e0 e1 e2
  obtain ⟨rfl, rfl, rfl⟩ := e0
  subst e1 e2
  exact ⟨⟨t, s, l⟩, c4, rfl, hx, ht, hs⟩
end Go.Proofs.Ytdfgijdededolaa

import Derived.Test.YtdfdnjkeiddfjabDoorK4
import Derived.Test.YtdfdnjkeiddfjabDoorJ4
import Derived.Test.YtdfdnjkeiddfjabDoorK9
import Derived.Lib.AppendStr
import Derived.Test.YtdfdnjkeiddfjabDoorK8
/-
  variable, signOf, endsInRun, growTogether.
-/
namespace Go.Proofs.YtdfdnjkeiddfjabDoor
open Go.RowKit

def vrb (s : ByteArray) : Bool := !decide (s = ⟨#[]⟩) && (grt (atK_ s 0) && decide (rne s 0 = s.size))
/-- The sign of a kind; nothing of what is none. -/
def sgo (k : Int) : ByteArray := if 0 ≤ k then (signL[k.toNat]?).getD ⟨#[]⟩ else ⟨#[]⟩
end Go.Proofs.YtdfdnjkeiddfjabDoor
/-
  growTogether, Spell.
-/
namespace Go.Proofs.YtdfdnjkeiddfjabDoor
open Go.RowKit

theorem cell_stepK {w' w3 : World} {b o : Nat} {v : Value} (h3 : Below w'.heap.size w' w3) (hb : b < w'.heap.size) (hc : w'.cell? ⟨b, o, none⟩ = some v) : w3.cell? ⟨b, o, none⟩ = some v := by
  rw [h3.cell (p := ⟨b, o, none⟩) hb]; exact hc
def itB (n : Int) : ByteArray := ⟨(Lib.itoa n).toArray⟩
/-- What a token is spelled as. -/
def spl (t : Tk) : Option ByteArray :=
  if t.k = 1 then (if wrd t.x = true ∧ t.n = 0 then some t.x else none)
  else if t.k = 2 then (if vrb t.x = true ∧ t.n = 0 then some t.x else none)
  else if t.k = 3 then (if t.n = 0 then some (qtB t.x) else none)
  else if t.k = 4 then (if t.x = ⟨#[]⟩ then some (itB t.n) else none)
  else if ¬ sgo t.k = ⟨#[]⟩ ∧ t.x = ⟨#[]⟩ ∧ t.n = 0 then some (sgo t.k) else none
end Go.Proofs.YtdfdnjkeiddfjabDoor
/-
  Join.
-/
namespace Go.Proofs.YtdfdnjkeiddfjabDoor
open Go.RowKit

/-- Tokens that lie in memory. -/
def Ks (w : World) (v : Value) (l : List Tk) : Prop :=
  ∃ a cap, v = .slice a l.length cap ∧ (l = [] ∨ ∃ b o, a = some ⟨b, o, none⟩ ∧ b < w.heap.size ∧ ∀ (i : Nat) (t : Tk), l[i]? = some t → w.cell? ⟨b, o + i * 5, none⟩ = some (.int .i64 t.k) ∧ w.cell? ⟨b, o + i * 5 + 1, none⟩ = some (.string t.x) ∧ w.cell? ⟨b, o + i * 5 + 2, none⟩ = some (.int .i64 t.n) ∧ w.cell? ⟨b, o + i * 5 + 3, none⟩ = some (.int .i64 t.a) ∧ w.cell? ⟨b, o + i * 5 + 4, none⟩ = some (.int .i64 t.e))
theorem Ks.later {w w' : World} {v : Value} {l : List Tk} (h : Ks w v l) (hb : Below w.heap.size w w') : Ks w' v l := by
  obtain ⟨a, cap, rfl, h⟩ := h
  refine ⟨a, cap, rfl, h.imp id ?_⟩
  rintro ⟨b, o, rfl, hlt, hc⟩
  refine ⟨b, o, rfl, Nat.lt_of_lt_of_le hlt hb.size, fun i t ht => ?_⟩
  obtain ⟨h0, h1, h2, h3, h4⟩ := hc i t ht
  exact ⟨cell_stepK hb hlt h0, cell_stepK hb hlt h1, cell_stepK hb hlt h2, cell_stepK hb hlt h3, cell_stepK hb hlt h4⟩
theorem kcs_get (l : List Tk) (i : Nat) (t : Tk) (h : l[i]? = some t) : (kcs l)[i * 5]? = some (.int .i64 t.k) ∧ (kcs l)[i * 5 + 1]? = some (.string t.x) ∧ (kcs l)[i * 5 + 2]? = some (.int .i64 t.n) ∧ (kcs l)[i * 5 + 3]? = some (.int .i64 t.a) ∧ (kcs l)[i * 5 + 4]? = some (.int .i64 t.e) := by
  have hi := (List.getElem?_eq_some_iff.1 h).1
  have e : l = l.take i ++ t :: l.drop (i + 1) := by
    have := (List.getElem?_eq_some_iff.1 h).2
    rw [← this, ← List.drop_eq_getElem_cons hi, List.take_append_drop]
  have hl : (kcs (l.take i)).length = i * 5 := by rw [kcs_len, List.length_take]; omega
  have e2 : kcs l = kcs (l.take i) ++ ([.int .i64 t.k, .string t.x, .int .i64 t.n, .int .i64 t.a, .int .i64 t.e] ++ kcs (l.drop (i + 1))) := by
    conv => lhs; rw [e]
    rw [kcs_app]; rfl
  rw [e2]
  refine ⟨?_, ?_, ?_, ?_, ?_⟩
  all_goals
    rw [List.getElem?_append_right (by omega), hl]
    simp
theorem OwnK.ks {w : World} {base : Nat} {v : Value} {l : List Tk} (h : OwnK w base v l) : Ks w v l := by
  rcases h.2 with ⟨hv, hn⟩ | ⟨g, cap, cur, hv, -, hg, -, -, -, ht⟩
  · have : l = [] := List.eq_nil_of_length_eq_zero hn
    subst this
    exact ⟨none, 0, hv, Or.inl rfl⟩
  · refine ⟨some ⟨g, 0, none⟩, cap, hv, Or.inr ⟨g, 0, rfl, (Array.getElem?_eq_some_iff.1 hg).1, fun i t hi => ?_⟩⟩
    have hc : ∀ (j : Nat) (u : Value), (kcs l)[j]? = some u → w.cell? ⟨g, 0 + j, none⟩ = some u := fun j u hj => by
      have := World.ownsRow.cells h (g := g) (by rw [hv]; rfl) j u hj
      rw [Addr.add_mid] at this
      exact this
    obtain ⟨h0, h1, h2, h3, h4⟩ := kcs_get l i t hi
    exact ⟨hc _ _ h0, hc _ _ h1, hc _ _ h2, hc _ _ h3, hc _ _ h4⟩
def pv (l : List Tk) (i : Nat) : Option Tk := if i = 0 then none else l[i - 1]?
def wt (t : Tk) : Nat := 4 * t.x.size + 32
def wts (l : List Tk) : Nat := (l.map wt).sum
end Go.Proofs.YtdfdnjkeiddfjabDoor
/-
  head: its text, cut and joined.
-/
namespace Go.Proofs.YtdfdnjkeiddfjabDoor
open Go.RowKit

def hB : ByteArray := ⟨#[112, 40, 88, 41, 58, 45, 34, 97, 34, 32, 115, 97, 121, 115, 32, 113, 44, 32, 88, 60, 61, 45, 55, 46]⟩
def hT : List Tk := [⟨1, ⟨#[112]⟩, 0, 0, 1⟩, ⟨6, ⟨#[]⟩, 0, 1, 2⟩, ⟨2, ⟨#[88]⟩, 0, 2, 3⟩, ⟨7, ⟨#[]⟩, 0, 3, 4⟩, ⟨11, ⟨#[]⟩, 0, 4, 6⟩, ⟨3, ⟨#[97]⟩, 0, 6, 9⟩, ⟨5, ⟨#[]⟩, 0, 10, 14⟩, ⟨1, ⟨#[113]⟩, 0, 15, 16⟩, ⟨8, ⟨#[]⟩, 0, 16, 17⟩, ⟨2, ⟨#[88]⟩, 0, 18, 19⟩, ⟨16, ⟨#[]⟩, 0, 19, 21⟩, ⟨4, ⟨#[]⟩, -7, 21, 23⟩, ⟨10, ⟨#[]⟩, 0, 23, 24⟩]
end Go.Proofs.YtdfdnjkeiddfjabDoor
/-
  Fronts and longer texts: the plain mathematics.
-/
namespace Go.Proofs.YtdfdnjkeiddfjabDoor

theorem rl_cons (c : Int) (r : List Int) : rl (c :: r) = if rnb c = true then rl r + 1 else 0 := rfl
theorem rl_take : ∀ (l : List Int) (m : Nat), rl (l.take m) = min (rl l) m
  | [], m => by simp [rl]
  | c :: l, 0 => by simp [rl]
  | c :: l, m + 1 => by
    rw [List.take_succ_cons, rl_cons, rl_cons, rl_take l m]
    split <;> omega
theorem rl_app : ∀ (l m : List Int), rl (l ++ 32 :: m) = rl l
  | [], m => by show rl (32 :: m) = 0; rw [rl_cons, if_neg (by decide)]
  | c :: l, m => by rw [List.cons_append, rl_cons, rl_cons, rl_app l m]
theorem le_cons (c : Int) (r : List Int) : le_ (c :: r) = if c = 10 then 0 else le_ r + 1 := rfl
theorem le_take : ∀ (l : List Int) (m : Nat), le_ (l.take m) = min (le_ l) m
  | [], m => by simp [le_]
  | c :: l, 0 => by simp [le_]
  | c :: l, m + 1 => by
    rw [List.take_succ_cons, le_cons, le_cons, le_take l m]
    split <;> omega
theorem le_app : ∀ (l y : List Int), le_ l < l.length → le_ (l ++ y) = le_ l
  | [], y, h => by simp at h
  | c :: l, y, h => by
    rw [List.cons_append, le_cons, le_cons]
    by_cases q : c = 10
    · rw [if_pos q, if_pos q]
    · rw [if_neg q, if_neg q]
      rw [le_cons, if_neg q] at h
      rw [le_app l y (by simp at h; omega)]
theorem take_app_le (l y : List Int) (n : Nat) (h : n ≤ l.length) : (l ++ y).take n = l.take n := List.take_append_of_le_length h
theorem drop_app_le (l y : List Int) (n : Nat) (h : n ≤ l.length) : (l ++ y).drop n = l.drop n ++ y := List.drop_append_of_le_length h
theorem esc_take {l : List Int} {b : Int} {k : Nat} (h : esc l = some (b, k)) (y : List Int) (hy : l.take k = y.take k) : esc y = some (b, k) := by
  have hr := esc_rng h
  cases l with
  | nil => cases h
  | cons c r =>
    obtain ⟨k, rfl⟩ : ∃ k', k = k' + 1 := ⟨k - 1, by omega⟩
    cases y with
    | nil => simp at hy
    | cons d z =>
      simp only [List.take_succ_cons, List.cons.injEq] at hy
      obtain ⟨rfl, hy⟩ := hy
      rw [esc_cons] at h ⊢
      by_cases q1 : c = 34 ∨ c = 92
      · rw [if_pos q1] at h ⊢; exact h
      · rw [if_neg q1] at h ⊢
        by_cases q2 : c = 110
        · rw [if_pos q2] at h ⊢; exact h
        · rw [if_neg q2] at h ⊢
          by_cases q3 : c = 116
          · rw [if_pos q3] at h ⊢; exact h
          · rw [if_neg q3] at h ⊢
            by_cases q4 : c = 120
            · rw [if_pos q4] at h ⊢
              cases e : hex2 r with
              | none => rw [e] at h; cases h
              | some x =>
                rw [e] at h
                simp only [Option.map_some, Option.some.injEq, Prod.mk.injEq] at h
                obtain ⟨rfl, hk⟩ := h
                obtain rfl : k = 2 := by omega
                match r, z, e, hy with
                | a :: a2 :: r', z, e, hy =>
                  match z, hy with
                  | [], hy => simp at hy
                  | [_], hy => simp at hy
                  | z1 :: z2 :: z', hy =>
                    simp at hy
                    obtain ⟨rfl, rfl⟩ := hy
                    have e2 : hex2 (a :: a2 :: z') = some x := e
                    rw [e2]; rfl
            · rw [if_neg q4] at h; cases h
/-- A quoted text that ends: what stands behind it doesn't matter. -/
theorem qd_ok : ∀ (f : Nat) (r : List Int) (off : Nat) (acc : List Int) (k : Int) (x : List Int) (n : Int) (len : Nat), qd f r off acc = .ok k x n len →
    ∀ (f' : Nat) (y : List Int), y.length < f' → y.take (len - off) = r.take (len - off) → qd f' y off acc = .ok k x n len
  | 0, _, _, _, _, _, _, _, h, _, _, _, _ => by cases h
  | _ + 1, [], _, _, _, _, _, _, h, _, _, _, _ => by cases h
  | f + 1, c :: r, off, acc, k, x, n, len, h, f', y, hf, hy => by
    have hl := (qd_len (f + 1) (c :: r) off acc).1 k x n len h
    obtain ⟨m, hm⟩ : ∃ m, len - off = m + 1 := ⟨len - off - 1, by omega⟩
    rw [hm] at hy
    cases y with
    | nil => simp at hy
    | cons d z =>
      simp only [List.take_succ_cons, List.cons.injEq] at hy
      obtain ⟨rfl, hy⟩ := hy
      obtain ⟨f', rfl⟩ : ∃ g, f' = g + 1 := ⟨f' - 1, by omega⟩
      simp only [List.length_cons] at hf
      rw [qd_cons] at h ⊢
      by_cases q1 : d = 34
      · rw [if_pos q1] at h ⊢; exact h
      · rw [if_neg q1] at h ⊢
        by_cases q2 : d = 92
        · rw [if_pos q2] at h ⊢
          cases ee : esc r with
          | none => rw [ee] at h; cases h
          | some bk =>
            obtain ⟨b, kk⟩ := bk
            rw [ee] at h
            have hr := esc_rng ee
            have hl2 := (qd_len f (r.drop kk) (off + 1 + kk) (acc ++ [b])).1 k x n len h
            have ez : esc z = some (b, kk) := esc_take ee z (by
              have := congrArg (List.take kk) hy
              rw [List.take_take, List.take_take, Nat.min_eq_left (by omega)] at this
              exact this.symm)
            rw [ez]
            refine qd_ok f (r.drop kk) (off + 1 + kk) (acc ++ [b]) k x n len h f' (z.drop kk) (by rw [List.length_drop]; omega) ?_
            have := congrArg (List.drop kk) hy
            rw [List.drop_take, List.drop_take] at this
            rw [show len - (off + 1 + kk) = m - kk by omega]
            exact this
        · rw [if_neg q2] at h ⊢
          by_cases q3 : d < 32 ∨ d = 127
          · rw [if_pos q3] at h; cases h
          · rw [if_neg q3] at h ⊢
            exact qd_ok f r (off + 1) (acc ++ [d]) k x n len h f' z (by omega) (by rw [show len - (off + 1) = m by omega]; exact hy)
/-- A fault inside of a quoted text: what stands ahead of it is a text that didn't end. -/
theorem qd_bad : ∀ (f : Nat) (r : List Int) (off : Nat) (acc : List Int) (e : Int) (o : Nat), qd f r off acc = .bad e o →
    (e = 43 ∧ o = 0) ∨ (e = 44 ∧ off ≤ o ∧ o < off + r.length ∧ ∀ f', r.length < f' → qd f' (r.take (o - off)) off acc = .bad 43 0)
  | 0, _, _, _, _, _, h => by cases h; exact Or.inl ⟨rfl, rfl⟩
  | _ + 1, [], _, _, _, _, h => by cases h; exact Or.inl ⟨rfl, rfl⟩
  | f + 1, c :: r, off, acc, e, o, h => by
    rw [qd_cons] at h
    by_cases q1 : c = 34
    · rw [if_pos q1] at h; cases h
    · rw [if_neg q1] at h
      by_cases q2 : c = 92
      · rw [if_pos q2] at h
        cases ee : esc r with
        | none =>
          rw [ee] at h; cases h
          refine Or.inr ⟨rfl, Nat.le_refl _, by simp, fun f' hf => ?_⟩
          rw [Nat.sub_self, List.take_zero]
          cases f' <;> rfl
        | some bk =>
          obtain ⟨b, kk⟩ := bk
          rw [ee] at h
          have hr := esc_rng ee
          rcases qd_bad f (r.drop kk) (off + 1 + kk) (acc ++ [b]) e o h with h1 | ⟨h1, h2, h3, h4⟩
          · exact Or.inl h1
          · rw [List.length_drop] at h3 h4
            refine Or.inr ⟨h1, by omega, by simp; omega, fun f' hf => ?_⟩
            simp only [List.length_cons] at hf
            obtain ⟨f', rfl⟩ : ∃ g, f' = g + 1 := ⟨f' - 1, by omega⟩
            obtain ⟨m, hm⟩ : ∃ m, o - off = m + 1 := ⟨o - off - 1, by omega⟩
            rw [hm, List.take_succ_cons, qd_cons, if_neg q1, if_pos q2]
            have ez : esc (r.take m) = some (b, kk) := esc_take ee _ (by rw [List.take_take, Nat.min_eq_left (by omega)])
            rw [ez]
            have := h4 f' (by omega)
            rw [show o - (off + 1 + kk) = m - kk by omega] at this
            show qd f' ((r.take m).drop kk) _ _ = _
            rw [List.drop_take]
            exact this
      · rw [if_neg q2] at h
        by_cases q3 : c < 32 ∨ c = 127
        · rw [if_pos q3] at h; cases h
          refine Or.inr ⟨rfl, Nat.le_refl _, by simp, fun f' hf => ?_⟩
          rw [Nat.sub_self, List.take_zero]
          cases f' <;> rfl
        · rw [if_neg q3] at h
          rcases qd_bad f r (off + 1) (acc ++ [c]) e o h with h1 | ⟨h1, h2, h3, h4⟩
          · exact Or.inl h1
          · refine Or.inr ⟨h1, by omega, by simp; omega, fun f' hf => ?_⟩
            simp only [List.length_cons] at hf
            obtain ⟨f', rfl⟩ : ∃ g, f' = g + 1 := ⟨f' - 1, by omega⟩
            obtain ⟨m, hm⟩ : ∃ m, o - off = m + 1 := ⟨o - off - 1, by omega⟩
            rw [hm, List.take_succ_cons, qd_cons, if_neg q1, if_neg q2, if_neg q3]
            have := h4 f' (by omega)
            rw [show o - (off + 1) = m by omega] at this
            exact this
/-- A text that didn't end: whatever the fuel. -/
theorem qd_fuel : ∀ {f : Nat} {r : List Int} {off : Nat} {acc : List Int}, qd f r off acc = .bad 43 0 → ∀ {f' : Nat}, r.length < f → r.length < f' → qd f' r off acc = .bad 43 0
  | 0, _, _, _, _, _, h, _ => by omega
  | _ + 1, [], _, _, _, f', _, _ => by cases f' <;> rfl
  | f + 1, c :: r, off, acc, h, f', hf, hf' => by
    simp only [List.length_cons] at hf hf'
    obtain ⟨f', rfl⟩ : ∃ g, f' = g + 1 := ⟨f' - 1, by omega⟩
    rw [qd_cons] at h ⊢
    by_cases q1 : c = 34
    · rw [if_pos q1] at h; cases h
    · rw [if_neg q1] at h ⊢
      by_cases q2 : c = 92
      · rw [if_pos q2] at h ⊢
        cases ee : esc r with
        | none => rw [ee] at h; cases h
        | some bk =>
          obtain ⟨b, kk⟩ := bk
          rw [ee] at h
          have hr := esc_rng ee
          exact qd_fuel h (by rw [List.length_drop]; omega) (by rw [List.length_drop]; omega)
      · rw [if_neg q2] at h ⊢
        by_cases q3 : c < 32 ∨ c = 127
        · rw [if_pos q3] at h; cases h
        · rw [if_neg q3] at h ⊢
          exact qd_fuel h (by omega) (by omega)
end Go.Proofs.YtdfdnjkeiddfjabDoor

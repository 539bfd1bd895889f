import Derived.Test.YtdfdnjkeiddfjaaDoorK9
import Derived.BigQuiet
import Derived.Test.YtdfdnjkeiddfjaaDoorK4
import Derived.Test.YtdfdnjkeiddfjaaDoorJ4
import Derived.Lib.AppendStr
/-
  ref's hex and escape.
-/
namespace Go.Proofs.YtdfdnjkeiddfjaaDoor
open Go.RowKit

/-- What ref's escape answers at the backslash at j. -/
def qes (s : ByteArray) (j : Nat) : Int × Nat := match esc ((blK s).drop (j + 1)) with
  | some (b, k) => (b, k + 1)
  | none => (0, 0)
theorem hex2_short {l : List Int} (h : l.length < 2) : hex2 l = none := by
  match l, h with
  | [], _ => rfl
  | [_], _ => rfl
end Go.Proofs.YtdfdnjkeiddfjaaDoor
/-
  ref's quoted.
-/
namespace Go.Proofs.YtdfdnjkeiddfjaaDoor
open Go.RowKit

end Go.Proofs.YtdfdnjkeiddfjaaDoor
/-
  variable, signOf, endsInRun, growTogether.
-/
namespace Go.Proofs.YtdfdnjkeiddfjaaDoor
open Go.RowKit

def vrb (s : ByteArray) : Bool := !decide (s = ⟨#[]⟩) && (grt (atK_ s 0) && decide (rne s 0 = s.size))
/-- The sign of a kind; nothing of what is none. -/
def sgo (k : Int) : ByteArray := if 0 ≤ k then (signL[k.toNat]?).getD ⟨#[]⟩ else ⟨#[]⟩
def enr (k : Int) : Bool := decide (k = 1 ∨ k = 2 ∨ k = 5 ∨ k = 4)
def grw (a b : Tk) : Bool := if b.k = 4 then (if b.n < 0 then false else enr a.k) else if b.k = 1 ∨ b.k = 2 ∨ b.k = 5 then enr a.k else if b.k = 13 then decide (a.k = 15) else false
end Go.Proofs.YtdfdnjkeiddfjaaDoor
/-
  growTogether, Spell.
-/
namespace Go.Proofs.YtdfdnjkeiddfjaaDoor
open Go.RowKit

theorem cell_stepK {w' w3 : World} {b o : Nat} {v : Value} (h3 : Below w'.heap.size w' w3) (hb : b < w'.heap.size) (hc : w'.cell? ⟨b, o, none⟩ = some v) : w3.cell? ⟨b, o, none⟩ = some v := by
  rw [h3.cell (p := ⟨b, o, none⟩) hb]; exact hc
def itB (n : Int) : ByteArray := ⟨(Lib.itoa n).toArray⟩
/-- What a token is spelled as. -/
def spl (t : Tk) : Option ByteArray :=
  if t.k = 1 then (if wrd t.x = true ∧ t.n = 0 then some t.x else none)
  else if t.k = 2 then (if vrb t.x = true ∧ t.n = 0 then some t.x else none)
  else if t.k = 3 then (if t.n = 0 then some (qtB t.x) else none)
  else if t.k = 4 then (if t.x = ⟨#[]⟩ then some (itB t.n) else none)
  else if ¬ sgo t.k = ⟨#[]⟩ ∧ t.x = ⟨#[]⟩ ∧ t.n = 0 then some (sgo t.k) else none
theorem strE (x : ByteArray) : (x.toList == []) = decide (x = ⟨#[]⟩) := by rw [← str_dec, emptyL]
theorem isEK (x : ByteArray) : x.toList.isEmpty = decide (x = ⟨#[]⟩) := by
  rw [← strE]; cases x.toList <;> rfl
end Go.Proofs.YtdfdnjkeiddfjaaDoor
/-
  Join.
-/
namespace Go.Proofs.YtdfdnjkeiddfjaaDoor
open Go.RowKit

/-- Tokens that lie in memory. -/
def Ks (w : World) (v : Value) (l : List Tk) : Prop :=
  ∃ a cap, v = .slice a l.length cap ∧ (l = [] ∨ ∃ b o, a = some ⟨b, o, none⟩ ∧ b < w.heap.size ∧ ∀ (i : Nat) (t : Tk), l[i]? = some t → w.cell? ⟨b, o + i * 5, none⟩ = some (.int .i64 t.k) ∧ w.cell? ⟨b, o + i * 5 + 1, none⟩ = some (.string t.x) ∧ w.cell? ⟨b, o + i * 5 + 2, none⟩ = some (.int .i64 t.n) ∧ w.cell? ⟨b, o + i * 5 + 3, none⟩ = some (.int .i64 t.a) ∧ w.cell? ⟨b, o + i * 5 + 4, none⟩ = some (.int .i64 t.e))
theorem Ks.later {w w' : World} {v : Value} {l : List Tk} (h : Ks w v l) (hb : Below w.heap.size w w') : Ks w' v l := by
  obtain ⟨a, cap, rfl, h⟩ := h
  refine ⟨a, cap, rfl, h.imp id ?_⟩
  rintro ⟨b, o, rfl, hlt, hc⟩
  refine ⟨b, o, rfl, Nat.lt_of_lt_of_le hlt hb.size, fun i t ht => ?_⟩
  obtain ⟨h0, h1, h2, h3, h4⟩ := hc i t ht
  exact ⟨cell_stepK hb hlt h0, cell_stepK hb hlt h1, cell_stepK hb hlt h2, cell_stepK hb hlt h3, cell_stepK hb hlt h4⟩
theorem kcs_get (l : List Tk) (i : Nat) (t : Tk) (h : l[i]? = some t) : (kcs l)[i * 5]? = some (.int .i64 t.k) ∧ (kcs l)[i * 5 + 1]? = some (.string t.x) ∧ (kcs l)[i * 5 + 2]? = some (.int .i64 t.n) ∧ (kcs l)[i * 5 + 3]? = some (.int .i64 t.a) ∧ (kcs l)[i * 5 + 4]? = some (.int .i64 t.e) := by
  have hi := (List.getElem?_eq_some_iff.1 h).1
  have e : l = l.take i ++ t :: l.drop (i + 1) := by
    have := (List.getElem?_eq_some_iff.1 h).2
    rw [← this, ← List.drop_eq_getElem_cons hi, List.take_append_drop]
  have hl : (kcs (l.take i)).length = i * 5 := by rw [kcs_len, List.length_take]; omega
  have e2 : kcs l = kcs (l.take i) ++ ([.int .i64 t.k, .string t.x, .int .i64 t.n, .int .i64 t.a, .int .i64 t.e] ++ kcs (l.drop (i + 1))) := by
    conv => lhs; rw [e]
    rw [kcs_app]; rfl
  rw [e2]
  refine ⟨?_, ?_, ?_, ?_, ?_⟩
  all_goals
    rw [List.getElem?_append_right (by omega), hl]
    simp
theorem OwnK.ks {w : World} {base : Nat} {v : Value} {l : List Tk} (h : OwnK w base v l) : Ks w v l := by
  rcases h.2 with ⟨hv, hn⟩ | ⟨g, cap, cur, hv, -, hg, -, -, -, ht⟩
  · have : l = [] := List.eq_nil_of_length_eq_zero hn
    subst this
    exact ⟨none, 0, hv, Or.inl rfl⟩
  · refine ⟨some ⟨g, 0, none⟩, cap, hv, Or.inr ⟨g, 0, rfl, (Array.getElem?_eq_some_iff.1 hg).1, fun i t hi => ?_⟩⟩
    have hc : ∀ (j : Nat) (u : Value), (kcs l)[j]? = some u → w.cell? ⟨g, 0 + j, none⟩ = some u := fun j u hj => by
      have := World.ownsRow.cells h (g := g) (by rw [hv]; rfl) j u hj
      rw [Addr.add_mid] at this
      exact this
    obtain ⟨h0, h1, h2, h3, h4⟩ := kcs_get l i t hi
    exact ⟨hc _ _ h0, hc _ _ h1, hc _ _ h2, hc _ _ h3, hc _ _ h4⟩
theorem Tryd.zeroU8 : ∃ i, Tryd.prog.info? 5 = some i ∧ i.zero = some (.int .u8 0) ∧ i.size = 1 ∧ i.bytes = 1 := by
  obtain ⟨i, z, hi, hz0, hz1, hz2, hz3⟩ := infoU8_parts
  have h : (Tryd.prog.info? 5).bind (·.zero) = some (.int .u8 0) := by kernel_rfl
  rw [hi] at h
  exact ⟨i, hi, h, hz1, hz2⟩
theorem ibs_bl (s : ByteArray) : ibs (blK s) = Lib.strCells s := by simp [ibs, blK, Lib.strCells]
theorem app_str {ops : Array Oper} {rest : List Oper} {o : Oper} {a : Act} {Q : Exit → Act → World → Prop} {w : World} (hgd : o.guard = none) (sl x : Operand)
    (ho : o.op = .call { callee := .builtin .append, args := #[sl, x], argTypes := #[22, 9] }) (base : Nat) (v : Value) (l : List Int) (hs : a.eval sl = v) (hown : OwnB w base v l) (s : ByteArray) (hx : a.eval x = .string s)
    (hlen : l.length + s.size ≤ 100000000) (hbase : base ≤ w.heap.size) (hn : l = [] → v = .slice none 0 0)
    (h : ∀ v' w', OwnB w' base v' (l ++ blK s) → Below base w w' → (l ++ blK s = [] → v' = .slice none 0 0) → wpList Tryd.prog ops Q rest (a.put o.dst v') w') : wpList Tryd.prog ops Q (o :: rest) a w := by
  obtain ⟨i, hi, hz0, hz1, hz2⟩ := Tryd.zeroU8
  refine Lib.wpList_append_own_string _ hgd sl x 22 9 ho base 5 i Tryd.underlying22 Tryd.underlying9 hi hz0 hz1 hz2 v l.length (ibs l) hs hown s hx (by unfold maxLen; omega) (by omega) hbase ?_
  intro v' w' h1 h2 h3
  refine h v' w' ?_ (grown_below h2 (fun k hk => (World.ownsRow.lt hown k hk).1) hbase) (fun e => ?_)
  · unfold OwnB
    rw [List.length_append, bl_len, show ibs (l ++ blK s) = ibs l ++ ibs (blK s) by simp [ibs], ibs_bl]
    exact h1
  · rw [List.append_eq_nil_iff] at e
    exact h3.2 ⟨hn e.1, by rw [← bl_len, e.2]; rfl⟩
/-- What stands between two tokens. -/
def gp (p : Option Tk) (t : Tk) : List Int := match p with
  | some q => if grw q t = true then [32] else []
  | none => []
def jnA : Option Tk → List Tk → List Int → Option (List Int)
  | _, [], acc => some acc
  | p, t :: r, acc => match spl t with
    | none => none
    | some s => jnA (some t) r (acc ++ gp p t ++ blK s)
/-- The tokens' joined text. -/
def jn (l : List Tk) : Option (List Int) := jnA none l []
theorem jnA_no {p : Option Tk} {t : Tk} {r : List Tk} {acc : List Int} (h : spl t = none) : jnA p (t :: r) acc = none := by unfold jnA; rw [h]
theorem jnA_yes {p : Option Tk} {t : Tk} {r : List Tk} {acc : List Int} {s : ByteArray} (h : spl t = some s) : jnA p (t :: r) acc = jnA (some t) r (acc ++ gp p t ++ blK s) := by
  conv => lhs; unfold jnA
  rw [h]
def pv (l : List Tk) (i : Nat) : Option Tk := if i = 0 then none else l[i - 1]?
def wt (t : Tk) : Nat := 4 * t.x.size + 32
def wts (l : List Tk) : Nat := (l.map wt).sum
theorem sgo_size (k : Int) : (sgo k).size ≤ 4 := by
  unfold sgo
  split
  · have : ∀ n : Nat, ((signL[n]?).getD (⟨#[]⟩ : ByteArray)).size ≤ 4 := fun n => by
      rcases Nat.lt_or_ge n 17 with h | h
      · have : ∀ m : Fin 17, ((signL[m.1]?).getD (⟨#[]⟩ : ByteArray)).size ≤ 4 := by decide
        exact this ⟨n, h⟩
      · rw [List.getElem?_eq_none (by rw [signL_len]; exact h)]; exact Nat.zero_le _
    exact this _
  · exact Nat.zero_le _
theorem spl_size {t : Tk} {s : ByteArray} (h : spl t = some s) (h0 : -9223372036854775808 ≤ t.n) (h1 : t.n ≤ 9223372036854775807) : s.size + 1 ≤ wt t := by
  unfold wt
  unfold spl at h
  have hq := qtl_len t.x t.x.size
  have hi := Lib.itoa_length_le t.n h0 h1
  have hg := sgo_size t.k
  split at h
  · split at h
    · cases h; omega
    · cases h
  · split at h
    · split at h
      · cases h; omega
      · cases h
    · split at h
      · split at h
        · cases h
          have e : (qtB t.x).size = (qtl t.x t.x.size).length + 1 := by show (i2b (qtl t.x t.x.size ++ [34])).toArray.size = _; simp [i2b]
          omega
        · cases h
      · split at h
        · split at h
          · cases h
            have e : (itB t.n).size = (Lib.itoa t.n).length := by show (Lib.itoa t.n).toArray.size = _; simp
            omega
          · cases h
        · split at h
          · cases h; omega
          · cases h
/-- A token that can be handed in. -/
def okt (t : Tk) : Prop := t.x.size ≤ 2000000 ∧ -9223372036854775808 ≤ t.n ∧ t.n ≤ 9223372036854775807
end Go.Proofs.YtdfdnjkeiddfjaaDoor
/-
  head: its text, cut and joined.
-/
namespace Go.Proofs.YtdfdnjkeiddfjaaDoor
open Go.RowKit

def hB : ByteArray := ⟨#[112, 40, 88, 41, 58, 45, 34, 97, 34, 32, 115, 97, 121, 115, 32, 113, 44, 32, 88, 60, 61, 45, 55, 46]⟩
def hT : List Tk := [⟨1, ⟨#[112]⟩, 0, 0, 1⟩, ⟨6, ⟨#[]⟩, 0, 1, 2⟩, ⟨2, ⟨#[88]⟩, 0, 2, 3⟩, ⟨7, ⟨#[]⟩, 0, 3, 4⟩, ⟨11, ⟨#[]⟩, 0, 4, 6⟩, ⟨3, ⟨#[97]⟩, 0, 6, 9⟩, ⟨5, ⟨#[]⟩, 0, 10, 14⟩, ⟨1, ⟨#[113]⟩, 0, 15, 16⟩, ⟨8, ⟨#[]⟩, 0, 16, 17⟩, ⟨2, ⟨#[88]⟩, 0, 18, 19⟩, ⟨16, ⟨#[]⟩, 0, 19, 21⟩, ⟨4, ⟨#[]⟩, -7, 21, 23⟩, ⟨10, ⟨#[]⟩, 0, 23, 24⟩]
theorem hT_cut : cutL (blK hB) 100 = (hT, 0, 0) := by kernel_rfl
theorem hT_join : jn hT = some (blK ⟨#[112, 40, 88, 41, 58, 45, 34, 97, 34, 115, 97, 121, 115, 32, 113, 44, 88, 60, 61, 45, 55, 46]⟩) := by kernel_rfl
theorem run_neq_tk (t : Tk) (w : World) : (binOp .neq 43 t.v t.v).run Tryd.prog w = .ok (.bool false) w := by
  obtain ⟨k, x, n, a, e⟩ := t
  go_simp
theorem hT_len : hT.length = 13 := rfl
theorem hT_ok : ∀ t ∈ hT, okt t := by
  intro t ht
  simp only [hT, List.mem_cons, List.not_mem_nil, or_false] at ht
  rcases ht with rfl | rfl | rfl | rfl | rfl | rfl | rfl | rfl | rfl | rfl | rfl | rfl | rfl <;> exact ⟨by decide, by decide, by decide⟩
end Go.Proofs.YtdfdnjkeiddfjaaDoor

import Derived.Test.YtnikmcmkbjjcdaaGreatDoorJ2
import Derived.Laws.OwnMore
import Derived.Deep.CutRange
import Derived.Deep.DrawnRows
import Derived.WalkMore
import Derived.WalkSmall
import Derived.Test.YtnikmcmkbjjcdaaGreatDoorRows
import Derived.Deep.Slices
import Derived.Deep.Strs
import Derived.SizedLaws
import Derived.LaidMore
import Derived.Stop.Joined
import Derived.ProofKit
import Derived.OpenShut
import Derived.ShutString
import Derived.ChangeOld
import Derived.Lib.AtoiAll
import Derived.Lib.ItoaNum
/-
  Bytes that a call lays; Quote, and ref's Quote.
-/
namespace Go.Proofs.YtnikmcmkbjjcdaaGreatDoor
open Go.RowKit

theorem below1K (w : World) (o : Obj) : Below w.heap.size w (w.alloc o) := (Below.refl _ _).alloc (Nat.le_refl _) _
def ibs (l : List Int) : List Value := l.map (Value.int .u8)
/-- A list of bytes of the call's own. -/
def OwnB (w : World) (base : Nat) (v : Value) (l : List Int) : Prop := w.ownsRow base 5 1 v l.length (ibs l)
theorem OwnB.later {w w' : World} {base : Nat} {v : Value} {l : List Int} (h : OwnB w base v l) (hb : Below w.heap.size w w') : OwnB w' base v l := by
  refine ⟨h.1, ?_⟩
  rcases h.2 with hn | ⟨g, cap, cur, hv, hbb, hg, rest⟩
  · exact Or.inl hn
  · exact Or.inr ⟨g, cap, cur, hv, hbb, (hb.block g (Array.getElem?_eq_some_iff.1 hg).1).trans hg, rest⟩
theorem OwnB.lit (w : World) (l : List Int) (hl : l.length ≤ 100000000) : OwnB (w.alloc (.cells (ibs l).toArray 5)) w.heap.size (.slice (some ⟨w.heap.size, 0, none⟩) l.length l.length) l :=
  World.ownsRow_lit w (ibs l).toArray l.length (Nat.le_refl _) (by unfold maxLen; omega) (by simp [ibs])
theorem Tryz.infoU8 : (Tryz.prog.info? 5).map (fun i => (i.size, i.bytes, i.zero.map (·.cells.size))) = some (1, 1, some 1) := by kernel_rfl
theorem infoU8_parts : ∃ (i : TypeInfo) (z : Value), Tryz.prog.info? 5 = some i ∧ i.zero = some z ∧ i.size = 1 ∧ i.bytes = 1 ∧ z.cells.size = 1 := by
  have h := Tryz.infoU8
  cases hi : Tryz.prog.info? 5 with
  | none => rw [hi] at h; simp at h
  | some i =>
    rw [hi] at h
    simp only [Option.map_some, Option.some.injEq, Prod.mk.injEq] at h
    obtain ⟨h1, h2, h3⟩ := h
    cases hz : i.zero with
    | none => rw [hz] at h3; simp at h3
    | some z => rw [hz] at h3; simp only [Option.map_some, Option.some.injEq] at h3; exact ⟨i, z, rfl, hz, h1, h2, h3⟩
theorem grown_below {w w' : World} {base : Nat} {v : Value} (hg : w.grownBy w' v.ownBlock) (h : ∀ k, v.ownBlock = some k → base ≤ k) (hb : base ≤ w.heap.size) : Below base w w' :=
  ⟨hg.os, hg.tape, hg.output, hg.size, fun k hk => hg.block k (by omega) (fun e => by have := h k e.symm; omega)⟩
theorem app_bytes {ops : Array Oper} {rest : List Oper} {o : Oper} {a : Act} {Q : Exit → Act → World → Prop} {w : World} (hgd : o.guard = none) (s x : Operand)
    (ho : o.op = .call { callee := .builtin .append, args := #[s, x], argTypes := #[74, 74] }) (base : Nat) (v : Value) (l : List Int) (hs : a.eval s = v) (hown : OwnB w base v l)
    (b : Nat) (news : List Int) (hx : a.eval x = .slice (some ⟨b, 0, none⟩) news.length news.length) (hblk : w.heap[b]? = some (.cells (ibs news).toArray 5 (0, 0))) (hm : 0 < news.length) (hlen : l.length + news.length ≤ 100000000) (hbase : base ≤ w.heap.size)
    (h : ∀ v' w', OwnB w' base v' (l ++ news) → Below base w w' → wpList Tryz.prog ops Q rest (a.put o.dst v') w') : wpList Tryz.prog ops Q (o :: rest) a w := by
  obtain ⟨i, z, hi, hz0, hz1, hz2, hz3⟩ := infoU8_parts
  refine wpList_append_lies _ hgd s x 74 ho base 5 i z 1 1 Tryz.underlying74 hi hz0 hz1 hz2 hz3 (by omega) v l.length (ibs l) hs hown ⟨b, 0, none⟩ news.length news.length (ibs news) hx (by simp [ibs]) ?_ (by simp [ibs, Value.oneCell']) hm (by unfold maxLen; omega) (by omega) hbase _ rfl ?_
  · intro j u hj
    have := World.news_of_block (cs := (ibs news).toArray) (t := 5) (fr := (0, 0)) hblk j u
    exact this (by simpa using hj)
  · intro g cap w' h1 h2 h3 h4
    refine h _ w' ?_ (grown_below h2 (fun k hk => (World.ownsRow.lt hown k hk).1) hbase)
    unfold OwnB
    rw [List.length_append, show ibs (l ++ news) = ibs l ++ ibs news by simp [ibs]]
    exact h1
theorem step_bytes {ops : Array Oper} {o : Oper} {a : Act} {K : Act → World → Prop} {Q : Exit → Act → World → Prop} {E : Prop} {w : World} (hgd : o.guard = none) (s x : Operand)
    (ho : o.op = .call { callee := .builtin .append, args := #[s, x], argTypes := #[74, 74] }) (base : Nat) (v : Value) (l : List Int) (hs : a.eval s = v) (hown : OwnB w base v l)
    (b : Nat) (news : List Int) (hx : a.eval x = .slice (some ⟨b, 0, none⟩) news.length news.length) (hblk : w.heap[b]? = some (.cells (ibs news).toArray 5 (0, 0))) (hm : 0 < news.length) (hlen : l.length + news.length ≤ 100000000) (hbase : base ≤ w.heap.size)
    (h : ∀ v' w', OwnB w' base v' (l ++ news) → Below base w w' → K (a.put o.dst v') w') : if Region.wanted o (yielded ops a.tmps) = true then Oper.wp Tryz.prog o a w K Q else E := by
  obtain ⟨i, z, hi, hz0, hz1, hz2, hz3⟩ := infoU8_parts
  refine step_append_lies _ hgd s x 74 ho base 5 i z 1 1 Tryz.underlying74 hi hz0 hz1 hz2 hz3 (by omega) v l.length (ibs l) hs hown ⟨b, 0, none⟩ news.length news.length (ibs news) hx (by simp [ibs]) ?_ (by simp [ibs, Value.oneCell']) hm (by unfold maxLen; omega) (by omega) hbase _ rfl ?_
  · intro j u hj
    have := World.news_of_block (cs := (ibs news).toArray) (t := 5) (fr := (0, 0)) hblk j u
    exact this (by simpa using hj)
  · intro g cap w' h1 h2 h3 h4
    refine h _ w' ?_ (grown_below h2 (fun k hk => (World.ownsRow.lt hown k hk).1) hbase)
    unfold OwnB
    rw [List.length_append, show ibs (l ++ news) = ibs l ++ ibs news by simp [ibs]]
    exact h1
/-- Bytes as a text. -/
def i2b (l : List Int) : List UInt8 := l.map fun x => UInt8.ofNat x.toNat
def byt (l : List Int) : Prop := ∀ x ∈ l, 0 ≤ x ∧ x ≤ 255
theorem conv_bytes {w : World} {base : Nat} {v : Value} {l : List Int} (h : OwnB w base v l) (hl : 0 < l.length) (hb : byt l) : (convert 74 9 v).run Tryz.prog w = .ok (.string ⟨(i2b l).toArray⟩) w := by
  obtain ⟨g, cap, rfl, -, -⟩ := World.ownsRow.form h hl
  have e := run_convert_bytes_back (P := Tryz.prog) w 74 9 5 ⟨g, 0, none⟩ cap (i2b l) Tryz.underlying74 Tryz.underlying5 Tryz.underlying9 (fun j hj => by
    have hj' : j < l.length := by simpa [i2b] using hj
    rw [World.ownsRow.cells h (g := g) rfl j (.int .u8 l[j]) (by simp [ibs, hj'])]
    have := hb l[j] (List.getElem_mem hj')
    simp [i2b]; omega)
  rw [show (i2b l).length = l.length by simp [i2b]] at e
  exact e
/-- A digit. -/
def hxd (v : Int) : Int := if v < 10 then 48 + v else 87 + v
theorem hxd_all : ∀ m : Nat, (h : m < 16) → (((⟨#[48, 49, 50, 51, 52, 53, 54, 55, 56, 57, 97, 98, 99, 100, 101, 102]⟩ : ByteArray)[m]'h).toNat : Int) = hxd m := by decide
theorem run_index_hx (w : World) (k : IntKind) (i : Int) (h0 : 0 ≤ i) (h1 : i ≤ 15) :
    (Instr.index 9 (.string ⟨#[48, 49, 50, 51, 52, 53, 54, 55, 56, 57, 97, 98, 99, 100, 101, 102]⟩) (.int k i)).run Tryz.prog w = .ok (.int .u8 (hxd i)) w := by
  obtain ⟨n, rfl⟩ : ∃ n : Nat, i = n := ⟨i.toNat, by omega⟩
  have hn : n < 16 := by omega
  rw [run_index_string w 9 _ k _ Tryz.underlying9]
  have hs : (⟨#[48, 49, 50, 51, 52, 53, 54, 55, 56, 57, 97, 98, 99, 100, 101, 102]⟩ : ByteArray).size = 16 := rfl
  rw [dif_pos (by rw [hs]; omega)]
  have := hxd_all n hn
  simp only [Int.toNat_natCast]
  rw [this]
theorem hxd_rng (v : Int) (h0 : 0 ≤ v) (h1 : v ≤ 15) : 0 ≤ hxd v ∧ hxd v ≤ 255 := by unfold hxd; split <;> omega
/-- What stands for a byte in quotes. -/
def qb (c : Int) : List Int := if c = 34 ∨ c = 92 then [92, c] else if c = 10 then [92, 110] else if c = 9 then [92, 116] else if 32 ≤ c ∧ c ≤ 126 then [c] else [92, 120, hxd (c / 16), hxd (c % 16)]
def qtl (s : ByteArray) (j : Nat) : List Int := 34 :: (List.range j).flatMap (fun i => qb (atK_ s i))
theorem qtl_succ (s : ByteArray) (j : Nat) : qtl s (j + 1) = qtl s j ++ qb (atK_ s j) := by
  unfold qtl; rw [List.range_succ, List.flatMap_append]; simp
theorem qb_len (c : Int) : 0 < (qb c).length ∧ (qb c).length ≤ 4 := by
  unfold qb; split
  · simp
  · split
    · simp
    · split
      · simp
      · split <;> simp
theorem qtl_len (s : ByteArray) (j : Nat) : (qtl s j).length ≤ 4 * j + 1 := by
  induction j with
  | zero => simp [qtl]
  | succ j ih => rw [qtl_succ, List.length_append]; have := (qb_len (atK_ s j)).2; omega
theorem qb_byt (c : Int) (h0 : 0 ≤ c) (h1 : c ≤ 255) : byt (qb c) := by
  have a := hxd_rng (c / 16) (by omega) (by omega)
  have b := hxd_rng (c % 16) (by omega) (by omega)
  intro x hx
  unfold qb at hx
  split at hx
  · simp at hx; omega
  · split at hx
    · simp at hx; omega
    · split at hx
      · simp at hx; omega
      · split at hx
        · simp at hx; omega
        · simp at hx; omega
theorem qtl_byt (s : ByteArray) (j : Nat) : byt (qtl s j) := by
  induction j with
  | zero => intro x hx; simp [qtl] at hx; omega
  | succ j ih =>
    intro x hx
    rw [qtl_succ, List.mem_append] at hx
    rcases hx with hx | hx
    · exact ih x hx
    · exact qb_byt _ (at_range s j).1 (at_range s j).2 x hx
/-- The text in quotes. -/
def qtB (s : ByteArray) : ByteArray := ⟨(i2b (qtl s s.size ++ [34])).toArray⟩
set_option maxRecDepth 20000 in
theorem and15 : ∀ a : Nat, a < 256 → bits BinOp.and IntKind.u8 (a : Int) 15 = (a : Int) % 16 := by decide
theorem and15' (c : Int) (h0 : 0 ≤ c) (h1 : c ≤ 255) : bits BinOp.and IntKind.u8 c 15 = c % 16 := by
  obtain ⟨a, rfl⟩ : ∃ a : Nat, c = a := ⟨c.toNat, by omega⟩
  exact and15 a (by omega)
end Go.Proofs.YtnikmcmkbjjcdaaGreatDoor
/-
  The table of signs, as it is laid.
-/
namespace Go.Proofs.YtnikmcmkbjjcdaaGreatDoor
open Go.ChangeShapes Go.WideShapes Go.ChangeAt Go.RowKit

def signL : List ByteArray := [⟨#[]⟩, ⟨#[]⟩, ⟨#[]⟩, ⟨#[]⟩, ⟨#[]⟩, ⟨#[115, 97, 121, 115]⟩, ⟨#[40]⟩, ⟨#[41]⟩, ⟨#[44]⟩, ⟨#[59]⟩, ⟨#[46]⟩, ⟨#[58, 45]⟩, ⟨#[63]⟩, ⟨#[61]⟩, ⟨#[33, 61]⟩, ⟨#[60]⟩, ⟨#[60, 61]⟩]
/-- The table of signs as a value. -/
def signV : Array Value := (signL.map Value.string).toArray
def SignsOk (w : World) : Prop := (∃ t fr, w.heap[0]? = some (.cells signV t fr)) ∧ ∀ (i : Nat) (t : ByteArray), signL[i]? = some t → w.cell? ⟨0, i, none⟩ = some (.string t)
theorem SignsOk.says {w : World} (h : SignsOk w) : SaysOk w := h.2 5 _ rfl
theorem SignsOk.lt {w : World} (h : SignsOk w) : 0 < w.heap.size := World.block_lt_of_cell? w _ (h.2 5 _ rfl)
theorem SignsOk.later {w w' : World} (h : SignsOk w) (hb : Below w.heap.size w w') : SignsOk w' :=
  ⟨h.1.imp fun _ ⟨fr, e⟩ => ⟨fr, (hb.block _ h.lt).trans e⟩, fun i t ht => by
    rw [hb.cell (p := ⟨0, i, none⟩) h.lt]
    exact h.2 i t ht⟩
theorem Tryz.own : ownKnob Tryz.prog.godebug = none := by kernel_rfl
theorem Tryz.gSigns : Tryz.prog.globalNamed "hearsay/tokens.signs" = some 0 := by kernel_rfl
theorem Tryz.tSigns : (Tryz.prog.globals[0]?).map (·.type) = some 128 := by kernel_rfl
theorem Tryz.cellsSigns : Tryz.prog.cellsOf 128 = 17 := by kernel_rfl
theorem Tryz.cellsStr : Tryz.prog.cellsOf 9 = 1 := by kernel_rfl
theorem signs_of_trod {H : Type} {enc : TypeId × Value → H} {W : World} {base f0 : Nat} {spare : Nat → Bool} {held : Bool} {cs0 : List Value} {p0 : List MemPlace}
    (h : DataW.trod enc Tryz.prog W base spare held f0 128 cs0 = some (Rows.laid_hearsay_tokens_signs, p0)) (i : Nat) (t : ByteArray) (ht : signL[i]? = some t) : cs0[i]? = some (.string t) ∧ cs0.length = 17 := by
  obtain ⟨xs, m, -, hx, hl, hn, hel⟩ := DataW.trod_array Tryz.underlying128 h
  have hi : i < 17 := by have := (List.getElem?_eq_some_iff.1 ht).1; simpa [signL] using this
  have he := hel i hi
  rw [Tryz.cellsStr, Nat.mul_one] at he
  have hxs : xs[i]? = some xs[i] := List.getElem?_eq_getElem (by omega)
  rw [hxs] at he
  obtain ⟨s, e1, e2, -⟩ := DataW.trod_string Tryz.underlying9 he
  have hx1 : xs.map (·.1) = signL.map (fun b => DataW.lit (.string b.data.toList)) := by
    have := congrArg Prod.fst hx
    simp only [Rows.laid_hearsay_tokens_signs, DataW.agg.injEq] at this
    rw [← this]; rfl
  have h2 : (xs.map (·.1))[i]? = some (DataW.lit (.string t.data.toList)) := by rw [hx1, List.getElem?_map, ht]; rfl
  rw [List.getElem?_map, hxs, e2] at h2
  simp only [Option.map_some, Option.some.injEq, DataW.lit.injEq, Lit.string.injEq] at h2
  obtain rfl : s = t := ByteArray.ext (Array.toList_inj.1 h2)
  have h3 : ((cs0.drop i).take 1)[0]? = some (.string s) := by rw [e1]; rfl
  rw [List.getElem?_take_of_lt (by omega), List.getElem?_drop] at h3
  exact ⟨by simpa using h3, by rw [hl, Tryz.cellsSigns]⟩
end Go.Proofs.YtnikmcmkbjjcdaaGreatDoor
/-
  Cutting a text: the plain mathematics.
-/
namespace Go.Proofs.YtnikmcmkbjjcdaaGreatDoor
open Go.RowKit

/-- A text's bytes. -/
def blK (s : ByteArray) : List Int := s.data.toList.map fun b => (b.toNat : Int)
/-- The text of bytes. -/
def ofL (l : List Int) : ByteArray := ⟨(i2b l).toArray⟩
theorem bl_len (s : ByteArray) : (blK s).length = s.size := by simp [blK]
theorem bl_byt (s : ByteArray) : byt (blK s) := fun x hx => by
  simp only [blK, List.mem_map] at hx
  obtain ⟨b, -, rfl⟩ := hx
  have := b.toNat_lt; omega
theorem i2b_map (l : List UInt8) : i2b (l.map fun b => (b.toNat : Int)) = l := by
  induction l with
  | nil => rfl
  | cons b l ih => simp only [i2b, List.map_cons] at ih ⊢; rw [ih]; simp
theorem bl_ofL {l : List Int} (h : byt l) : blK (ofL l) = l := by
  unfold blK ofL i2b
  induction l with
  | nil => rfl
  | cons x l ih =>
    simp only [List.map_cons] at ih ⊢
    have hx := h x (by simp)
    have e := ih (fun y hy => h y (by simp [hy]))
    rw [e]
    congr 1
    simp; omega
theorem bl_drop {s : ByteArray} {j : Nat} (h : j < s.size) : (blK s).drop j = atK_ s j :: (blK s).drop (j + 1) := by
  have h' : j < (blK s).length := by rw [bl_len]; exact h
  rw [List.drop_eq_getElem_cons h', atK_lt s j h]
  simp only [blK, List.getElem_map, Array.getElem_toList]
  rfl
theorem bl_drop_end {s : ByteArray} {j : Nat} (h : s.size ≤ j) : (blK s).drop j = [] := List.drop_eq_nil_of_le (by rw [bl_len]; exact h)
theorem i2b_take (l : List Int) (n : Nat) : i2b (l.take n) = (i2b l).take n := by simp [i2b]
theorem i2b_drop (l : List Int) (n : Nat) : i2b (l.drop n) = (i2b l).drop n := by simp [i2b]
theorem extract_eq (s : ByteArray) (i j : Nat) : s.extract i j = ofL (((blK s).drop i).take (j - i)) := by
  apply ByteArray.ext
  unfold ofL
  rw [i2b_take, i2b_drop, show i2b (blK s) = s.data.toList from i2b_map _]
  rw [ByteArray.data_extract]
  apply Array.toList_inj.1
  simp [List.extract_eq_take_drop]
/-- How long the run is. -/
def rl : List Int → Nat
  | [] => 0
  | c :: r => if rnb c = true then rl r + 1 else 0
theorem rl_le (l : List Int) : rl l ≤ l.length := by
  induction l with
  | nil => simp [rl]
  | cons c l ih => unfold rl; split <;> simp <;> omega
theorem rne_rl (s : ByteArray) : ∀ (f j : Nat), s.size - j = f → j ≤ s.size → rne s j = j + rl ((blK s).drop j)
  | 0, j, h, hj => by
    obtain rfl : j = s.size := by omega
    rw [rne_end, bl_drop_end (Nat.le_refl _)]; rfl
  | f + 1, j, h, hj => by
    have hlt : j < s.size := by omega
    rw [bl_drop hlt, rl]
    cases hb : rnb (atK_ s j)
    · rw [rne_no hb]; rfl
    · rw [← rne_yes hlt hb, rne_rl s f (j + 1) (by omega) (by omega)]; simp; omega
theorem rne_eq (s : ByteArray) (j : Nat) (hj : j ≤ s.size) : rne s j = j + rl ((blK s).drop j) := rne_rl s _ j rfl hj
/-- A token. -/
structure Tk where
  k : Int
  x : ByteArray
  n : Int
  a : Int
  e : Int
deriving DecidableEq
abbrev Tk.v (t : Tk) : Value := .agg #[.int .i64 t.k, .string t.x, .int .i64 t.n, .int .i64 t.a, .int .i64 t.e]
/-- What stands at a place: a token that is so long, or a fault so far on. -/
inductive TR where
  | ok (k : Int) (x : List Int) (n : Int) (len : Nat)
  | bad (err : Int) (off : Nat)
deriving DecidableEq
def TR.tk (j : Nat) : TR → Tk
  | .ok k x n len => ⟨k, ofL x, n, j, (j + len : Nat)⟩
  | .bad _ _ => ⟨0, ⟨#[]⟩, 0, 0, 0⟩
def TR.err : TR → Int
  | .ok _ _ _ _ => 0
  | .bad e _ => e
def TR.pl (j : Nat) : TR → Int
  | .ok _ _ _ _ => 0
  | .bad _ o => ((j + o : Nat) : Int)
abbrev TR.v (j : Nat) (r : TR) : Value := .tuple #[(r.tk j).v, .agg #[.int .i64 r.err, .int .i64 (r.pl j)]]
def hexv (c : Int) : Option Int := if 48 ≤ c ∧ c ≤ 57 then some (c - 48) else if 97 ≤ c ∧ c ≤ 102 then some (c - 87) else if 65 ≤ c ∧ c ≤ 70 then some (c - 55) else none
def hex2 : List Int → Option Int
  | a :: b :: _ => match hexv a, hexv b with
    | some x, some y => some (x * 16 + y)
    | _, _ => none
  | _ => none
/-- What an escape means, behind its backslash, and how long it is. -/
def esc : List Int → Option (Int × Nat)
  | [] => none
  | c :: r => if c = 34 ∨ c = 92 then some (c, 1) else if c = 110 then some (10, 1) else if c = 116 then some (9, 1) else if c = 120 then (hex2 r).map (fun b => (b, 3)) else none
/-- A quoted text, behind its first byte. -/
def qd : Nat → List Int → Nat → List Int → TR
  | 0, _, _, _ => .bad 43 0
  | _ + 1, [], _, _ => .bad 43 0
  | f + 1, c :: r, off, acc =>
    if c = 34 then .ok 3 acc 0 (off + 1)
    else if c = 92 then (match esc r with
      | some (b, k) => qd f (r.drop k) (off + 1 + k) (acc ++ [b])
      | none => .bad 44 off)
    else if c < 32 ∨ c = 127 then .bad 44 off
    else qd f r (off + 1) (acc ++ [c])
def skG : Nat → List ByteArray → ByteArray → Nat
  | _, [], _ => 0
  | i, t :: r, x => if t = x then i else skG (i + 1) r x
/-- The kind of a sign; 0 of what is none. -/
def sk (x : ByteArray) : Nat := skG 0 signL x
def sgF (l : List Int) : Nat → TR
  | 0 => .bad 42 0
  | m + 1 => if sk (ofL (l.take (m + 1))) = 0 then sgF l m else .ok (sk (ofL (l.take (m + 1))) : Nat) [] 0 (m + 1)
def sgt (l : List Int) : TR := sgF l (min 2 l.length)
/-- A number's value. -/
def num (d : List Int) : Option Int := match Lib.atoiAll (i2b d) with
  | .ok v => if Lib.itoa v = i2b d then some v else none
  | _ => none
def numt (n : Nat) (l : List Int) : TR := match num (l.take n) with
  | some v => .ok 4 [] v n
  | none => .bad 45 0
/-- What stands there. -/
def tok : List Int → TR
  | [] => .bad 42 0
  | c :: r =>
    if sml c = true then (if ofL ((c :: r).take (rl (c :: r))) = saysB then .ok 5 [] 0 (rl (c :: r)) else .ok 1 ((c :: r).take (rl (c :: r))) 0 (rl (c :: r)))
    else if grt c = true then .ok 2 ((c :: r).take (rl (c :: r))) 0 (rl (c :: r))
    else if c = 45 then numt (1 + rl r) (c :: r)
    else if dig c = true then numt (rl (c :: r)) (c :: r)
    else if c = 34 then qd (r.length + 1) r 1 []
    else sgt (c :: r)
/-- How far a remark goes. -/
def le_ : List Int → Nat
  | [] => 0
  | c :: r => if c = 10 then 0 else le_ r + 1
theorem le_le (l : List Int) : le_ l ≤ l.length := by
  induction l with
  | nil => simp [le_]
  | cons c l ih => unfold le_; split <;> simp <;> omega
/-- The tokens, or the fault and its place. -/
def ct : Nat → List Int → Nat → List Tk → List Tk × Int × Int
  | 0, _, _, acc => (acc, 0, 0)
  | _ + 1, [], _, acc => (acc, 0, 0)
  | f + 1, c :: r, off, acc =>
    if c = 32 ∨ c = 9 ∨ c = 10 ∨ c = 13 then ct f r (off + 1) acc
    else if c = 37 then ct f ((c :: r).drop (le_ (c :: r))) (off + le_ (c :: r)) acc
    else match tok (c :: r) with
      | .bad e o => ([], e, ((off + o : Nat) : Int))
      | .ok k x n len => ct f ((c :: r).drop len) (off + len) (acc ++ [⟨k, ofL x, n, off, (off + len : Nat)⟩])
/-- What Cut answers. -/
def cutL (l : List Int) (most : Int) : List Tk × Int × Int := if most < l.length then ([], 41, 0) else ct (l.length + 1) l 0 []
end Go.Proofs.YtnikmcmkbjjcdaaGreatDoor

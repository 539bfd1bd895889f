/-
  Bytes that a call lays; Quote, and ref's Quote.
-/
import Derived.Test.YtdfdnjkeiddfjaaDoorJ2
import Derived.Laws.OwnMore
import Derived.Deep.CutRange
import Derived.Deep.DrawnRows
import Derived.WalkMore
import Derived.WalkSmall
namespace Go.Proofs.YtdfdnjkeiddfjaaDoor
open Go.RowKit

theorem below1K (w : World) (o : Obj) : Below w.heap.size w (w.alloc o) := (Below.refl _ _).alloc (Nat.le_refl _) _
def ibs (l : List Int) : List Value := l.map (Value.int .u8)
/-- A list of bytes of the call's own. -/
def OwnB (w : World) (base : Nat) (v : Value) (l : List Int) : Prop := w.ownsRow base 5 1 v l.length (ibs l)
theorem OwnB.later {w w' : World} {base : Nat} {v : Value} {l : List Int} (h : OwnB w base v l) (hb : Below w.heap.size w w') : OwnB w' base v l := by
  refine ⟨h.1, ?_⟩
  rcases h.2 with hn | ⟨g, cap, cur, hv, hbb, hg, rest⟩
  · exact Or.inl hn
  · exact Or.inr ⟨g, cap, cur, hv, hbb, (hb.block g (Array.getElem?_eq_some_iff.1 hg).1).trans hg, rest⟩
theorem OwnB.lit (w : World) (l : List Int) (hl : l.length ≤ 100000000) : OwnB (w.alloc (.cells (ibs l).toArray 5)) w.heap.size (.slice (some ⟨w.heap.size, 0, none⟩) l.length l.length) l :=
  World.ownsRow_lit w (ibs l).toArray l.length (Nat.le_refl _) (by unfold maxLen; omega) (by simp [ibs])
theorem Tryd.infoU8 : (Tryd.prog.info? 5).map (fun i => (i.size, i.bytes, i.zero.map (·.cells.size))) = some (1, 1, some 1) := by kernel_rfl
theorem infoU8_parts : ∃ (i : TypeInfo) (z : Value), Tryd.prog.info? 5 = some i ∧ i.zero = some z ∧ i.size = 1 ∧ i.bytes = 1 ∧ z.cells.size = 1 := by
  have h := Tryd.infoU8
  cases hi : Tryd.prog.info? 5 with
  | none => rw [hi] at h; simp at h
  | some i =>
    rw [hi] at h
    simp only [Option.map_some, Option.some.injEq, Prod.mk.injEq] at h
    obtain ⟨h1, h2, h3⟩ := h
    cases hz : i.zero with
    | none => rw [hz] at h3; simp at h3
    | some z => rw [hz] at h3; simp only [Option.map_some, Option.some.injEq] at h3; exact ⟨i, z, rfl, hz, h1, h2, h3⟩
theorem grown_below {w w' : World} {base : Nat} {v : Value} (hg : w.grownBy w' v.ownBlock) (h : ∀ k, v.ownBlock = some k → base ≤ k) (hb : base ≤ w.heap.size) : Below base w w' :=
  ⟨hg.os, hg.tape, hg.output, hg.size, fun k hk => hg.block k (by omega) (fun e => by have := h k e.symm; omega)⟩
theorem app_bytes {ops : Array Oper} {rest : List Oper} {o : Oper} {a : Act} {Q : Exit → Act → World → Prop} {w : World} (hgd : o.guard = none) (s x : Operand)
    (ho : o.op = .call { callee := .builtin .append, args := #[s, x], argTypes := #[22, 22] }) (base : Nat) (v : Value) (l : List Int) (hs : a.eval s = v) (hown : OwnB w base v l)
    (b : Nat) (news : List Int) (hx : a.eval x = .slice (some ⟨b, 0, none⟩) news.length news.length) (hblk : w.heap[b]? = some (.cells (ibs news).toArray 5 (0, 0))) (hm : 0 < news.length) (hlen : l.length + news.length ≤ 100000000) (hbase : base ≤ w.heap.size)
    (h : ∀ v' w', OwnB w' base v' (l ++ news) → Below base w w' → wpList Tryd.prog ops Q rest (a.put o.dst v') w') : wpList Tryd.prog ops Q (o :: rest) a w := by
  obtain ⟨i, z, hi, hz0, hz1, hz2, hz3⟩ := infoU8_parts
  refine wpList_append_lies _ hgd s x 22 ho base 5 i z 1 1 Tryd.underlying22 hi hz0 hz1 hz2 hz3 (by omega) v l.length (ibs l) hs hown ⟨b, 0, none⟩ news.length news.length (ibs news) hx (by simp [ibs]) ?_ (by simp [ibs, Value.oneCell']) hm (by unfold maxLen; omega) (by omega) hbase _ rfl ?_
  · intro j u hj
    have := World.news_of_block (cs := (ibs news).toArray) (t := 5) (fr := (0, 0)) hblk j u
    exact this (by simpa using hj)
  · intro g cap w' h1 h2 h3 h4
    refine h _ w' ?_ (grown_below h2 (fun k hk => (World.ownsRow.lt hown k hk).1) hbase)
    unfold OwnB
    rw [List.length_append, show ibs (l ++ news) = ibs l ++ ibs news by simp [ibs]]
    exact h1
theorem step_bytes {ops : Array Oper} {o : Oper} {a : Act} {K : Act → World → Prop} {Q : Exit → Act → World → Prop} {E : Prop} {w : World} (hgd : o.guard = none) (s x : Operand)
    (ho : o.op = .call { callee := .builtin .append, args := #[s, x], argTypes := #[22, 22] }) (base : Nat) (v : Value) (l : List Int) (hs : a.eval s = v) (hown : OwnB w base v l)
    (b : Nat) (news : List Int) (hx : a.eval x = .slice (some ⟨b, 0, none⟩) news.length news.length) (hblk : w.heap[b]? = some (.cells (ibs news).toArray 5 (0, 0))) (hm : 0 < news.length) (hlen : l.length + news.length ≤ 100000000) (hbase : base ≤ w.heap.size)
    (h : ∀ v' w', OwnB w' base v' (l ++ news) → Below base w w' → K (a.put o.dst v') w') : if Region.wanted o (yielded ops a.tmps) = true then Oper.wp Tryd.prog o a w K Q else E := by
  obtain ⟨i, z, hi, hz0, hz1, hz2, hz3⟩ := infoU8_parts
  refine step_append_lies _ hgd s x 22 ho base 5 i z 1 1 Tryd.underlying22 hi hz0 hz1 hz2 hz3 (by omega) v l.length (ibs l) hs hown ⟨b, 0, none⟩ news.length news.length (ibs news) hx (by simp [ibs]) ?_ (by simp [ibs, Value.oneCell']) hm (by unfold maxLen; omega) (by omega) hbase _ rfl ?_
  · intro j u hj
    have := World.news_of_block (cs := (ibs news).toArray) (t := 5) (fr := (0, 0)) hblk j u
    exact this (by simpa using hj)
  · intro g cap w' h1 h2 h3 h4
    refine h _ w' ?_ (grown_below h2 (fun k hk => (World.ownsRow.lt hown k hk).1) hbase)
    unfold OwnB
    rw [List.length_append, show ibs (l ++ news) = ibs l ++ ibs news by simp [ibs]]
    exact h1
/-- Bytes as a text. -/
def i2b (l : List Int) : List UInt8 := l.map fun x => UInt8.ofNat x.toNat
def byt (l : List Int) : Prop := ∀ x ∈ l, 0 ≤ x ∧ x ≤ 255
theorem conv_bytes {w : World} {base : Nat} {v : Value} {l : List Int} (h : OwnB w base v l) (hl : 0 < l.length) (hb : byt l) : (convert 22 9 v).run Tryd.prog w = .ok (.string ⟨(i2b l).toArray⟩) w := by
  obtain ⟨g, cap, rfl, -, -⟩ := World.ownsRow.form h hl
  have e := run_convert_bytes_back (P := Tryd.prog) w 22 9 5 ⟨g, 0, none⟩ cap (i2b l) Tryd.underlying22 Tryd.underlying5 Tryd.underlying9 (fun j hj => by
    have hj' : j < l.length := by simpa [i2b] using hj
    rw [World.ownsRow.cells h (g := g) rfl j (.int .u8 l[j]) (by simp [ibs, hj'])]
    have := hb l[j] (List.getElem_mem hj')
    simp [i2b]; omega)
  rw [show (i2b l).length = l.length by simp [i2b]] at e
  exact e
/-- A digit. -/
def hxd (v : Int) : Int := if v < 10 then 48 + v else 87 + v
theorem hxd_all : ∀ m : Nat, (h : m < 16) → (((⟨#[48, 49, 50, 51, 52, 53, 54, 55, 56, 57, 97, 98, 99, 100, 101, 102]⟩ : ByteArray)[m]'h).toNat : Int) = hxd m := by decide
theorem run_index_hx (w : World) (k : IntKind) (i : Int) (h0 : 0 ≤ i) (h1 : i ≤ 15) :
    (Instr.index 9 (.string ⟨#[48, 49, 50, 51, 52, 53, 54, 55, 56, 57, 97, 98, 99, 100, 101, 102]⟩) (.int k i)).run Tryd.prog w = .ok (.int .u8 (hxd i)) w := by
  obtain ⟨n, rfl⟩ : ∃ n : Nat, i = n := ⟨i.toNat, by omega⟩
  have hn : n < 16 := by omega
  rw [run_index_string w 9 _ k _ Tryd.underlying9]
  have hs : (⟨#[48, 49, 50, 51, 52, 53, 54, 55, 56, 57, 97, 98, 99, 100, 101, 102]⟩ : ByteArray).size = 16 := rfl
  rw [dif_pos (by rw [hs]; omega)]
  have := hxd_all n hn
  simp only [Int.toNat_natCast]
  rw [this]
theorem hxd_rng (v : Int) (h0 : 0 ≤ v) (h1 : v ≤ 15) : 0 ≤ hxd v ∧ hxd v ≤ 255 := by unfold hxd; split <;> omega
/-- What stands for a byte in quotes. -/
def qb (c : Int) : List Int := if c = 34 ∨ c = 92 then [92, c] else if c = 10 then [92, 110] else if c = 9 then [92, 116] else if 32 ≤ c ∧ c ≤ 126 then [c] else [92, 120, hxd (c / 16), hxd (c % 16)]
def qtl (s : ByteArray) (j : Nat) : List Int := 34 :: (List.range j).flatMap (fun i => qb (atK_ s i))
theorem qtl_succ (s : ByteArray) (j : Nat) : qtl s (j + 1) = qtl s j ++ qb (atK_ s j) := by
  unfold qtl; rw [List.range_succ, List.flatMap_append]; simp
theorem qb_len (c : Int) : 0 < (qb c).length ∧ (qb c).length ≤ 4 := by
  unfold qb; split
  · simp
  · split
    · simp
    · split
      · simp
      · split <;> simp
theorem qtl_len (s : ByteArray) (j : Nat) : (qtl s j).length ≤ 4 * j + 1 := by
  induction j with
  | zero => simp [qtl]
  | succ j ih => rw [qtl_succ, List.length_append]; have := (qb_len (atK_ s j)).2; omega
theorem qb_byt (c : Int) (h0 : 0 ≤ c) (h1 : c ≤ 255) : byt (qb c) := by
  have a := hxd_rng (c / 16) (by omega) (by omega)
  have b := hxd_rng (c % 16) (by omega) (by omega)
  intro x hx
  unfold qb at hx
  split at hx
  · simp at hx; omega
  · split at hx
    · simp at hx; omega
    · split at hx
      · simp at hx; omega
      · split at hx
        · simp at hx; omega
        · simp at hx; omega
theorem qtl_byt (s : ByteArray) (j : Nat) : byt (qtl s j) := by
  induction j with
  | zero => intro x hx; simp [qtl] at hx; omega
  | succ j ih =>
    intro x hx
    rw [qtl_succ, List.mem_append] at hx
    rcases hx with hx | hx
    · exact ih x hx
    · exact qb_byt _ (at_range s j).1 (at_range s j).2 x hx
/-- The text in quotes. -/
def qtB (s : ByteArray) : ByteArray := ⟨(i2b (qtl s s.size ++ [34])).toArray⟩
set_option maxRecDepth 20000 in
theorem and15 : ∀ a : Nat, a < 256 → bits BinOp.and IntKind.u8 (a : Int) 15 = (a : Int) % 16 := by decide
theorem and15' (c : Int) (h0 : 0 ≤ c) (h1 : c ≤ 255) : bits BinOp.and IntKind.u8 c 15 = c % 16 := by
  obtain ⟨a, rfl⟩ : ∃ a : Nat, c = a := ⟨c.toNat, by omega⟩
  exact and15 a (by omega)
end Go.Proofs.YtdfdnjkeiddfjaaDoor

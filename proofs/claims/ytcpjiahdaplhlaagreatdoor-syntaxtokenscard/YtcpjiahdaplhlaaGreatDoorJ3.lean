import Derived.Test.YtcpjiahdaplhlaaGreatDoorProg
import Derived.WalkKit
import Derived.WalkSpells
import Derived.KernelRfl
import Derived.Below
import Derived.Deep.LoopGhost
import Derived.Deep.WholeRow
import Derived.Deep.MidRow
import Derived.Deep.RegionHeld3
import Derived.Deep.AppendLies
import Derived.Laws.IdiomStrings
import Derived.Laws.OwnMore
import Derived.Deep.CutRange
import Derived.Deep.DrawnRows
import Derived.WalkMore
import Derived.WalkSmall
/-
  Bytes and runs: smallLetter, beginsVariable, digit, runByte, runEnd; ref's small, great, digit, run.
-/
namespace Go.Proofs.YtcpjiahdaplhlaaGreatDoor
open Go.RowKit

/-- A text's byte. -/
def atK_ (s : ByteArray) (j : Nat) : Int := if h : j < s.size then (s[j].toNat : Int) else 0
theorem atK_lt (s : ByteArray) (j : Nat) (h : j < s.size) : atK_ s j = (s[j].toNat : Int) := by unfold atK_; rw [dif_pos h]
theorem at_range (s : ByteArray) (j : Nat) : 0 ≤ atK_ s j ∧ atK_ s j ≤ 255 := by
  unfold atK_; split
  · rename_i h; have := s[j].toNat_lt; omega
  · omega
theorem run_index_atK (s : ByteArray) (j : Nat) (hj : j < s.size) (i : Int) (hi : i = j) (w : World) (k : IntKind) : (Instr.index 9 (.string s) (.int k i)).run Tryz.prog w = .ok (.int .u8 (atK_ s j)) w := by
  subst hi
  rw [run_index_string w 9 s k _ Tryz.underlying9, dif_pos (by omega), atK_lt s j hj]
  simp
def sml (c : Int) : Bool := decide (97 ≤ c) && decide (c ≤ 122)
def grt (c : Int) : Bool := (decide (65 ≤ c) && decide (c ≤ 90)) || decide (c = 95)
def dig (c : Int) : Bool := decide (48 ≤ c) && decide (c ≤ 57)
def rnb (c : Int) : Bool := sml c || grt c || dig c
theorem small_anyK (c : Int) (w : World) : Calls Tryz.prog 70 #[.int .u8 c] w fun e w' => e = .returned (.bool (sml c)) ∧ w' = w := by
  unfold sml
  by_cases a : 97 ≤ c <;> by_cases b : c ≤ 122 <;> (go_enter Tryz.func70, Tryz.ntmps70; go_wp2; go_ret; exact ⟨by simp [a, b], rfl⟩)
theorem digit_any (c : Int) (w : World) : Calls Tryz.prog 74 #[.int .u8 c] w fun e w' => e = .returned (.bool (dig c)) ∧ w' = w := by
  unfold dig
  by_cases a : 48 ≤ c <;> by_cases b : c ≤ 57 <;> (go_enter Tryz.func74, Tryz.ntmps74; go_wp2; go_ret; exact ⟨by simp [a, b], rfl⟩)
theorem great_any (c : Int) (w : World) : Calls Tryz.prog 73 #[.int .u8 c] w fun e w' => e = .returned (.bool (grt c)) ∧ w' = w := by
  unfold grt
  by_cases a : 65 ≤ c <;> by_cases b : c ≤ 90 <;> by_cases d : c = 95 <;> (go_enter Tryz.func73, Tryz.ntmps73; go_wp2; go_ret; exact ⟨by (try simp [a, b, d]) <;> (rw [Bool.eq_iff_iff]; simp; omega), rfl⟩)
theorem runByte_any (c : Int) (w : World) : Calls Tryz.prog 115 #[.int .u8 c] w fun e w' => e = .returned (.bool (rnb c)) ∧ w' = w := by
  unfold rnb
  cases a : sml c <;> cases b : grt c <;> cases d : dig c <;>
    (have ca := small_anyK c; have cb := great_any c; have cd := digit_any c; rw [a] at ca; rw [b] at cb; rw [d] at cd;
     go_enter Tryz.func115, Tryz.ntmps115
     go_wp2_with (first | (go_at_call 70; refine (ca _).mono ?_; rintro e w1 ⟨rfl, rfl⟩) | (go_at_call 73; refine (cb _).mono ?_; rintro e w1 ⟨rfl, rfl⟩) | (go_at_call 74; refine (cd _).mono ?_; rintro e w1 ⟨rfl, rfl⟩))
     go_ret
     exact ⟨by simp, rfl⟩)
/-- The place behind the run that begins at j. -/
def rneF (s : ByteArray) : Nat → Nat → Nat
  | 0, j => j
  | f + 1, j => if rnb (atK_ s j) = true then rneF s f (j + 1) else j
def rne (s : ByteArray) (j : Nat) : Nat := rneF s (s.size - j) j
theorem rne_yes {s : ByteArray} {j : Nat} (hj : j < s.size) (h : rnb (atK_ s j) = true) : rne s (j + 1) = rne s j := by
  unfold rne
  obtain ⟨f, hf⟩ : ∃ f, s.size - j = f + 1 := ⟨s.size - j - 1, by omega⟩
  rw [hf, show s.size - (j + 1) = f by omega]
  show rneF s f (j + 1) = if rnb (atK_ s j) = true then rneF s f (j + 1) else j
  rw [if_pos h]
theorem rne_no {s : ByteArray} {j : Nat} (h : rnb (atK_ s j) = false) : rne s j = j := by
  unfold rne
  cases hf : s.size - j with
  | zero => rfl
  | succ f => show (if rnb (atK_ s j) = true then rneF s f (j + 1) else j) = j; rw [h]; rfl
theorem rne_end {s : ByteArray} : rne s s.size = s.size := by unfold rne; rw [Nat.sub_self]; rfl
theorem runEnd_any (s : ByteArray) (j0 : Nat) (h0 : j0 ≤ s.size) (hs : s.size < 4611686018427387904) (w : World) :
    Calls Tryz.prog 71 #[.string s, .int .i64 j0] w fun e w' => e = .returned (.int .i64 (rne s j0)) ∧ w' = w := by
  go_enter Tryz.func71, Tryz.ntmps71
  go_wp2
  go_loopg [1] (s.size - j0) (fun g i wr => ∃ j : Nat, j + g = s.size ∧ i = .int .i64 j ∧ rne s j = rne s j0 ∧ wr = w)
  case atStart => exact ⟨j0, by omega, rfl, rfl, rfl⟩
  case round =>
    obtain ⟨j, hj, rfl, hr, rfl⟩ := hrel
    have HR : Hid (rne s j = rne s j0) := hr
    clear hr
    cases gk with
    | succ g =>
      have hlt : j < s.size := by omega
      have i1 : (j : Int) < (s.size : Int) := by omega
      have hidx := run_index_atK s j hlt (j : Int) rfl
      have cr := runByte_any (atK_ s j)
      obtain ⟨c, hc⟩ : ∃ c, atK_ s j = c := ⟨_, rfl⟩
      rw [hc] at hidx cr
      have HC : Hid (atK_ s j = c) := hc
      cases hb : rnb c
      · rw [hb] at cr
        clear hc
        have HB : Hid (rnb c = false) := hb
        clear hb
        go_wp2_with (go_at_call 115; refine (cr _).mono ?_; rintro e w1 ⟨rfl, rfl⟩)
        go_ret
        exact ⟨by rw [← HR.out, rne_no (by rw [HC.out]; exact HB.out)]; rfl, rfl⟩
      · rw [hb] at cr
        have HB : Hid (rnb c = true) := hb
        clear hc hb
        go_wp2_with (go_at_call 115; refine (cr _).mono ?_; rintro e w1 ⟨rfl, rfl⟩)
        go_roundg g
        case measure => omega
        case rel => exact ⟨j + 1, by omega, by go_num, by rw [rne_yes hlt (by rw [HC.out]; exact HB.out)]; exact HR.out, rfl⟩
    | zero =>
      obtain rfl : j = s.size := by omega
      have hz : ¬ ((s.size : Int) < (s.size : Int)) := by omega
      go_wp2
      go_ret
      exact ⟨by rw [← HR.out, rne_end]; rfl, rfl⟩
end Go.Proofs.YtcpjiahdaplhlaaGreatDoor
/-
  Word, and ref's Word.
-/
namespace Go.Proofs.YtcpjiahdaplhlaaGreatDoor
open Go.RowKit

theorem toList_injK {a b : ByteArray} (h : a.toList = b.toList) : a = b := by
  rw [ByteArray.toList_eq, ByteArray.toList_eq] at h
  exact ByteArray.ext (Array.toList_inj.1 h)
theorem str_dec (a b : ByteArray) : (a.toList == b.toList) = decide (a = b) := by
  by_cases h : a = b
  · simp [h]
  · rw [decide_eq_false h]
    exact beq_eq_false_iff_ne.2 fun e => h (toList_injK e)
theorem emptyL : (⟨#[]⟩ : ByteArray).toList = [] := by rw [ByteArray.toList_eq]
theorem saysL : (⟨#[115, 97, 121, 115]⟩ : ByteArray).toList = [115, 97, 121, 115] := by rw [ByteArray.toList_eq]
/-- The text says. -/
def saysB : ByteArray := ⟨#[115, 97, 121, 115]⟩
/-- The sign says, as it lies in the table of signs. -/
def SaysOk (w : World) : Prop := w.cell? ⟨2, 5, none⟩ = some (.string ⟨#[115, 97, 121, 115]⟩)
def wrd (s : ByteArray) : Bool := !decide (s = ⟨#[]⟩) && (sml (atK_ s 0) && (decide (rne s 0 = s.size) && !decide (s = saysB)))
theorem size_posK {s : ByteArray} (h : ¬ s = ⟨#[]⟩) : 0 < s.size := by
  rcases Nat.eq_zero_or_pos s.size with e | e
  · exact absurd (ByteArray.ext (Array.eq_empty_of_size_eq_zero e)) h
  · exact e
theorem int_beq (a b : Nat) : ((a : Int) == (b : Int)) = decide (a = b) := by
  rw [Bool.eq_iff_iff]; simp; omega
theorem word_any (s : ByteArray) (hs : s.size < 4611686018427387904) (w : World) (hW : SaysOk w) :
    Calls Tryz.prog 47 #[.string s] w fun e w' => e = .returned (.bool (wrd s)) ∧ w' = w := by
  have e2 : decide (s = ⟨#[115, 97, 121, 115]⟩) = decide (s.toList = [115, 97, 121, 115]) := by rw [← str_dec, saysL]; exact (Bool.beq_eq_decide_eq _ _)
  have c1 : w.cell? ⟨2, 5, none⟩ = some (.string ⟨#[115, 97, 121, 115]⟩) := hW
  have ca := small_anyK (atK_ s 0)
  have cr := runEnd_any s 0 (Nat.zero_le _) hs
  have cq := int_beq (rne s 0) s.size
  unfold wrd saysB
  by_cases h1 : s = ⟨#[]⟩
  · have HF : Hid (s = ⟨#[]⟩) := h1
    have z1 : s.toList = [] := by rw [h1]; exact emptyL
    rw [decide_eq_true h1]
    clear h1 e2 ca cr cq
    go_enter Tryz.func47, Tryz.ntmps47
    go_wp2
    go_ret
    exact ⟨by simp, rfl⟩
  · have hp := size_posK h1
    have hidx := run_index_atK s 0 hp 0 rfl
    have z1 : ¬ s.toList = [] := fun e => h1 (toList_injK (e.trans emptyL.symm))
    rw [decide_eq_false h1]
    clear h1
    obtain ⟨c, hc⟩ : ∃ c, atK_ s 0 = c := ⟨_, rfl⟩
    rw [hc] at hidx ca
    rw [hc]
    obtain ⟨r, hr⟩ : ∃ r, rne s 0 = r := ⟨_, rfl⟩
    rw [hr] at cr cq
    rw [hr]
    clear hc hr
    cases a : sml c <;> cases b : decide (r = s.size) <;> cases d : decide (s = ⟨#[115, 97, 121, 115]⟩) <;>
      (rw [a] at ca; rw [b] at cq; rw [d] at e2; have z2 := e2.symm; simp only [decide_eq_true_eq, decide_eq_false_iff_not] at z2
       clear a b d e2
       go_enter Tryz.func47, Tryz.ntmps47
       go_wp2_with (first | (go_at_call 70; refine (ca _).mono ?_; rintro e w1 ⟨rfl, rfl⟩) | (go_at_call 71; refine (cr _).mono ?_; rintro e w1 ⟨rfl, rfl⟩))
       go_ret
       exact ⟨by simp [z1, z2], rfl⟩)
end Go.Proofs.YtcpjiahdaplhlaaGreatDoor
/-
  Bytes that a call lays; Quote, and ref's Quote.
-/
namespace Go.Proofs.YtcpjiahdaplhlaaGreatDoor
open Go.RowKit

theorem below1K (w : World) (o : Obj) : Below w.heap.size w (w.alloc o) := (Below.refl _ _).alloc (Nat.le_refl _) _
def ibs (l : List Int) : List Value := l.map (Value.int .u8)
/-- A list of bytes of the call's own. -/
def OwnB (w : World) (base : Nat) (v : Value) (l : List Int) : Prop := w.ownsRow base 5 1 v l.length (ibs l)
theorem OwnB.later {w w' : World} {base : Nat} {v : Value} {l : List Int} (h : OwnB w base v l) (hb : Below w.heap.size w w') : OwnB w' base v l := by
  refine ⟨h.1, ?_⟩
  rcases h.2 with hn | ⟨g, cap, cur, hv, hbb, hg, rest⟩
  · exact Or.inl hn
  · exact Or.inr ⟨g, cap, cur, hv, hbb, (hb.block g (Array.getElem?_eq_some_iff.1 hg).1).trans hg, rest⟩
theorem OwnB.lit (w : World) (l : List Int) (hl : l.length ≤ 100000000) : OwnB (w.alloc (.cells (ibs l).toArray 5)) w.heap.size (.slice (some ⟨w.heap.size, 0, none⟩) l.length l.length) l :=
  World.ownsRow_lit w (ibs l).toArray l.length (Nat.le_refl _) (by unfold maxLen; omega) (by simp [ibs])
theorem Tryz.infoU8 : (Tryz.prog.info? 5).map (fun i => (i.size, i.bytes, i.zero.map (·.cells.size))) = some (1, 1, some 1) := by kernel_rfl
theorem infoU8_parts : ∃ (i : TypeInfo) (z : Value), Tryz.prog.info? 5 = some i ∧ i.zero = some z ∧ i.size = 1 ∧ i.bytes = 1 ∧ z.cells.size = 1 := by
  have h := Tryz.infoU8
  cases hi : Tryz.prog.info? 5 with
  | none => rw [hi] at h; simp at h
  | some i =>
    rw [hi] at h
    simp only [Option.map_some, Option.some.injEq, Prod.mk.injEq] at h
    obtain ⟨h1, h2, h3⟩ := h
    cases hz : i.zero with
    | none => rw [hz] at h3; simp at h3
    | some z => rw [hz] at h3; simp only [Option.map_some, Option.some.injEq] at h3; exact ⟨i, z, rfl, hz, h1, h2, h3⟩
theorem grown_below {w w' : World} {base : Nat} {v : Value} (hg : w.grownBy w' v.ownBlock) (h : ∀ k, v.ownBlock = some k → base ≤ k) (hb : base ≤ w.heap.size) : Below base w w' :=
  ⟨hg.os, hg.tape, hg.output, hg.size, fun k hk => hg.block k (by omega) (fun e => by have := h k e.symm; omega)⟩
theorem app_bytes {ops : Array Oper} {rest : List Oper} {o : Oper} {a : Act} {Q : Exit → Act → World → Prop} {w : World} (hgd : o.guard = none) (s x : Operand)
    (ho : o.op = .call { callee := .builtin .append, args := #[s, x], argTypes := #[67, 67] }) (base : Nat) (v : Value) (l : List Int) (hs : a.eval s = v) (hown : OwnB w base v l)
    (b : Nat) (news : List Int) (hx : a.eval x = .slice (some ⟨b, 0, none⟩) news.length news.length) (hblk : w.heap[b]? = some (.cells (ibs news).toArray 5 (0, 0))) (hm : 0 < news.length) (hlen : l.length + news.length ≤ 100000000) (hbase : base ≤ w.heap.size)
    (h : ∀ v' w', OwnB w' base v' (l ++ news) → Below base w w' → wpList Tryz.prog ops Q rest (a.put o.dst v') w') : wpList Tryz.prog ops Q (o :: rest) a w := by
  obtain ⟨i, z, hi, hz0, hz1, hz2, hz3⟩ := infoU8_parts
  refine wpList_append_lies _ hgd s x 67 ho base 5 i z 1 1 Tryz.underlying67 hi hz0 hz1 hz2 hz3 (by omega) v l.length (ibs l) hs hown ⟨b, 0, none⟩ news.length news.length (ibs news) hx (by simp [ibs]) ?_ (by simp [ibs, Value.oneCell']) hm (by unfold maxLen; omega) (by omega) hbase _ rfl ?_
  · intro j u hj
    have := World.news_of_block (cs := (ibs news).toArray) (t := 5) (fr := (0, 0)) hblk j u
    exact this (by simpa using hj)
  · intro g cap w' h1 h2 h3 h4
    refine h _ w' ?_ (grown_below h2 (fun k hk => (World.ownsRow.lt hown k hk).1) hbase)
    unfold OwnB
    rw [List.length_append, show ibs (l ++ news) = ibs l ++ ibs news by simp [ibs]]
    exact h1
theorem step_bytes {ops : Array Oper} {o : Oper} {a : Act} {K : Act → World → Prop} {Q : Exit → Act → World → Prop} {E : Prop} {w : World} (hgd : o.guard = none) (s x : Operand)
    (ho : o.op = .call { callee := .builtin .append, args := #[s, x], argTypes := #[67, 67] }) (base : Nat) (v : Value) (l : List Int) (hs : a.eval s = v) (hown : OwnB w base v l)
    (b : Nat) (news : List Int) (hx : a.eval x = .slice (some ⟨b, 0, none⟩) news.length news.length) (hblk : w.heap[b]? = some (.cells (ibs news).toArray 5 (0, 0))) (hm : 0 < news.length) (hlen : l.length + news.length ≤ 100000000) (hbase : base ≤ w.heap.size)
    (h : ∀ v' w', OwnB w' base v' (l ++ news) → Below base w w' → K (a.put o.dst v') w') : if Region.wanted o (yielded ops a.tmps) = true then Oper.wp Tryz.prog o a w K Q else E := by
  obtain ⟨i, z, hi, hz0, hz1, hz2, hz3⟩ := infoU8_parts
  refine step_append_lies _ hgd s x 67 ho base 5 i z 1 1 Tryz.underlying67 hi hz0 hz1 hz2 hz3 (by omega) v l.length (ibs l) hs hown ⟨b, 0, none⟩ news.length news.length (ibs news) hx (by simp [ibs]) ?_ (by simp [ibs, Value.oneCell']) hm (by unfold maxLen; omega) (by omega) hbase _ rfl ?_
  · intro j u hj
    have := World.news_of_block (cs := (ibs news).toArray) (t := 5) (fr := (0, 0)) hblk j u
    exact this (by simpa using hj)
  · intro g cap w' h1 h2 h3 h4
    refine h _ w' ?_ (grown_below h2 (fun k hk => (World.ownsRow.lt hown k hk).1) hbase)
    unfold OwnB
    rw [List.length_append, show ibs (l ++ news) = ibs l ++ ibs news by simp [ibs]]
    exact h1
/-- Bytes as a text. -/
def i2b (l : List Int) : List UInt8 := l.map fun x => UInt8.ofNat x.toNat
def byt (l : List Int) : Prop := ∀ x ∈ l, 0 ≤ x ∧ x ≤ 255
theorem conv_bytes {w : World} {base : Nat} {v : Value} {l : List Int} (h : OwnB w base v l) (hl : 0 < l.length) (hb : byt l) : (convert 67 9 v).run Tryz.prog w = .ok (.string ⟨(i2b l).toArray⟩) w := by
  obtain ⟨g, cap, rfl, -, -⟩ := World.ownsRow.form h hl
  have e := run_convert_bytes_back (P := Tryz.prog) w 67 9 5 ⟨g, 0, none⟩ cap (i2b l) Tryz.underlying67 Tryz.underlying5 Tryz.underlying9 (fun j hj => by
    have hj' : j < l.length := by simpa [i2b] using hj
    rw [World.ownsRow.cells h (g := g) rfl j (.int .u8 l[j]) (by simp [ibs, hj'])]
    have := hb l[j] (List.getElem_mem hj')
    simp [i2b]; omega)
  rw [show (i2b l).length = l.length by simp [i2b]] at e
  exact e
/-- A digit. -/
def hxd (v : Int) : Int := if v < 10 then 48 + v else 87 + v
theorem hxd_all : ∀ m : Nat, (h : m < 16) → (((⟨#[48, 49, 50, 51, 52, 53, 54, 55, 56, 57, 97, 98, 99, 100, 101, 102]⟩ : ByteArray)[m]'h).toNat : Int) = hxd m := by decide
theorem run_index_hx (w : World) (k : IntKind) (i : Int) (h0 : 0 ≤ i) (h1 : i ≤ 15) :
    (Instr.index 9 (.string ⟨#[48, 49, 50, 51, 52, 53, 54, 55, 56, 57, 97, 98, 99, 100, 101, 102]⟩) (.int k i)).run Tryz.prog w = .ok (.int .u8 (hxd i)) w := by
  obtain ⟨n, rfl⟩ : ∃ n : Nat, i = n := ⟨i.toNat, by omega⟩
  have hn : n < 16 := by omega
  rw [run_index_string w 9 _ k _ Tryz.underlying9]
  have hs : (⟨#[48, 49, 50, 51, 52, 53, 54, 55, 56, 57, 97, 98, 99, 100, 101, 102]⟩ : ByteArray).size = 16 := rfl
  rw [dif_pos (by rw [hs]; omega)]
  have := hxd_all n hn
  simp only [Int.toNat_natCast]
  rw [this]
theorem hxd_rng (v : Int) (h0 : 0 ≤ v) (h1 : v ≤ 15) : 0 ≤ hxd v ∧ hxd v ≤ 255 := by unfold hxd; split <;> omega
/-- What stands for a byte in quotes. -/
def qb (c : Int) : List Int := if c = 34 ∨ c = 92 then [92, c] else if c = 10 then [92, 110] else if c = 9 then [92, 116] else if 32 ≤ c ∧ c ≤ 126 then [c] else [92, 120, hxd (c / 16), hxd (c % 16)]
def qtl (s : ByteArray) (j : Nat) : List Int := 34 :: (List.range j).flatMap (fun i => qb (atK_ s i))
theorem qtl_succ (s : ByteArray) (j : Nat) : qtl s (j + 1) = qtl s j ++ qb (atK_ s j) := by
  unfold qtl; rw [List.range_succ, List.flatMap_append]; simp
theorem qb_len (c : Int) : 0 < (qb c).length ∧ (qb c).length ≤ 4 := by
  unfold qb; split
  · simp
  · split
    · simp
    · split
      · simp
      · split <;> simp
theorem qtl_len (s : ByteArray) (j : Nat) : (qtl s j).length ≤ 4 * j + 1 := by
  induction j with
  | zero => simp [qtl]
  | succ j ih => rw [qtl_succ, List.length_append]; have := (qb_len (atK_ s j)).2; omega
theorem qb_byt (c : Int) (h0 : 0 ≤ c) (h1 : c ≤ 255) : byt (qb c) := by
  have a := hxd_rng (c / 16) (by omega) (by omega)
  have b := hxd_rng (c % 16) (by omega) (by omega)
  intro x hx
  unfold qb at hx
  split at hx
  · simp at hx; omega
  · split at hx
    · simp at hx; omega
    · split at hx
      · simp at hx; omega
      · split at hx
        · simp at hx; omega
        · simp at hx; omega
theorem qtl_byt (s : ByteArray) (j : Nat) : byt (qtl s j) := by
  induction j with
  | zero => intro x hx; simp [qtl] at hx; omega
  | succ j ih =>
    intro x hx
    rw [qtl_succ, List.mem_append] at hx
    rcases hx with hx | hx
    · exact ih x hx
    · exact qb_byt _ (at_range s j).1 (at_range s j).2 x hx
/-- The text in quotes. -/
def qtB (s : ByteArray) : ByteArray := ⟨(i2b (qtl s s.size ++ [34])).toArray⟩
set_option maxRecDepth 20000 in
theorem and15 : ∀ a : Nat, a < 256 → bits BinOp.and IntKind.u8 (a : Int) 15 = (a : Int) % 16 := by decide
theorem and15' (c : Int) (h0 : 0 ≤ c) (h1 : c ≤ 255) : bits BinOp.and IntKind.u8 c 15 = c % 16 := by
  obtain ⟨a, rfl⟩ : ∃ a : Nat, c = a := ⟨c.toNat, by omega⟩
  exact and15 a (by omega)
end Go.Proofs.YtcpjiahdaplhlaaGreatDoor

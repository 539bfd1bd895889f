import Derived.Test.YtcpjiahdaplhlaaGreatDoorRows
import Derived.WalkKit
import Derived.WalkSpells
import Derived.KernelRfl
import Derived.WalkSmall
import Derived.WalkMore
import Derived.Laws.AppendOwn
import Derived.Laws.OwnMore
import Derived.Deep.AppendLies
import Derived.Deep.CutRange
import Derived.Deep.DrawnRows
import Derived.Deep.RegionHeld3
import Derived.Laws.IdiomStrings
import Derived.Laws.BytesArg
import Derived.BigQuiet
import Derived.Maps.OwnSet
import Derived.Maps.OwnOps
/-
  Terms: what they are as plain data; Variable, Const, Principal.
-/
namespace Go.Proofs.YtcpjiahdaplhlaaGreatDoor
open Go.RowKit

structure Tm where
  k : Int
  n : Int
  s : ByteArray
deriving DecidableEq
abbrev Tm.v (t : Tm) : Value := .agg #[.int .i64 t.k, .int .i64 t.n, .string t.s]
def Tm.var (t : Tm) : Bool := decide (t.k = 3 ∧ 0 ≤ t.n ∧ t.s = ⟨#[]⟩)
def Tm.con (t : Tm) : Bool := decide ((t.k = 1 ∧ t.s = ⟨#[]⟩) ∨ (t.k = 2 ∧ t.n = 0 ∧ t.s.size ≤ 64))
def Tm.prin (t : Tm) : Bool := decide (t.k = 2 ∧ t.n = 0 ∧ t.s.size ≤ 64 ∧ t.s ≠ ⟨#[]⟩)
theorem ret_b {a b : Bool} (h : a = b) : Ending.returned (.bool a) = .returned (.bool b) := by rw [h]
theorem ret_i {a b : Int} (h : a = b) : Ending.returned (.int .i64 a) = .returned (.int .i64 b) := by rw [h]
theorem isE (s : ByteArray) : s.toList.isEmpty = decide (s = ⟨#[]⟩) := by
  obtain ⟨a⟩ := s
  rw [ByteArray.toList_eq]
  rcases a with ⟨l⟩
  cases l <;> simp
theorem below1 (w : World) (o : Obj) : Below w.heap.size w (w.alloc o) := (Below.refl _ _).alloc (Nat.le_refl _) _
theorem below2 (w : World) (o p : Obj) : Below w.heap.size w ((w.alloc o).alloc p) := (below1 w o).alloc (by simp) _

theorem bcell {W w1 : World} (hb : Below W.heap.size W w1) : (∀ b o, b < W.heap.size → w1.cell? ⟨b, o, none⟩ = W.cell? ⟨b, o, none⟩) ∧ (∀ b o, b < W.heap.size → w1.frozen? ⟨b, o, none⟩ = W.frozen? ⟨b, o, none⟩) :=
  ⟨fun b o h => hb.cell (p := ⟨b, o, none⟩) h, fun b o h => hb.frozen (p := ⟨b, o, none⟩) h⟩

set_option maxHeartbeats 400000 in
theorem var_any (t : Tm) (w : World) :
    Calls Tryz.prog 44 #[t.v] w fun e w' => e = .returned (.bool t.var) ∧ Below w.heap.size w w' := by
  obtain ⟨k, n, s⟩ := t
  unfold Tm.var
  go_enter Tryz.func44, Tryz.ntmps44
  go_wp2
  all_goals
    go_ret
    refine ⟨ret_b ?_, below1 _ _⟩
    simp_all [isE]
    try omega
set_option maxHeartbeats 400000 in
theorem con_any (t : Tm) (w : World) :
    Calls Tryz.prog 46 #[t.v] w fun e w' => e = .returned (.bool t.con) ∧ Below w.heap.size w w' := by
  obtain ⟨k, n, s⟩ := t
  unfold Tm.con
  go_enter Tryz.func46, Tryz.ntmps46
  go_wp2
  all_goals
    go_ret
    refine ⟨ret_b ?_, below1 _ _⟩
    simp_all [isE]
    try omega
theorem prin_eq (k n : Int) (s : ByteArray) (h : k = 2) (h' : s ≠ ⟨#[]⟩) : Tm.con ⟨k, n, s⟩ = Tm.prin ⟨k, n, s⟩ := by
  subst h; simp [Tm.con, Tm.prin, h']
theorem prin_no (k n : Int) (s : ByteArray) (h : ¬ (k = 2 ∧ s ≠ ⟨#[]⟩)) : false = Tm.prin ⟨k, n, s⟩ := by
  simp only [Tm.prin, ne_eq, Bool.false_eq, decide_eq_false_iff_not] at *
  exact fun x => h ⟨x.1, x.2.2.2⟩
set_option maxHeartbeats 400000 in
theorem prin_any (t : Tm) (w : World) :
    Calls Tryz.prog 132 #[t.v] w fun e w' => e = .returned (.bool t.prin) ∧ Below w.heap.size w w' := by
  obtain ⟨k, n, s⟩ := t
  by_cases h1 : k = 2
  · subst h1
    cases h2 : s.toList.isEmpty
    · have h3 : s ≠ ⟨#[]⟩ := by rw [isE] at h2; simpa using h2
      go_enter Tryz.func132, Tryz.ntmps132
      go_wp2_with (go_at_call 46; refine (con_any ⟨2, n, s⟩ _).mono ?_; rintro e w1 ⟨rfl, hb⟩)
      go_ret
      exact ⟨ret_b (prin_eq _ _ _ rfl h3), (below1 _ _).trans (hb.mono (by simp))⟩
    · have h3 : s = ⟨#[]⟩ := by rw [isE] at h2; simpa using h2
      go_enter Tryz.func132, Tryz.ntmps132
      go_wp2
      go_ret
      exact ⟨ret_b (prin_no _ _ _ (fun x => x.2 h3)), below1 _ _⟩
  · go_enter Tryz.func132, Tryz.ntmps132
    go_wp2
    go_ret
    exact ⟨ret_b (prin_no _ _ _ (fun x => h1 x.1)), below1 _ _⟩
end Go.Proofs.YtcpjiahdaplhlaaGreatDoor
/-
  Blocks, frames, lists of numbers that lie in given blocks.
-/
namespace Go.Proofs.YtcpjiahdaplhlaaGreatDoor
open Go.RowKit

theorem hm7 {p : Prop} (h : p) : Hid p := h
/-- A block of cells. -/
def Bk (w : World) (g : Nat) (c : Array Value) (t : TypeId) : Prop := w.heap[g]? = some (.cells c t (0, 0))
theorem Bk.lt {w : World} {g : Nat} {c : Array Value} {t : TypeId} (h : Bk w g c t) : g < w.heap.size := (Array.getElem?_eq_some_iff.1 h).1
theorem Bk.new (w : World) (c : Array Value) (t : TypeId) : Bk (w.alloc (.cells c t)) w.heap.size c t := heap_alloc_new _ _
theorem Bk.cell {w : World} {g : Nat} {c : Array Value} {t : TypeId} (h : Bk w g c t) {i : Nat} {v : Value} (hv : c[i]? = some v) : w.cell? ⟨g, i, none⟩ = some v := by
  unfold Bk at h
  simp [World.cell?, h, hv]
theorem Bk.froz {w : World} {g : Nat} {c : Array Value} {t : TypeId} (h : Bk w g c t) (i : Nat) : w.frozen? ⟨g, i, none⟩ = false := by
  unfold Bk at h
  simp [World.frozen?, h]
theorem Bk.set {w : World} {g : Nat} {c : Array Value} {t : TypeId} (h : Bk w g c t) (i : Nat) (v : Value) : Bk (w.setCell ⟨g, i, none⟩ v) g (c.setIfInBounds i v) t := heap_setCell_same _ _ _ _ _ _ h
/-- All blocks but those of P stay as they were. -/
structure Fr (P : Nat → Prop) (w w' : World) : Prop where
  os : w'.os = w.os
  tape : w'.tape = w.tape
  output : w'.output = w.output
  size : w.heap.size ≤ w'.heap.size
  block : ∀ k, k < w.heap.size → ¬ P k → w'.heap[k]? = w.heap[k]?
theorem Fr.of {P : Nat → Prop} {w w' : World} (h : Below w.heap.size w w') : Fr P w w' := ⟨h.os, h.tape, h.output, h.size, fun k hk _ => h.block k hk⟩
theorem Fr.refl (P : Nat → Prop) (w : World) : Fr P w w := Fr.of (Below.refl _ _)
theorem Fr.drew {P : Nat → Prop} {w w' : World} (h : Fr P w w') : Fr P w w'.drew := ⟨h.os, h.tape, h.output, h.size, h.block⟩
theorem Fr.trans {P Q : Nat → Prop} {a b c : World} (h : Fr P a b) (k : Fr Q b c) (hq : ∀ x, x < a.heap.size → Q x → P x) : Fr P a c :=
  ⟨k.os.trans h.os, k.tape.trans h.tape, k.output.trans h.output, Nat.le_trans h.size k.size, fun i hi hp => (k.block i (Nat.lt_of_lt_of_le hi h.size) (fun hc => hp (hq i hi hc))).trans (h.block i hi hp)⟩
theorem Fr.tr {P : Nat → Prop} {a b c : World} (h : Fr P a b) (k : Fr P b c) : Fr P a c := h.trans k fun _ _ hc => hc
theorem Fr.then {P : Nat → Prop} {a b c : World} (h : Fr P a b) (k : Below b.heap.size b c) : Fr P a c := h.tr (Fr.of k)
theorem Fr.mono {P Q : Nat → Prop} {w w' : World} (h : Fr P w w') (hq : ∀ x, x < w.heap.size → P x → Q x) : Fr Q w w' := ⟨h.os, h.tape, h.output, h.size, fun k hk hp => h.block k hk fun hc => hp (hq k hk hc)⟩
theorem Fr.grown {P : Nat → Prop} {w w' : World} {g : Option Nat} (h : w.grownBy w' g) (hp : ∀ k, g = some k → P k) : Fr P w w' :=
  ⟨h.os, h.tape, h.output, h.size, fun k hk hn => h.block k hk fun e => hn (hp k e.symm)⟩
theorem Fr.low {B : Nat} {w w' : World} (h : Fr (fun b => B ≤ b) w w') (hB : B ≤ w.heap.size) : Below B w w' := ⟨h.os, h.tape, h.output, h.size, fun k hk => h.block k (Nat.lt_of_lt_of_le hk hB) (by omega)⟩
theorem Fr.set {P : Nat → Prop} {w w' : World} (h : Fr P w w') {g i : Nat} {v : Value} (hg : P g ∨ w.heap.size ≤ g) : Fr P w (w'.setCell ⟨g, i, none⟩ v) := by
  have hb := Below.setCell (Below.refl g w') (p := ⟨g, i, none⟩) (Nat.le_refl _) v
  refine ⟨hb.os.trans h.os, hb.tape.trans h.tape, hb.output.trans h.output, Nat.le_trans h.size hb.size, fun k hk hn => ?_⟩
  rw [heap_setCell_other _ _ _ _ (show k ≠ g from fun e => by subst e; rcases hg with hg | hg; exact hn hg; omega)]
  exact h.block k hk hn
theorem Fr.cell {P : Nat → Prop} {w w' : World} (h : Fr P w w') {b o : Nat} {v : Value} (hb : b < w.heap.size) (hn : ¬ P b) (hc : w.cell? ⟨b, o, none⟩ = some v) : w'.cell? ⟨b, o, none⟩ = some v := by
  rw [World.cell?_of_block (w := w) (a := ⟨b, o, none⟩) (h.block b hb hn)]; exact hc
theorem Bk.fr {P : Nat → Prop} {w w' : World} {g : Nat} {c : Array Value} {t : TypeId} (h : Bk w g c t) (hf : Fr P w w') (hn : ¬ P g) : Bk w' g c t := (hf.block _ h.lt hn).trans h
theorem Bk.off {w : World} {g G i : Nat} {c : Array Value} {t : TypeId} {v : Value} (h : Bk w g c t) (hn : g ≠ G) : Bk (w.setCell ⟨G, i, none⟩ v) g c t := (heap_setCell_other _ _ _ _ hn).trans h
theorem Bk.below {w w' : World} {g : Nat} {c : Array Value} {t : TypeId} (h : Bk w g c t) (hb : Below w.heap.size w w') : Bk w' g c t := (hb.block _ h.lt).trans h
def Any (_ : Nat) : Prop := True
/-- A row that a call owns stays where its block stays. -/
theorem row7 {w w' : World} {base n m : Nat} {e : TypeId} {v : Value} {xs : List Value} (h : w.ownsRow base e n v m xs) (hs : ∀ g, v.ownBlock = some g → w'.heap[g]? = w.heap[g]?) : w'.ownsRow base e n v m xs := by
  refine ⟨h.1, ?_⟩
  rcases h.2 with hn | ⟨g, cap, cur, rfl, hbb, hg, rest⟩
  · exact Or.inl hn
  · exact Or.inr ⟨g, cap, cur, rfl, hbb, (hs g rfl).trans hg, rest⟩
theorem row7_fr {P : Nat → Prop} {w w' : World} {base n m : Nat} {e : TypeId} {v : Value} {xs : List Value} (h : w.ownsRow base e n v m xs) (hf : Fr P w w') (hn : ∀ g, v.ownBlock = some g → ¬ P g) : w'.ownsRow base e n v m xs :=
  row7 h fun g hg => hf.block g (h.lt g hg).2 (hn g hg)
theorem row7_below {w w' : World} {base n m : Nat} {e : TypeId} {v : Value} {xs : List Value} (h : w.ownsRow base e n v m xs) (hb : Below w.heap.size w w') : w'.ownsRow base e n v m xs :=
  row7 h fun g hg => hb.block g (h.lt g hg).2
theorem row7_form {w : World} {base n m : Nat} {e : TypeId} {v : Value} {xs : List Value} (h : w.ownsRow base e n v m xs) : ∃ a cap, v = .slice a m cap ∧ m ≤ cap := by
  rcases h.2 with ⟨rfl, hn⟩ | ⟨g, cap, cur, hv, _, _, hc, _⟩
  · exact ⟨none, 0, by rw [hn], by omega⟩
  · exact ⟨_, cap, hv, hc⟩
theorem row7_at {w : World} {base n m cap i : Nat} {a : Option Addr} {e : TypeId} {xs : List Value} {u : Value} (h : w.ownsRow base e n (.slice a m cap) m xs) (hu : xs[i]? = some u) : ∃ g, a = some ⟨g, 0, none⟩ ∧ base ≤ g ∧ g < w.heap.size ∧ w.cell? ⟨g, i, none⟩ = some u ∧ w.frozen? ⟨g, i, none⟩ = false := by
  rcases h.2 with ⟨hv, hn⟩ | ⟨g, cap', cur, hv, hb, hg, hn, hc, hs, ht⟩
  · have h1 : xs.length = 0 := by rw [h.1, hn, Nat.zero_mul]
    have := (List.getElem?_eq_some_iff.1 hu).1
    omega
  · simp only [Value.slice.injEq] at hv
    obtain ⟨rfl, -, rfl⟩ := hv
    refine ⟨g, rfl, hb, (Array.getElem?_eq_some_iff.1 hg).1, ?_, by simp [World.frozen?, hg]⟩
    rw [cell_of_row _ _ _ _ _ _ hg, ← Array.getElem?_toList]
    have h1 : (cur.toList.take (m * n))[i]? = xs[i]? := by rw [ht]
    rw [List.getElem?_take_of_lt (by have := (List.getElem?_eq_some_iff.1 hu).1; have := h.1; omega)] at h1
    rw [h1, hu]
end Go.Proofs.YtcpjiahdaplhlaaGreatDoor
/-
  Maps from texts: what they hold, value by value.
-/
namespace Go.Proofs.YtcpjiahdaplhlaaGreatDoor
open Go.RowKit

def rawE (v : Value) : Option (DataW Value × List MemPlace) := some (.held v, [])
def kS (s : ByteArray) : Lit := .string s.data.toList
theorem kS_inj {s t : ByteArray} (h : kS s = kS t) : s = t := by
  unfold kS at h
  injection h with h
  obtain ⟨⟨a⟩⟩ := s
  obtain ⟨⟨b⟩⟩ := t
  simp at h
  rw [h]
theorem kS_key (s : ByteArray) : WideAt.IsKeyLit (kS s) := by trivial
theorem owns_tight {w : World} {b n : Nat} {D : DataW Value} {P : Program} {k : TypeId} (h : w.ownsMap P k rawE b n D) : w.ownsMap P k rawE b (Maps.size D) D := by
  obtain ⟨es, clock, hb, F, hs, hD⟩ := h
  exact ⟨es, clock, hb, F, by rw [hD]; simp [Maps.size, length_sorted], hD⟩
/-- A map from texts, and what it holds. -/
structure Mp (P : Program) (k : TypeId) (w : World) (b n : Nat) (f : ByteArray → Option Value) : Prop where
  ex : ∃ D : DataW Value, w.ownsMap P k rawE b n D ∧ Maps.Tidy D ∧ Maps.size D = n ∧ ∀ s, Maps.has D (kS s) = (f s).isSome ∧ ∀ v, f s = some v → ∀ z, D.atKey (kS s) z = .held v
theorem Mp.lt {P : Program} {k : TypeId} {w : World} {b n : Nat} {f : ByteArray → Option Value} (h : Mp P k w b n f) : b < w.heap.size := by
  obtain ⟨D, h1, -⟩ := h.ex
  exact h1.lt
theorem Mp.made (P : Program) (k : TypeId) (w : World) : Mp P k (w.alloc (.map #[] 0)) w.heap.size 0 fun _ => none :=
  ⟨.map [], World.ownsMap_made w P k rawE, Maps.tidy_empty, rfl, fun s => ⟨rfl, fun v hv => by cases hv⟩⟩
theorem Mp.same {P : Program} {k : TypeId} {w w' : World} {b n : Nat} {f : ByteArray → Option Value} (h : Mp P k w b n f) (hb : w'.heap[b]? = w.heap[b]?) : Mp P k w' b n f := by
  obtain ⟨D, ⟨es, clock, h1, r⟩, h2⟩ := h.ex
  exact ⟨D, ⟨es, clock, hb.trans h1, r⟩, h2⟩
theorem Mp.fr {P : Program} {k : TypeId} {Q : Nat → Prop} {w w' : World} {b n : Nat} {f : ByteArray → Option Value} (h : Mp P k w b n f) (hf : Fr Q w w') (hn : ¬ Q b) : Mp P k w' b n f := h.same (hf.block b h.lt hn)
theorem Mp.has {P : Program} {k T E : TypeId} {w : World} {b n : Nat} {f : ByteArray → Option Value} (h : Mp P k w b n f) (hk : P.underlying k = some .string) (hT : P.underlying T = some (.map k E)) {z : Value} (hz : (zeroValue E).run P w = .ok z w) {s : ByteArray} (hs : s.size ≤ maxLen) :
    (Instr.lookup T (.map (some b)) (.string s) true).run P w = .ok (.tuple #[(f s).getD z, .bool (f s).isSome]) w := by
  obtain ⟨D, h1, h2, h3, h4⟩ := h.ex
  obtain ⟨v, ps, hr, hv⟩ := h1.look_ok (Maps.string_keyed hk) hT hz (show rawE z = some (.held z, []) from rfl) (key := .string s) (kl := kS s) (WideMaps.keyOf_string_mk hk hs)
  rw [hr, (h4 s).1]
  have e : DataW.held v = D.atKey (kS s) (.held z) := by
    have := congrArg (Option.map Prod.fst) hv
    simpa [rawE] using this
  have e2 : v = (f s).getD z := by
    cases hf : f s with
    | some u => rw [(h4 s).2 u hf] at e; injection e
    | none =>
      have hh := (h4 s).1
      rw [hf] at hh
      rw [Maps.atKey_of_not_has hh] at e
      injection e
  rw [e2]
def mput (f : ByteArray → Option Value) (s : ByteArray) (v : Value) : ByteArray → Option Value := fun x => if x = s then some v else f x
theorem Mp.store {P : Program} {k T E : TypeId} {w : World} {b n : Nat} {f : ByteArray → Option Value} (h : Mp P k w b n f) (hk : P.underlying k = some .string) (hT : P.underlying T = some (.map k E)) (hn : n < maxLen) {s : ByteArray} (hs : s.size ≤ maxLen) (v : Value) :
    ∃ w', (Instr.mapUpdate T (.map (some b)) (.string s) v).run P w = .ok () w' ∧ Mp P k w' b (if (f s).isSome then n else n + 1) (mput f s v) ∧ w.grownBy w' (some b) := by
  obtain ⟨D, h1, h2, h3, h4⟩ := h.ex
  obtain ⟨w', hr, ho, ht⟩ := h1.store (Maps.string_keyed hk) hT hn (key := .string s) (kl := kS s) (WideMaps.keyOf_string_mk hk hs) (show rawE v = some (.held v, []) from rfl)
  have hsz : Maps.size (D.put (kS s) (.held v)) = if (f s).isSome then n else n + 1 := by rw [Maps.size_put h2, (h4 s).1, h3]
  have ho' := owns_tight ho
  rw [hsz] at ho'
  refine ⟨w', hr, ⟨_, ho', h2.put (kS_key s) _, hsz, fun x => ?_⟩, ht.grown⟩
  by_cases e : x = s
  · subst e
    refine ⟨by rw [Maps.has_put_same h2.isMap (kS_key _)]; simp [mput], fun u hu z => ?_⟩
    have hu : some v = some u := by simpa [mput] using hu
    cases hu
    exact Maps.atKey_put_same h2.isMap (kS_key _) _ _
  · have hne : kS x ≠ kS s := fun h => e (kS_inj h)
    refine ⟨by rw [Maps.has_put_other hne, (h4 x).1]; simp [mput, e], fun u hu z => ?_⟩
    simp only [mput, if_neg e] at hu
    rw [Maps.atKey_put_other hne]
    exact (h4 x).2 u hu z
end Go.Proofs.YtcpjiahdaplhlaaGreatDoor
/-
  slices.Index and Contains of numbers. (Written by SY0.py, out of CD7.)
-/
namespace Go.Proofs.YtcpjiahdaplhlaaGreatDoor
open Go.RowKit
attribute [local go_sem ↓] Go.wp_at_zero Go.wp_at_succ

def Nm5 (w : World) (v : Value) (cs : List Int) : Prop := ∃ b cap, v = .slice (some ⟨b, 0, none⟩) cs.length cap ∧ cs.length ≤ 100 ∧ ∀ (i : Nat) (x : Int), cs[i]? = some x → w.cell? ⟨b, i, none⟩ = some (.int .i64 x)
set_option maxRecDepth 20000 in
set_option maxHeartbeats 1000000 in
theorem index5_any (cs : List Int) (v : Value) (n : Int) (w : World) (h : Nm5 w v cs) :
    Calls Tryz.prog 161 #[v, .int .i64 n] w fun e w' => w' = w ∧ ∃ k : Int, e = .returned (.int .i64 k) ∧ (0 ≤ k ↔ n ∈ cs) := by
  obtain ⟨b, cap, rfl, h100, hc⟩ := h
  have HC : Hid (∀ (i : Nat) (x : Int), cs[i]? = some x → w.cell? ⟨b, i, none⟩ = some (.int .i64 x)) := hc
  clear hc
  go_enter Tryz.func161, Tryz.ntmps161
  go_wp2
  go_loopg [8] cs.length (fun j' i wr => wr = w ∧ ∃ j : Nat, j + j' = cs.length ∧ i = .int .i64 j ∧ n ∉ cs.take j)
  case atStart => exact ⟨rfl, 0, by omega, rfl, by simp⟩
  case round =>
    obtain ⟨rfl, j, hj, rfl, hno⟩ := hrel
    have HN : Hid (n ∉ cs.take j) := hno
    clear hno
    cases gk with
    | succ g' =>
      have hlt : j < cs.length := by omega
      obtain ⟨x, hx⟩ : ∃ x, cs[j]? = some x := ⟨_, List.getElem?_eq_getElem hlt⟩
      have c0 := HC.out j x hx
      have i1 : (0 : Int) ≤ (j : Int) := by omega
      have i2 : (j : Int) < (cs.length : Int) := by omega
      have HX : Hid (cs[j]? = some x) := hx
      clear hx
      by_cases he : n = x
      · subst he
        go_wp2
        go_ret
        exact ⟨rfl, _, rfl, ⟨fun _ => List.mem_of_getElem? HX.out, fun _ => by omega⟩⟩
      · have he' : (n == x) = false := beq_eq_false_iff_ne.2 he
        have HE : Hid (n ≠ x) := he
        clear he
        go_wp2
        go_roundg g'
        case measure => omega
        case rel =>
          refine ⟨rfl, j + 1, by omega, by go_num, ?_⟩
          rw [List.take_add_one, HX.out]
          intro hm
          rcases List.mem_append.1 hm with hm | hm
          · exact HN.out hm
          · simp at hm; exact HE.out hm
    | zero =>
      obtain rfl : j = cs.length := by omega
      have hz : ¬ ((cs.length : Int) < (cs.length : Int)) := by omega
      go_wp2
      go_ret
      refine ⟨rfl, _, rfl, ⟨fun h => by omega, fun h => ?_⟩⟩
      have := HN.out
      rw [List.take_length] at this
      exact absurd h this
set_option maxRecDepth 20000 in
set_option maxHeartbeats 1000000 in
theorem cont5_any (cs : List Int) (v : Value) (n : Int) (w : World) (h : Nm5 w v cs) :
    Calls Tryz.prog 123 #[v, .int .i64 n] w fun e w' => e = .returned (.bool (decide (n ∈ cs))) ∧ w' = w := by
  have HI : Hid (Calls Tryz.prog 161 #[v, .int .i64 n] w fun e w' => w' = w ∧ ∃ k : Int, e = .returned (.int .i64 k) ∧ (0 ≤ k ↔ n ∈ cs)) := index5_any cs v n w h
  clear h
  by_cases hm : n ∈ cs
  · rw [decide_eq_true hm]
    go_enter Tryz.func123, Tryz.ntmps123
    go_wp2_with (go_at_call 161; refine HI.out.mono ?_; rintro e w1 ⟨rfl, k, rfl, hk⟩; have hk' := hk.2 hm; clear hk)
    go_ret
    exact ⟨rfl, rfl⟩
  · rw [decide_eq_false hm]
    go_enter Tryz.func123, Tryz.ntmps123
    go_wp2_with (go_at_call 161; refine HI.out.mono ?_; rintro e w1 ⟨rfl, k, rfl, hk⟩; have hk' : ¬ 0 ≤ k := fun h => hm (hk.1 h); clear hk)
    go_ret
    exact ⟨ret_b (decide_eq_false (by omega)), rfl⟩
end Go.Proofs.YtcpjiahdaplhlaaGreatDoor

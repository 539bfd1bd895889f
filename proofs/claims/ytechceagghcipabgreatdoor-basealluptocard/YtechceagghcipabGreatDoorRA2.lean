import Derived.Deep.RegionHeld3
import Derived.Test.YtechceagghcipabGreatDoorProg
import Derived.Test.YtechceagghcipabGreatDoorRows
import Derived.WalkKit
import Derived.WalkSpells
import Derived.KernelRfl
import Derived.WalkSmall
import Derived.WalkMore
import Derived.Laws.AppendOwn
import Derived.Laws.OwnMore
import Derived.Deep.AppendLies
import Derived.Deep.CutRange
import Derived.Deep.DrawnRows
import Derived.Laws.IdiomStrings
import Derived.Laws.BytesArg
import Derived.BigQuiet
import Derived.Maps.OwnSet
import Derived.Maps.OwnOps
namespace Go.Proofs.YtechceagghcipabGreatDoor
theorem wA (a : Act) (d : Option Tmp) (v : Value) : a.put d v = match d with
  | some d => { a with tmps := a.tmps.setIfInBounds d v }
  | none => a := rfl
theorem wB {α : Type} (l : List α) (i : Nat) (a : α) : l.toArray.setIfInBounds i a = (l.set i a).toArray := List.setIfInBounds_toArray ..
theorem wC {α : Type} (a b : α) (l : List α) : (a :: l).set 0 b = b :: l := List.set_cons_zero ..
theorem wD {α : Type} (a b : α) (l : List α) (n : Nat) : (a :: l).set (n + 1) b = a :: l.set n b := List.set_cons_succ ..
theorem wTk {P : Program} {ops : Array Oper} {Q : Exit → Act → World → Prop} {md : Region.Mode} {S : World → Prop} (i : Nat) (v : Value) {x1 x2 x3 x4 x5 x6} {fuel : Nat} {listed : Array Bool} {a : Act} {w : World} (hi : ops[i]? = some ⟨x1, x2, x3, x4, x5, x6⟩) (hc : (Region.noSelect ops && (Region.free md ops listed i && (Region.ready md ops listed).contains i)) = true)
    (hQ : ∀ c a w, Q (.panic c) (a.put x1 v) w → Q (.panic c) a w) (hy : YieldsIf P ops S ⟨x1, x2, x3, x4, x5, x6⟩ v a) (hS : S w) (h : wpAnyH P md ops Q S fuel (listed.setIfInBounds i true) (a.put x1 v) w) : wpAnyH P md ops Q S (fuel + 1) listed a w := by
  rw [Bool.and_eq_true, Bool.and_eq_true] at hc
  exact wpAnyH_take hi hc.1 hc.2.1 hc.2.2 hQ hy hS h
theorem wTl {P : Program} {ops : Array Oper} {Q : Exit → Act → World → Prop} {md : Region.Mode} {S : World → Prop} (i : Nat) (v : Value) {x1 x2 x3 x4 x5 x6} {fuel : Nat} {listed : Array Bool} {a : Act} {w : World} (hi : ops[i]? = some ⟨x1, x2, x3, x4, x5, x6⟩) (hc : (Region.noSelect ops && (Region.free md ops listed i && (Region.ready md ops listed).contains i)) = true)
    (hQ : ∀ c a w, Q (.panic c) (a.put x1 v) w → Q (.panic c) a w) (hw : Region.wanted ⟨x1, x2, x3, x4, x5, x6⟩ (yielded ops a.tmps) = true) (hy : ∀ w, S w → (execOp a.eval ⟨x1, x2, x3, x4, x5, x6⟩).run P w = .ok (.value v) w) (hS : S w) (h : wpAnyH P md ops Q S fuel (listed.setIfInBounds i true) (a.put x1 v) w) : wpAnyH P md ops Q S (fuel + 1) listed a w := by
  exact wTk i v hi hc hQ (Or.inl ⟨hw, hy⟩) hS h
theorem wRd {P : Program} {ops : Array Oper} {Q : Exit → Act → World → Prop} {md : Region.Mode} {S : World → Prop} (i : Nat) {x1 x2 x3 x4 x5 x6} {fuel : Nat} {listed : Array Bool} {a : Act} {w : World} (hr : Region.ready md ops listed = [i]) (ho : ops[i]? = some ⟨x1, x2, x3, x4, x5, x6⟩)
    (h : ∀ K' : Act → World → Prop, Shut (∀ a w, S w → (S w → wpAnyH P md ops Q S fuel (listed.setIfInBounds i true) a w) → K' a w) → if Region.wanted ⟨x1, x2, x3, x4, x5, x6⟩ (yielded ops a.tmps) = true then Oper.wp P ⟨x1, x2, x3, x4, x5, x6⟩ a w K' Q else K' (a.put x1 undef) w) : wpAnyH P md ops Q S (fuel + 1) listed a w := wpAnyH_ready hr (by simp) (AllReadyH.cons ho h AllReadyH.nil)
end Go.Proofs.YtechceagghcipabGreatDoor
namespace Go.Proofs.YtechceagghcipabGreatDoor
open Go.RowKit
structure Tm where
 k : Int
 n : Int
 s : ByteArray
deriving DecidableEq
abbrev Tm.v (t : Tm) : Value := .agg #[.int .i64 t.k, .int .i64 t.n, .string t.s]
def Tm.var (t : Tm) : Bool := decide (t.k = 3 /\ 0 <= t.n /\ t.s = ⟨#[]⟩)
def Tm.con (t : Tm) : Bool := decide ((t.k = 1 /\ t.s = ⟨#[]⟩) ∨ (t.k = 2 /\ t.n = 0 /\ t.s.size <= 64))
def Tm.prin (t : Tm) : Bool := decide (t.k = 2 /\ t.n = 0 /\ t.s.size <= 64 /\ t.s ≠ ⟨#[]⟩)
theorem ret_b {a b : Bool} (h : a = b) : Ending.returned (.bool a) = .returned (.bool b) := by rw [h]
theorem ret_i {a b : Int} (h : a = b) : Ending.returned (.int .i64 a) = .returned (.int .i64 b) := by rw [h]
theorem isE (s : ByteArray) : s.toList.isEmpty = decide (s = ⟨#[]⟩) := by
 obtain ⟨a⟩ := s
 rw [ByteArray.toList_eq]
 rcases a with ⟨l⟩
 cases l <;> simp
theorem below1 (w : World) (o : Obj) : Below w.heap.size w (w.alloc o) := (Below.refl _ _).alloc (Nat.le_refl _) _
theorem below2 (w : World) (o p : Obj) : Below w.heap.size w ((w.alloc o).alloc p) := (below1 w o).alloc (by simp) _
theorem bcell {W w1 : World} (hb : Below W.heap.size W w1) : (∀ b o, b < W.heap.size -> w1.cell? ⟨b, o, none⟩ = W.cell? ⟨b, o, none⟩) /\ (∀ b o, b < W.heap.size -> w1.frozen? ⟨b, o, none⟩ = W.frozen? ⟨b, o, none⟩) :=
 ⟨fun b o h => hb.cell (p := ⟨b, o, none⟩) h, fun b o h => hb.frozen (p := ⟨b, o, none⟩) h⟩
set_option maxHeartbeats 400000 in
theorem var_any (t : Tm) (w : World) :
  Calls Tryz.prog 61 #[t.v] w fun e w' => e = .returned (.bool t.var) /\ Below w.heap.size w w' := by
 obtain ⟨k, n, s⟩ := t
 unfold Tm.var
 go_enter Tryz.func61, Tryz.ntmps61
 go_wp2
 all_goals
  go_ret
  refine ⟨ret_b ?_, below1 _ _⟩
  simp_all [isE]
  try omega
set_option maxHeartbeats 400000 in
theorem con_any (t : Tm) (w : World) :
  Calls Tryz.prog 124 #[t.v] w fun e w' => e = .returned (.bool t.con) /\ Below w.heap.size w w' := by
 obtain ⟨k, n, s⟩ := t
 unfold Tm.con
 go_enter Tryz.func124, Tryz.ntmps124
 go_wp2
 all_goals
  go_ret
  refine ⟨ret_b ?_, below1 _ _⟩
  simp_all [isE]
  try omega
theorem prin_eq (k n : Int) (s : ByteArray) (h : k = 2) (h' : s ≠ ⟨#[]⟩) : Tm.con ⟨k, n, s⟩ = Tm.prin ⟨k, n, s⟩ := by
 subst h; simp [Tm.con, Tm.prin, h']
theorem prin_no (k n : Int) (s : ByteArray) (h : ¬ (k = 2 /\ s ≠ ⟨#[]⟩)) : false = Tm.prin ⟨k, n, s⟩ := by
 simp only [Tm.prin, ne_eq, Bool.false_eq, decide_eq_false_iff_not] at *
 exact fun x => h ⟨x.1, x.2.2.2⟩
set_option maxHeartbeats 400000 in
theorem prin_any (t : Tm) (w : World) :
  Calls Tryz.prog 123 #[t.v] w fun e w' => e = .returned (.bool t.prin) /\ Below w.heap.size w w' := by
 obtain ⟨k, n, s⟩ := t
 by_cases h1 : k = 2
 ·subst h1
  cases h2 : s.toList.isEmpty
  ·have h3 : s ≠ ⟨#[]⟩ := by rw [isE] at h2; simpa using h2
   go_enter Tryz.func123, Tryz.ntmps123
   go_wp2_with (go_at_call 124; refine (con_any ⟨2, n, s⟩ _).mono ?_; rintro e w1 ⟨rfl, hb⟩)
   go_ret
   exact ⟨ret_b (prin_eq _ _ _ rfl h3), (below1 _ _).trans (hb.mono (by simp))⟩
  ·have h3 : s = ⟨#[]⟩ := by rw [isE] at h2; simpa using h2
   go_enter Tryz.func123, Tryz.ntmps123
   go_wp2
   go_ret
   exact ⟨ret_b (prin_no _ _ _ (fun x => x.2 h3)), below1 _ _⟩
 ·go_enter Tryz.func123, Tryz.ntmps123
  go_wp2
  go_ret
  exact ⟨ret_b (prin_no _ _ _ (fun x => h1 x.1)), below1 _ _⟩
end Go.Proofs.YtechceagghcipabGreatDoor
namespace Go.Proofs.YtechceagghcipabGreatDoor
open Go.RowKit
theorem hm7 {p : Prop} (h : p) : Hid p := h
def Bk (w : World) (g : Nat) (c : Array Value) (t : TypeId) : Prop := w.heap[g]? = some (.cells c t (0, 0))
theorem Bk.lt {w : World} {g : Nat} {c : Array Value} {t : TypeId} (h : Bk w g c t) : g < w.heap.size := (Array.getElem?_eq_some_iff.1 h).1
theorem Bk.new (w : World) (c : Array Value) (t : TypeId) : Bk (w.alloc (.cells c t)) w.heap.size c t := heap_alloc_new _ _
theorem Bk.cell {w : World} {g : Nat} {c : Array Value} {t : TypeId} (h : Bk w g c t) {i : Nat} {v : Value} (hv : c[i]? = some v) : w.cell? ⟨g, i, none⟩ = some v := by
 unfold Bk at h
 simp [World.cell?, h, hv]
theorem Bk.froz {w : World} {g : Nat} {c : Array Value} {t : TypeId} (h : Bk w g c t) (i : Nat) : w.frozen? ⟨g, i, none⟩ = false := by
 unfold Bk at h
 simp [World.frozen?, h]
theorem Bk.set {w : World} {g : Nat} {c : Array Value} {t : TypeId} (h : Bk w g c t) (i : Nat) (v : Value) : Bk (w.setCell ⟨g, i, none⟩ v) g (c.setIfInBounds i v) t := heap_setCell_same _ _ _ _ _ _ h
structure Fr (P : Nat -> Prop) (w w' : World) : Prop where
 os : w'.os = w.os
 tape : w'.tape = w.tape
 output : w'.output = w.output
 size : w.heap.size <= w'.heap.size
 block : ∀ k, k < w.heap.size -> ¬ P k -> w'.heap[k]? = w.heap[k]?
theorem Fr.of {P : Nat -> Prop} {w w' : World} (h : Below w.heap.size w w') : Fr P w w' := ⟨h.os, h.tape, h.output, h.size, fun k hk _ => h.block k hk⟩
theorem Fr.refl (P : Nat -> Prop) (w : World) : Fr P w w := Fr.of (Below.refl _ _)
theorem Fr.drew {P : Nat -> Prop} {w w' : World} (h : Fr P w w') : Fr P w w'.drew := ⟨h.os, h.tape, h.output, h.size, h.block⟩
theorem Fr.trans {P Q : Nat -> Prop} {a b c : World} (h : Fr P a b) (k : Fr Q b c) (hq : ∀ x, x < a.heap.size -> Q x -> P x) : Fr P a c :=
 ⟨k.os.trans h.os, k.tape.trans h.tape, k.output.trans h.output, Nat.le_trans h.size k.size, fun i hi hp => (k.block i (Nat.lt_of_lt_of_le hi h.size) (fun hc => hp (hq i hi hc))).trans (h.block i hi hp)⟩
theorem Fr.tr {P : Nat -> Prop} {a b c : World} (h : Fr P a b) (k : Fr P b c) : Fr P a c := h.trans k fun _ _ hc => hc
theorem Fr.then {P : Nat -> Prop} {a b c : World} (h : Fr P a b) (k : Below b.heap.size b c) : Fr P a c := h.tr (Fr.of k)
theorem Fr.mono {P Q : Nat -> Prop} {w w' : World} (h : Fr P w w') (hq : ∀ x, x < w.heap.size -> P x -> Q x) : Fr Q w w' := ⟨h.os, h.tape, h.output, h.size, fun k hk hp => h.block k hk fun hc => hp (hq k hk hc)⟩
theorem Fr.below {P : Nat -> Prop} {w w' : World} (h : Fr P w w') (hp : ∀ x, x < w.heap.size -> ¬ P x) : Below w.heap.size w w' := ⟨h.os, h.tape, h.output, h.size, fun k hk => h.block k hk (hp k hk)⟩
theorem Fr.grown {P : Nat -> Prop} {w w' : World} {g : Option Nat} (h : w.grownBy w' g) (hp : ∀ k, g = some k -> P k) : Fr P w w' :=
 ⟨h.os, h.tape, h.output, h.size, fun k hk hn => h.block k hk fun e => hn (hp k e.symm)⟩
theorem Fr.low {B : Nat} {w w' : World} (h : Fr (fun b => B <= b) w w') (hB : B <= w.heap.size) : Below B w w' := ⟨h.os, h.tape, h.output, h.size, fun k hk => h.block k (Nat.lt_of_lt_of_le hk hB) (by omega)⟩
theorem Fr.alloc {P : Nat -> Prop} {w w' : World} (h : Fr P w w') (o : Obj) : Fr P w (w'.alloc o) := h.then (below1 _ _)
theorem Fr.set {P : Nat -> Prop} {w w' : World} (h : Fr P w w') {g i : Nat} {v : Value} (hg : P g ∨ w.heap.size <= g) : Fr P w (w'.setCell ⟨g, i, none⟩ v) := by
 have hb := Below.setCell (Below.refl g w') (p := ⟨g, i, none⟩) (Nat.le_refl _) v
 refine ⟨hb.os.trans h.os, hb.tape.trans h.tape, hb.output.trans h.output, Nat.le_trans h.size hb.size, fun k hk hn => ?_⟩
 rw [heap_setCell_other _ _ _ _ (show k ≠ g from fun e => by subst e; rcases hg with hg | hg; exact hn hg; omega)]
 exact h.block k hk hn
theorem Fr.cell {P : Nat -> Prop} {w w' : World} (h : Fr P w w') {b o : Nat} {v : Value} (hb : b < w.heap.size) (hn : ¬ P b) (hc : w.cell? ⟨b, o, none⟩ = some v) : w'.cell? ⟨b, o, none⟩ = some v := by
 rw [World.cell?_of_block (w := w) (a := ⟨b, o, none⟩) (h.block b hb hn)]; exact hc
theorem Bk.fr {P : Nat -> Prop} {w w' : World} {g : Nat} {c : Array Value} {t : TypeId} (h : Bk w g c t) (hf : Fr P w w') (hn : ¬ P g) : Bk w' g c t := (hf.block _ h.lt hn).trans h
theorem Bk.off {w : World} {g G i : Nat} {c : Array Value} {t : TypeId} {v : Value} (h : Bk w g c t) (hn : g ≠ G) : Bk (w.setCell ⟨G, i, none⟩ v) g c t := (heap_setCell_other _ _ _ _ hn).trans h
theorem Bk.below {w w' : World} {g : Nat} {c : Array Value} {t : TypeId} (h : Bk w g c t) (hb : Below w.heap.size w w') : Bk w' g c t := (hb.block _ h.lt).trans h
def w64 (l : List Int) : Prop := ∀ x ∈ l, (Lit.int .i64 x).wf = true
def Li (F : Nat -> Prop) (w : World) (v : Value) (l : List Int) : Prop :=
 ∃ a cap, v = .slice a l.length cap /\ l.length <= cap /\ cap <= 9223372036854775807 /\ w64 l /\ ((l = [] /\ (a = none -> cap = 0)) ∨ ∃ b o, a = some ⟨b, o, none⟩ /\ b < w.heap.size /\ F b /\ ∀ (i : Nat) (x : Int), l[i]? = some x -> w.cell? ⟨b, o + i, none⟩ = some (.int .i64 x))
theorem Li.mono {F G : Nat -> Prop} {w : World} {v : Value} {l : List Int} (h : Li F w v l) (hg : ∀ b, b < w.heap.size -> F b -> G b) : Li G w v l := by
 obtain ⟨a, cap, rfl, h1, h2, h3, h4⟩ := h
 refine ⟨a, cap, rfl, h1, h2, h3, ?_⟩
 rcases h4 with h4 | ⟨b, o, rfl, h4, h5, h6⟩
 ·exact Or.inl h4
 ·exact Or.inr ⟨b, o, rfl, h4, hg b h4 h5, h6⟩
theorem Li.fr {F P : Nat -> Prop} {w w' : World} {v : Value} {l : List Int} (h : Li F w v l) (hf : Fr P w w') (hn : ∀ b, b < w.heap.size -> F b -> ¬ P b) : Li F w' v l := by
 obtain ⟨a, cap, rfl, h1, h2, h3, h4⟩ := h
 refine ⟨a, cap, rfl, h1, h2, h3, ?_⟩
 rcases h4 with h4 | ⟨b, o, rfl, h4, h5, h6⟩
 ·exact Or.inl h4
 ·exact Or.inr ⟨b, o, rfl, Nat.lt_of_lt_of_le h4 hf.size, h5, fun i x hx => hf.cell h4 (hn b h4 h5) (h6 i x hx)⟩
theorem Li.below {F : Nat -> Prop} {w w' : World} {v : Value} {l : List Int} (h : Li F w v l) (hb : Below w.heap.size w w') : Li F w' v l := h.fr (P := fun _ => False) (Fr.of hb) fun _ _ _ h => h
theorem Li.nil (F : Nat -> Prop) (w : World) : Li F w (.slice none 0 0) [] := ⟨none, 0, rfl, by simp, by simp, (by intro x hx; simp at hx), Or.inl ⟨rfl, fun _ => rfl⟩⟩
def Any (_ : Nat) : Prop := True
theorem Li.any {F : Nat -> Prop} {w : World} {v : Value} {l : List Int} (h : Li F w v l) : Li Any w v l := h.mono fun _ _ _ => trivial
theorem Li.w {F : Nat -> Prop} {w : World} {v : Value} {l : List Int} (h : Li F w v l) : w64 l := by obtain ⟨a, cap, rfl, h1, h2, h3, -⟩ := h; exact h3
def ibs7 (l : List Int) : List Value := l.map (.int .i64)
def OwI (w : World) (base : Nat) (v : Value) (l : List Int) : Prop := w.ownsRow base 3 1 v l.length (ibs7 l)
theorem OwI.nil (w : World) (base : Nat) : OwI w base (.slice none 0 0) [] := World.ownsRow_nil _ _ _ _
theorem OwI.li {w : World} {base : Nat} {v : Value} {l : List Int} (h : OwI w base v l) (hw : w64 l) : Li (fun b => base <= b /\ v.ownBlock = some b) w v l := by
 rcases h.2 with ⟨rfl, hn⟩ | ⟨g, cap, cur, rfl, hb, hg, hn, hc, hs, ht⟩
 ·have : l = [] := List.eq_nil_of_length_eq_zero hn
  subst this
  exact Li.nil _ _
 ·refine ⟨_, cap, rfl, hn, by unfold maxLen at hc; omega, hw, Or.inr ⟨g, 0, rfl, (Array.getElem?_eq_some_iff.1 hg).1, ⟨hb, rfl⟩, fun i x hx => ?_⟩⟩
  rw [cell_of_row _ _ _ _ _ _ hg, Nat.zero_add]
  have hi := (List.getElem?_eq_some_iff.1 hx).1
  have h1 : (cur.toList.take (l.length * 1))[i]? = (ibs7 l)[i]? := by rw [ht]
  rw [List.getElem?_take_of_lt (by omega)] at h1
  rw [<- Array.getElem?_toList, h1]
  simp [ibs7, hx]
theorem OwI.mono {w : World} {b b' : Nat} {v : Value} {l : List Int} (h : OwI w b v l) (hb : b' <= b) : OwI w b' v l := by
 refine ⟨h.1, ?_⟩
 rcases h.2 with hn | ⟨g, cap, cur, hv, hbb, hg, rest⟩
 ·exact Or.inl hn
 ·exact Or.inr ⟨g, cap, cur, hv, Nat.le_trans hb hbb, hg, rest⟩
theorem row7 {w w' : World} {base n m : Nat} {e : TypeId} {v : Value} {xs : List Value} (h : w.ownsRow base e n v m xs) (hs : ∀ g, v.ownBlock = some g -> w'.heap[g]? = w.heap[g]?) : w'.ownsRow base e n v m xs := by
 refine ⟨h.1, ?_⟩
 rcases h.2 with hn | ⟨g, cap, cur, rfl, hbb, hg, rest⟩
 ·exact Or.inl hn
 ·exact Or.inr ⟨g, cap, cur, rfl, hbb, (hs g rfl).trans hg, rest⟩
theorem row7_fr {P : Nat -> Prop} {w w' : World} {base n m : Nat} {e : TypeId} {v : Value} {xs : List Value} (h : w.ownsRow base e n v m xs) (hf : Fr P w w') (hn : ∀ g, v.ownBlock = some g -> ¬ P g) : w'.ownsRow base e n v m xs :=
 row7 h fun g hg => hf.block g (h.lt g hg).2 (hn g hg)
theorem row7_below {w w' : World} {base n m : Nat} {e : TypeId} {v : Value} {xs : List Value} (h : w.ownsRow base e n v m xs) (hb : Below w.heap.size w w') : w'.ownsRow base e n v m xs :=
 row7 h fun g hg => hb.block g (h.lt g hg).2
theorem row7_form {w : World} {base n m : Nat} {e : TypeId} {v : Value} {xs : List Value} (h : w.ownsRow base e n v m xs) : ∃ a cap, v = .slice a m cap /\ m <= cap := by
 rcases h.2 with ⟨rfl, hn⟩ | ⟨g, cap, cur, hv, _, _, hc, _⟩
 ·exact ⟨none, 0, by rw [hn], by omega⟩
 ·exact ⟨_, cap, hv, hc⟩
theorem row7_at {w : World} {base n m cap i : Nat} {a : Option Addr} {e : TypeId} {xs : List Value} {u : Value} (h : w.ownsRow base e n (.slice a m cap) m xs) (hu : xs[i]? = some u) : ∃ g, a = some ⟨g, 0, none⟩ /\ base <= g /\ g < w.heap.size /\ w.cell? ⟨g, i, none⟩ = some u /\ w.frozen? ⟨g, i, none⟩ = false := by
 rcases h.2 with ⟨hv, hn⟩ | ⟨g, cap', cur, hv, hb, hg, hn, hc, hs, ht⟩
 ·have h1 : xs.length = 0 := by rw [h.1, hn, Nat.zero_mul]
  have := (List.getElem?_eq_some_iff.1 hu).1
  omega
 ·simp only [Value.slice.injEq] at hv
  obtain ⟨rfl, -, rfl⟩ := hv
  refine ⟨g, rfl, hb, (Array.getElem?_eq_some_iff.1 hg).1, ?_, by simp [World.frozen?, hg]⟩
  rw [cell_of_row _ _ _ _ _ _ hg, <- Array.getElem?_toList]
  have h1 : (cur.toList.take (m * n))[i]? = xs[i]? := by rw [ht]
  rw [List.getElem?_take_of_lt (by have := (List.getElem?_eq_some_iff.1 hu).1; have := h.1; omega)] at h1
  rw [h1, hu]
end Go.Proofs.YtechceagghcipabGreatDoor
namespace Go.Proofs.YtechceagghcipabGreatDoor
open Go.RowKit
def rawE (v : Value) : Option (DataW Value × List MemPlace) := some (.held v, [])
def kS (s : ByteArray) : Lit := .string s.data.toList
theorem kS_inj {s t : ByteArray} (h : kS s = kS t) : s = t := by
 unfold kS at h
 injection h with h
 obtain ⟨⟨a⟩⟩ := s
 obtain ⟨⟨b⟩⟩ := t
 simp at h
 rw [h]
theorem kS_key (s : ByteArray) : WideAt.IsKeyLit (kS s) := by trivial
theorem owns_tight {w : World} {b n : Nat} {D : DataW Value} {P : Program} {k : TypeId} (h : w.ownsMap P k rawE b n D) : w.ownsMap P k rawE b (Maps.size D) D := by
 obtain ⟨es, clock, hb, F, hs, hD⟩ := h
 exact ⟨es, clock, hb, F, by rw [hD]; simp [Maps.size, length_sorted], hD⟩
structure Mp (P : Program) (k : TypeId) (w : World) (b n : Nat) (f : ByteArray -> Option Value) : Prop where
 ex : ∃ D : DataW Value, w.ownsMap P k rawE b n D /\ Maps.Tidy D /\ Maps.size D = n /\ ∀ s, Maps.has D (kS s) = (f s).isSome /\ ∀ v, f s = some v -> ∀ z, D.atKey (kS s) z = .held v
theorem Mp.lt {P : Program} {k : TypeId} {w : World} {b n : Nat} {f : ByteArray -> Option Value} (h : Mp P k w b n f) : b < w.heap.size := by
 obtain ⟨D, h1, -⟩ := h.ex
 exact h1.lt
theorem Mp.made (P : Program) (k : TypeId) (w : World) : Mp P k (w.alloc (.map #[] 0)) w.heap.size 0 fun _ => none :=
 ⟨.map [], World.ownsMap_made w P k rawE, Maps.tidy_empty, rfl, fun s => ⟨rfl, fun v hv => by cases hv⟩⟩
theorem Mp.same {P : Program} {k : TypeId} {w w' : World} {b n : Nat} {f : ByteArray -> Option Value} (h : Mp P k w b n f) (hb : w'.heap[b]? = w.heap[b]?) : Mp P k w' b n f := by
 obtain ⟨D, ⟨es, clock, h1, r⟩, h2⟩ := h.ex
 exact ⟨D, ⟨es, clock, hb.trans h1, r⟩, h2⟩
theorem Mp.fr {P : Program} {k : TypeId} {Q : Nat -> Prop} {w w' : World} {b n : Nat} {f : ByteArray -> Option Value} (h : Mp P k w b n f) (hf : Fr Q w w') (hn : ¬ Q b) : Mp P k w' b n f := h.same (hf.block b h.lt hn)
theorem Mp.has {P : Program} {k T E : TypeId} {w : World} {b n : Nat} {f : ByteArray -> Option Value} (h : Mp P k w b n f) (hk : P.underlying k = some .string) (hT : P.underlying T = some (.map k E)) {z : Value} (hz : (zeroValue E).run P w = .ok z w) {s : ByteArray} (hs : s.size <= maxLen) :
  (Instr.lookup T (.map (some b)) (.string s) true).run P w = .ok (.tuple #[(f s).getD z, .bool (f s).isSome]) w := by
 obtain ⟨D, h1, h2, h3, h4⟩ := h.ex
 obtain ⟨v, ps, hr, hv⟩ := h1.look_ok (Maps.string_keyed hk) hT hz (show rawE z = some (.held z, []) from rfl) (key := .string s) (kl := kS s) (WideMaps.keyOf_string_mk hk hs)
 rw [hr, (h4 s).1]
 have e : DataW.held v = D.atKey (kS s) (.held z) := by
  have := congrArg (Option.map Prod.fst) hv
  simpa [rawE] using this
 have e2 : v = (f s).getD z := by
  cases hf : f s with
  | some u => rw [(h4 s).2 u hf] at e; injection e
  | none =>
   have hh := (h4 s).1
   rw [hf] at hh
   rw [Maps.atKey_of_not_has hh] at e
   injection e
 rw [e2]
theorem Mp.at_ {P : Program} {k T E : TypeId} {w : World} {b n : Nat} {f : ByteArray -> Option Value} (h : Mp P k w b n f) (hk : P.underlying k = some .string) (hT : P.underlying T = some (.map k E)) {z : Value} (hz : (zeroValue E).run P w = .ok z w) {s : ByteArray} (hs : s.size <= maxLen) :
  (Instr.lookup T (.map (some b)) (.string s) false).run P w = .ok ((f s).getD z) w := by
 obtain ⟨D, h1, h2, h3, h4⟩ := h.ex
 obtain ⟨v, ps, hr, hv⟩ := h1.lookup (Maps.string_keyed hk) hT hz (show rawE z = some (.held z, []) from rfl) (key := .string s) (kl := kS s) (WideMaps.keyOf_string_mk hk hs)
 rw [hr]
 have e : DataW.held v = D.atKey (kS s) (.held z) := by
  have := congrArg (Option.map Prod.fst) hv
  simpa [rawE] using this
 have e2 : v = (f s).getD z := by
  cases hf : f s with
  | some u => rw [(h4 s).2 u hf] at e; injection e
  | none =>
   have hh := (h4 s).1
   rw [hf] at hh
   rw [Maps.atKey_of_not_has hh] at e
   injection e
 rw [e2]
def mput (f : ByteArray -> Option Value) (s : ByteArray) (v : Value) : ByteArray -> Option Value := fun x => if x = s then some v else f x
theorem Mp.store {P : Program} {k T E : TypeId} {w : World} {b n : Nat} {f : ByteArray -> Option Value} (h : Mp P k w b n f) (hk : P.underlying k = some .string) (hT : P.underlying T = some (.map k E)) (hn : n < maxLen) {s : ByteArray} (hs : s.size <= maxLen) (v : Value) :
  ∃ w', (Instr.mapUpdate T (.map (some b)) (.string s) v).run P w = .ok () w' /\ Mp P k w' b (if (f s).isSome then n else n + 1) (mput f s v) /\ w.grownBy w' (some b) := by
 obtain ⟨D, h1, h2, h3, h4⟩ := h.ex
 obtain ⟨w', hr, ho, ht⟩ := h1.store (Maps.string_keyed hk) hT hn (key := .string s) (kl := kS s) (WideMaps.keyOf_string_mk hk hs) (show rawE v = some (.held v, []) from rfl)
 have hsz : Maps.size (D.put (kS s) (.held v)) = if (f s).isSome then n else n + 1 := by rw [Maps.size_put h2, (h4 s).1, h3]
 have ho' := owns_tight ho
 rw [hsz] at ho'
 refine ⟨w', hr, ⟨_, ho', h2.put (kS_key s) _, hsz, fun x => ?_⟩, ht.grown⟩
 by_cases e : x = s
 ·subst e
  refine ⟨by rw [Maps.has_put_same h2.isMap (kS_key _)]; simp [mput], fun u hu z => ?_⟩
  have hu : some v = some u := by simpa [mput] using hu
  cases hu
  exact Maps.atKey_put_same h2.isMap (kS_key _) _ _
 ·have hne : kS x ≠ kS s := fun h => e (kS_inj h)
  refine ⟨by rw [Maps.has_put_other hne, (h4 x).1]; simp [mput, e], fun u hu z => ?_⟩
  simp only [mput, if_neg e] at hu
  rw [Maps.atKey_put_other hne]
  exact (h4 x).2 u hu z
end Go.Proofs.YtechceagghcipabGreatDoor
namespace Go.Proofs.YtechceagghcipabGreatDoor
open Go.RowKit
attribute [local go_sem ↓] Go.wp_at_zero Go.wp_at_succ
def tb : Nat -> Int -> List Int
 | 0, _ => []
 | k + 1, n => (n / (256 : Int) ^ k) % 256 :: tb k n
theorem tb_len (k : Nat) (n : Int) : (tb k n).length = k := by induction k with
 | zero => rfl
 | succ k ih => simp [tb, ih]
def byt7 (l : List Int) : Prop := ∀ x ∈ l, 0 <= x /\ x <= 255
theorem tb_byt (k : Nat) (n : Int) : byt7 (tb k n) := by
 induction k with
 | zero => intro x hx; simp [tb] at hx
 | succ k ih =>
  intro x hx
  simp only [tb, List.mem_cons] at hx
  rcases hx with rfl | hx
  ·have := Int.emod_nonneg (n / (256 : Int) ^ k) (show (256 : Int) ≠ 0 by omega)
   have := Int.emod_lt_of_pos (n / (256 : Int) ^ k) (show (0 : Int) < 256 by omega)
   omega
  ·exact ih x hx
theorem tb_take (k j : Nat) (n : Int) (h : j < k) : (tb k n).take (j + 1) = (tb k n).take j ++ [(n / (256 : Int) ^ (k - 1 - j)) % 256] := by
 induction k generalizing j with
 | zero => omega
 | succ k ih =>
  cases j with
  | zero => simp [tb]
  | succ j =>
   simp only [tb, List.take_succ_cons, List.cons_append, List.cons.injEq, true_and]
   rw [ih j (by omega), show k + 1 - 1 - (j + 1) = k - 1 - j by omega]
theorem tb_inj (k : Nat) : ∀ {n m : Int}, tb k n = tb k m -> n % (256 : Int) ^ k = m % (256 : Int) ^ k := by
 induction k with
 | zero => intro n m _; simp [Int.emod_one]
 | succ k ih =>
  intro n m h
  simp only [tb, List.cons.injEq] at h
  obtain ⟨h1, h2⟩ := h
  have e := ih h2
  have hp : (0 : Int) < (256 : Int) ^ k := Int.pow_pos (by decide)
  have key : ∀ x : Int, x % (256 : Int) ^ (k + 1) = (256 : Int) ^ k * ((x / (256 : Int) ^ k) % 256) + x % (256 : Int) ^ k := by
   intro x
   rw [Int.pow_succ]
   have a1 := Int.emod_add_mul_ediv x ((256 : Int) ^ k * 256)
   have a2 := Int.emod_add_mul_ediv x ((256 : Int) ^ k)
   have a3 := Int.emod_add_mul_ediv (x / (256 : Int) ^ k) 256
   have a4 : x / (256 : Int) ^ k / 256 = x / ((256 : Int) ^ k * 256) := by
    rw [Int.ediv_ediv, if_neg (by omega), Int.sub_zero]
   rw [a4] at a3
   generalize x / (256 ^ k * 256) = q at *
   generalize hy : x / 256 ^ k = y at *
   generalize x % (256 ^ k * 256) = r at *
   generalize y % 256 = s at *
   generalize x % 256 ^ k = t at *
   have : y = s + 256 * q := a3.symm
   subst this
   rw [Int.mul_add, <- Int.mul_assoc] at a2
   omega
  rw [key n, key m, h1, e]
theorem w64_lo {x : Int} (h : (Lit.int .i64 x).wf = true) : -9223372036854775808 <= x /\ x < 9223372036854775808 := by
 simp [Lit.wf, IntKind.min, IntKind.max, IntKind.signed, IntKind.bits] at h
 omega
theorem tb_inj8 {n m : Int} (hn : (Lit.int .i64 n).wf = true) (hm : (Lit.int .i64 m).wf = true) (h : tb 8 n = tb 8 m) : n = m := by
 have := tb_inj 8 h
 have := w64_lo hn
 have := w64_lo hm
 rw [show (256 : Int) ^ 8 = 18446744073709551616 by decide] at *
 omega
def i2b7 (l : List Int) : List UInt8 := l.map fun x => UInt8.ofNat x.toNat
def ofL7 (l : List Int) : ByteArray := ⟨(i2b7 l).toArray⟩
theorem ofL7_size (l : List Int) : (ofL7 l).size = l.length := by show (i2b7 l).toArray.size = _; simp [i2b7]
theorem ofL7_inj {l m : List Int} (hl : byt7 l) (hm : byt7 m) (h : ofL7 l = ofL7 m) : l = m := by
 have h1 : i2b7 l = i2b7 m := by
  have := congrArg (fun b : ByteArray => b.data.toList) h
  simpa [ofL7] using this
 clear h
 unfold i2b7 at h1
 induction l generalizing m with
 | nil => cases m with
  | nil => rfl
  | cons y m => simp at h1
 | cons x l ih => cases m with
  | nil => simp at h1
  | cons y m =>
   simp only [List.map_cons, List.cons.injEq] at h1
   have hx := hl x (by simp)
   have hy := hm y (by simp)
   rw [ih (fun z hz => hl z (by simp [hz])) (fun z hz => hm z (by simp [hz])) h1.2]
   have e : (UInt8.ofNat x.toNat).toNat = (UInt8.ofNat y.toNat).toNat := by rw [h1.1]
   simp only [UInt8.toNat_ofNat'] at e
   congr 1
   omega
def tx (l : List Int) : ByteArray := ofL7 (l.flatMap (tb 8))
theorem tbs_len (l : List Int) : (l.flatMap (tb 8)).length = 8 * l.length := by
 induction l with
 | nil => rfl
 | cons x l ih => simp only [List.flatMap_cons, List.length_append, tb_len, ih, List.length_cons]; omega
theorem tbs_byt (l : List Int) : byt7 (l.flatMap (tb 8)) := fun x hx => by
 obtain ⟨y, -, hy⟩ := List.mem_flatMap.1 hx
 exact tb_byt 8 y x hy
theorem tx_size (l : List Int) : (tx l).size = 8 * l.length := by rw [tx, ofL7_size, tbs_len]
theorem tx_inj {l m : List Int} (hl : w64 l) (hm : w64 m) (h : tx l = tx m) : l = m := by
 have h1 := ofL7_inj (tbs_byt l) (tbs_byt m) h
 clear h
 induction l generalizing m with
 | nil => cases m with
  | nil => rfl
  | cons y m => have := congrArg List.length h1; rw [tbs_len, tbs_len] at this; simp at this
 | cons x l ih => cases m with
  | nil => have := congrArg List.length h1; rw [tbs_len, tbs_len] at this; simp at this
  | cons y m =>
   rw [List.flatMap_cons, List.flatMap_cons] at h1
   obtain ⟨h2, h3⟩ := List.append_inj h1 (by rw [tb_len, tb_len])
   rw [tb_inj8 (hl x (by simp)) (hm y (by simp)) h2, ih (fun z hz => hl z (by simp [hz])) (fun z hz => hm z (by simp [hz])) h3]
def ubs7 (l : List Int) : List Value := l.map (.int .u8)
def OwU (w : World) (base : Nat) (v : Value) (l : List Int) : Prop := w.ownsRow base 5 1 v l.length (ubs7 l)
theorem Tryz.infoU8x : (Tryz.prog.info? 5).map (fun i => (i.zero, i.size, i.bytes)) = some (some (.int .u8 0), 1, 1) := by kernel_rfl
theorem Tryz.infoInt7 : (Tryz.prog.info? 3).map (fun i => (i.zero, i.size, i.bytes)) = some (some (.int .i64 0), 1, 8) := by kernel_rfl
theorem Tryz.infoInts7 : (Tryz.prog.info? 67).map (fun i => (i.zero, i.size, i.bytes)) = some (some (.slice none 0 0), 1, 24) := by kernel_rfl
theorem info7 {P : Program} {e : TypeId} {z : Value} {s b : Nat} (h : (P.info? e).map (fun i => (i.zero, i.size, i.bytes)) = some (some z, s, b)) : ∃ i, P.info? e = some i /\ i.zero = some z /\ i.size = s /\ i.bytes = b := by
 cases hi : P.info? e with
 | none => rw [hi] at h; simp at h
 | some i =>
  rw [hi] at h
  simp only [Option.map_some, Option.some.injEq, Prod.mk.injEq] at h
  exact ⟨i, rfl, h.1, h.2.1, h.2.2⟩
theorem gapp {T e : TypeId} {z : Value} {by_ : Nat} (hT : Tryz.prog.underlying T = some (.slice e)) (hI : (Tryz.prog.info? e).map (fun i => (i.zero, i.size, i.bytes)) = some (some z, 1, by_)) (hz : z.cells.size = 1) (hby : by_ <= 100)
  {ops : Array Oper} {rest : List Oper} {o : Oper} {a : Act} {Q : Exit -> Act -> World -> Prop} {w : World} (hgd : o.guard = none) (s x : Operand)
  (ho : o.op = .call { callee := .builtin .append, args := #[s, x], argTypes := #[T, T] }) (base : Nat) (v : Value) (n : Nat) (l : List Value) (hs : a.eval s = v) (hown : w.ownsRow base e 1 v n l)
  (b : Nat) (y : Value) (hx : a.eval x = .slice (some ⟨b, 0, none⟩) 1 1) (hblk : Bk w b #[y] e) (hy : y.oneCell' = true) (hlen : n <= 1000000000000) (hbase : base <= w.heap.size)
  (h : ∀ g cap w', w'.ownsRow base e 1 (.slice (some ⟨g, 0, none⟩) (n + 1) cap) (n + 1) (l ++ [y]) -> w.grownBy w' v.ownBlock -> (v.ownBlock = some g ∨ g = w.heap.size) -> g < w'.heap.size -> wpList Tryz.prog ops Q rest (a.put o.dst (.slice (some ⟨g, 0, none⟩) (n + 1) cap)) w') : wpList Tryz.prog ops Q (o :: rest) a w := by
 obtain ⟨i, hi, h0, h1, h2⟩ := info7 hI
 refine wpList_append_lies _ hgd s x T ho base e i z 1 by_ hT hi h0 h1 h2 hz (by omega) v n l hs hown ⟨b, 0, none⟩ 1 1 [y] hx rfl ?_ (by simpa using hy) (by omega) (by unfold maxLen; omega) (Nat.le_trans (Nat.mul_le_mul (show n + 1 <= 1000000000001 by omega) hby) (by decide)) hbase _ rfl h
 intro j u hj
 exact World.news_of_block (cs := #[y]) (t := e) (fr := (0, 0)) hblk j u (by simpa using hj)
theorem mk_bytes0 (n : Nat) (hn : n <= 100000000000000) (w : World) : (Instr.makeSlice 148 (.int .i64 0) (.int .i64 (n : Int))).run Tryz.prog w = .ok (.slice (some ⟨w.heap.size, 0, none⟩) 0 n) (w.alloc (.cells (madeCells #[.int .u8 0] n) 5)) := by
 obtain ⟨i, hi, h0, h1, h2⟩ := info7 Tryz.infoU8x
 have h := run_make (P := Tryz.prog) w 148 5 i _ Tryz.underlying148 hi h0 .i64 .i64 0 n (by omega) (by omega) (by rw [h2]; omega) (by omega)
 rw [h1, Nat.mul_one] at h
 exact h
theorem own_bytes0 (n : Nat) (hn : n <= 100000000000000) (w : World) : OwU (w.alloc (.cells (madeCells #[.int .u8 0] n) 5)) w.heap.size (.slice (some ⟨w.heap.size, 0, none⟩) 0 n) [] :=
 ⟨by simp [ubs7], Or.inr ⟨w.heap.size, n, _, rfl, Nat.le_refl _, heap_alloc_new _ _, by simp, by unfold maxLen; omega, by simp [madeCells], by simp [ubs7]⟩⟩
theorem shr7 (n : Int) (g : Nat) : n / 2 ^ (8 * g) = n / (256 : Int) ^ g := by
 rw [Int.pow_mul]; rfl
theorem OwU.conv {w : World} {base : Nat} {v : Value} {l : List Int} (h : OwU w base v l) (hb : byt7 l) : (convert 148 9 v).run Tryz.prog w = .ok (.string (ofL7 l)) w := by
 rcases h.2 with ⟨hv, hn⟩ | ⟨g, cap, cur, hv, -, hg, hn, -, -, -⟩
 ·have : l = [] := List.eq_nil_of_length_eq_zero hn
  subst this
  rw [hv]
  exact run_convert_bytes_nil w 148 5 Tryz.underlying148 Tryz.underlying5 0 0 9 Tryz.underlying9
 ·rw [hv]
  have e := run_convert_bytes_back (P := Tryz.prog) w 148 9 5 ⟨g, 0, none⟩ cap (i2b7 l) Tryz.underlying148 Tryz.underlying5 Tryz.underlying9 (fun j hj => by
   have hj' : j < l.length := by simpa [i2b7] using hj
   have := hb l[j] (List.getElem_mem hj')
   have hc := World.ownsRow.cells h (g := g) (by rw [hv]; rfl) j (.int .u8 l[j]) (by simp [ubs7, hj'])
   rw [hc]
   simp [i2b7]; omega)
  rw [show (i2b7 l).length = l.length by simp [i2b7]] at e
  exact e
set_option maxRecDepth 20000 in
set_option maxHeartbeats 1000000 in
theorem text_any (F : Nat -> Prop) (l : List Int) (v : Value) (w : World) (h : Li F w v l) (hl : l.length <= 10000000000) :
  Calls Tryz.prog 66 #[v] w fun e w' => e = .returned (.string (tx l)) /\ Below w.heap.size w w' := by
 obtain ⟨a, cap, rfl, h1, h2, -, h3⟩ := h
 obtain ⟨N, hN⟩ : ∃ N : Nat, N = 8 * l.length := ⟨_, rfl⟩
 have e0 : (8 : Int) * (l.length : Int) = (N : Int) := by omega
 have hmk : (Instr.makeSlice 148 (.int .i64 0) (.int .i64 (8 * (l.length : Int)))).run Tryz.prog w = .ok (.slice (some ⟨w.heap.size, 0, none⟩) 0 N) (w.alloc (.cells (madeCells #[.int .u8 0] N) 5)) := by rw [e0]; exact mk_bytes0 _ (by omega) w
 have HO : Hid (OwU (w.alloc (.cells (madeCells #[.int .u8 0] N) 5)) w.heap.size (.slice (some ⟨w.heap.size, 0, none⟩) 0 N) []) := own_bytes0 N (by omega) w
 clear e0 hN
 go_enter Tryz.func66, Tryz.ntmps66
 go_wp2
 go_loopg [3, 13] l.length (fun g u i wr => ∃ j : Nat, j + g = l.length /\ i = .int .i64 j /\ OwU wr w.heap.size u ((l.take j).flatMap (tb 8)) /\ Below w.heap.size w wr)
 case atStart => exact ⟨0, by omega, rfl, HO.out, below1 _ _⟩
 case round =>
  obtain ⟨j, hj, rfl, hw, hb⟩ := hrel
  have HW : Hid (OwU wr w.heap.size u3 ((l.take j).flatMap (tb 8))) := hw
  have HB : Hid (Below w.heap.size w wr) := hb
  cases gk with
  | succ g =>
   have hlt : (j : Int) < (l.length : Int) := by omega
   have j0 : (0 : Int) <= (j : Int) := by omega
   obtain ⟨t, ht⟩ : ∃ t, l[j]? = some t := ⟨_, List.getElem?_eq_getElem (by omega)⟩
   rcases h3 with h3 | ⟨b, o, rfl, hbl, -, h3⟩
   ·rw [h3.1] at hj; simp at hj
   have p0 := h3 j t ht
   rw [<- hb.cell (p := ⟨b, _, none⟩) hbl] at p0
   have HT : Hid (l[j]? = some t) := ht
   have HL : Hid (((l.take j).flatMap (tb 8)).length = 8 * j) := by show _ = _; rw [tbs_len, List.length_take]; omega
   clear h3 ht hw hb
   go_wp2
   go_loopg [3, 6] 8 (fun g u i wr => ∃ k : Nat, k + g = 8 /\ i = .int .i64 (8 * (g : Int) - 8) /\ OwU wr w.heap.size u ((l.take j).flatMap (tb 8) ++ (tb 8 t).take k) /\ Below w.heap.size w wr)
   case atStart => exact ⟨0, by omega, rfl, by rw [List.take_zero, List.append_nil]; exact HW.out, HB.out⟩
   case round =>
    obtain ⟨k, hk, rfl, hw, hb⟩ := hrel
    have HW : Hid (OwU wr w.heap.size u3 ((l.take j).flatMap (tb 8) ++ (tb 8 t).take k)) := hw
    have HB : Hid (Below w.heap.size w wr) := hb
    have hsz := hb.size
    clear hw hb
    cases gk with
    | succ q =>
     have e1 : 8 * ((q + 1 : Nat) : Int) - 8 = ((8 * q : Nat) : Int) := by omega
     rw [e1]
     have i0 : (0 : Int) <= ((8 * q : Nat) : Int) := by omega
     have i8 : ((8 * q : Nat) : Int) <= 56 := by omega
     obtain ⟨L, hL⟩ : ∃ L, L = (l.take j).flatMap (tb 8) ++ (tb 8 t).take k := ⟨_, rfl⟩
     obtain ⟨M, hM⟩ : ∃ M, L.length = M := ⟨_, rfl⟩
     have HL2 : Hid (L = (l.take j).flatMap (tb 8) ++ (tb 8 t).take k) := hL
     have HM : Hid (L.length = M) := hM
     have hM8 : M <= 100000000000 := by rw [<- hM, hL, List.length_append, HL.out, List.length_take, tb_len]; omega
     have HW2 : Hid (wr.ownsRow w.heap.size 5 1 u3 M (ubs7 L)) := by rw [<- hM, hL]; exact HW.out
     clear hM hL HW
     go_wp2_with (at_builtin; refine gapp Tryz.underlying148 Tryz.infoU8x rfl (by omega) rfl _ _ rfl w.heap.size u3 M (ubs7 L) rfl (row7_below HW2.out (below1 _ _)) wr.heap.size (.int .u8 (t / 2 ^ (8 * q) % 256)) rfl (Bk.new wr _ _) rfl (by omega) (by simp; omega) ?_; intro g' cap' w1 ho1 hg1 hv1 hlt1)
     go_roundg q
     case measure => omega
     case rel =>
      refine ⟨k + 1, by omega, by go_num, ?_, ?_⟩
      ·have e : (l.take j).flatMap (tb 8) ++ (tb 8 t).take (k + 1) = L ++ [t / 2 ^ (8 * q) % 256] := by rw [tb_take 8 k t (by omega), shr7, HL2.out, List.append_assoc, show 8 - 1 - k = q by omega]
       rw [e]
       unfold OwU
       rw [List.length_append, HM.out, show ubs7 (L ++ [t / 2 ^ (8 * q) % 256]) = ubs7 L ++ [.int .u8 (t / 2 ^ (8 * q) % 256)] by simp [ubs7]]
       exact ho1
      ·exact HB.out.trans (((below1 _ _).mono (by omega)).trans (Fr.grown (P := fun b => w.heap.size <= b) hg1 (fun b hb => (World.ownsRow.lt HW2.out b hb).1) |>.low (by simp; omega)))
    | zero =>
     have e2 : k = 8 := by omega
     go_wp2
     go_roundg g
     case measure => omega
     case rel =>
      refine ⟨j + 1, by omega, by go_num, ?_, HB.out⟩
      have := HW.out
      rw [e2, show (tb 8 t).take 8 = tb 8 t from List.take_of_length_le (by rw [tb_len]; exact Nat.le_refl _)] at this
      rw [List.take_add_one, HT.out, List.flatMap_append]
      simpa using this
  | zero =>
   have hlt : ¬ (j : Int) < (l.length : Int) := by omega
   have e2 : (l.take j) = l := List.take_of_length_le (by omega)
   have HC : Hid ((convert 148 9 u3).run Tryz.prog wr = .ok (.string (tx l)) wr) := by
    rw [e2] at hw
    exact hw.conv (tbs_byt l)
   clear hw h3 HW e2
   have hcv := HC.out
   go_wp2
   go_ret
   exact ⟨rfl, HB.out⟩
end Go.Proofs.YtechceagghcipabGreatDoor

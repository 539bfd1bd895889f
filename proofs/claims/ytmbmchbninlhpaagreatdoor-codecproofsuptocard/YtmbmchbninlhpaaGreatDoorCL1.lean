import Derived.Deep.RegionHeld3
import Derived.Test.YtmbmchbninlhpaaGreatDoorProg
import Derived.Test.YtmbmchbninlhpaaGreatDoorRows
import Derived.WalkKit
import Derived.WalkSpells
import Derived.KernelRfl
import Derived.WalkSmall
import GoSem.Op.String
import Derived.Laws.Strings
import Derived.Laws.Cover1
import Derived.Laws.IdiomStrings
import Derived.Deep.QuietTactic
import Derived.BigQuiet
import Derived.Deep.DrawnRows
namespace Go.Proofs.YtmbmchbninlhpaaGreatDoor
theorem wA8 (a : Act) (d : Option Tmp) (v : Value) : a.put d v = match d with
  | some d => { a with tmps := a.tmps.setIfInBounds d v }
  | none => a := rfl
theorem wB8 {α : Type} (l : List α) (i : Nat) (a : α) : l.toArray.setIfInBounds i a = (l.set i a).toArray := List.setIfInBounds_toArray ..
theorem wC8 {α : Type} (a b : α) (l : List α) : (a :: l).set 0 b = b :: l := List.set_cons_zero ..
theorem wD8 {α : Type} (a b : α) (l : List α) (n : Nat) : (a :: l).set (n + 1) b = a :: l.set n b := List.set_cons_succ ..
theorem wTk {P : Program} {ops : Array Oper} {Q : Exit → Act → World → Prop} {md : Region.Mode} {S : World → Prop} (i : Nat) (v : Value) {x1 x2 x3 x4 x5 x6} {fuel : Nat} {listed : Array Bool} {a : Act} {w : World} (hi : ops[i]? = some ⟨x1, x2, x3, x4, x5, x6⟩) (hc : (Region.noSelect ops && (Region.free md ops listed i && (Region.ready md ops listed).contains i)) = true)
    (hQ : ∀ c a w, Q (.panic c) (a.put x1 v) w → Q (.panic c) a w) (hy : YieldsIf P ops S ⟨x1, x2, x3, x4, x5, x6⟩ v a) (hS : S w) (h : wpAnyH P md ops Q S fuel (listed.setIfInBounds i true) (a.put x1 v) w) : wpAnyH P md ops Q S (fuel + 1) listed a w := by
  rw [Bool.and_eq_true, Bool.and_eq_true] at hc
  exact wpAnyH_take hi hc.1 hc.2.1 hc.2.2 hQ hy hS h
theorem wRd {P : Program} {ops : Array Oper} {Q : Exit → Act → World → Prop} {md : Region.Mode} {S : World → Prop} (i : Nat) {x1 x2 x3 x4 x5 x6} {fuel : Nat} {listed : Array Bool} {a : Act} {w : World} (hr : Region.ready md ops listed = [i]) (ho : ops[i]? = some ⟨x1, x2, x3, x4, x5, x6⟩)
    (h : ∀ K' : Act → World → Prop, Shut (∀ a w, S w → (S w → wpAnyH P md ops Q S fuel (listed.setIfInBounds i true) a w) → K' a w) → if Region.wanted ⟨x1, x2, x3, x4, x5, x6⟩ (yielded ops a.tmps) = true then Oper.wp P ⟨x1, x2, x3, x4, x5, x6⟩ a w K' Q else K' (a.put x1 undef) w) : wpAnyH P md ops Q S (fuel + 1) listed a w := wpAnyH_ready hr (by simp) (AllReadyH.cons ho h AllReadyH.nil)
end Go.Proofs.YtmbmchbninlhpaaGreatDoor
namespace Go.Proofs.YtmbmchbninlhpaaGreatDoor
open Go.RowKit

structure Tm where
 k : Int
 n : Int
 s : ByteArray
deriving DecidableEq
abbrev Tm.v (t : Tm) : Value := .agg #[.int .i64 t.k, .int .i64 t.n, .string t.s]
def Tm.var (t : Tm) : Bool := decide (t.k = 3 /\ 0 <= t.n /\ t.s = ⟨#[]⟩)
def Tm.con (t : Tm) : Bool := decide ((t.k = 1 /\ t.s = ⟨#[]⟩) ∨ (t.k = 2 /\ t.n = 0 /\ t.s.size <= 64))
def Tm.prin (t : Tm) : Bool := decide (t.k = 2 /\ t.n = 0 /\ t.s.size <= 64 /\ t.s ≠ ⟨#[]⟩)
theorem ret_b {a b : Bool} (h : a = b) : Ending.returned (.bool a) = .returned (.bool b) := by rw [h]
theorem ret_i {a b : Int} (h : a = b) : Ending.returned (.int .i64 a) = .returned (.int .i64 b) := by rw [h]
theorem isE (s : ByteArray) : s.toList.isEmpty = decide (s = ⟨#[]⟩) := by
 obtain ⟨a⟩ := s
 rw [ByteArray.toList_eq]
 rcases a with ⟨l⟩
 cases l <;> simp
theorem below1 (w : World) (o : Obj) : Below w.heap.size w (w.alloc o) := (Below.refl _ _).alloc (Nat.le_refl _) _
theorem below2 (w : World) (o p : Obj) : Below w.heap.size w ((w.alloc o).alloc p) := (below1 w o).alloc (by simp) _

theorem bcell {W w1 : World} (hb : Below W.heap.size W w1) : (∀ b o, b < W.heap.size -> w1.cell? ⟨b, o, none⟩ = W.cell? ⟨b, o, none⟩) /\ (∀ b o, b < W.heap.size -> w1.frozen? ⟨b, o, none⟩ = W.frozen? ⟨b, o, none⟩) :=
 ⟨fun b o h => hb.cell (p := ⟨b, o, none⟩) h, fun b o h => hb.frozen (p := ⟨b, o, none⟩) h⟩

set_option maxHeartbeats 400000 in
theorem var_any (t : Tm) (w : World) :
  Calls Tryz.prog 154 #[t.v] w fun e w' => e = .returned (.bool t.var) /\ Below w.heap.size w w' := by
 obtain ⟨k, n, s⟩ := t
 unfold Tm.var
 go_enter Tryz.func154, Tryz.ntmps154
 go_wp2
 all_goals
  go_ret
  refine ⟨ret_b ?_, below1 _ _⟩
  simp_all [isE]
  try omega
set_option maxHeartbeats 400000 in
theorem con_any (t : Tm) (w : World) :
  Calls Tryz.prog 56 #[t.v] w fun e w' => e = .returned (.bool t.con) /\ Below w.heap.size w w' := by
 obtain ⟨k, n, s⟩ := t
 unfold Tm.con
 go_enter Tryz.func56, Tryz.ntmps56
 go_wp2
 all_goals
  go_ret
  refine ⟨ret_b ?_, below1 _ _⟩
  simp_all [isE]
  try omega
theorem prin_eq (k n : Int) (s : ByteArray) (h : k = 2) (h' : s ≠ ⟨#[]⟩) : Tm.con ⟨k, n, s⟩ = Tm.prin ⟨k, n, s⟩ := by
 subst h; simp [Tm.con, Tm.prin, h']
theorem prin_no (k n : Int) (s : ByteArray) (h : ¬ (k = 2 /\ s ≠ ⟨#[]⟩)) : false = Tm.prin ⟨k, n, s⟩ := by
 simp only [Tm.prin, ne_eq, Bool.false_eq, decide_eq_false_iff_not] at *
 exact fun x => h ⟨x.1, x.2.2.2⟩
set_option maxHeartbeats 400000 in
theorem prin_any (t : Tm) (w : World) :
  Calls Tryz.prog 153 #[t.v] w fun e w' => e = .returned (.bool t.prin) /\ Below w.heap.size w w' := by
 obtain ⟨k, n, s⟩ := t
 by_cases h1 : k = 2
 ·subst h1
  cases h2 : s.toList.isEmpty
  ·have h3 : s ≠ ⟨#[]⟩ := by rw [isE] at h2; simpa using h2
   go_enter Tryz.func153, Tryz.ntmps153
   go_wp2_with (go_at_call 56; refine (con_any ⟨2, n, s⟩ _).mono ?_; rintro e w1 ⟨rfl, hb⟩)
   go_ret
   exact ⟨ret_b (prin_eq _ _ _ rfl h3), (below1 _ _).trans (hb.mono (by simp))⟩
  ·have h3 : s = ⟨#[]⟩ := by rw [isE] at h2; simpa using h2
   go_enter Tryz.func153, Tryz.ntmps153
   go_wp2
   go_ret
   exact ⟨ret_b (prin_no _ _ _ (fun x => x.2 h3)), below1 _ _⟩
 ·go_enter Tryz.func153, Tryz.ntmps153
  go_wp2
  go_ret
  exact ⟨ret_b (prin_no _ _ _ (fun x => h1 x.1)), below1 _ _⟩
end Go.Proofs.YtmbmchbninlhpaaGreatDoor
namespace Go.Proofs.YtmbmchbninlhpaaGreatDoor
namespace M

def bl := Go.Op.bytesLess
def at_ (s : ByteArray) (j : Nat) : Int := if h : j < s.size then (s[j].toNat : Int) else 0
end M
end Go.Proofs.YtmbmchbninlhpaaGreatDoor
namespace Go.Proofs.YtmbmchbninlhpaaGreatDoor
open Go.RowKit

theorem toList_inj {a b : ByteArray} (h : a.toList = b.toList) : a = b := by
 rw [ByteArray.toList_eq, ByteArray.toList_eq] at h
 exact ByteArray.ext (Array.toList_inj.1 h)
end Go.Proofs.YtmbmchbninlhpaaGreatDoor
namespace Go.Proofs.YtmbmchbninlhpaaGreatDoor
open Go.RowKit

def TRow (w : World) (b o : Nat) (l : List Tm) : Prop :=
 b < w.heap.size /\ ∀ i t, l[i]? = some t -> w.cell? ⟨b, o + i * 3, none⟩ = some (.int .i64 t.k) /\ w.cell? ⟨b, o + i * 3 + 1, none⟩ = some (.int .i64 t.n) /\ w.cell? ⟨b, o + i * 3 + 2, none⟩ = some (.string t.s)
def Ts (w : World) (v : Value) (l : List Tm) : Prop :=
 ∃ a cap, v = .slice a l.length cap /\ l.length < 1000000000000000000 /\ (l = [] ∨ ∃ b o, a = some ⟨b, o, none⟩ /\ TRow w b o l)
theorem TRow.later {w w' : World} {b o l} (h : TRow w b o l) (hb : Below w.heap.size w w') : TRow w' b o l :=
 ⟨Nat.lt_of_lt_of_le h.1 hb.size, fun i t ht => by
  have := h.2 i t ht
  rw [hb.cell (p := ⟨b, _, none⟩) h.1, hb.cell (p := ⟨b, _, none⟩) h.1, hb.cell (p := ⟨b, _, none⟩) h.1]; exact this⟩
theorem Ts.later {w w' : World} {v l} (h : Ts w v l) (hb : Below w.heap.size w w') : Ts w' v l := by
 obtain ⟨a, cap, rfl, hl, h⟩ := h
 refine ⟨a, cap, rfl, hl, ?_⟩
 rcases h with h | ⟨b, o, rfl, h⟩
 ·exact Or.inl h
 ·exact Or.inr ⟨b, o, rfl, h.later hb⟩
structure At where
 by_ : Tm
 name : ByteArray
 args : List Tm
abbrev At.v (a : At) (x : Value) : Value := .agg #[.int .i64 a.by_.k, .int .i64 a.by_.n, .string a.by_.s, .string a.name, x]
def At.pl (a : At) : List Tm := a.by_ :: a.args
theorem three {w : World} {g : Nat} {a b c : Value} {t : TypeId} (h : w.heap[g]? = some (.cells #[a, b, c] t (0, 0))) :
  w.cell? ⟨g, 0, none⟩ = some a /\ w.cell? ⟨g, 1, none⟩ = some b /\ w.cell? ⟨g, 2, none⟩ = some c /\ w.frozen? ⟨g, 0, none⟩ = false /\ w.frozen? ⟨g, 1, none⟩ = false /\ w.frozen? ⟨g, 2, none⟩ = false :=
 ⟨cell_of_row _ _ _ _ _ _ h, cell_of_row _ _ _ _ _ _ h, cell_of_row _ _ _ _ _ _ h, frozen_of_row _ _ _ _ _ h, frozen_of_row _ _ _ _ _ h, frozen_of_row _ _ _ _ _ h⟩
def zt : Tm := ⟨0, 0, ⟨#[]⟩⟩
end Go.Proofs.YtmbmchbninlhpaaGreatDoor
namespace Go.Proofs.YtmbmchbninlhpaaGreatDoor
open Go.RowKit
theorem run_eql_tm (t u : Tm) (w : World) : (binOp .eql 56 t.v u.v).run Tryz.prog w = .ok (.bool (decide (t = u))) w := by
 obtain ⟨k, n, s⟩ := t
 obtain ⟨k', n', s'⟩ := u
 by_cases h1 : k = k'
 ·by_cases h2 : n = n'
  ·by_cases h3 : s = s'
   ·subst h1 h2 h3
    go_simp
   ·have h4 : ¬ s.toList = s'.toList := fun e => h3 (toList_inj e)
    subst h1 h2
    go_simp
  ·subst h1
   go_simp
 ·go_simp
theorem run_neq_tm (t u : Tm) (w : World) : (binOp .neq 56 t.v u.v).run Tryz.prog w = .ok (.bool (!decide (t = u))) w := by
 obtain ⟨k, n, s⟩ := t
 obtain ⟨k', n', s'⟩ := u
 by_cases h1 : k = k'
 ·by_cases h2 : n = n'
  ·by_cases h3 : s = s'
   ·subst h1 h2 h3
    go_simp
   ·have h4 : ¬ s.toList = s'.toList := fun e => h3 (toList_inj e)
    subst h1 h2
    go_simp
  ·subst h1
   go_simp
 ·go_simp
end Go.Proofs.YtmbmchbninlhpaaGreatDoor
namespace Go.Proofs.YtmbmchbninlhpaaGreatDoor
open Go.RowKit
attribute [local go_sem ↓] Go.wp_at_zero Go.wp_at_succ

theorem five {w : World} {g : Nat} {a b c d f : Value} {t : TypeId} (h : w.heap[g]? = some (.cells #[a, b, c, d, f] t (0, 0))) :
  w.cell? ⟨g, 0, none⟩ = some a /\ w.cell? ⟨g, 1, none⟩ = some b /\ w.cell? ⟨g, 2, none⟩ = some c /\ w.cell? ⟨g, 3, none⟩ = some d /\ w.cell? ⟨g, 4, none⟩ = some f :=
 ⟨cell_of_row _ _ _ _ _ _ h, cell_of_row _ _ _ _ _ _ h, cell_of_row _ _ _ _ _ _ h, cell_of_row _ _ _ _ _ _ h, cell_of_row _ _ _ _ _ _ h⟩
theorem below_step {W w' w3 : World} (h : Below W.heap.size W w') (h3 : Below w'.heap.size w' w3) : Below W.heap.size W w3 := h.trans (h3.mono h.size)
theorem cell_step {w' w3 : World} {b o : Nat} {v : Value} (h3 : Below w'.heap.size w' w3) (hb : b < w'.heap.size) (hc : w'.cell? ⟨b, o, none⟩ = some v) : w3.cell? ⟨b, o, none⟩ = some v := by
 rw [h3.cell (p := ⟨b, o, none⟩) hb]; exact hc
theorem lt_step {w' w3 : World} {b : Nat} (h3 : Below w'.heap.size w' w3) (hb : b < w'.heap.size) : b < w3.heap.size := Nat.lt_of_lt_of_le hb h3.size
end Go.Proofs.YtmbmchbninlhpaaGreatDoor
namespace Go.Proofs.YtmbmchbninlhpaaGreatDoor
open Go.RowKit
attribute [local go_sem ↓] Go.wp_at_zero Go.wp_at_succ

def Tm.cov (t : Tm) : Bool := t.con || t.var
set_option maxHeartbeats 400000 in
theorem cov_any (t : Tm) (w : World) :
  Calls Tryz.prog 125 #[t.v] w fun e w' => e = .returned (.bool t.cov) /\ Below w.heap.size w w' := by
 obtain ⟨k, n, s⟩ := t
 cases h : Tm.con ⟨k, n, s⟩
 ·have HC : Hid (Tm.con ⟨k, n, s⟩ = false) := h
  clear h
  go_enter Tryz.func125, Tryz.ntmps125
  go_wp2_with (first
   | (go_at_call 56; refine (con_any ⟨k, n, s⟩ _).mono ?_; rw [HC.out]; rintro e w1 ⟨rfl, hb1⟩; obtain ⟨hcl, hfr⟩ := bcell hb1)
   | (go_at_call 154; refine (var_any ⟨k, n, s⟩ _).mono ?_; rintro e w2 ⟨rfl, hb2⟩))
  go_ret
  exact ⟨ret_b (by unfold Tm.cov; rw [HC.out]; simp), below_step (below_step (below1 _ _) hb1) hb2⟩
 ·have HC : Hid (Tm.con ⟨k, n, s⟩ = true) := h
  clear h
  go_enter Tryz.func125, Tryz.ntmps125
  go_wp2_with (first
   | (go_at_call 56; refine (con_any ⟨k, n, s⟩ _).mono ?_; rw [HC.out]; rintro e w1 ⟨rfl, hb1⟩; obtain ⟨hcl, hfr⟩ := bcell hb1))
  go_ret
  exact ⟨ret_b (by unfold Tm.cov; rw [HC.out]; simp), below_step (below1 _ _) hb1⟩
structure Te where
 op : Int
 l : Tm
 r : Tm
deriving DecidableEq
abbrev Te.v (t : Te) : Value := .agg #[.int .i64 t.op, .int .i64 t.l.k, .int .i64 t.l.n, .string t.l.s, .int .i64 t.r.k, .int .i64 t.r.n, .string t.r.s]
def Te.ok (t : Te) : Bool := decide (1 <= t.op /\ t.op <= 4) && (t.l.cov && t.r.cov)
set_option maxHeartbeats 1000000 in
theorem check_any (t : Te) (w : World) :
  Calls Tryz.prog 176 #[t.v] w fun e w' => e = .returned (.int .i64 (if t.ok then 0 else 32)) /\ Below w.heap.size w w' := by
 obtain ⟨op, ⟨k, n, s⟩, ⟨k', n', s'⟩⟩ := t
 obtain ⟨c1, h1⟩ : ∃ c, Tm.cov ⟨k, n, s⟩ = c := ⟨_, rfl⟩
 obtain ⟨c2, h2⟩ : ∃ c, Tm.cov ⟨k', n', s'⟩ = c := ⟨_, rfl⟩
 obtain ⟨r, hr⟩ : ∃ r : Int, (if Te.ok ⟨op, ⟨k, n, s⟩, ⟨k', n', s'⟩⟩ then 0 else 32) = r := ⟨_, rfl⟩
 rw [hr]
 have HR : Hid ((if decide (1 <= op /\ op <= 4) && (c1 && c2) then (0 : Int) else 32) = r) := by rw [<- hr, <- h1, <- h2]; rfl
 have H1 : Hid (Tm.cov ⟨k, n, s⟩ = c1) := h1
 have H2 : Hid (Tm.cov ⟨k', n', s'⟩ = c2) := h2
 clear h1 h2 hr
 by_cases o1 : op < 1
 ·go_enter Tryz.func176, Tryz.ntmps176
  go_wp2
  go_ret
  exact ⟨ret_i (by rw [<- HR.out, decide_eq_false (by omega)]; rfl), below1 _ _⟩
 ·by_cases o2 : 4 < op
  ·go_enter Tryz.func176, Tryz.ntmps176
   go_wp2
   go_ret
   exact ⟨ret_i (by rw [<- HR.out, decide_eq_false (by omega)]; rfl), below1 _ _⟩
  ·cases c1
   ·go_enter Tryz.func176, Tryz.ntmps176
    go_wp2_with (go_at_call 125; refine (cov_any ⟨k, n, s⟩ _).mono ?_; rw [H1.out]; rintro e w1 ⟨rfl, hb1⟩)
    go_ret
    exact ⟨ret_i (by rw [<- HR.out]; simp), below_step (below1 _ _) hb1⟩
   ·cases c2
    all_goals
     go_enter Tryz.func176, Tryz.ntmps176
     go_wp2_with (go_at_call 125; refine (cov_any ⟨_, _, _⟩ _).mono ?_; first | (rw [H1.out]; rintro e w1 ⟨rfl, hb1⟩; obtain ⟨hcl, hfr⟩ := bcell hb1; have hm := below_step (below1 _ _) hb1) | (rw [H2.out]; rintro e w2 ⟨rfl, hb2⟩))
     go_ret
     exact ⟨ret_i (by rw [<- HR.out, decide_eq_true (by omega)]; simp), below_step hm hb2⟩
def Box1 (w W : World) (c : Array Value) (ty : TypeId) : Prop := W.heap[w.heap.size]? = some (.cells c ty (0, 0)) /\ Below w.heap.size w W
theorem Box1.start (w : World) (c : Array Value) (ty : TypeId) : Box1 w (w.alloc (.cells c ty)) c ty := ⟨heap_alloc_new _ _, below1 _ _⟩
theorem Box1.later {w W W' : World} {c : Array Value} {ty : TypeId} (h : Box1 w W c ty) (hb : Below W.heap.size W W') : Box1 w W' c ty :=
 ⟨(hb.block _ (Array.getElem?_eq_some_iff.1 h.1).1).trans h.1, h.2.trans (hb.mono h.2.size)⟩
theorem Box1.cells7 {w W : World} {a b c d e f g : Value} {ty : TypeId} (h : Box1 w W #[a, b, c, d, e, f, g] ty) :
  W.cell? ⟨w.heap.size, 0, none⟩ = some a /\ W.cell? ⟨w.heap.size, 1, none⟩ = some b /\ W.cell? ⟨w.heap.size, 2, none⟩ = some c /\ W.cell? ⟨w.heap.size, 3, none⟩ = some d /\ W.cell? ⟨w.heap.size, 4, none⟩ = some e /\ W.cell? ⟨w.heap.size, 5, none⟩ = some f /\ W.cell? ⟨w.heap.size, 6, none⟩ = some g :=
 ⟨cell_of_row _ _ _ _ _ _ h.1, cell_of_row _ _ _ _ _ _ h.1, cell_of_row _ _ _ _ _ _ h.1, cell_of_row _ _ _ _ _ _ h.1, cell_of_row _ _ _ _ _ _ h.1, cell_of_row _ _ _ _ _ _ h.1, cell_of_row _ _ _ _ _ _ h.1⟩
end Go.Proofs.YtmbmchbninlhpaaGreatDoor
namespace Go.Proofs.YtmbmchbninlhpaaGreatDoor
open Go.RowKit

def ARow (w : World) (b o : Nat) (l : List (At × Value)) : Prop :=
 b < w.heap.size /\ ∀ i x, l[i]? = some x -> w.cell? ⟨b, o + i * 5, none⟩ = some (.int .i64 x.1.by_.k) /\ w.cell? ⟨b, o + i * 5 + 1, none⟩ = some (.int .i64 x.1.by_.n) /\ w.cell? ⟨b, o + i * 5 + 2, none⟩ = some (.string x.1.by_.s) ∧
  w.cell? ⟨b, o + i * 5 + 3, none⟩ = some (.string x.1.name) /\ w.cell? ⟨b, o + i * 5 + 4, none⟩ = some x.2
def As (w : World) (v : Value) (l : List (At × Value)) : Prop :=
 ∃ a cap, v = .slice a l.length cap /\ l.length < 1000000000000000000 /\ (l = [] ∨ ∃ b o, a = some ⟨b, o, none⟩ /\ ARow w b o l) /\ ∀ x ∈ l, Ts w x.2 x.1.args
def ERow (w : World) (b o : Nat) (l : List Te) : Prop :=
 b < w.heap.size /\ ∀ i (t : Te), l[i]? = some t -> w.cell? ⟨b, o + i * 7, none⟩ = some (.int .i64 t.op) /\ w.cell? ⟨b, o + i * 7 + 1, none⟩ = some (.int .i64 t.l.k) /\ w.cell? ⟨b, o + i * 7 + 2, none⟩ = some (.int .i64 t.l.n) /\ w.cell? ⟨b, o + i * 7 + 3, none⟩ = some (.string t.l.s) ∧
  w.cell? ⟨b, o + i * 7 + 4, none⟩ = some (.int .i64 t.r.k) /\ w.cell? ⟨b, o + i * 7 + 5, none⟩ = some (.int .i64 t.r.n) /\ w.cell? ⟨b, o + i * 7 + 6, none⟩ = some (.string t.r.s)
def Es (w : World) (v : Value) (l : List Te) : Prop :=
 ∃ a cap, v = .slice a l.length cap /\ l.length < 1000000000000000000 /\ (l = [] ∨ ∃ b o, a = some ⟨b, o, none⟩ /\ ERow w b o l)
theorem ARow.later {w w' : World} {b o l} (h : ARow w b o l) (hb : Below w.heap.size w w') : ARow w' b o l :=
 ⟨Nat.lt_of_lt_of_le h.1 hb.size, fun i x hx => by
  have := h.2 i x hx
  rw [hb.cell (p := ⟨b, _, none⟩) h.1, hb.cell (p := ⟨b, _, none⟩) h.1, hb.cell (p := ⟨b, _, none⟩) h.1, hb.cell (p := ⟨b, _, none⟩) h.1, hb.cell (p := ⟨b, _, none⟩) h.1]; exact this⟩
theorem ERow.later {w w' : World} {b o l} (h : ERow w b o l) (hb : Below w.heap.size w w') : ERow w' b o l :=
 ⟨Nat.lt_of_lt_of_le h.1 hb.size, fun i x hx => by
  have := h.2 i x hx
  rw [hb.cell (p := ⟨b, _, none⟩) h.1, hb.cell (p := ⟨b, _, none⟩) h.1, hb.cell (p := ⟨b, _, none⟩) h.1, hb.cell (p := ⟨b, _, none⟩) h.1, hb.cell (p := ⟨b, _, none⟩) h.1, hb.cell (p := ⟨b, _, none⟩) h.1, hb.cell (p := ⟨b, _, none⟩) h.1]; exact this⟩
theorem As.later {w w' : World} {v l} (h : As w v l) (hb : Below w.heap.size w w') : As w' v l := by
 obtain ⟨a, cap, rfl, hl, h, ht⟩ := h
 refine ⟨a, cap, rfl, hl, ?_, fun x hx => (ht x hx).later hb⟩
 rcases h with h | ⟨b, o, rfl, h⟩
 ·exact Or.inl h
 ·exact Or.inr ⟨b, o, rfl, h.later hb⟩
theorem Es.later {w w' : World} {v l} (h : Es w v l) (hb : Below w.heap.size w w') : Es w' v l := by
 obtain ⟨a, cap, rfl, hl, h⟩ := h
 refine ⟨a, cap, rfl, hl, ?_⟩
 rcases h with h | ⟨b, o, rfl, h⟩
 ·exact Or.inl h
 ·exact Or.inr ⟨b, o, rfl, h.later hb⟩
structure Cm where
 head : At × Value
 body : List (At × Value)
 bv : Value
 tests : List Te
 tv : Value
abbrev Cm.v (c : Cm) : Value := .agg #[.int .i64 c.head.1.by_.k, .int .i64 c.head.1.by_.n, .string c.head.1.by_.s, .string c.head.1.name, c.head.2, c.bv, c.tv]
abbrev Cm.cs (c : Cm) : Array Value := #[.int .i64 c.head.1.by_.k, .int .i64 c.head.1.by_.n, .string c.head.1.by_.s, .string c.head.1.name, c.head.2, c.bv, c.tv]
structure Cm.ok (w : World) (c : Cm) : Prop where
 h : Ts w c.head.2 c.head.1.args
 b : As w c.bv c.body
 t : Es w c.tv c.tests
theorem Cm.ok.later {w w' : World} {c : Cm} (h : c.ok w) (hb : Below w.heap.size w w') : c.ok w' := ⟨h.h.later hb, h.b.later hb, h.t.later hb⟩
theorem Cm.ok.shape {w : World} {c : Cm} (h : c.ok w) : (∃ a n cap, c.head.2 = .slice a n cap) /\ (∃ a cap, c.bv = .slice a c.body.length cap) /\ (∃ a cap, c.tv = .slice a c.tests.length cap) /\ c.body.length < 1000000000000000000 /\ c.tests.length < 1000000000000000000 := by
 obtain ⟨⟨a, cap, h1, -⟩, ⟨a', cap', h2, h4, -⟩, ⟨a'', cap'', h3, h5, -⟩⟩ := h
 exact ⟨⟨a, _, cap, h1⟩, ⟨a', cap', h2⟩, ⟨a'', cap'', h3⟩, h4, h5⟩
def Cm.atoms (c : Cm) : List (At × Value) := c.head :: c.body
def Cm.terms (c : Cm) : List Tm := (c.atoms.flatMap fun x => x.1.pl) ++ c.tests.flatMap fun t => [t.l, t.r]
def Cm.vars (c : Cm) : List Int := (c.terms.filter Tm.var).map (·.n)
def CBlk (W : World) (g : Nat) (c : Array Value) (t : TypeId) : Prop := W.heap[g]? = some (.cells c t (0, 0))
theorem CBlk.lt {W : World} {g : Nat} {c : Array Value} {t : TypeId} (h : CBlk W g c t) : g < W.heap.size := (Array.getElem?_eq_some_iff.1 h).1
theorem CBlk.later {W W' : World} {g : Nat} {c : Array Value} {t : TypeId} (h : CBlk W g c t) (hb : Below W.heap.size W W') : CBlk W' g c t := (hb.block _ h.lt).trans h
theorem CBlk.new (W : World) (c : Array Value) (t : TypeId) : CBlk (W.alloc (.cells c t)) W.heap.size c t := heap_alloc_new _ _
theorem cseven {w : World} {g : Nat} {a b c d e f i : Value} {t : TypeId} (h : CBlk w g #[a, b, c, d, e, f, i] t) :
  w.cell? ⟨g, 0, none⟩ = some a /\ w.cell? ⟨g, 1, none⟩ = some b /\ w.cell? ⟨g, 2, none⟩ = some c /\ w.cell? ⟨g, 3, none⟩ = some d /\ w.cell? ⟨g, 4, none⟩ = some e /\ w.cell? ⟨g, 5, none⟩ = some f /\ w.cell? ⟨g, 6, none⟩ = some i :=
 ⟨cell_of_row _ _ _ _ _ _ h, cell_of_row _ _ _ _ _ _ h, cell_of_row _ _ _ _ _ _ h, cell_of_row _ _ _ _ _ _ h, cell_of_row _ _ _ _ _ _ h, cell_of_row _ _ _ _ _ _ h, cell_of_row _ _ _ _ _ _ h⟩
end Go.Proofs.YtmbmchbninlhpaaGreatDoor

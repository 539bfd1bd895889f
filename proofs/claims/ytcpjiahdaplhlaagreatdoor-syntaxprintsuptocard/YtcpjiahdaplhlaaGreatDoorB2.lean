import Derived.Deep.RegionHeld3
import Derived.Test.YtcpjiahdaplhlaaGreatDoorProg
import Derived.Test.YtcpjiahdaplhlaaGreatDoorRows
import Derived.WalkKit
import Derived.WalkSpells
import Derived.KernelRfl
import Derived.WalkSmall
import GoSem.Op.String
import Derived.Laws.Strings
import Derived.Laws.Cover1
import Derived.Laws.IdiomStrings
import Derived.Deep.QuietTactic
import Derived.BigQuiet
namespace Go.Proofs.YtcpjiahdaplhlaaGreatDoor
theorem wA (a : Act) (d : Option Tmp) (v : Value) : a.put d v = match d with
  | some d => { a with tmps := a.tmps.setIfInBounds d v }
  | none => a := rfl
theorem wB {α : Type} (l : List α) (i : Nat) (a : α) : l.toArray.setIfInBounds i a = (l.set i a).toArray := List.setIfInBounds_toArray ..
theorem wC {α : Type} (a b : α) (l : List α) : (a :: l).set 0 b = b :: l := List.set_cons_zero ..
theorem wD {α : Type} (a b : α) (l : List α) (n : Nat) : (a :: l).set (n + 1) b = a :: l.set n b := List.set_cons_succ ..
theorem wTk {P : Program} {ops : Array Oper} {Q : Exit → Act → World → Prop} {md : Region.Mode} {S : World → Prop} (i : Nat) (v : Value) {x1 x2 x3 x4 x5 x6} {fuel : Nat} {listed : Array Bool} {a : Act} {w : World} (hi : ops[i]? = some ⟨x1, x2, x3, x4, x5, x6⟩) (hc : (Region.noSelect ops && (Region.free md ops listed i && (Region.ready md ops listed).contains i)) = true)
    (hQ : ∀ c a w, Q (.panic c) (a.put x1 v) w → Q (.panic c) a w) (hy : YieldsIf P ops S ⟨x1, x2, x3, x4, x5, x6⟩ v a) (hS : S w) (h : wpAnyH P md ops Q S fuel (listed.setIfInBounds i true) (a.put x1 v) w) : wpAnyH P md ops Q S (fuel + 1) listed a w := by
  rw [Bool.and_eq_true, Bool.and_eq_true] at hc
  exact wpAnyH_take hi hc.1 hc.2.1 hc.2.2 hQ hy hS h
theorem wTl {P : Program} {ops : Array Oper} {Q : Exit → Act → World → Prop} {md : Region.Mode} {S : World → Prop} (i : Nat) (v : Value) {x1 x2 x3 x4 x5 x6} {fuel : Nat} {listed : Array Bool} {a : Act} {w : World} (hi : ops[i]? = some ⟨x1, x2, x3, x4, x5, x6⟩) (hc : (Region.noSelect ops && (Region.free md ops listed i && (Region.ready md ops listed).contains i)) = true)
    (hQ : ∀ c a w, Q (.panic c) (a.put x1 v) w → Q (.panic c) a w) (hw : Region.wanted ⟨x1, x2, x3, x4, x5, x6⟩ (yielded ops a.tmps) = true) (hy : ∀ w, S w → (execOp a.eval ⟨x1, x2, x3, x4, x5, x6⟩).run P w = .ok (.value v) w) (hS : S w) (h : wpAnyH P md ops Q S fuel (listed.setIfInBounds i true) (a.put x1 v) w) : wpAnyH P md ops Q S (fuel + 1) listed a w := by
  exact wTk i v hi hc hQ (Or.inl ⟨hw, hy⟩) hS h
theorem wRd {P : Program} {ops : Array Oper} {Q : Exit → Act → World → Prop} {md : Region.Mode} {S : World → Prop} (i : Nat) {x1 x2 x3 x4 x5 x6} {fuel : Nat} {listed : Array Bool} {a : Act} {w : World} (hr : Region.ready md ops listed = [i]) (ho : ops[i]? = some ⟨x1, x2, x3, x4, x5, x6⟩)
    (h : ∀ K' : Act → World → Prop, Shut (∀ a w, S w → (S w → wpAnyH P md ops Q S fuel (listed.setIfInBounds i true) a w) → K' a w) → if Region.wanted ⟨x1, x2, x3, x4, x5, x6⟩ (yielded ops a.tmps) = true then Oper.wp P ⟨x1, x2, x3, x4, x5, x6⟩ a w K' Q else K' (a.put x1 undef) w) : wpAnyH P md ops Q S (fuel + 1) listed a w := wpAnyH_ready hr (by simp) (AllReadyH.cons ho h AllReadyH.nil)
end Go.Proofs.YtcpjiahdaplhlaaGreatDoor
namespace Go.Proofs.YtcpjiahdaplhlaaGreatDoor
open Go.RowKit
structure Tm where
 k:Int
 n:Int
 s:ByteArray
deriving DecidableEq
abbrev Tm.v (t:Tm):Value:=.agg #[.int .i64 t.k,.int .i64 t.n,.string t.s]
def Tm.var (t:Tm):Bool:=decide (t.k = 3 /\ 0 <= t.n /\ t.s = ⟨#[]⟩)
def Tm.con (t:Tm):Bool:=decide ((t.k = 1 /\ t.s = ⟨#[]⟩) ∨ (t.k = 2 /\ t.n = 0 /\ t.s.size <= 64))
def Tm.prin (t:Tm):Bool:=decide (t.k = 2 /\ t.n = 0 /\ t.s.size <= 64 /\ t.s ≠ ⟨#[]⟩)
theorem ret_b {a b:Bool} (h:a = b):Ending.returned (.bool a) = .returned (.bool b):=by rw [h]
theorem ret_i {a b:Int} (h:a = b):Ending.returned (.int .i64 a) = .returned (.int .i64 b):=by rw [h]
theorem isE (s:ByteArray):s.toList.isEmpty = decide (s = ⟨#[]⟩):=by
 obtain ⟨a⟩:=s
 rw [ByteArray.toList_eq]
 rcases a with ⟨l⟩
 cases l <;> simp
theorem below1 (w:World) (o:Obj):Below w.heap.size w (w.alloc o):=(Below.refl _ _).alloc (Nat.le_refl _) _
theorem below2 (w:World) (o p:Obj):Below w.heap.size w ((w.alloc o).alloc p):=(below1 w o).alloc (by simp) _
theorem bcell {W w1:World} (hb:Below W.heap.size W w1):(∀ b o,b < W.heap.size -> w1.cell? ⟨b,o,none⟩ = W.cell? ⟨b,o,none⟩) /\ (∀ b o,b < W.heap.size -> w1.frozen? ⟨b,o,none⟩ = W.frozen? ⟨b,o,none⟩):=
 ⟨fun b o h=>hb.cell (p:=⟨b,o,none⟩) h,fun b o h=>hb.frozen (p:=⟨b,o,none⟩) h⟩
set_option maxHeartbeats 400000 in
theorem var_any (t:Tm) (w:World) :
  Calls Tryz.prog 44 #[t.v] w fun e w'=>e = .returned (.bool t.var) /\ Below w.heap.size w w':=by
 obtain ⟨k,n,s⟩:=t
 unfold Tm.var
 go_enter Tryz.func44,Tryz.ntmps44
 go_wp2
 all_goals
  go_ret
  refine ⟨ret_b ?_,below1 _ _⟩
  simp_all [isE]
  try omega
set_option maxHeartbeats 400000 in
theorem con_any (t:Tm) (w:World) :
  Calls Tryz.prog 46 #[t.v] w fun e w'=>e = .returned (.bool t.con) /\ Below w.heap.size w w':=by
 obtain ⟨k,n,s⟩:=t
 unfold Tm.con
 go_enter Tryz.func46,Tryz.ntmps46
 go_wp2
 all_goals
  go_ret
  refine ⟨ret_b ?_,below1 _ _⟩
  simp_all [isE]
  try omega
theorem prin_eq (k n:Int) (s:ByteArray) (h:k = 2) (h':s ≠ ⟨#[]⟩):Tm.con ⟨k,n,s⟩ = Tm.prin ⟨k,n,s⟩:=by
 subst h;simp [Tm.con,Tm.prin,h']
theorem prin_no (k n:Int) (s:ByteArray) (h:¬ (k = 2 /\ s ≠ ⟨#[]⟩)):false = Tm.prin ⟨k,n,s⟩:=by
 simp only [Tm.prin,ne_eq,Bool.false_eq,decide_eq_false_iff_not] at *
 exact fun x=>h ⟨x.1,x.2.2.2⟩
set_option maxHeartbeats 400000 in
theorem prin_any (t:Tm) (w:World) :
  Calls Tryz.prog 132 #[t.v] w fun e w'=>e = .returned (.bool t.prin) /\ Below w.heap.size w w':=by
 obtain ⟨k,n,s⟩:=t
 by_cases h1:k = 2
 ·subst h1
  cases h2:s.toList.isEmpty
  ·have h3:s ≠ ⟨#[]⟩:=by rw [isE] at h2;simpa using h2
   go_enter Tryz.func132,Tryz.ntmps132
   go_wp2_with (go_at_call 46;refine (con_any ⟨2,n,s⟩ _).mono ?_;rintro e w1 ⟨rfl,hb⟩)
   go_ret
   exact ⟨ret_b (prin_eq _ _ _ rfl h3),(below1 _ _).trans (hb.mono (by simp))⟩
  ·have h3:s = ⟨#[]⟩:=by rw [isE] at h2;simpa using h2
   go_enter Tryz.func132,Tryz.ntmps132
   go_wp2
   go_ret
   exact ⟨ret_b (prin_no _ _ _ (fun x=>x.2 h3)),below1 _ _⟩
 ·go_enter Tryz.func132,Tryz.ntmps132
  go_wp2
  go_ret
  exact ⟨ret_b (prin_no _ _ _ (fun x=>h1 x.1)),below1 _ _⟩
end Go.Proofs.YtcpjiahdaplhlaaGreatDoor
namespace Go.Proofs.YtcpjiahdaplhlaaGreatDoor
namespace M
def bl:=Go.Op.bytesLess
def sgL (x y:List UInt8):Int:=if bl x y then -1 else if x = y then 0 else 1
def at_ (s:ByteArray) (j:Nat):Int:=if h:j < s.size then (s[j].toNat:Int) else 0
end M
end Go.Proofs.YtcpjiahdaplhlaaGreatDoor
namespace Go.Proofs.YtcpjiahdaplhlaaGreatDoor
open Go.RowKit
theorem toList_inj {a b:ByteArray} (h:a.toList = b.toList):a = b:=by
 rw [ByteArray.toList_eq,ByteArray.toList_eq] at h
 exact ByteArray.ext (Array.toList_inj.1 h)
end Go.Proofs.YtcpjiahdaplhlaaGreatDoor

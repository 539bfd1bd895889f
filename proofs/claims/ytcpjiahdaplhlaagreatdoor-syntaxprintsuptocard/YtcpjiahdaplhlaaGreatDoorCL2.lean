import Derived.Test.YtcpjiahdaplhlaaGreatDoorB4
import Derived.ProofKit
import Derived.OpenShut
import Derived.ShutString
import Derived.ChangeOld
import Derived.Below
import Derived.Lib.SmallJoins
import Derived.Deep.Slices
import Derived.Deep.Strs
import Derived.SizedLaws
import Derived.Deep.RegionHeld3
import Derived.Deep.DrawnRows
import Derived.RangeFuncNested
import Derived.RangeFuncBound
import Derived.RangeFuncLeaves
import Derived.RangeFuncCalls
import Derived.Shelf.Abstract
import Derived.Shelf.RegionOpen
import Derived.WalkKit
import Derived.OwnWalkIn
import Derived.TacticsInMore
import Derived.LoopNIn
import Derived.LoopIn
namespace Go.Proofs.YtcpjiahdaplhlaaGreatDoor
open Go.ChangeShapes Go.WideShapes Go.ChangeAt Go.RowKit Go.Joins
open Go.ChangeMaps (open_string shut_string)
theorem Tryz.laidOut:laidOutB Tryz.prog = true:=by kernel_rfl
theorem Tryz.cellsTerm:Tryz.prog.cellsOf 39 = 3:=by kernel_rfl
end Go.Proofs.YtcpjiahdaplhlaaGreatDoor
namespace Go.Proofs.YtcpjiahdaplhlaaGreatDoor
open Go.ChangeShapes Go.WideShapes Go.ChangeAt Go.RowKit Go.Joins Go.Deep
theorem Tryz.cellsAtom:Tryz.prog.cellsOf 42 = 5:=by kernel_rfl
theorem Tryz.cellsInt:Tryz.prog.cellsOf 3 = 1:=by kernel_rfl
theorem Tryz.cellsString:Tryz.prog.cellsOf 9 = 1:=by kernel_rfl
theorem Tryz.cellsTerms:Tryz.prog.cellsOf 40 = 1:=by kernel_rfl
theorem Tryz.bytesTerm:Tryz.prog.bytesOf 39 = 32:=by kernel_rfl
theorem list3 {α:Type} {l:List α} (h:l.length = 3):∃ a b c,l = [a,b,c]:=by
 match l,h with
 | [a,b,c],_=>exact ⟨a,b,c,rfl⟩
theorem lst5z {α:Type} {l:List α} (h:l.length = 5):∃ a b c d e,l = [a,b,c,d,e]:=by
 match l,h with
 | [a,b,c,d,e],_=>exact ⟨a,b,c,d,e,rfl⟩
end Go.Proofs.YtcpjiahdaplhlaaGreatDoor
namespace Go.Proofs.YtcpjiahdaplhlaaGreatDoor
open Go.RowKit
theorem run_eql_tm (t u:Tm) (w:World):(binOp .eql 39 t.v u.v).run Tryz.prog w = .ok (.bool (decide (t = u))) w:=by
 obtain ⟨k,n,s⟩:=t
 obtain ⟨k',n',s'⟩:=u
 by_cases h1:k = k'
 ·by_cases h2:n = n'
  ·by_cases h3:s = s'
   ·subst h1 h2 h3
    go_simp
   ·have h4:¬ s.toList = s'.toList:=fun e=>h3 (toList_inj e)
    subst h1 h2
    go_simp
  ·subst h1
   go_simp
 ·go_simp
theorem run_neq_tm (t u:Tm) (w:World):(binOp .neq 39 t.v u.v).run Tryz.prog w = .ok (.bool (!decide (t = u))) w:=by
 obtain ⟨k,n,s⟩:=t
 obtain ⟨k',n',s'⟩:=u
 by_cases h1:k = k'
 ·by_cases h2:n = n'
  ·by_cases h3:s = s'
   ·subst h1 h2 h3
    go_simp
   ·have h4:¬ s.toList = s'.toList:=fun e=>h3 (toList_inj e)
    subst h1 h2
    go_simp
  ·subst h1
   go_simp
 ·go_simp
end Go.Proofs.YtcpjiahdaplhlaaGreatDoor
namespace Go.Proofs.YtcpjiahdaplhlaaGreatDoor
open Go.RowKit
attribute [local go_sem ↓] Go.wp_at_zero Go.wp_at_succ
theorem five {w:World} {g:Nat} {a b c d f:Value} {t:TypeId} (h:w.heap[g]? = some (.cells #[a,b,c,d,f] t (0,0))) :
  w.cell? ⟨g,0,none⟩ = some a /\ w.cell? ⟨g,1,none⟩ = some b /\ w.cell? ⟨g,2,none⟩ = some c /\ w.cell? ⟨g,3,none⟩ = some d /\ w.cell? ⟨g,4,none⟩ = some f:=
 ⟨cell_of_row _ _ _ _ _ _ h,cell_of_row _ _ _ _ _ _ h,cell_of_row _ _ _ _ _ _ h,cell_of_row _ _ _ _ _ _ h,cell_of_row _ _ _ _ _ _ h⟩
theorem below_step {W w' w3:World} (h:Below W.heap.size W w') (h3:Below w'.heap.size w' w3):Below W.heap.size W w3:=h.trans (h3.mono h.size)
theorem cell_step {w' w3:World} {b o:Nat} {v:Value} (h3:Below w'.heap.size w' w3) (hb:b < w'.heap.size) (hc:w'.cell? ⟨b,o,none⟩ = some v):w3.cell? ⟨b,o,none⟩ = some v:=by
 rw [h3.cell (p:=⟨b,o,none⟩) hb];exact hc
theorem lt_step {w' w3:World} {b:Nat} (h3:Below w'.heap.size w' w3) (hb:b < w'.heap.size):b < w3.heap.size:=Nat.lt_of_lt_of_le hb h3.size
end Go.Proofs.YtcpjiahdaplhlaaGreatDoor
namespace Go.Proofs.YtcpjiahdaplhlaaGreatDoor
open Go.RowKit
attribute [local go_sem ↓] Go.wp_at_zero Go.wp_at_succ
def Tm.cov (t:Tm):Bool:=t.con || t.var
set_option maxHeartbeats 400000 in
theorem cov_any (t:Tm) (w:World) :
  Calls Tryz.prog 94 #[t.v] w fun e w'=>e = .returned (.bool t.cov) /\ Below w.heap.size w w':=by
 obtain ⟨k,n,s⟩:=t
 cases h:Tm.con ⟨k,n,s⟩
 ·have HC:Hid (Tm.con ⟨k,n,s⟩ = false):=h
  clear h
  go_enter Tryz.func94,Tryz.ntmps94
  go_wp2_with (first
   | (go_at_call 46;refine (con_any ⟨k,n,s⟩ _).mono ?_;rw [HC.out];rintro e w1 ⟨rfl,hb1⟩;obtain ⟨hcl,hfr⟩:=bcell hb1)
   | (go_at_call 44;refine (var_any ⟨k,n,s⟩ _).mono ?_;rintro e w2 ⟨rfl,hb2⟩))
  go_ret
  exact ⟨ret_b (by unfold Tm.cov;rw [HC.out];simp),below_step (below_step (below1 _ _) hb1) hb2⟩
 ·have HC:Hid (Tm.con ⟨k,n,s⟩ = true):=h
  clear h
  go_enter Tryz.func94,Tryz.ntmps94
  go_wp2_with (first
   | (go_at_call 46;refine (con_any ⟨k,n,s⟩ _).mono ?_;rw [HC.out];rintro e w1 ⟨rfl,hb1⟩;obtain ⟨hcl,hfr⟩:=bcell hb1))
  go_ret
  exact ⟨ret_b (by unfold Tm.cov;rw [HC.out];simp),below_step (below1 _ _) hb1⟩
structure Te where
 op:Int
 l:Tm
 r:Tm
deriving DecidableEq
abbrev Te.v (t:Te):Value:=.agg #[.int .i64 t.op,.int .i64 t.l.k,.int .i64 t.l.n,.string t.l.s,.int .i64 t.r.k,.int .i64 t.r.n,.string t.r.s]
def Te.ok (t:Te):Bool:=decide (1 <= t.op /\ t.op <= 4) && (t.l.cov && t.r.cov)
set_option maxHeartbeats 1000000 in
theorem check_any (t:Te) (w:World) :
  Calls Tryz.prog 170 #[t.v] w fun e w'=>e = .returned (.int .i64 (if t.ok then 0 else 32)) /\ Below w.heap.size w w':=by
 obtain ⟨op,⟨k,n,s⟩,⟨k',n',s'⟩⟩:=t
 obtain ⟨c1,h1⟩:∃ c,Tm.cov ⟨k,n,s⟩ = c:=⟨_,rfl⟩
 obtain ⟨c2,h2⟩:∃ c,Tm.cov ⟨k',n',s'⟩ = c:=⟨_,rfl⟩
 obtain ⟨r,hr⟩:∃ r:Int,(if Te.ok ⟨op,⟨k,n,s⟩,⟨k',n',s'⟩⟩ then 0 else 32) = r:=⟨_,rfl⟩
 rw [hr]
 have HR:Hid ((if decide (1 <= op /\ op <= 4) && (c1 && c2) then (0:Int) else 32) = r):=by rw [<- hr, <- h1, <- h2];rfl
 have H1:Hid (Tm.cov ⟨k,n,s⟩ = c1):=h1
 have H2:Hid (Tm.cov ⟨k',n',s'⟩ = c2):=h2
 clear h1 h2 hr
 by_cases o1:op < 1
 ·go_enter Tryz.func170,Tryz.ntmps170
  go_wp2
  go_ret
  exact ⟨ret_i (by rw [<- HR.out,decide_eq_false (by omega)];rfl),below1 _ _⟩
 ·by_cases o2:4 < op
  ·go_enter Tryz.func170,Tryz.ntmps170
   go_wp2
   go_ret
   exact ⟨ret_i (by rw [<- HR.out,decide_eq_false (by omega)];rfl),below1 _ _⟩
  ·cases c1
   ·go_enter Tryz.func170,Tryz.ntmps170
    go_wp2_with (go_at_call 94;refine (cov_any ⟨k,n,s⟩ _).mono ?_;rw [H1.out];rintro e w1 ⟨rfl,hb1⟩)
    go_ret
    exact ⟨ret_i (by rw [<- HR.out];simp),below_step (below1 _ _) hb1⟩
   ·cases c2
    all_goals
     go_enter Tryz.func170,Tryz.ntmps170
     go_wp2_with (go_at_call 94;refine (cov_any ⟨_,_,_⟩ _).mono ?_;first | (rw [H1.out];rintro e w1 ⟨rfl,hb1⟩;obtain ⟨hcl,hfr⟩:=bcell hb1;have hm:=below_step (below1 _ _) hb1) | (rw [H2.out];rintro e w2 ⟨rfl,hb2⟩))
     go_ret
     exact ⟨ret_i (by rw [<- HR.out,decide_eq_true (by omega)];simp),below_step hm hb2⟩
def Box1 (w W:World) (c:Array Value) (ty:TypeId):Prop:=W.heap[w.heap.size]? = some (.cells c ty (0,0)) /\ Below w.heap.size w W
theorem Box1.start (w:World) (c:Array Value) (ty:TypeId):Box1 w (w.alloc (.cells c ty)) c ty:=⟨heap_alloc_new _ _,below1 _ _⟩
theorem Box1.later {w W W':World} {c:Array Value} {ty:TypeId} (h:Box1 w W c ty) (hb:Below W.heap.size W W'):Box1 w W' c ty:=
 ⟨(hb.block _ (Array.getElem?_eq_some_iff.1 h.1).1).trans h.1,h.2.trans (hb.mono h.2.size)⟩
theorem Box1.cells7 {w W:World} {a b c d e f g:Value} {ty:TypeId} (h:Box1 w W #[a,b,c,d,e,f,g] ty) :
  W.cell? ⟨w.heap.size,0,none⟩ = some a /\ W.cell? ⟨w.heap.size,1,none⟩ = some b /\ W.cell? ⟨w.heap.size,2,none⟩ = some c /\ W.cell? ⟨w.heap.size,3,none⟩ = some d /\ W.cell? ⟨w.heap.size,4,none⟩ = some e /\ W.cell? ⟨w.heap.size,5,none⟩ = some f /\ W.cell? ⟨w.heap.size,6,none⟩ = some g:=
 ⟨cell_of_row _ _ _ _ _ _ h.1,cell_of_row _ _ _ _ _ _ h.1,cell_of_row _ _ _ _ _ _ h.1,cell_of_row _ _ _ _ _ _ h.1,cell_of_row _ _ _ _ _ _ h.1,cell_of_row _ _ _ _ _ _ h.1,cell_of_row _ _ _ _ _ _ h.1⟩
end Go.Proofs.YtcpjiahdaplhlaaGreatDoor
namespace Go.Proofs.YtcpjiahdaplhlaaGreatDoor
open Go.RowKit
def ARow (w:World) (b o:Nat) (l:List (At × Value)):Prop:=
 b < w.heap.size /\ ∀ i x,l[i]? = some x -> w.cell? ⟨b,o + i * 5,none⟩ = some (.int .i64 x.1.by_.k) /\ w.cell? ⟨b,o + i * 5 + 1,none⟩ = some (.int .i64 x.1.by_.n) /\ w.cell? ⟨b,o + i * 5 + 2,none⟩ = some (.string x.1.by_.s) ∧
  w.cell? ⟨b,o + i * 5 + 3,none⟩ = some (.string x.1.name) /\ w.cell? ⟨b,o + i * 5 + 4,none⟩ = some x.2
def As (w:World) (v:Value) (l:List (At × Value)):Prop:=
 ∃ a cap,v = .slice a l.length cap /\ l.length < 1000000000000000000 /\ (l = [] ∨ ∃ b o,a = some ⟨b,o,none⟩ /\ ARow w b o l) /\ ∀ x ∈ l,Ts w x.2 x.1.args
def ERow (w:World) (b o:Nat) (l:List Te):Prop:=
 b < w.heap.size /\ ∀ i (t:Te),l[i]? = some t -> w.cell? ⟨b,o + i * 7,none⟩ = some (.int .i64 t.op) /\ w.cell? ⟨b,o + i * 7 + 1,none⟩ = some (.int .i64 t.l.k) /\ w.cell? ⟨b,o + i * 7 + 2,none⟩ = some (.int .i64 t.l.n) /\ w.cell? ⟨b,o + i * 7 + 3,none⟩ = some (.string t.l.s) ∧
  w.cell? ⟨b,o + i * 7 + 4,none⟩ = some (.int .i64 t.r.k) /\ w.cell? ⟨b,o + i * 7 + 5,none⟩ = some (.int .i64 t.r.n) /\ w.cell? ⟨b,o + i * 7 + 6,none⟩ = some (.string t.r.s)
def Es (w:World) (v:Value) (l:List Te):Prop:=
 ∃ a cap,v = .slice a l.length cap /\ l.length < 1000000000000000000 /\ (l = [] ∨ ∃ b o,a = some ⟨b,o,none⟩ /\ ERow w b o l)
theorem ARow.later {w w':World} {b o l} (h:ARow w b o l) (hb:Below w.heap.size w w'):ARow w' b o l:=
 ⟨Nat.lt_of_lt_of_le h.1 hb.size,fun i x hx=>by
  have:=h.2 i x hx
  rw [hb.cell (p:=⟨b,_,none⟩) h.1,hb.cell (p:=⟨b,_,none⟩) h.1,hb.cell (p:=⟨b,_,none⟩) h.1,hb.cell (p:=⟨b,_,none⟩) h.1,hb.cell (p:=⟨b,_,none⟩) h.1];exact this⟩
theorem ERow.later {w w':World} {b o l} (h:ERow w b o l) (hb:Below w.heap.size w w'):ERow w' b o l:=
 ⟨Nat.lt_of_lt_of_le h.1 hb.size,fun i x hx=>by
  have:=h.2 i x hx
  rw [hb.cell (p:=⟨b,_,none⟩) h.1,hb.cell (p:=⟨b,_,none⟩) h.1,hb.cell (p:=⟨b,_,none⟩) h.1,hb.cell (p:=⟨b,_,none⟩) h.1,hb.cell (p:=⟨b,_,none⟩) h.1,hb.cell (p:=⟨b,_,none⟩) h.1,hb.cell (p:=⟨b,_,none⟩) h.1];exact this⟩
theorem As.later {w w':World} {v l} (h:As w v l) (hb:Below w.heap.size w w'):As w' v l:=by
 obtain ⟨a,cap,rfl,hl,h,ht⟩:=h
 refine ⟨a,cap,rfl,hl, ?_,fun x hx=>(ht x hx).later hb⟩
 rcases h with h | ⟨b,o,rfl,h⟩
 ·exact Or.inl h
 ·exact Or.inr ⟨b,o,rfl,h.later hb⟩
theorem Es.later {w w':World} {v l} (h:Es w v l) (hb:Below w.heap.size w w'):Es w' v l:=by
 obtain ⟨a,cap,rfl,hl,h⟩:=h
 refine ⟨a,cap,rfl,hl, ?_⟩
 rcases h with h | ⟨b,o,rfl,h⟩
 ·exact Or.inl h
 ·exact Or.inr ⟨b,o,rfl,h.later hb⟩
structure Cm where
 head:At × Value
 body:List (At × Value)
 bv:Value
 tests:List Te
 tv:Value
abbrev Cm.v (c:Cm):Value:=.agg #[.int .i64 c.head.1.by_.k,.int .i64 c.head.1.by_.n,.string c.head.1.by_.s,.string c.head.1.name,c.head.2,c.bv,c.tv]
abbrev Cm.cs (c:Cm):Array Value:=#[.int .i64 c.head.1.by_.k,.int .i64 c.head.1.by_.n,.string c.head.1.by_.s,.string c.head.1.name,c.head.2,c.bv,c.tv]
structure Cm.ok (w:World) (c:Cm):Prop where
 h:Ts w c.head.2 c.head.1.args
 b:As w c.bv c.body
 t:Es w c.tv c.tests
theorem Cm.ok.later {w w':World} {c:Cm} (h:c.ok w) (hb:Below w.heap.size w w'):c.ok w':=⟨h.h.later hb,h.b.later hb,h.t.later hb⟩
theorem Cm.ok.shape {w:World} {c:Cm} (h:c.ok w):(∃ a n cap,c.head.2 = .slice a n cap) /\ (∃ a cap,c.bv = .slice a c.body.length cap) /\ (∃ a cap,c.tv = .slice a c.tests.length cap) /\ c.body.length < 1000000000000000000 /\ c.tests.length < 1000000000000000000:=by
 obtain ⟨⟨a,cap,h1, -⟩,⟨a',cap',h2,h4, -⟩,⟨a'',cap'',h3,h5, -⟩⟩:=h
 exact ⟨⟨a,_,cap,h1⟩,⟨a',cap',h2⟩,⟨a'',cap'',h3⟩,h4,h5⟩
def Cm.atoms (c:Cm):List (At × Value):=c.head :: c.body
def Cm.terms (c:Cm):List Tm:=(c.atoms.flatMap fun x=>x.1.pl) ++ c.tests.flatMap fun t=>[t.l,t.r]
def Cm.vars (c:Cm):List Int:=(c.terms.filter Tm.var).map (·.n)
def CBlk (W:World) (g:Nat) (c:Array Value) (t:TypeId):Prop:=W.heap[g]? = some (.cells c t (0,0))
theorem CBlk.lt {W:World} {g:Nat} {c:Array Value} {t:TypeId} (h:CBlk W g c t):g < W.heap.size:=(Array.getElem?_eq_some_iff.1 h).1
theorem CBlk.later {W W':World} {g:Nat} {c:Array Value} {t:TypeId} (h:CBlk W g c t) (hb:Below W.heap.size W W'):CBlk W' g c t:=(hb.block _ h.lt).trans h
theorem CBlk.new (W:World) (c:Array Value) (t:TypeId):CBlk (W.alloc (.cells c t)) W.heap.size c t:=heap_alloc_new _ _
theorem cseven {w:World} {g:Nat} {a b c d e f i:Value} {t:TypeId} (h:CBlk w g #[a,b,c,d,e,f,i] t) :
  w.cell? ⟨g,0,none⟩ = some a /\ w.cell? ⟨g,1,none⟩ = some b /\ w.cell? ⟨g,2,none⟩ = some c /\ w.cell? ⟨g,3,none⟩ = some d /\ w.cell? ⟨g,4,none⟩ = some e /\ w.cell? ⟨g,5,none⟩ = some f /\ w.cell? ⟨g,6,none⟩ = some i:=
 ⟨cell_of_row _ _ _ _ _ _ h,cell_of_row _ _ _ _ _ _ h,cell_of_row _ _ _ _ _ _ h,cell_of_row _ _ _ _ _ _ h,cell_of_row _ _ _ _ _ _ h,cell_of_row _ _ _ _ _ _ h,cell_of_row _ _ _ _ _ _ h⟩
end Go.Proofs.YtcpjiahdaplhlaaGreatDoor
namespace Go.Proofs.YtcpjiahdaplhlaaGreatDoor
open Go.ChangeShapes Go.WideShapes Go.ChangeAt Go.RowKit Go.Joins Go.Deep
theorem weights_mem_all {H:Type} {P:Program} {e:TypeId} {d:DataW H} {n:Nat} (hn:n ∈ d.weights P e):∀ {ds:List (DataW H)},d ∈ ds -> n ∈ DataW.weightsAll P e ds
 | x :: r,h=>by
  rw [DataW.weightsAll,List.mem_append]
  rcases List.mem_cons.1 h with rfl | h
  ·exact Or.inl hn
  ·exact Or.inr (weights_mem_all hn h)
theorem Tryz.cellsTest3:Tryz.prog.cellsOf 85 = 7:=by kernel_rfl
theorem Tryz.cellsClause:Tryz.prog.cellsOf 53 = 7:=by kernel_rfl
theorem Tryz.cellsAtoms:Tryz.prog.cellsOf 50 = 1:=by kernel_rfl
theorem Tryz.cellsTests:Tryz.prog.cellsOf 51 = 1:=by kernel_rfl
theorem Tryz.bytesAtom:Tryz.prog.bytesOf 42 = 72:=by kernel_rfl
theorem Tryz.bytesTest:Tryz.prog.bytesOf 85 = 72:=by kernel_rfl
theorem clist7 {α:Type} {l:List α} (h:l.length = 7):∃ a b c d e f g,l = [a,b,c,d,e,f,g]:=by
 match l,h with
 | [a,b,c,d,e,f,g],_=>exact ⟨a,b,c,d,e,f,g,rfl⟩
end Go.Proofs.YtcpjiahdaplhlaaGreatDoor
namespace Go.Proofs.YtcpjiahdaplhlaaGreatDoor
open Go.RowKit
structure Up (B:Nat) (W W':World):Prop where
 size:W.heap.size <= W'.heap.size
 same:∀ k,B <= k -> k < W.heap.size -> W'.heap[k]? = W.heap[k]?
theorem Up.refl (B:Nat) (W:World):Up B W W:=⟨Nat.le_refl _,fun _ _ _=>rfl⟩
theorem Up.trans {B:Nat} {X Y Z:World} (h:Up B X Y) (k:Up B Y Z):Up B X Z:=
 ⟨Nat.le_trans h.size k.size,fun i hB hi=>(k.same i hB (Nat.lt_of_lt_of_le hi h.size)).trans (h.same i hB hi)⟩
theorem Up.mono {B B':Nat} {W W':World} (h:Up B W W') (hB:B <= B'):Up B' W W':=⟨h.size,fun k hk hl=>h.same k (Nat.le_trans hB hk) hl⟩
theorem Up.below {B:Nat} {W W':World} (h:Below W.heap.size W W'):Up B W W':=⟨h.size,fun k _ hl=>h.block k hl⟩
theorem Up.alloc (B:Nat) (W:World) (o:Obj):Up B W (W.alloc o):=⟨by simp,fun k _ hl=>Below.heap_alloc W o k hl⟩
theorem Up.setCell {B:Nat} {W:World} {a:Addr} (v:Value) (h:a.block < B):Up B W (W.setCell a v):=
 ⟨(KeepsOthers.setCell W a v).size,fun k hB _=>Below.heap_setCell W a v k (by omega)⟩
theorem Up.putObj {B:Nat} {W:World} {l:Nat} (o:Obj) (h:l < B):Up B W (W.putObj l o):=
 ⟨by simp,fun k hB _=>World.putObj_heap_other (by omega)⟩
theorem Up.grown {B:Nat} {W W':World} {row:Option Nat} (hg:W.grownBy W' row) (hr:∀ k,row = some k -> k < B):Up B W W':=
 ⟨hg.size,fun k hB hl=>hg.block k hl (fun e=>by have:=hr k e.symm;omega)⟩
def SeqO {α:Type} (P:Program) (g:Nat) (lb:Array Value) (encs : α -> Array Value) (xs:List α) (D:World -> Prop):Prop:=
 ∀ (n l:Nat) (J Jx:List α -> World -> Prop) (W:World),(∀ pre W1,J pre W1 -> D W1) -> OwnFrom W.heap.size J -> OwnFrom W.heap.size Jx →
  (∀ (m:Nat) pre x W1,J pre W1 -> pre ++ [x] <+: xs -> YieldAt Fence.wide m P l (encs x) W1 fun e W'=>
   (e = .returned (.bool true) /\ J (pre ++ [x]) W' /\ Up W.heap.size W1 W') ∨ (e = .returned (.bool false) /\ Jx (pre ++ [x]) W' /\ Up W.heap.size W1 W')) →
  J [] W →
  CallsIn Fence.wide n P g (#[.func (.yield l) #[] #[]] ++ lb) W fun e W'=>(∃ v,e = .returned v) /\ (J xs W' ∨ ∃ pre,pre <+: xs /\ Jx pre W')
def seqPost {α:Type} (B:Nat) (I:List α -> World -> Prop) (Ix:Code -> List α -> World -> Prop) (xs:List α) (W:World):Exit -> Act -> World -> Prop
 | .normal,_,W'=>Up B W W' /\ I xs W'
 | .ret,_,W'=>Up B W W' /\ Ix .ret xs W'
 | .exit id,_,W'=>Up B W W' /\ Ix (.exit id) xs W'
 | .goto t,_,W'=>Up B W W' /\ Ix (.goto t) xs W'
 | .panic _,_,_=>False
 | .outgrown,_,_=>False
variable {n:Nat} {P:Program}
theorem wpIn_seq {α:Type} {g:Operand} {ps:Array Tmp} {assign body:Code} {Q:Exit -> Act -> World -> Prop} {a:Act} {w:World}
  {gf:Nat} {lb:Array Value} (hg:a.eval g = .func (.func gf) #[] lb) (eg:∀ args w,(callFunc gf args).run P w = .ok (.enter gf args) w)
  {encs : α -> Array Value} {xs:List α} {D:World -> Prop} (hseq:SeqO P gf lb encs xs D) (hps:∀ x,(encs x).size = ps.size)
  (I:List α -> World -> Prop) (Ix:Code -> List α -> World -> Prop) (hI:OwnFrom w.heap.size I) (hIx:∀ c,OwnFrom w.heap.size (Ix c)) (hIb:∀ pre W,I pre W -> D W) (h0:I [] w)
  (Ax : α -> Act -> World -> Prop) (hAx:∀ x a',OwnFrom w.heap.size (fun (_:Unit) W=>Ax x a' W))
  (hassign:∀ (l m:Nat) (pre:List α) (x : α) (W:World) (K:Act -> World -> Prop),pre ++ [x] <+: xs -> I pre W -> w.heap.size <= W.heap.size -> (∀ a' W',Up w.heap.size W W' -> I pre W' -> Ax x a' W' -> K a' W') →
   assign.wpIn (Fence.wide.inRound l) m P (Exit.then K (fun _ _ _=>False)) { tmps:=(ps.zip (encs x)).foldl (fun t (p,v)=>t.setIfInBounds p v) a.tmps,defers:=[] } W)
  (hbody:∀ (l m:Nat) (pre:List α) (x : α) (a':Act) (W:World),pre ++ [x] <+: xs -> I pre W -> Ax x a' W -> w.heap.size <= W.heap.size -> body.wpIn (Fence.wide.inRound l) m P (seqPost w.heap.size I Ix (pre ++ [x]) W) a' W)
  (hdone:∀ (E:Nat) (W:World),w.heap.size <= E -> I xs W -> W.heap[E]? = some (.deferred (some [])) -> Q .normal { a with defers:={ target:=.collected E,args:=#[] } :: a.defers } W)
  (hstop:∀ (E:Nat) (c:Code) (pre:List α) (W:World),w.heap.size <= E -> pre <+: xs -> Ix c pre W -> W.heap[E]? = some (.deferred (some [])) -> c.wpIn Fence.wide n P Q { a with defers:={ target:=.collected E,args:=#[] } :: a.defers } W) :
  (Code.rangeFunc g ps assign body).wpIn Fence.wide n P Q a w:=by
 refine wpIn_rangeFunc fun fn hfn=>?_
 -- the two blocks that the loop lays: D for deferred calls,L its record
 obtain ⟨rec,hrec⟩:∃ rec:LoopState -> Option Code -> Loop,rec = fun st pe=>{ state:=st,pending:=pe,fn,tmps:=a.tmps,params:=ps,assign,body,defers:=w.heap.size }:=⟨_,rfl⟩
 obtain ⟨W1,hW1⟩:∃ W1,(w.alloc (.deferred (some []))).alloc (.loop (rec .ready none)) = W1:=⟨_,rfl⟩
 have hz1:W1.heap.size = w.heap.size + 2:=by rw [<- hW1];simp
 have hL1:W1.heap[w.heap.size + 1]? = some (.loop (rec .ready none)):=by
  rw [<- hW1];have:=World.alloc_heap_new (w.alloc (.deferred (some []))) (.loop (rec .ready none));rwa [World.size_alloc] at this
 have hK1:W1.heap[w.heap.size]? = some (.deferred (some [])):=by
  rw [<- hW1];exact (Below.heap_alloc _ _ _ (by simp)).trans (World.alloc_heap_new w _)
 have hI1:I [] W1:=by rw [<- hW1];exact hI.alloc _ (hI.alloc _ h0)
 have far:∀ {X Y:World} {row:Option Nat} {k:Nat} {o:Obj},X.grownBy Y row -> (∀ r,row = some r -> W1.heap.size <= r /\ ∃ o:Obj,X.heap[r]? = some o /\ o.isCells = false) -> X.heap[k]? = some o -> k < W1.heap.size -> Y.heap[k]? = some o:=
  fun hgr hr hk hlt=>(hgr.block _ (Array.getElem?_eq_some_iff.1 hk).1 (fun e=>by have:=(hr _ e.symm).1;omega)).trans hk
 have low:∀ {X:World} {row:Option Nat},(∀ r,row = some r -> W1.heap.size <= r /\ ∃ o:Obj,X.heap[r]? = some o /\ o.isCells = false) -> (∀ r,row = some r -> w.heap.size <= r /\ ∃ o:Obj,X.heap[r]? = some o /\ o.isCells = false):=
  fun hr r e=>⟨by have:=(hr r e).1;omega,(hr r e).2⟩
 refine ⟨w.heap.size + 1,[{ target:=.collected w.heap.size,args:=#[] }],W1,{ target:=.fn (.func gf) lb,args:=#[.func (.yield (w.heap.size + 1)) #[] #[]] },W1,gf,
  #[.func (.yield (w.heap.size + 1)) #[] #[]] ++ lb,W1, ?_, ?_, ?_, ?_, ?_, ?_⟩
 ·rw [<- hW1,hrec];exact run_enterLoop_outer _ _ _ _ _
 ·simp only [resolve,hg]
  simp [go_sem]
 ·intro f' _;trivial
 ·simp [invoke,go_sem,eg]
 ·intro h;cases h
 ·refine (hseq (n - 1) (w.heap.size + 1)
   (fun pre W=>I pre W /\ W.heap[w.heap.size + 1]? = some (.loop (rec .ready none)) /\ W.heap[w.heap.size]? = some (.deferred (some [])))
   (fun pre W=>∃ c,Ix c pre W /\ W.heap[w.heap.size + 1]? = some (.loop (rec .done (some c))) /\ W.heap[w.heap.size]? = some (.deferred (some [])))
   W1 (fun pre X h=>hIb pre X h.1)
   (fun s X Y row hs hgr hr=>⟨hI s X Y row hs.1 hgr (low hr),far hgr hr hs.2.1 (by omega),far hgr hr hs.2.2 (by omega)⟩)
   (fun s X Y row hs hgr hr=>by
    obtain ⟨c,hc,hl,hk⟩:=hs
    exact ⟨c,hIx c s X Y row hc hgr (low hr),far hgr hr hl (by omega),far hgr hr hk (by omega)⟩)
   ?_ ⟨hI1,hL1,hK1⟩).mono ?_
  ·-- a round
   rintro m pre x W ⟨hi,hl,hk⟩ hpre
   have hy:=run_yield (P:=P) (args:=encs x) hl (by rw [hrec];exact hps x)
   rw [hrec] at hy
   have hlt0:w.heap.size + 1 < W.heap.size:=(Array.getElem?_eq_some_iff.1 hl).1
   refine ⟨fn,_,assign,body,hy,roundIn_of_wpIn hfn (hassign _ _ pre x W _ hpre hi (by omega) ?_)⟩
   clear hy
   intro a' Wa hua hia hax
   have hla:=(hua.same _ (by omega) (Array.getElem?_eq_some_iff.1 hl).1).trans hl
   have hka:=(hua.same _ (Nat.le_refl _) (Array.getElem?_eq_some_iff.1 hk).1).trans hk
   have hlt:w.heap.size + 1 < Wa.heap.size:=(Array.getElem?_eq_some_iff.1 hla).1
   refine ⟨_,run_beginRound hla (by rw [hrec]), ?_⟩
   obtain ⟨Wb,hWb⟩:∃ Wb,Wa.putObj (w.heap.size + 1) (.loop { rec .ready none with state:=.busy }) = Wb:=⟨_,rfl⟩
   have hlb:Wb.heap[w.heap.size + 1]? = some (.loop { rec .ready none with state:=.busy }):=by rw [<- hWb];exact World.putObj_heap_same hlt
   have hkb:Wb.heap[w.heap.size]? = some (.deferred (some [])):=by rw [<- hWb];exact (World.putObj_heap_other (by omega)).trans hka
   have hub:Up W1.heap.size Wa Wb:=by rw [<- hWb];exact Up.putObj _ (by omega)
   have hib:I pre Wb:=by rw [<- hWb];exact hI.putObj _ hia (by omega) hla rfl
   have haxb:Ax x a' Wb:=by rw [<- hWb];exact (hAx x a').putObj (s:=()) _ hax (by omega) hla rfl
   have hzb:Wb.heap.size = Wa.heap.size:=by rw [<- hWb];simp
   rw [hWb]
   refine wpIn_mono (hbody _ _ pre x a' Wb hpre hib haxb (by omega)) ?_
   have fin:∀ (jump:Option Code) (W3:World),Up w.heap.size Wb W3 →
     (Instr.endRound (w.heap.size + 1) jump).run P W3 = .ok (.bool jump.isNone) (W3.putObj (w.heap.size + 1) (.loop (rec (if jump.isNone then .ready else .done) jump))) ∧
     W3.heap[w.heap.size + 1]? = some (.loop { rec .ready none with state:=.busy }) ∧
     (W3.putObj (w.heap.size + 1) (.loop (rec (if jump.isNone then .ready else .done) jump))).heap[w.heap.size + 1]? = some (.loop (rec (if jump.isNone then .ready else .done) jump)) ∧
     (W3.putObj (w.heap.size + 1) (.loop (rec (if jump.isNone then .ready else .done) jump))).heap[w.heap.size]? = some (.deferred (some [])):=fun jump W3 hu3=>by
    have hl3:=(hu3.same _ (by omega) (Array.getElem?_eq_some_iff.1 hlb).1).trans hlb
    have hk3:=(hu3.same _ (Nat.le_refl _) (Array.getElem?_eq_some_iff.1 hkb).1).trans hkb
    have:=run_endRound (P:=P) jump hl3
    rw [hrec] at this ⊢
    exact ⟨this,by rw [hrec] at hl3;exact hl3,World.putObj_heap_same (Array.getElem?_eq_some_iff.1 hl3).1,(World.putObj_heap_other (by omega)).trans hk3⟩
   rintro e a3 W3 hp
   cases e with
   | normal=>
    obtain ⟨hu3,hi3⟩:=hp
    obtain ⟨hr,hl3,hl4,hk4⟩:=fin none W3 hu3
    exact ⟨_,_,hr,.inl ⟨rfl,⟨hI.putObj _ hi3 (by omega) hl3 rfl,hl4,hk4⟩,(hua.mono (by omega)).trans (hub.trans ((hu3.mono (by omega)).trans (Up.putObj _ (by omega))))⟩⟩
   | ret=>
    obtain ⟨hu3,hi3⟩:=hp
    obtain ⟨hr,hl3,hl4,hk4⟩:=fin (some .ret) W3 hu3
    exact ⟨_,_,hr,.inr ⟨rfl,⟨.ret,(hIx _).putObj _ hi3 (by omega) hl3 rfl,hl4,hk4⟩,(hua.mono (by omega)).trans (hub.trans ((hu3.mono (by omega)).trans (Up.putObj _ (by omega))))⟩⟩
   | exit id=>
    obtain ⟨hu3,hi3⟩:=hp
    obtain ⟨hr,hl3,hl4,hk4⟩:=fin (some (.exit id)) W3 hu3
    exact ⟨_,_,hr,.inr ⟨rfl,⟨.exit id,(hIx _).putObj _ hi3 (by omega) hl3 rfl,hl4,hk4⟩,(hua.mono (by omega)).trans (hub.trans ((hu3.mono (by omega)).trans (Up.putObj _ (by omega))))⟩⟩
   | goto t=>
    obtain ⟨hu3,hi3⟩:=hp
    obtain ⟨hr,hl3,hl4,hk4⟩:=fin (some (.goto t)) W3 hu3
    exact ⟨_,_,hr,.inr ⟨rfl,⟨.goto t,(hIx _).putObj _ hi3 (by omega) hl3 rfl,hl4,hk4⟩,(hua.mono (by omega)).trans (hub.trans ((hu3.mono (by omega)).trans (Up.putObj _ (by omega))))⟩⟩
   | panic ch=>exact hp.elim
   | outgrown=>exact hp.elim
  ·-- behind the iterator
   rintro e W2 ⟨⟨v,rfl⟩,(⟨hi,hl,hk⟩ | ⟨pre,hpre,c,hi,hl,hk⟩)⟩
   ·exact ⟨none,_,by have:=run_endLoop (P:=P) hl (by rw [hrec];simp);rw [hrec] at this;exact this,hdone _ _ (Nat.le_refl _) (hI.putObj _ hi (by omega) hl rfl) ((World.putObj_heap_other (by omega)).trans hk)⟩
   ·exact ⟨some c,_,by have:=run_endLoop (P:=P) hl (by rw [hrec];simp);rw [hrec] at this;exact this,hstop _ c pre _ (Nat.le_refl _) hpre ((hIx c).putObj _ hi (by omega) hl rfl) ((World.putObj_heap_other (by omega)).trans hk)⟩
end Go.Proofs.YtcpjiahdaplhlaaGreatDoor
namespace Go.Proofs.YtcpjiahdaplhlaaGreatDoor
open Go.RowKit Go.Shelf
attribute [local go_sem] Oper.semAt_some
theorem atoms_any (c:Cm) (w:World) (h:c.ok w) :
  Calls Tryz.prog 198 #[c.v] w fun e w'=>e = .returned (.func (.func 212) #[] #[.pointer (some ⟨w.heap.size,0,none⟩)]) /\ w' = w.alloc (.cells c.cs 53):=by
 obtain ⟨⟨a,n,cap,h1⟩,⟨a',cap',h2⟩,⟨a'',cap'',h3⟩, -, -⟩:=h.shape
 obtain ⟨⟨⟨⟨k,m,s⟩,nm,l⟩,hx⟩,body,bv,tests,tv⟩:=c
 simp only at h1 h2 h3
 subst h1 h2 h3
 go_enter Tryz.func198,Tryz.ntmps198
 go_wp2
 go_ret
 exact ⟨rfl,rfl⟩
def CMem (c:Cm) (B:Nat) (W:World):Prop:=CBlk W B c.cs 53 /\ c.ok W
theorem pre_one {α:Type} {x : α} {l:List α}:[] ++ [x] <+: x :: l:=⟨l,rfl⟩
theorem pre_take {α:Type} {x y : α} {l:List α} {k:Nat} (h:l[k]? = some y):(x :: l.take k) ++ [y] <+: x :: l:=by
 refine ⟨l.drop (k + 1), ?_⟩
 obtain ⟨hk,rfl⟩:=List.getElem?_eq_some_iff.1 h
 rw [List.cons_append,List.cons_append,List.append_assoc,List.singleton_append,List.getElem_cons_drop,List.take_append_drop]
theorem take_next {α:Type} {y : α} {l:List α} {k:Nat} (h:l[k]? = some y):l.take (k + 1) = l.take k ++ [y]:=by
 obtain ⟨hk,rfl⟩:=List.getElem?_eq_some_iff.1 h
 rw [List.take_succ_eq_append_getElem hk]
set_option maxRecDepth 100000 in
set_option maxHeartbeats 1000000 in
theorem atoms_seq (c:Cm) (B0:Nat) :
  SeqO Tryz.prog 212 #[.pointer (some ⟨B0,0,none⟩)] (fun x:At × Value=>#[x.1.v x.2]) c.atoms (CMem c B0):=by
 intro n l J Jx W hJB hJ hJx hY h0
 have hWB:=hJB [] W h0
 obtain ⟨⟨a,hn,cap,h1⟩,⟨a',cap',h2⟩,⟨a'',cap'',h3⟩,hbl, -⟩:=hWB.2.shape
 obtain ⟨c0,c1,c2,c3,c4,c5,c6⟩:=cseven hWB.1
 obtain ⟨⟨⟨⟨k,m,s⟩,nm,ls⟩,hx⟩,body,bv,tests,tv⟩:=c
 simp only at h1 h2 h3 c0 c1 c2 c3 c4 c5 c6 hbl
 subst h1 h2 h3
 clear hWB
 obtain ⟨fn,tmps,assign,bd,hy,hR⟩:=hY (n - 1) [] (⟨⟨k,m,s⟩,nm,ls⟩,.slice a hn cap) W h0 pre_one
 dsimp only at hy
 refine callsIn_of_wp Tryz.func212 rfl trivial ?_ rfl
 simp only [Tryz.ntmps212,List.size_toArray,List.length_cons,List.length_nil,Nat.reduceAdd,Nat.reduceSub,Array.replicate_succ,Array.replicate_zero,List.push_toArray,List.append_toArray,List.nil_append,List.cons_append]
 gi_wp2
 refine ⟨fun h=>(by cases h),hR.mono ?_⟩
 clear hR hy
 rintro e W1 (⟨rfl,hJ1,hu1⟩ | ⟨rfl,hx1, -⟩)
 ·have hWB:=hJB _ W1 hJ1
  obtain ⟨d0,d1,d2,d3,d4,d5,d6⟩:=cseven hWB.1
  simp only at d0 d1 d2 d3 d4 d5 d6
  clear c0 c1 c2 c3 c4 c5 c6 hWB
  have HJ1:Hid (J [(⟨⟨k,m,s⟩,nm,ls⟩,.slice a hn cap)] W1):=hJ1
  clear hJ1 hu1
  gi_wp2
  gi_loopw [13] (fun p wr=>∃ (q:Nat),p = .int .i64 (q:Int) /\ q <= body.length /\ J ((⟨⟨k,m,s⟩,nm,ls⟩,.slice a hn cap) :: body.take q) wr)
   (fun p _=>body.length - (intOf p).toNat)
  case atStart=>exact ⟨0,rfl,Nat.zero_le _,HJ1.out⟩
  case round=>
   obtain ⟨q,rfl,hq,hJr⟩:=hrel
   have HJr:Hid (J ((⟨⟨k,m,s⟩,nm,ls⟩,.slice a hn cap) :: body.take q) wr):=hJr
   have hWB:=hJB _ wr hJr
   clear hJr HJ1
   by_cases hlt:q < body.length
   ·have i0:(0:Int) <= (q:Int):=by omega
    have i1:(q:Int) < (body.length:Int):=by omega
    obtain ⟨x,hx⟩:∃ x,body[q]? = some x:=⟨_,List.getElem?_eq_getElem hlt⟩
    obtain ⟨a1,cap1,hv, -,hm,hts⟩:=hWB.2.b
    simp only [Value.slice.injEq,true_and] at hv
    obtain ⟨rfl,rfl⟩:=hv
    rcases hm with hm | ⟨b,o,rfl,hm⟩
    ·simp only at hm;rw [hm] at hlt;simp at hlt
    obtain ⟨e0,e1,e2,e3,e4⟩:=hm.2 q x hx
    obtain ⟨ax,capx,hax, -⟩:=hts x (List.mem_of_getElem? hx)
    have HX:Hid (body[q]? = some x):=hx
    have hY1:=hY (n - 1) _ x _ (hJ.alloc (.cells #[.int .i64 x.1.by_.k,.int .i64 x.1.by_.n,.string x.1.by_.s,.string x.1.name,x.2] 42) HJr.out) (pre_take hx)
    clear hm hts hx hWB
    obtain ⟨⟨⟨kx,mx,sx⟩,nx,lx⟩,vx⟩:=x
    simp only at e0 e1 e2 e3 e4 hax hY1
    subst hax
    obtain ⟨fn,tmps,assign,bd,hy,hR⟩:=hY1
    gi_wp2
    refine ⟨fun h=>(by cases h),hR.mono ?_⟩
    clear hR hy
    rintro e W3 (⟨rfl,hJ3,hu3⟩ | ⟨rfl,hx3, -⟩)
    ·have HJ3:Hid (J ((⟨⟨k,m,s⟩,nm,ls⟩,.slice a hn cap) :: body.take (q + 1)) W3):=by
      show J _ W3;rw [take_next HX.out];exact hJ3
     clear hJ3 hu3
     gi_wp2
     go_roundw
     case rel=>exact ⟨q + 1,by go_num,by omega,HJ3.out⟩
     case measure=>simp [intOf];omega
    ·have HX3:Hid _:=hx3
     clear hx3
     gi_wp2
     refine bodyPost_ret (results_none rfl _ _ _) rfl ?_
     exact ⟨⟨_,rfl⟩,.inr ⟨_,pre_take HX.out,HX3.out⟩⟩
   ·obtain rfl:q = body.length:=by omega
    have i1:¬ ((body.length:Int) < (body.length:Int)):=by omega
    clear hWB
    gi_wp2
    go_end0
    have:=HJr.out
    rw [List.take_length] at this
    exact ⟨⟨_,rfl⟩,.inl this⟩
 ·have HX1:Hid _:=hx1
  clear hx1
  gi_wp2
  refine bodyPost_ret (results_none rfl _ _ _) rfl ?_
  exact ⟨⟨_,rfl⟩,.inr ⟨_,pre_one,HX1.out⟩⟩
end Go.Proofs.YtcpjiahdaplhlaaGreatDoor

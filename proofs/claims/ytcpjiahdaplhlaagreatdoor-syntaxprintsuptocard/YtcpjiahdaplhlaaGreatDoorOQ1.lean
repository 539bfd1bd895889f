import Derived.Test.YtcpjiahdaplhlaaGreatDoorMD6
import Derived.Test.YtcpjiahdaplhlaaGreatDoorMD2
import Derived.Deep.RegionHeld3
import Derived.BigQuiet
import Derived.Test.YtcpjiahdaplhlaaGreatDoorL1
namespace Go.Proofs.YtcpjiahdaplhlaaGreatDoor
open Go.RowKit
attribute [local go_sem ↓] Go.wp_at_zero Go.wp_at_succ
theorem disT_no {l:List Tm} {j:Nat} {t:Tm} (h:l[j]? = some t) (hv:t.var = false):disT (l.take (j + 1)) = disT (l.take j):=by
 unfold disT;rw [List.take_add_one,h,Option.toList_some,List.filter_append];simp [hv]
theorem disT_yes {l:List Tm} {j:Nat} {t:Tm} (h:l[j]? = some t) (hv:t.var = true):disT (l.take (j + 1)) = dstepT (disT (l.take j)) t:=by
 unfold disT;rw [List.take_add_one,h,Option.toList_some,List.filter_append,List.foldl_append];simp [hv]
theorem foldT_len:∀ (l acc:List Tm),(l.foldl dstepT acc).length <= acc.length + l.length
 | [],acc=>by simp
 | x :: l,acc=>by
  rw [List.foldl_cons]
  refine Nat.le_trans (foldT_len l _) ?_
  unfold dstepT
  split
  ·simp only [List.length_cons];omega
  ·simp only [List.length_append,List.length_cons,List.length_nil];omega
theorem disT_len (l:List Tm):(disT l).length <= l.length:=by
 have h1:=foldT_len (l.filter Tm.var) []
 have h2:=List.length_filter_le Tm.var l
 unfold disT
 simp only [List.length_nil,Nat.zero_add] at h1
 omega
set_option maxRecDepth 20000 in
set_option maxHeartbeats 4000000 in
theorem variables3_any (l:List Tm) (v:Value) (w:World) (h:Ts w v l) (hl:l.length <= 3900000000000) :
  Calls Tryz.prog 104 #[v] w fun e w'=>∃ v',e = .returned v' /\ OwnT w' w.heap.size v' (disT l) /\ Below w.heap.size w w':=by
 obtain ⟨ad,cap,rfl, -,h⟩:=h
 go_enter Tryz.func104,Tryz.ntmps104
 go_wp2
 go_loopg [3,4] l.length (fun g u i wr=>∃ j:Nat,j + g = l.length /\ i = .int .i64 j /\ OwnT wr w.heap.size u (disT (l.take j)) /\ Below w.heap.size w wr)
 case atStart=>exact ⟨0,by omega,rfl,ownT_nil _ _,Below.refl _ _⟩
 case round=>
  obtain ⟨j,hj,rfl,hown,hb⟩:=hrel
  have HO:Hid (OwnT wr w.heap.size u3 (disT (l.take j))):=hown
  have HB:Hid (Below w.heap.size w wr):=hb
  clear hown hb
  cases gk with
  | succ g=>
   have hlt:(j:Int) < (l.length:Int):=by omega
   have j0:(0:Int) <= (j:Int):=by omega
   obtain ⟨t,ht⟩:∃ t,l[j]? = some t:=⟨_,List.getElem?_eq_getElem (by omega)⟩
   rcases h with h | ⟨b1,o1,rfl,hb1,h⟩
   ·subst h;simp at hj
   obtain ⟨p0,p1,p2⟩:=h j t ht
   have q0:=cell_step HB.out hb1 p0
   have q1:=cell_step HB.out hb1 p1
   have q2:=cell_step HB.out hb1 p2
   have hbW:=lt_step HB.out hb1
   have HD:Hid ((disT (l.take j)).length <= j):=by show _ <= _;refine Nat.le_trans (disT_len _) ?_;rw [List.length_take];omega
   have HVA:Hid (∀ X:World,Calls Tryz.prog 49 #[t.v] X fun e w'=>e = .returned (.bool t.var) /\ Below X.heap.size X w'):=fun X=>rvar_any t X
   cases hv:t.var
   ·have HN:Hid (disT (l.take (j + 1)) = disT (l.take j)):=disT_no ht hv
    rw [hv] at HVA
    clear h ht hv p0 p1 p2
    obtain ⟨tk,tn,ts⟩:=t
    simp only at q0 q1 q2
    go_wp2_with (go_at_call 49;refine (HVA.out _).mono ?_;clear HVA;rintro e w1 ⟨rfl,hb⟩;have HO1:Hid (OwnT w1 w.heap.size u3 (disT (l.take j))):=HO.out.later hb;have HB1:Hid (Below w.heap.size w w1):=below_step HB.out hb;clear hb HO HB)
    go_roundg g
    case measure=>omega
    case rel=>exact ⟨j + 1,by omega,by go_num,by rw [HN.out];exact HO1.out,HB1.out⟩
   ·have hn:=disT_yes ht hv
    rw [hv] at HVA
    have HWI:Hid (∀ X:World,Below wr.heap.size wr X -> Calls Tryz.prog 105 #[u3,t.v] X fun e w'=>e = .returned (.bool (decide (t ∈ disT (l.take j)))) /\ Below X.heap.size X w'):=fun X hX=>within_any _ u3 t X ((HO.out.later hX).tsP.ts (by have:=HD.out;omega))
    by_cases hm:t ∈ disT (l.take j)
    ·have HN:Hid (disT (l.take (j + 1)) = disT (l.take j)):=by show _ = _;rw [hn,dstepT,if_pos hm]
     rw [decide_eq_true hm] at HWI
     clear h ht hv p0 p1 p2 hn hm
     obtain ⟨tk,tn,ts⟩:=t
     simp only at q0 q1 q2
     go_wp2_with (first
      | (go_at_call 49;refine (HVA.out _).mono ?_;clear HVA;rintro e w1 ⟨rfl,hb⟩;have HBx:Hid (Below wr.heap.size wr w1):=hb;have q0:=cell_step hb hbW q0;have q1:=cell_step hb hbW q1;have q2:=cell_step hb hbW q2;clear hb)
      | (go_at_call 105;refine (HWI.out _ HBx.out).mono ?_;clear HWI;rintro e w2 ⟨rfl,hb⟩;have HO1:Hid (OwnT w2 w.heap.size u3 (disT (l.take j))):=HO.out.later (below_step HBx.out hb);have HB1:Hid (Below w.heap.size w w2):=below_step (below_step HB.out HBx.out) hb;clear hb HO HB HBx))
     go_roundg g
     case measure=>omega
     case rel=>exact ⟨j + 1,by omega,by go_num,by rw [HN.out];exact HO1.out,HB1.out⟩
    ·have HN:Hid (disT (l.take (j + 1)) = disT (l.take j) ++ [t]):=by show _ = _;rw [hn,dstepT,if_neg hm]
     rw [decide_eq_false hm] at HWI
     clear h ht hv p0 p1 p2 hn hm
     obtain ⟨tk,tn,ts⟩:=t
     simp only at q0 q1 q2
     generalize disT (l.take j) = DJ at HO HN HD HWI
     go_upto_if 24 with (first
      | (go_at_call 49;refine (HVA.out _).mono ?_;clear HVA;rintro e w1 ⟨rfl,hb⟩;have HBx:Hid (Below wr.heap.size wr w1):=hb;have q0:=cell_step hb hbW q0;have q1:=cell_step hb hbW q1;have q2:=cell_step hb hbW q2;clear hb)
      | (go_at_call 105;refine (HWI.out _ HBx.out).mono ?_;clear HWI;rintro e w2 ⟨rfl,hb⟩;have HO1:Hid (OwnT w2 w.heap.size u3 DJ):=HO.out.later (below_step HBx.out hb);have HB1:Hid (Below w.heap.size w w2):=below_step (below_step HB.out HBx.out) hb;have hbW:=lt_step HBx.out hbW;have q0:=cell_step hb hbW q0;have q1:=cell_step hb hbW q1;have q2:=cell_step hb hbW q2;clear hb HO HB HBx))
     have HG:Hid (CBlk (w2.alloc (.cells #[.int .i64 tk,.int .i64 tn,.string ts] 39)) w2.heap.size #[.int .i64 tk,.int .i64 tn,.string ts] 39):=CBlk.new _ _ _
     have hsz:=HB1.out.size
     go_wp2_with (at_builtin;refine app_terms rfl _ _ rfl w.heap.size u3 DJ (by rfl) (HO1.out.later (below1 _ _)) (.slice (some ⟨w2.heap.size,0,none⟩) 1 1) [⟨tk,tn,ts⟩] (by rfl) (TsP.one HG.out) (by have:=HD.out;simp;omega) (by simp;omega) ?_;intro v' w3 hown hb3 hg3;have HO3:Hid (OwnT w3 w.heap.size v' (DJ ++ [⟨tk,tn,ts⟩])):=hown;have HB3:Hid (Below w.heap.size w w3):=(below_step HB1.out (below1 _ _)).trans hb3;clear hown hb3 hg3)
     go_roundg g
     case measure=>omega
     case rel=>exact ⟨j + 1,by omega,by go_num,by rw [HN.out];exact HO3.out,HB3.out⟩
  | zero=>
   obtain rfl:j = l.length:=by omega
   have hz:¬ ((l.length:Int) < (l.length:Int)):=by omega
   rw [List.take_length] at HO
   clear h
   go_wp2
   go_ret
   exact ⟨_,rfl,HO.out,HB.out⟩
end Go.Proofs.YtcpjiahdaplhlaaGreatDoor
namespace Go.Proofs.YtcpjiahdaplhlaaGreatDoor
open Go.RowKit
attribute [local go_sem ↓] Go.wp_at_zero Go.wp_at_succ
def acell (x:At × Value):List Value:=[.int .i64 x.1.by_.k,.int .i64 x.1.by_.n,.string x.1.by_.s,.string x.1.name,x.2]
def ecell (x:Te):List Value:=[.int .i64 x.op,.int .i64 x.l.k,.int .i64 x.l.n,.string x.l.s,.int .i64 x.r.k,.int .i64 x.r.n,.string x.r.s]
def acs (l:List (At × Value)):List Value:=l.flatMap acell
theorem acs_len (l:List (At × Value)):(acs l).length = l.length * 5:=by
 induction l with
 | nil=>rfl
 | cons d l ih=>simp only [acs,List.flatMap_cons,List.length_append,List.length_cons] at *;rw [ih];simp [acell];omega
theorem acs_app (l m:List (At × Value)):acs (l ++ m) = acs l ++ acs m:=by simp [acs]
theorem acs_get (l:List (At × Value)) (j:Nat) (d:(At × Value)) (h:l[j]? = some d) (i:Nat) (hi:i < 5):(acs l)[j * 5 + i]? = (acell d)[i]? := by
 induction l generalizing j with
 | nil=>simp at h
 | cons e l ih=>
  rw [acs,List.flatMap_cons]
  cases j with
  | zero=>
   simp only [List.getElem?_cons_zero,Option.some.injEq] at h
   subst h
   rw [List.getElem?_append_left (by simp [acell];omega)]
   simp
  | succ j=>
   simp only [List.getElem?_cons_succ] at h
   rw [List.getElem?_append_right (by simp [acell];omega)]
   have e1:(j + 1) * 5 + i - (acell e).length = j * 5 + i:=by simp [acell];omega
   rw [e1]
   exact ih j h
def OwnA (w:World) (base:Nat) (v:Value) (l:List (At × Value)):Prop:=w.ownsRow base 42 5 v l.length (acs l)
theorem OwnA.later {w w':World} {base:Nat} {v:Value} {l:List (At × Value)} (h:OwnA w base v l) (hb:Below w.heap.size w w'):OwnA w' base v l:=by
 refine ⟨h.1, ?_⟩
 rcases h.2 with hn | ⟨g,cap,cur,hv,hbb,hg,rest⟩
 ·exact Or.inl hn
 ·exact Or.inr ⟨g,cap,cur,hv,hbb,(hb.block g (Array.getElem?_eq_some_iff.1 hg).1).trans hg,rest⟩
theorem OwnA.nil (w:World) (base:Nat):OwnA w base (.slice none 0 0) []:=World.ownsRow_nil _ _ _ _
theorem OwnA.lt {w:World} {base:Nat} {v:Value} {l:List (At × Value)} (h:OwnA w base v l):∀ k,v.ownBlock = some k -> base <= k /\ k < w.heap.size:=World.ownsRow.lt h
theorem OwnA.form {w:World} {base:Nat} {v:Value} {l:List (At × Value)} (h:OwnA w base v l):∃ a cap,v = .slice a l.length cap:=by
 rcases h.2 with ⟨rfl,hn⟩ | ⟨g,cap,cur,hv, -⟩
 ·exact ⟨none,0,by rw [hn]⟩
 ·exact ⟨_,cap,hv⟩
theorem OwnA.cells {w:World} {base g cap n:Nat} {l:List (At × Value)} (h:OwnA w base (.slice (some ⟨g,0,none⟩) n cap) l) (j:Nat) (d:(At × Value)) (hd:l[j]? = some d) (i:Nat) (hi:i < 5):w.cell? ⟨g,j * 5 + i,none⟩ = (acell d)[i]? := by
 rcases h.2 with ⟨h,_⟩ | ⟨g',cap',cur,hv,hb,hg,hn,hc,hs,ht⟩
 ·cases h
 ·simp only [Value.slice.injEq,Option.some.injEq,Addr.mk.injEq] at hv
  obtain ⟨⟨rfl, -⟩, -,rfl⟩:=hv
  have hj:=(List.getElem?_eq_some_iff.1 hd).1
  rw [cell_of_row _ _ _ _ _ _ hg, <- acs_get l j d hd i hi, <- ht,List.getElem?_take_of_lt (by omega)]
  simp
theorem aapp_one {ops:Array Oper} {rest:List Oper} {o:Oper} {a:Act} {Q:Exit -> Act -> World -> Prop} {w:World} (hgd:o.guard = none) (s x:Operand)
  (ho:o.op = .call { callee:=.builtin .append,args:=#[s,x],argTypes:=#[50,50] }) (base:Nat) (v:Value) (l:List (At × Value)) (hs:a.eval s = v) (hown:OwnA w base v l)
  (b:Nat) (y:(At × Value)) (hx:a.eval x = .slice (some ⟨b,0,none⟩) 1 1) (hblk:CBlk w b (acell y).toArray 42) (h1c:∀ u ∈ acell y,u.oneCell' = true) (hlen:l.length <= 1800000000000) (hbase:base <= w.heap.size)
  (h:∀ v' w',OwnA w' base v' (l ++ [y]) -> Below base w w' -> w.grownBy w' v.ownBlock -> (∀ k,v'.ownBlock = some k -> v.ownBlock = some k ∨ w.heap.size <= k) -> wpList Tryz.prog ops Q rest (a.put o.dst v') w'):wpList Tryz.prog ops Q (o :: rest) a w:=by
 obtain ⟨i0,hi0,hz0,hz1,hz2⟩:=info_parts Tryz.infoAtom
 refine wpList_append_lies _ hgd s x 50 ho base 42 i0 _ 5 72 Tryz.underlying50 hi0 hz0 hz1 hz2 rfl (by omega) v l.length (acs l) hs hown ⟨b,0,none⟩ 1 1 (acs [y]) hx (by simp [acs,acell]) ?_ (by simpa [acs] using h1c) (by omega) (by unfold maxLen;omega) (by omega) hbase _ rfl ?_
 ·intro j u hj
  have:=World.news_of_block (cs:=(acell y).toArray) (t:=42) (fr:=(0,0)) hblk j u
  exact this (by simpa [acs] using hj)
 ·intro g cap w' h1 h2 h3 h4
  refine h _ w' ?_ (grown_below3 h2 (fun k hk=>(World.ownsRow.lt hown k hk).1) hbase) h2 (fun k hk=>by cases hk;exact h3.imp id (fun e=>Nat.le_of_eq e.symm))
  unfold OwnA
  rw [List.length_append,acs_app]
  exact h1
def ecs (l:List Te):List Value:=l.flatMap ecell
theorem ecs_len (l:List Te):(ecs l).length = l.length * 7:=by
 induction l with
 | nil=>rfl
 | cons d l ih=>simp only [ecs,List.flatMap_cons,List.length_append,List.length_cons] at *;rw [ih];simp [ecell];omega
theorem ecs_app (l m:List Te):ecs (l ++ m) = ecs l ++ ecs m:=by simp [ecs]
theorem ecs_get (l:List Te) (j:Nat) (d:Te) (h:l[j]? = some d) (i:Nat) (hi:i < 7):(ecs l)[j * 7 + i]? = (ecell d)[i]? := by
 induction l generalizing j with
 | nil=>simp at h
 | cons e l ih=>
  rw [ecs,List.flatMap_cons]
  cases j with
  | zero=>
   simp only [List.getElem?_cons_zero,Option.some.injEq] at h
   subst h
   rw [List.getElem?_append_left (by simp [ecell];omega)]
   simp
  | succ j=>
   simp only [List.getElem?_cons_succ] at h
   rw [List.getElem?_append_right (by simp [ecell];omega)]
   have e1:(j + 1) * 7 + i - (ecell e).length = j * 7 + i:=by simp [ecell];omega
   rw [e1]
   exact ih j h
def OwnE (w:World) (base:Nat) (v:Value) (l:List Te):Prop:=w.ownsRow base 85 7 v l.length (ecs l)
theorem OwnE.nil (w:World) (base:Nat):OwnE w base (.slice none 0 0) []:=World.ownsRow_nil _ _ _ _
theorem OwnE.lt {w:World} {base:Nat} {v:Value} {l:List Te} (h:OwnE w base v l):∀ k,v.ownBlock = some k -> base <= k /\ k < w.heap.size:=World.ownsRow.lt h
theorem OwnE.cells {w:World} {base g cap n:Nat} {l:List Te} (h:OwnE w base (.slice (some ⟨g,0,none⟩) n cap) l) (j:Nat) (d:Te) (hd:l[j]? = some d) (i:Nat) (hi:i < 7):w.cell? ⟨g,j * 7 + i,none⟩ = (ecell d)[i]? := by
 rcases h.2 with ⟨h,_⟩ | ⟨g',cap',cur,hv,hb,hg,hn,hc,hs,ht⟩
 ·cases h
 ·simp only [Value.slice.injEq,Option.some.injEq,Addr.mk.injEq] at hv
  obtain ⟨⟨rfl, -⟩, -,rfl⟩:=hv
  have hj:=(List.getElem?_eq_some_iff.1 hd).1
  rw [cell_of_row _ _ _ _ _ _ hg, <- ecs_get l j d hd i hi, <- ht,List.getElem?_take_of_lt (by omega)]
  simp
theorem eapp_one {ops:Array Oper} {rest:List Oper} {o:Oper} {a:Act} {Q:Exit -> Act -> World -> Prop} {w:World} (hgd:o.guard = none) (s x:Operand)
  (ho:o.op = .call { callee:=.builtin .append,args:=#[s,x],argTypes:=#[51,51] }) (base:Nat) (v:Value) (l:List Te) (hs:a.eval s = v) (hown:OwnE w base v l)
  (b:Nat) (y:Te) (hx:a.eval x = .slice (some ⟨b,0,none⟩) 1 1) (hblk:CBlk w b (ecell y).toArray 85) (h1c:∀ u ∈ ecell y,u.oneCell' = true) (hlen:l.length <= 1800000000000) (hbase:base <= w.heap.size)
  (h:∀ v' w',OwnE w' base v' (l ++ [y]) -> Below base w w' -> w.grownBy w' v.ownBlock -> (∀ k,v'.ownBlock = some k -> v.ownBlock = some k ∨ w.heap.size <= k) -> wpList Tryz.prog ops Q rest (a.put o.dst v') w'):wpList Tryz.prog ops Q (o :: rest) a w:=by
 obtain ⟨i0,hi0,hz0,hz1,hz2⟩:=info_parts Tryz.infoTest
 refine wpList_append_lies _ hgd s x 51 ho base 85 i0 _ 7 72 Tryz.underlying51 hi0 hz0 hz1 hz2 rfl (by omega) v l.length (ecs l) hs hown ⟨b,0,none⟩ 1 1 (ecs [y]) hx (by simp [ecs,ecell]) ?_ (by simpa [ecs] using h1c) (by omega) (by unfold maxLen;omega) (by omega) hbase _ rfl ?_
 ·intro j u hj
  have:=World.news_of_block (cs:=(ecell y).toArray) (t:=85) (fr:=(0,0)) hblk j u
  exact this (by simpa [ecs] using hj)
 ·intro g cap w' h1 h2 h3 h4
  refine h _ w' ?_ (grown_below3 h2 (fun k hk=>(World.ownsRow.lt hown k hk).1) hbase) h2 (fun k hk=>by cases hk;exact h3.imp id (fun e=>Nat.le_of_eq e.symm))
  unfold OwnE
  rw [List.length_append,ecs_app]
  exact h1
theorem OwnA.as {w:World} {base:Nat} {v:Value} {l:List (At × Value)} (h:OwnA w base v l) (hl:l.length < 1000000000000000000) (ht:∀ x ∈ l,Ts w x.2 x.1.args):As w v l:=by
 have hh:=h
 rcases h.2 with ⟨rfl,hn⟩ | ⟨g,cap,cur,rfl,hb,hg, -⟩
 ·exact ⟨none,0,by rw [hn],hl,Or.inl (List.length_eq_zero_iff.1 hn),ht⟩
 ·refine ⟨_,cap,rfl,hl,Or.inr ⟨g,0,rfl,(Array.getElem?_eq_some_iff.1 hg).1,fun i x hx=>?_⟩,ht⟩
  have k:=fun j hj=>OwnA.cells hh i x hx j hj
  simp only [Nat.zero_add]
  exact ⟨k 0 (by omega),k 1 (by omega),k 2 (by omega),k 3 (by omega),k 4 (by omega)⟩
theorem ecell_one (y:Te):∀ u ∈ ecell y,u.oneCell' = true:=by
 intro u hu
 simp [ecell] at hu
 rcases hu with rfl | rfl | rfl | rfl | rfl | rfl | rfl <;> rfl
theorem acell_one (y:At) (a:Option Addr) (n cap:Nat):∀ u ∈ acell (y,.slice a n cap),u.oneCell' = true:=by
 intro u hu
 simp [acell] at hu
 rcases hu with rfl | rfl | rfl | rfl | rfl <;> rfl
end Go.Proofs.YtcpjiahdaplhlaaGreatDoor
namespace Go.Proofs.YtcpjiahdaplhlaaGreatDoor
open Go.RowKit
attribute [local go_sem ↓] Go.wp_at_zero Go.wp_at_succ
def bE:Te:=⟨903,zt,zt⟩
theorem TsP.form {w:World} {v:Value} {l:List Tm} (h:TsP w v l):∃ a cap,v = .slice a l.length cap:=by
 rcases h with ⟨rfl,rfl⟩ | ⟨ad,cap,rfl,_⟩
 ·exact ⟨none,0,rfl⟩
 ·exact ⟨some ad,cap,rfl⟩
theorem ownT_some {w:World} {base:Nat} {v:Value} {l:List Tm} {d:Tm} (h:OwnT w base v (l ++ [d])):∃ g cap,v = .slice (some ⟨g,0,none⟩) (l.length + 1) cap /\ l.length + 1 <= cap:=by
 rcases h.2 with ⟨_,hn⟩ | ⟨g,cap,cur,hv,_,_,hn,_⟩
 ·simp at hn
 ·rw [List.length_append,List.length_singleton] at hv hn;exact ⟨g,cap,hv,hn⟩
end Go.Proofs.YtcpjiahdaplhlaaGreatDoor
namespace Go.Proofs.YtcpjiahdaplhlaaGreatDoor
open Go.RowKit
attribute [local go_sem ↓] Go.wp_at_zero Go.wp_at_succ
theorem ownA_some {w:World} {base:Nat} {v:Value} {l:List (At × Value)} {d:At × Value} (h:OwnA w base v (l ++ [d])):∃ g cap,v = .slice (some ⟨g,0,none⟩) (l.length + 1) cap /\ l.length + 1 <= cap:=by
 rcases h.2 with ⟨_,hn⟩ | ⟨g,cap,cur,hv,_,_,hn,_⟩
 ·simp at hn
 ·rw [List.length_append,List.length_singleton] at hv hn;exact ⟨g,cap,hv,hn⟩
theorem ownA_cap {w:World} {base g cap n:Nat} {l:List (At × Value)} (h:OwnA w base (.slice (some ⟨g,0,none⟩) n cap) l):l.length <= cap:=by
 rcases h.2 with ⟨h,_⟩ | ⟨g',c,cur,hv,_,_,hn,_⟩
 ·cases h
 ·simp only [Value.slice.injEq] at hv;omega
theorem fsts_take {l:List (At × Value)} {j:Nat} {x:At × Value} (h:l[j]? = some x) {LB:List (At × Value)} {u:Value} (hf:fsts LB = fsts (l.take j)):fsts (LB ++ [(x.1,u)]) = fsts (l.take (j + 1)):=by
 rw [List.take_add_one,h]
 unfold fsts at hf ⊢
 rw [List.map_append,hf];simp
end Go.Proofs.YtcpjiahdaplhlaaGreatDoor
namespace Go.Proofs.YtcpjiahdaplhlaaGreatDoor
open Go.RowKit
attribute [local go_sem ↓] Go.wp_at_zero Go.wp_at_succ
structure C2 (w X:World) (o:Array Value):Prop where
 bc:CBlk X w.heap.size o 53
 br:CBlk X (w.heap.size + 1) zcs 53
 bw:Below w.heap.size w X
 sz:w.heap.size + 1 + 1 <= X.heap.size
end Go.Proofs.YtcpjiahdaplhlaaGreatDoor
namespace Go.Proofs.YtcpjiahdaplhlaaGreatDoor
open Go.RowKit
attribute [local go_sem ↓] Go.wp_at_zero Go.wp_at_succ
structure RJ (B:Nat) (X:World) (k1 kb kt:Nat) (L1:List Tm) (F:List At) (E:List Te) (M1 M2 M3:Nat) (lb:List (At × Value)):Prop where
 f:fsts lb = F
 a:ABlk X M2 kb lb
 t1:Ts X (.slice (some ⟨M1,0,none⟩) k1 k1) L1
 n1:M1 ≠ M2
 ts:∀ x ∈ lb,TsN X M2 x.2 x.1.args /\ ∀ b,x.2.ownBlock = some b -> B <= b
 e:EBlk X M3 kt E
 b1:B <= M1
 b2:B <= M2
 b3:M2 < M3
theorem RJ.mono {B B':Nat} {X:World} {k1 kb kt:Nat} {L1:List Tm} {F:List At} {E:List Te} {M1 M2 M3:Nat} {lb:List (At × Value)} (h:RJ B X k1 kb kt L1 F E M1 M2 M3 lb) (hB:B' <= B):RJ B' X k1 kb kt L1 F E M1 M2 M3 lb:=
 ⟨h.f,h.a,h.t1,h.n1,fun x hx=>⟨(h.ts x hx).1,fun b e=>Nat.le_trans hB ((h.ts x hx).2 b e)⟩,h.e,Nat.le_trans hB h.b1,Nat.le_trans hB h.b2,h.b3⟩
theorem RJ.off {B g i:Nat} {v:Value} {X:World} {k1 kb kt:Nat} {L1:List Tm} {F:List At} {E:List Te} {M1 M2 M3:Nat} {lb:List (At × Value)} (h:RJ B X k1 kb kt L1 F E M1 M2 M3 lb) (hg:g < B):RJ B (X.setCell ⟨g,i,none⟩ v) k1 kb kt L1 F E M1 M2 M3 lb:=by
 have b1:=h.b1
 have b2:=h.b2
 have b3:=h.b3
 exact ⟨h.f,h.a.other (by omega),h.t1.off (fun e=>by have:M1 = g:=Option.some.inj e;omega),h.n1,fun x hx=>⟨⟨(h.ts x hx).1.1.off (fun e=>by have:=(h.ts x hx).2 _ e;omega),(h.ts x hx).1.2⟩,(h.ts x hx).2⟩,h.e.other (by omega),b1,b2,b3⟩
end Go.Proofs.YtcpjiahdaplhlaaGreatDoor
namespace Go.Proofs.YtcpjiahdaplhlaaGreatDoor
open Go.RowKit
def ints (n:Nat):List Int:=(List.range n).map fun i:Nat=>(i:Int)
theorem mem_ints {n:Nat} {v:Int}:v ∈ ints n ↔ 0 <= v /\ v < n:=by
 simp only [ints,List.mem_map,List.mem_range]
 exact ⟨fun ⟨i,h,e⟩=>by omega,fun ⟨h1,h2⟩=>⟨v.toNat,by omega,by omega⟩⟩
theorem ints_succ (n:Nat):ints (n + 1) = ints n ++ [(n:Int)]:=by simp [ints,List.range_succ]
theorem ints_len (n:Nat):(ints n).length = n:=by simp [ints]
theorem mis_ints:∀ (l:List Int) (n:Nat),(∀ v ∈ l,0 <= v) -> mis n l = false -> ∃ m,n <= m /\ l.foldl dstep (ints n) = ints m /\ ∀ v ∈ l,v < m
 | [],n,_,_=>⟨n,Nat.le_refl _,rfl,fun v hv=>by cases hv⟩
 | v :: l,n,h0,h=>by
  rw [mis] at h
  by_cases h1:(n:Int) < v
  ·rw [if_pos h1] at h;cases h
  ·rw [if_neg h1] at h
   have hv:=h0 v (by simp)
   rw [List.foldl_cons]
   by_cases h2:v = n
   ·rw [if_pos h2] at h
    have e:dstep (ints n) v = ints (n + 1):=by
     unfold dstep;rw [if_neg (by rw [mem_ints];omega),ints_succ,h2]
    obtain ⟨m,k1,k2,k3⟩:=mis_ints l (n + 1) (fun u hu=>h0 u (by simp [hu])) (by exact_mod_cast h)
    rw [e]
    refine ⟨m,by omega,k2,fun u hu=>?_⟩
    rcases List.mem_cons.1 hu with rfl | hu
    ·omega
    ·exact k3 u hu
   ·rw [if_neg h2] at h
    have e:dstep (ints n) v = ints n:=by
     unfold dstep;rw [if_pos (by rw [mem_ints];omega)]
    obtain ⟨m,k1,k2,k3⟩:=mis_ints l n (fun u hu=>h0 u (by simp [hu])) h
    rw [e]
    refine ⟨m,k1,k2,fun u hu=>?_⟩
    rcases List.mem_cons.1 hu with rfl | hu
    ·omega
    ·exact k3 u hu
theorem var_nn {t:Tm} (h:t.var = true):0 <= t.n:=by simp only [Tm.var,decide_eq_true_eq] at h;exact h.2.1
end Go.Proofs.YtcpjiahdaplhlaaGreatDoor
namespace Go.Proofs.YtcpjiahdaplhlaaGreatDoor
open Go.RowKit
def Kp (B:Nat) (X:World) (d:Cm):Prop:=∀ X':World,X.heap.size <= X'.heap.size -> (∀ b,B <= b -> b < X.heap.size -> X'.heap[b]? = X.heap[b]?) -> d.ok X'
theorem Kp.ok {B:Nat} {X:World} {d:Cm} (h:Kp B X d):d.ok X:=h X (Nat.le_refl _) fun _ _ _=>rfl
theorem Kp.mono {B B':Nat} {X:World} {d:Cm} (h:Kp B X d) (hB:B' <= B):Kp B' X d:=fun Y hs ha=>h Y hs fun b h1 h2=>ha b (Nat.le_trans hB h1) h2
theorem Kp.off {B G i:Nat} {X:World} {d:Cm} {c:Value} (h:Kp B X d) (hG:G < B):Kp B (X.setCell ⟨G,i,none⟩ c) d:=fun Y hs ha=>
 h Y (by simpa [World.setCell] using hs) fun b h1 h2=>(ha b h1 (by simpa [World.setCell] using h2)).trans (heap_setCell_other _ _ _ _ (show b ≠ G by omega))
theorem Ts.agree {X X':World} {v:Value} {l:List Tm} (h:Ts X v l) (hs:X.heap.size <= X'.heap.size) (hb:∀ b,v.ownBlock = some b -> b < X.heap.size -> X'.heap[b]? = X.heap[b]?):Ts X' v l:=by
 obtain ⟨a,cap,rfl,hl,hm⟩:=h
 refine ⟨a,cap,rfl,hl, ?_⟩
 rcases hm with hm | ⟨b,o,rfl,hlt,hm⟩
 ·exact Or.inl hm
 ·have hc:∀ j,X'.cell? ⟨b,j,none⟩ = X.cell? ⟨b,j,none⟩:=fun j=>World.cell?_of_block (w:=X) (a:=⟨b,j,none⟩) (hb b rfl hlt)
  refine Or.inr ⟨b,o,rfl,Nat.lt_of_lt_of_le hlt hs,fun q t ht=>?_⟩
  simp only [hc]
  exact hm q t ht
structure Bx (X:World) (G:Nat) (d:Cm):Prop where
 b:CBlk X G d.cs 53
 o:d.ok X
theorem Bx.later {X X':World} {G:Nat} {d:Cm} (h:Bx X G d) (hb:Below X.heap.size X X'):Bx X' G d:=⟨h.b.later hb,h.o.later hb⟩
theorem Bx.new {X:World} {d:Cm} (h:d.ok X):Bx (X.alloc (.cells d.cs 53)) X.heap.size d:=⟨CBlk.new _ _ _,h.later (below1 _ _)⟩
abbrev Cput (X:World) (G:Nat) (a b c d e f g:Value):World:=((((((X.setCell ⟨G,0,none⟩ a).setCell ⟨G,1,none⟩ b).setCell ⟨G,2,none⟩ c).setCell ⟨G,3,none⟩ d).setCell ⟨G,4,none⟩ e).setCell ⟨G,5,none⟩ f).setCell ⟨G,6,none⟩ g
theorem Kp.put7 {B G:Nat} {X:World} {d:Cm} (h:Kp B X d) (hG:G < B) (a b c d' e f g:Value):Kp B (Cput X G a b c d' e f g) d:=((((((h.off hG).off hG).off hG).off hG).off hG).off hG).off hG
end Go.Proofs.YtcpjiahdaplhlaaGreatDoor
namespace Go.Proofs.YtcpjiahdaplhlaaGreatDoor
open Go.RowKit
attribute [local go_sem ↓] Go.wp_at_zero Go.wp_at_succ
def EsP (w:World) (v:Value) (l:List Te):Prop:=(v = .slice none 0 0 /\ l = []) ∨ ∃ ad cap,v = .slice (some ad) l.length cap /\ (l = [] ∨ ∃ b o,ad = ⟨b,o,none⟩ /\ ERow w b o l)
theorem EsP.later {w w':World} {v:Value} {l:List Te} (h:EsP w v l) (hb:Below w.heap.size w w'):EsP w' v l:=by
 rcases h with h | ⟨ad,cap,h1,h2⟩
 ·exact Or.inl h
 ·refine Or.inr ⟨ad,cap,h1, ?_⟩
  rcases h2 with h2 | ⟨b,o,h2,h3⟩
  ·exact Or.inl h2
  ·exact Or.inr ⟨b,o,h2,h3.later hb⟩
theorem erow_get {w:World} {b o:Nat} {l:List Te} (h:ERow w b o l):∀ j u,(ecs l)[j]? = some u -> w.cell? ((⟨b,o,none⟩:Addr).add j) = some u:=fun j u hu=>by
 have hj:=(List.getElem?_eq_some_iff.1 hu).1
 rw [ecs_len] at hj
 have h1:j / 7 < l.length:=by omega
 obtain ⟨d,hd⟩:∃ d,l[j / 7]? = some d:=⟨_,List.getElem?_eq_getElem h1⟩
 have hg:=ecs_get l (j / 7) d hd (j % 7) (by omega)
 have e:j / 7 * 7 + j % 7 = j:=by omega
 rw [e,hu] at hg
 have hc:=h.2 _ d hd
 rw [Go.WideShapes.add_plain]
 have ea:o + j = o + j / 7 * 7 + j % 7:=by omega
 rw [ea]
 have h4:j % 7 = 0 ∨ j % 7 = 1 ∨ j % 7 = 2 ∨ j % 7 = 3 ∨ j % 7 = 4 ∨ j % 7 = 5 ∨ j % 7 = 6:=by omega
 rcases h4 with e | e | e | e | e | e | e <;> rw [e] at hg ⊢ <;> simp [ecell] at hg <;> subst hg
 ·exact hc.1
 ·exact hc.2.1
 ·exact hc.2.2.1
 ·exact hc.2.2.2.1
 ·exact hc.2.2.2.2.1
 ·exact hc.2.2.2.2.2.1
 ·exact hc.2.2.2.2.2.2
theorem eapp_list {ops:Array Oper} {rest:List Oper} {o:Oper} {a:Act} {Q:Exit -> Act -> World -> Prop} {w:World} (hgd:o.guard = none) (s x:Operand)
  (ho:o.op = .call { callee:=.builtin .append,args:=#[s,x],argTypes:=#[51,51] }) (hs:a.eval s = .slice none 0 0)
  (y:Value) (m:List Te) (hx:a.eval x = y) (hy:EsP w y m) (hlen:m.length <= 1800000000000)
  (h:∀ v' w',OwnE w' w.heap.size v' m -> Below w.heap.size w w' -> wpList Tryz.prog ops Q rest (a.put o.dst v') w'):wpList Tryz.prog ops Q (o :: rest) a w:=by
 obtain ⟨i0,hi0,hz0,hz1,hz2⟩:=info_parts Tryz.infoTest
 have hown:OwnE w w.heap.size (.slice none 0 0) []:=OwnE.nil _ _
 rcases hy with ⟨rfl,rfl⟩ | ⟨ad,cap,rfl,hm⟩
 ·refine wpList_append_own_none hgd s x 51 ho w.heap.size 85 i0 7 Tryz.underlying51 hi0 _ 0 [] hs hown hx ?_
  exact h _ w hown (Below.refl _ _)
 ·refine wpList_append_own _ hgd s x 51 ho w.heap.size 85 i0 _ 7 72 Tryz.underlying51 hi0 hz0 hz1 hz2 rfl (by omega) _ 0 [] hs hown ad m.length cap (ecs m) hx (ecs_len m) ?_ (fun u hu=>by obtain ⟨z,hz,hu⟩:=List.mem_flatMap.1 hu;exact ecell_one z u hu) (by unfold maxLen;omega) (by omega) (Nat.le_refl _) ?_
  ·rcases hm with rfl | ⟨b,o',rfl,hm⟩
   ·intro j u hu;simp [ecs] at hu
   ·exact erow_get hm
  ·intro v' w' h1 h2 _
   rw [Nat.zero_add,List.nil_append] at h1
   exact h v' w' h1 (grown_below3 h2 (fun k hk=>by simp [Value.ownBlock] at hk) (Nat.le_refl _))
def LentE (X:World) (B:Nat) (v:Value) (l:List Te):Prop:=∃ g cap,v = .slice (some ⟨g,0,none⟩) l.length cap /\ OwnE X B (.slice (some ⟨g,0,none⟩) (l.length + 1) cap) (l ++ [bE])
theorem ownE_some {w:World} {base:Nat} {v:Value} {l:List Te} {d:Te} (h:OwnE w base v (l ++ [d])):∃ g cap,v = .slice (some ⟨g,0,none⟩) (l.length + 1) cap /\ l.length + 1 <= cap:=by
 rcases h.2 with ⟨_,hn⟩ | ⟨g,cap,cur,hv,_,_,hn,_⟩
 ·simp at hn
 ·rw [List.length_append,List.length_singleton] at hv hn;exact ⟨g,cap,hv,hn⟩
theorem ownE_cap {w:World} {base g cap n:Nat} {l:List Te} (h:OwnE w base (.slice (some ⟨g,0,none⟩) n cap) l):l.length <= cap:=by
 rcases h.2 with ⟨h,_⟩ | ⟨g',c,cur,hv,_,_,hn,_⟩
 ·cases h
 ·simp only [Value.slice.injEq] at hv;omega
theorem LentE.row {X:World} {B g cap n:Nat} {l:List Te} {d:Te} (ho:OwnE X B (.slice (some ⟨g,0,none⟩) n cap) (l ++ [d])):ERow X g 0 l:=by
 refine ⟨(ho.lt g rfl).2,fun i x hx=>?_⟩
 have hi:=(List.getElem?_eq_some_iff.1 hx).1
 have hx':(l ++ [d])[i]? = some x:=by rw [List.getElem?_append_left hi];exact hx
 rw [Nat.zero_add]
 exact ⟨ho.cells i x hx' 0 (by omega),ho.cells i x hx' 1 (by omega),ho.cells i x hx' 2 (by omega),ho.cells i x hx' 3 (by omega),ho.cells i x hx' 4 (by omega),ho.cells i x hx' 5 (by omega),ho.cells i x hx' 6 (by omega)⟩
theorem cm_sizes {c:Cm} (hs:(Ck.terms c.key).length <= 4000000):c.head.1.args.length <= 4000000 /\ c.body.length <= 4000000 /\ c.tests.length <= 4000000 /\ ∀ x ∈ c.body,x.1.args.length <= 4000000:=by
 have e:(Ck.terms c.key).length = c.head.1.pl.length + (((fsts c.body).flatMap At.pl).length + (tls c.tests).length):=by
  unfold Ck.terms Cm.key
  simp only [List.length_append]
 have e1:c.head.1.args.length <= c.head.1.pl.length:=by simp [At.pl]
 have e2:(tls c.tests).length = c.tests.length * 2:=tls_len _
 have e3:(fsts c.body).length <= ((fsts c.body).flatMap At.pl).length:=by
  generalize fsts c.body = l
  induction l with
  | nil=>simp
  | cons a l ih=>rw [List.flatMap_cons,List.length_append,List.length_cons];have:1 <= a.pl.length:=(by simp [At.pl]);omega
 have e4:(fsts c.body).length = c.body.length:=by simp [fsts]
 refine ⟨by omega,by omega,by omega,fun x hx=>?_⟩
 have hm:x.1 ∈ fsts c.body:=List.mem_map.2 ⟨x,hx,rfl⟩
 have:x.1.args.length <= ((fsts c.body).flatMap At.pl).length:=by
  generalize fsts c.body = l at hm
  induction l with
  | nil=>cases hm
  | cons a l ih=>
   rw [List.flatMap_cons,List.length_append]
   rcases List.mem_cons.1 hm with rfl | hm
   ·have:x.1.args.length <= x.1.pl.length:=(by simp [At.pl]);omega
   ·have:=ih hm;omega
 omega
end Go.Proofs.YtcpjiahdaplhlaaGreatDoor
namespace Go.Proofs.YtcpjiahdaplhlaaGreatDoor
open Go.RowKit
theorem key_len (c:Cm):c.body.length = c.key.2.1.length /\ c.tests.length = c.key.2.2.length:=by simp [Cm.key,fsts]
theorem unb_key {c:Cm}:unb c = (vrs (c.key.1.pl ++ tls c.key.2.2)).any fun v=>!decide (v ∈ vrs (c.key.2.1.flatMap At.pl)):=by
 have e1:c.restC.vars = vrs c.restC.terms:=rfl
 have e2:c.bodyC.vars = vrs c.bodyC.terms:=rfl
 have e3:flt c.body = c.key.2.1.flatMap At.pl:=by simp [flt,Cm.key,fsts,List.flatMap_map]
 unfold unb
 rw [e1,e2,restC_terms,bodyC_terms,e3]
 have e4:vrs (⟨0,0,⟨#[]⟩⟩ :: c.key.2.1.flatMap At.pl) = vrs (c.key.2.1.flatMap At.pl):=by unfold vrs;rw [List.filter_cons_of_neg (by rw [zt_var];simp)]
 rw [e4];rfl
theorem mis_key {c:Cm}:mis 0 c.vars = mis 0 (vrs (Ck.terms c.key)):=by
 have:c.vars = vrs c.terms:=rfl
 rw [this,key_terms]
end Go.Proofs.YtcpjiahdaplhlaaGreatDoor
namespace Go.Proofs.YtcpjiahdaplhlaaGreatDoor
open Go.RowKit
theorem qual_k {t:Tm} (h:qualOk t = true) (hv:t.var = false):t.k ≠ 3:=by
 simp only [qualOk,hv,Bool.or_false,Bool.or_eq_true,decide_eq_true_eq,Tm.prin] at h
 rcases h with h | h
 ·rw [h];simp [zt]
 ·omega
theorem var_eqQ {t:Tm} (h:t.var = true):t = ⟨3,t.n,⟨#[]⟩⟩:=by
 simp only [Tm.var,decide_eq_true_eq] at h
 obtain ⟨k,n,s⟩:=t
 simp only at h
 obtain ⟨rfl, -,rfl⟩:=h
 rfl
theorem fold_n:∀ (l acc:List Tm),(∀ t ∈ l,t.var = true) -> (∀ t ∈ acc,t.var = true) -> (l.foldl dstepT acc).map (·.n) = (l.map (·.n)).foldl dstep (acc.map (·.n))
 | [],acc,_,_=>rfl
 | t :: l,acc,h1,h2=>by
  rw [List.foldl_cons,List.map_cons,List.foldl_cons]
  have ht:=h1 t (by simp)
  have hm:t.n ∈ acc.map (·.n) ↔ t ∈ acc:=⟨fun hm=>by
   obtain ⟨u,hu,e⟩:=List.mem_map.1 hm
   rw [var_eqQ ht, <- e, <- var_eqQ (h2 u hu)];exact hu,fun hm=>List.mem_map.2 ⟨t,hm,rfl⟩⟩
  have e:(dstepT acc t).map (·.n) = dstep (acc.map (·.n)) t.n:=by
   unfold dstepT dstep
   by_cases hc:t ∈ acc
   ·rw [if_pos hc,if_pos (hm.2 hc)]
   ·rw [if_neg hc,if_neg (fun x=>hc (hm.1 x))];simp
  rw [<- e]
  refine fold_n l _ (fun u hu=>h1 u (by simp [hu])) fun u hu=>?_
  rcases dstepT_mem.1 hu with hu | rfl
  ·exact h2 u hu
  ·exact ht
theorem disT_n (l:List Tm):(disT l).map (·.n) = dis (vrs l):=by
 unfold disT dis vrs
 exact fold_n _ [] (fun t ht=>(List.mem_filter.1 ht).2) (by simp)
end Go.Proofs.YtcpjiahdaplhlaaGreatDoor

import Derived.Test.YtcpjiahdaplhlaaGreatDoorCL2
import Derived.Test.YtcpjiahdaplhlaaGreatDoorW1
import Derived.Deep.CutRange
import Derived.Test.YtcpjiahdaplhlaaGreatDoorB2
namespace Go.Proofs.YtcpjiahdaplhlaaGreatDoor
open Go.RowKit
def Blk (W:World) (g:Nat) (c:Array Value) (t:TypeId):Prop:=W.heap[g]? = some (.cells c t (0,0))
theorem Blk.lt {W:World} {g:Nat} {c:Array Value} {t:TypeId} (h:Blk W g c t):g < W.heap.size:=(Array.getElem?_eq_some_iff.1 h).1
theorem Blk.later {W W':World} {g:Nat} {c:Array Value} {t:TypeId} (h:Blk W g c t) (hb:Below W.heap.size W W'):Blk W' g c t:=(hb.block _ h.lt).trans h
theorem Blk.new (W:World) (c:Array Value) (t:TypeId):Blk (W.alloc (.cells c t)) W.heap.size c t:=heap_alloc_new _ _
end Go.Proofs.YtcpjiahdaplhlaaGreatDoor
namespace Go.Proofs.YtcpjiahdaplhlaaGreatDoor
open Go.RowKit
set_option maxHeartbeats 400000 in
theorem rvar_any (t:Tm) (w:World) :
  Calls Tryz.prog 49 #[t.v] w fun e w'=>e = .returned (.bool t.var) /\ Below w.heap.size w w':=by
 obtain ⟨k,n,s⟩:=t
 unfold Tm.var
 go_enter Tryz.func49,Tryz.ntmps49
 go_wp2
 all_goals
  go_ret
  refine ⟨ret_b ?_,below1 _ _⟩
  simp_all [isE]
  try omega
set_option maxHeartbeats 400000 in
theorem rcon_any (t:Tm) (w:World) :
  Calls Tryz.prog 51 #[t.v] w fun e w'=>e = .returned (.bool t.con) /\ Below w.heap.size w w':=by
 obtain ⟨k,n,s⟩:=t
 cases h2:s.toList.isEmpty
 all_goals
  have h3:=isE s
  rw [h2] at h3
  by_cases h1:k = 1
  ·unfold Tm.con
   subst h1
   clear h3
   go_enter Tryz.func51,Tryz.ntmps51
   go_wp2
   all_goals
    go_ret
    refine ⟨ret_b ?_,below1 _ _⟩
    simp_all [isE]
    try omega
  ·by_cases h4:k = 2
   ·by_cases h5:n = 0
    all_goals
     unfold Tm.con
     subst h4
     clear h3
     go_enter Tryz.func51,Tryz.ntmps51
     go_wp2
     all_goals
      go_ret
      refine ⟨ret_b ?_,below1 _ _⟩
      simp_all [isE]
      try omega
   ·unfold Tm.con
    clear h3
    go_enter Tryz.func51,Tryz.ntmps51
    go_wp2
    all_goals
     go_ret
     refine ⟨ret_b ?_,below1 _ _⟩
     simp_all [isE]
set_option maxHeartbeats 400000 in
theorem rprin_any (t:Tm) (w:World) :
  Calls Tryz.prog 97 #[t.v] w fun e w'=>e = .returned (.bool t.prin) /\ Below w.heap.size w w':=by
 obtain ⟨k,n,s⟩:=t
 cases hc:Tm.con ⟨k,n,s⟩
 ·have hp:Hid (false = Tm.prin ⟨k,n,s⟩):=by
   show false = Tm.prin ⟨k,n,s⟩
   by_cases h:k = 2 /\ s ≠ ⟨#[]⟩
   ·rw [<- prin_eq _ _ _ h.1 h.2,hc]
   ·exact prin_no _ _ _ h
  have HC:Hid (Tm.con ⟨k,n,s⟩ = false):=hc
  clear hc
  go_enter Tryz.func97,Tryz.ntmps97
  go_wp2_with (go_at_call 51;refine (rcon_any ⟨k,n,s⟩ _).mono ?_;rw [HC.out];rintro e w1 ⟨rfl,hb⟩)
  go_ret
  exact ⟨ret_b hp.out,(below1 _ _).trans (hb.mono (by simp))⟩
 ·have HC:Hid (Tm.con ⟨k,n,s⟩ = true):=hc
  clear hc
  go_enter Tryz.func97,Tryz.ntmps97
  go_wp2_with (go_at_call 51;refine (rcon_any ⟨k,n,s⟩ _).mono ?_;rw [HC.out];rintro e w1 ⟨rfl,hb⟩;obtain ⟨hcl,hfr⟩:=bcell hb)
  all_goals
   go_ret
   refine ⟨ret_b ?_,(below1 _ _).trans (hb.mono (by simp))⟩
   have:=HC.out
   simp_all [isE,Tm.prin,Tm.con]
end Go.Proofs.YtcpjiahdaplhlaaGreatDoor
namespace Go.Proofs.YtcpjiahdaplhlaaGreatDoor
open Go.RowKit
def qualOk (t:Tm):Bool:=decide (t = zt) || (t.prin || t.var)
set_option maxHeartbeats 1000000 in
theorem qual_any (t:Tm) (w:World):Calls Tryz.prog 93 #[t.v] w fun e w'=>e = .returned (.bool (qualOk t)) /\ Below w.heap.size w w':=by
 obtain ⟨k,n,s⟩:=t
 have he:=run_eql_tm ⟨k,n,s⟩ zt
 obtain ⟨b1,h1⟩:∃ b,decide (Tm.mk k n s = zt) = b:=⟨_,rfl⟩
 obtain ⟨b2,h2⟩:∃ b,Tm.prin ⟨k,n,s⟩ = b:=⟨_,rfl⟩
 obtain ⟨b3,h3⟩:∃ b,Tm.var ⟨k,n,s⟩ = b:=⟨_,rfl⟩
 have HR:Hid (qualOk ⟨k,n,s⟩ = (b1 || (b2 || b3))):=by show _ = _;unfold qualOk;rw [h1,h2,h3]
 have H2:Hid (Tm.prin ⟨k,n,s⟩ = b2):=h2
 have H3:Hid (Tm.var ⟨k,n,s⟩ = b3):=h3
 rw [h1] at he
 unfold zt at he
 clear h1 h2 h3
 cases b1
 ·cases b2
  ·go_enter Tryz.func93,Tryz.ntmps93
   go_wp2_with (first
    | (go_at_call 132;refine (prin_any ⟨k,n,s⟩ _).mono ?_;rw [H2.out];rintro e w1 ⟨rfl,hb1⟩;obtain ⟨p0,p1,p2, -, -, -⟩:=three ((Blk.new w #[.int .i64 k,.int .i64 n,.string s] 39).later hb1))
    | (go_at_call 44;refine (var_any ⟨k,n,s⟩ _).mono ?_;rw [H3.out];rintro e w2 ⟨rfl,hb2⟩))
   go_ret
   exact ⟨ret_b (by rw [HR.out];rfl),below_step (below_step (below1 _ _) hb1) hb2⟩
  ·go_enter Tryz.func93,Tryz.ntmps93
   go_wp2_with (go_at_call 132;refine (prin_any ⟨k,n,s⟩ _).mono ?_;rw [H2.out];rintro e w1 ⟨rfl,hb1⟩)
   go_ret
   exact ⟨ret_b (by rw [HR.out];rfl),below_step (below1 _ _) hb1⟩
 ·go_enter Tryz.func93,Tryz.ntmps93
  go_wp2
  go_ret
  exact ⟨ret_b (by rw [HR.out];rfl),below1 _ _⟩
def At.err (a:At):Int:=if nameOk a.name = false then 21 else if 8 < a.args.length then 22 else if qualOk a.by_ = false then 23 else if a.args.all Tm.cov then 0 else 24
theorem all_no {l:List Tm} {i:Nat} {t:Tm} (h:l[i]? = some t) (hc:t.cov = false):l.all Tm.cov = false:=by
 obtain ⟨hi,rfl⟩:=List.getElem?_eq_some_iff.1 h
 cases e:l.all Tm.cov
 ·rfl
 ·rw [List.all_eq_true.1 e _ (List.getElem_mem hi)] at hc;cases hc
theorem all_yes {l:List Tm} (h:∀ (i:Nat) (t:Tm),l[i]? = some t -> t.cov = true):l.all Tm.cov = true:=
 List.all_eq_true.2 fun t ht=>by obtain ⟨i,hi,rfl⟩:=List.getElem_of_mem ht;exact h i _ (List.getElem?_eq_getElem hi)
set_option maxHeartbeats 2000000 in
theorem chk_any (a:At) (x:Value) (w:World) (h:Ts w x a.args) :
  Calls Tryz.prog 54 #[a.v x] w fun e w'=>e = .returned (.int .i64 a.err) /\ Below w.heap.size w w':=by
 obtain ⟨⟨k,n,ss⟩,nm,l⟩:=a
 simp only at h
 obtain ⟨r,hr⟩:∃ r,At.err ⟨⟨k,n,ss⟩,nm,l⟩ = r:=⟨_,rfl⟩
 rw [hr]
 simp only [At.err] at hr
 have HX:Hid (Ts w x l):=h
 obtain ⟨ad,cap,rfl,hl, -⟩:=h
 cases hn:nameOk nm
 ·have HR:Hid (21 = r):=by show _ = _;rw [<- hr,if_pos hn]
  clear hr
  go_enter Tryz.func54,Tryz.ntmps54
  go_wp2_with (go_at_call 92;refine (name_any nm _).mono ?_;rw [hn];rintro e w1 ⟨rfl,hb1⟩)
  go_ret
  exact ⟨ret_i HR.out,below_step (below1 _ _) hb1⟩
 ·rw [hn,if_neg (by simp)] at hr
  have HN:Hid (nameOk nm = true):=hn
  clear hn
  by_cases h8:8 < l.length
  ·have HR:Hid (22 = r):=by show _ = _;rw [<- hr,if_pos h8]
   have q8:(8:Int) < (l.length:Int):=by omega
   clear hr h8
   go_enter Tryz.func54,Tryz.ntmps54
   go_wp2_with (go_at_call 92;refine (name_any nm _).mono ?_;rw [HN.out];rintro e w1 ⟨rfl,hb1⟩;obtain ⟨p0,p1,p2,p3,p4⟩:=five ((Blk.new w #[.int .i64 k,.int .i64 n,.string ss,.string nm,.slice ad l.length cap] 42).later hb1))
   go_ret
   exact ⟨ret_i HR.out,below_step (below1 _ _) hb1⟩
  ·rw [if_neg h8] at hr
   have q8:¬ (8:Int) < (l.length:Int):=by omega
   cases hq:qualOk ⟨k,n,ss⟩
   ·have HR:Hid (23 = r):=by show _ = _;rw [<- hr,if_pos hq]
    have HQ:Hid (qualOk ⟨k,n,ss⟩ = false):=hq
    clear hr h8 hq
    go_enter Tryz.func54,Tryz.ntmps54
    go_wp2_with (first
     | (go_at_call 92;refine (name_any nm _).mono ?_;rw [HN.out];rintro e w1 ⟨rfl,hb1⟩;obtain ⟨p0,p1,p2,p3,p4⟩:=five ((Blk.new w #[.int .i64 k,.int .i64 n,.string ss,.string nm,.slice ad l.length cap] 42).later hb1))
     | (go_at_call 93;refine (qual_any ⟨k,n,ss⟩ _).mono ?_;rw [HQ.out];rintro e w2 ⟨rfl,hb2⟩))
    go_ret
    exact ⟨ret_i HR.out,below_step (below_step (below1 _ _) hb1) hb2⟩
   ·have HR:Hid ((if l.all Tm.cov then 0 else 24) = r):=by show _ = _;rw [<- hr,hq];rfl
    have HQ:Hid (qualOk ⟨k,n,ss⟩ = true):=hq
    clear hr h8 hq
    go_enter Tryz.func54,Tryz.ntmps54
    go_wp2_with (first
     | (go_at_call 92;refine (name_any nm _).mono ?_;rw [HN.out];rintro e w1 ⟨rfl,hb1⟩;have B1:=(Blk.new w #[.int .i64 k,.int .i64 n,.string ss,.string nm,.slice ad l.length cap] 42).later hb1;obtain ⟨p0,p1,p2,p3,p4⟩:=five B1;have HB1:Hid (Blk _ _ _ _):=B1;clear B1)
     | (go_at_call 93;refine (qual_any ⟨k,n,ss⟩ _).mono ?_;rw [HQ.out];rintro e w2 ⟨rfl,hb2⟩;clear p0 p1 p2 p3 p4;obtain ⟨p0,p1,p2,p3,p4⟩:=five (Blk.later (Hid.out HB1) hb2)))
    clear p0 p1 p2 p3 p4
    have hbw:=below_step (below_step (below1 _ _) hb1) hb2
    clear hb1 hb2 HB1
    go_loopg [23] l.length (fun g i wr=>∃ j:Nat,j + g = l.length /\ i = .int .i64 j /\ (∀ i t,i < j -> l[i]? = some t -> t.cov = true) /\ Below w.heap.size w wr)
    case atStart=>exact ⟨0,by omega,rfl,fun i t hi=>by omega,hbw⟩
    case round=>
     obtain ⟨j,hj,rfl,hall,hbr⟩:=hrel
     have HA:Hid (∀ i t,i < j -> l[i]? = some t -> t.cov = true):=hall
     clear hall hbw
     cases gk with
     | succ g=>
      have hlt:j < l.length:=by omega
      obtain ⟨t,ht⟩:∃ t,l[j]? = some t:=⟨_,List.getElem?_eq_getElem hlt⟩
      obtain ⟨ad',cap',hx, -,hxx⟩:=HX.out.later hbr
      simp only [Value.slice.injEq] at hx
      obtain ⟨rfl, -,rfl⟩:=hx
      rcases hxx with hxx | ⟨b,o,rfl,hbs,hxx⟩
      ·subst hxx;simp at hlt
      ·obtain ⟨c0,c1,c2⟩:=hxx j _ ht
       have HT:Hid (l[j]? = some t):=ht
       obtain ⟨tk,tn,ts⟩:=t
       simp only at c0 c1 c2
       clear hxx ht
       have i1:(0:Int) <= (j:Int):=by omega
       have i2:(j:Int) < (l.length:Int):=by omega
       cases hc:Tm.cov ⟨tk,tn,ts⟩
       ·have HR2:Hid (24 = r):=by show _ = _;rw [<- HR.out,all_no HT.out hc];rfl
        go_wp2_with (go_at_call 94;refine (cov_any ⟨tk,tn,ts⟩ _).mono ?_;rw [hc];rintro e w3 ⟨rfl,hb3⟩)
        go_ret
        exact ⟨ret_i HR2.out,below_step (below_step hbr (below1 _ _)) hb3⟩
       ·have HC:Hid (Tm.cov ⟨tk,tn,ts⟩ = true):=hc
        clear hc
        go_wp2_with (go_at_call 94;refine (cov_any ⟨tk,tn,ts⟩ _).mono ?_;rw [HC.out];rintro e w3 ⟨rfl,hb3⟩)
        go_roundg g
        case measure=>omega
        case rel=>
         refine ⟨j + 1,by omega,by go_num,fun i t hi ht=>?_,below_step (below_step hbr (below1 _ _)) hb3⟩
         rcases Nat.lt_or_ge i j with h | h
         ·exact HA.out i t h ht
         ·obtain rfl:i = j:=by omega
          rw [HT.out] at ht;cases ht;exact HC.out
     | zero=>
      obtain rfl:j = l.length:=by omega
      have HR2:Hid (0 = r):=by show _ = _;rw [<- HR.out,all_yes fun i t ht=>HA.out i t (List.getElem?_eq_some_iff.1 ht).1 ht];rfl
      have hz:¬ ((l.length:Int) < (l.length:Int)):=by omega
      go_wp2
      go_ret
      exact ⟨ret_i HR2.out,hbr⟩
end Go.Proofs.YtcpjiahdaplhlaaGreatDoor
namespace Go.Proofs.YtcpjiahdaplhlaaGreatDoor
open Go.RowKit Go.Shelf
attribute [local go_sem] Oper.semAt_some
def aErr:List (At × Value) -> Int
 | []=>0
 | x :: r=>if x.1.err = 0 then aErr r else x.1.err
theorem aErr_zero:∀ {l:List (At × Value)},(∀ x ∈ l,x.1.err = 0) -> aErr l = 0
 | [],_=>rfl
 | x :: l,h=>by unfold aErr;rw [if_pos (h x (by simp))];exact aErr_zero fun y hy=>h y (by simp [hy])
theorem aErr_app:∀ {p:List (At × Value)} {r:List (At × Value)},(∀ x ∈ p,x.1.err = 0) -> aErr (p ++ r) = aErr r
 | [],_,_=>rfl
 | x :: l,r,h=>by rw [List.cons_append,aErr,if_pos (h x (by simp))];exact aErr_app fun y hy=>h y (by simp [hy])
theorem aErr_hit {pre xs:List (At × Value)} {x:At × Value} (h:∀ y ∈ pre,y.1.err = 0) (hp:pre ++ [x] <+: xs) (hx:¬ x.1.err = 0):aErr xs = x.1.err:=by
 obtain ⟨suf,rfl⟩:=hp
 rw [List.append_assoc,aErr_app h,List.singleton_append,aErr,if_neg hx]
theorem ret_errno {fn:Func} {i:Nat} (hf:fn.results = #[.cell i 24]) (tmps:Array Value) (w:World) (g:Nat) (v:Int)
  (h4:tmps[i]?.getD undef = .pointer (some ⟨g,0,none⟩)) (hg:w.cell? ⟨g,0,none⟩ = some (.int .i64 v)):(results fn tmps).run Tryz.prog w = .ok (.int .i64 v) w:=by
 simp [results,hf,h4,go_sem,hg]
theorem ret_bcell {fn:Func} {i:Nat} (hf:fn.results = #[.cell i 4]) (tmps:Array Value) (w:World) (g:Nat) (v:Bool)
  (h4:tmps[i]?.getD undef = .pointer (some ⟨g,0,none⟩)) (hg:w.cell? ⟨g,0,none⟩ = some (.bool v)):(results fn tmps).run Tryz.prog w = .ok (.bool v) w:=by
 simp [results,hf,h4,go_sem,hg]
theorem CBlk.put {W:World} {B E:Nat} {c:Array Value} {t:TypeId} (h:CBlk W B c t) (o:Obj) (hne:B ≠ E):CBlk (W.putObj E o) B c t:=(World.putObj_heap_other hne).trans h
theorem CBlk.set {W:World} {B:Nat} {c:Array Value} {t:TypeId} (h:CBlk W B c t) (i:Nat) (v:Value):CBlk (W.setCell ⟨B,i,none⟩ v) B (c.setIfInBounds i v) t:=heap_setCell_same _ _ _ _ _ _ h
theorem CBlk.off {W:World} {B G i:Nat} {c:Array Value} {t:TypeId} {v:Value} (h:CBlk W B c t) (hne:B ≠ G):CBlk (W.setCell ⟨G,i,none⟩ v) B c t:=by
 unfold CBlk;rw [heap_setCell_other _ _ _ _ hne];exact h
theorem below_put {w X:World} {E:Nat} {o':Obj} (h:Below w.heap.size w X) (hE:w.heap.size <= E):Below w.heap.size w (X.putObj E o'):=
 ⟨h.os,h.tape,h.output,by simpa using h.size,fun k hk=>(World.putObj_heap_other (by omega)).trans (h.block k hk)⟩
set_option maxRecDepth 100000 in
set_option maxHeartbeats 4000000 in
theorem atomsError_any (c:Cm) (w:World) (h:c.ok w) :
  Calls Tryz.prog 169 #[c.v] w fun e w'=>e = .returned (.int .i64 (aErr c.atoms)) /\ Below w.heap.size w w':=by
 obtain ⟨⟨a,hn,cap,h1⟩,⟨a',cap',h2⟩,⟨a'',cap'',h3⟩,hbl,htl⟩:=h.shape
 have HOK:Hid (c.ok w):=h
 have hat:=atoms_any c ((w.alloc (.cells c.cs 53)).alloc (.cells #[.int .i64 0] 24)) (h.later (below2 _ _ _))
 obtain ⟨⟨⟨⟨k,m,s⟩,nm,ls⟩,hx⟩,body,bv,tests,tv⟩:=c
 simp only at h1 h2 h3 hbl htl hat
 subst h1 h2 h3
 obtain ⟨n, -⟩:∃ n:Nat,True:=⟨0,trivial⟩
 refine (callsIn_wide (n:=n)).1 ?_
 refine callsIn_of_wp_marks Tryz.func169 rfl trivial ?_ rfl
 simp only [Tryz.ntmps169,List.size_toArray,List.length_cons,List.length_nil,Nat.reduceAdd,Nat.reduceSub,Array.replicate_succ,Array.replicate_zero,List.push_toArray,List.append_toArray,List.nil_append,List.cons_append]
 gi_wp2
 refine ⟨trivial,fun h=>(by cases h),(callsIn_wide.2 hat).mono ?_⟩
 rintro e w' ⟨rfl,rfl⟩
 clear hat h
 have hz1:(((w.alloc (.cells (Cm.cs ⟨(⟨⟨k,m,s⟩,nm,ls⟩,.slice a hn cap),body,.slice a' body.length cap',tests,.slice a'' tests.length cap''⟩) 53)).alloc (.cells #[.int .i64 0] 24)).alloc (.cells (Cm.cs ⟨(⟨⟨k,m,s⟩,nm,ls⟩,.slice a hn cap),body,.slice a' body.length cap',tests,.slice a'' tests.length cap''⟩) 53)).heap.size = w.heap.size + 3:=by simp
 have b1:CBlk (((w.alloc (.cells (Cm.cs ⟨(⟨⟨k,m,s⟩,nm,ls⟩,.slice a hn cap),body,.slice a' body.length cap',tests,.slice a'' tests.length cap''⟩) 53)).alloc (.cells #[.int .i64 0] 24)).alloc (.cells (Cm.cs ⟨(⟨⟨k,m,s⟩,nm,ls⟩,.slice a hn cap),body,.slice a' body.length cap',tests,.slice a'' tests.length cap''⟩) 53)) (w.heap.size + 1) #[.int .i64 0] 24:=by
  have:=(CBlk.new (w.alloc (.cells (Cm.cs ⟨(⟨⟨k,m,s⟩,nm,ls⟩,.slice a hn cap),body,.slice a' body.length cap',tests,.slice a'' tests.length cap''⟩) 53)) #[.int .i64 0] 24).later (below1 _ (.cells (Cm.cs ⟨(⟨⟨k,m,s⟩,nm,ls⟩,.slice a hn cap),body,.slice a' body.length cap',tests,.slice a'' tests.length cap''⟩) 53))
  rwa [show (w.alloc (.cells (Cm.cs ⟨(⟨⟨k,m,s⟩,nm,ls⟩,.slice a hn cap),body,.slice a' body.length cap',tests,.slice a'' tests.length cap''⟩) 53)).heap.size = w.heap.size + 1 by simp] at this
 have b2:CBlk (((w.alloc (.cells (Cm.cs ⟨(⟨⟨k,m,s⟩,nm,ls⟩,.slice a hn cap),body,.slice a' body.length cap',tests,.slice a'' tests.length cap''⟩) 53)).alloc (.cells #[.int .i64 0] 24)).alloc (.cells (Cm.cs ⟨(⟨⟨k,m,s⟩,nm,ls⟩,.slice a hn cap),body,.slice a' body.length cap',tests,.slice a'' tests.length cap''⟩) 53)) (w.heap.size + 1 + 1) (Cm.cs ⟨(⟨⟨k,m,s⟩,nm,ls⟩,.slice a hn cap),body,.slice a' body.length cap',tests,.slice a'' tests.length cap''⟩) 53:=by
  have:=CBlk.new ((w.alloc (.cells (Cm.cs ⟨(⟨⟨k,m,s⟩,nm,ls⟩,.slice a hn cap),body,.slice a' body.length cap',tests,.slice a'' tests.length cap''⟩) 53)).alloc (.cells #[.int .i64 0] 24)) (Cm.cs ⟨(⟨⟨k,m,s⟩,nm,ls⟩,.slice a hn cap),body,.slice a' body.length cap',tests,.slice a'' tests.length cap''⟩) 53
  rwa [show ((w.alloc (.cells (Cm.cs ⟨(⟨⟨k,m,s⟩,nm,ls⟩,.slice a hn cap),body,.slice a' body.length cap',tests,.slice a'' tests.length cap''⟩) 53)).alloc (.cells #[.int .i64 0] 24)).heap.size = w.heap.size + 1 + 1 by simp] at this
 have hB1:Below w.heap.size w (((w.alloc (.cells (Cm.cs ⟨(⟨⟨k,m,s⟩,nm,ls⟩,.slice a hn cap),body,.slice a' body.length cap',tests,.slice a'' tests.length cap''⟩) 53)).alloc (.cells #[.int .i64 0] 24)).alloc (.cells (Cm.cs ⟨(⟨⟨k,m,s⟩,nm,ls⟩,.slice a hn cap),body,.slice a' body.length cap',tests,.slice a'' tests.length cap''⟩) 53)):=(below2 w _ _).trans ((below1 _ _).mono (by simp;omega))
 gi_wp2
 revert hz1 b1 b2 hB1
 generalize ((w.alloc (.cells (Cm.cs ⟨(⟨⟨k,m,s⟩,nm,ls⟩,.slice a hn cap),body,.slice a' body.length cap',tests,.slice a'' tests.length cap''⟩) 53)).alloc (.cells #[.int .i64 0] 24)).alloc (.cells (Cm.cs ⟨(⟨⟨k,m,s⟩,nm,ls⟩,.slice a hn cap),body,.slice a' body.length cap',tests,.slice a'' tests.length cap''⟩) 53) = V
 intro hz1 b1 b2 hB1
 refine wpIn_seq (gf:=212) (lb:=#[.pointer (some ⟨w.heap.size + 1 + 1,0,none⟩)]) rfl (enters_of Tryz.func212 (by kernel_rfl) rfl) (atoms_seq ⟨(⟨⟨k,m,s⟩,nm,ls⟩,.slice a hn cap),body,.slice a' body.length cap',tests,.slice a'' tests.length cap''⟩ (w.heap.size + 1 + 1)) (fun _=>rfl)
  (fun pre X=>(∀ y ∈ pre,y.1.err = 0) /\ CBlk X (w.heap.size + 1) #[.int .i64 0] 24 /\ CBlk X (w.heap.size + 1 + 1) (Cm.cs ⟨(⟨⟨k,m,s⟩,nm,ls⟩,.slice a hn cap),body,.slice a' body.length cap',tests,.slice a'' tests.length cap''⟩) 53 /\ Below w.heap.size w X)
  (fun cd _ X=>cd = .ret /\ CBlk X (w.heap.size + 1) #[.int .i64 (aErr (Cm.atoms ⟨(⟨⟨k,m,s⟩,nm,ls⟩,.slice a hn cap),body,.slice a' body.length cap',tests,.slice a'' tests.length cap''⟩))] 24 /\ Below w.heap.size w X)
  (OwnFrom.and (ownFrom_pure _ _) (OwnFrom.and (cblk_own _ _ _ _) (OwnFrom.and (cblk_own _ _ _ _) (ownFrom_below (Nat.le_refl _) (by omega)))))
  (fun cd=>OwnFrom.and (ownFrom_pure _ (fun _=>cd = .ret)) (OwnFrom.and (cblk_own _ _ _ _) (ownFrom_below (Nat.le_refl _) (by omega))))
  (fun pre X h=>⟨h.2.2.1,HOK.out.later h.2.2.2⟩)
  ⟨fun y hy=>by simp at hy,b1,b2,hB1⟩
  (fun x act X=>∃ Bx,w.heap.size + 1 + 1 < Bx /\ CBlk X Bx (x.1.cs x.2) 42 /\ act = { tmps:=#[.agg #[.int .i64 k,.int .i64 m,.string s,.string nm,.slice a hn cap,.slice a' body.length cap',.slice a'' tests.length cap''],.pointer (some ⟨w.heap.size,0,none⟩),.pointer (some ⟨w.heap.size + 1,0,none⟩),.pointer (some ⟨Bx,0,none⟩),undef,.agg #[.int .i64 k,.int .i64 m,.string s,.string nm,.slice a hn cap,.slice a' body.length cap',.slice a'' tests.length cap''],.func (.func 212) #[] #[.pointer (some ⟨w.heap.size + 1 + 1,0,none⟩)],x.1.v x.2,undef,undef,undef,undef,undef],defers:=[] })
  (fun x _ _ X Y row hs hg hr=>by obtain ⟨Bx,h1,h2,h3⟩:=hs;exact ⟨Bx,h1,cblk_own (β:=Unit) _ _ _ _ () X Y row h2 hg hr,h3⟩)
  ?assign ?body ?done ?stop
 case assign=>
  rintro l' mm pre x X K hpre ⟨hz,hf,hb,hbw⟩ hle hK
  obtain ⟨ax,cx,hax, -⟩:=(HOK.out.later hbw).mem (mem_of_pre hpre)
  obtain ⟨⟨⟨kx,mx,sx⟩,nx,lx⟩,vx⟩:=x
  simp only at hax
  subst hax
  gi_wp2
  exact hK _ _ (Up.alloc _ _ _) ⟨hz,hf.later (below1 _ _),hb.later (below1 _ _),below_step hbw (below1 _ _)⟩ ⟨X.heap.size,by omega,CBlk.new _ _ _,rfl⟩
 case body=>
  rintro l' mm pre x act X hpre ⟨hz,hf,hb,hbw⟩ ⟨Bx,hBx,hX,rfl⟩ hle
  have hts:=(HOK.out.later hbw).mem (mem_of_pre hpre)
  have hca:=chk_any x.1 x.2 X hts
  obtain ⟨ax,cx,hax, -⟩:=hts
  have HZ:Hid (∀ y ∈ pre,y.1.err = 0):=hz
  have HP:Hid (pre ++ [x] <+: Cm.atoms ⟨(⟨⟨k,m,s⟩,nm,ls⟩,.slice a hn cap),body,.slice a' body.length cap',tests,.slice a'' tests.length cap''⟩):=hpre
  have HF:Hid (CBlk X (w.heap.size + 1) #[.int .i64 0] 24):=hf
  have HB:Hid (CBlk X (w.heap.size + 1 + 1) (Cm.cs ⟨(⟨⟨k,m,s⟩,nm,ls⟩,.slice a hn cap),body,.slice a' body.length cap',tests,.slice a'' tests.length cap''⟩) 53):=hb
  have HBW:Hid (Below w.heap.size w X):=hbw
  obtain ⟨e,he⟩:∃ e,x.1.err = e:=⟨_,rfl⟩
  have HE:Hid (x.1.err = e):=he
  rw [he] at hca
  obtain ⟨⟨⟨kx,mx,sx⟩,nx,lx⟩,vx⟩:=x
  simp only at hax hca
  subst hax
  obtain ⟨x0,x1,x2,x3,x4⟩:=cfive hX
  clear hX hf hb hbw hz hpre he
  by_cases h0:e = 0
  ·subst h0
   gi_wp2
   refine ⟨trivial,fun h=>(by cases h),(CallsIn.inRound l' (callsIn_wide.2 hca)).mono ?_⟩
   clear hca x0 x1 x2 x3 x4
   rintro e w' ⟨rfl,hbx⟩
   have HX':Hid (Below X.heap.size X w'):=hbx
   clear hbx
   gi_wp2
   refine ⟨Up.below HX'.out,fun y hy=>?_,HF.out.later HX'.out,HB.out.later HX'.out,below_step HBW.out HX'.out⟩
   rcases List.mem_append.1 hy with hy | hy
   ·exact HZ.out y hy
   ·rw [List.mem_singleton] at hy;subst hy;exact HE.out
  ·have n1:(e == 0) = false:=beq_eq_false_iff_ne.2 h0
   have n2:(e != 0) = true:=by rw [bne,n1];rfl
   have HN:Hid (¬ e = 0):=h0
   clear h0
   gi_wp2
   refine ⟨trivial,fun h=>(by cases h),(CallsIn.inRound l' (callsIn_wide.2 hca)).mono ?_⟩
   clear hca x0 x1 x2 x3 x4
   rintro e' w' ⟨rfl,hbx⟩
   obtain ⟨f0,f1⟩:=one (HF.out.later hbx)
   have HX':Hid (Below X.heap.size X w'):=hbx
   clear hbx
   gi_wp2
   refine ⟨(Up.below HX'.out).trans (Up.setCell _ (by simp only;omega)),rfl, ?_,(below_step HBW.out HX'.out).setCell (by simp only;omega) _⟩
   rw [aErr_hit HZ.out HP.out (by rw [HE.out];exact HN.out)]
   have:=(HF.out.later HX'.out).set 0 (.int .i64 e)
   rw [HE.out]
   exact this
 case done=>
  rintro E X hE ⟨hz,hf,hb,hbw⟩ hD
  obtain ⟨f0,f1⟩:=one hf
  have HZ:Hid (∀ y ∈ Cm.atoms ⟨(⟨⟨k,m,s⟩,nm,ls⟩,.slice a hn cap),body,.slice a' body.length cap',tests,.slice a'' tests.length cap''⟩,y.1.err = 0):=hz
  have HF:Hid (CBlk X (w.heap.size + 1) #[.int .i64 0] 24):=hf
  have HBW:Hid (Below w.heap.size w X):=hbw
  have HD:Hid (X.heap[E]? = some (.deferred (some []))):=hD
  clear hz hf hb hbw hD
  gi_wp2
  refine ⟨by simp,.inl ⟨_,_,rfl,run_takeDeferred ((heap_setCell_other _ _ _ _ (show E ≠ w.heap.size + 1 by omega)).trans HD.out), ?_⟩⟩
  refine ⟨_,ret_errno Tryz.results169 _ _ (w.heap.size + 1) 0 rfl (one ((HF.out.set 0 (.int .i64 0)).put _ (by omega))).1, ?_, ?_⟩
  ·rw [aErr_zero HZ.out]
  ·exact below_put (HBW.out.setCell (by simp only;omega) _) (by omega)
 case stop=>
  rintro E cd pre X hE hpre ⟨rfl,hf,hbw⟩ hD
  have HF:Hid (CBlk X (w.heap.size + 1) #[.int .i64 (aErr (Cm.atoms ⟨(⟨⟨k,m,s⟩,nm,ls⟩,.slice a hn cap),body,.slice a' body.length cap',tests,.slice a'' tests.length cap''⟩))] 24):=hf
  clear hf
  gi_wp2
  refine ⟨by simp,.inl ⟨_,_,rfl,run_takeDeferred hD, ?_⟩⟩
  exact ⟨_,ret_errno Tryz.results169 _ _ (w.heap.size + 1) _ rfl (one (HF.out.put _ (by omega))).1,rfl,below_put hbw (by omega)⟩
end Go.Proofs.YtcpjiahdaplhlaaGreatDoor

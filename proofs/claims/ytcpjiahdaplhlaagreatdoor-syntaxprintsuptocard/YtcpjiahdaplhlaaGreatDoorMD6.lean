import Derived.Test.YtcpjiahdaplhlaaGreatDoorCL5
import Derived.Deep.CutRange
import Derived.Deep.RegionHeld3
import Derived.Test.YtcpjiahdaplhlaaGreatDoorMD2
import Derived.Test.YtcpjiahdaplhlaaGreatDoorB2
namespace Go.Proofs.YtcpjiahdaplhlaaGreatDoor
open Go.RowKit
set_option maxHeartbeats 2000000 in
theorem rchk_any (a:At) (x:Value) (w:World) (h:Ts w x a.args) :
  Calls Tryz.prog 56 #[a.v x] w fun e w'=>e = .returned (.int .i64 a.err) /\ Below w.heap.size w w':=by
 obtain ⟨⟨k,n,ss⟩,nm,l⟩:=a
 simp only at h
 obtain ⟨r,hr⟩:∃ r,At.err ⟨⟨k,n,ss⟩,nm,l⟩ = r:=⟨_,rfl⟩
 rw [hr]
 simp only [At.err] at hr
 have HX:Hid (Ts w x l):=h
 obtain ⟨ad,cap,rfl,hl, -⟩:=h
 cases hn:nameOk nm
 ·have HR:Hid (21 = r):=by show _ = _;rw [<- hr,if_pos hn]
  clear hr
  go_enter Tryz.func56,Tryz.ntmps56
  go_wp2_with (go_at_call 96;refine (rname_any nm _).mono ?_;rw [hn];rintro e w1 ⟨rfl,hb1⟩)
  go_ret
  exact ⟨ret_i HR.out,below_step (below1 _ _) hb1⟩
 ·rw [hn,if_neg (by simp)] at hr
  have HN:Hid (nameOk nm = true):=hn
  clear hn
  by_cases h8:8 < l.length
  ·have HR:Hid (22 = r):=by show _ = _;rw [<- hr,if_pos h8]
   have q8:(8:Int) < (l.length:Int):=by omega
   clear hr h8
   go_enter Tryz.func56,Tryz.ntmps56
   go_wp2_with (go_at_call 96;refine (rname_any nm _).mono ?_;rw [HN.out];rintro e w1 ⟨rfl,hb1⟩;obtain ⟨p0,p1,p2,p3,p4⟩:=five ((Blk.new w #[.int .i64 k,.int .i64 n,.string ss,.string nm,.slice ad l.length cap] 42).later hb1))
   go_ret
   exact ⟨ret_i HR.out,below_step (below1 _ _) hb1⟩
  ·rw [if_neg h8] at hr
   have q8:¬ (8:Int) < (l.length:Int):=by omega
   have HR:Hid ((if qualOk ⟨k,n,ss⟩ = false then 23 else if l.all Tm.cov then 0 else 24) = r):=hr
   clear hr h8
   go_enter Tryz.func56,Tryz.ntmps56
   go_upto_region 5 with (go_at_call 96;refine (rname_any nm _).mono ?_;rw [HN.out];rintro e W ⟨rfl,hb1⟩;have B1:=(Blk.new w #[.int .i64 k,.int .i64 n,.string ss,.string nm,.slice ad l.length cap] 42).later hb1;obtain ⟨p0,p1,p2,p3,p4⟩:=five B1;have HB:Hid (Blk _ _ _ _):=B1;clear B1)
   have hW:Hid (Below w.heap.size w W):=below_step (below1 _ _) hb1
   clear p0 p1 p2 p3 p4 hb1
   go_cut [27] from 12 to 27 (fun s27 wx=>s27 = .bool (!qualOk ⟨k,n,ss⟩) /\ Below W.heap.size W wx)
   case first=>
    obtain ⟨p0,p1,p2,p3,p4⟩:=five (Hid.out HB)
    have he:=run_neq_tm ⟨k,n,ss⟩ zt
    obtain ⟨b1,h1⟩:∃ b,decide (Tm.mk k n ss = zt) = b:=⟨_,rfl⟩
    obtain ⟨b2,h2⟩:∃ b,Tm.prin ⟨k,n,ss⟩ = b:=⟨_,rfl⟩
    obtain ⟨b3,h3⟩:∃ b,Tm.var ⟨k,n,ss⟩ = b:=⟨_,rfl⟩
    have HQ:Hid (qualOk ⟨k,n,ss⟩ = (b1 || (b2 || b3))):=by show _ = _;unfold qualOk;rw [h1,h2,h3]
    have H2:Hid (Tm.prin ⟨k,n,ss⟩ = b2):=h2
    have H3:Hid (Tm.var ⟨k,n,ss⟩ = b3):=h3
    rw [h1] at he
    unfold zt at he
    clear h1 h2 h3 HR
    cases b1
    ·cases b2
     ·go_wp2_with (first
       | (go_at_call 97;refine (rprin_any ⟨k,n,ss⟩ _).mono ?_;rw [H2.out];rintro e w2 ⟨rfl,hb2⟩;clear p0 p1 p2 p3 p4;obtain ⟨p0,p1,p2,p3,p4⟩:=five (Blk.later (Hid.out HB) hb2))
       | (go_at_call 49;refine (rvar_any ⟨k,n,ss⟩ _).mono ?_;rw [H3.out];rintro e w3 ⟨rfl,hb3⟩))
      go_meet
      case rel=>exact ⟨by rw [HQ.out];rfl,below_step hb2 hb3⟩
     ·go_wp2_with (go_at_call 97;refine (rprin_any ⟨k,n,ss⟩ _).mono ?_;rw [H2.out];rintro e w2 ⟨rfl,hb2⟩)
      go_meet
      case rel=>exact ⟨by rw [HQ.out];rfl,hb2⟩
    ·go_wp2_with fail
     go_meet
     case rel=>exact ⟨by rw [HQ.out];rfl,Below.refl _ _⟩
   case rest=>
    obtain ⟨rfl,hbc⟩:=hcut
    have hbw:=below_step (Hid.out hW) hbc
    have B2:=Blk.later (Hid.out HB) hbc
    clear HB hW hbc
    cases hq:qualOk ⟨k,n,ss⟩
    ·have HR2:Hid (23 = r):=by show _ = _;rw [<- HR.out,if_pos hq]
     clear HR
     go_wp2
     go_ret
     exact ⟨ret_i HR2.out,hbw⟩
    ·have HR2:Hid ((if l.all Tm.cov then 0 else 24) = r):=by show _ = _;rw [<- HR.out,hq];rfl
     clear HR hq
     go_wp2
     go_loopg [3] l.length (fun g i wr=>∃ j:Nat,j + g = l.length /\ i = .int .i64 j /\ (∀ i t,i < j -> l[i]? = some t -> t.cov = true) /\ Below w.heap.size w wr /\ Blk wr w.heap.size #[.int .i64 k,.int .i64 n,.string ss,.string nm,.slice ad l.length cap] 42)
     case atStart=>exact ⟨0,by omega,rfl,fun i t hi=>by omega,hbw,B2⟩
     case round=>
      obtain ⟨j,hj,rfl,hall,hbr,hB⟩:=hrel
      have HA:Hid (∀ i t,i < j -> l[i]? = some t -> t.cov = true):=hall
      have HB:Hid (Blk wr _ _ _):=hB
      obtain ⟨p0,p1,p2,p3,p4⟩:=five hB
      have zw:=Blk.lt hB
      clear hall hbw B2 hB
      cases gk with
      | succ g=>
       have hlt:j < l.length:=by omega
       obtain ⟨t,ht⟩:∃ t,l[j]? = some t:=⟨_,List.getElem?_eq_getElem hlt⟩
       obtain ⟨ad',cap',hx, -,hxx⟩:=HX.out.later hbr
       simp only [Value.slice.injEq] at hx
       obtain ⟨rfl, -,rfl⟩:=hx
       rcases hxx with hxx | ⟨b,o,rfl,hbs,hxx⟩
       ·subst hxx;simp at hlt
       ·obtain ⟨c0,c1,c2⟩:=hxx j _ ht
        have HT:Hid (l[j]? = some t):=ht
        obtain ⟨tk,tn,ts⟩:=t
        simp only at c0 c1 c2
        clear hxx ht
        have i1:(0:Int) <= (j:Int):=by omega
        have i2:(j:Int) < (l.length:Int):=by omega
        cases hc:Tm.con ⟨tk,tn,ts⟩
        ·have HC:Hid (Tm.con ⟨tk,tn,ts⟩ = false):=hc
         clear hc
         cases hv:Tm.var ⟨tk,tn,ts⟩
         ·have HV:Hid (Tm.var ⟨tk,tn,ts⟩ = false):=hv
          have HR3:Hid (24 = r):=by show _ = _;rw [<- HR2.out,all_no HT.out (by unfold Tm.cov;rw [HC.out,hv];rfl)];rfl
          clear hv
          go_wp2_with (first
           | (go_at_call 51;refine (rcon_any ⟨tk,tn,ts⟩ _).mono ?_;rw [HC.out];rintro e w3 ⟨rfl,hb3⟩;have d0:=cell_step hb3 hbs c0;have d1:=cell_step hb3 hbs c1;have d2:=cell_step hb3 hbs c2;have d4:=cell_step hb3 zw p4;clear p0 p1 p2 p3 p4 c0 c1 c2)
           | (go_at_call 49;refine (rvar_any ⟨tk,tn,ts⟩ _).mono ?_;rw [HV.out];rintro e w4 ⟨rfl,hb4⟩))
          go_ret
          exact ⟨ret_i HR3.out,below_step (below_step hbr hb3) hb4⟩
         ·have HV:Hid (Tm.var ⟨tk,tn,ts⟩ = true):=hv
          clear hv
          go_wp2_with (first
           | (go_at_call 51;refine (rcon_any ⟨tk,tn,ts⟩ _).mono ?_;rw [HC.out];rintro e w3 ⟨rfl,hb3⟩;have d0:=cell_step hb3 hbs c0;have d1:=cell_step hb3 hbs c1;have d2:=cell_step hb3 hbs c2;have d4:=cell_step hb3 zw p4;clear p0 p1 p2 p3 p4 c0 c1 c2)
           | (go_at_call 49;refine (rvar_any ⟨tk,tn,ts⟩ _).mono ?_;rw [HV.out];rintro e w4 ⟨rfl,hb4⟩))
          go_roundg g
          case measure=>omega
          case rel=>
           refine ⟨j + 1,by omega,by go_num,fun i t hi ht=>?_,below_step (below_step hbr hb3) hb4,Blk.later (Blk.later (Hid.out HB) hb3) hb4⟩
           rcases Nat.lt_or_ge i j with h | h
           ·exact HA.out i t h ht
           ·obtain rfl:i = j:=by omega
            rw [HT.out] at ht;cases ht;unfold Tm.cov;rw [HV.out,Bool.or_true]
        ·have HC:Hid (Tm.con ⟨tk,tn,ts⟩ = true):=hc
         clear hc
         go_wp2_with (go_at_call 51;refine (rcon_any ⟨tk,tn,ts⟩ _).mono ?_;rw [HC.out];rintro e w3 ⟨rfl,hb3⟩)
         go_roundg g
         case measure=>omega
         case rel=>
          refine ⟨j + 1,by omega,by go_num,fun i t hi ht=>?_,below_step hbr hb3,Blk.later (Hid.out HB) hb3⟩
          rcases Nat.lt_or_ge i j with h | h
          ·exact HA.out i t h ht
          ·obtain rfl:i = j:=by omega
           rw [HT.out] at ht;cases ht;unfold Tm.cov;rw [HC.out,Bool.true_or]
      | zero=>
       obtain rfl:j = l.length:=by omega
       have HR3:Hid (0 = r):=by show _ = _;rw [<- HR2.out,all_yes fun i t ht=>HA.out i t (List.getElem?_eq_some_iff.1 ht).1 ht];rfl
       have hz:¬ ((l.length:Int) < (l.length:Int)):=by omega
       go_wp2
       go_ret
       exact ⟨ret_i HR3.out,hbr⟩
end Go.Proofs.YtcpjiahdaplhlaaGreatDoor
namespace Go.Proofs.YtcpjiahdaplhlaaGreatDoor
open Go.RowKit
attribute [local go_sem ↓] Go.wp_at_zero Go.wp_at_succ
structure BT (w X:World) (o:Array Value) (L:List Tm) (u:Value):Prop where
 bc:CBlk X w.heap.size o 53
 ow:OwnT X (w.heap.size + 1) u L
 bw:Below w.heap.size w X
 sz:w.heap.size + 1 <= X.heap.size
theorem BT.later {w X X':World} {o:Array Value} {L:List Tm} {u:Value} (h:BT w X o L u) (hb:Below X.heap.size X X'):BT w X' o L u:=
 ⟨h.bc.later hb,h.ow.later hb,below_step h.bw hb,Nat.le_trans h.sz hb.size⟩
theorem BT.grow {w X X':World} {o:Array Value} {L L':List Tm} {u u':Value} (h:BT w X o L u) (hb:Below (w.heap.size + 1) X X') (ho:OwnT X' (w.heap.size + 1) u' L'):BT w X' o L' u':=
 ⟨(hb.block _ (by omega)).trans h.bc,ho,h.bw.trans (hb.mono (by omega)),Nat.le_trans h.sz hb.size⟩
theorem BT.start (w:World) (o:Array Value):BT w (w.alloc (.cells o 53)) o [] (.slice none 0 0):=⟨CBlk.new _ _ _,ownT_nil _ _,below1 _ _,by simp⟩
theorem flt_next {l:List (At × Value)} {j:Nat} {x:At × Value} (h:l[j]? = some x):flt (l.take j) ++ x.1.pl = flt (l.take (j + 1)):=by
 rw [List.take_add_one,h];simp [flt]
theorem flt_take (l:List (At × Value)) (j:Nat):(flt (l.take j)).length <= (flt l).length:=by
 have e:flt l = flt (l.take j) ++ flt (l.drop j):=by unfold flt;rw [<- List.flatMap_append,List.take_append_drop]
 rw [e,List.length_append];omega
theorem tls_next {l:List Te} {j:Nat} {x:Te} (h:l[j]? = some x):tls (l.take j) ++ [x.l,x.r] = tls (l.take (j + 1)):=by
 rw [List.take_add_one,h];simp [tls]
theorem tls_len (l:List Te):(tls l).length = l.length * 2:=by
 induction l with
 | nil=>rfl
 | cons a l ih=>unfold tls at ih ⊢;rw [List.flatMap_cons,List.length_append,ih];simp;omega
set_option maxRecDepth 20000 in
set_option maxHeartbeats 4000000 in
theorem bodyTerms_any (c:Cm) (w:World) (h:c.ok w) (hp:∀ x ∈ c.body,TsP w x.2 x.1.args) (hl:(flt c.body).length <= 3900000000000) :
  Calls Tryz.prog 101 #[c.v] w fun e w'=>∃ v',e = .returned v' /\ OwnT w' w.heap.size v' (flt c.body) /\ Below w.heap.size w w':=by
 obtain ⟨⟨a,hn,cap,h1⟩,⟨a',cap',h2⟩,⟨a'',cap'',h3⟩,hbl,htl⟩:=h.shape
 have HAT:Hid (∀ x ∈ c.body,∀ X:World,Below w.heap.size w X -> Calls Tryz.prog 102 #[x.1.v x.2] X fun e w'=>∃ v',e = .returned v' /\ OwnT w' X.heap.size v' x.1.pl /\ Below X.heap.size X w'):=fun x hx X hX=>atomTerms_any x.1 x.2 X ((hp x hx).later hX) (by
  have:x.1.pl.length <= (flt c.body).length:=by
   obtain ⟨i,hi,rfl⟩:=List.getElem_of_mem hx
   have e:=flt_next (List.getElem?_eq_getElem hi)
   have e2:=flt_take c.body (i + 1)
   rw [<- e,List.length_append] at e2;omega
  simp [At.pl] at this;omega)
 have hB:=h.b
 obtain ⟨⟨⟨⟨k,m,s⟩,nm,ls⟩,hx⟩,body,bv,tests,tv⟩:=c
 simp only at h1 h2 h3 hbl htl hl HAT hB
 subst h1 h2 h3
 obtain ⟨_,_,he, -,hm,hts⟩:=hB
 simp only [Value.slice.injEq,true_and] at he
 obtain ⟨rfl,rfl⟩:=he
 clear h hp hts
 have HB0:Hid (BT w _ (Cm.cs ⟨(⟨⟨k,m,s⟩,nm,ls⟩,.slice a hn cap),body,.slice a' body.length cap',tests,.slice a'' tests.length cap''⟩) [] (.slice none 0 0)):=BT.start w (Cm.cs ⟨(⟨⟨k,m,s⟩,nm,ls⟩,.slice a hn cap),body,.slice a' body.length cap',tests,.slice a'' tests.length cap''⟩)
 go_enter Tryz.func101,Tryz.ntmps101
 go_wp2_with fail
 go_loopg [3,4] body.length (fun g u i wr=>∃ j:Nat,j + g = body.length /\ i = .int .i64 j /\ BT w wr (Cm.cs ⟨(⟨⟨k,m,s⟩,nm,ls⟩,.slice a hn cap),body,.slice a' body.length cap',tests,.slice a'' tests.length cap''⟩) (flt (body.take j)) u)
 case atStart=>exact ⟨0,by omega,rfl,HB0.out⟩
 case round=>
  obtain ⟨j,hj,rfl,hbt⟩:=hrel
  have HBT:Hid (BT w wr (Cm.cs ⟨(⟨⟨k,m,s⟩,nm,ls⟩,.slice a hn cap),body,.slice a' body.length cap',tests,.slice a'' tests.length cap''⟩) (flt (body.take j)) u3):=hbt
  clear hbt HB0
  obtain ⟨c0,c1,c2,c3,c4,c5,c6⟩:=cseven HBT.out.bc
  cases gk with
  | succ g=>
   have hlt:(j:Int) < (body.length:Int):=by omega
   have j0:(0:Int) <= (j:Int):=by omega
   obtain ⟨x,hx⟩:∃ x,body[j]? = some x:=⟨_,List.getElem?_eq_getElem (by omega)⟩
   rcases hm with hm | ⟨b1,o1,rfl,hb1,hm⟩
   ·subst hm;simp at hj
   obtain ⟨p0,p1,p2,p3,p4⟩:=hm j x hx
   have q0:=cell_step HBT.out.bw hb1 p0
   have q1:=cell_step HBT.out.bw hb1 p1
   have q2:=cell_step HBT.out.bw hb1 p2
   have q3:=cell_step HBT.out.bw hb1 p3
   have q4:=cell_step HBT.out.bw hb1 p4
   have HX:Hid (flt (body.take j) ++ x.1.pl = flt (body.take (j + 1))):=flt_next hx
   have HLX:Hid ((flt (body.take j)).length + x.1.pl.length <= 3900000000000):=by
    show _ <= _
    rw [<- List.length_append,flt_next hx]
    exact Nat.le_trans (flt_take body (j + 1)) hl
   have HA1:Hid (∀ X:World,Below w.heap.size w X -> Calls Tryz.prog 102 #[x.1.v x.2] X fun e w'=>∃ v',e = .returned v' /\ OwnT w' X.heap.size v' x.1.pl /\ Below X.heap.size X w'):=HAT.out x (List.mem_of_getElem? hx)
   clear hm hx p0 p1 p2 p3 p4 HAT
   obtain ⟨⟨⟨xk,xn,xs⟩,xm,xa⟩,xv⟩:=x
   simp only at q0 q1 q2 q3 q4 HX HLX HA1
   generalize flt (body.take j) = LJ at HBT HX HLX
   generalize At.pl ⟨⟨xk,xn,xs⟩,xm,xa⟩ = PL at HX HLX HA1
   go_wp2_with (first
    | (go_at_call 102;refine (HA1.out _ HBT.out.bw).mono ?_;clear HA1;rintro e w1 ⟨y,rfl,hy,hb⟩;have HY:Hid (TsP w1 y PL):=hy.tsP;have HB1:Hid (BT w w1 _ LJ u3):=HBT.out.later hb;clear hb hy HBT c0 c1 c2 c3 c4 c5 c6 q0 q1 q2 q3 q4)
    | (at_builtin;refine app_terms rfl _ _ rfl (w.heap.size + 1) u3 LJ (by rfl) HB1.out.ow y PL (by rfl) HY.out (by have:=HLX.out;omega) HB1.out.sz ?_;intro v' w3 hown hb3 hg3;have HB2:Hid (BT w w3 _ (LJ ++ PL) v'):=HB1.out.grow hb3 hown;clear hown hb3 hg3 HB1 HY))
   go_roundg g
   case measure=>omega
   case rel=>exact ⟨j + 1,by omega,by go_num,by rw [<- HX.out];exact HB2.out⟩
  | zero=>
   obtain rfl:j = body.length:=by omega
   have hz:¬ ((body.length:Int) < (body.length:Int)):=by omega
   rw [List.take_length] at HBT
   clear hm HAT
   go_wp2
   go_ret
   exact ⟨_,rfl,HBT.out.ow.mono (Nat.le_succ _),HBT.out.bw⟩
end Go.Proofs.YtcpjiahdaplhlaaGreatDoor
namespace Go.Proofs.YtcpjiahdaplhlaaGreatDoor
open Go.RowKit
attribute [local go_sem ↓] Go.wp_at_zero Go.wp_at_succ
theorem step_terms {ops:Array Oper} {o:Oper} {a:Act} {K:Act -> World -> Prop} {Q:Exit -> Act -> World -> Prop} {E:Prop} {w:World} (hgd:o.guard = none) (s x:Operand)
  (ho:o.op = .call { callee:=.builtin .append,args:=#[s,x],argTypes:=#[40,40] }) (base:Nat) (v:Value) (l:List Tm) (hs:a.eval s = v) (hown:OwnT w base v l)
  (b:Nat) (m:List Tm) (hm:0 < m.length) (hx:a.eval x = .slice (some ⟨b,0,none⟩) m.length m.length) (hy:TRow w b 0 m) (hlen:l.length + m.length <= 4000000000000) (hbase:base <= w.heap.size)
  (h:∀ v' w',OwnT w' base v' (l ++ m) -> Below base w w' -> w.grownBy w' v.ownBlock -> K (a.put o.dst v') w'):if Region.wanted o (yielded ops a.tmps) = true then Oper.wp Tryz.prog o a w K Q else E:=by
 obtain ⟨i0,hi0,hz0,hz1,hz2⟩:=info_parts Tryz.infoTerm
 refine step_append_lies _ hgd s x 40 ho base 39 i0 _ 3 32 Tryz.underlying40 hi0 hz0 hz1 hz2 rfl (by omega) v l.length (tcs l) hs hown ⟨b,0,none⟩ m.length m.length (tcs m) hx (tcs_len m) (trow_get hy) (fun u hu=>tcs_mem hu) hm (by unfold maxLen;omega) (by omega) hbase _ rfl ?_
 intro g cap w' h1 h2 _ _
 refine h _ w' ?_ (grown_below3 h2 (fun k hk=>(World.ownsRow.lt hown k hk).1) hbase) h2
 unfold OwnT
 rw [List.length_append,tcs_app]
 exact h1
theorem row_of {w:World} {b o n cap:Nat} {l:List Tm} (h:TsP w (.slice (some ⟨b,o,none⟩) n cap) l) (hl:0 < l.length):TRow w b o l:=by
 rcases h with ⟨h, -⟩ | ⟨ad,cap',h1,h2⟩
 ·cases h
 ·simp only [Value.slice.injEq,Option.some.injEq] at h1
  obtain ⟨rfl, -, -⟩:=h1
  rcases h2 with rfl | ⟨b',o',h2,h3⟩
  ·simp at hl
  ·cases h2;exact h3
theorem row_two {w:World} {b:Nat} {t u:Tm} (h:CBlk w b #[.int .i64 t.k,.int .i64 t.n,.string t.s,.int .i64 u.k,.int .i64 u.n,.string u.s] 39):TRow w b 0 [t,u]:=row_of (TsP.two h) (by simp)
set_option maxRecDepth 20000 in
set_option maxHeartbeats 4000000 in
theorem testTerms_any (c:Cm) (w:World) (h:c.ok w) (hl:c.tests.length <= 1900000000000) :
  Calls Tryz.prog 103 #[c.v] w fun e w'=>∃ v',e = .returned v' /\ OwnT w' w.heap.size v' (tls c.tests) /\ Below w.heap.size w w':=by
 obtain ⟨⟨a,hn,cap,h1⟩,⟨a',cap',h2⟩,⟨a'',cap'',h3⟩,hbl,htl⟩:=h.shape
 have hB:=h.t
 obtain ⟨⟨⟨⟨k,m,s⟩,nm,ls⟩,hx⟩,body,bv,tests,tv⟩:=c
 simp only at h1 h2 h3 hbl htl hl hB
 subst h1 h2 h3
 obtain ⟨_,_,he, -,hm⟩:=hB
 simp only [Value.slice.injEq,true_and] at he
 obtain ⟨rfl,rfl⟩:=he
 clear h
 have HB0:Hid (BT w _ (Cm.cs ⟨(⟨⟨k,m,s⟩,nm,ls⟩,.slice a hn cap),body,.slice a' body.length cap',tests,.slice a'' tests.length cap''⟩) [] (.slice none 0 0)):=BT.start w (Cm.cs ⟨(⟨⟨k,m,s⟩,nm,ls⟩,.slice a hn cap),body,.slice a' body.length cap',tests,.slice a'' tests.length cap''⟩)
 go_enter Tryz.func103,Tryz.ntmps103
 go_wp2_with fail
 go_loopg [3,4] tests.length (fun g u i wr=>∃ j:Nat,j + g = tests.length /\ i = .int .i64 j /\ BT w wr (Cm.cs ⟨(⟨⟨k,m,s⟩,nm,ls⟩,.slice a hn cap),body,.slice a' body.length cap',tests,.slice a'' tests.length cap''⟩) (tls (tests.take j)) u)
 case atStart=>exact ⟨0,by omega,rfl,HB0.out⟩
 case round=>
  obtain ⟨j,hj,rfl,hbt⟩:=hrel
  have HBT:Hid (BT w wr (Cm.cs ⟨(⟨⟨k,m,s⟩,nm,ls⟩,.slice a hn cap),body,.slice a' body.length cap',tests,.slice a'' tests.length cap''⟩) (tls (tests.take j)) u3):=hbt
  clear hbt HB0
  obtain ⟨c0,c1,c2,c3,c4,c5,c6⟩:=cseven HBT.out.bc
  cases gk with
  | succ g=>
   have hlt:(j:Int) < (tests.length:Int):=by omega
   have j0:(0:Int) <= (j:Int):=by omega
   obtain ⟨x,hx⟩:∃ x,tests[j]? = some x:=⟨_,List.getElem?_eq_getElem (by omega)⟩
   rcases hm with hm | ⟨b1,o1,rfl,hb1,hm⟩
   ·subst hm;simp at hj
   obtain ⟨p0,p1,p2,p3,p4,p5,p6⟩:=hm j x hx
   have HX:Hid (tls (tests.take j) ++ [x.l,x.r] = tls (tests.take (j + 1))):=tls_next hx
   have HLJ:Hid ((tls (tests.take j)).length <= 3800000000000):=by show _ <= _;rw [tls_len,List.length_take];omega
   clear hm hx p0
   obtain ⟨op,⟨lk,ln,lz⟩,⟨rk,rn,rz⟩⟩:=x
   simp only at p1 p2 p3 p4 p5 p6 HX
   generalize tls (tests.take j) = LJ at HBT HX HLJ
   go_wp2_with fail
   clear c0 c1 c2 c3 c4 c5 c6
   have hV0:BT w wr.drew (Cm.cs ⟨(⟨⟨k,m,s⟩,nm,ls⟩,.slice a hn cap),body,.slice a' body.length cap',tests,.slice (some ⟨b1,o1,none⟩) tests.length cap''⟩) LJ u3:=HBT.out.later (Below.refl _ _).drew
   refine wp_region_held_drew (S:=fun w'=>∃ L u,BT w w' (Cm.cs ⟨(⟨⟨k,m,s⟩,nm,ls⟩,.slice a hn cap),body,.slice a' body.length cap',tests,.slice (some ⟨b1,o1,none⟩) tests.length cap''⟩) L u) (by kernel_rfl) ⟨_,_,hV0⟩ (fun hH=>?_)
   revert hH hV0
   generalize wr.drew = V0
   intro hV0 hH
   have HV0:Hid (BT w V0 (Cm.cs ⟨(⟨⟨k,m,s⟩,nm,ls⟩,.slice a hn cap),body,.slice a' body.length cap',tests,.slice (some ⟨b1,o1,none⟩) tests.length cap''⟩) LJ u3):=hV0
   clear hV0 HBT
   refine wTl 0 (u3) rfl (by kernel_rfl) (fun _ _ _ h=>h) rfl (fun w' h=>by clear h;go_simp) hH ?_
   simp only [wA,wB,wC,wD]
   refine wTl 1 (.pointer (some ⟨w.heap.size,6,none⟩)) rfl (by kernel_rfl) (fun _ _ _ h=>h) rfl (fun w' h=>by clear h;go_simp) hH ?_
   simp only [wA,wB,wC,wD]
   refine wTl 2 (.slice (some ⟨b1,o1,none⟩) tests.length cap'') rfl (by kernel_rfl) (fun _ _ _ h=>h) rfl (fun w' h=>by obtain ⟨L,u,h⟩:=h;obtain ⟨c0,c1,c2,c3,c4,c5,c6⟩:=cseven h.bc;clear h;go_simp) hH ?_
   simp only [wA,wB,wC,wD]
   refine wTl 3 (.int .i64 (j:Int)) rfl (by kernel_rfl) (fun _ _ _ h=>h) rfl (fun w' h=>by clear h;go_simp) hH ?_
   simp only [wA,wB,wC,wD]
   refine wTl 4 (.pointer (some ⟨b1,o1 + j * 7,none⟩)) rfl (by kernel_rfl) (fun _ _ _ h=>h) rfl (fun w' h=>by clear h;go_simp) hH ?_
   simp only [wA,wB,wC,wD]
   refine wTl 5 (.pointer (some ⟨b1,o1 + j * 7 + 1,none⟩)) rfl (by kernel_rfl) (fun _ _ _ h=>h) rfl (fun w' h=>by clear h;go_simp) hH ?_
   simp only [wA,wB,wC,wD]
   refine wTl 6 (Tm.v ⟨lk,ln,lz⟩) rfl (by kernel_rfl) (fun _ _ _ h=>h) rfl (fun w' h=>by obtain ⟨L,u,h⟩:=h;have z1:=cell_step h.bw hb1 p1;have z2:=cell_step h.bw hb1 p2;have z3:=cell_step h.bw hb1 p3;clear h;go_simp) hH ?_
   simp only [wA,wB,wC,wD]
   refine wTl 7 (.pointer (some ⟨w.heap.size,6,none⟩)) rfl (by kernel_rfl) (fun _ _ _ h=>h) rfl (fun w' h=>by clear h;go_simp) hH ?_
   simp only [wA,wB,wC,wD]
   refine wTl 8 (.slice (some ⟨b1,o1,none⟩) tests.length cap'') rfl (by kernel_rfl) (fun _ _ _ h=>h) rfl (fun w' h=>by obtain ⟨L,u,h⟩:=h;obtain ⟨c0,c1,c2,c3,c4,c5,c6⟩:=cseven h.bc;clear h;go_simp) hH ?_
   simp only [wA,wB,wC,wD]
   refine wTl 9 (.int .i64 (j:Int)) rfl (by kernel_rfl) (fun _ _ _ h=>h) rfl (fun w' h=>by clear h;go_simp) hH ?_
   simp only [wA,wB,wC,wD]
   refine wTl 10 (.pointer (some ⟨b1,o1 + j * 7,none⟩)) rfl (by kernel_rfl) (fun _ _ _ h=>h) rfl (fun w' h=>by clear h;go_simp) hH ?_
   simp only [wA,wB,wC,wD]
   refine wTl 11 (.pointer (some ⟨b1,o1 + j * 7 + 4,none⟩)) rfl (by kernel_rfl) (fun _ _ _ h=>h) rfl (fun w' h=>by clear h;go_simp) hH ?_
   simp only [wA,wB,wC,wD]
   refine wTl 12 (Tm.v ⟨rk,rn,rz⟩) rfl (by kernel_rfl) (fun _ _ _ h=>h) rfl (fun w' h=>by obtain ⟨L,u,h⟩:=h;have z1:=cell_step h.bw hb1 p4;have z2:=cell_step h.bw hb1 p5;have z3:=cell_step h.bw hb1 p6;clear h;go_simp) hH ?_
   simp only [wA,wB,wC,wD]
   refine wRd 13 (by kernel_rfl) rfl (fun K hK=>?_)
   go_simp
   have HV1:Hid (BT w (V0.alloc (.cells #[.int .i64 lk,.int .i64 ln,.string lz,.int .i64 rk,.int .i64 rn,.string rz] 39)) (Cm.cs ⟨(⟨⟨k,m,s⟩,nm,ls⟩,.slice a hn cap),body,.slice a' body.length cap',tests,.slice (some ⟨b1,o1,none⟩) tests.length cap''⟩) LJ u3):=HV0.out.later (below1 _ _)
   have HG1:Hid (CBlk (V0.alloc (.cells #[.int .i64 lk,.int .i64 ln,.string lz,.int .i64 rk,.int .i64 rn,.string rz] 39)) V0.heap.size #[.int .i64 lk,.int .i64 ln,.string lz,.int .i64 rk,.int .i64 rn,.string rz] 39):=CBlk.new _ _ _
   clear hH
   refine hK.out _ _ ⟨_,_,HV1.out⟩ (fun hH=>?_)
   clear hK K HV0
   revert hH HV1 HG1
   generalize V0.alloc (.cells #[.int .i64 lk,.int .i64 ln,.string lz,.int .i64 rk,.int .i64 rn,.string rz] 39) = V1
   generalize V0.heap.size = G1
   intro HV1 HG1 hH
   refine wRd 14 (by kernel_rfl) rfl (fun K hK=>?_)
   refine step_terms rfl _ _ rfl (w.heap.size + 1) u3 LJ (by rfl) HV1.out.ow G1 [⟨lk,ln,lz⟩,⟨rk,rn,rz⟩] (by simp) (by rfl) (row_two HG1.out) (by have:=HLJ.out;simp only [List.length_cons,List.length_nil];omega) HV1.out.sz ?_
   intro v' w3 hown hb3 hg3
   have HB2:Hid (BT w w3 (Cm.cs ⟨(⟨⟨k,m,s⟩,nm,ls⟩,.slice a hn cap),body,.slice a' body.length cap',tests,.slice (some ⟨b1,o1,none⟩) tests.length cap''⟩) (LJ ++ [⟨lk,ln,lz⟩,⟨rk,rn,rz⟩]) v'):=HV1.out.grow hb3 hown
   clear hown hb3 hg3 HV1 HG1 hH
   refine hK.out _ _ ⟨_,_,HB2.out⟩ (fun hH=>?_)
   clear hK K
   simp only [wA,wB,wC,wD]
   refine wTl 15 (v') rfl (by kernel_rfl) (fun _ _ _ h=>h) rfl (fun w' h=>by clear h;go_simp) hH ?_
   simp only [wA,wB,wC,wD]
   refine wpAnyH_done (by kernel_rfl) ?_ _
   clear hH
   go_wp2
   go_roundg g
   case measure=>omega
   case rel=>exact ⟨j + 1,by omega,by go_num,by rw [<- HX.out];exact HB2.out⟩
  | zero=>
   obtain rfl:j = tests.length:=by omega
   have hz:¬ ((tests.length:Int) < (tests.length:Int)):=by omega
   rw [List.take_length] at HBT
   clear hm
   go_wp2
   go_ret
   exact ⟨_,rfl,HBT.out.ow.mono (Nat.le_succ _),HBT.out.bw⟩
set_option maxRecDepth 20000 in
set_option maxHeartbeats 4000000 in
theorem terms3_any (c:Cm) (w:World) (h:c.ok w) (hh:TsP w c.head.2 c.head.1.args) (hp:∀ x ∈ c.body,TsP w x.2 x.1.args) (hl:c.terms.length <= 3800000000000) :
  Calls Tryz.prog 106 #[c.v] w fun e w'=>∃ v',e = .returned v' /\ OwnT w' w.heap.size v' c.terms /\ Below w.heap.size w w':=by
 obtain ⟨⟨a,hn,cap,h1⟩,⟨a',cap',h2⟩,⟨a'',cap'',h3⟩,hbl,htl⟩:=h.shape
 have hll:c.head.1.pl.length + (flt c.body).length + (tls c.tests).length <= 3800000000000:=by
  rw [Cm.terms_eq,List.length_append,List.length_append] at hl;omega
 have HHD:Hid (∀ X:World,Below w.heap.size w X -> Calls Tryz.prog 102 #[c.head.1.v c.head.2] X fun e w'=>∃ v',e = .returned v' /\ OwnT w' X.heap.size v' c.head.1.pl /\ Below X.heap.size X w'):=fun X hX=>atomTerms_any _ _ X (hh.later hX) (by simp [At.pl] at hll;omega)
 have HBO:Hid (∀ X:World,Below w.heap.size w X -> Calls Tryz.prog 101 #[c.v] X fun e w'=>∃ v',e = .returned v' /\ OwnT w' X.heap.size v' (flt c.body) /\ Below X.heap.size X w'):=fun X hX=>bodyTerms_any c X (h.later hX) (fun x hx=>(hp x hx).later hX) (by omega)
 have HTE:Hid (∀ X:World,Below w.heap.size w X -> Calls Tryz.prog 103 #[c.v] X fun e w'=>∃ v',e = .returned v' /\ OwnT w' X.heap.size v' (tls c.tests) /\ Below X.heap.size X w'):=fun X hX=>testTerms_any c X (h.later hX) (by rw [tls_len] at hll;omega)
 have HEQ:Hid (c.head.1.pl ++ flt c.body ++ tls c.tests = c.terms):=c.terms_eq.symm
 have HB0:Hid (BT w _ c.cs [] (.slice none 0 0)):=BT.start w c.cs
 generalize c.terms = TT at HEQ
 obtain ⟨⟨⟨⟨k,m,s⟩,nm,ls⟩,hx⟩,body,bv,tests,tv⟩:=c
 simp only at h1 h2 h3 hbl htl hll HHD HEQ
 subst h1 h2 h3
 generalize At.pl ⟨⟨k,m,s⟩,nm,ls⟩ = PH at HHD HEQ hll
 generalize flt body = PB at HBO HEQ hll
 generalize tls tests = PT at HTE HEQ hll
 clear h hh hp hl
 go_enter Tryz.func106,Tryz.ntmps106
 go_upto_region 2 with (go_at_call 102;refine (HHD.out _ HB0.out.bw).mono ?_;clear HHD;rintro e w1 ⟨y,rfl,hy,hb⟩;have HB1:Hid (BT w w1 (Cm.cs ⟨(⟨⟨k,m,s⟩,nm,ls⟩,.slice a hn cap),body,.slice a' body.length cap',tests,.slice a'' tests.length cap''⟩) PH y):=⟨HB0.out.bc.later hb,hy.mono HB0.out.sz,below_step HB0.out.bw hb,Nat.le_trans HB0.out.sz hb.size⟩;clear hb hy HB0)
 obtain ⟨c0,c1,c2,c3,c4,c5,c6⟩:=cseven HB1.out.bc
 go_upto_region 3 with (first
  | (go_at_call 101;refine (HBO.out _ HB1.out.bw).mono ?_;clear HBO;rintro e w2 ⟨z,rfl,hz,hb⟩;have HZ:Hid (TsP w2 z PB):=hz.tsP;have HB2:Hid (BT w w2 (Cm.cs ⟨(⟨⟨k,m,s⟩,nm,ls⟩,.slice a hn cap),body,.slice a' body.length cap',tests,.slice a'' tests.length cap''⟩) PH y):=HB1.out.later hb;clear hb hz HB1 c0 c1 c2 c3 c4 c5 c6)
  | (at_builtin;refine app_terms rfl _ _ rfl (w.heap.size + 1) y PH (by rfl) HB2.out.ow z PB (by rfl) HZ.out (by omega) HB2.out.sz ?_;intro y2 w3 hown hb3 hg3;have HB3:Hid (BT w w3 (Cm.cs ⟨(⟨⟨k,m,s⟩,nm,ls⟩,.slice a hn cap),body,.slice a' body.length cap',tests,.slice a'' tests.length cap''⟩) (PH ++ PB) y2):=HB2.out.grow hb3 hown;clear hown hb3 hg3 HB2 HZ))
 obtain ⟨c0,c1,c2,c3,c4,c5,c6⟩:=cseven HB3.out.bc
 go_wp2_with (first
  | (go_at_call 103;refine (HTE.out _ HB3.out.bw).mono ?_;clear HTE;rintro e w4 ⟨z,rfl,hz,hb⟩;have HZ:Hid (TsP w4 z PT):=hz.tsP;have HB4:Hid (BT w w4 (Cm.cs ⟨(⟨⟨k,m,s⟩,nm,ls⟩,.slice a hn cap),body,.slice a' body.length cap',tests,.slice a'' tests.length cap''⟩) (PH ++ PB) y2):=HB3.out.later hb;clear hb hz HB3 c0 c1 c2 c3 c4 c5 c6)
  | (at_builtin;refine app_terms rfl _ _ rfl (w.heap.size + 1) y2 (PH ++ PB) (by rfl) HB4.out.ow z PT (by rfl) HZ.out (by rw [List.length_append];omega) HB4.out.sz ?_;intro y3 w5 hown hb3 hg3;have HB5:Hid (BT w w5 (Cm.cs ⟨(⟨⟨k,m,s⟩,nm,ls⟩,.slice a hn cap),body,.slice a' body.length cap',tests,.slice a'' tests.length cap''⟩) (PH ++ PB ++ PT) y3):=HB4.out.grow hb3 hown;clear hown hb3 hg3 HB4 HZ))
 go_ret
 exact ⟨_,rfl,by rw [<- HEQ.out];exact HB5.out.ow.mono (Nat.le_succ _),HB5.out.bw⟩
end Go.Proofs.YtcpjiahdaplhlaaGreatDoor

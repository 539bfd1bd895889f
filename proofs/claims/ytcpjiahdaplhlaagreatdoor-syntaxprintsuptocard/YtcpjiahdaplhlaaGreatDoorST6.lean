import Derived.Test.YtcpjiahdaplhlaaGreatDoorSB2
import Derived.Test.YtcpjiahdaplhlaaGreatDoorK37
import Derived.Test.YtcpjiahdaplhlaaGreatDoorK24B
import Derived.Laws.AppendOwnNone
import Derived.Laws.AppendOwn
import Derived.Test.YtcpjiahdaplhlaaGreatDoorSY25
import Derived.Test.YtcpjiahdaplhlaaGreatDoorShelf3
import Derived.Test.YtcpjiahdaplhlaaGreatDoorL1
import Derived.Test.YtcpjiahdaplhlaaGreatDoorB2
import Derived.Deep.RegionHeld3
import Derived.Maps.AppendAt
import Derived.Laws.OwnMore
import Derived.Test.YtcpjiahdaplhlaaGreatDoorSY7
import Derived.Test.YtcpjiahdaplhlaaGreatDoorSY1
import Derived.BigQuiet
namespace Go.Proofs.YtcpjiahdaplhlaaGreatDoor
open Go.RowKit
def vq5 (t:Tk):Prop:=t.k = 2 /\ t.x ≠ us5
instance (t:Tk):Decidable (vq5 t):=by unfold vq5;exact inferInstance
end Go.Proofs.YtcpjiahdaplhlaaGreatDoor
namespace Go.Proofs.YtcpjiahdaplhlaaGreatDoor
open Go.RowKit
attribute [local go_sem ↓] Go.wp_at_zero Go.wp_at_succ
theorem neq_ft0 (w:World):(binOp .neq 26 (.agg #[.int .i64 0,.int .i64 0]) (.agg #[.int .i64 0,.int .i64 0])).run Tryz.prog w = .ok (.bool false) w:=by kernel_rfl
theorem first_pg:∃ a b:Ck,pg5 fT1 1048576 = .ok [a,b] /\ a.2.1.length = 1 /\ b.2.2.length = 1 /\ pc5 b = fT2 /\ (∀ t ∈ Ck.terms b,N64 t.n) /\ (Ck.terms b).length <= 100:=by
 have h:=okF_yes
 unfold okF at h
 split at h
 ·rename_i a b e
  obtain ⟨h1,h2,h3,h4,h5⟩:=of_decide_eq_true h
  exact ⟨a,b,e,h1,h2,h3,h4,h5⟩
 ·cases h
theorem n64_wf {n:Int} (h:N64 n):(Lit.int .i64 n).wf = true:=by
 obtain ⟨h1,h2⟩:=h
 simp only [Lit.wf,IntKind.min,IntKind.max,Bool.and_eq_true]
 constructor <;> simp [IntKind.signed,IntKind.bits] <;> omega
theorem cc5_get:∀ {l:List Cm} {j:Nat} {c:Cm},l[j]? = some c -> ∀ i u,(cc5 c)[i]? = some u -> i < 7 -> (l.flatMap cc5)[j * 7 + i]? = some u
 | [],j,t,h,i,u,hu,hi=>by simp at h
 | y :: l,0,t,h,i,u,hu,hi=>by
  simp only [List.getElem?_cons_zero,Option.some.injEq] at h
  subst h
  rw [List.flatMap_cons,Nat.zero_mul,Nat.zero_add,List.getElem?_append_left (by simpa [cc5] using hi)]
  exact hu
 | y :: l,j + 1,t,h,i,u,hu,hi=>by
  rw [List.getElem?_cons_succ] at h
  have ih:=cc5_get h i u hu hi
  rw [List.flatMap_cons,List.getElem?_append_right (by simp [cc5];omega),show (j + 1) * 7 + i - (cc5 y).length = j * 7 + i by simp [cc5];omega]
  exact ih
set_option maxRecDepth 20000 in
set_option maxHeartbeats 4000000 in
theorem first5_any (w:World) (hE:EnvOk w) (hO:OpsOk w) :
  Calls Tryz.prog 8 #[] w fun e w'=>e = .returned (.bool true) /\ Below w.heap.size w w':=by
 obtain ⟨ka,kb,hpg,hla,hlb,hpc,hnb,hlen⟩:=first_pg
 have HPG:=hm7 (program_any fT1 (by decide) w hE hO)
 rw [hpg] at HPG
 have HE:=hm7 hE
 have HO:=hm7 hO
 unfold fT1 at HPG
 clear hpg hE hO
 have hnq:=neq_ft0
 go_enter Tryz.func8,Tryz.ntmps8
 go_upto_region 2 with (go_at_call 11;refine HPG.out.mono ?_;rintro e W1 ⟨hb,v,c,a,rfl,rfl,rfl,l,hk,hrl⟩;have hl2:l.length = 2:=(by have:=congrArg List.length hk;simpa using this);obtain ⟨vg,vc,hvf⟩:=row5_pos hrl.o (by omega);rw [hl2] at hvf;subst hvf;have HK:=hm7 hk;have HRL:=hm7 hrl;have HB1:=hm7 hb;have HL2:=hm7 hl2;clear hb hk hrl hl2)
 obtain ⟨d,e,hde⟩:∃ d e,l = [d,e]:=by
  match l,HL2.out with
  | [d,e],_=>exact ⟨d,e,rfl⟩
 subst hde
 have hkd:d.key = ka /\ e.key = kb:=by
  have:=HK.out
  simp only [List.map_cons,List.map_nil,List.cons.injEq,and_true] at this
  exact this
 have hod:=(HRL.out.k d (by simp)).ok
 have hoe:=(HRL.out.k e (by simp)).ok
 have hdl:d.body.length = 1:=by rw [(key_len d).1,hkd.1];exact hla
 have hel:e.tests.length = 1:=by rw [(key_len e).2,hkd.2];exact hlb
 have HPR:Hid (∀ X:World,Below W1.heap.size W1 X -> Calls Tryz.prog 24 #[e.v] X fun e w'=>e = .returned (.string fT2) /\ Below X.heap.size X w'):=fun X hX=>by
  have:=print5_any e X (hoe.later hX) ⟨fun t ht _=>n64_wf (hnb t (by rw [key_terms,hkd.2] at ht;exact ht)),by rw [key_terms,hkd.2];omega⟩ (fun t ht=>hnb t (by rw [key_terms,hkd.2] at ht;exact ht)) (HE.out.later (HB1.out.trans (hX.mono HB1.out.size))) (HO.out.fr (P:=fun _=>False) (Fr.of (HB1.out.trans (hX.mono HB1.out.size))) fun h=>h)
  rw [hkd.2,hpc] at this
  exact this
 obtain ⟨-,⟨db,dbc,edb⟩,⟨dt,dtc,edt⟩, -, -⟩:=hod.shape
 obtain ⟨⟨eh,ehn,ehc,eeh⟩,⟨eb,ebc,eeb⟩,⟨et,etc',eet⟩, -, -⟩:=hoe.shape
 rw [hdl] at edb
 rw [hel] at eet
 have HRO:Hid (W1.ownsRow 0 53 7 (.slice (some ⟨vg,0,none⟩) 2 vc) 2 ([d,e].flatMap cc5)):=HRL.out.o
 have q5:=row5_cell HRO.out (cc5_get (l:=[d,e]) (j:=0) rfl 5 d.bv rfl (by omega))
 have p0:=row5_cell HRO.out (cc5_get (l:=[d,e]) (j:=1) rfl 0 _ rfl (by omega))
 have p1:=row5_cell HRO.out (cc5_get (l:=[d,e]) (j:=1) rfl 1 _ rfl (by omega))
 have p2:=row5_cell HRO.out (cc5_get (l:=[d,e]) (j:=1) rfl 2 _ rfl (by omega))
 have p3:=row5_cell HRO.out (cc5_get (l:=[d,e]) (j:=1) rfl 3 _ rfl (by omega))
 have p4:=row5_cell HRO.out (cc5_get (l:=[d,e]) (j:=1) rfl 4 _ rfl (by omega))
 have p5:=row5_cell HRO.out (cc5_get (l:=[d,e]) (j:=1) rfl 5 _ rfl (by omega))
 have p6:=row5_cell HRO.out (cc5_get (l:=[d,e]) (j:=1) rfl 6 _ rfl (by omega))
 rw [edb] at q5
 obtain ⟨⟨⟨⟨hk1,hn1,hs1⟩,hm1,ha1⟩,hv1⟩,body1,bv1,tests1,tv1⟩:=e
 dsimp only at eeh eeb eet HPR p0 p1 p2 p3 p4 p5 p6
 generalize body1.length = bl1 at eeb
 subst eeh
 subst eeb
 subst eet
 simp only [Nat.zero_mul,Nat.one_mul,Nat.zero_add,Nat.add_zero] at q5 p0 p1 p2 p3 p4 p5 p6
 have hvg:=(World.ownsRow.lt HRO.out vg rfl).2
 have HB2:=hm7 (below1 W1 (.cells #[.int .i64 0,.int .i64 0] 26))
 have HFX:=hm7 (Bk.new W1 #[.int .i64 0,.int .i64 0] 26)
 unfold fT2 at HPR
 clear hla hlb hpc hnb hlen hkd hod hoe hdl hel HK edt HPG
 have x0:=HFX.out.cell (i:=0) rfl
 have x1:=HFX.out.cell (i:=1) rfl
 go_upto_region 4 with fail
 go_wp2_with (go_at_call 24;refine (HPR.out _ HB2.out).mono ?_;rintro e w3 ⟨rfl,hb⟩;have HB3:=hm7 (HB1.out.trans ((HB2.out.trans (hb.mono HB2.out.size)).mono HB1.out.size));clear hb)
 go_ret
 exact ⟨rfl,HB3.out⟩
end Go.Proofs.YtcpjiahdaplhlaaGreatDoor
namespace Go.Proofs.YtcpjiahdaplhlaaGreatDoor
open Go.RowKit
attribute [local go_sem ↓] Go.wp_at_zero Go.wp_at_succ
theorem terms5_any (a b:List Tm) (x y:Value) (w:World) (h:Ts w x a) (h':Ts w y b) :
  Calls Tryz.prog 43 #[x,y] w fun e w'=>e = .returned (.bool (decide (a = b))) /\ Below w.heap.size w w':=by
 obtain ⟨ad,cap,rfl,hl,h⟩:=h
 obtain ⟨ad',cap',rfl,hl',h'⟩:=h'
 by_cases e2:a.length = b.length
 ·have hq2:((a.length:Int) == (b.length:Int)) = true:=by simp;omega
  have E2:Hid (a.length = b.length):=e2
  clear e2
  go_enter Tryz.func43,Tryz.ntmps43
  go_wp2
  go_loopg [5] a.length (fun g i wr=>∃ j:Nat,j + g = a.length /\ i = .int .i64 j /\ (a = b ↔ a.drop j = b.drop j) /\ Below w.heap.size w wr)
  case atStart=>exact ⟨0,by omega,rfl,by simp,Below.refl _ _⟩
  case round=>
   obtain ⟨j,hj,rfl,hgo,hb⟩:=hrel
   have HG:Hid (a = b ↔ a.drop j = b.drop j):=hgo
   clear hgo
   cases gk with
   | succ g=>
    have hlt:(j:Int) < (a.length:Int):=by omega
    have hlt':(j:Int) < (b.length:Int):=by have:=E2.out;omega
    have j0:(0:Int) <= (j:Int):=by omega
    obtain ⟨t,ht⟩:∃ t,a[j]? = some t:=⟨_,List.getElem?_eq_getElem (by omega)⟩
    obtain ⟨u,hu⟩:∃ u,b[j]? = some u:=⟨_,List.getElem?_eq_getElem (by omega)⟩
    have HS:Hid ((a = b) ↔ (t = u /\ a.drop (j + 1) = b.drop (j + 1))):=HG.out.trans (drop_eq_step a b j t u ht hu)
    rcases h with h | ⟨b1,o1,rfl,hb1,h⟩
    ·subst h;simp at hj
    rcases h' with h' | ⟨b2,o2,rfl,hb2,h'⟩
    ·subst h';simp at hu
    obtain ⟨p0,p1,p2⟩:=h j t ht
    obtain ⟨q0,q1,q2⟩:=h' j u hu
    rw [<- hb.cell (p:=⟨b1,_,none⟩) hb1] at p0 p1 p2
    rw [<- hb.cell (p:=⟨b2,_,none⟩) hb2] at q0 q1 q2
    have he:=run_neq_tm t u
    clear h h' ht hu
    obtain ⟨tk,tn,ts⟩:=t
    obtain ⟨uk,un,us⟩:=u
    simp only at p0 p1 p2 q0 q1 q2
    by_cases htu:Tm.mk tk tn ts = ⟨uk,un,us⟩
    ·have HS2:Hid (a = b ↔ a.drop (j + 1) = b.drop (j + 1)):=by
      have:=HS.out;show a = b ↔ _;simpa [htu] using this
     rw [decide_eq_true htu] at he
     clear htu
     go_wp2
     go_quiet (fail)
     go_wp2
     go_roundg g
     case measure=>omega
     case rel=>exact ⟨j + 1,by omega,by go_num,HS2.out,below_drewN hb _⟩
    ·have HS2:Hid (decide (a = b) = false):=decide_eq_false fun e=>htu (HS.out.1 e).1
     rw [decide_eq_false htu] at he
     clear htu
     go_wp2
     go_quiet (fail)
     go_wp2
     go_ret
     exact ⟨ret_b HS2.out.symm,below_drewN hb _⟩
   | zero=>
    have hlt:¬ (j:Int) < (a.length:Int):=by omega
    have HS2:Hid (decide (a = b) = true):=decide_eq_true (HG.out.2 (by rw [List.drop_eq_nil_of_le (by omega),List.drop_eq_nil_of_le (by have:=E2.out;omega)]))
    clear hj h h'
    go_wp2
    go_ret
    exact ⟨ret_b HS2.out.symm,hb⟩
 ·have hq2:((a.length:Int) == (b.length:Int)) = false:=by simp;omega
  have HS2:Hid (decide (a = b) = false):=decide_eq_false fun e=>e2 (by rw [e])
  clear e2 h h'
  go_enter Tryz.func43,Tryz.ntmps43
  go_wp2
  go_ret
  exact ⟨ret_b HS2.out.symm,Below.refl _ _⟩
set_option maxHeartbeats 1000000 in
theorem atoms5_any (a b:At) (x y:Value) (w:World) (h:Ts w x a.args) (h':Ts w y b.args) :
  Calls Tryz.prog 15 #[a.v x,b.v y] w fun e w'=>e = .returned (.bool (decide (a = b))) /\ Below w.heap.size w w':=by
 obtain ⟨⟨k,n,s⟩,nm,l⟩:=a
 obtain ⟨⟨k',n',s'⟩,nm',l'⟩:=b
 have HX:Hid (Ts w x l):=h
 have HY:Hid (Ts w y l'):=h'
 obtain ⟨r,hr⟩:∃ r,decide (At.mk ⟨k,n,s⟩ nm l = At.mk ⟨k',n',s'⟩ nm' l') = r:=⟨_,rfl⟩
 rw [hr]
 have HR:Hid ((decide (nm.toList = nm'.toList) && (decide (Tm.mk k n s = ⟨k',n',s'⟩) && decide (l = l'))) = r):=by
  show _ = r
  rw [<- hr,Bool.eq_iff_iff]
  simp only [Bool.and_eq_true,decide_eq_true_eq,At.mk.injEq]
  exact ⟨fun ⟨p,q,r⟩=>⟨q,toList_inj p,r⟩,fun ⟨p,q,r⟩=>⟨by rw [q],p,r⟩⟩
 clear h h' hr
 have he:=run_eql_tm ⟨k,n,s⟩ ⟨k',n',s'⟩
 by_cases e1:nm.toList = nm'.toList
 ·have hq1:(nm.toList == nm'.toList) = true:=by simpa using e1
  by_cases e2:Tm.mk k n s = ⟨k',n',s'⟩
  ·have HR2:Hid (decide (l = l') = r):=by show _ = r;rw [<- HR.out];simp [e1,e2]
   rw [decide_eq_true e2] at he
   clear e1 e2 HR
   go_enter Tryz.func15,Tryz.ntmps15
   go_wp2_with (go_at_call 43;refine (terms5_any l l' x y _ (HX.out.later (below2 _ _ _)) (HY.out.later (below2 _ _ _))).mono ?_;rw [HR2.out];rintro e w1 ⟨rfl,hb1⟩)
   go_ret
   exact ⟨rfl,below_step (below2 _ _ _) hb1⟩
  ·have HR2:Hid (false = r):=by show false = r;rw [<- HR.out];simp [e2]
   rw [decide_eq_false e2] at he
   clear e1 e2 HR
   go_enter Tryz.func15,Tryz.ntmps15
   go_wp2
   go_ret
   exact ⟨ret_b HR2.out,below2 _ _ _⟩
 ·have HR2:Hid (false = r):=by show false = r;rw [<- HR.out];simp [e1]
  have hq1:(nm.toList == nm'.toList) = false:=by simpa using e1
  clear e1 HR he
  go_enter Tryz.func15,Tryz.ntmps15
  go_wp2
  go_ret
  exact ⟨ret_b HR2.out,below2 _ _ _⟩
theorem As.get5 {w:World} {a:Option Addr} {n cap j:Nat} {l:List (At × Value)} (h:As w (.slice a n cap) l) (hj:j < n) :
  ∃ (b o:Nat) (t:At × Value),a = some ⟨b,o,none⟩ /\ l[j]? = some t /\ b < w.heap.size /\ (w.cell? ⟨b,o + j * 5,none⟩ = some (.int .i64 t.1.by_.k) /\ w.cell? ⟨b,o + j * 5 + 1,none⟩ = some (.int .i64 t.1.by_.n) /\ w.cell? ⟨b,o + j * 5 + 2,none⟩ = some (.string t.1.by_.s) /\ w.cell? ⟨b,o + j * 5 + 3,none⟩ = some (.string t.1.name) /\ w.cell? ⟨b,o + j * 5 + 4,none⟩ = some t.2) /\ Ts w t.2 t.1.args:=by
 obtain ⟨a',cap',e,hl,hm,ht⟩:=h
 simp only [Value.slice.injEq] at e
 obtain ⟨rfl,rfl,rfl⟩:=e
 obtain ⟨t,htj⟩:∃ t,l[j]? = some t:=⟨_,List.getElem?_eq_getElem hj⟩
 rcases hm with rfl | ⟨b,o,rfl,hr⟩
 ·simp at hj
 ·exact ⟨b,o,t,rfl,htj,hr.1,hr.2 j t htj,ht t (List.mem_of_getElem? htj)⟩
theorem Es.get5 {w:World} {a:Option Addr} {n cap j:Nat} {l:List Te} (h:Es w (.slice a n cap) l) (hj:j < n) :
  ∃ (b o:Nat) (t:Te),a = some ⟨b,o,none⟩ /\ l[j]? = some t /\ b < w.heap.size /\ w.cell? ⟨b,o + j * 7,none⟩ = some (.int .i64 t.op) /\ w.cell? ⟨b,o + j * 7 + 1,none⟩ = some (.int .i64 t.l.k) /\ w.cell? ⟨b,o + j * 7 + 2,none⟩ = some (.int .i64 t.l.n) /\ w.cell? ⟨b,o + j * 7 + 3,none⟩ = some (.string t.l.s) /\ w.cell? ⟨b,o + j * 7 + 4,none⟩ = some (.int .i64 t.r.k) /\ w.cell? ⟨b,o + j * 7 + 5,none⟩ = some (.int .i64 t.r.n) /\ w.cell? ⟨b,o + j * 7 + 6,none⟩ = some (.string t.r.s):=by
 obtain ⟨a',cap',e,hl,hm⟩:=h
 simp only [Value.slice.injEq] at e
 obtain ⟨rfl,rfl,rfl⟩:=e
 obtain ⟨t,htj⟩:∃ t,l[j]? = some t:=⟨_,List.getElem?_eq_getElem hj⟩
 rcases hm with rfl | ⟨b,o,rfl,hr⟩
 ·simp at hj
 ·exact ⟨b,o,t,rfl,htj,hr.1,hr.2 j t htj⟩
end Go.Proofs.YtcpjiahdaplhlaaGreatDoor
namespace Go.Proofs.YtcpjiahdaplhlaaGreatDoor
open Go.RowKit
attribute [local go_sem ↓] Go.wp_at_zero Go.wp_at_succ
theorem te_neq5 (t:Te) (w:World):(binOp .neq 85 t.v t.v).run Tryz.prog w = .ok (.bool false) w:=by
 have:=run_neq_te t t w
 rw [decide_eq_true rfl] at this
 exact this
theorem box5 {w g b:World} {c d:Array Value} {t u:TypeId} (hb:Below ((w.alloc (.cells c t)).alloc (.cells d u)).heap.size ((w.alloc (.cells c t)).alloc (.cells d u)) g) (_:b = b):Hid (w.heap.size < g.heap.size /\ w.heap.size + 1 < g.heap.size):=by
 have:=hb.size
 simp at this
 exact ⟨by omega,by omega⟩
set_option maxRecDepth 20000 in
set_option maxHeartbeats 4000000 in
theorem clauses5_any (c d:Cm) (w:World) (hc:c.ok w) (hd:d.ok w) (hk:c.key = d.key):Calls Tryz.prog 33 #[c.v,d.v] w fun e w'=>e = .returned (.bool true) /\ Below w.heap.size w w':=by
 obtain ⟨⟨a1,n1,cap1,x1⟩,⟨a2,cap2,x2⟩,⟨a3,cap3,x3⟩,l1,l2⟩:=hc.shape
 obtain ⟨⟨b1,m1,bap1,y1⟩,⟨b2,bap2,y2⟩,⟨b3,bap3,y3⟩, -, -⟩:=hd.shape
 have e1:c.head.1 = d.head.1:=show c.key.1 = d.key.1 by rw [hk]
 have e2:fsts c.body = fsts d.body:=show c.key.2.1 = d.key.2.1 by rw [hk]
 have e3:c.tests = d.tests:=show c.key.2.2 = d.key.2.2 by rw [hk]
 have e4:d.body.length = c.body.length:=by have:=congrArg List.length e2;simpa [fsts] using this.symm
 rw [e4] at y2
 rw [<- e3] at y3
 have hb2:=below2 w (.cells c.cs 53) (.cells d.cs 53)
 have K1:=fun (X:World) (hX:Below ((w.alloc (.cells c.cs 53)).alloc (.cells d.cs 53)).heap.size ((w.alloc (.cells c.cs 53)).alloc (.cells d.cs 53)) X)=>atoms5_any c.head.1 d.head.1 c.head.2 d.head.2 X (hc.h.later (below_step hb2 hX)) (hd.h.later (below_step hb2 hX))
 rw [decide_eq_true e1] at K1
 have HC2:Hid (As w c.bv c.body):=hc.b
 have HD2:Hid (As w d.bv d.body):=hd.b
 have HC3:Hid (Es w c.tv c.tests):=hc.t
 have HD3:Hid (Es w d.tv c.tests):=e3 ▸ hd.t
 have HFE:Hid (fsts c.body = fsts d.body):=e2
 clear hk e1 e2 e3 e4 hb2 hc hd
 obtain ⟨⟨⟨⟨k,m,s⟩,nm,ls⟩,hx⟩,body,bv,tests,tv⟩:=c
 obtain ⟨⟨⟨⟨k',m',s'⟩,nm',ls'⟩,hx'⟩,body',bv',tests',tv'⟩:=d
 simp only at x1 x2 x3 y1 y2 y3 K1 l1 l2 HC2 HD2 HC3 HD3 HFE
 obtain ⟨n,hn⟩:∃ n,body.length = n:=⟨_,rfl⟩
 obtain ⟨r,hr⟩:∃ r,tests.length = r:=⟨_,rfl⟩
 rw [hn] at x2 y2 l1
 rw [hr] at x3 y3 l2
 subst x1 x2 x3 y1 y2 y3
 have HK1:=hm7 (K1 _ (Below.refl _ _))
 have HHN:Hid (body.length = n /\ tests.length = r):=⟨hn,hr⟩
 clear K1 hn hr
 go_enter Tryz.func33,Tryz.ntmps33
 go_wp2_with (go_at_call 15;refine HK1.out.mono ?_;clear HK1;rintro e w1 ⟨rfl,hb⟩;have HB1:Hid (Below _ _ w1):=hb;clear hb;obtain ⟨p0,p1,p2,p3,p4,p5,p6⟩:=cseven (two_boxes HB1.out).1;obtain ⟨q0,q1,q2,q3,q4,q5,q6⟩:=cseven (two_boxes HB1.out).2)
 clear p0 p1 p2 p3 p4 p5 p6 q0 q1 q2 q3 q4 q5 q6
 go_loopg [5] n (fun g i wr=>∃ j:Nat,j + g = n /\ i = .int .i64 j /\ Below ((w.alloc (.cells #[.int .i64 k,.int .i64 m,.string s,.string nm,.slice a1 n1 cap1,.slice a2 n cap2,.slice a3 r cap3] 53)).alloc (.cells #[.int .i64 k',.int .i64 m',.string s',.string nm',.slice b1 m1 bap1,.slice b2 n bap2,.slice b3 r bap3] 53)).heap.size ((w.alloc (.cells #[.int .i64 k,.int .i64 m,.string s,.string nm,.slice a1 n1 cap1,.slice a2 n cap2,.slice a3 r cap3] 53)).alloc (.cells #[.int .i64 k',.int .i64 m',.string s',.string nm',.slice b1 m1 bap1,.slice b2 n bap2,.slice b3 r bap3] 53)) wr)
 case atStart=>exact ⟨0,by omega,rfl,HB1.out⟩
 case round=>
  obtain ⟨j,hj,rfl,hb⟩:=hrel
  have HB:Hid (Below _ _ wr):=hb
  have HW:Hid (Below w.heap.size w wr):=below_step (below2 w _ _) hb
  have hbx:=cseven (two_boxes hb).1
  have hby:=cseven (two_boxes hb).2
  have hzz:=box5 hb (rfl:w = w)
  clear hb HB1
  cases gk with
  | succ g=>
   have i0:(0:Int) <= (j:Int):=by omega
   have i1:(j:Int) < (n:Int):=by omega
   obtain ⟨b1,o1,t,ea1,ht,hz1,hce,hxt⟩:=(HC2.out.later HW.out).get5 (j:=j) (by omega)
   obtain ⟨b2,o2,u,ea2,hu,hz2,hcd,hyt⟩:=(HD2.out.later HW.out).get5 (j:=j) (by omega)
   subst ea1 ea2
   have htu:t.1 = u.1:=by
    have h1:(fsts body)[j]? = some t.1:=by unfold fsts;rw [List.getElem?_map,ht];rfl
    have h2:(fsts body')[j]? = some u.1:=by unfold fsts;rw [List.getElem?_map,hu];rfl
    rw [HFE.out,h2] at h1
    exact (Option.some.inj h1).symm
   have HC0:=fun (X:World) (hX:Below wr.heap.size wr X)=>atoms5_any t.1 u.1 t.2 u.2 X (hxt.later hX) (hyt.later hX)
   rw [decide_eq_true htu] at HC0
   obtain ⟨ax,cx,hax, -⟩:=hxt
   obtain ⟨ay,cy,hay, -⟩:=hyt
   have HZ1:Hid (b1 < wr.heap.size):=hz1
   have HZ2:Hid (b2 < wr.heap.size):=hz2
   obtain ⟨⟨⟨kx,mx,sx⟩,nx,lx⟩,vx⟩:=t
   obtain ⟨⟨⟨ky,my,sy⟩,ny,ly⟩,vy⟩:=u
   simp only at hax hay hce hcd HC0
   generalize lx.length = lx at hax
   generalize ly.length = ly at hay
   subst hax hay
   have HE:Hid _:=hce
   have HD:Hid _:=hcd
   have HP5:Hid (wr.cell? ⟨w.heap.size,5,none⟩ = some (.slice (some ⟨b1,o1,none⟩) n cap2)):=hbx.2.2.2.2.2.1
   have HQ5:Hid (wr.cell? ⟨w.heap.size + 1,5,none⟩ = some (.slice (some ⟨b2,o2,none⟩) n bap2)):=hby.2.2.2.2.2.1
   have HZp:Hid (w.heap.size < wr.heap.size):=hzz.out.1
   have HZq:Hid (w.heap.size + 1 < wr.heap.size):=hzz.out.2
   have p5:=HP5.out
   have HC:Hid (∀ (X:World),Below wr.heap.size wr X -> Calls Tryz.prog 15 #[.agg #[.int .i64 kx,.int .i64 mx,.string sx,.string nx,.slice ax lx cx],.agg #[.int .i64 ky,.int .i64 my,.string sy,.string ny,.slice ay ly cy]] X fun e w'=>e = .returned (.bool true) /\ Below X.heap.size X w'):=HC0
   have HBB:Hid (∀ V:World,Below wr.heap.size wr V -> Below _ _ V):=fun V hV=>below_step HB.out hV
   clear htu hce hcd ht hu HC0 hz1 hz2 hbx hby hzz HB HW HC2 HD2 HC3 HD3 HFE HHN
   go_upto_region 6 with fail
   clear p5
   refine wp_region_held_drew (S:=fun w'=>Below wr.heap.size wr w') (by kernel_rfl) (Below.refl _ _).drew (fun hH=>?_)
   revert hH
   generalize wr.drew = V
   intro hH
   refine wTl 0 (.pointer (some ⟨w.heap.size,5,none⟩)) rfl (by kernel_rfl) (fun _ _ _ h=>h) rfl (fun w' h=>by have _h:=h;go_simp) hH ?_
   simp only [wA,wB,wC,wD]
   refine wTl 1 (.slice (some ⟨b1,o1,none⟩) n cap2) rfl (by kernel_rfl) (fun _ _ _ h=>h) rfl (fun w' h=>by have z:=HZp.out;have a0:=cell_step h z HP5.out;go_simp) hH ?_
   simp only [wA,wB,wC,wD]
   refine wTl 2 (.int .i64 (j:Int)) rfl (by kernel_rfl) (fun _ _ _ h=>h) rfl (fun w' h=>by have _h:=h;go_simp) hH ?_
   simp only [wA,wB,wC,wD]
   refine wTl 3 (.pointer (some ⟨b1,o1 + j * 5,none⟩)) rfl (by kernel_rfl) (fun _ _ _ h=>h) rfl (fun w' h=>by have _h:=h;go_simp) hH ?_
   simp only [wA,wB,wC,wD]
   refine wTl 4 (.agg #[.int .i64 kx,.int .i64 mx,.string sx,.string nx,.slice ax lx cx]) rfl (by kernel_rfl) (fun _ _ _ h=>h) rfl (fun w' h=>by obtain ⟨p0,p1,p2,p3,p4⟩:=HE.out;have z:=HZ1.out;have a0:=cell_step h z p0;have a1:=cell_step h z p1;have a2:=cell_step h z p2;have a3:=cell_step h z p3;have a4:=cell_step h z p4;clear p0 p1 p2 p3 p4;go_simp) hH ?_
   simp only [wA,wB,wC,wD]
   refine wTl 5 (.pointer (some ⟨w.heap.size + 1,5,none⟩)) rfl (by kernel_rfl) (fun _ _ _ h=>h) rfl (fun w' h=>by have _h:=h;go_simp) hH ?_
   simp only [wA,wB,wC,wD]
   refine wTl 6 (.slice (some ⟨b2,o2,none⟩) n bap2) rfl (by kernel_rfl) (fun _ _ _ h=>h) rfl (fun w' h=>by have z:=HZq.out;have a0:=cell_step h z HQ5.out;go_simp) hH ?_
   simp only [wA,wB,wC,wD]
   refine wTl 7 (.int .i64 (j:Int)) rfl (by kernel_rfl) (fun _ _ _ h=>h) rfl (fun w' h=>by have _h:=h;go_simp) hH ?_
   simp only [wA,wB,wC,wD]
   refine wTl 8 (.pointer (some ⟨b2,o2 + j * 5,none⟩)) rfl (by kernel_rfl) (fun _ _ _ h=>h) rfl (fun w' h=>by have _h:=h;go_simp) hH ?_
   simp only [wA,wB,wC,wD]
   refine wTl 9 (.agg #[.int .i64 ky,.int .i64 my,.string sy,.string ny,.slice ay ly cy]) rfl (by kernel_rfl) (fun _ _ _ h=>h) rfl (fun w' h=>by obtain ⟨p0,p1,p2,p3,p4⟩:=HD.out;have z:=HZ2.out;have a0:=cell_step h z p0;have a1:=cell_step h z p1;have a2:=cell_step h z p2;have a3:=cell_step h z p3;have a4:=cell_step h z p4;clear p0 p1 p2 p3 p4;go_simp) hH ?_
   simp only [wA,wB,wC,wD]
   refine wRd 10 (by kernel_rfl) rfl (fun K hK=>?_)
   go_simp
   refine (HC.out _ hH).mono ?_
   rintro x1 V2 ⟨rfl,hb⟩
   refine hK.out _ _ (below_step hH hb) (fun hH=>?_)
   clear hK K
   refine wTl 11 (.bool false) rfl (by kernel_rfl) (fun _ _ _ h=>h) rfl (fun w' _=>by go_simp) hH ?_
   simp only [wA,wB,wC,wD]
   refine wpAnyH_done (by kernel_rfl) ?_ _
   have HV:Hid (Below wr.heap.size wr V2):=hH
   clear hH hb HE HD HP5 HQ5 HZ1 HZ2 HZp HZq HC
   go_wp2
   go_roundg g
   case measure=>omega
   case rel=>exact ⟨j + 1,by omega,by go_num,HBB.out _ HV.out⟩
  | zero=>
   have i1:¬ (j:Int) < (n:Int):=by omega
   obtain ⟨-, -, -, -, -,p5,p6⟩:=hbx
   obtain ⟨-, -, -, -, -, -,q6⟩:=hby
   clear hzz HC2 HD2 HFE
   go_wp2
   clear p5 p6 q6 i1 hj HW
   go_loopg [6] r (fun g i wr=>∃ j:Nat,j + g = r /\ i = .int .i64 j /\ Below ((w.alloc (.cells #[.int .i64 k,.int .i64 m,.string s,.string nm,.slice a1 n1 cap1,.slice a2 n cap2,.slice a3 r cap3] 53)).alloc (.cells #[.int .i64 k',.int .i64 m',.string s',.string nm',.slice b1 m1 bap1,.slice b2 n bap2,.slice b3 r bap3] 53)).heap.size ((w.alloc (.cells #[.int .i64 k,.int .i64 m,.string s,.string nm,.slice a1 n1 cap1,.slice a2 n cap2,.slice a3 r cap3] 53)).alloc (.cells #[.int .i64 k',.int .i64 m',.string s',.string nm',.slice b1 m1 bap1,.slice b2 n bap2,.slice b3 r bap3] 53)) wr)
   case atStart=>exact ⟨0,by omega,rfl,HB.out⟩
   case round=>
    obtain ⟨j,hj,rfl,hb⟩:=hrel
    clear HB
    have HB:Hid (Below _ _ wr):=hb
    have HW:Hid (Below w.heap.size w wr):=below_step (below2 w _ _) hb
    obtain ⟨-, -, -, -, -, -,p6⟩:=cseven (two_boxes hb).1
    obtain ⟨-, -, -, -, -, -,q6⟩:=cseven (two_boxes hb).2
    clear hb
    cases gk with
    | succ g=>
     have i0:(0:Int) <= (j:Int):=by omega
     have i1:(j:Int) < (r:Int):=by omega
     obtain ⟨b1,o1,t,ea1,ht,hz1,d0,d1,d2,d3,d4,d5,d6⟩:=(HC3.out.later HW.out).get5 (j:=j) (by omega)
     obtain ⟨b2,o2,u,ea2,hu,hz2,f0,f1,f2,f3,f4,f5,f6⟩:=(HD3.out.later HW.out).get5 (j:=j) (by omega)
     subst ea1 ea2
     obtain rfl:t = u:=Option.some.inj (ht.symm.trans hu)
     have he:=te_neq5 t
     clear ht hu hz1 hz2 HC3 HD3 HW HHN
     obtain ⟨op,⟨kl,ml,sl⟩,⟨kr,mr,sr⟩⟩:=t
     simp only at d0 d1 d2 d3 d4 d5 d6 f0 f1 f2 f3 f4 f5 f6
     go_wp2
     go_quiet (fail)
     go_wp2
     go_roundg g
     case measure=>omega
     case rel=>exact ⟨j + 1,by omega,by go_num,below_drewN HB.out _⟩
    | zero=>
     have i1:¬ (j:Int) < (r:Int):=by omega
     clear HC3 HD3 HHN
     go_wp2
     go_ret
     exact ⟨rfl,HW.out⟩
end Go.Proofs.YtcpjiahdaplhlaaGreatDoor
namespace Go.Proofs.YtcpjiahdaplhlaaGreatDoor
open Go.RowKit
theorem gappW5 {ops:Array Oper} {rest:List Oper} {o:Oper} {a:Act} {Q:Exit -> Act -> World -> Prop} {w:World} (hw:Region.wanted o (yielded ops a.tmps) = true) (s x:Operand)
  (ho:o.op = .call { callee:=.builtin .append,args:=#[s,x],argTypes:=#[33,33] }) (base:Nat) (v:Value) (n:Nat) (l:List Value) (hs:a.eval s = v) (hown:w.ownsRow base 53 7 v n l)
  (y:Value) (m base':Nat) (ys:List Value) (hx:a.eval x = y) (hy:w.ownsRow base' 53 7 y m ys) (hone:∀ u ∈ ys,u.oneCell' = true) (hlen:n + m <= 100000000000) (hbase:base <= w.heap.size) (N:Nat) (hN:n + m = N)
  (h:∀ va vc w',w'.ownsRow base 53 7 (.slice va N vc) N (l ++ ys) -> w.grownBy w' v.ownBlock -> ((Value.slice va N vc).ownBlock = v.ownBlock ∨ (Value.slice va N vc).ownBlock = some w.heap.size) -> wpList Tryz.prog ops Q rest (a.put o.dst (.slice va N vc)) w'):wpList Tryz.prog ops Q (o :: rest) a w:=by
 subst hN
 obtain ⟨i,hi,h1,h2,h3⟩:=info5 Tryz.infoClause5
 refine wpList_step fun K hK=>?_
 rw [if_pos hw]
 have hrun:∃ v' w',(Builtin.append_ #[33,33] o.type #[v,y]).run Tryz.prog w = .ok v' w' /\ w'.ownsRow base 53 7 v' (n + m) (l ++ ys) /\ w.grownBy w' v.ownBlock /\ (v'.ownBlock = v.ownBlock ∨ v'.ownBlock = some w.heap.size):=by
  rcases hy.2 with ⟨rfl,rfl⟩ | ⟨g,cap,cur,rfl, -⟩
  ·have hys:ys = []:=List.length_eq_zero_iff.1 (by have:=hy.1;simpa using this)
   refine ⟨v,w,run_append_owned_none (P:=Tryz.prog) w base 33 o.type 53 i 7 Tryz.underlying33 hi v n l hown, ?_,World.grownBy.refl _ _,Or.inl rfl⟩
   rw [hys,List.append_nil]
   exact hown
  ·obtain ⟨v',w',g1,g2,g3, -,g4⟩:=run_append_own_at (P:=Tryz.prog) w base 33 o.type 53 i _ 7 120 Tryz.underlying33 hi h1 h2 h3 rfl (by decide) v n l hown ⟨g,0,none⟩ m cap ys hy.1 (fun j u hj=>by
    have:=row5_cell hy hj
    rw [Go.WideShapes.add_plain]
    exact this) hone (by unfold maxLen;omega) (Nat.le_trans (Nat.mul_le_mul_right 120 hlen) (by decide)) hbase
   exact ⟨v',w',g1,g2,g3,g4⟩
 obtain ⟨v',w',hr,g2,g3,g4⟩:=hrun
 obtain ⟨va,vc,e, -⟩:=row7_form g2
 subst e
 unfold Oper.wp
 simp [execOp,ho,resolve,invoke,builtin,hs,hx,hr,Result.andThen]
 exact hK _ _ (h va vc w' g2 g3 g4)
end Go.Proofs.YtcpjiahdaplhlaaGreatDoor
namespace Go.Proofs.YtcpjiahdaplhlaaGreatDoor
open Go.RowKit
attribute [local go_sem ↓] Go.wp_at_zero Go.wp_at_succ
theorem row_ne {w:World} {B B' e e' n n' m m':Nat} {v v':Value} {l l':List Value} (h:w.ownsRow B e n v m l) (h':w.ownsRow B' e' n' v' m' l') (he:e ≠ e'):v.ownBlock = none ∨ v.ownBlock ≠ v'.ownBlock:=by
 rcases h.2 with ⟨rfl, -⟩ | ⟨g,cap,cur,rfl, -,hg, -⟩
 ·exact Or.inl rfl
 ·right
  rcases h'.2 with ⟨rfl, -⟩ | ⟨g',cap',cur',rfl, -,hg', -⟩
  ·simp [Value.ownBlock]
  ·simp only [Value.ownBlock,ne_eq,Option.some.injEq]
   rintro rfl
   rw [hg] at hg'
   simp only [Option.some.injEq,Obj.cells.injEq] at hg'
   exact he hg'.2.1
theorem row_bk {w:World} {B e n m g:Nat} {v:Value} {l:List Value} {c:Array Value} {t:TypeId} (h:w.ownsRow B e n v m l) (hb:Bk w g c t) (he:e ≠ t):v.ownBlock ≠ some g:=by
 rcases h.2 with ⟨rfl, -⟩ | ⟨g',cap,cur,rfl, -,hg, -⟩
 ·simp [Value.ownBlock]
 ·simp only [Value.ownBlock,ne_eq,Option.some.injEq]
  rintro rfl
  have hb:w.heap[g']? = some (.cells c t (0,0)):=hb
  rw [hg] at hb
  simp only [Option.some.injEq,Obj.cells.injEq] at hb
  exact he hb.2.1
theorem bk_grow {X X':World} {B e n m g:Nat} {v:Value} {l:List Value} {c:Array Value} {t:TypeId} (hb:Bk X g c t) (h:X.ownsRow B e n v m l) (hg:X.grownBy X' v.ownBlock) (he:e ≠ t):Bk X' g c t:=
 (hg.block g hb.lt fun e1=>row_bk h hb he e1.symm).trans hb
theorem apR6 {T e:TypeId} {z:Value} {by_ size:Nat} (hT:Tryz.prog.underlying T = some (.slice e)) (hI:(Tryz.prog.info? e).map (fun i=>(i.zero,i.size,i.bytes)) = some (some z,size,by_)) (hz:z.cells.size = size) (hsz:0 < size) (hby:by_ <= 1000)
  (ty:TypeId) (w:World) (base:Nat) (v:Value) (n:Nat) (l:List Value) (hown:w.ownsRow base e size v n l) (y:Value) (m base':Nat) (ys:List Value) (hy:w.ownsRow base' e size y m ys) (hone:∀ u ∈ ys,u.oneCell' = true) (hlen:n + m <= 100000000000) (hbase:base <= w.heap.size) :
  ∃ v' w',(Builtin.append_ #[T,T] ty #[v,y]).run Tryz.prog w = .ok v' w' /\ w'.ownsRow base e size v' (n + m) (l ++ ys) /\ w.grownBy w' v.ownBlock /\ (v'.ownBlock = v.ownBlock ∨ v'.ownBlock = some w.heap.size):=by
 obtain ⟨i,hi,h1,h2,h3⟩:=info5 hI
 rcases hy.2 with ⟨rfl,rfl⟩ | ⟨g,cap,cur,rfl, -⟩
 ·have hys:ys = []:=List.length_eq_zero_iff.1 (by have:=hy.1;simpa using this)
  refine ⟨v,w,run_append_owned_none (P:=Tryz.prog) w base T ty e i size hT hi v n l hown, ?_,World.grownBy.refl _ _,Or.inl rfl⟩
  rw [hys,List.append_nil]
  exact hown
 ·obtain ⟨v',w',g1,g2,g3, -,g4⟩:=run_append_own_at (P:=Tryz.prog) w base T ty e i _ size by_ hT hi h1 h2 h3 hz hsz v n l hown ⟨g,0,none⟩ m cap ys hy.1 (fun j u hj=>by
    have:=row5_cell hy hj
    rw [Go.WideShapes.add_plain]
    exact this) hone (by unfold maxLen;omega) (Nat.le_trans (Nat.mul_le_mul hlen hby) (by decide)) hbase
  exact ⟨v',w',g1,g2,g3,g4⟩
theorem stepR6 {T:TypeId} {ops:Array Oper} {o:Oper} {a:Act} {K:Act -> World -> Prop} {Q:Exit -> Act -> World -> Prop} {E:Prop} {w w':World} (hgd:o.guard = none) (s x:Operand) (ho:o.op = .call { callee:=.builtin .append,args:=#[s,x],argTypes:=#[T,T] }) (v y v':Value) (hs:a.eval s = v) (hx:a.eval x = y)
  (hr:(Builtin.append_ #[T,T] o.type #[v,y]).run Tryz.prog w = .ok v' w') (h:K (a.put o.dst v') w'):if Region.wanted o (yielded ops a.tmps) = true then Oper.wp Tryz.prog o a w K Q else E:=by
 have hw:Region.wanted o (yielded ops a.tmps) = true:=by simp [Region.wanted,hgd]
 rw [if_pos hw]
 unfold Oper.wp
 simp [execOp,ho,resolve,invoke,builtin,hs,hx,hr,Result.andThen]
 exact h
theorem stepQ6 {T e:TypeId} {z:Value} {by_ size:Nat} (hT:Tryz.prog.underlying T = some (.slice e)) (hI:(Tryz.prog.info? e).map (fun i=>(i.zero,i.size,i.bytes)) = some (some z,size,by_)) (hz:z.cells.size = size) (hsz:0 < size) (hby:by_ <= 1000)
  {ops:Array Oper} {o:Oper} {a:Act} {K:Act -> World -> Prop} {Q:Exit -> Act -> World -> Prop} {E:Prop} {w:World} (hgd:o.guard = none) (s x:Operand) (ho:o.op = .call { callee:=.builtin .append,args:=#[s,x],argTypes:=#[T,T] }) (base:Nat) (v:Value) (n:Nat) (l:List Value) (hs:a.eval s = v) (y:Value) (m base':Nat) (ys:List Value) (hx:a.eval x = y)
  (hown:w.ownsRow base e size v n l) (hy:w.ownsRow base' e size y m ys) (hone:∀ u ∈ ys,u.oneCell' = true) (hlen:n + m <= 100000000000) (hbase:base <= w.heap.size)
  (h:∀ v' w',w'.ownsRow base e size v' (n + m) (l ++ ys) -> w.grownBy w' v.ownBlock -> (v'.ownBlock = v.ownBlock ∨ v'.ownBlock = some w.heap.size) -> K (a.put o.dst v') w'):if Region.wanted o (yielded ops a.tmps) = true then Oper.wp Tryz.prog o a w K Q else E:=by
 obtain ⟨v',w',g1,g2,g3,g4⟩:=apR6 hT hI hz hsz hby o.type w base v n l hown y m base' ys hy hone hlen hbase
 exact stepR6 hgd s x ho v y v' hs hx g1 (h v' w' g2 g3 g4)
end Go.Proofs.YtcpjiahdaplhlaaGreatDoor

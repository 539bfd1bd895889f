import Derived.Test.YtcpjiahdaplhlaaGreatDoorB2
import Derived.Test.YtcpjiahdaplhlaaGreatDoorSP6
import Derived.Test.YtcpjiahdaplhlaaGreatDoorST6
namespace Go.Proofs.YtcpjiahdaplhlaaGreatDoor
open Go.RowKit
attribute [local go_sem ↓] Go.wp_at_zero Go.wp_at_succ
theorem LtA.row {X:World} {B g cap n:Nat} {LB:List (At × Value)} {d:At × Value} (ho:OwnA X B (.slice (some ⟨g,0,none⟩) n cap) (LB ++ [d])):ARow X g 0 LB:=by
 refine ⟨(ho.lt g rfl).2,fun i x hx=>?_⟩
 have hi:=(List.getElem?_eq_some_iff.1 hx).1
 have hx':(LB ++ [d])[i]? = some x:=by rw [List.getElem?_append_left hi];exact hx
 rw [Nat.zero_add]
 exact ⟨ho.cells i x hx' 0 (by omega),ho.cells i x hx' 1 (by omega),ho.cells i x hx' 2 (by omega),ho.cells i x hx' 3 (by omega),ho.cells i x hx' 4 (by omega)⟩
theorem LtA.as {X:World} {B:Nat} {v:Value} {LB:List (At × Value)} (h:LtA X B v LB) (hl:LB.length < 1000000000000000000) (hx:∀ x ∈ LB,x.1.args.length < 1000000000000000000):As X v LB:=by
 obtain ⟨⟨g,cap,rfl,ho⟩,ht⟩:=h
 exact ⟨_,cap,rfl,hl,Or.inr ⟨g,0,rfl,LtA.row ho⟩,fun x hm=>(ht x hm).ts (hx x hm)⟩
theorem LtE.es {X:World} {B:Nat} {v:Value} {l:List Te} (h:LtE X B v l) (hl:l.length < 1000000000000000000):Es X v l:=by
 obtain ⟨g,cap,rfl,ho⟩:=h
 exact ⟨_,cap,rfl,hl,Or.inr ⟨g,0,rfl,LentE.row ho⟩⟩
theorem Lt5.later {B:Nat} {X X':World} {d:Cm} (h:Lt5 B X d) (hb:Below X.heap.size X X'):Lt5 B X' d:=by
 obtain ⟨h1,⟨⟨g,cap,e,ho⟩,hts⟩,⟨g2,cap2,e2,ho2⟩⟩:=h
 exact ⟨h1.later hb,⟨⟨g,cap,e,row7_below ho hb⟩,fun x hx=>(hts x hx).later hb⟩,⟨g2,cap2,e2,row7_below ho2 hb⟩⟩
def Sz5 (c:Cm):Prop:=(Ck.terms c.key).length <= 4000000
theorem Lt5.ok {B:Nat} {X:World} {d:Cm} (h:Lt5 B X d) (hs:Sz5 d):d.ok X:=by
 obtain ⟨s1,s2,s3,s4⟩:=cm_sizes hs
 exact ⟨h.h.ts (by omega),h.b.as (by omega) (fun x hx=>by have:=s4 x hx;omega),h.t.es (by omega)⟩
set_option maxRecDepth 20000 in
set_option maxHeartbeats 8000000 in
theorem kept_any (d c:Cm) (base:Nat) (w:World) (h:c.ok w) (hd:Lt5 base w d) (hk:d.key = c.key) (hs:Sz5 c) (hB:MkOk w) :
  Calls Tryz.prog 26 #[d.v,c.v] w fun e w'=>e = .returned (.bool true) /\ Below w.heap.size w w':=by
 obtain ⟨s1,s2,s3,s4⟩:=cm_sizes hs
 have hdk:d.ok w:=hd.ok (by unfold Sz5;rw [hk];exact hs)
 have HCL:Hid (∀ X:World,Below w.heap.size w X -> Calls Tryz.prog 33 #[d.v,c.v] X fun e w'=>e = .returned (.bool true) /\ Below X.heap.size X w'):=fun X hX=>clauses5_any d c X (hdk.later hX) (h.later hX) hk
 have k1:d.head.1 = c.head.1:=congrArg (fun k:Ck=>k.1) hk
 have k2:fsts d.body = fsts c.body:=congrArg (fun k:Ck=>k.2.1) hk
 have k3:d.tests = c.tests:=congrArg (fun k:Ck=>k.2.2) hk
 have HKA:Hid (∀ X:World,Below w.heap.size w X -> Calls Tryz.prog 29 #[d.head.1.v d.head.2,c.head.1.v c.head.2] X fun e w'=>e = .returned (.bool true) /\ Below X.heap.size X w'):=fun X hX=>by
  have:=keptAtom_any d.head.1 d.head.2 c.head.2 base X (by rw [k1];exact h.h.later hX) (hd.h.later hX) (hB.later hX)
  rw [<- k1]
  exact this
 obtain ⟨⟨a1,n1,cp1,e1⟩,⟨a2,cp2,e2⟩,⟨a3,cp3,e3⟩, -, -⟩:=h.shape
 obtain ⟨⟨d1,m1,dp1,x1⟩,⟨d2,dp2,x2⟩,⟨d3,dp3,x3⟩, -, -⟩:=hdk.shape
 obtain ⟨⟨gb,capb,hgb,hob⟩,hts⟩:=hd.b
 obtain ⟨ge,cape,hge,hoe⟩:=hd.t
 have hcb:=h.b
 obtain ⟨⟨hx,du⟩,LB,dbv,tests,dtv⟩:=d
 obtain ⟨⟨cx,cu⟩,body,cbv,tests',ctv⟩:=c
 dsimp only at k1 k2 k3 e1 e2 e3 x1 x2 x3 hgb hge hob hoe hts hcb s1 s2 s3 s4 HCL HKA
 subst k1 k3
 obtain ⟨⟨kk,kn,kz⟩,nm,hl⟩:=hx
 have hbl:LB.length = body.length:=by have:=congrArg List.length k2;simpa [fsts] using this
 obtain ⟨bn,hbn⟩:∃ n,body.length = n:=⟨_,rfl⟩
 obtain ⟨tn,htn⟩:∃ n,tests.length = n:=⟨_,rfl⟩
 rw [hbl,hbn] at hgb hob
 rw [hbn] at e2 s2
 rw [htn] at hge hoe e3 s3
 have HBN:=hm7 hbn
 have HLN:Hid (LB.length = bn):=by show _ = _;rw [hbl,hbn]
 have HTN:=hm7 htn
 have hcapb:=ownA_cap hob
 have hcape:=ownE_cap hoe
 rw [List.length_append,List.length_singleton] at hcapb hcape
 rw [hbl,hbn] at hcapb
 rw [htn] at hcape
 have HOB:=hm7 hob
 have HOE:=hm7 hoe
 have HTS:=hm7 hts
 have HCB:=hm7 hcb
 have HF:=hm7 k2
 have HB:=hm7 hB
 clear x2 x3
 subst hgb hge x1 e1 e2 e3
 have HS4:=hm7 s4
 obtain ⟨t1,t2,t3⟩:=two5 w #[.int .i64 kk,.int .i64 kn,.string kz,.string nm,.slice d1 m1 dp1,.slice (some ⟨gb,0,none⟩) bn capb,.slice (some ⟨ge,0,none⟩) tn cape] #[.int .i64 kk,.int .i64 kn,.string kz,.string nm,.slice a1 n1 cp1,.slice a2 bn cp2,.slice a3 tn cp3] 53 53
 have HR0:=hm7 t1
 have HX0:=hm7 t2
 have HB0:=hm7 t3
 show Calls Tryz.prog 26 #[.agg #[.int .i64 kk,.int .i64 kn,.string kz,.string nm,.slice d1 m1 dp1,.slice (some ⟨gb,0,none⟩) bn capb,.slice (some ⟨ge,0,none⟩) tn cape],.agg #[.int .i64 kk,.int .i64 kn,.string kz,.string nm,.slice a1 n1 cp1,.slice a2 bn cp2,.slice a3 tn cp3]] w _
 clear t1 t2 t3 h hd hk hs hB hdk hob hoe hts hcb k2 hbl hbn htn s4
 go_enter Tryz.func26,Tryz.ntmps26
 go_upto_region 1 with fail
 revert HR0 HX0 HB0
 generalize (w.alloc (.cells #[.int .i64 kk,.int .i64 kn,.string kz,.string nm,.slice d1 m1 dp1,.slice (some ⟨gb,0,none⟩) bn capb,.slice (some ⟨ge,0,none⟩) tn cape] 53)).alloc (.cells #[.int .i64 kk,.int .i64 kn,.string kz,.string nm,.slice a1 n1 cp1,.slice a2 bn cp2,.slice a3 tn cp3] 53) = W0
 generalize w.heap.size + 1 = r at *
 intro HR0 HX0 HB0
 obtain ⟨q,hq⟩:∃ z,w.heap.size = z:=⟨_,rfl⟩
 rw [hq] at HX0
 rw [hq]
 clear hq
 have x0:=HX0.out.cell (i:=0) rfl
 have x1:=HX0.out.cell (i:=1) rfl
 have x2:=HX0.out.cell (i:=2) rfl
 have x3:=HX0.out.cell (i:=3) rfl
 have x4:=HX0.out.cell (i:=4) rfl
 have x5:=HX0.out.cell (i:=5) rfl
 have x6:=HX0.out.cell (i:=6) rfl
 have r0:=HR0.out.cell (i:=0) rfl
 have r1:=HR0.out.cell (i:=1) rfl
 have r2:=HR0.out.cell (i:=2) rfl
 have r3:=HR0.out.cell (i:=3) rfl
 have r4:=HR0.out.cell (i:=4) rfl
 have r5:=HR0.out.cell (i:=5) rfl
 have r6:=HR0.out.cell (i:=6) rfl
 go_upto_region 3 with (first
  | (go_at_call 29;refine (HKA.out _ HB1.out).mono ?_;rintro e w2 ⟨rfl,hb⟩;have HW2:=hm7 (below_step HC1.out hb);clear hb x0 r0 x1 r1 x2 r2 x3 r3 x4 r4 x5 r5 x6 r6)
  | (go_at_call 33;refine (HCL.out _ HB0.out).mono ?_;rintro e w1 ⟨rfl,hb⟩;have HC1:=hm7 hb;have HB1:=hm7 (below_step HB0.out hb);clear hb x0 r0 x1 r1 x2 r2 x3 r3 x4 r4 x5 r5 x6 r6;have x0:=(HX0.out.below HC1.out).cell (i:=0) rfl;have r0:=(HR0.out.below HC1.out).cell (i:=0) rfl;have x1:=(HX0.out.below HC1.out).cell (i:=1) rfl;have r1:=(HR0.out.below HC1.out).cell (i:=1) rfl;have x2:=(HX0.out.below HC1.out).cell (i:=2) rfl;have r2:=(HR0.out.below HC1.out).cell (i:=2) rfl;have x3:=(HX0.out.below HC1.out).cell (i:=3) rfl;have r3:=(HR0.out.below HC1.out).cell (i:=3) rfl;have x4:=(HX0.out.below HC1.out).cell (i:=4) rfl;have r4:=(HR0.out.below HC1.out).cell (i:=4) rfl;have x5:=(HX0.out.below HC1.out).cell (i:=5) rfl;have r5:=(HR0.out.below HC1.out).cell (i:=5) rfl;have x6:=(HX0.out.below HC1.out).cell (i:=6) rfl;have r6:=(HR0.out.below HC1.out).cell (i:=6) rfl))
 have HW:=hm7 (below_step HB0.out HW2.out)
 have HXW:=hm7 (HX0.out.below HW2.out)
 have HRW:=hm7 (HR0.out.below HW2.out)
 clear HX0 HR0 HB0 HB1 HC1 HW2 HCL HKA
 go_wp2
 go_loopg [5] bn (fun g i wr=>∃ j:Nat,j + g = bn /\ i = .int .i64 j /\ Below w2.heap.size w2 wr)
 case atStart=>exact ⟨0,by omega,rfl,Below.refl _ _⟩
 case round=>
  obtain ⟨j,hj,rfl,hb⟩:=hrel
  have HBr:=hm7 hb
  have HWr:=hm7 (below_step HW.out hb)
  have HXr:=hm7 (HXW.out.below hb)
  have HRr:=hm7 (HRW.out.below hb)
  clear hb
  cases gk with
  | succ g=>
   have hlt:(j:Int) < (bn:Int):=by omega
   have j0:(0:Int) <= (j:Int):=by omega
   obtain ⟨t,ht⟩:∃ t,LB[j]? = some t:=⟨_,List.getElem?_eq_getElem (by have:=HLN.out;omega)⟩
   obtain ⟨u,hu⟩:∃ u,body[j]? = some u:=⟨_,List.getElem?_eq_getElem (by have:=HBN.out;omega)⟩
   have htu:t.1 = u.1:=by
    have e:=congrArg (fun l=>l[j]?) HF.out
    simp only [fsts,List.getElem?_map,ht,hu,Option.map_some] at e
    exact Option.some.inj e
   obtain ⟨ad2,cp2',hbf, -,hrow,hts'⟩:=HCB.out
   rw [HBN.out] at hbf
   cases hbf
   rcases hrow with e | ⟨b2,o2,rfl,hrow⟩
   ·rw [e] at hu;simp at hu
   have hro:=(LtA.row HOB.out).later HWr.out
   have q1:=hro.2 j t ht
   have q2:=(hrow.later HWr.out).2 j u hu
   have HZ1:Hid (gb < wr.heap.size):=hro.1
   have HZ2:Hid (b2 < wr.heap.size):=(hrow.later HWr.out).1
   have t1:=(HTS.out t (List.mem_of_getElem? ht)).later HWr.out
   have t2:=(hts' u (List.mem_of_getElem? hu)).later HWr.out
   rw [<- htu] at t2 q2
   have HC0:Hid (∀ X:World,Below wr.heap.size wr X -> Calls Tryz.prog 29 #[t.1.v t.2,t.1.v u.2] X fun e w'=>e = .returned (.bool true) /\ Below X.heap.size X w'):=fun X hX=>keptAtom_any t.1 t.2 u.2 base X (t2.later hX) (t1.later hX) ((HB.out.later HWr.out).later hX)
   obtain ⟨gx,cx,hax, -⟩:=t1
   obtain ⟨ay,cy,hay, -⟩:=t2
   clear ht hu htu hrow hro hts'
   obtain ⟨⟨⟨kx,mx,sx⟩,nx,lx⟩,vx⟩:=t
   obtain ⟨uu,vy⟩:=u
   simp only [Nat.zero_add] at hax hay q1 q2
   generalize lx.length = lxn at hax hay
   subst hax hay
   have HE:=hm7 q1
   have HD:=hm7 q2
   have HC:Hid (∀ X:World,Below wr.heap.size wr X -> Calls Tryz.prog 29 #[.agg #[.int .i64 kx,.int .i64 mx,.string sx,.string nx,.slice (some ⟨gx,0,none⟩) lxn cx],.agg #[.int .i64 kx,.int .i64 mx,.string sx,.string nx,.slice ay lxn cy]] X fun e w'=>e = .returned (.bool true) /\ Below X.heap.size X w'):=HC0.out
   have c5:=HRr.out.cell (i:=5) rfl
   clear q1 q2 HC0
   go_upto_region 6 with fail
   clear c5
   refine wp_region_held_drew (S:=fun w'=>Below wr.heap.size wr w') (by kernel_rfl) (Below.refl _ _).drew (fun hH=>?_)
   revert hH
   generalize wr.drew = V
   intro hH
   refine wTl 0 (.pointer (some ⟨q,5,none⟩)) rfl (by kernel_rfl) (fun _ _ _ h=>h) rfl (fun w' h=>by have _h:=h;go_simp) hH ?_
   simp only [wA,wB,wC,wD]
   refine wTl 1 (.slice (some ⟨gb,0,none⟩) bn capb) rfl (by kernel_rfl) (fun _ _ _ h=>h) rfl (fun w' h=>by have _h:=h;have a0:=(HXr.out.below h).cell (i:=0) rfl;have a1:=(HXr.out.below h).cell (i:=1) rfl;have a2:=(HXr.out.below h).cell (i:=2) rfl;have a3:=(HXr.out.below h).cell (i:=3) rfl;have a4:=(HXr.out.below h).cell (i:=4) rfl;have a5:=(HXr.out.below h).cell (i:=5) rfl;have a6:=(HXr.out.below h).cell (i:=6) rfl;go_simp) hH ?_
   simp only [wA,wB,wC,wD]
   refine wTl 2 (.int .i64 (j:Int)) rfl (by kernel_rfl) (fun _ _ _ h=>h) rfl (fun w' h=>by have _h:=h;go_simp) hH ?_
   simp only [wA,wB,wC,wD]
   refine wTl 3 (.pointer (some ⟨gb,j * 5,none⟩)) rfl (by kernel_rfl) (fun _ _ _ h=>h) rfl (fun w' h=>by have _h:=h;go_simp) hH ?_
   simp only [wA,wB,wC,wD]
   refine wTl 4 (.agg #[.int .i64 kx,.int .i64 mx,.string sx,.string nx,.slice (some ⟨gx,0,none⟩) lxn cx]) rfl (by kernel_rfl) (fun _ _ _ h=>h) rfl (fun w' h=>by obtain ⟨p0,p1,p2,p3,p4⟩:=HE.out;have z:=HZ1.out;have a0:=cell_step h z p0;have a1:=cell_step h z p1;have a2:=cell_step h z p2;have a3:=cell_step h z p3;have a4:=cell_step h z p4;clear p0 p1 p2 p3 p4;go_simp) hH ?_
   simp only [wA,wB,wC,wD]
   refine wTl 5 (.pointer (some ⟨r,5,none⟩)) rfl (by kernel_rfl) (fun _ _ _ h=>h) rfl (fun w' h=>by have _h:=h;go_simp) hH ?_
   simp only [wA,wB,wC,wD]
   refine wTl 6 (.slice (some ⟨b2,o2,none⟩) bn cp2) rfl (by kernel_rfl) (fun _ _ _ h=>h) rfl (fun w' h=>by have _h:=h;have a0:=(HRr.out.below h).cell (i:=0) rfl;have a1:=(HRr.out.below h).cell (i:=1) rfl;have a2:=(HRr.out.below h).cell (i:=2) rfl;have a3:=(HRr.out.below h).cell (i:=3) rfl;have a4:=(HRr.out.below h).cell (i:=4) rfl;have a5:=(HRr.out.below h).cell (i:=5) rfl;have a6:=(HRr.out.below h).cell (i:=6) rfl;go_simp) hH ?_
   simp only [wA,wB,wC,wD]
   refine wTl 7 (.int .i64 (j:Int)) rfl (by kernel_rfl) (fun _ _ _ h=>h) rfl (fun w' h=>by have _h:=h;go_simp) hH ?_
   simp only [wA,wB,wC,wD]
   refine wTl 8 (.pointer (some ⟨b2,o2 + j * 5,none⟩)) rfl (by kernel_rfl) (fun _ _ _ h=>h) rfl (fun w' h=>by have _h:=h;go_simp) hH ?_
   simp only [wA,wB,wC,wD]
   refine wTl 9 (.agg #[.int .i64 kx,.int .i64 mx,.string sx,.string nx,.slice ay lxn cy]) rfl (by kernel_rfl) (fun _ _ _ h=>h) rfl (fun w' h=>by obtain ⟨p0,p1,p2,p3,p4⟩:=HD.out;have z:=HZ2.out;have a0:=cell_step h z p0;have a1:=cell_step h z p1;have a2:=cell_step h z p2;have a3:=cell_step h z p3;have a4:=cell_step h z p4;clear p0 p1 p2 p3 p4;go_simp) hH ?_
   simp only [wA,wB,wC,wD]
   refine wRd 10 (by kernel_rfl) rfl (fun K0 hK=>?_)
   go_simp
   refine (HC.out _ hH).mono ?_
   rintro e V1 ⟨rfl,hb⟩
   refine hK.out _ _ (below_step hH hb) (fun hH=>?_)
   clear hK K0 hb
   try simp only [wA,wB,wC,wD]
   refine wTl 11 (.bool false) rfl (by kernel_rfl) (fun _ _ _ h=>h) rfl (fun w' h=>by have _h:=h;go_simp) hH ?_
   simp only [wA,wB,wC,wD]
   refine wpAnyH_done (by kernel_rfl) ?_ _
   have HV:=hm7 hH
   clear hH
   go_wp2
   go_roundg g
   case measure=>omega
   case rel=>exact ⟨j + 1,by omega,by go_num,below_step HBr.out HV.out⟩
  | zero=>
   have hz:¬ ((j:Int) < (bn:Int)):=by omega
   have i0:(0:Int) <= (bn:Int):=by omega
   have i1:(bn:Int) < (bn:Int) + 1:=by omega
   have i2:(bn:Int) + 1 <= (capb:Int):=by omega
   have i3:(0:Int) <= (tn:Int):=by omega
   have i4:(tn:Int) < (tn:Int) + 1:=by omega
   have i5:(tn:Int) + 1 <= (cape:Int):=by omega
   have hoL:=HOB.out.later HWr.out
   have hgl:(LB ++ [(mA,Value.slice none 0 0)])[bn]? = some (mA,.slice none 0 0):=by rw [<- HLN.out];simp
   have q3:=hoL.cells bn _ hgl 3 (by omega)
   have hoM:OwnE wr base _ _:=row7_below HOE.out HWr.out
   have hgm:(tests ++ [mE])[tn]? = some mE:=by rw [<- HTN.out];simp
   have q4:=hoM.cells tn _ hgm 0 (by omega)
   simp only [acell,mA,mkB,List.getElem?_cons_succ,List.getElem?_cons_zero] at q3
   simp only [ecell,mE,List.getElem?_cons_zero,Nat.add_zero] at q4
   have x5:=HXr.out.cell (i:=5) rfl
   have x6:=HXr.out.cell (i:=6) rfl
   have r5:=HRr.out.cell (i:=5) rfl
   have r6:=HRr.out.cell (i:=6) rfl
   clear hoL hgl hoM hgm
   go_wp2
   go_ret
   exact ⟨rfl,HWr.out⟩
end Go.Proofs.YtcpjiahdaplhlaaGreatDoor
namespace Go.Proofs.YtcpjiahdaplhlaaGreatDoor
open Go.RowKit
attribute [local go_sem ↓] Go.wp_at_zero Go.wp_at_succ
theorem row_put8 {X:World} {B:Nat} {ty:TypeId} {K g n cap i:Nat} {cs:List Value} (u:Value) (h:X.ownsRow B ty K (.slice (some ⟨g,0,none⟩) n cap) n cs) (hi:i < n * K):(X.setCell ⟨g,i,none⟩ u).ownsRow B ty K (.slice (some ⟨g,0,none⟩) n cap) n (cs.set i u):=by
 refine ⟨by rw [List.length_set];exact h.1, ?_⟩
 rcases h.2 with ⟨h,_⟩ | ⟨g',cap',cur,hv,hb,hg,hn,hc,hs,ht⟩
 ·cases h
 ·simp only [Value.slice.injEq,Option.some.injEq,Addr.mk.injEq] at hv
  obtain ⟨⟨rfl, -⟩, -,rfl⟩:=hv
  refine Or.inr ⟨g,cap,_,rfl,hb,heap_setCell_same _ _ _ _ _ _ hg,hn,hc,by simpa using hs, ?_⟩
  rw [<- ht,Array.toList_setIfInBounds]
  apply List.ext_getElem?
  intro j
  by_cases hj:j < n * K
  ·rw [List.getElem?_take_of_lt hj,List.getElem?_set,List.getElem?_set,List.getElem?_take_of_lt hj]
   have hcz:i < cur.toList.length:=by rw [Array.length_toList,hs];exact Nat.lt_of_lt_of_le hi (Nat.mul_le_mul_right _ hn)
   by_cases e:i = j
   ·subst e
    rw [if_pos rfl,if_pos rfl,if_pos hcz,if_pos (by rw [List.length_take];omega)]
   ·rw [if_neg e,if_neg e]
  ·rw [List.getElem?_take_eq_none (by omega),List.getElem?_eq_none (by rw [List.length_set,List.length_take];omega)]
structure Op5 (w:World) (c:Cm):Prop where
 r:Rp5 w c
 e:EsP w c.tv c.tests
 s:Sz5 c
theorem Op5.later {w w':World} {c:Cm} (h:Op5 w c) (hb:Below w.heap.size w w'):Op5 w' c:=⟨h.r.later hb,h.e.later hb,h.s⟩
theorem nw_key {c:Cm} (hs:Sz5 c) (hn:∀ t ∈ c.terms,N64 t.n):Nw5 c:=by
 refine ⟨⟨fun t ht _=>n64_wf (hn t ht), ?_⟩,hn⟩
 rw [key_terms]
 unfold Sz5 at hs
 omega
structure Lc5 (B:Nat) (X:World) (d:Cm):Prop where
 l:Lt5 B X d
 s:Sz5 d
 n:∀ t ∈ d.terms,N64 t.n
theorem Lc5.of {B:Nat} {X w:World} {c d:Cm} (h:Lt5 B X d) (hk:d.key = c.key) (ho:Op5 w c):Lc5 B X d:=
 ⟨h,by unfold Sz5;rw [hk];exact ho.s,fun t ht=>ho.r.n t (by rw [key_terms] at ht ⊢;rw [<- hk];exact ht)⟩
theorem Lc5.later {B:Nat} {X X':World} {d:Cm} (h:Lc5 B X d) (hb:Below X.heap.size X X'):Lc5 B X' d:=⟨h.l.later hb,h.s,h.n⟩
theorem Lt5.kept {X X':World} {B B' n m:Nat} {y:Value} {d:Cm} {ys:List Value} (h:Lt5 B X d) (hy:X.ownsRow B' 53 n y m ys) (hg:X.grownBy X' y.ownBlock):Lt5 B X' d:=by
 obtain ⟨h1,⟨⟨g,cap,e,ho⟩,hts⟩,⟨g2,cap2,e2,ho2⟩⟩:=h
 exact ⟨h1.kept hy hg (by decide),⟨⟨g,cap,e,World.ownsRow.kept ho hg (row_ne ho hy (by decide))⟩,fun x hx=>(hts x hx).kept hy hg (by decide)⟩,⟨g2,cap2,e2,World.ownsRow.kept ho2 hg (row_ne ho2 hy (by decide))⟩⟩
theorem row_low {X X':World} {B e n m G:Nat} {v:Value} {l:List Value} (h:X.ownsRow B e n v m l) (hf:Fr (fun b=>b = G) X X') (hG:G < B):X'.ownsRow B e n v m l:=
 row7_fr h hf fun g hg e1=>by have:=(World.ownsRow.lt h g hg).1;omega
theorem Lt5.low {X X':World} {B G:Nat} {d:Cm} (h:Lt5 B X d) (hf:Fr (fun b=>b = G) X X') (hG:G < B):Lt5 B X' d:=by
 obtain ⟨⟨g0,cap0,e0,ho0⟩,⟨⟨g,cap,e,ho⟩,hts⟩,⟨g2,cap2,e2,ho2⟩⟩:=h
 refine ⟨⟨g0,cap0,e0,row_low ho0 hf hG⟩,⟨⟨g,cap,e,row_low ho hf hG⟩,fun x hx=>?_⟩,⟨g2,cap2,e2,row_low ho2 hf hG⟩⟩
 obtain ⟨g3,cap3,e3,ho3⟩:=hts x hx
 exact ⟨g3,cap3,e3,row_low ho3 hf hG⟩
theorem ts_tsP {w:World} {ad:Addr} {n cap:Nat} {l:List Tm} (h:Ts w (.slice (some ad) n cap) l):TsP w (.slice (some ad) n cap) l:=by
 obtain ⟨a,cap',e, -,hr⟩:=h
 simp only [Value.slice.injEq] at e
 obtain ⟨rfl,rfl,rfl⟩:=e
 refine Or.inr ⟨ad,cap,rfl,hr.imp id ?_⟩
 rintro ⟨b,o,e1,ht⟩
 exact ⟨b,o,Option.some.inj e1,ht⟩
theorem LtT.tsP {X:World} {B:Nat} {v:Value} {l:List Tm} (h:LtT X B v l) (hl:l.length < 1000000000000000000):TsP X v l:=by
 have h1:=h.ts hl
 obtain ⟨g,cap,rfl,ho⟩:=h
 exact ts_tsP h1
theorem Lc5.rp {B:Nat} {X:World} {d:Cm} (h:Lc5 B X d):Rp5 X d:=by
 obtain ⟨s1,s2,s3,s4⟩:=cm_sizes h.s
 refine ⟨h.l.ok h.s,h.l.h.tsP (by omega),fun x hx=>(h.l.b.ts x hx).tsP (by have:=s4 x hx;omega), ?_,h.n⟩
 obtain ⟨g,cap,e,ho⟩:=h.l.b.o
 rw [e]
 exact Or.inr ⟨⟨g,0,none⟩,cap,rfl,Or.inr ⟨g,0,rfl,LtA.row ho⟩⟩
structure OL5 (B:Nat) (X:World) (v:Value) (L:List Cm):Prop where
 o:X.ownsRow B 53 7 v L.length (L.flatMap cc5)
 k:∀ d ∈ L,Lc5 B X d
theorem OL5.later {B:Nat} {X X':World} {v:Value} {L:List Cm} (h:OL5 B X v L) (hb:Below X.heap.size X X'):OL5 B X' v L:=⟨row7_below h.o hb,fun d hd=>(h.k d hd).later hb⟩
theorem Lc5.kept {X X':World} {B B' n m:Nat} {y:Value} {d:Cm} {ys:List Value} (h:Lc5 B X d) (hy:X.ownsRow B' 53 n y m ys) (hg:X.grownBy X' y.ownBlock):Lc5 B X' d:=⟨h.l.kept hy hg,h.s,h.n⟩
theorem OL5.grow {B:Nat} {X X':World} {v v':Value} {L:List Cm} {d:Cm} (h:OL5 B X v L) (hd:Lc5 B X d) (ho:X'.ownsRow B 53 7 v' (L.length + 1) (L.flatMap cc5 ++ cc5 d)) (hg:X.grownBy X' v.ownBlock):OL5 B X' v' (L ++ [d]):=by
 refine ⟨?_,fun e he=>?_⟩
 ·rw [List.length_append,List.length_singleton,List.flatMap_append]
  simpa using ho
 ·rcases List.mem_append.1 he with he | he
  ·exact (h.k e he).kept h.o hg
  ·obtain rfl:e = d:=by simpa using he
   exact hd.kept h.o hg
theorem cx_front {B:Nat} {X:World} {g n cap:Nat} {L:List Cm} {M:List Value} {m:Nat} (hn:L.length = n) (ho:X.ownsRow B 53 7 (.slice (some ⟨g,0,none⟩) m cap) m (L.flatMap cc5 ++ M)) (hk:∀ d ∈ L,d.ok X):Cx5 X (.slice (some ⟨g,0,none⟩) n cap) L:=by
 refine ⟨⟨_,cap,by rw [hn], ?_⟩,hk⟩
 rcases List.eq_nil_or_concat L with rfl | ⟨L0,y,rfl⟩
 ·exact Or.inl rfl
 right
 have hlt:g < X.heap.size:=(World.ownsRow.lt ho g rfl).2
 refine ⟨g,0,rfl,hlt,fun j c hj=>?_⟩
 have hg:∀ k v,k < 7 -> (cc5 c)[k]? = some v -> X.cell? ⟨g,0 + (j * 7 + k),none⟩ = some v:=fun k v hk7 hv=>row5_cell ho (by
  have h1:=cc5_get hj k v hv hk7
  rw [List.getElem?_append_left (List.getElem?_eq_some_iff.1 h1).1]
  exact h1)
 refine ⟨?_, ?_, ?_, ?_, ?_, ?_, ?_⟩
 ·simpa using hg 0 _ (by omega) rfl
 ·simpa [Nat.add_assoc] using hg 1 _ (by omega) rfl
 ·simpa [Nat.add_assoc] using hg 2 _ (by omega) rfl
 ·simpa [Nat.add_assoc] using hg 3 _ (by omega) rfl
 ·simpa [Nat.add_assoc] using hg 4 _ (by omega) rfl
 ·simpa [Nat.add_assoc] using hg 5 _ (by omega) rfl
 ·simpa [Nat.add_assoc] using hg 6 _ (by omega) rfl
end Go.Proofs.YtcpjiahdaplhlaaGreatDoor
namespace Go.Proofs.YtcpjiahdaplhlaaGreatDoor
open Go.RowKit
attribute [local go_sem ↓] Go.wp_at_zero Go.wp_at_succ
theorem row8_front {w:World} {base size g n k cap:Nat} {e:TypeId} {xs ys:List Value} (h:w.ownsRow base e size (.slice (some ⟨g,0,none⟩) (n + k) cap) (n + k) (xs ++ ys)) (hx:xs.length = n * size):w.ownsRow base e size (.slice (some ⟨g,0,none⟩) n cap) n xs:=by
 refine ⟨hx, ?_⟩
 rcases h.2 with ⟨h,_⟩ | ⟨g',cap',cur,hv,hb,hg,hn,hc,hs,ht⟩
 ·cases h
 ·simp only [Value.slice.injEq,Option.some.injEq,Addr.mk.injEq] at hv
  obtain ⟨⟨rfl, -⟩, -,rfl⟩:=hv
  refine Or.inr ⟨g,cap,cur,rfl,hb,hg,by omega,hc,hs, ?_⟩
  have h1:=congrArg (List.take (n * size)) ht
  rw [List.take_take,List.take_left' hx] at h1
  rw [Nat.min_eq_left (Nat.mul_le_mul_right _ (by omega))] at h1
  exact h1
structure En5 (w:World):Prop where
 e:EnvOk w
 o:OpsOk w
 q:QOk w
 g:Sg5 w
 m:MkOk w
theorem En5.later {w w':World} (h:En5 w) (hb:Below w.heap.size w w'):En5 w':=⟨h.e.later hb,h.o.fr (P:=fun _=>False) (Fr.of hb) fun h=>h,h.q.later hb,h.g.later hb,h.m.later hb⟩
def mC5:List Value:=[.int .i64 0,.int .i64 0,.string ⟨#[]⟩,.string ⟨#[109,97,114,107]⟩,.slice none 0 0,.slice none 0 0,.slice none 0 0]
structure OM5 (B:Nat) (X:World) (g cap n:Nat) (L:List Cm):Prop where
 o:X.ownsRow B 53 7 (.slice (some ⟨g,0,none⟩) (n + 1) cap) (n + 1) (L.flatMap cc5 ++ mC5)
 k:∀ d ∈ L,Lc5 B X d
 n:L.length = n
theorem OM5.later {B:Nat} {X X':World} {g cap n:Nat} {L:List Cm} (h:OM5 B X g cap n L) (hb:Below X.heap.size X X'):OM5 B X' g cap n L:=⟨row7_below h.o hb,fun d hd=>(h.k d hd).later hb,h.n⟩
theorem OM5.low {B G:Nat} {X X':World} {g cap n:Nat} {L:List Cm} (h:OM5 B X g cap n L) (hf:Fr (fun b=>b = G) X X') (hG:G < B):OM5 B X' g cap n L:=⟨row_low h.o hf hG,fun d hd=>⟨(h.k d hd).l.low hf hG,(h.k d hd).s,(h.k d hd).n⟩,h.n⟩
theorem cc5_flat_len (L:List Cm):(L.flatMap cc5).length = L.length * 7:=by
 induction L with
 | nil=>rfl
 | cons d r ih=>rw [List.flatMap_cons,List.length_append,ih,List.length_cons];show 7 + _ = _;omega
theorem OM5.cap {B:Nat} {X:World} {g cap n:Nat} {L:List Cm} (h:OM5 B X g cap n L):n + 1 <= cap:=by
 rcases h.o.2 with ⟨e,_⟩ | ⟨g',c,cur,hv,_,_,hn,_⟩
 ·cases e
 ·simp only [Value.slice.injEq] at hv;omega
theorem OM5.cx {B:Nat} {X:World} {g cap n:Nat} {L:List Cm} (h:OM5 B X g cap n L):Cx5 X (.slice (some ⟨g,0,none⟩) n cap) L:=cx_front h.n h.o fun d hd=>(h.k d hd).rp.ok
theorem OM5.front {B:Nat} {X:World} {g cap n:Nat} {L:List Cm} (h:OM5 B X g cap n L):X.ownsRow B 53 7 (.slice (some ⟨g,0,none⟩) n cap) n (L.flatMap cc5):=row8_front h.o (by rw [cc5_flat_len,h.n])
theorem OM5.lt {B:Nat} {X:World} {g cap n:Nat} {L:List Cm} (h:OM5 B X g cap n L):B <= g /\ g < X.heap.size:=World.ownsRow.lt h.o g rfl
theorem OM5.mark {B:Nat} {X:World} {g cap n:Nat} {L:List Cm} (h:OM5 B X g cap n L):X.cell? ⟨g,n * 7 + 3,none⟩ = some (.string ⟨#[109,97,114,107]⟩):=by
 have h1:(L.flatMap cc5 ++ mC5)[n * 7 + 3]? = some (.string ⟨#[109,97,114,107]⟩):=by
  rw [List.getElem?_append_right (by rw [cc5_flat_len,h.n];omega),cc5_flat_len,h.n,show n * 7 + 3 - n * 7 = 3 by omega]
  rfl
 have:=row5_cell h.o h1
 rw [Nat.zero_add] at this
 exact this
def Cs7 (X:World) (g o:Nat) (c:Cm):Prop:=X.cell? ⟨g,o,none⟩ = some (.int .i64 c.head.1.by_.k) /\ X.cell? ⟨g,o + 1,none⟩ = some (.int .i64 c.head.1.by_.n) /\ X.cell? ⟨g,o + 2,none⟩ = some (.string c.head.1.by_.s) /\ X.cell? ⟨g,o + 3,none⟩ = some (.string c.head.1.name) /\ X.cell? ⟨g,o + 4,none⟩ = some c.head.2 /\ X.cell? ⟨g,o + 5,none⟩ = some c.bv /\ X.cell? ⟨g,o + 6,none⟩ = some c.tv
theorem OM5.at_ {B:Nat} {X:World} {g cap n j:Nat} {L:List Cm} {d:Cm} (h:OM5 B X g cap n L) (hj:L[j]? = some d):Cs7 X g (j * 7) d:=by
 obtain ⟨⟨a,cap',e,hm⟩, -⟩:=h.cx
 rcases hm with e1 | ⟨b,o,e1, -,hc⟩
 ·rw [e1] at hj;simp at hj
 ·simp only [Value.slice.injEq] at e
  obtain ⟨rfl, -, -⟩:=e
  simp only [Option.some.injEq,Addr.mk.injEq] at e1
  obtain ⟨rfl,rfl, -⟩:=e1
  have:=hc j d hj
  simpa [Cs7] using this
theorem flat_set:∀ (L:List Cm) (j:Nat) (d:Cm),j < L.length -> ((((((((L.flatMap cc5).set (j * 7) (.int .i64 d.head.1.by_.k)).set (j * 7 + 1) (.int .i64 d.head.1.by_.n)).set (j * 7 + 2) (.string d.head.1.by_.s)).set (j * 7 + 3) (.string d.head.1.name)).set (j * 7 + 4) d.head.2).set (j * 7 + 5) d.bv).set (j * 7 + 6) d.tv) = (L.set j d).flatMap cc5
 | [],j,d,h=>by simp at h
 | x :: r,0,d,h=>rfl
 | x :: r,j + 1,d,h=>by
  have ih:=flat_set r j d (by simpa using h)
  rw [List.set_cons_succ,List.flatMap_cons,List.flatMap_cons, <- ih]
  have hl:(cc5 x).length = 7:=rfl
  have e0:(j + 1) * 7 = j * 7 + 7:=by omega
  simp only [e0]
  have s:∀ (M:List Value) (i:Nat) (u:Value),(cc5 x ++ M).set (i + 7) u = cc5 x ++ M.set i u:=fun M i u=>by
   rw [List.set_append_right _ _ (by rw [hl];omega),hl,Nat.add_sub_cancel]
  simp only [s]
set_option maxHeartbeats 1000000 in
theorem OM5.put {B:Nat} {X:World} {g cap n j:Nat} {L:List Cm} {d:Cm} (h:OM5 B X g cap n L) (hd:d ∈ L) (hj:j < n) :
  OM5 B (((((((X.setCell ⟨g,j * 7,none⟩ (.int .i64 d.head.1.by_.k)).setCell ⟨g,j * 7 + 1,none⟩ (.int .i64 d.head.1.by_.n)).setCell ⟨g,j * 7 + 2,none⟩ (.string d.head.1.by_.s)).setCell ⟨g,j * 7 + 3,none⟩ (.string d.head.1.name)).setCell ⟨g,j * 7 + 4,none⟩ d.head.2).setCell ⟨g,j * 7 + 5,none⟩ d.bv).setCell ⟨g,j * 7 + 6,none⟩ d.tv) g cap n (L.set j d):=by
 have hj7:j * 7 + 7 <= n * 7:=by omega
 have r0:=row_put8 (.int .i64 d.head.1.by_.k) h.o (i:=j * 7) (by omega)
 have r1:=row_put8 (.int .i64 d.head.1.by_.n) r0 (i:=j * 7 + 1) (by omega)
 have r2:=row_put8 (.string d.head.1.by_.s) r1 (i:=j * 7 + 2) (by omega)
 have r3:=row_put8 (.string d.head.1.name) r2 (i:=j * 7 + 3) (by omega)
 have r4:=row_put8 d.head.2 r3 (i:=j * 7 + 4) (by omega)
 have r5:=row_put8 d.bv r4 (i:=j * 7 + 5) (by omega)
 have r6:=row_put8 d.tv r5 (i:=j * 7 + 6) (by omega)
 have hl:=cc5_flat_len L
 rw [h.n] at hl
 refine ⟨?_, ?_,by rw [List.length_set];exact h.n⟩
 ·rw [<- flat_set L j d (by rw [h.n];exact hj)]
  rw [List.set_append_left _ _ (by omega),List.set_append_left _ _ (by rw [List.length_set];omega),List.set_append_left _ _ (by simp only [List.length_set];omega),List.set_append_left _ _ (by simp only [List.length_set];omega),List.set_append_left _ _ (by simp only [List.length_set];omega),List.set_append_left _ _ (by simp only [List.length_set];omega),List.set_append_left _ _ (by simp only [List.length_set];omega)] at r6
  exact r6
 ·rcases h.o.2 with ⟨e,_⟩ | ⟨g',c,cur,hv,_,hg,_⟩
  ·cases e
  ·simp only [Value.slice.injEq,Option.some.injEq,Addr.mk.injEq] at hv
   obtain ⟨⟨rfl, -⟩, -,rfl⟩:=hv
   have hb:Bk X g cur 53:=hg
   have hf:Fr (fun b=>b = g) X (((((((X.setCell ⟨g,j * 7,none⟩ (.int .i64 d.head.1.by_.k)).setCell ⟨g,j * 7 + 1,none⟩ (.int .i64 d.head.1.by_.n)).setCell ⟨g,j * 7 + 2,none⟩ (.string d.head.1.by_.s)).setCell ⟨g,j * 7 + 3,none⟩ (.string d.head.1.name)).setCell ⟨g,j * 7 + 4,none⟩ d.head.2).setCell ⟨g,j * 7 + 5,none⟩ d.bv).setCell ⟨g,j * 7 + 6,none⟩ d.tv):=(((((((Fr.refl (fun b=>b = g) _).set (Or.inl rfl)).set (Or.inl rfl)).set (Or.inl rfl)).set (Or.inl rfl)).set (Or.inl rfl)).set (Or.inl rfl)).set (Or.inl rfl)
   intro e he
   have hm:e ∈ L:=by
    rcases List.mem_or_eq_of_mem_set he with h1 | h1
    ·exact h1
    ·rw [h1];exact hd
   have:=h.k e hm
   exact ⟨this.l.frB hb hf,this.s,this.n⟩
theorem Lt5.mono {B B':Nat} {X:World} {d:Cm} (h:Lt5 B X d) (hb:B' <= B):Lt5 B' X d:=by
 obtain ⟨h1,⟨⟨g,cap,e,ho⟩,hts⟩,⟨g2,cap2,e2,ho2⟩⟩:=h
 exact ⟨h1.mono hb,⟨⟨g,cap,e,row_mono5 ho hb⟩,fun x hx=>(hts x hx).mono hb⟩,⟨g2,cap2,e2,row_mono5 ho2 hb⟩⟩
theorem lc_form {B:Nat} {X:World} {d x:Cm} (h:Lt5 B X d) (hk:d.key = x.key):∃ y1 y2 y3 y4 y5 y6 y7 y8 y9 db dt,d = ⟨(x.head.1,.slice (some ⟨y1,0,none⟩) y2 y3),db,.slice (some ⟨y4,0,none⟩) y5 y6,dt,.slice (some ⟨y7,0,none⟩) y8 y9⟩:=by
 obtain ⟨⟨dx,du⟩,db,dbv,dt,dtv⟩:=d
 obtain rfl:dx = x.head.1:=congrArg (fun k:Ck=>k.1) hk
 obtain ⟨y1,y3,e1, -⟩:=h.h
 obtain ⟨y4,y6,e4, -⟩:=h.b.o
 obtain ⟨y7,y9,e7, -⟩:=h.t
 dsimp only at e1 e4 e7
 subst e1 e4 e7
 exact ⟨_,_,_,_,_,_,_,_,_,_,_,rfl⟩
end Go.Proofs.YtcpjiahdaplhlaaGreatDoor
namespace Go.Proofs.YtcpjiahdaplhlaaGreatDoor
open Go.RowKit
theorem lc_form0 {B:Nat} {X:World} {d:Cm} (h:Lt5 B X d):∃ dx y1 y2 y3 y4 y5 y6 y7 y8 y9 db dt,d = ⟨(dx,.slice (some ⟨y1,0,none⟩) y2 y3),db,.slice (some ⟨y4,0,none⟩) y5 y6,dt,.slice (some ⟨y7,0,none⟩) y8 y9⟩:=by
 obtain ⟨y1,y2,y3,y4,y5,y6,y7,y8,y9,db,dt,e⟩:=lc_form (x:=d) h rfl
 exact ⟨_,y1,y2,y3,y4,y5,y6,y7,y8,y9,db,dt,e⟩
theorem cc5_ones {X:World} {M:List Cm} (h:∀ d ∈ M,d.ok X):∀ u ∈ M.flatMap cc5,u.oneCell' = true:=fun u hu=>by
 obtain ⟨d,hd,h1⟩:=List.mem_flatMap.1 hu
 exact cc5_one (h d hd) u h1
theorem cx_row {B:Nat} {X:World} {n:Nat} {v:Value} {M:List Cm} (hn:M.length = n) (ho:X.ownsRow B 53 7 v n (M.flatMap cc5)) (hk:∀ d ∈ M,d.ok X):Cx5 X v M:=by
 rcases ho.2 with ⟨rfl,rfl⟩ | ⟨g,cap,cur,rfl, -⟩
 ·obtain rfl:M = []:=List.length_eq_zero_iff.1 hn
  exact ⟨⟨none,0,rfl,Or.inl rfl⟩,hk⟩
 ·exact cx_front hn (by rw [List.append_nil];exact ho) hk
def nm8 (j:Nat):List Tm:=(List.range j).map fun (i:Nat)=>⟨1,(i:Int),⟨#[]⟩⟩
theorem nm8_len (j:Nat):(nm8 j).length = j:=by unfold nm8;rw [List.length_map,List.length_range]
theorem nm8_succ (j:Nat):nm8 (j + 1) = nm8 j ++ [⟨1,(j:Int),⟨#[]⟩⟩]:=by
 unfold nm8
 rw [List.range_succ,List.map_append]
 rfl
theorem nm8_step {xl:List Tm} {j:Nat} (h:j < xl.length):((nm8 j ++ xl.drop j) ++ [mT]).set j ⟨1,(j:Int),⟨#[]⟩⟩ = (nm8 (j + 1) ++ xl.drop (j + 1)) ++ [mT]:=by
 have hd:xl.drop j = xl[j] :: xl.drop (j + 1):=List.drop_eq_getElem_cons h
 rw [nm8_succ,hd,List.append_assoc,List.set_append_right _ _ (by rw [nm8_len];exact Nat.le_refl _),nm8_len,Nat.sub_self,List.cons_append,List.set_cons_zero,List.append_assoc,List.append_assoc]
 rfl
theorem tcs_set8:∀ (l:List Tm) (j:Nat) (d:Tm),j < l.length -> (((tcs l).set (j * 3) (.int .i64 d.k)).set (j * 3 + 1) (.int .i64 d.n)).set (j * 3 + 2) (.string d.s) = tcs (l.set j d)
 | [],j,d,h=>by simp at h
 | x :: r,0,d,h=>rfl
 | x :: r,j + 1,d,h=>by
  have ih:=tcs_set8 r j d (by simpa using h)
  rw [List.set_cons_succ]
  unfold tcs at ih ⊢
  rw [List.flatMap_cons,List.flatMap_cons, <- ih]
  have hl:(Tm.cs x).length = 3:=rfl
  have e0:(j + 1) * 3 = j * 3 + 3:=by omega
  have s:∀ (M:List Value) (i:Nat) (u:Value),(Tm.cs x ++ M).set (i + 3) u = Tm.cs x ++ M.set i u:=fun M i u=>by
   rw [List.set_append_right _ _ (by rw [hl];omega),hl,Nat.add_sub_cancel]
  simp only [e0,s]
theorem ownT_put {X:World} {B g cap n j:Nat} {l:List Tm} (d:Tm) (h:OwnT X B (.slice (some ⟨g,0,none⟩) n cap) l) (hn:l.length = n) (hj:j < n):OwnT (((X.setCell ⟨g,j * 3,none⟩ (.int .i64 d.k)).setCell ⟨g,j * 3 + 1,none⟩ (.int .i64 d.n)).setCell ⟨g,j * 3 + 2,none⟩ (.string d.s)) B (.slice (some ⟨g,0,none⟩) n cap) (l.set j d):=by
 unfold OwnT at h ⊢
 rw [hn] at h
 rw [List.length_set,hn, <- tcs_set8 l j d (by omega)]
 have r0:=row_put8 (.int .i64 d.k) h (i:=j * 3) (by omega)
 have r1:=row_put8 (.int .i64 d.n) r0 (i:=j * 3 + 1) (by omega)
 exact row_put8 (.string d.s) r1 (i:=j * 3 + 2) (by omega)
theorem row_bk0 {X:World} {B e n m m' g cap:Nat} {l:List Value} (h:X.ownsRow B e n (.slice (some ⟨g,0,none⟩) m' cap) m l):∃ cur,Bk X g cur e:=by
 rcases h.2 with ⟨e,_⟩ | ⟨g',c,cur,hv,_,hg,_⟩
 ·cases e
 ·simp only [Value.slice.injEq,Option.some.injEq,Addr.mk.injEq] at hv
  obtain ⟨⟨rfl, -⟩, -,rfl⟩:=hv
  exact ⟨cur,hg⟩
theorem set0 {M:List Cm} {j:Nat} {d:Cm} (h:M[0]? = some d):(M.set j d)[0]? = M[0]? := by
 cases j with
 | zero=>
  cases M with
  | nil=>simp at h
  | cons x r=>simp at h;simp [h]
 | succ j=>
  cases M with
  | nil=>simp at h
  | cons x r=>simp
end Go.Proofs.YtcpjiahdaplhlaaGreatDoor

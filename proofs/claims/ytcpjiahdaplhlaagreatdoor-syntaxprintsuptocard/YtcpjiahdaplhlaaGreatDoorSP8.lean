import Derived.Test.YtcpjiahdaplhlaaGreatDoorB2
import Derived.Test.YtcpjiahdaplhlaaGreatDoorSP8C
import Derived.Test.YtcpjiahdaplhlaaGreatDoorST6
namespace Go.Proofs.YtcpjiahdaplhlaaGreatDoor
open Go.RowKit
attribute [local go_sem ↓] Go.wp_at_zero Go.wp_at_succ
set_option maxRecDepth 20000 in
set_option maxHeartbeats 16000000 in
theorem prints_any (t:Tm) (a:At) (xv:Value) (l:List Cm) (v:Value) (w:World) (ht:N64 t.n) (ha:TsP w xv a.args) (hal:a.args.length <= 1048576) (han:∀ t ∈ a.pl,N64 t.n) (hc:Cx5 w v l) (hco:∀ c ∈ l,Op5 w c) (hl:l.length <= 1048576) (hN:En5 w) :
  Calls Tryz.prog 4 #[t.v,a.v xv,v] w fun e w'=>e = .returned (.bool true) /\ Below w.heap.size w w':=by
 have hts:Ts w xv a.args:=ha.ts (by omega)
 have HPT:Hid (∀ X:World,Below w.heap.size w X -> Calls Tryz.prog 17 #[t.v] X fun e w'=>e = .returned (.string (pt5 t)) /\ Below X.heap.size X w'):=fun X hX=>printTerm_any t ht X (hN.e.later hX)
 have HRT:Hid (∀ X:World,Below w.heap.size w X -> Calls Tryz.prog 18 #[t.v] X fun e w'=>e = .returned (.string (pt5 t)) /\ Below X.heap.size X w'):=fun X hX=>rprintTerm_any t ht X (hN.q.later hX)
 have HRA:Hid (∀ X:World,Below w.heap.size w X -> Calls Tryz.prog 20 #[a.v xv] X fun e w'=>e = .returned (.string (pa5 a)) /\ Below X.heap.size X w'):=fun X hX=>rprintAtom_any a xv X (hts.later hX) han (hN.q.later hX)
 have HRQ:Hid (∀ X:World,Below w.heap.size w X -> Calls Tryz.prog 22 #[a.v xv] X fun e w'=>e = .returned (.string (pq5 a)) /\ Below X.heap.size X w'):=fun X hX=>rprintQuery_any a xv X (hts.later hX) han (hN.q.later hX)
 have HUA:Hid (∀ (u:Value) (X:World),Below w.heap.size w X -> Ts X u a.args -> (Calls Tryz.prog 19 #[a.v u] X fun e w'=>e = .returned (.string (pa5 a)) /\ Below X.heap.size X w') /\ Calls Tryz.prog 21 #[a.v u] X fun e w'=>e = .returned (.string (pq5 a)) /\ Below X.heap.size X w'):=fun u X hX hu=>⟨printAtom_any a u X hu han (hN.e.later hX),printQuery_any a u X hu han (hN.e.later hX)⟩
 have HKU:Hid (∀ (u:Value) (B:Nat) (X:World),Below w.heap.size w X -> LtT X B u a.args -> Calls Tryz.prog 29 #[a.v u,a.v xv] X fun e w'=>e = .returned (.bool true) /\ Below X.heap.size X w'):=fun u B X hX hu=>keptAtom_any a u xv B X (hts.later hX) hu (hN.m.later hX)
 have HFI:Hid (∀ X:World,Below w.heap.size w X -> Calls Tryz.prog 8 #[] X fun e w'=>e = .returned (.bool true) /\ Below X.heap.size X w'):=fun X hX=>first5_any X (hN.later hX).e (hN.later hX).o
 have HEN:=hm7 hN
 have HCX:=hm7 hc
 have HCO:=hm7 hco
 have HAN:=hm7 han
 obtain ⟨aa,ac,hxf⟩:=ha.form
 have HAT:=hm7 ha
 obtain ⟨⟨va,vc,hvf,hvm⟩, -⟩:=hc
 obtain ⟨⟨ak,an,az⟩,am,xl⟩:=a
 obtain ⟨tk,tn,tz⟩:=t
 dsimp only at hxf hal HAT
 obtain ⟨al,hall⟩:∃ z,xl.length = z:=⟨_,rfl⟩
 obtain ⟨n,hnl⟩:∃ z,l.length = z:=⟨_,rfl⟩
 rw [hall] at hxf hal
 rw [hnl] at hvf hl
 subst hxf hvf
 have HAL:=hm7 hall
 have HNL:=hm7 hnl
 have HVM:=hm7 hvm
 obtain ⟨pt,hpt⟩:∃ z,pt5 ⟨tk,tn,tz⟩ = z:=⟨_,rfl⟩
 obtain ⟨pa,hpa⟩:∃ z,pa5 ⟨⟨ak,an,az⟩,am,xl⟩ = z:=⟨_,rfl⟩
 obtain ⟨pq,hpq⟩:∃ z,pq5 ⟨⟨ak,an,az⟩,am,xl⟩ = z:=⟨_,rfl⟩
 rw [hpt] at HPT HRT
 rw [hpa] at HRA HUA
 rw [hpq] at HRQ HUA
 show Calls Tryz.prog 4 #[.agg #[.int .i64 tk,.int .i64 tn,.string tz],.agg #[.int .i64 ak,.int .i64 an,.string az,.string am,.slice aa al ac],.slice va n vc] w _
 obtain ⟨t1,t2,t3⟩:=two5 w #[.int .i64 tk,.int .i64 tn,.string tz] #[.int .i64 ak,.int .i64 an,.string az,.string am,.slice aa al ac] 39 42
 have HA0:=hm7 t1
 have HT0:=hm7 t2
 have HB0:=hm7 t3
 have HLA0:=hm7 (lentAtom_any ⟨⟨ak,an,az⟩,am,xl⟩ (.slice aa al ac) _ (ha.later HB0.out) (by show xl.length <= _;omega) (hN.m.later HB0.out))
 clear t1 t2 t3 ht ha han hco hN hts hall hnl hvm hpt hpa hpq
 go_enter Tryz.func4,Tryz.ntmps4
 go_upto_region 1 with fail
 revert HA0 HT0 HB0 HLA0
 generalize (w.alloc (.cells #[.int .i64 tk,.int .i64 tn,.string tz] 39)).alloc (.cells #[.int .i64 ak,.int .i64 an,.string az,.string am,.slice aa al ac] 42) = W0
 intro HA0 HT0 HB0 HLA0
 obtain ⟨q,hq⟩:∃ z,w.heap.size = z:=⟨_,rfl⟩
 obtain ⟨r,hr⟩:∃ z,q + 1 = z:=⟨_,rfl⟩
 rw [hq,hr] at HA0
 rw [hq] at HT0
 rw [hq,hr]
 have HQ:=hm7 hq
 clear hq hr
 have y0:=HA0.out.cell (i:=0) rfl
 have y1:=HA0.out.cell (i:=1) rfl
 have y2:=HA0.out.cell (i:=2) rfl
 have y3:=HA0.out.cell (i:=3) rfl
 have y4:=HA0.out.cell (i:=4) rfl
 go_upto_region 2 with (go_at_call 16;refine HLA0.out.mono ?_;rintro e w1 ⟨u,rfl,hlu,hb⟩;have HLU0:=hm7 hlu;have HB1a:=hm7 hb;obtain ⟨gu,cu,hgu, -⟩:=hlu;generalize hul:List.length _ = un at hgu;obtain rfl:al = un:=(by rw [<- hul, <- HAL.out]);subst hgu;clear hb hul y0 y1 y2 y3 y4)
 have hbA:=below1 w1 (.cells #[.int .i64 ak,.int .i64 an,.string az,.string am,.slice (some ⟨gu,0,none⟩) al cu] 42)
 have HX1:=hm7 (Bk.new w1 #[.int .i64 ak,.int .i64 an,.string az,.string am,.slice (some ⟨gu,0,none⟩) al cu] 42)
 have HT1:=hm7 (HT0.out.below (below_step HB1a.out hbA))
 have HA1:=hm7 (HA0.out.below (below_step HB1a.out hbA))
 have HLU:=hm7 ((HLU0.out.later hbA).mono HB0.out.size)
 have HB1:=hm7 (below_step HB0.out (below_step HB1a.out hbA))
 clear hbA HLU0 HB1a HT0 HA0 HLA0 HB0
 revert HX1
 revert HT1
 revert HA1
 revert HLU
 revert HB1
 generalize w1.alloc (.cells #[.int .i64 ak,.int .i64 an,.string az,.string am,.slice (some ⟨gu,0,none⟩) al cu] 42) = W1
 intro HB1 HLU HA1 HT1 HX1
 obtain ⟨bx,hbx⟩:∃ z,w1.heap.size = z:=⟨_,rfl⟩
 rw [hbx] at HX1
 rw [hbx]
 clear hbx
 have HPA:Hid (∀ X:World,Below W1.heap.size W1 X -> Calls Tryz.prog 19 #[.agg #[.int .i64 ak,.int .i64 an,.string az,.string am,.slice (some ⟨gu,0,none⟩) al cu]] X fun e w'=>e = .returned (.string pa) /\ Below X.heap.size X w'):=fun X hX=>(HUA.out _ X (below_step HB1.out hX) ((HLU.out.later hX).ts (by have:=HAL.out;omega))).1
 have HPQ:Hid (∀ X:World,Below W1.heap.size W1 X -> Calls Tryz.prog 21 #[.agg #[.int .i64 ak,.int .i64 an,.string az,.string am,.slice (some ⟨gu,0,none⟩) al cu]] X fun e w'=>e = .returned (.string pq) /\ Below X.heap.size X w'):=fun X hX=>(HUA.out _ X (below_step HB1.out hX) ((HLU.out.later hX).ts (by have:=HAL.out;omega))).2
 refine wp_region_held_drew (S:=fun w'=>Below W1.heap.size W1 w') (by kernel_rfl) (Below.refl _ _).drew (fun hH=>?_)
 revert hH
 generalize W1.drew = V
 intro hH
 refine wTl 0 (.agg #[.int .i64 tk,.int .i64 tn,.string tz]) rfl (by kernel_rfl) (fun _ _ _ h=>h) rfl (fun w' h=>by have _h:=h;have a0:=(HT1.out.below h).cell (i:=0) rfl;have a1:=(HT1.out.below h).cell (i:=1) rfl;have a2:=(HT1.out.below h).cell (i:=2) rfl;go_simp) hH ?_
 simp only [wA,wB,wC,wD]
 refine wTl 2 (.agg #[.int .i64 tk,.int .i64 tn,.string tz]) rfl (by kernel_rfl) (fun _ _ _ h=>h) rfl (fun w' h=>by have _h:=h;have a0:=(HT1.out.below h).cell (i:=0) rfl;have a1:=(HT1.out.below h).cell (i:=1) rfl;have a2:=(HT1.out.below h).cell (i:=2) rfl;go_simp) hH ?_
 simp only [wA,wB,wC,wD]
 refine wRd 1 (by kernel_rfl) rfl (fun K0 hK=>?_)
 go_simp
 refine (HPT.out _ (below_step HB1.out hH)).mono ?_
 rintro e V1 ⟨rfl,hb⟩
 refine hK.out _ _ (below_step hH hb) (fun hH=>?_)
 clear hK K0 hb
 try simp only [wA,wB,wC,wD]
 refine wRd 3 (by kernel_rfl) rfl (fun K0 hK=>?_)
 go_simp
 refine (HRT.out _ (below_step HB1.out hH)).mono ?_
 rintro e V2 ⟨rfl,hb⟩
 refine hK.out _ _ (below_step hH hb) (fun hH=>?_)
 clear hK K0 hb
 try simp only [wA,wB,wC,wD]
 refine wTl 4 (.bool false) rfl (by kernel_rfl) (fun _ _ _ h=>h) rfl (fun w' h=>by have _h:=h;go_simp) hH ?_
 simp only [wA,wB,wC,wD]
 refine wTl 5 (.bool false) rfl (by kernel_rfl) (fun _ _ _ h=>h) rfl (fun w' h=>by have _h:=h;go_simp) hH ?_
 simp only [wA,wB,wC,wD]
 refine wTl 6 (.agg #[.int .i64 ak,.int .i64 an,.string az,.string am,.slice (some ⟨gu,0,none⟩) al cu]) rfl (by kernel_rfl) (fun _ _ _ h=>h) rfl (fun w' h=>by have _h:=h;have a0:=(HX1.out.below h).cell (i:=0) rfl;have a1:=(HX1.out.below h).cell (i:=1) rfl;have a2:=(HX1.out.below h).cell (i:=2) rfl;have a3:=(HX1.out.below h).cell (i:=3) rfl;have a4:=(HX1.out.below h).cell (i:=4) rfl;go_simp) hH ?_
 simp only [wA,wB,wC,wD]
 refine wTl 8 (.agg #[.int .i64 ak,.int .i64 an,.string az,.string am,.slice aa al ac]) rfl (by kernel_rfl) (fun _ _ _ h=>h) rfl (fun w' h=>by have _h:=h;have a0:=(HA1.out.below h).cell (i:=0) rfl;have a1:=(HA1.out.below h).cell (i:=1) rfl;have a2:=(HA1.out.below h).cell (i:=2) rfl;have a3:=(HA1.out.below h).cell (i:=3) rfl;have a4:=(HA1.out.below h).cell (i:=4) rfl;go_simp) hH ?_
 simp only [wA,wB,wC,wD]
 refine wRd 7 (by kernel_rfl) rfl (fun K0 hK=>?_)
 go_simp
 refine (HPA.out _ hH).mono ?_
 rintro e V3 ⟨rfl,hb⟩
 refine hK.out _ _ (below_step hH hb) (fun hH=>?_)
 clear hK K0 hb
 try simp only [wA,wB,wC,wD]
 refine wRd 9 (by kernel_rfl) rfl (fun K0 hK=>?_)
 go_simp
 refine (HRA.out _ (below_step HB1.out hH)).mono ?_
 rintro e V4 ⟨rfl,hb⟩
 refine hK.out _ _ (below_step hH hb) (fun hH=>?_)
 clear hK K0 hb
 try simp only [wA,wB,wC,wD]
 refine wTl 10 (.bool false) rfl (by kernel_rfl) (fun _ _ _ h=>h) rfl (fun w' h=>by have _h:=h;go_simp) hH ?_
 simp only [wA,wB,wC,wD]
 refine wTl 11 (.bool false) rfl (by kernel_rfl) (fun _ _ _ h=>h) rfl (fun w' h=>by have _h:=h;go_simp) hH ?_
 simp only [wA,wB,wC,wD]
 refine wTl 12 (.bool false) rfl (by kernel_rfl) (fun _ _ _ h=>h) rfl (fun w' h=>by have _h:=h;go_simp) hH ?_
 simp only [wA,wB,wC,wD]
 refine wTl 13 (.agg #[.int .i64 ak,.int .i64 an,.string az,.string am,.slice (some ⟨gu,0,none⟩) al cu]) rfl (by kernel_rfl) (fun _ _ _ h=>h) rfl (fun w' h=>by have _h:=h;have a0:=(HX1.out.below h).cell (i:=0) rfl;have a1:=(HX1.out.below h).cell (i:=1) rfl;have a2:=(HX1.out.below h).cell (i:=2) rfl;have a3:=(HX1.out.below h).cell (i:=3) rfl;have a4:=(HX1.out.below h).cell (i:=4) rfl;go_simp) hH ?_
 simp only [wA,wB,wC,wD]
 refine wTl 15 (.agg #[.int .i64 ak,.int .i64 an,.string az,.string am,.slice aa al ac]) rfl (by kernel_rfl) (fun _ _ _ h=>h) rfl (fun w' h=>by have _h:=h;have a0:=(HA1.out.below h).cell (i:=0) rfl;have a1:=(HA1.out.below h).cell (i:=1) rfl;have a2:=(HA1.out.below h).cell (i:=2) rfl;have a3:=(HA1.out.below h).cell (i:=3) rfl;have a4:=(HA1.out.below h).cell (i:=4) rfl;go_simp) hH ?_
 simp only [wA,wB,wC,wD]
 refine wRd 14 (by kernel_rfl) rfl (fun K0 hK=>?_)
 go_simp
 refine (HPQ.out _ hH).mono ?_
 rintro e V5 ⟨rfl,hb⟩
 refine hK.out _ _ (below_step hH hb) (fun hH=>?_)
 clear hK K0 hb
 try simp only [wA,wB,wC,wD]
 refine wRd 16 (by kernel_rfl) rfl (fun K0 hK=>?_)
 go_simp
 refine (HRQ.out _ (below_step HB1.out hH)).mono ?_
 rintro e V6 ⟨rfl,hb⟩
 refine hK.out _ _ (below_step hH hb) (fun hH=>?_)
 clear hK K0 hb
 try simp only [wA,wB,wC,wD]
 refine wTl 17 (.bool false) rfl (by kernel_rfl) (fun _ _ _ h=>h) rfl (fun w' h=>by have _h:=h;go_simp) hH ?_
 simp only [wA,wB,wC,wD]
 refine wTl 18 (.bool false) rfl (by kernel_rfl) (fun _ _ _ h=>h) rfl (fun w' h=>by have _h:=h;go_simp) hH ?_
 simp only [wA,wB,wC,wD]
 refine wpAnyH_done (by kernel_rfl) ?_ _
 have HV:=hm7 hH
 clear hH
 clear HPT HRT HRA HRQ HPA HPQ HUA
 go_wp2
 go_loopg [8,9,10] n (fun g o i _ wr=>∃ j:Nat,j + g = n /\ i = .int .i64 (j:Int) /\ ∃ L:List Cm,L.map Cm.key = (l.take j).map Cm.key /\ OL5 W1.heap.size wr o L /\ Below W1.heap.size W1 wr)
 case atStart=>exact ⟨0,by omega,rfl,[],rfl,⟨World.ownsRow_nil _ _ _ _,fun d hd=>by cases hd⟩,HV.out⟩
 case round=>
  obtain ⟨j,hg,rfl,L,hLk,hL,hb⟩:=hrel
  have HLK:=hm7 hLk
  have HL:=hm7 hL
  have HB:=hm7 hb
  have HLL:Hid (L.length = j):=by
   have h1:=congrArg List.length hLk
   rw [List.length_map,List.length_map,List.length_take] at h1
   show _ = _
   have:=HNL.out
   omega
  obtain ⟨oa,oc,hof, -⟩:=row7_form hL.o
  rw [HLL.out] at hof
  subst hof
  clear hLk hL hb HV
  cases gk with
  | succ g=>
   have i0:(0:Int) <= (j:Int):=by omega
   have i1:(j:Int) < (n:Int):=by omega
   obtain ⟨x,hx⟩:∃ c,l[j]? = some c:=⟨_,List.getElem?_eq_getElem (by have:=HNL.out;omega)⟩
   have hxl:=List.mem_of_getElem? hx
   have HWr:=hm7 (below_step HB1.out HB.out)
   have hop:=(HCO.out x hxl).later HWr.out
   rcases HVM.out with e | ⟨sb,so,rfl,hz,hce⟩
   ·rw [e] at hx;simp at hx
   have hce:=hce j x hx
   have HZ:Hid (sb < w.heap.size):=hz
   have HCE:=hm7 hce
   have HTK:Hid ((l.take (j + 1)).map Cm.key = (l.take j).map Cm.key ++ [x.key]):=by show _ = _;rw [List.take_add_one,hx];simp
   have HLE:=hm7 (lent_any x wr hop.r.ok hop.r.hh hop.r.hp hop.e hop.s (HEN.out.later HWr.out).m)
   have HOP:=hm7 hop
   obtain ⟨⟨x1,x2,x3,e1⟩,⟨x4,x6,e2⟩,⟨x7,x9,e3⟩, -, -⟩:=hop.r.ok.shape
   obtain ⟨x5,h5⟩:∃ n,x.body.length = n:=⟨_,rfl⟩
   obtain ⟨x8,h8⟩:∃ n,x.tests.length = n:=⟨_,rfl⟩
   rw [h5] at e2
   rw [h8] at e3
   clear hx hxl hop hz hce h5 h8
   obtain ⟨⟨⟨⟨xk,xm,xs⟩,xn,xa⟩,xx⟩,xb,xbv,xt,xtv⟩:=x
   simp only at e1 e2 e3
   subst e1 e2 e3
   have HE1:Hid (Cs7 wr sb (so + j * 7) ⟨(⟨⟨xk,xm,xs⟩,xn,xa⟩,.slice x1 x2 x3),xb,.slice x4 x5 x6,xt,.slice x7 x8 x9⟩):=by
    obtain ⟨p0,p1,p2,p3,p4,p5,p6⟩:=HCE.out
    exact ⟨cell_step HWr.out HZ.out p0,cell_step HWr.out HZ.out p1,cell_step HWr.out HZ.out p2,cell_step HWr.out HZ.out p3,cell_step HWr.out HZ.out p4,cell_step HWr.out HZ.out p5,cell_step HWr.out HZ.out p6⟩
   obtain ⟨q0,q1,q2,q3,q4,q5,q6⟩:=HE1.out
   simp only at q0 q1 q2 q3 q4 q5 q6
   go_upto_region 9 with (go_at_call 23;refine HLE.out.mono ?_;rintro e w2 ⟨d,rfl,hdk,hdl,hb⟩;have HB2a:=hm7 hb;obtain ⟨y1,y2,y3,y4,y5,y6,y7,y8,y9,db,dt,rfl⟩:=lc_form hdl hdk;have HDK:=hm7 hdk;have HDL:=hm7 hdl;clear hb hdk hdl q0 q1 q2 q3 q4 q5 q6)
   have hbA:=below1 w2 (.cells #[.int .i64 xk,.int .i64 xm,.string xs,.string xn,.slice (some ⟨y1,0,none⟩) y2 y3,.slice (some ⟨y4,0,none⟩) y5 y6,.slice (some ⟨y7,0,none⟩) y8 y9] 53)
   have HD2:=hm7 (Bk.new w2 #[.int .i64 xk,.int .i64 xm,.string xs,.string xn,.slice (some ⟨y1,0,none⟩) y2 y3,.slice (some ⟨y4,0,none⟩) y5 y6,.slice (some ⟨y7,0,none⟩) y8 y9] 53)
   have HW2:=hm7 (below_step HB2a.out hbA)
   have HL2:Hid (Lc5 W1.heap.size (w2.alloc (.cells #[.int .i64 xk,.int .i64 xm,.string xs,.string xn,.slice (some ⟨y1,0,none⟩) y2 y3,.slice (some ⟨y4,0,none⟩) y5 y6,.slice (some ⟨y7,0,none⟩) y8 y9] 53)) ⟨(⟨⟨xk,xm,xs⟩,xn,xa⟩,.slice (some ⟨y1,0,none⟩) y2 y3),db,.slice (some ⟨y4,0,none⟩) y5 y6,dt,.slice (some ⟨y7,0,none⟩) y8 y9⟩):=Lc5.of ((HDL.out.later hbA).mono HB.out.size) HDK.out HOP.out
   clear hbA HDL HB2a HLE
   revert HD2
   revert HW2
   revert HL2
   generalize w2.alloc (.cells #[.int .i64 xk,.int .i64 xm,.string xs,.string xn,.slice (some ⟨y1,0,none⟩) y2 y3,.slice (some ⟨y4,0,none⟩) y5 y6,.slice (some ⟨y7,0,none⟩) y8 y9] 53) = W2
   intro HL2 HW2 HD2
   obtain ⟨bd,hbd⟩:∃ z,w2.heap.size = z:=⟨_,rfl⟩
   rw [hbd] at HD2
   rw [hbd]
   clear hbd
   have HWW:=hm7 (below_step HWr.out HW2.out)
   have HE2:Hid (Cs7 W2 sb (so + j * 7) ⟨(⟨⟨xk,xm,xs⟩,xn,xa⟩,.slice x1 x2 x3),xb,.slice x4 x5 x6,xt,.slice x7 x8 x9⟩):=by
    obtain ⟨p0,p1,p2,p3,p4,p5,p6⟩:=HCE.out
    exact ⟨cell_step HWW.out HZ.out p0,cell_step HWW.out HZ.out p1,cell_step HWW.out HZ.out p2,cell_step HWW.out HZ.out p3,cell_step HWW.out HZ.out p4,cell_step HWW.out HZ.out p5,cell_step HWW.out HZ.out p6⟩
   have HZ2:Hid (sb < W2.heap.size):=Nat.lt_of_lt_of_le HZ.out HWW.out.size
   have HOP2:=hm7 (HOP.out.later HW2.out)
   obtain ⟨tx,htx⟩:∃ z,pc5 (Cm.key ⟨(⟨⟨xk,xm,xs⟩,xn,xa⟩,.slice x1 x2 x3),xb,.slice x4 x5 x6,xt,.slice x7 x8 x9⟩) = z:=⟨_,rfl⟩
   have HPD:Hid (∀ X:World,Below W2.heap.size W2 X -> Calls Tryz.prog 24 #[.agg #[.int .i64 xk,.int .i64 xm,.string xs,.string xn,.slice (some ⟨y1,0,none⟩) y2 y3,.slice (some ⟨y4,0,none⟩) y5 y6,.slice (some ⟨y7,0,none⟩) y8 y9]] X fun e w'=>e = .returned (.string tx) /\ Below X.heap.size X w'):=fun X hX=>by
    have hn:=HL2.out
    have h1:=(HEN.out.later HWW.out).later hX
    have:=print5_any ⟨(⟨⟨xk,xm,xs⟩,xn,xa⟩,.slice (some ⟨y1,0,none⟩) y2 y3),db,.slice (some ⟨y4,0,none⟩) y5 y6,dt,.slice (some ⟨y7,0,none⟩) y8 y9⟩ X ((hn.later hX).rp.ok) (nw_key hn.s hn.n).1 hn.n h1.e h1.o
    rw [HDK.out,htx] at this
    exact this
   have HRD:Hid (∀ X:World,Below W2.heap.size W2 X -> Calls Tryz.prog 25 #[.agg #[.int .i64 xk,.int .i64 xm,.string xs,.string xn,.slice x1 x2 x3,.slice x4 x5 x6,.slice x7 x8 x9]] X fun e w'=>e = .returned (.string tx) /\ Below X.heap.size X w'):=fun X hX=>by
    have h1:=(HEN.out.later HWW.out).later hX
    have:=(HOP2.out.later hX).r.print h1.q h1.g
    rw [htx] at this
    exact this
   have HKD:Hid (∀ X:World,Below W2.heap.size W2 X -> Calls Tryz.prog 26 #[.agg #[.int .i64 xk,.int .i64 xm,.string xs,.string xn,.slice (some ⟨y1,0,none⟩) y2 y3,.slice (some ⟨y4,0,none⟩) y5 y6,.slice (some ⟨y7,0,none⟩) y8 y9],.agg #[.int .i64 xk,.int .i64 xm,.string xs,.string xn,.slice x1 x2 x3,.slice x4 x5 x6,.slice x7 x8 x9]] X fun e w'=>e = .returned (.bool true) /\ Below X.heap.size X w'):=fun X hX=>kept_any ⟨(⟨⟨xk,xm,xs⟩,xn,xa⟩,.slice (some ⟨y1,0,none⟩) y2 y3),db,.slice (some ⟨y4,0,none⟩) y5 y6,dt,.slice (some ⟨y7,0,none⟩) y8 y9⟩ ⟨(⟨⟨xk,xm,xs⟩,xn,xa⟩,.slice x1 x2 x3),xb,.slice x4 x5 x6,xt,.slice x7 x8 x9⟩ W1.heap.size X (HOP2.out.later hX).r.ok (HL2.out.later hX).l HDK.out HOP2.out.s ((HEN.out.later HWW.out).later hX).m
   have HOL2:=hm7 (HL.out.later HW2.out)
   have HBW2:=hm7 (below_step HB.out HW2.out)
   clear HE1 HCE HZ HOP HOP2 htx HL HB HW2 HWr HWW
   refine wp_region_held_drew (S:=fun w'=>Below W2.heap.size W2 w') (by kernel_rfl) (Below.refl _ _).drew (fun hH=>?_)
   revert hH
   generalize W2.drew = V
   intro hH
   refine wTl 0 (.agg #[.int .i64 xk,.int .i64 xm,.string xs,.string xn,.slice (some ⟨y1,0,none⟩) y2 y3,.slice (some ⟨y4,0,none⟩) y5 y6,.slice (some ⟨y7,0,none⟩) y8 y9]) rfl (by kernel_rfl) (fun _ _ _ h=>h) rfl (fun w' h=>by have _h:=h;have a0:=(HD2.out.below h).cell (i:=0) rfl;have a1:=(HD2.out.below h).cell (i:=1) rfl;have a2:=(HD2.out.below h).cell (i:=2) rfl;have a3:=(HD2.out.below h).cell (i:=3) rfl;have a4:=(HD2.out.below h).cell (i:=4) rfl;have a5:=(HD2.out.below h).cell (i:=5) rfl;have a6:=(HD2.out.below h).cell (i:=6) rfl;go_simp) hH ?_
   simp only [wA,wB,wC,wD]
   refine wTl 2 (.slice (some ⟨sb,so,none⟩) n vc) rfl (by kernel_rfl) (fun _ _ _ h=>h) rfl (fun w' h=>by have _h:=h;go_simp) hH ?_
   simp only [wA,wB,wC,wD]
   refine wTl 3 (.int .i64 (j:Int)) rfl (by kernel_rfl) (fun _ _ _ h=>h) rfl (fun w' h=>by have _h:=h;go_simp) hH ?_
   simp only [wA,wB,wC,wD]
   refine wTl 4 (.pointer (some ⟨sb,so + j * 7,none⟩)) rfl (by kernel_rfl) (fun _ _ _ h=>h) rfl (fun w' h=>by have _h:=h;go_simp) hH ?_
   simp only [wA,wB,wC,wD]
   refine wTl 5 (.agg #[.int .i64 xk,.int .i64 xm,.string xs,.string xn,.slice x1 x2 x3,.slice x4 x5 x6,.slice x7 x8 x9]) rfl (by kernel_rfl) (fun _ _ _ h=>h) rfl (fun w' h=>by obtain ⟨p0,p1,p2,p3,p4,p5,p6⟩:=HE2.out;have z:=HZ2.out;have a0:=cell_step h z p0;have a1:=cell_step h z p1;have a2:=cell_step h z p2;have a3:=cell_step h z p3;have a4:=cell_step h z p4;have a5:=cell_step h z p5;have a6:=cell_step h z p6;clear p0 p1 p2 p3 p4 p5 p6;go_simp) hH ?_
   simp only [wA,wB,wC,wD]
   refine wRd 1 (by kernel_rfl) rfl (fun K0 hK=>?_)
   go_simp
   refine (HPD.out _ hH).mono ?_
   rintro e V1 ⟨rfl,hb⟩
   refine hK.out _ _ (below_step hH hb) (fun hH=>?_)
   clear hK K0 hb
   try simp only [wA,wB,wC,wD]
   refine wRd 6 (by kernel_rfl) rfl (fun K0 hK=>?_)
   go_simp
   refine (HRD.out _ hH).mono ?_
   rintro e V2 ⟨rfl,hb⟩
   refine hK.out _ _ (below_step hH hb) (fun hH=>?_)
   clear hK K0 hb
   try simp only [wA,wB,wC,wD]
   refine wTl 7 (.bool false) rfl (by kernel_rfl) (fun _ _ _ h=>h) rfl (fun w' h=>by have _h:=h;go_simp) hH ?_
   simp only [wA,wB,wC,wD]
   refine wTl 8 (.bool false) rfl (by kernel_rfl) (fun _ _ _ h=>h) rfl (fun w' h=>by have _h:=h;go_simp) hH ?_
   simp only [wA,wB,wC,wD]
   refine wTl 9 (.agg #[.int .i64 xk,.int .i64 xm,.string xs,.string xn,.slice (some ⟨y1,0,none⟩) y2 y3,.slice (some ⟨y4,0,none⟩) y5 y6,.slice (some ⟨y7,0,none⟩) y8 y9]) rfl (by kernel_rfl) (fun _ _ _ h=>h) rfl (fun w' h=>by have _h:=h;have a0:=(HD2.out.below h).cell (i:=0) rfl;have a1:=(HD2.out.below h).cell (i:=1) rfl;have a2:=(HD2.out.below h).cell (i:=2) rfl;have a3:=(HD2.out.below h).cell (i:=3) rfl;have a4:=(HD2.out.below h).cell (i:=4) rfl;have a5:=(HD2.out.below h).cell (i:=5) rfl;have a6:=(HD2.out.below h).cell (i:=6) rfl;go_simp) hH ?_
   simp only [wA,wB,wC,wD]
   refine wTl 10 (.slice (some ⟨sb,so,none⟩) n vc) rfl (by kernel_rfl) (fun _ _ _ h=>h) rfl (fun w' h=>by have _h:=h;go_simp) hH ?_
   simp only [wA,wB,wC,wD]
   refine wTl 11 (.int .i64 (j:Int)) rfl (by kernel_rfl) (fun _ _ _ h=>h) rfl (fun w' h=>by have _h:=h;go_simp) hH ?_
   simp only [wA,wB,wC,wD]
   refine wTl 12 (.pointer (some ⟨sb,so + j * 7,none⟩)) rfl (by kernel_rfl) (fun _ _ _ h=>h) rfl (fun w' h=>by have _h:=h;go_simp) hH ?_
   simp only [wA,wB,wC,wD]
   refine wTl 13 (.agg #[.int .i64 xk,.int .i64 xm,.string xs,.string xn,.slice x1 x2 x3,.slice x4 x5 x6,.slice x7 x8 x9]) rfl (by kernel_rfl) (fun _ _ _ h=>h) rfl (fun w' h=>by obtain ⟨p0,p1,p2,p3,p4,p5,p6⟩:=HE2.out;have z:=HZ2.out;have a0:=cell_step h z p0;have a1:=cell_step h z p1;have a2:=cell_step h z p2;have a3:=cell_step h z p3;have a4:=cell_step h z p4;have a5:=cell_step h z p5;have a6:=cell_step h z p6;clear p0 p1 p2 p3 p4 p5 p6;go_simp) hH ?_
   simp only [wA,wB,wC,wD]
   refine wRd 14 (by kernel_rfl) rfl (fun K0 hK=>?_)
   go_simp
   refine (HKD.out _ hH).mono ?_
   rintro e V3 ⟨rfl,hb⟩
   refine hK.out _ _ (below_step hH hb) (fun hH=>?_)
   clear hK K0 hb
   try simp only [wA,wB,wC,wD]
   refine wTl 15 (.bool false) rfl (by kernel_rfl) (fun _ _ _ h=>h) rfl (fun w' h=>by have _h:=h;go_simp) hH ?_
   simp only [wA,wB,wC,wD]
   refine wTl 16 (.bool false) rfl (by kernel_rfl) (fun _ _ _ h=>h) rfl (fun w' h=>by have _h:=h;go_simp) hH ?_
   simp only [wA,wB,wC,wD]
   refine wpAnyH_done (by kernel_rfl) ?_ _
   have HV:=hm7 hH
   clear hH
   clear HPD HRD HKD HE2 HZ2
   have HD3:=hm7 (HD2.out.below HV.out)
   have c0:=HD3.out.cell (i:=0) rfl
   have c1:=HD3.out.cell (i:=1) rfl
   have c2:=HD3.out.cell (i:=2) rfl
   have c3:=HD3.out.cell (i:=3) rfl
   have c4:=HD3.out.cell (i:=4) rfl
   have c5:=HD3.out.cell (i:=5) rfl
   have c6:=HD3.out.cell (i:=6) rfl
   have hb4:=below1 V3 (.cells #[.int .i64 xk,.int .i64 xm,.string xs,.string xn,.slice (some ⟨y1,0,none⟩) y2 y3,.slice (some ⟨y4,0,none⟩) y5 y6,.slice (some ⟨y7,0,none⟩) y8 y9] 53)
   have HOL4:=hm7 ((HOL2.out.later HV.out).later hb4)
   have HLC4:=hm7 ((HL2.out.later HV.out).later hb4)
   have HBW4:=hm7 (below_step (below_step HBW2.out HV.out) hb4)
   have HRO4:Hid (World.ownsRow (V3.alloc (.cells #[.int .i64 xk,.int .i64 xm,.string xs,.string xn,.slice (some ⟨y1,0,none⟩) y2 y3,.slice (some ⟨y4,0,none⟩) y5 y6,.slice (some ⟨y7,0,none⟩) y8 y9] 53)) W1.heap.size 53 7 (.slice oa j oc) j (L.flatMap cc5)):=by have:=HOL4.out.o;rw [HLL.out] at this;exact this
   clear hb4 HOL2 HL2 HD2 HBW2 HV
   go_wp2_with (at_builtin;refine gapp5 Tryz.underlying33 Tryz.infoClause5 rfl (by decide) (by decide) rfl _ _ rfl W1.heap.size (.slice oa j oc) j (L.flatMap cc5) rfl HRO4.out V3.heap.size #[.int .i64 xk,.int .i64 xm,.string xs,.string xn,.slice (some ⟨y1,0,none⟩) y2 y3,.slice (some ⟨y4,0,none⟩) y5 y6,.slice (some ⟨y7,0,none⟩) y8 y9] rfl (Bk.new _ _ _) rfl (by simp [Value.oneCell']) (by omega) HBW4.out.size ?_;intro g6 q6 w6 ho6 hg6 hv6 hl6;have HO6:=hm7 ho6;have HG6:=hm7 hg6;clear ho6 hg6 hv6 hl6 c0 c1 c2 c3 c4 c5 c6)
   try go_wp2
   go_roundg g
   case measure=>omega
   case rel=>
    refine ⟨j + 1,by omega,by go_num,L ++ [⟨(⟨⟨xk,xm,xs⟩,xn,xa⟩,.slice (some ⟨y1,0,none⟩) y2 y3),db,.slice (some ⟨y4,0,none⟩) y5 y6,dt,.slice (some ⟨y7,0,none⟩) y8 y9⟩], ?_, ?_, ?_⟩
    ·rw [List.map_append,HLK.out,HTK.out,List.map_cons,List.map_nil,HDK.out]
    ·refine HOL4.out.grow HLC4.out ?_ HG6.out
     rw [HLL.out]
     exact HO6.out
    ·exact HBW4.out.grown HG6.out HBW4.out.size fun k e=>(World.ownsRow.lt HRO4.out k e).1
  | zero=>
   obtain rfl:n = j:=by omega
   have i1:¬ (n:Int) < (n:Int):=by omega
   have HKE:Hid (L.map Cm.key = l.map Cm.key):=by have:=HLK.out;rw [<- HNL.out,List.take_length] at this;exact this
   have hb4:=below1 wr (.cells #[.int .i64 0,.int .i64 0,.string ⟨#[]⟩,.string ⟨#[109,97,114,107]⟩,.slice none 0 0,.slice none 0 0,.slice none 0 0] 53)
   have HOL4:=hm7 (HL.out.later hb4)
   have HBW4:=hm7 (below_step HB.out hb4)
   have HRO4:Hid (World.ownsRow (wr.alloc (.cells #[.int .i64 0,.int .i64 0,.string ⟨#[]⟩,.string ⟨#[109,97,114,107]⟩,.slice none 0 0,.slice none 0 0,.slice none 0 0] 53)) W1.heap.size 53 7 (.slice oa n oc) n (L.flatMap cc5)):=by have:=HOL4.out.o;rw [HLL.out] at this;exact this
   clear hb4 HL HB HLK
   go_upto_region 13 with (at_builtin;refine gapp5 Tryz.underlying33 Tryz.infoClause5 rfl (by decide) (by decide) rfl _ _ rfl W1.heap.size (.slice oa n oc) n (L.flatMap cc5) rfl HRO4.out wr.heap.size #[.int .i64 0,.int .i64 0,.string ⟨#[]⟩,.string ⟨#[109,97,114,107]⟩,.slice none 0 0,.slice none 0 0,.slice none 0 0] rfl (Bk.new _ _ _) rfl (by simp [Value.oneCell']) (by omega) HBW4.out.size ?_;intro gO cO w3 ho6 hg6 hv6 hl6;have HO6:=hm7 ho6;have HG6:=hm7 hg6;clear ho6 hg6 hv6 hl6)
   have HOM:Hid (OM5 W1.heap.size w3 gO cO n L):=⟨HO6.out,fun d hd=>(HOL4.out.k d hd).kept HRO4.out HG6.out,HLL.out⟩
   have HB3:Hid (Below W1.heap.size W1 w3):=HBW4.out.grown HG6.out HBW4.out.size fun k e=>(World.ownsRow.lt HRO4.out k e).1
   have HW3:=hm7 (below_step HB1.out HB3.out)
   clear HOL4 HBW4 HRO4 HO6 HG6
   have hcO:=HOM.out.cap
   have j0:(0:Int) <= (n:Int):=by omega
   have j1:(n:Int) <= (cO:Int):=by omega
   have j2:(n:Int) < (n:Int) + 1:=by omega
   obtain ⟨SA,hSA⟩:∃ z:ByteArray,⟨(pal5 (l.map Cm.key)).toArray⟩ = z:=⟨_,rfl⟩
   have HPA3:Hid (Calls Tryz.prog 27 #[.slice (some ⟨gO,0,none⟩) n cO] w3 fun e w'=>e = .returned (.string SA) /\ Below w3.heap.size w3 w'):=by
    have h1:=HEN.out.later HW3.out
    have:=printAll_any L _ w3 HOM.out.cx (by rw [HLL.out];omega) (fun d hd=>nw_key (HOM.out.k d hd).s (HOM.out.k d hd).n) h1.e h1.o
    rw [HKE.out,hSA] at this
    exact this
   have HRA3:Hid (∀ X:World,Below w3.heap.size w3 X -> Calls Tryz.prog 28 #[.slice va n vc] X fun e w'=>e = .returned (.string SA) /\ Below X.heap.size X w'):=fun X hX=>by
    have hx:=below_step HW3.out hX
    have h1:=HEN.out.later hx
    have:=rprintAll_any l _ X (HCX.out.below hx) (fun c hc=>((HCO.out c hc).later hx).r) (by have:=HNL.out;omega) h1.q h1.g
    rw [hSA] at this
    exact this
   clear hSA
   go_upto_region 15 with (first
    | (go_at_call 28;refine (HRA3.out _ HB4.out).mono ?_;rintro e w5 ⟨rfl,hb⟩;have HB5:=hm7 (below_step HB4.out hb);have mk:=(HOM.out.later HB5.out).mark;clear hb)
    | (go_at_call 27;refine HPA3.out.mono ?_;rintro e w4 ⟨rfl,hb⟩;have HB4:=hm7 hb;clear hb))
   clear mk HPA3 HRA3 HB4
   have HOM5:=hm7 (HOM.out.later HB5.out)
   have HB5w:=hm7 (below_step HB3.out HB5.out)
   clear HOM HB3 HW3 HB5
   go_wp2
   go_loopg [11] n (fun g i wr=>∃ j:Nat,j + g = n /\ i = .int .i64 (j:Int) /\ Below w5.heap.size w5 wr)
   case atStart=>exact ⟨0,by omega,rfl,Below.refl _ _⟩
   case round=>
    obtain ⟨j,hg,rfl,hb⟩:=hrel
    have HB:=hm7 hb
    have HOMr:=hm7 (HOM5.out.later hb)
    have HBr:=hm7 (below_step HB5w.out hb)
    have HWr:=hm7 (below_step HB1.out HBr.out)
    clear hb
    cases gk with
    | succ g=>
     have k0:(0:Int) <= (j:Int):=by omega
     have k1:(j:Int) < (n:Int):=by omega
     have k2:(j:Int) < (n:Int) + 1:=by omega
     obtain ⟨x,hx⟩:∃ c,l[j]? = some c:=⟨_,List.getElem?_eq_getElem (by have:=HNL.out;omega)⟩
     obtain ⟨d,hd⟩:∃ c,L[j]? = some c:=⟨_,List.getElem?_eq_getElem (by have:=HLL.out;omega)⟩
     have hdk:d.key = x.key:=by
      have e:=congrArg (fun l=>l[j]?) HKE.out
      simp only [List.getElem?_map,hx,hd,Option.map_some] at e
      exact Option.some.inj e
     have hxl:=List.mem_of_getElem? hx
     have hop:=(HCO.out x hxl).later HWr.out
     have hlc:=HOMr.out.k d (List.mem_of_getElem? hd)
     rcases HVM.out with e | ⟨sb,so,rfl,hz,hce⟩
     ·rw [e] at hx;simp at hx
     have hce:=hce j x hx
     have h3:=HOMr.out.at_ hd
     have HZ3:Hid (gO < wr.heap.size):=HOMr.out.lt.2
     have HZ2:Hid (sb < wr.heap.size):=Nat.lt_of_lt_of_le hz HWr.out.size
     have HKD0:Hid (∀ X:World,Below wr.heap.size wr X -> Calls Tryz.prog 26 #[d.v,x.v] X fun e w'=>e = .returned (.bool true) /\ Below X.heap.size X w'):=fun X hX=>kept_any d x W1.heap.size X (hop.later hX).r.ok (hlc.later hX).l hdk hop.s ((HEN.out.later HWr.out).later hX).m
     obtain ⟨y1,y2,y3,y4,y5,y6,y7,y8,y9,db,dt,rfl⟩:=lc_form hlc.l hdk
     obtain ⟨⟨x1,x2,x3,e1⟩,⟨x4,x6,e2⟩,⟨x7,x9,e3⟩, -, -⟩:=hop.r.ok.shape
     obtain ⟨x5,h5⟩:∃ n,x.body.length = n:=⟨_,rfl⟩
     obtain ⟨x8,h8⟩:∃ n,x.tests.length = n:=⟨_,rfl⟩
     rw [h5] at e2
     rw [h8] at e3
     have h2:Cs7 wr sb (so + j * 7) x:=by
      obtain ⟨p0,p1,p2,p3,p4,p5,p6⟩:=hce
      exact ⟨cell_step HWr.out hz p0,cell_step HWr.out hz p1,cell_step HWr.out hz p2,cell_step HWr.out hz p3,cell_step HWr.out hz p4,cell_step HWr.out hz p5,cell_step HWr.out hz p6⟩
     clear hx hd hxl hop hlc hce hz h5 h8 hdk
     obtain ⟨⟨⟨⟨xk,xm,xs⟩,xn,xa⟩,xx⟩,xb,xbv,xt,xtv⟩:=x
     simp only at e1 e2 e3
     subst e1 e2 e3
     have HE2:=hm7 h2
     have HE3:=hm7 h3
     have HKD:Hid (∀ X:World,Below wr.heap.size wr X -> Calls Tryz.prog 26 #[.agg #[.int .i64 xk,.int .i64 xm,.string xs,.string xn,.slice (some ⟨y1,0,none⟩) y2 y3,.slice (some ⟨y4,0,none⟩) y5 y6,.slice (some ⟨y7,0,none⟩) y8 y9],.agg #[.int .i64 xk,.int .i64 xm,.string xs,.string xn,.slice x1 x2 x3,.slice x4 x5 x6,.slice x7 x8 x9]] X fun e w'=>e = .returned (.bool true) /\ Below X.heap.size X w'):=HKD0.out
     clear h2 h3 HKD0
     go_upto_region 18 with fail
     refine wp_region_held_drew (S:=fun w'=>Below wr.heap.size wr w') (by kernel_rfl) (Below.refl _ _).drew (fun hH=>?_)
     revert hH
     generalize wr.drew = V
     intro hH
     refine wTl 0 (.slice (some ⟨gO,0,none⟩) (n + 1) cO) rfl (by kernel_rfl) (fun _ _ _ h=>h) rfl (fun w' h=>by have _h:=h;go_simp) hH ?_
     simp only [wA,wB,wC,wD]
     refine wTl 1 (.int .i64 (j:Int)) rfl (by kernel_rfl) (fun _ _ _ h=>h) rfl (fun w' h=>by have _h:=h;go_simp) hH ?_
     simp only [wA,wB,wC,wD]
     refine wTl 2 (.pointer (some ⟨gO,j * 7,none⟩)) rfl (by kernel_rfl) (fun _ _ _ h=>h) rfl (fun w' h=>by have _h:=h;go_simp) hH ?_
     simp only [wA,wB,wC,wD]
     refine wTl 3 (.agg #[.int .i64 xk,.int .i64 xm,.string xs,.string xn,.slice (some ⟨y1,0,none⟩) y2 y3,.slice (some ⟨y4,0,none⟩) y5 y6,.slice (some ⟨y7,0,none⟩) y8 y9]) rfl (by kernel_rfl) (fun _ _ _ h=>h) rfl (fun w' h=>by obtain ⟨p0,p1,p2,p3,p4,p5,p6⟩:=HE3.out;have z:=HZ3.out;have a0:=cell_step h z p0;have a1:=cell_step h z p1;have a2:=cell_step h z p2;have a3:=cell_step h z p3;have a4:=cell_step h z p4;have a5:=cell_step h z p5;have a6:=cell_step h z p6;clear p0 p1 p2 p3 p4 p5 p6;go_simp) hH ?_
     simp only [wA,wB,wC,wD]
     refine wTl 4 (.slice (some ⟨sb,so,none⟩) n vc) rfl (by kernel_rfl) (fun _ _ _ h=>h) rfl (fun w' h=>by have _h:=h;go_simp) hH ?_
     simp only [wA,wB,wC,wD]
     refine wTl 5 (.int .i64 (j:Int)) rfl (by kernel_rfl) (fun _ _ _ h=>h) rfl (fun w' h=>by have _h:=h;go_simp) hH ?_
     simp only [wA,wB,wC,wD]
     refine wTl 6 (.pointer (some ⟨sb,so + j * 7,none⟩)) rfl (by kernel_rfl) (fun _ _ _ h=>h) rfl (fun w' h=>by have _h:=h;go_simp) hH ?_
     simp only [wA,wB,wC,wD]
     refine wTl 7 (.agg #[.int .i64 xk,.int .i64 xm,.string xs,.string xn,.slice x1 x2 x3,.slice x4 x5 x6,.slice x7 x8 x9]) rfl (by kernel_rfl) (fun _ _ _ h=>h) rfl (fun w' h=>by obtain ⟨p0,p1,p2,p3,p4,p5,p6⟩:=HE2.out;have z:=HZ2.out;have a0:=cell_step h z p0;have a1:=cell_step h z p1;have a2:=cell_step h z p2;have a3:=cell_step h z p3;have a4:=cell_step h z p4;have a5:=cell_step h z p5;have a6:=cell_step h z p6;clear p0 p1 p2 p3 p4 p5 p6;go_simp) hH ?_
     simp only [wA,wB,wC,wD]
     refine wRd 8 (by kernel_rfl) rfl (fun K0 hK=>?_)
     go_simp
     refine (HKD.out _ hH).mono ?_
     rintro e V1 ⟨rfl,hb⟩
     refine hK.out _ _ (below_step hH hb) (fun hH=>?_)
     clear hK K0 hb
     try simp only [wA,wB,wC,wD]
     refine wTl 9 (.bool false) rfl (by kernel_rfl) (fun _ _ _ h=>h) rfl (fun w' h=>by have _h:=h;go_simp) hH ?_
     simp only [wA,wB,wC,wD]
     refine wpAnyH_done (by kernel_rfl) ?_ _
     have HV:=hm7 hH
     clear hH
     go_wp2
     go_roundg g
     case measure=>omega
     case rel=>exact ⟨j + 1,by omega,by go_num,below_step HB.out HV.out⟩
    | zero=>
     have k1:¬ (j:Int) < (n:Int):=by omega
     have HXr:=hm7 (HX1.out.below HBr.out)
     have HAr:=hm7 (HA1.out.below HBr.out)
     have HKU1:Hid (Calls Tryz.prog 29 #[.agg #[.int .i64 ak,.int .i64 an,.string az,.string am,.slice (some ⟨gu,0,none⟩) al cu],.agg #[.int .i64 ak,.int .i64 an,.string az,.string am,.slice aa al ac]] wr fun e w'=>e = .returned (.bool true) /\ Below wr.heap.size wr w'):=HKU.out _ w.heap.size wr HWr.out (HLU.out.later HBr.out)
     have y0:=HXr.out.cell (i:=0) rfl
     have y1:=HXr.out.cell (i:=1) rfl
     have y2:=HXr.out.cell (i:=2) rfl
     have y3:=HXr.out.cell (i:=3) rfl
     have y4:=HXr.out.cell (i:=4) rfl
     have z0:=HAr.out.cell (i:=0) rfl
     have z1:=HAr.out.cell (i:=1) rfl
     have z2:=HAr.out.cell (i:=2) rfl
     have z3:=HAr.out.cell (i:=3) rfl
     have z4:=HAr.out.cell (i:=4) rfl
     go_upto_region 22 with (go_at_call 29;refine HKU1.out.mono ?_;rintro e w6 ⟨rfl,hb⟩;have HB6:=hm7 hb;clear hb y0 y1 y2 y3 y4 z0 z1 z2 z3 z4)
     have HOM6:=hm7 (HOMr.out.later HB6.out)
     have HB6w:=hm7 (below_step HBr.out HB6.out)
     clear HOMr HOM5 HB5w HBr HWr HXr HAr HKU1 HKU HB HB6
     go_wp2
     go_loopg [12] n (fun g i wr=>∃ (j:Nat) (M:List Cm),j + g = n /\ i = .int .i64 (j:Int) /\ M[0]? = L[0]? /\ OM5 W1.heap.size wr gO cO n M /\ Below W1.heap.size W1 wr)
     case atStart=>exact ⟨0,L,by omega,rfl,rfl,HOM6.out,HB6w.out⟩
     case round=>
      obtain ⟨j,M,hg,rfl,hM0,hM,hb⟩:=hrel
      have HM:=hm7 hM
      have HM0:=hm7 hM0
      have HB:=hm7 hb
      have HGO:Hid (W1.heap.size <= gO):=hM.lt.1
      clear hM hM0 hb HOM6 HB6w
      cases gk with
      | succ g=>
       have k0:(0:Int) <= (j:Int):=by omega
       have k1:(j:Int) < (n:Int):=by omega
       have k2:(j:Int) < (n:Int) + 1:=by omega
       have k3:(0:Int) < (n:Int) + 1:=by omega
       obtain ⟨d,hd⟩:∃ c,M[0]? = some c:=⟨_,List.getElem?_eq_getElem (by have:=HM.out.n;omega)⟩
       obtain ⟨e,he⟩:∃ c,M[j]? = some c:=⟨_,List.getElem?_eq_getElem (by have:=HM.out.n;omega)⟩
       have HS0:=hm7 (set0 (j:=j) hd)
       have HDM:=hm7 (List.mem_of_getElem? hd)
       have h0:=HM.out.at_ hd
       have h1:=HM.out.at_ he
       obtain ⟨cur,hcur⟩:=row_bk0 HM.out.o
       obtain ⟨dx,y1,y2,y3,y4,y5,y6,y7,y8,y9,db,dt,rfl⟩:=lc_form0 (HM.out.k d (List.mem_of_getElem? hd)).l
       obtain ⟨⟨dk,dm,ds⟩,dn,da⟩:=dx
       unfold Cs7 at h0
       simp only [Nat.zero_mul,Nat.zero_add] at h0
       obtain ⟨p0,p1,p2,p3,p4,p5,p6⟩:=h0
       obtain ⟨q0,q1,q2,q3,q4,q5,q6⟩:=h1
       have f0:=hcur.froz (j * 7)
       have f1:=hcur.froz (j * 7 + 1)
       have f2:=hcur.froz (j * 7 + 2)
       have f3:=hcur.froz (j * 7 + 3)
       have f4:=hcur.froz (j * 7 + 4)
       have f5:=hcur.froz (j * 7 + 5)
       have f6:=hcur.froz (j * 7 + 6)
       have hgl:=hcur.lt
       clear hd he hcur
       go_wp2
       clear p0 p1 p2 p3 p4 p5 p6 q0 q1 q2 q3 q4 q5 q6 f0 f1 f2 f3 f4 f5 f6 hgl
       have HMP:=hm7 (HM.out.put (j:=j) HDM.out (by omega))
       have HBP:=hm7 (((((((HB.out.setCell (p:=⟨gO,j * 7,none⟩) HGO.out (.int .i64 dk)).setCell (p:=⟨gO,j * 7 + 1,none⟩) HGO.out (.int .i64 dm)).setCell (p:=⟨gO,j * 7 + 2,none⟩) HGO.out (.string ds)).setCell (p:=⟨gO,j * 7 + 3,none⟩) HGO.out (.string dn)).setCell (p:=⟨gO,j * 7 + 4,none⟩) HGO.out (.slice (some ⟨y1,0,none⟩) y2 y3)).setCell (p:=⟨gO,j * 7 + 5,none⟩) HGO.out (.slice (some ⟨y4,0,none⟩) y5 y6)).setCell (p:=⟨gO,j * 7 + 6,none⟩) HGO.out (.slice (some ⟨y7,0,none⟩) y8 y9))
       go_roundg g
       case measure=>omega
       case rel=>exact ⟨j + 1,_,by omega,by go_num,HS0.out.trans HM0.out,HMP.out,HBP.out⟩
      | zero=>
       have k1:¬ (j:Int) < (n:Int):=by omega
       clear HM0 HGO
       go_upto_region 28 with (at_builtin;refine gappW5 (by rfl) _ _ rfl W1.heap.size (.slice none 0 0) 0 [] rfl (World.ownsRow_nil _ _ _ _) (.slice (some ⟨gO,0,none⟩) n cO) n W1.heap.size (M.flatMap cc5) rfl HM.out.front (cc5_ones fun d hd=>(HM.out.k d hd).rp.ok) (by omega) HB.out.size n (by omega) ?_;intro ga ca w7 ho hg hv;have HO7:=hm7 ho;have HG7:=hm7 hg;clear ho hg hv)
       have hb7:Below wr.heap.size wr w7:=(Below.refl wr.heap.size wr).grown HG7.out (Nat.le_refl _) (fun k e=>by cases e)
       have HM7:=hm7 (HM.out.later hb7)
       have HB7:=hm7 (below_step HB.out hb7)
       have HA7:Hid (w7.ownsRow W1.heap.size 53 7 (.slice ga n ca) n (M.flatMap cc5)):=by have:=HO7.out;rw [List.nil_append] at this;exact this
       clear hb7 HO7 HG7 HM HB
       have HU7:Hid (OwnT w7 w.heap.size (.slice (some ⟨gu,0,none⟩) (al + 1) cu) (xl ++ [mT])):=by
        obtain ⟨g2,c2,e2,ho2⟩:=HLU.out.later HB7.out
        simp only [Value.slice.injEq,Option.some.injEq,Addr.mk.injEq] at e2
        obtain ⟨⟨rfl, -⟩, -,rfl⟩:=e2
        rw [HAL.out] at ho2
        exact ho2
       have HGU:Hid (gu < W1.heap.size /\ w.heap.size <= gu):=by
        obtain ⟨g2,c2,e2,ho2⟩:=HLU.out
        simp only [Value.slice.injEq,Option.some.injEq,Addr.mk.injEq] at e2
        obtain ⟨⟨rfl, -⟩, -,rfl⟩:=e2
        have:=OwnT.lt ho2 gu rfl
        exact ⟨this.2,this.1⟩
       have HX7:=hm7 (HX1.out.below HB7.out)
       have HXG:Hid (bx ≠ gu):=fun e=>row_bk HU7.out HX7.out (by decide) (by rw [e];rfl)
       have HW7:=hm7 (below_step HB1.out HB7.out)
       have x4:=HX7.out.cell (i:=4) rfl
       go_wp2
       clear x4
       go_loopg [14] al (fun g i wr=>∃ j:Nat,j + g = al /\ i = .int .i64 (j:Int) /\ OwnT wr w.heap.size (.slice (some ⟨gu,0,none⟩) (al + 1) cu) ((nm8 j ++ xl.drop j) ++ [mT]) /\ Fr (fun b=>b = gu) w7 wr /\ Below w.heap.size w wr)
       case atStart=>exact ⟨0,by omega,rfl,HU7.out,Fr.refl _ _,HW7.out⟩
       case round=>
        obtain ⟨j2,hg2,rfl,ho2,hf2,hb2⟩:=hrel
        have HO2:=hm7 ho2
        have HF2:=hm7 hf2
        have HB2:=hm7 hb2
        clear ho2 hf2 hb2
        have x4:=(HX7.out.fr HF2.out HXG.out).cell (i:=4) rfl
        cases gk with
        | succ g=>
         have k4:(0:Int) <= (j2:Int):=by omega
         have k5:(j2:Int) < (al:Int):=by omega
         have hll:((nm8 j2 ++ xl.drop j2) ++ [mT]).length = al + 1:=by
          rw [List.length_append,List.length_append,nm8_len,List.length_drop,List.length_singleton]
          have:=HAL.out
          omega
         obtain ⟨cur,hcur⟩:=row_bk0 HO2.out
         obtain ⟨e,he⟩:∃ c,((nm8 j2 ++ xl.drop j2) ++ [mT])[j2]? = some c:=⟨_,List.getElem?_eq_getElem (by omega)⟩
         obtain ⟨p0,p1,p2⟩:=ownT_cells HO2.out j2 e he
         have f0:=hcur.froz (j2 * 3)
         have f1:=hcur.froz (j2 * 3 + 1)
         have f2:=hcur.froz (j2 * 3 + 2)
         have hgl:=hcur.lt
         have HO3:=hm7 (ownT_put ⟨1,(j2:Int),⟨#[]⟩⟩ HO2.out hll (show j2 < al + 1 by omega))
         rw [nm8_step (by have:=HAL.out;omega)] at HO3
         clear hcur he hll
         go_wp2
         clear p0 p1 p2 f0 f1 f2 hgl x4
         go_roundg g
         case measure=>omega
         case rel=>exact ⟨j2 + 1,by omega,by go_num,HO3.out,((HF2.out.set (Or.inl rfl)).set (Or.inl rfl)).set (Or.inl rfl),((HB2.out.setCell (p:=⟨gu,j2 * 3,none⟩) HGU.out.2 _).setCell (p:=⟨gu,j2 * 3 + 1,none⟩) HGU.out.2 _).setCell (p:=⟨gu,j2 * 3 + 2,none⟩) HGU.out.2 _⟩
        | zero=>
         have k5:¬ (j2:Int) < (al:Int):=by omega
         obtain rfl:al = j2:=by omega
         have HNU:Hid (OwnT wr w.heap.size (.slice (some ⟨gu,0,none⟩) (al + 1) cu) (nm8 al ++ [mT])):=by
          have:=HO2.out
          rw [List.drop_of_length_le (by rw [HAL.out];exact Nat.le_refl _),List.append_nil] at this
          exact this
         have HTS6:Hid (Ts wr (.slice (some ⟨gu,0,none⟩) al cu) (nm8 al)):=by
          have:=ownT_pre (s:=nm8 al) (by rw [nm8_len];exact HNU.out) (by rw [nm8_len];omega)
          rw [nm8_len] at this
          exact this
         have HNN:Hid (∀ t ∈ (At.mk ⟨ak,an,az⟩ am (nm8 al)).pl,N64 t.n):=fun t ht=>by
          rcases List.mem_cons.1 ht with e | e
          ·rw [e];exact HAN.out _ (List.mem_cons_self ..)
          ·obtain ⟨i,hi,rfl⟩:=List.mem_map.1 e
           have:=List.mem_range.1 hi
           show -9223372036854775808 <= (i:Int) /\ (i:Int) <= 9223372036854775807
           omega
         have HM6:=hm7 (HM7.out.low HF2.out HGU.out.1)
         have HA6:Hid (wr.ownsRow W1.heap.size 53 7 (.slice ga n ca) n (M.flatMap cc5)):=row_low HA7.out HF2.out HGU.out.1
         have HX6:=hm7 (HX7.out.fr HF2.out HXG.out)
         obtain ⟨W6,hW6⟩:∃ z,wr = z:=⟨_,rfl⟩
         rw [hW6] at HTS6 HM6 HA6 HX6 HB2 HNU x4
         rw [hW6]
         clear HO2 HF2 hW6 HM7 HA7 HX7 HU7
         obtain ⟨SB,hSB⟩:∃ z:ByteArray,⟨(pal5 (M.map Cm.key)).toArray⟩ = z:=⟨_,rfl⟩
         obtain ⟨pn,hpn⟩:∃ z,pa5 ⟨⟨ak,an,az⟩,am,nm8 al⟩ = z:=⟨_,rfl⟩
         have HP1:Hid (∀ X:World,Below W6.heap.size W6 X -> Calls Tryz.prog 27 #[.slice (some ⟨gO,0,none⟩) n cO] X fun e w'=>e = .returned (.string SB) /\ Below X.heap.size X w'):=fun X hX=>by
          have h1:=HEN.out.later (below_step HB2.out hX)
          have hm:=HM6.out.later hX
          have:=printAll_any M _ X hm.cx (by rw [hm.n];omega) (fun d hd=>nw_key (hm.k d hd).s (hm.k d hd).n) h1.e h1.o
          rw [hSB] at this
          exact this
         have HP2:Hid (∀ X:World,Below W6.heap.size W6 X -> Calls Tryz.prog 28 #[.slice ga n ca] X fun e w'=>e = .returned (.string SB) /\ Below X.heap.size X w'):=fun X hX=>by
          have h1:=HEN.out.later (below_step HB2.out hX)
          have hm:=HM6.out.later hX
          have:=rprintAll_any M _ X (cx_row hm.n (row7_below HA6.out hX) fun d hd=>(hm.k d hd).rp.ok) (fun d hd=>(hm.k d hd).rp) (by rw [hm.n];omega) h1.q h1.g
          rw [hSB] at this
          exact this
         have HP3:Hid (∀ X:World,Below W6.heap.size W6 X -> Calls Tryz.prog 19 #[.agg #[.int .i64 ak,.int .i64 an,.string az,.string am,.slice (some ⟨gu,0,none⟩) al cu]] X fun e w'=>e = .returned (.string pn) /\ Below X.heap.size X w'):=fun X hX=>by
          have:=printAtom_any ⟨⟨ak,an,az⟩,am,nm8 al⟩ (.slice (some ⟨gu,0,none⟩) al cu) X (HTS6.out.later hX) HNN.out (HEN.out.later (below_step HB2.out hX)).e
          rw [hpn] at this
          exact this
         have HP4:Hid (∀ X:World,Below W6.heap.size W6 X -> Calls Tryz.prog 16 #[.agg #[.int .i64 ak,.int .i64 an,.string az,.string am,.slice (some ⟨gu,0,none⟩) al cu]] X fun e w'=>∃ u,e = .returned (At.v ⟨⟨ak,an,az⟩,am,nm8 al⟩ u) /\ LtT w' X.heap.size u (nm8 al) /\ Below X.heap.size X w'):=fun X hX=>lentAtom_any ⟨⟨ak,an,az⟩,am,nm8 al⟩ (.slice (some ⟨gu,0,none⟩) al cu) X (ts_tsP (HTS6.out.later hX)) (by show (nm8 al).length <= _;rw [nm8_len];omega) (HEN.out.later (below_step HB2.out hX)).m
         have HP5:Hid (∀ (u:Value) (X:World) {B:Nat},Below W6.heap.size W6 X -> LtT X B u (nm8 al) -> Calls Tryz.prog 20 #[.agg #[.int .i64 ak,.int .i64 an,.string az,.string am,u]] X fun e w'=>e = .returned (.string pn) /\ Below X.heap.size X w'):=fun u X B hX hu=>by
          have:=rprintAtom_any ⟨⟨ak,an,az⟩,am,nm8 al⟩ u X (hu.ts (by rw [nm8_len];omega)) HNN.out (HEN.out.later (below_step HB2.out hX)).q
          rw [hpn] at this
          exact this
         have HP6:Hid (∀ X:World,Below W6.heap.size W6 X -> Calls Tryz.prog 8 #[] X fun e w'=>e = .returned (.bool true) /\ Below X.heap.size X w'):=fun X hX=>HFI.out X (below_step HB2.out hX)
         clear hSB hpn
         go_upto_region 32 with fail
         clear x4
         refine wp_region_held_drew (S:=fun w'=>Below W6.heap.size W6 w') (by kernel_rfl) (Below.refl _ _).drew (fun hH=>?_)
         revert hH
         generalize W6.drew = V
         intro hH
         refine wTl 0 (.slice (some ⟨gO,0,none⟩) (n + 1) cO) rfl (by kernel_rfl) (fun _ _ _ h=>h) rfl (fun w' h=>by have _h:=h;go_simp) hH ?_
         simp only [wA,wB,wC,wD]
         refine wTl 1 (.slice va n vc) rfl (by kernel_rfl) (fun _ _ _ h=>h) rfl (fun w' h=>by have _h:=h;go_simp) hH ?_
         simp only [wA,wB,wC,wD]
         refine wTl 2 (.int .i64 (n:Int)) rfl (by kernel_rfl) (fun _ _ _ h=>h) rfl (fun w' h=>by have _h:=h;go_simp) hH ?_
         simp only [wA,wB,wC,wD]
         refine wTl 3 (.slice (some ⟨gO,0,none⟩) n cO) rfl (by kernel_rfl) (fun _ _ _ h=>h) rfl (fun w' h=>by have _h:=h;go_simp) hH ?_
         simp only [wA,wB,wC,wD]
         refine wTl 5 (.slice ga n ca) rfl (by kernel_rfl) (fun _ _ _ h=>h) rfl (fun w' h=>by have _h:=h;go_simp) hH ?_
         simp only [wA,wB,wC,wD]
         refine wRd 4 (by kernel_rfl) rfl (fun K0 hK=>?_)
         go_simp
         refine (HP1.out _ hH).mono ?_
         rintro e V1 ⟨rfl,hb⟩
         refine hK.out _ _ (below_step hH hb) (fun hH=>?_)
         clear hK K0 hb
         try simp only [wA,wB,wC,wD]
         refine wRd 6 (by kernel_rfl) rfl (fun K0 hK=>?_)
         go_simp
         refine (HP2.out _ hH).mono ?_
         rintro e V2 ⟨rfl,hb⟩
         refine hK.out _ _ (below_step hH hb) (fun hH=>?_)
         clear hK K0 hb
         try simp only [wA,wB,wC,wD]
         refine wTl 7 (.bool true) rfl (by kernel_rfl) (fun _ _ _ h=>h) rfl (fun w' h=>by have _h:=h;go_simp) hH ?_
         simp only [wA,wB,wC,wD]
         refine wTl 8 (.bool true) rfl (by kernel_rfl) (fun _ _ _ h=>h) rfl (fun w' h=>by have _h:=h;go_simp) hH ?_
         simp only [wA,wB,wC,wD]
         refine wTl 9 (.agg #[.int .i64 ak,.int .i64 an,.string az,.string am,.slice (some ⟨gu,0,none⟩) al cu]) rfl (by kernel_rfl) (fun _ _ _ h=>h) rfl (fun w' h=>by have _h:=h;have a0:=(HX6.out.below h).cell (i:=0) rfl;have a1:=(HX6.out.below h).cell (i:=1) rfl;have a2:=(HX6.out.below h).cell (i:=2) rfl;have a3:=(HX6.out.below h).cell (i:=3) rfl;have a4:=(HX6.out.below h).cell (i:=4) rfl;go_simp) hH ?_
         simp only [wA,wB,wC,wD]
         refine wTl 11 (.agg #[.int .i64 ak,.int .i64 an,.string az,.string am,.slice (some ⟨gu,0,none⟩) al cu]) rfl (by kernel_rfl) (fun _ _ _ h=>h) rfl (fun w' h=>by have _h:=h;have a0:=(HX6.out.below h).cell (i:=0) rfl;have a1:=(HX6.out.below h).cell (i:=1) rfl;have a2:=(HX6.out.below h).cell (i:=2) rfl;have a3:=(HX6.out.below h).cell (i:=3) rfl;have a4:=(HX6.out.below h).cell (i:=4) rfl;go_simp) hH ?_
         simp only [wA,wB,wC,wD]
         refine wRd 10 (by kernel_rfl) rfl (fun K0 hK=>?_)
         go_simp
         refine (HP3.out _ hH).mono ?_
         rintro e V3 ⟨rfl,hb⟩
         refine hK.out _ _ (below_step hH hb) (fun hH=>?_)
         clear hK K0 hb
         try simp only [wA,wB,wC,wD]
         refine wRd 12 (by kernel_rfl) rfl (fun K0 hK=>?_)
         go_simp
         refine (HP4.out _ hH).mono ?_
         rintro e V4 ⟨u2,rfl,hlu2,hb⟩
         have HU2:=hm7 hlu2
         obtain ⟨gv,cv,hgv, -⟩:=hlu2
         generalize hul:List.length _ = un at hgv
         subst hgv
         refine hK.out _ _ (below_step hH hb) (fun hH=>?_)
         clear hK K0 hb hul
         try simp only [wA,wB,wC,wD]
         refine wRd 13 (by kernel_rfl) rfl (fun K0 hK=>?_)
         go_simp
         refine (HP5.out _ _ hH HU2.out).mono ?_
         rintro e V5 ⟨rfl,hb⟩
         refine hK.out _ _ (below_step hH hb) (fun hH=>?_)
         clear hK K0 hb
         try simp only [wA,wB,wC,wD]
         refine wTl 14 (.bool true) rfl (by kernel_rfl) (fun _ _ _ h=>h) rfl (fun w' h=>by have _h:=h;go_simp) hH ?_
         simp only [wA,wB,wC,wD]
         refine wTl 15 (.bool true) rfl (by kernel_rfl) (fun _ _ _ h=>h) rfl (fun w' h=>by have _h:=h;go_simp) hH ?_
         simp only [wA,wB,wC,wD]
         refine wTl 16 (.bool true) rfl (by kernel_rfl) (fun _ _ _ h=>h) rfl (fun w' h=>by have _h:=h;go_simp) hH ?_
         simp only [wA,wB,wC,wD]
         refine wRd 17 (by kernel_rfl) rfl (fun K0 hK=>?_)
         go_simp
         refine (HP6.out _ hH).mono ?_
         rintro e V6 ⟨rfl,hb⟩
         refine hK.out _ _ (below_step hH hb) (fun hH=>?_)
         clear hK K0 hb
         try simp only [wA,wB,wC,wD]
         refine wTl 18 (.bool true) rfl (by kernel_rfl) (fun _ _ _ h=>h) rfl (fun w' h=>by have _h:=h;go_simp) hH ?_
         simp only [wA,wB,wC,wD]
         refine wTl 19 (.bool true) rfl (by kernel_rfl) (fun _ _ _ h=>h) rfl (fun w' h=>by have _h:=h;go_simp) hH ?_
         simp only [wA,wB,wC,wD]
         refine wpAnyH_done (by kernel_rfl) ?_ _
         have HV:=hm7 hH
         clear hH
         go_wp2
         go_ret
         exact ⟨rfl,below_step HB2.out HV.out⟩
end Go.Proofs.YtcpjiahdaplhlaaGreatDoor

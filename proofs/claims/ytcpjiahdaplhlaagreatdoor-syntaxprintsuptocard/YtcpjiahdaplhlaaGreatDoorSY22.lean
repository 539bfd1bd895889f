import Derived.Test.YtcpjiahdaplhlaaGreatDoorSY19
import Derived.Test.YtcpjiahdaplhlaaGreatDoorOQ1
import Derived.Test.YtcpjiahdaplhlaaGreatDoorCL12
namespace Go.Proofs.YtcpjiahdaplhlaaGreatDoor
open Go.RowKit
attribute [local go_sem ↓] Go.wp_at_zero Go.wp_at_succ
theorem Rw5.ts {F:Nat -> Prop} {w:World} {v:Value} {l:List Tm} (h:Rw5 F w 39 3 v l.length (tc5 l)) (hl:l.length < 1000000000000000000):Ts w v l:=ts_of_row h.1 hl
theorem fa5_len {x:List Lf5} {a:At} (h:a ∈ fa5 x):a.args.length <= ws5 x:=by
 have h1:=flat_arg h
 have h2:=way_terms x
 omega
theorem fa5_cnt (x:List Lf5):(fa5 x).length <= ws5 x /\ (ft5 x).length <= ws5 x:=by
 have h1:=flat_one (l:=fa5 x)
 have h2:=way_terms x
 have h3:=tls_two (ft5 x)
 omega
theorem len_la (x:List Lv5):x.length = (la5 x).length + (lt5 x).length:=by
 induction x with
 | nil=>rfl
 | cons l r ih=>
  cases l with
  | a a y=>rw [la5,lt5,List.length_cons,List.length_cons,ih];omega
  | t t=>rw [la5,lt5,List.length_cons,List.length_cons,ih];omega
theorem four5 (w:World) (c0 c1 c2 c3:Array Value) (t0 t1 t2 t3:TypeId):Bk ((((w.alloc (.cells c0 t0)).alloc (.cells c1 t1)).alloc (.cells c2 t2)).alloc (.cells c3 t3)) (w.heap.size + 1 + 1 + 1) c3 t3 /\ Bk ((((w.alloc (.cells c0 t0)).alloc (.cells c1 t1)).alloc (.cells c2 t2)).alloc (.cells c3 t3)) (w.heap.size + 1 + 1) c2 t2 /\ Bk ((((w.alloc (.cells c0 t0)).alloc (.cells c1 t1)).alloc (.cells c2 t2)).alloc (.cells c3 t3)) (w.heap.size + 1) c1 t1 /\ Bk ((((w.alloc (.cells c0 t0)).alloc (.cells c1 t1)).alloc (.cells c2 t2)).alloc (.cells c3 t3)) w.heap.size c0 t0 /\ Below w.heap.size w ((((w.alloc (.cells c0 t0)).alloc (.cells c1 t1)).alloc (.cells c2 t2)).alloc (.cells c3 t3)):=by
 have e1:(w.alloc (.cells c0 t0)).heap.size = w.heap.size + 1:=by simp
 have e2:((w.alloc (.cells c0 t0)).alloc (.cells c1 t1)).heap.size = w.heap.size + 1 + 1:=by simp
 have e3:(((w.alloc (.cells c0 t0)).alloc (.cells c1 t1)).alloc (.cells c2 t2)).heap.size = w.heap.size + 1 + 1 + 1:=by simp
 have k3:=Bk.new (((w.alloc (.cells c0 t0)).alloc (.cells c1 t1)).alloc (.cells c2 t2)) c3 t3
 have k2:=(Bk.new ((w.alloc (.cells c0 t0)).alloc (.cells c1 t1)) c2 t2).below (below1 _ (.cells c3 t3))
 have k1:=((Bk.new (w.alloc (.cells c0 t0)) c1 t1).below (below1 _ (.cells c2 t2))).below (below1 _ (.cells c3 t3))
 have k0:=(((Bk.new w c0 t0).below (below1 _ (.cells c1 t1))).below (below1 _ (.cells c2 t2))).below (below1 _ (.cells c3 t3))
 rw [e3] at k3
 rw [e2] at k2
 rw [e1] at k1
 exact ⟨k3,k2,k1,k0,Fr.low (Fr.then (Fr.then (Fr.then (Fr.of (P:=fun b=>w.heap.size <= b) (below1 w (.cells c0 t0))) (below1 _ _)) (below1 _ _)) (below1 _ _)) (Nat.le_refl _)⟩
theorem store7c {w:World} {g:Nat} {z0 z1 z2 z3 z4 z5 z6 a b c d e f k:Value} {t:TypeId} (h:Bk w g #[z0,z1,z2,z3,z4,z5,z6] t):Bk (((((((w.setCell ⟨g,0,none⟩ a).setCell ⟨g,1,none⟩ b).setCell ⟨g,2,none⟩ c).setCell ⟨g,3,none⟩ d).setCell ⟨g,4,none⟩ e).setCell ⟨g,5,none⟩ f).setCell ⟨g,6,none⟩ k) g #[a,b,c,d,e,f,k] t:=store7y h
set_option maxRecDepth 20000 in
set_option maxHeartbeats 4000000 in
theorem clauseOf5_any (f:Nat) (h:At) (hv v:Value) (c:Nat) (m:List (List Lv5)) (n:Nat) (x:List Lv5) (w:World) (hh:Rw5 (fun _=>True) w 39 3 hv h.args.length (tc5 h.args)) (ha:AlM (fun _=>True) (LiM (fun _=>True) w f) w v c m) (hm:m.length <= 64) (hx:m[n]? = some x)
  (ht:(Ck.terms (ck5 h (x.map Lv5.er))).length <= 4000000) (hw:∀ t ∈ Ck.terms (ck5 h (x.map Lv5.er)),t.var = true -> (Lit.int .i64 t.n).wf = true) :
  Calls Tryz.prog 120 #[h.v hv,.agg #[v,.int .i64 (c:Int)],.int .i64 (n:Int)] w fun e w'=>∃ d:Cm,e = .returned d.v /\ d.key = normC (ck5 h (x.map Lv5.er)) /\ Kp w.heap.size w' d /\ Below w.heap.size w w':=by
 have hl:=ck5_len h (x.map Lv5.er)
 rw [hl] at ht
 obtain ⟨c1,c2⟩:=fa5_cnt (x.map Lv5.er)
 have HLA:Hid ((la5 x).length <= 4000000 /\ (lt5 x).length <= 4000000):=by
  have e1:=congrArg List.length (fa5_er x)
  have e2:=congrArg List.length (ft5_er x)
  unfold fsts at e1
  rw [List.length_map] at e1
  exact ⟨by omega,by omega⟩
 have HXL:Hid (x.length <= 8000000):=by have:=len_la x;have:=HLA.out;show _ <= _;omega
 have HHL:Hid (h.args.length < 1000000000000000000):=by show _ < _;omega
 have HAL:Hid (∀ p ∈ la5 x,p.1.args.length < 1000000000000000000):=fun p hp=>by
  have h1:p.1 ∈ fa5 (x.map Lv5.er):=by rw [<- fa5_er];exact List.mem_map.2 ⟨p,hp,rfl⟩
  have:=fa5_len h1
  omega
 obtain ⟨va,vl,vc,hvf⟩:=alM_form (f:=f) ha
 subst hvf
 obtain ⟨ya,yc,hyf, -⟩:=row7_form hh.1
 have HKT:Hid ((Ck.terms (ck5 h (x.map Lv5.er))).length <= 4000000):=by show _ <= _;rw [hl];exact ht
 have HHH:=hm7 hh
 obtain ⟨⟨bk,bn,bs⟩,nm,al⟩:=h
 obtain ⟨yn,hyn⟩:∃ yn,al.length = yn:=⟨_,rfl⟩
 dsimp only at hyf
 rw [hyn] at hyf
 subst hyf
 obtain ⟨k3,k2,k1,k0,hb0⟩:=four5 w #[.int .i64 bk,.int .i64 bn,.string bs,.string nm,.slice ya yn yc] #[.slice va vl vc,.int .i64 (c:Int)] zcs #[.int .i64 bk,.int .i64 bn,.string bs,.string nm,.slice ya yn yc,.slice none 0 0,.slice none 0 0] 42 139 53 53
 have HK3:=hm7 k3
 have HK2:=hm7 k2
 have HK1:=hm7 k1
 have HB0:=hm7 hb0
 have HSZ:Hid (((((w.alloc (.cells #[.int .i64 bk,.int .i64 bn,.string bs,.string nm,.slice ya yn yc] 42)).alloc (.cells #[.slice va vl vc,.int .i64 (c:Int)] 139)).alloc (.cells zcs 53)).alloc (.cells #[.int .i64 bk,.int .i64 bn,.string bs,.string nm,.slice ya yn yc,.slice none 0 0,.slice none 0 0] 53)).heap.size = w.heap.size + 4):=by show _ = _;simp
 have HLY:Hid (LY (w.heap.size + 1 + 1 + 1) (w.heap.size + 1 + 1 + 1) (⟨⟨bk,bn,bs⟩,nm,al⟩,.slice ya yn yc) ((((w.alloc (.cells #[.int .i64 bk,.int .i64 bn,.string bs,.string nm,.slice ya yn yc] 42)).alloc (.cells #[.slice va vl vc,.int .i64 (c:Int)] 139)).alloc (.cells zcs 53)).alloc (.cells #[.int .i64 bk,.int .i64 bn,.string bs,.string nm,.slice ya yn yc,.slice none 0 0,.slice none 0 0] 53)) [] []):=
  ⟨Nat.le_refl _,by have:=k3.lt;omega,_,_,k3,World.ownsRow_nil _ _ _ _,World.ownsRow_nil _ _ _ _⟩
 have HAM:=hm7 (alM_below (alM_mono (f:=f) (G:=fun b=>b < w.heap.size + 1 + 1 + 1) ha fun b hb _=>by omega) hb0)
 have HLV:Hid (∀ l ∈ x,lvOk (fun b=>b < w.heap.size) w l):=fun l hl=>(alM_mono (f:=f) (G:=fun b=>b < w.heap.size) ha fun b hb _=>hb).lv (fun cs m h=>LiM.lv f cs m h) x (List.mem_of_getElem? hx) l hl
 have HWF:=hm7 hw
 clear k3 k2 k0 hb0 hl hh ha ht c1 c2 hw
 have q0:=HK1.out.cell (i:=0) rfl
 have q1:=HK1.out.cell (i:=1) rfl
 clear k1
 obtain ⟨Y0,hY0⟩:∃ Y0,(((w.alloc (.cells #[.int .i64 bk,.int .i64 bn,.string bs,.string nm,.slice ya yn yc] 42)).alloc (.cells #[.slice va vl vc,.int .i64 (c:Int)] 139)).alloc (.cells zcs 53)).alloc (.cells #[.int .i64 bk,.int .i64 bn,.string bs,.string nm,.slice ya yn yc,.slice none 0 0,.slice none 0 0] 53) = Y0:=⟨_,rfl⟩
 rw [hY0] at HK3 HK2 HK1 HB0 HLY HAM q0 q1 HSZ
 have HY0:=hm7 hY0
 clear hY0
 have HCL:=hm7 (layA_all f (w.heap.size + 1 + 1 + 1) (w.heap.size + 1 + 1 + 1) (⟨⟨bk,bn,bs⟩,nm,al⟩,.slice ya yn yc) Y0 [] [] (.slice va vl vc) c m n x HAM.out hm hx HLY.out (by have:=HXL.out;simp;omega) (by have:=HXL.out;simp;omega))
 unfold zcs at HY0 HK2
 show Calls Tryz.prog 120 #[.agg #[.int .i64 bk,.int .i64 bn,.string bs,.string nm,.slice ya yn yc],.agg #[.slice va vl vc,.int .i64 (c:Int)],.int .i64 (n:Int)] w _
 clear hm hx HAM
 go_enter Tryz.func120,Tryz.ntmps120
 go_upto_region 2 with fail
 rw [HY0.out]
 go_upto_region 3 with (go_at_call 156;refine HCL.out.mono ?_;rintro e W1 ⟨rfl,hly,hfr⟩;have HL1:=hm7 hly;have HF1:=hm7 ((Fr.of (P:=fun b=>w.heap.size <= b) HB0.out).trans hfr fun b _ h=>by omega);have HFY:=hm7 hfr;clear hly hfr)
 obtain ⟨-,hWs,bv,tv,hk,ho,hte⟩:=HL1.out
 have ho1:W1.ownsRow (w.heap.size + 1 + 1 + 1) 42 5 bv (la5 x).length ((la5 x).flatMap ac5):=ho
 have hte1:W1.ownsRow (w.heap.size + 1 + 1 + 1) 85 7 tv (lt5 x).length ((lt5 x).flatMap ec5):=hte
 clear ho hte
 have ho:=ho1
 have hte:=hte1
 clear ho1 hte1
 obtain ⟨hla1,hla2⟩:=HLA.out
 have hFz:=HF1.out.size
 have hok:Cm.ok W1 ⟨(⟨⟨bk,bn,bs⟩,nm,al⟩,.slice ya yn yc),la5 x,bv,lt5 x,tv⟩:=by
  refine ⟨?_,as_of_row ho (fun p hp=>?_) (Nat.lt_of_le_of_lt hla1 (by decide)),es_of_row hte (Nat.lt_of_le_of_lt hla2 (by decide))⟩
  ·exact Rw5.ts (((HHH.out.mono (G:=fun b=>b < w.heap.size) fun b hb _=>hb)).fr HF1.out fun b hb hc=>by omega) HHL.out
  ·have h1:=HLV.out _ (la5_mem hp)
   exact Rw5.ts (Rw5.fr (F:=fun b=>b < w.heap.size) h1 HF1.out fun b hb hc=>by omega) (HAL.out p hp)
 have HKEY:Hid (Cm.key ⟨(⟨⟨bk,bn,bs⟩,nm,al⟩,.slice ya yn yc),la5 x,bv,lt5 x,tv⟩ = ck5 ⟨⟨bk,bn,bs⟩,nm,al⟩ (x.map Lv5.er)):=by
  show (_,fsts (la5 x),lt5 x) = _
  rw [fa5_er,ft5_er]
  rfl
 clear hla1 hla2
 have HNM:=hm7 (normalK_any _ W1 hok (by rw [HKEY.out];exact HKT.out) (by rw [HKEY.out];exact HWF.out))
 rw [HKEY.out] at HNM
 obtain ⟨ba,bc,hbf, -⟩:=row7_form ho
 obtain ⟨ta,tc,htf, -⟩:=row7_form hte
 generalize (la5 x).length = bl at hbf
 generalize (lt5 x).length = tl at htf
 subst hbf
 subst htf
 have s0:=hk.cell (i:=0) rfl
 have s1:=hk.cell (i:=1) rfl
 have s2:=hk.cell (i:=2) rfl
 have s3:=hk.cell (i:=3) rfl
 have s4:=hk.cell (i:=4) rfl
 have s5:=hk.cell (i:=5) rfl
 have s6:=hk.cell (i:=6) rfl
 have HR1:=hm7 (HK2.out.fr HFY.out (fun e=>by omega))
 have HNW:=hm7 hFz
 have HXW:Hid (w.heap.size + 1 + 1 < W1.heap.size):=HR1.out.lt
 clear hk ho hte hok HL1 HFY HLY HCL hWs hFz q0 q1
 go_wp2_with (go_at_call 157;refine HNM.out.mono ?_;clear HNM;rintro e w1 ⟨dd,rfl,hdk,hdp,hb⟩;obtain ⟨⟨d1,d2,d3,tz1⟩,⟨d4,d6,tz2⟩,⟨d7,d9,tz3⟩, -, -⟩:=(hdp.ok).shape;obtain ⟨d5,tz4⟩:∃ n,n = dd.body.length:=⟨_,rfl⟩;obtain ⟨d8,tz5⟩:∃ n,n = dd.tests.length:=⟨_,rfl⟩;rw [<- tz4] at tz2;rw [<- tz5] at tz3;obtain ⟨⟨⟨⟨dk,dn,ds⟩,dm,da⟩,dv⟩,db,dbv,dt,dtv⟩:=dd;simp only at tz1 tz2 tz3;subst tz1 tz2 tz3;clear tz4 tz5;have HDK:=hm7 hdk;have HKP:=hm7 hdp;have HR2:=hm7 (HR1.out.below hb);have HF2:=hm7 (HF1.out.then hb);clear hdk hdp hb s0 s1 s2 s3 s4 s5 s6;have r0:=HR2.out.cell (i:=0) rfl;have r1:=HR2.out.cell (i:=1) rfl;have r2:=HR2.out.cell (i:=2) rfl;have r3:=HR2.out.cell (i:=3) rfl;have r4:=HR2.out.cell (i:=4) rfl;have r5:=HR2.out.cell (i:=5) rfl;have r6:=HR2.out.cell (i:=6) rfl;have f0:=HR2.out.froz 0;have f1:=HR2.out.froz 1;have f2:=HR2.out.froz 2;have f3:=HR2.out.froz 3;have f4:=HR2.out.froz 4;have f5:=HR2.out.froz 5;have f6:=HR2.out.froz 6;have hrl:=HR2.out.lt)
 have HZZ:=hm7 (store7c HR2.out (a:=.int .i64 dk) (b:=.int .i64 dn) (c:=.string ds) (d:=.string dm) (e:=.slice d1 d2 d3) (f:=.slice d4 d5 d6) (k:=.slice d7 d8 d9))
 have z0:=HZZ.out.cell (i:=0) rfl
 have z1:=HZZ.out.cell (i:=1) rfl
 have z2:=HZZ.out.cell (i:=2) rfl
 have z3:=HZZ.out.cell (i:=3) rfl
 have z4:=HZZ.out.cell (i:=4) rfl
 have z5:=HZZ.out.cell (i:=5) rfl
 have z6:=HZZ.out.cell (i:=6) rfl
 have nw:(fun b=>w.heap.size <= b) (w.heap.size + 1 + 1):=by show w.heap.size <= w.heap.size + 1 + 1;omega
 refine bodyPost_ret (v:=.agg #[.int .i64 dk,.int .i64 dn,.string ds,.string dm,.slice d1 d2 d3,.slice d4 d5 d6,.slice d7 d8 d9]) (by simp [results,Tryz.results120,go_sem,z0,z1,z2,z3,z4,z5,z6]) rfl ?_
 exact ⟨⟨(⟨⟨dk,dn,ds⟩,dm,da⟩,.slice d1 d2 d3),db,.slice d4 d5 d6,dt,.slice d7 d8 d9⟩,rfl,HDK.out,(HKP.out.put7 HXW.out _ _ _ _ _ _ _).mono HNW.out,Fr.low (((((((HF2.out.set (Or.inl nw)).set (Or.inl nw)).set (Or.inl nw)).set (Or.inl nw)).set (Or.inl nw)).set (Or.inl nw)).set (Or.inl nw)) (Nat.le_refl _)⟩
end Go.Proofs.YtcpjiahdaplhlaaGreatDoor
namespace Go.Proofs.YtcpjiahdaplhlaaGreatDoor
open Go.RowKit
attribute [local go_sem ↓] Go.wp_at_zero Go.wp_at_succ
theorem aErr_fst5:∀ {l l':List (At × Value)},fsts l = fsts l' -> aErr l = aErr l'
 | [],[],_=>rfl
 | [],_ :: _,h=>by simp [fsts] at h
 | _ :: _,[],h=>by simp [fsts] at h
 | x :: l,y :: l',h=>by
  simp only [fsts,List.map_cons,List.cons.injEq] at h
  have ih:=aErr_fst5 (l:=l) (l':=l') h.2
  unfold aErr
  rw [h.1,ih]
theorem chk_key5 {c d:Cm} (h:d.key = c.key):d.chk = c.chk:=by
 have k1:d.head.1 = c.head.1:=congrArg (fun k:Ck=>k.1) h
 have k2:fsts d.body = fsts c.body:=congrArg (fun k:Ck=>k.2.1) h
 have k3:d.tests = c.tests:=congrArg (fun k:Ck=>k.2.2) h
 have e1:long d = long c:=by unfold long;rw [(key_len d).1,(key_len d).2,(key_len c).1,(key_len c).2,h]
 have e2:aErr d.atoms = aErr c.atoms:=aErr_fst5 (by unfold Cm.atoms;simp only [fsts,List.map_cons];rw [k1];congr 1)
 have e3:badT d = badT c:=by unfold badT;rw [k3]
 have e4:unb d = unb c:=by rw [unb_key,unb_key,h]
 have e5:mis 0 d.vars = mis 0 c.vars:=by rw [mis_key,mis_key,h]
 unfold Cm.chk Cm.rs
 rw [e1,e2,e3,e4,e5,k1]
def ch5 (x:Ck):Int:=Cm.chk ⟨(x.1,.slice none 0 0),x.2.1.map fun a=>(a,.slice none 0 0),.slice none 0 0,x.2.2,.slice none 0 0⟩
theorem chk_ch5 (c:Cm):c.chk = ch5 c.key:=by
 unfold ch5
 refine chk_key5 ?_
 simp [Cm.key,fsts]
theorem gappL5 {T e:TypeId} {z:Value} {by_ size:Nat} (hT:Tryz.prog.underlying T = some (.slice e)) (hI:(Tryz.prog.info? e).map (fun i=>(i.zero,i.size,i.bytes)) = some (some z,size,by_)) (hz:z.cells.size = size) (hsz:0 < size) (hby:by_ <= 1000)
  {ops:Array Oper} {rest:List Oper} {o:Oper} {a:Act} {Q:Exit -> Act -> World -> Prop} {w:World} (hgd:o.guard = none) (s x:Operand)
  (ho:o.op = .call { callee:=.builtin .append,args:=#[s,x],argTypes:=#[T,T] }) (base:Nat) (v:Value) (n:Nat) (l:List Value) (hs:a.eval s = v) (hown:w.ownsRow base e size v n l)
  (b m c base':Nat) (ys:List Value) (hx:a.eval x = .slice (some ⟨b,0,none⟩) m c) (hy:w.ownsRow base' e size (.slice (some ⟨b,0,none⟩) m c) m ys) (h0:0 < m) (hone:∀ u ∈ ys,u.oneCell' = true) (hlen:n + m <= 100000000000) (hbase:base <= w.heap.size)
  (h:∀ g cap w',w'.ownsRow base e size (.slice (some ⟨g,0,none⟩) (n + m) cap) (n + m) (l ++ ys) -> w.grownBy w' v.ownBlock -> (v.ownBlock = some g ∨ g = w.heap.size) -> g < w'.heap.size -> wpList Tryz.prog ops Q rest (a.put o.dst (.slice (some ⟨g,0,none⟩) (n + m) cap)) w'):wpList Tryz.prog ops Q (o :: rest) a w:=by
 obtain ⟨i,hi,h1,h2,h3⟩:=info5 hI
 refine wpList_append_lies _ hgd s x T ho base e i z size by_ hT hi h1 h2 h3 hz hsz v n l hs hown ⟨b,0,none⟩ m c ys hx hy.1 ?_ hone h0 (by unfold maxLen;omega) (Nat.le_trans (Nat.mul_le_mul hlen hby) (by decide)) hbase _ rfl h
 intro j u hj
 have:=row5_cell hy hj
 rw [Go.WideShapes.add_plain]
 exact this
theorem Tryz.infoClause5:(Tryz.prog.info? 53).map (fun i=>(i.zero,i.size,i.bytes)) = some (some (.agg #[.int .i64 0,.int .i64 0,.string ⟨#[]⟩,.string ⟨#[]⟩,.slice none 0 0,.slice none 0 0,.slice none 0 0]),7,120):=by kernel_rfl
def cc5 (c:Cm):List Value:=[.int .i64 c.head.1.by_.k,.int .i64 c.head.1.by_.n,.string c.head.1.by_.s,.string c.head.1.name,c.head.2,c.bv,c.tv]
structure RL (F:Nat -> Prop) (w:World) (v:Value) (l:List Cm):Prop where
 o:w.ownsRow 0 53 7 v l.length (l.flatMap cc5)
 b:∀ g,v.ownBlock = some g -> F g
 k:∀ c ∈ l,KF (fun b=>F b /\ v.ownBlock ≠ some b) w c
theorem RL.fr {F Q:Nat -> Prop} {w w':World} {v:Value} {l:List Cm} (h:RL F w v l) (hf:Fr Q w w') (hQ:∀ b,F b -> ¬ Q b):RL F w' v l:=⟨row7_fr h.o hf fun g hg=>hQ g (h.b g hg),h.b,fun c hc=>(h.k c hc).fr hf fun b hb=>hQ b hb.1⟩
theorem RL.mono {F G:Nat -> Prop} {w:World} {v:Value} {l:List Cm} (h:RL F w v l) (hG:∀ b,b < w.heap.size -> F b -> G b):RL G w v l:=⟨h.o,fun g hg=>hG g (World.ownsRow.lt h.o g hg).2 (h.b g hg),fun c hc=>(h.k c hc).mono fun b hb hF=>⟨hG b hb hF.1,hF.2⟩⟩
theorem cc5_one {c:Cm} {w:World} (h:c.ok w):∀ u ∈ cc5 c,u.oneCell' = true:=by
 obtain ⟨⟨a,n,cp,e1⟩,⟨a',cp',e2⟩,⟨a'',cp'',e3⟩, -, -⟩:=h.shape
 intro u hu
 simp only [cc5,e1,e2,e3] at hu
 simp at hu
 rcases hu with rfl | rfl | rfl | rfl | rfl | rfl | rfl <;> rfl
def cls5 (p:Int) (h:At):List (List Lf5) -> List Ck -> Except (Int × Int) (List Ck)
 | [],acc=>.ok acc
 | x :: r,acc=>if ch5 (normC (ck5 h x)) = 0 then cls5 p h r (acc ++ [normC (ck5 h x)]) else .error (ch5 (normC (ck5 h x)),p)
def rh5 (T:List Tk) (L:Nat) (s:Ps):R5 (At × List (List Lf5)):=(at5 T L s).and fun h s=>(bd5 T L s).and fun m s=>(tk5 T L [10] s).and fun _ s=>.ok ((h,m),s)
def rl5 (T:List Tk) (L nx:Nat):Except (Int × Int) (List Ck × Nat):=match rh5 T L (s05 nx) with
 | .error e=>.error e
 | .ok ((h,m),s)=>if 64 < m.length then .error (53,pl5 T L (s05 nx)) else match cls5 (pl5 T L (s05 nx)) h m [] with
  | .error e=>.error e
  | .ok ks=>.ok (ks,s.nx)
theorem norm_rng {x:Ck} {n:Nat} (h:(Ck.terms x).length <= n) {t:Tm} (ht:t ∈ Ck.terms (normC x)) (hv:t.var = true):0 <= t.n /\ t.n < n:=by
 refine ⟨?_,norm_small h ht hv⟩
 unfold normC at ht
 rw [mapC_terms] at ht
 obtain ⟨u,hu,rfl⟩:=List.mem_map.1 ht
 rw [nmT_var _ _ (fun u hu=>(disT_mem.1 hu).2)] at hv
 have hm:u ∈ disT (Ck.terms x):=disT_mem.2 ⟨hu,hv⟩
 unfold nmT
 rw [if_pos hm]
 simp
theorem norm_wf5 {c:Cm} {x:Ck} (hk:c.key = normC x) (h:(Ck.terms x).length <= 4000000):c.wf:=by
 refine ⟨fun t ht hv=>?_, ?_⟩
 ·rw [key_terms,hk] at ht
  obtain ⟨h1,h2⟩:=norm_rng h ht hv
  have h4 : -9223372036854775808 <= t.n /\ t.n <= 9223372036854775807:=by omega
  simp only [Lit.wf,IntKind.min,IntKind.max,Bool.and_eq_true]
  constructor <;> simp [IntKind.signed,IntKind.bits] <;> omega
 ·rw [key_terms,hk,norm_terms]
  omega
theorem PZ.pb {g mb N' N:Nat} {tv:Value} {T:List Tk} {L nx:Nat} {w w':World} {s:Ps} (h:PZ ⟨g,mb,N',tv,T,L⟩ w' s) (ho:s.op = 0) (h0:PB g N tv T L w nx) (hf:Fr (fun b=>b = g) w w'):PB g N tv T L w' s.nx:=by
 have hb:=h.b
 rw [ho] at hb
 exact ⟨⟨some mb,s.vs,hb⟩,h0.t.fr hf fun b _ hF e=>hF.1 e,h.le,h0.gN,Nat.le_trans h0.Nw hf.size,h0.ok,h0.o.fr hf fun e=>h0.og.1 e.symm,h0.og⟩
theorem gs_05 {T:List Tk} {nx:Nat} (h:nx <= T.length):GS T (s05 nx):=⟨h,Nat.zero_le _,fun x k e=>by cases e⟩
end Go.Proofs.YtcpjiahdaplhlaaGreatDoor
namespace Go.Proofs.YtcpjiahdaplhlaaGreatDoor
open Go.RowKit
attribute [local go_sem ↓] Go.wp_at_zero Go.wp_at_succ
def RuP (g N:Nat) (tv:Value) (T:List Tk) (L:Nat) (w:World) (R:Except (Int × Int) (List Ck × Nat)) (e:Ending) (w':World):Prop:=
 Fr (fun b=>b = g) w w' /\ match R with
  | .error f=>e = .panicked [pF f]
  | .ok (ks,nx)=>∃ v l,e = .returned v /\ l.map Cm.key = ks /\ l ≠ [] /\ l.length <= 64 /\ RL (fun b=>w.heap.size <= b) w' v l /\ PB g N tv T L w' nx
theorem fr_g5 {g q:Nat} {N:Nat} {tv:Value} {T:List Tk} {L:Nat} {w w1 w2:World} (h1:Fr (fun b=>b = g) w w1) (h2:Fr (W5 ⟨g,q,N,tv,T,L⟩) w1 w2) (hq:w.heap.size <= q):Fr (fun b=>b = g) w w2:=h1.trans h2 fun b hb e=>by
 rcases e with e | e
 ·exact e
 ·have e1:b = q:=e
  omega
set_option maxRecDepth 20000 in
set_option maxHeartbeats 8000000 in
theorem rule5_any (g N:Nat) (tv:Value) (T:List Tk) (L nx:Nat) (w:World) (h:PB g N tv T L w nx) :
  Calls Tryz.prog 81 #[.pointer (some ⟨g,0,none⟩)] w (RuP g N tv T L w (rl5 T L nx)):=by
 have HBG:=hm7 (begin5_any g N tv T L nx w h)
 have HPB:=hm7 h
 have hT:=h.ok.l
 have HGS:=hm7 (gs_05 h.le)
 obtain ⟨c,hc⟩:∃ c:Pk,(⟨g,w.heap.size,w.heap.size + 1,tv,T,L⟩:Pk) = c:=⟨_,rfl⟩
 have HFG:Hid (∀ w1 w2:World,Fr (fun b=>b = g) w w1 -> Fr (W5 c) w1 w2 -> Fr (fun b=>b = g) w w2):=fun w1 w2 h1 h2=>by rw [<- hc] at h2;exact fr_g5 h1 h2 (Nat.le_refl _)
 have HPZ:Hid (∀ (w':World) (s:Ps),PZ c w' s -> s.op = 0 -> Fr (fun b=>b = g) w w' -> PB g N tv T L w' s.nx):=fun w' s h1 h2 h3=>by rw [<- hc] at h1;exact h1.pb h2 HPB.out h3
 have HNB:Hid (∀ b,w.heap.size < b -> ¬ W5 c b):=fun b hb e=>by
  rw [<- hc] at e
  have:=h.gN;have:=h.Nw
  rcases e with e | e
  ·have e1:b = g:=e;omega
  ·have e1:b = w.heap.size:=e;omega
 have HCN:Hid (c.N = w.heap.size + 1):=by rw [<- hc];exact rfl
 have hcg:c.g = g:=by rw [<- hc]
 have hcT:c.T = T:=by rw [<- hc]
 have hcL:c.L = L:=by rw [<- hc]
 rw [hc] at HBG
 have HAT:Hid (∀ X:World,PZ c X (s05 nx) -> Calls Tryz.prog 84 #[.pointer (some ⟨g,0,none⟩)] X (P5P c X (fun (a:At) v w'=>∃ y,v = a.v y /\ Ot5 w' X.heap.size y a.args) (at5 T L (s05 nx)))):=fun X hX=>by
  have:=atom5_any c (s05 nx) X hX
  rw [hcg,hcT,hcL] at this
  exact this
 have HBD:Hid (∀ (X:World) (s:Ps),PZ c X s -> Calls Tryz.prog 119 #[.pointer (some ⟨g,0,none⟩)] X (P5P c X (VA 17 X) (bd5 T L s))):=fun X s hX=>by
  have:=body5_any c s X hX
  rw [hcg,hcT,hcL] at this
  exact this
 have HTK:Hid (∀ (X:World) (s:Ps),PZ c X s -> Calls Tryz.prog 85 #[.pointer (some ⟨g,0,none⟩),.slice (some ⟨X.heap.size,0,none⟩) 1 1] (X.alloc (.cells #[.int .i64 10] 3)) (P5P c (X.alloc (.cells #[.int .i64 10] 3)) (fun (t:Tk) v _=>v = t.v) (tk5 T L [10] s))):=fun X s hX=>by
  have:=takeN5 10 (by decide) c s X hX
  rw [hcg,hcT,hcL] at this
  exact this
 clear h hc hcg hcT hcL
 obtain ⟨p0,hp0⟩:∃ p,pl5 T L (s05 nx) = p:=⟨_,rfl⟩
 rw [hp0] at HBG
 obtain ⟨R,hR⟩:∃ R,rl5 T L nx = R:=⟨_,rfl⟩
 rw [hR]
 unfold rl5 rh5 at hR
 rw [hp0] at hR
 clear hp0
 go_enter Tryz.func81,Tryz.ntmps81
 go_upto_region 2 with (go_at_call 83;refine HBG.out.mono ?_;rintro e W1 ⟨rfl,hz,hf⟩;have HZ1:=hm7 hz;have HF1:=hm7 hf;clear hz hf)
 clear HBG
 cases hr:at5 T L (s05 nx) with
 | error e0=>
  rw [R5.and_err hr] at hR
  subst hR
  have HE:=hm7 (P5P.err (HAT.out W1 HZ1.out) hr)
  clear hr HAT
  go_wp2_with (go_at_call 84;refine HE.out.mono ?_;rintro e W2 ⟨rfl,hf⟩;have HF2:=hm7 (HFG.out _ _ HF1.out hf);clear hf)
  exact ⟨rfl,HF2.out,rfl⟩
 | ok p=>
  obtain ⟨ha,s1⟩:=p
  rw [R5.and_ok hr] at hR
  have HE:=hm7 (P5P.ok (HAT.out W1 HZ1.out) hr)
  have HQA:=hm7 (wg_at T L _ _ _ HGS.out hr)
  have HG1:=hm7 (goes_at T L _ _ _ hr)
  clear hr HAT
  obtain ⟨⟨hk,hn,hs⟩,hm,hal⟩:=ha
  have HWW:Hid (w.heap.size < W1.heap.size):=by have h1:=HZ1.out.Nw;rw [HCN.out] at h1;exact h1
  go_upto_region 3 with (go_at_call 84;refine HE.out.mono ?_;rintro e W2 ⟨v2,rfl,⟨y,rfl,hy⟩,hz,hf⟩;obtain ⟨ya,yc,hyf, -⟩:=row7_form hy;generalize hyn:List.length _ = yn at hyf;subst hyf;have HYN:=hm7 hyn;have HY3:Hid (Rw5 (fun b=>w.heap.size < b) (W2.alloc (.cells #[.int .i64 hk,.int .i64 hn,.string hs,.string hm,.slice ya yn yc] 42)) 39 3 (.slice ya yn yc) hal.length (tc5 hal)):=⟨row5_base (Ot5.below hy (below1 W2 (.cells #[.int .i64 hk,.int .i64 hn,.string hs,.string hm,.slice ya yn yc] 42))),fun b hb=>Nat.lt_of_lt_of_le HWW.out (World.ownsRow.lt hy b hb).1⟩;have HZ3:=hm7 (hz.below (below1 W2 (.cells #[.int .i64 hk,.int .i64 hn,.string hs,.string hm,.slice ya yn yc] 42)));have HF3:=hm7 ((HFG.out _ _ HF1.out hf).then (below1 W2 (.cells #[.int .i64 hk,.int .i64 hn,.string hs,.string hm,.slice ya yn yc] 42)));have HH3:=hm7 (Bk.new W2 #[.int .i64 hk,.int .i64 hn,.string hs,.string hm,.slice ya yn yc] 42);have HHB:Hid (w.heap.size < W2.heap.size):=Nat.lt_of_lt_of_le HWW.out hf.size;clear hz hf hy hyn)
  revert HY3 HZ3 HF3 HH3
  generalize W2.alloc (.cells #[.int .i64 hk,.int .i64 hn,.string hs,.string hm,.slice ya yn yc] 42) = W3
  generalize W2.heap.size = hb at *
  intro HY3 HZ3 HF3 HH3
  clear HE HZ1
  cases hr:bd5 T L s1 with
  | error e0=>
   rw [R5.and_err hr] at hR
   subst hR
   have HE2:=hm7 (P5P.err (HBD.out W3 s1 HZ3.out) hr)
   clear hr HBD
   go_wp2_with (go_at_call 119;refine HE2.out.mono ?_;rintro e W4 ⟨rfl,hf⟩;have HF4:=hm7 (HFG.out _ _ HF3.out hf);clear hf)
   exact ⟨rfl,HF4.out,rfl⟩
  | ok p=>
   obtain ⟨m,s2⟩:=p
   rw [R5.and_ok hr] at hR
   have HE2:=hm7 (P5P.ok (HBD.out W3 s1 HZ3.out) hr)
   have HQB:=hm7 (wg_bd T L _ _ _ HQA.out.1 hr)
   have HG2:=hm7 (goes_bd T L _ _ _ hr)
   clear hr HBD
   have HW3:Hid (w.heap.size < W3.heap.size):=Nat.lt_of_lt_of_le HHB.out (Nat.le_of_lt HH3.out.lt)
   go_upto_region 4 with (go_at_call 119;refine HE2.out.mono ?_;rintro e W4 ⟨v4,rfl,⟨va,an,m',rfl,hmm,ha⟩,hz,hf⟩;obtain ⟨xa,xl,xc,rfl⟩:=alM_form ha;have HM:=hm7 hmm;have HZ5:=hm7 (hz.below (below1 W4 (.cells #[.slice xa xl xc,.int .i64 (an:Int)] 139)));have HF5:=hm7 ((HFG.out _ _ HF3.out hf).then (below1 W4 (.cells #[.slice xa xl xc,.int .i64 (an:Int)] 139)));have HY5:=hm7 ((HY3.out.fr hf fun b hb=>HNB.out b hb).fr (Q:=fun _=>False) (Fr.of (below1 W4 (.cells #[.slice xa xl xc,.int .i64 (an:Int)] 139))) fun _ _ h=>h);have HH5:=hm7 ((HH3.out.fr hf (HNB.out _ HHB.out)).below (below1 W4 (.cells #[.slice xa xl xc,.int .i64 (an:Int)] 139)));have HA5:=hm7 (alM_below (alM_mono (G:=fun b=>w.heap.size < b) ha fun b _ hb=>Nat.lt_of_lt_of_le HW3.out hb) (below1 W4 (.cells #[.slice xa xl xc,.int .i64 (an:Int)] 139)));have HX5:=hm7 (Bk.new W4 #[.slice xa xl xc,.int .i64 (an:Int)] 139);have HAB:Hid (w.heap.size < W4.heap.size):=Nat.lt_of_lt_of_le HW3.out hf.size;clear hz hf hmm ha)
   revert HZ5 HF5 HY5 HH5 HA5 HX5
   generalize W4.alloc (.cells #[.slice xa xl xc,.int .i64 (an:Int)] 139) = W5'
   generalize W4.heap.size = ab at *
   intro HZ5 HF5 HY5 HH5 HA5 HX5
   clear HE2 HZ3 HF3 HY3 HH3 HW3
   cases hr:tk5 T L [10] s2 with
   | error e0=>
    rw [R5.and_err hr] at hR
    subst hR
    have HE3:=hm7 (P5P.err (HTK.out W5' s2 HZ5.out) hr)
    clear hr HTK
    go_wp2_with (go_at_call 85;refine HE3.out.mono ?_;rintro e W6 ⟨rfl,hf⟩;have HF6:=hm7 (HFG.out _ _ (HF5.out.then (below1 _ _)) hf);clear hf)
    exact ⟨rfl,HF6.out,rfl⟩
   | ok p=>
    obtain ⟨⟨tk0,tx0,tn0,ta0,te0⟩,s3⟩:=p
    rw [R5.and_ok hr] at hR
    have HE3:=hm7 (P5P.ok (HTK.out W5' s2 HZ5.out) hr)
    have HQT:=hm7 (wg_tk T L _ _ _ _ HQB.out.1 hr)
    have HG3:=hm7 (goes_tk T L _ _ _ _ hr)
    clear hr HTK
    go_upto_region 5 with (go_at_call 85;refine HE3.out.mono ?_;rintro e W6 ⟨v6,rfl,rfl,hz,hf⟩;have HZ6:=hm7 hz;have HF6:=hm7 (HFG.out _ _ (HF5.out.then (below1 _ _)) hf);have HY6:=hm7 ((HY5.out.fr (Q:=fun _=>False) (Fr.of (below1 W5' (.cells #[.int .i64 10] 3))) fun _ _ h=>h).fr hf fun b hb=>HNB.out b hb);have HH6:=hm7 ((HH5.out.below (below1 _ _)).fr hf (HNB.out _ HHB.out));have HX6:=hm7 ((HX5.out.below (below1 _ _)).fr hf (HNB.out _ HAB.out));have HA6:=hm7 (alM_fr (alM_below HA5.out (below1 W5' (.cells #[.int .i64 10] 3))) hf fun b hb=>HNB.out b hb);clear hz hf)
    clear HE3 HZ5 HF5 HY5 HH5 HX5 HA5
    obtain ⟨xs,ha1,ha2,ha3,ha4,ha5⟩:=HA6.out
    have han:an = min m.length 65:=by rw [HM.out];unfold er5;rw [List.length_map];exact ha4
    have hne0:m ≠ []:=by rw [HM.out];unfold er5;intro e;exact ha5 (List.map_eq_nil_iff.1 e)
    have HNE:=hm7 hne0
    clear ha1 ha2 ha3 ha4 ha5 xs hne0
    have x1:=HX6.out.cell (i:=1) rfl
    have han2:an <= 65:=by omega
    by_cases hgt:64 < m.length
    ·have hR2:R = .error (53,p0):=by rw [<- hR];exact if_pos hgt
     subst hR2
     have hg1:(64:Int) < (an:Int):=by omega
     have HGU:Hid (∀ X:World,Calls Tryz.prog 86 #[.int .i64 53,.int .i64 p0] X fun e w'=>e = .panicked [pF (53,p0)] /\ w' = X):=fun X=>giveUp5_any 53 p0 X
     clear hR han hgt
     go_wp2_with (go_at_call 86;refine (HGU.out _).mono ?_;rintro e W7 ⟨rfl,hw7⟩;have HW7:=hm7 hw7;clear hw7)
     refine ⟨rfl, ?_,rfl⟩
     rw [HW7.out]
     exact HF6.out
    ·have hR2:(match cls5 p0 ⟨⟨hk,hn,hs⟩,hm,hal⟩ m [] with
       | .error e=>.error e
       | .ok ks=>.ok (ks,s3.nx)) = R:=by rw [<- hR];exact (if_neg hgt).symm
     have hg1:¬ (64:Int) < (an:Int):=by omega
     have hlen:an = m.length:=by omega
     have HLN:=hm7 hlen
     have HL64:Hid (m.length <= 64):=by show _ <= _;omega
     have HR2:=hm7 hR2
     have HQX:Hid (∀ x ∈ m,(Ck.terms (ck5 ⟨⟨hk,hn,hs⟩,hm,hal⟩ x)).length <= 4000000 /\ ∀ t ∈ Ck.terms (ck5 ⟨⟨hk,hn,hs⟩,hm,hal⟩ x),t.var = true -> (Lit.int .i64 t.n).wf = true):=fun x hx=>by
      obtain ⟨q1,q2⟩:=HQA.out.2.2
      obtain ⟨q3,q4⟩:=HQB.out.2.2 x hx
      have n1:=HQA.out.2.1
      have n2:=HQB.out.2.1
      have n3:=HQT.out.2.1
      have n4:=HQT.out.1.a
      refine ⟨?_,fun t ht hv=>vr5_wf hT (ck5_var q2 q4 t ht) hv⟩
      rw [ck5_len]
      omega
     have HOP:Hid (s3.op = 0):=by
      have e1:=HG1.out.1
      have e2:=HG2.out.1
      have e3:=HG3.out.1
      show s3.op = 0
      rw [e3,e2,e1]
      rfl
     have HB6:Hid (w.heap.size < W6.heap.size):=Nat.lt_of_lt_of_le HAB.out (Nat.le_of_lt HX6.out.lt)
     clear hR hR2 han hgt HQA HQB HQT HG1 HG2 HG3 hlen
     go_upto_region 8 with fail
     go_wp2
     clear x1
     go_loopg [6,7,8,9,26] an (fun gk u _ _ _ i wr=>∃ (j:Nat) (l:List Cm),j + gk = an /\ i = .int .i64 j /\ l.length = j /\ (match cls5 p0 ⟨⟨hk,hn,hs⟩,hm,hal⟩ (m.drop j) (l.map Cm.key) with
       | .error e=>.error e
       | .ok ks=>.ok (ks,s3.nx)) = R /\ wr.ownsRow W6.heap.size 53 7 u l.length (l.flatMap cc5) /\ (∀ d ∈ l,KF (fun b=>W6.heap.size <= b /\ u.ownBlock ≠ some b) wr d) /\ Below W6.heap.size W6 wr)
     case atStart=>exact ⟨0,[],by omega,rfl,rfl,HR2.out,World.ownsRow_nil _ _ _ _,(fun d hd=>by cases hd),Below.refl _ _⟩
     case round=>
      obtain ⟨j,l,hj,rfl,hlj,hRj,ho,hkf,hbw⟩:=hrel
      have HRJ:=hm7 hRj
      have HKF:=hm7 hkf
      have HBW:=hm7 hbw
      obtain ⟨ua,uc,huf, -⟩:=row7_form ho
      rw [hlj] at huf ho
      have HO:=hm7 ho
      have HLJ:=hm7 hlj
      subst huf
      clear hRj ho hkf hbw hlj HR2
      cases gk with
      | zero=>
       obtain rfl:j = an:=by omega
       have hlt:¬ (j:Int) < (j:Int):=by omega
       have HRR:Hid (R = .ok (l.map Cm.key,s3.nx)):=by
        have:=HRJ.out
        rw [List.drop_eq_nil_of_le (by rw [HLN.out];exact Nat.le_refl _)] at this
        exact this.symm
       go_wp2
       go_ret
       rw [HRR.out]
       refine ⟨HF6.out.then HBW.out,_,l,rfl,rfl, ?_, ?_,⟨?_, ?_, ?_⟩, ?_⟩
       ·intro e
        have h1:=HLJ.out
        rw [e] at h1
        have h2:=HNE.out
        have h3:=HLN.out
        apply h2
        apply List.eq_nil_of_length_eq_zero
        rw [<- h3, <- h1]
        rfl
       ·rw [HLJ.out,HLN.out];exact HL64.out
       ·rw [HLJ.out];exact row5_base HO.out
       ·intro b hb
        have:=(World.ownsRow.lt HO.out b hb).1
        have:=HB6.out
        omega
       ·intro d hd
        refine (HKF.out d hd).mono fun b _ hb=>⟨?_,hb.2⟩
        have:=HB6.out
        have:=hb.1
        omega
       ·exact (HPZ.out _ _ HZ6.out HOP.out HF6.out).below HBW.out
      | succ gk=>
       have hlt:(j:Int) < (an:Int):=by omega
       obtain ⟨x,hx⟩:∃ x,m'[j]? = some x:=by
        have h1:m'.length = an:=by have:=HLN.out;rw [HM.out] at this;unfold er5 at this;rw [List.length_map] at this;exact this.symm
        exact ⟨m'[j]'(by omega),List.getElem?_eq_getElem _⟩
       have HXE:Hid (m[j]? = some (x.map Lv5.er)):=by show _ = _;rw [HM.out];unfold er5;rw [List.getElem?_map,hx];rfl
       obtain ⟨hq1,hq2⟩:=HQX.out _ (List.mem_of_getElem? HXE.out)
       have HDR:Hid (m.drop j = x.map Lv5.er :: m.drop (j + 1)):=by
        show _ = _
        rw [List.drop_eq_getElem_cons (List.getElem?_eq_some_iff.1 HXE.out).1,(List.getElem?_eq_some_iff.1 HXE.out).2]
       obtain ⟨key,hkey⟩:∃ key,normC (ck5 ⟨⟨hk,hn,hs⟩,hm,hal⟩ (x.map Lv5.er)) = key:=⟨_,rfl⟩
       have HCO:=hm7 (clauseOf5_any 17 ⟨⟨hk,hn,hs⟩,hm,hal⟩ (.slice ya yn yc) (.slice xa xl xc) an m' j x wr ((HY6.out.mono fun _ _ _=>trivial).fr (Q:=fun _=>False) (Fr.of HBW.out) fun _ _ h=>h) (alM_below (alM_mono HA6.out fun _ _ _=>trivial) HBW.out) (by have h1:=HL64.out;rw [HM.out] at h1;unfold er5 at h1;rw [List.length_map] at h1;exact h1) hx hq1 hq2)
       have HWC:Hid (∀ d:Cm,d.key = key -> d.wf):=fun d hd=>norm_wf5 (hd.trans hkey.symm) hq1
       rw [hkey] at HCO
       have HRN:Hid ((match (if ch5 key = 0 then cls5 p0 ⟨⟨hk,hn,hs⟩,hm,hal⟩ (m.drop (j + 1)) (l.map Cm.key ++ [key]) else .error (ch5 key,p0)) with
         | .error e=>.error e
         | .ok ks=>.ok (ks,s3.nx)) = R):=by
        have:=HRJ.out
        rw [HDR.out] at this
        unfold cls5 at this
        rw [hkey] at this
        exact this
       clear hx hq1 hq2 hkey HRJ
       have hb5:=HH6.out.below HBW.out
       have ha5:=HX6.out.below HBW.out
       have h0:=hb5.cell (i:=0) rfl
       have h1:=hb5.cell (i:=1) rfl
       have h2:=hb5.cell (i:=2) rfl
       have h3:=hb5.cell (i:=3) rfl
       have h4:=hb5.cell (i:=4) rfl
       have a0:=ha5.cell (i:=0) rfl
       have a1:=ha5.cell (i:=1) rfl
       clear hb5 ha5
       have hsz:=HBW.out.size
       go_upto_region 12 with (go_at_call 120;refine HCO.out.mono ?_;clear HCO;rintro e w1 ⟨dd,rfl,hdk,hdp,hb⟩;obtain ⟨⟨d1,d2,d3,tz1⟩,⟨d4,d6,tz2⟩,⟨d7,d9,tz3⟩, -, -⟩:=(hdp.ok).shape;obtain ⟨d5,tz4⟩:∃ n,n = dd.body.length:=⟨_,rfl⟩;obtain ⟨d8,tz5⟩:∃ n,n = dd.tests.length:=⟨_,rfl⟩;rw [<- tz4] at tz2;rw [<- tz5] at tz3;obtain ⟨⟨⟨⟨dk,dn,ds⟩,dm,da⟩,dv⟩,db,dbv,dt,dtv⟩:=dd;simp only at tz1 tz2 tz3;subst tz1 tz2 tz3;clear tz4 tz5;have HDK:=hm7 hdk;have HKP:=hm7 ((hdp.kf).below (below1 w1 (.cells #[.int .i64 dk,.int .i64 dn,.string ds,.string dm,.slice d1 d2 d3,.slice d4 d5 d6,.slice d7 d8 d9] 53)));have HB1:=hm7 (hb.trans ((below1 w1 (.cells #[.int .i64 dk,.int .i64 dn,.string ds,.string dm,.slice d1 d2 d3,.slice d4 d5 d6,.slice d7 d8 d9] 53)).mono hb.size));have HD1:=hm7 (Bk.new w1 #[.int .i64 dk,.int .i64 dn,.string ds,.string dm,.slice d1 d2 d3,.slice d4 d5 d6,.slice d7 d8 d9] 53);have HW1:=hm7 hb.size;clear hdk hdp hb h0 h1 h2 h3 h4 a0 a1)
       revert HKP HB1 HD1
       generalize w1.alloc (.cells #[.int .i64 dk,.int .i64 dn,.string ds,.string dm,.slice d1 d2 d3,.slice d4 d5 d6,.slice d7 d8 d9] 53) = w2
       generalize w1.heap.size = db1 at *
       intro HKP HB1 HD1
       have HCK:=hm7 (check9_any _ w2 HKP.out.ok (HWC.out _ HDK.out))
       rw [chk_ch5,HDK.out] at HCK
       obtain ⟨ck,hck⟩:∃ ck,ch5 key = ck:=⟨_,rfl⟩
       rw [hck] at HCK HRN
       have g0:=HD1.out.cell (i:=0) rfl
       have g1:=HD1.out.cell (i:=1) rfl
       have g2:=HD1.out.cell (i:=2) rfl
       have g3:=HD1.out.cell (i:=3) rfl
       have g4:=HD1.out.cell (i:=4) rfl
       have g5:=HD1.out.cell (i:=5) rfl
       have g6:=HD1.out.cell (i:=6) rfl
       clear hck HWC
       by_cases hc0:ck = 0
       ·subst hc0
        have HRN2:Hid ((match cls5 p0 ⟨⟨hk,hn,hs⟩,hm,hal⟩ (m.drop (j + 1)) (l.map Cm.key ++ [key]) with
          | .error e=>.error e
          | .ok ks=>.ok (ks,s3.nx)) = R):=by have:=HRN.out;rw [if_pos rfl] at this;exact this
        clear HRN
        have hj64:j <= 65:=by omega
        go_upto_region 15 with (go_at_call 58;refine HCK.out.mono ?_;rintro e w3 ⟨rfl,hb⟩;have HB3:=hm7 (HB1.out.trans (hb.mono HB1.out.size));have HD3:=hm7 (HD1.out.below hb);have HKP3:=hm7 (HKP.out.below hb);clear hb g0 g1 g2 g3 g4 g5 g6)
        have g0:=HD3.out.cell (i:=0) rfl
        have g1:=HD3.out.cell (i:=1) rfl
        have g2:=HD3.out.cell (i:=2) rfl
        have g3:=HD3.out.cell (i:=3) rfl
        have g4:=HD3.out.cell (i:=4) rfl
        have g5:=HD3.out.cell (i:=5) rfl
        have g6:=HD3.out.cell (i:=6) rfl
        have HO4:=hm7 (row7_below (row7_below HO.out HB3.out) (below1 w3 (.cells #[.int .i64 dk,.int .i64 dn,.string ds,.string dm,.slice d1 d2 d3,.slice d4 d5 d6,.slice d7 d8 d9] 53)))
        have hw3:W6.heap.size <= w3.heap.size:=Nat.le_trans hsz HB3.out.size
        go_wp2_with (at_builtin;refine gapp5 Tryz.underlying33 Tryz.infoClause5 rfl (by decide) (by decide) rfl _ _ rfl W6.heap.size (.slice ua j uc) j (l.flatMap cc5) rfl HO4.out w3.heap.size #[.int .i64 dk,.int .i64 dn,.string ds,.string dm,.slice d1 d2 d3,.slice d4 d5 d6,.slice d7 d8 d9] rfl (Bk.new _ _ _) rfl (by simp [Value.oneCell']) (by omega) (by simp;omega) ?_;intro g5' q5 w5 ho5 hg5 hv5 hl5;have HO5:=hm7 ho5;have HG5:=hm7 hg5;have HV5:=hm7 hv5;clear ho5 hg5 hv5 hl5)
        have HGF:Hid (Fr (fun b=>W6.heap.size <= b) (w3.alloc (.cells #[.int .i64 dk,.int .i64 dn,.string ds,.string dm,.slice d1 d2 d3,.slice d4 d5 d6,.slice d7 d8 d9] 53)) w5):=Fr.grown HG5.out fun b hb=>(World.ownsRow.lt HO4.out b hb).1
        have HGW:Hid (Fr (fun b=>(Value.slice ua j uc).ownBlock = some b) (w3.alloc (.cells #[.int .i64 dk,.int .i64 dn,.string ds,.string dm,.slice d1 d2 d3,.slice d4 d5 d6,.slice d7 d8 d9] 53)) w5):=Fr.grown HG5.out fun b hb=>hb
        have HI5:Hid (∀ d,KF (fun b=>W6.heap.size <= b /\ (Value.slice ua j uc).ownBlock ≠ some b) w3 d -> KF (fun b=>W6.heap.size <= b /\ (Value.slice (some ⟨g5',0,none⟩) (j + 1) q5).ownBlock ≠ some b) w5 d):=fun d hd=>by
         have h1:=(hd.mono (G:=fun b=>W6.heap.size <= b /\ (Value.slice ua j uc).ownBlock ≠ some b /\ b ≠ w3.heap.size) fun b hb hw=>⟨hw.1,hw.2,by omega⟩).below (below1 w3 (.cells #[.int .i64 dk,.int .i64 dn,.string ds,.string dm,.slice d1 d2 d3,.slice d4 d5 d6,.slice d7 d8 d9] 53))
         have h2:=h1.mono (G:=fun b=>(W6.heap.size <= b /\ (Value.slice (some ⟨g5',0,none⟩) (j + 1) q5).ownBlock ≠ some b) /\ (Value.slice ua j uc).ownBlock ≠ some b) fun b hb hw=>⟨⟨hw.1,fun e=>by
          have e1:g5' = b:=Option.some.inj e
          rcases HV5.out with e2 | e2
          ·exact hw.2.1 (by rw [<- e1];exact e2)
          ·omega⟩,hw.2.1⟩
         exact (h2.fr HGW.out fun b hb=>hb.2).mono fun b _ hb=>hb.1
        try go_wp2
        go_roundg gk
        case measure=>omega
        case rel=>
         refine ⟨j + 1,l ++ [⟨(⟨⟨dk,dn,ds⟩,dm,da⟩,.slice d1 d2 d3),db,.slice d4 d5 d6,dt,.slice d7 d8 d9⟩],by omega,by go_num,by rw [List.length_append,List.length_singleton,HLJ.out], ?_, ?_, ?_, ?_⟩
         ·rw [List.map_append,List.map_singleton,HDK.out];exact HRN2.out
         ·rw [List.length_append,List.length_singleton,HLJ.out,List.flatMap_append];have:=HO5.out;simpa [cc5] using this
         ·intro d hd
          rcases List.mem_append.1 hd with hd | hd
          ·exact HI5.out d ((HKF.out d hd).below HB3.out)
          ·rw [List.mem_singleton.1 hd]
           refine HI5.out _ (HKP3.out.mono fun b _ hb=>⟨by omega,fun e=>?_⟩)
           have:=(World.ownsRow.lt HO.out b e).2
           omega
         ·exact HBW.out.trans ((Fr.low ((Fr.of (P:=fun b=>W6.heap.size <= b) HB3.out).then (below1 _ _) |>.tr HGF.out) hsz))
       ·have hc1:(ck == 0) = false:=by simp [hc0]
        have hc2:(ck != 0) = true:=by simp [hc0]
        have HRE:Hid (R = .error (ck,p0)):=by have:=HRN.out;rw [if_neg hc0] at this;exact this.symm
        have HGU:Hid (∀ X:World,Calls Tryz.prog 86 #[.int .i64 ck,.int .i64 p0] X fun e w'=>e = .panicked [pF (ck,p0)] /\ w' = X):=fun X=>giveUp5_any ck p0 X
        clear HRN
        go_wp2_with (first
         | (go_at_call 58;refine HCK.out.mono ?_;rintro e w3 ⟨rfl,hb⟩;have HB3:=hm7 (HB1.out.trans (hb.mono HB1.out.size));clear hb)
         | (go_at_call 86;refine (HGU.out _).mono ?_;rintro e W7 ⟨rfl,hw7⟩;have HW7:=hm7 hw7;clear hw7))
        refine ⟨rfl, ?_⟩
        rw [HRE.out,HW7.out]
        exact ⟨(HF6.out.then HBW.out).then HB3.out,rfl⟩
end Go.Proofs.YtcpjiahdaplhlaaGreatDoor

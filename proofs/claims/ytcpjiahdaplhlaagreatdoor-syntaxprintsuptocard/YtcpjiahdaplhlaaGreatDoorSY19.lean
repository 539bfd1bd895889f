import Derived.Test.YtcpjiahdaplhlaaGreatDoorNR6
import Derived.Test.YtcpjiahdaplhlaaGreatDoorL1
import Derived.Test.YtcpjiahdaplhlaaGreatDoorOQ1
import Derived.Test.YtcpjiahdaplhlaaGreatDoorNR3
import Derived.Test.YtcpjiahdaplhlaaGreatDoorSY18
namespace Go.Proofs.YtcpjiahdaplhlaaGreatDoor
open Go.RowKit Go.Shelf
attribute [local go_sem ↓] Go.wp_at_zero Go.wp_at_succ
theorem Bl.below {q B n:Nat} {w w':World} (h:Bl q B w w') (hB:n <= B) (hq:n <= q):Below n w w':=⟨h.os,h.tape,h.output,h.size,fun k hk=>h.block k (by omega) (by omega)⟩
def NrPost (w:World) (c:Cm) (e:Ending) (w':World):Prop:=
 ∃ (M1 M2 M3:Nat) (lb:List (At × Value)),e = .returned (c.cpN [] M1 M2 M3 lb).v /\ RJ w.heap.size w' c.head.1.args.length c.body.length c.tests.length (nsL (nst [] c.head.1.by_) c.head.1.args) (mapS atN atS (atS [] c.head.1) (fsts c.body)) (mapS teN teS (foldS atS (atS [] c.head.1) (fsts c.body)) c.tests) M1 M2 M3 lb /\ Below w.heap.size w w'
set_option maxRecDepth 20000 in
set_option maxHeartbeats 4000000 in
theorem normal_any (c:Cm) (w:World) (hw1:∀ t:Tm,t = c.head.1.by_ ∨ t ∈ c.head.1.args -> t.var = true -> (Lit.int .i64 t.n).wf = true) (hw2:∀ x ∈ c.body,∀ t:Tm,t = x.1.by_ ∨ t ∈ x.1.args -> t.var = true -> (Lit.int .i64 t.n).wf = true) (hw3:∀ x ∈ c.tests,(x.l.var = true -> (Lit.int .i64 x.l.n).wf = true) /\ (x.r.var = true -> (Lit.int .i64 x.r.n).wf = true)) (hS:(c.head.1.args.length + 1) + totA (fsts c.body) + 2 * c.tests.length < 4000000000000) (h:c.ok w) (hl1:c.head.1.args.length <= 1900000000000) (hl2:c.body.length <= 1900000000000) (hl3:c.tests.length <= 1900000000000) (hl4:∀ x ∈ c.body,x.1.args.length <= 1900000000000) :
  Calls Tryz.prog 157 #[c.v] w (NrPost w c):=by
 have hb2:=below2 w (.cells c.cs 53) (.cells zcs 53)
 have hb4:=below_step hb2 (below2 ((w.alloc (.cells c.cs 53)).alloc (.cells zcs 53)) (.map #[] 0) (.cells #[.map (some (w.heap.size + 1 + 1))] 204))
 have z1:(w.alloc (.cells c.cs 53)).heap.size = w.heap.size + 1:=by simp
 have zz2:((w.alloc (.cells c.cs 53)).alloc (.cells zcs 53)).heap.size = w.heap.size + 1 + 1:=by simp
 have z3:(((w.alloc (.cells c.cs 53)).alloc (.cells zcs 53)).alloc (.map #[] 0)).heap.size = w.heap.size + 1 + 1 + 1:=by simp
 have z4:((((w.alloc (.cells c.cs 53)).alloc (.cells zcs 53)).alloc (.map #[] 0)).alloc (.cells #[.map (some (w.heap.size + 1 + 1))] 204)).heap.size = w.heap.size + 4:=by simp
 have x2:=(CBlk.new (w.alloc (.cells c.cs 53)) zcs 53).later (below2 _ (.map #[] 0) (.cells #[.map (some (w.heap.size + 1 + 1))] 204))
 rw [z1] at x2
 have xb:=CBlk.new (((w.alloc (.cells c.cs 53)).alloc (.cells zcs 53)).alloc (.map #[] 0)) #[.map (some (w.heap.size + 1 + 1))] 204
 rw [z3] at xb
 have xm:=World.ownsMap_made ((w.alloc (.cells c.cs 53)).alloc (.cells zcs 53)) Tryz.prog 3 (plainElem Tryz.prog 3 (H:=Unit))
 rw [zz2] at xm
 have xn:NM ((((w.alloc (.cells c.cs 53)).alloc (.cells zcs 53)).alloc (.map #[] 0)).alloc (.cells #[.map (some (w.heap.size + 1 + 1))] 204)) (w.heap.size + 1 + 1 + 1) (w.heap.size + 1 + 1) []:=⟨xb,xm.kept (below_grown (below1 _ _)) (by simp),nvOk_nil,by omega⟩
 have K1:=rep_normal [] (w.heap.size + 1 + 1 + 1) (w.heap.size + 1 + 1) c ((((w.alloc (.cells c.cs 53)).alloc (.cells zcs 53)).alloc (.map #[] 0)).alloc (.cells #[.map (some (w.heap.size + 1 + 1))] 204)) xn hw1 hw2 hw3 (by rw [List.length_nil];omega) (h.later hb4) hl1 hl2 hl3 hl4
 have HB2:Hid (Below w.heap.size w ((((w.alloc (.cells c.cs 53)).alloc (.cells zcs 53)).alloc (.map #[] 0)).alloc (.cells #[.map (some (w.heap.size + 1 + 1))] 204))):=hb4
 have HX2:Hid (CBlk ((((w.alloc (.cells c.cs 53)).alloc (.cells zcs 53)).alloc (.map #[] 0)).alloc (.cells #[.map (some (w.heap.size + 1 + 1))] 204)) (w.heap.size + 1) zcs 53):=x2
 clear hl1 hl2 hl3 hl4 hb4 hb2 x2 xb xm xn hw1 hw2 hw3 hS z1 zz2 z3
 obtain ⟨⟨a,hn,cap,h1⟩,⟨a',cap',h2⟩,⟨a'',cap'',h3⟩,hbl,htl⟩:=h.shape
 clear h
 have hmm:=@run_makeMap Tryz.prog
 obtain ⟨⟨⟨⟨k,m,s⟩,nm,ls⟩,hx⟩,body,bv,tests,tv⟩:=c
 simp only at h1 h2 h3 hbl htl
 subst h1 h2 h3
 go_enter Tryz.func157,Tryz.ntmps157
 go_wp2_with (go_at_call 190;refine K1.mono ?_;clear K1;rintro e w1 ⟨M1,M2,M3,lb,rfl,hrp, -,hb1⟩;have hbx:=HX2.out.bl hb1 (by omega);obtain ⟨r0,r1,r2,r3,r4,r5,r6⟩:=cseven hbx;have hfr:∀ i,w1.frozen? ⟨w.heap.size + 1,i,none⟩ = false:=fun i=>hbx.froz;have s0:=hfr 0;have s1:=hfr 1;have s2:=hfr 2;have s3:=hfr 3;have s4:=hfr 4;have s5:=hfr 5;have s6:=hfr 6;rw [z4] at hrp;have HRP:Hid (RJ (w.heap.size + 4) w1 _ _ _ _ _ _ M1 M2 M3 lb):=hrp;have HW1:Hid (Below w.heap.size w w1):=HB2.out.trans (Bl.below hb1 (by rw [z4];omega) (by omega));clear hfr hrp hb1 hbx HB2 HX2;simp only [Cm.cpN,atN])
 have nw:w.heap.size <= w.heap.size + 1:=by omega
 have ng:w.heap.size + 1 < w.heap.size + 4:=by omega
 have hrp:=HRP.out
 have hbw:=HW1.out
 exact bodyPost_ret (v:=(Cm.cpN ⟨(⟨⟨k,m,s⟩,nm,ls⟩,.slice a hn cap),body,.slice a' body.length cap',tests,.slice a'' tests.length cap''⟩ [] M1 M2 M3 lb).v) (by simp [results,Tryz.results157,go_sem,Cm.v,Cm.cpN,atN,r0,r1,r2,r3,r4,r5,r6]) rfl
  ⟨M1,M2,M3,lb,rfl,(((((((hrp.off ng).off ng).off ng).off ng).off ng).off ng).off ng).mono (by omega),((((((hbw.setCell nw _).setCell nw _).setCell nw _).setCell nw _).setCell nw _).setCell nw _).setCell nw _⟩
end Go.Proofs.YtcpjiahdaplhlaaGreatDoor
namespace Go.Proofs.YtcpjiahdaplhlaaGreatDoor
def nrT (S:List Int) (t:Tm):Tm:=if t.var = true then ⟨3,(ixN S t.n:Int),⟨#[]⟩⟩ else t
def Ext (vs S:List Int):Prop:=∃ r,S = vs ++ r
theorem Ext.refl (vs:List Int):Ext vs vs:=⟨[],by simp⟩
theorem Ext.trans {a b c:List Int} (h:Ext a b) (k:Ext b c):Ext a c:=by
 obtain ⟨r,rfl⟩:=h;obtain ⟨r',rfl⟩:=k;exact ⟨r ++ r',by simp⟩
theorem nst_ext (vs:List Int) (t:Tm):Ext vs (nst vs t):=by
 unfold nst;split
 ·split
  ·exact Ext.refl _
  ·exact ⟨_,rfl⟩
 ·exact Ext.refl _
theorem stL_ext:∀ (l:List Tm) (vs:List Int),Ext vs (stL vs l)
 | [],_=>Ext.refl _
 | t :: l,vs=>(nst_ext vs t).trans (stL_ext l _)
theorem nst_mem {vs:List Int} {t:Tm} (h:t.var = true):t.n ∈ nst vs t:=by
 unfold nst;rw [if_pos h];split
 ·assumption
 ·simp
theorem nsT_nr {vs S:List Int} {t:Tm} (h:Ext (nst vs t) S):nsT vs t = nrT S t:=by
 unfold nsT nrT
 by_cases hv:t.var = true
 ·rw [if_pos hv,if_pos hv]
  obtain ⟨r,rfl⟩:=h
  rw [ixN_app (nst_mem hv)]
 ·rw [if_neg hv,if_neg hv]
theorem nsL_nr:∀ {l:List Tm} {vs S:List Int},Ext (stL vs l) S -> nsL vs l = l.map (nrT S)
 | [],_,_,_=>rfl
 | t :: l,vs,S,h=>by
  rw [nsL,List.map_cons,nsT_nr ((stL_ext l _).trans h),nsL_nr (l:=l) (vs:=nst vs t) h]
theorem atN_nr {vs S:List Int} {a:At} (h:Ext (atS vs a) S):atN vs a = mapA (nrT S) a:=by
 unfold atN mapA
 rw [nsT_nr ((stL_ext a.args _).trans h),nsL_nr h]
theorem teN_nr {vs S:List Int} {x:Te} (h:Ext (teS vs x) S):teN vs x = mapE (nrT S) x:=by
 unfold teN mapE
 rw [nsT_nr ((nst_ext _ x.r).trans h),nsT_nr h]
theorem foldS_ext {α:Type} {g:List Int -> α -> List Int} (hg:∀ vs x,Ext vs (g vs x)):∀ (l:List α) (vs:List Int),Ext vs (foldS g vs l)
 | [],_=>Ext.refl _
 | x :: l,vs=>(hg vs x).trans (foldS_ext hg l _)
theorem mapS_nr {α β:Type} {f:List Int -> α -> β} {g:List Int -> α -> List Int} {k:List Int -> α -> β} (hg:∀ vs x,Ext vs (g vs x)) (hf:∀ vs S x,Ext (g vs x) S -> f vs x = k S x):∀ {l:List α} {vs S:List Int},Ext (foldS g vs l) S -> mapS f g vs l = l.map (k S)
 | [],_,_,_=>rfl
 | x :: l,vs,S,h=>by
  rw [mapS,List.map_cons,hf vs S x ((foldS_ext hg l _).trans h),mapS_nr hg hf (l:=l) (vs:=g vs x) h]
theorem atS_ext (vs:List Int) (a:At):Ext vs (atS vs a):=(nst_ext vs a.by_).trans (stL_ext _ _)
theorem teS_ext (vs:List Int) (x:Te):Ext vs (teS vs x):=(nst_ext vs x.l).trans (nst_ext _ _)
def allN (x:Ck):List Int:=foldS teS (foldS atS (atS [] x.1) x.2.1) x.2.2
theorem norm_head (x:Ck):atN [] x.1 = mapA (nrT (allN x)) x.1:=
 atN_nr ((foldS_ext atS_ext _ _).trans (foldS_ext teS_ext _ _))
theorem norm_body (x:Ck):mapS atN atS (atS [] x.1) x.2.1 = x.2.1.map (mapA (nrT (allN x))):=
 mapS_nr (k:=fun S a=>mapA (nrT S) a) atS_ext (fun _ _ _ h=>atN_nr h) (foldS_ext teS_ext _ _)
theorem norm_tests (x:Ck):mapS teN teS (foldS atS (atS [] x.1) x.2.1) x.2.2 = x.2.2.map (mapE (nrT (allN x))):=
 mapS_nr (k:=fun S a=>mapE (nrT S) a) teS_ext (fun _ _ _ h=>teN_nr h) (Ext.refl _)
theorem stL_app:∀ (l m:List Tm) (vs:List Int),stL vs (l ++ m) = stL (stL vs l) m
 | [],_,_=>rfl
 | t :: l,m,vs=>by rw [List.cons_append,stL,stL,stL_app l m]
theorem atS_pl (vs:List Int) (a:At):atS vs a = stL vs a.pl:=rfl
theorem foldA_pl:∀ (l:List At) (vs:List Int),foldS atS vs l = stL vs (l.flatMap At.pl)
 | [],_=>rfl
 | a :: l,vs=>by rw [foldS,List.flatMap_cons,stL_app,foldA_pl l,atS_pl]
theorem foldE_pl:∀ (l:List Te) (vs:List Int),foldS teS vs l = stL vs (tls l)
 | [],_=>rfl
 | a :: l,vs=>by
  have:tls (a :: l) = a.l :: a.r :: tls l:=rfl
  rw [foldS,this,stL,stL,foldE_pl l,teS]
theorem allN_terms (x:Ck):allN x = stL [] (Ck.terms x):=by
 unfold allN Ck.terms
 rw [stL_app,stL_app,foldE_pl,foldA_pl,atS_pl]
theorem nr_key (x:Ck):(atN [] x.1,mapS atN atS (atS [] x.1) x.2.1,mapS teN teS (foldS atS (atS [] x.1) x.2.1) x.2.2) = mapC (nrT (stL [] (Ck.terms x))) x:=by
 rw [norm_head,norm_body,norm_tests,allN_terms];rfl
end Go.Proofs.YtcpjiahdaplhlaaGreatDoor
namespace Go.Proofs.YtcpjiahdaplhlaaGreatDoor
theorem var_eq {t u:Tm} (ht:t.var = true) (hu:u.var = true) (h:t.n = u.n):t = u:=by
 unfold Tm.var at ht hu
 rw [decide_eq_true_eq] at ht hu
 obtain ⟨a,b,c⟩:=t
 obtain ⟨a',b',c'⟩:=u
 simp only at ht hu h
 rw [ht.1,ht.2.2,hu.1,hu.2.2,h]
theorem mem_n {A:List Tm} (hA:∀ u ∈ A,u.var = true) {t:Tm} (ht:t.var = true):t.n ∈ A.map Tm.n ↔ t ∈ A:=by
 rw [List.mem_map]
 exact ⟨fun ⟨u,hu,e⟩=>var_eq (hA u hu) ht e ▸ hu,fun h=>⟨t,h,rfl⟩⟩
theorem st_dis:∀ (l A:List Tm),(∀ u ∈ A,u.var = true) -> stL (A.map Tm.n) l = ((l.filter Tm.var).foldl dstepT A).map Tm.n
 | [],_,_=>rfl
 | t :: l,A,hA=>by
  rw [stL]
  by_cases hv:t.var = true
  ·rw [List.filter_cons_of_pos hv,List.foldl_cons]
   have e:nst (A.map Tm.n) t = (dstepT A t).map Tm.n:=by
    unfold nst dstepT
    rw [if_pos hv]
    by_cases hm:t ∈ A
    ·rw [if_pos hm,if_pos ((mem_n hA hv).2 hm)]
    ·rw [if_neg hm,if_neg (fun e=>hm ((mem_n hA hv).1 e))];simp
   rw [e]
   exact st_dis l _ fun u hu=>by
    rcases dstepT_mem.1 hu with h | h
    ·exact hA u h
    ·rw [h];exact hv
  ·rw [List.filter_cons_of_neg hv]
   have e:nst (A.map Tm.n) t = A.map Tm.n:=by unfold nst;rw [if_neg hv]
   rw [e]
   exact st_dis l A hA
theorem ix_n:∀ (A:List Tm),(∀ u ∈ A,u.var = true) -> ∀ {t:Tm},t.var = true -> ixN (A.map Tm.n) t.n = ix A t
 | [],_,_,_=>rfl
 | u :: A,hA,t,ht=>by
  rw [List.map_cons,ixN,ix]
  by_cases e:u = t
  ·rw [if_pos e,if_pos (by rw [e])]
  ·rw [if_neg e,if_neg (fun h=>e (var_eq (hA u (by simp)) ht h)),ix_n A (fun v hv=>hA v (by simp [hv])) ht]
theorem norm_eq (x:Ck):mapC (nrT (stL [] (Ck.terms x))) x = normC x:=by
 unfold normC
 refine mapC_congr fun t ht=>?_
 unfold nrT nmT
 by_cases hv:t.var = true
 ·have hd:stL [] (Ck.terms x) = (disT (Ck.terms x)).map Tm.n:=st_dis (Ck.terms x) [] (by simp)
  rw [if_pos hv,if_pos (disT_mem.2 ⟨ht,hv⟩),hd,ix_n _ (fun u hu=>(disT_mem.1 hu).2) hv]
 ·rw [if_neg hv,if_neg (fun h=>hv (disT_mem.1 h).2)]
theorem nr_norm (x:Ck):(atN [] x.1,mapS atN atS (atS [] x.1) x.2.1,mapS teN teS (foldS atS (atS [] x.1) x.2.1) x.2.2) = normC x:=(nr_key x).trans (norm_eq x)
end Go.Proofs.YtcpjiahdaplhlaaGreatDoor
namespace Go.Proofs.YtcpjiahdaplhlaaGreatDoor
open Go.RowKit
theorem NrPost.kp {B:Nat} {X:World} {c:Cm} {M1 M2 M3:Nat} {lb:List (At × Value)} (h:RJ B X c.head.1.args.length c.body.length c.tests.length (nsL (nst [] c.head.1.by_) c.head.1.args) (mapS atN atS (atS [] c.head.1) (fsts c.body)) (mapS teN teS (foldS atS (atS [] c.head.1) (fsts c.body)) c.tests) M1 M2 M3 lb)
  (h2:c.body.length < 1000000000000000000) (h3:c.tests.length < 1000000000000000000):Kp B X (c.cpN [] M1 M2 M3 lb):=fun Y hs ha=>by
 have hl:lb.length = c.body.length:=by have:=congrArg List.length h.f;rw [mapS_len] at this;simpa [fsts] using this
 have hA:ABlk Y M2 c.body.length lb:=by
  obtain ⟨C,e1,e2,e3⟩:=h.a
  exact ⟨C,(ha M2 h.b2 h.a.lt).trans e1,e2,e3⟩
 have hE:EBlk Y M3 c.tests.length (mapS teN teS (foldS atS (atS [] c.head.1) (fsts c.body)) c.tests):=by
  obtain ⟨C,e1,e2,e3⟩:=h.e
  exact ⟨C,(ha M3 (by have:=h.b2;have:=h.b3;omega) h.e.lt).trans e1,e2,e3⟩
 refine ⟨?_,hA.as hl h2 fun x hx=>(h.ts x hx).1.1.agree hs fun b e hlt=>ha b ((h.ts x hx).2 b e) hlt,hE.es (by rw [mapS_len]) h3⟩
 exact h.t1.agree hs fun b e hlt=>by obtain rfl:M1 = b:=Option.some.inj e;exact ha M1 h.b1 hlt
end Go.Proofs.YtcpjiahdaplhlaaGreatDoor
namespace Go.Proofs.YtcpjiahdaplhlaaGreatDoor
open Go.RowKit
attribute [local go_sem ↓] Go.wp_at_zero Go.wp_at_succ
theorem tot_flat:∀ l:List At,totA l = (l.flatMap At.pl).length
 | []=>rfl
 | a :: l=>by rw [List.flatMap_cons,List.length_append, <- tot_flat l];simp [totA,At.pl]
theorem tls_two (l:List Te):(tls l).length = 2 * l.length:=by rw [tls_len];omega
theorem flat_one {l:List At}:l.length <= (l.flatMap At.pl).length:=by
 induction l with
 | nil=>simp
 | cons a l ih=>rw [List.flatMap_cons,List.length_append,List.length_cons];have:1 <= a.pl.length:=(by simp [At.pl]);omega
theorem flat_arg {l:List At} {a:At} (h:a ∈ l):a.args.length <= (l.flatMap At.pl).length:=by
 induction l with
 | nil=>cases h
 | cons b l ih=>
  rw [List.flatMap_cons,List.length_append]
  rcases List.mem_cons.1 h with rfl | h
  ·have:a.args.length <= a.pl.length:=(by simp [At.pl]);omega
  ·have:=ih h;omega
theorem norm_terms (x:Ck):(Ck.terms (normC x)).length = (Ck.terms x).length:=by unfold normC;rw [mapC_terms,List.length_map]
theorem norm_small {x:Ck} {n:Nat} (h:(Ck.terms x).length <= n) {t:Tm} (ht:t ∈ Ck.terms (normC x)) (hv:t.var = true):t.n < n:=by
 unfold normC at ht
 rw [mapC_terms] at ht
 obtain ⟨u,hu,rfl⟩:=List.mem_map.1 ht
 rw [nmT_var _ _ (fun u hu=>(disT_mem.1 hu).2)] at hv
 have hm:u ∈ disT (Ck.terms x):=disT_mem.2 ⟨hu,hv⟩
 unfold nmT
 rw [if_pos hm]
 have h1:=ix_lt hm
 have h2:(disT (Ck.terms x)).length <= (Ck.terms x).length:=by
  rw [<- dis_lenT]
  exact Nat.le_trans (dis_le _) (vrs_len _)
 simp only
 omega
end Go.Proofs.YtcpjiahdaplhlaaGreatDoor
namespace Go.Proofs.YtcpjiahdaplhlaaGreatDoor
open Go.RowKit
attribute [local go_sem ↓] Go.wp_at_zero Go.wp_at_succ
theorem normalK_any (c:Cm) (w:World) (h:c.ok w) (hs:(Ck.terms c.key).length <= 4000000) (hw:∀ t ∈ Ck.terms c.key,t.var = true -> (Lit.int .i64 t.n).wf = true) :
  Calls Tryz.prog 157 #[c.v] w fun e w'=>∃ d:Cm,e = .returned d.v /\ d.key = normC c.key /\ Kp w.heap.size w' d /\ Below w.heap.size w w':=by
 have hlen:(Ck.terms c.key).length = c.head.1.args.length + 1 + (totA (fsts c.body) + 2 * c.tests.length):=by
  unfold Ck.terms Cm.key
  simp only
  rw [List.length_append,List.length_append, <- tot_flat,tls_two]
  simp [At.pl]
 have hb1:(fsts c.body).length <= totA (fsts c.body):=by rw [tot_flat];exact flat_one
 rw [fsts_len] at hb1
 have hb2:∀ x ∈ c.body,x.1.args.length <= totA (fsts c.body):=fun x hx=>by rw [tot_flat];exact flat_arg (List.mem_map.2 ⟨x,hx,rfl⟩)
 have m1:∀ t,t = c.head.1.by_ ∨ t ∈ c.head.1.args -> t ∈ Ck.terms c.key:=fun t ht=>List.mem_append_left _ (by rcases ht with e | e;rw [e];exact List.mem_cons_self;exact List.mem_cons_of_mem _ e)
 have m2:∀ x ∈ c.body,∀ t,t = x.1.by_ ∨ t ∈ x.1.args -> t ∈ Ck.terms c.key:=fun x hx t ht=>List.mem_append_right _ (List.mem_append_left _ (List.mem_flatMap.2 ⟨x.1,List.mem_map.2 ⟨x,hx,rfl⟩,by rcases ht with e | e;rw [e];exact List.mem_cons_self;exact List.mem_cons_of_mem _ e⟩))
 have m3:∀ x ∈ c.tests,x.l ∈ Ck.terms c.key /\ x.r ∈ Ck.terms c.key:=fun x hx=>⟨List.mem_append_right _ (List.mem_append_right _ (List.mem_flatMap.2 ⟨x,hx,by simp⟩)),List.mem_append_right _ (List.mem_append_right _ (List.mem_flatMap.2 ⟨x,hx,by simp⟩))⟩
 refine (normal_any c w (fun t ht=>hw t (m1 t ht)) (fun x hx t ht=>hw t (m2 x hx t ht)) (fun x hx=>⟨hw _ (m3 x hx).1,hw _ (m3 x hx).2⟩) (by omega) h (by omega) (by omega) (by omega) (fun x hx=>by have:=hb2 x hx;omega)).mono fun e w' he=>?_
 obtain ⟨M1,M2,M3,lb,rfl,hr,hb⟩:=he
 refine ⟨_,rfl, ?_,NrPost.kp hr (by omega) (by omega),hb⟩
 rw [<- nr_norm]
 unfold Cm.key Cm.cpN
 simp only
 rw [hr.f]
def KF (F:Nat -> Prop) (X:World) (d:Cm):Prop:=∀ Y:World,X.heap.size <= Y.heap.size -> (∀ b,F b -> b < X.heap.size -> Y.heap[b]? = X.heap[b]?) -> d.ok Y
theorem KF.ok {F:Nat -> Prop} {X:World} {d:Cm} (h:KF F X d):d.ok X:=h X (Nat.le_refl _) fun _ _ _=>rfl
theorem KF.fr {F Q:Nat -> Prop} {X Y:World} {d:Cm} (h:KF F X d) (hf:Fr Q X Y) (hQ:∀ b,F b -> ¬ Q b):KF F Y d:=fun Z hz ha=>h Z (Nat.le_trans hf.size hz) fun b hF hb=>(ha b hF (Nat.lt_of_lt_of_le hb hf.size)).trans (hf.block b hb (hQ b hF))
theorem KF.below {F:Nat -> Prop} {X Y:World} {d:Cm} (h:KF F X d) (hb:Below X.heap.size X Y):KF F Y d:=h.fr (Q:=fun _=>False) (Fr.of hb) fun _ _ h=>h
theorem KF.mono {F G:Nat -> Prop} {X:World} {d:Cm} (h:KF F X d) (hG:∀ b,b < X.heap.size -> F b -> G b):KF G X d:=fun Y hs ha=>h Y hs fun b hF hb=>ha b (hG b hb hF) hb
theorem Kp.kf {B:Nat} {X:World} {d:Cm} (h:Kp B X d):KF (fun b=>B <= b) X d:=fun Y hs ha=>h Y hs ha
theorem tc5_get:∀ {l:List Tm} {j:Nat} {t:Tm},l[j]? = some t -> (tc5 l)[j * 3]? = some (.int .i64 t.k) /\ (tc5 l)[j * 3 + 1]? = some (.int .i64 t.n) /\ (tc5 l)[j * 3 + 2]? = some (.string t.s)
 | [],j,t,h=>by simp at h
 | y :: l,0,t,h=>by
  simp only [List.getElem?_cons_zero,Option.some.injEq] at h
  subst h
  exact ⟨rfl,rfl,rfl⟩
 | y :: l,j + 1,t,h=>by
  rw [List.getElem?_cons_succ] at h
  have ih:=tc5_get h
  rw [show (j + 1) * 3 = j * 3 + 3 by omega]
  exact ih
theorem ac5_get:∀ {l:List (At × Value)} {j:Nat} {x:At × Value},l[j]? = some x -> (l.flatMap ac5)[j * 5]? = some (.int .i64 x.1.by_.k) /\ (l.flatMap ac5)[j * 5 + 1]? = some (.int .i64 x.1.by_.n) /\ (l.flatMap ac5)[j * 5 + 2]? = some (.string x.1.by_.s) /\ (l.flatMap ac5)[j * 5 + 3]? = some (.string x.1.name) /\ (l.flatMap ac5)[j * 5 + 4]? = some x.2
 | [],j,t,h=>by simp at h
 | y :: l,0,t,h=>by
  simp only [List.getElem?_cons_zero,Option.some.injEq] at h
  subst h
  exact ⟨rfl,rfl,rfl,rfl,rfl⟩
 | y :: l,j + 1,t,h=>by
  rw [List.getElem?_cons_succ] at h
  have ih:=ac5_get h
  rw [show (j + 1) * 5 = j * 5 + 5 by omega]
  exact ih
theorem ec5_get:∀ {l:List Te} {j:Nat} {t:Te},l[j]? = some t -> (l.flatMap ec5)[j * 7]? = some (.int .i64 t.op) /\ (l.flatMap ec5)[j * 7 + 1]? = some (.int .i64 t.l.k) /\ (l.flatMap ec5)[j * 7 + 2]? = some (.int .i64 t.l.n) /\ (l.flatMap ec5)[j * 7 + 3]? = some (.string t.l.s) /\ (l.flatMap ec5)[j * 7 + 4]? = some (.int .i64 t.r.k) /\ (l.flatMap ec5)[j * 7 + 5]? = some (.int .i64 t.r.n) /\ (l.flatMap ec5)[j * 7 + 6]? = some (.string t.r.s)
 | [],j,t,h=>by simp at h
 | y :: l,0,t,h=>by
  simp only [List.getElem?_cons_zero,Option.some.injEq] at h
  subst h
  exact ⟨rfl,rfl,rfl,rfl,rfl,rfl,rfl⟩
 | y :: l,j + 1,t,h=>by
  rw [List.getElem?_cons_succ] at h
  have ih:=ec5_get h
  rw [show (j + 1) * 7 = j * 7 + 7 by omega]
  exact ih
theorem row5_cell {w:World} {base n m i:Nat} {e:TypeId} {g cap:Nat} {xs:List Value} {u:Value} (h:w.ownsRow base e n (.slice (some ⟨g,0,none⟩) m cap) m xs) (hu:xs[i]? = some u):w.cell? ⟨g,0 + i,none⟩ = some u:=by
 obtain ⟨g',e1, -, -,h2, -⟩:=row7_at h hu
 cases e1
 rw [Nat.zero_add]
 exact h2
theorem ts_of_row {w:World} {base:Nat} {v:Value} {l:List Tm} (h:w.ownsRow base 39 3 v l.length (tc5 l)) (hl:l.length < 1000000000000000000):Ts w v l:=by
 obtain ⟨a,cap,rfl, -⟩:=row7_form h
 refine ⟨a,cap,rfl,hl, ?_⟩
 cases l with
 | nil=>exact Or.inl rfl
 | cons t l=>
  obtain ⟨g,rfl, -,hg, -, -⟩:=row7_at h (tc5_get (j:=0) rfl).1
  refine Or.inr ⟨g,0,rfl,hg,fun i u hu=>?_⟩
  obtain ⟨c0,c1,c2⟩:=tc5_get hu
  have e0:=row5_cell h c0
  have e1:=row5_cell h c1
  have e2:=row5_cell h c2
  exact ⟨e0,e1,e2⟩
theorem as_of_row {w:World} {base:Nat} {v:Value} {l:List (At × Value)} (h:w.ownsRow base 42 5 v l.length (l.flatMap ac5)) (ht:∀ x ∈ l,Ts w x.2 x.1.args) (hl:l.length < 1000000000000000000):As w v l:=by
 obtain ⟨a,cap,rfl, -⟩:=row7_form h
 refine ⟨a,cap,rfl,hl, ?_,ht⟩
 cases l with
 | nil=>exact Or.inl rfl
 | cons t l=>
  obtain ⟨g,rfl, -,hg, -, -⟩:=row7_at h (ac5_get (j:=0) rfl).1
  refine Or.inr ⟨g,0,rfl,hg,fun i u hu=>?_⟩
  obtain ⟨c0,c1,c2,c3,c4⟩:=ac5_get hu
  exact ⟨row5_cell h c0,row5_cell h c1,row5_cell h c2,row5_cell h c3,row5_cell h c4⟩
theorem es_of_row {w:World} {base:Nat} {v:Value} {l:List Te} (h:w.ownsRow base 85 7 v l.length (l.flatMap ec5)) (hl:l.length < 1000000000000000000):Es w v l:=by
 obtain ⟨a,cap,rfl, -⟩:=row7_form h
 refine ⟨a,cap,rfl,hl, ?_⟩
 cases l with
 | nil=>exact Or.inl rfl
 | cons t l=>
  obtain ⟨g,rfl, -,hg, -, -⟩:=row7_at h (ec5_get (j:=0) rfl).1
  refine Or.inr ⟨g,0,rfl,hg,fun i u hu=>?_⟩
  obtain ⟨c0,c1,c2,c3,c4,c5,c6⟩:=ec5_get hu
  exact ⟨row5_cell h c0,row5_cell h c1,row5_cell h c2,row5_cell h c3,row5_cell h c4,row5_cell h c5,row5_cell h c6⟩
def lvOk (F:Nat -> Prop) (w:World):Lv5 -> Prop
 | .a a y=>Rw5 F w 39 3 y a.args.length (tc5 a.args)
 | .t _=>True
theorem cross_lv {F:Nat -> Prop} {w:World}:∀ {ms:List (List (List Lv5))},(∀ m ∈ ms,∀ x ∈ m,∀ l ∈ x,lvOk F w l) -> ∀ x ∈ cross5 ms,∀ l ∈ x,lvOk F w l
 | [],_,x,hx,l,hl=>by
  rw [cross5_nil] at hx
  rw [List.mem_singleton.1 hx] at hl
  cases hl
 | m :: r,h,x,hx,l,hl=>by
  rw [cross5_cons] at hx
  obtain ⟨a,ha,hx⟩:=List.mem_flatMap.1 hx
  obtain ⟨b,hb,rfl⟩:=List.mem_map.1 hx
  rcases List.mem_append.1 hl with hl | hl
  ·exact h m (List.mem_cons_self ..) a ha l hl
  ·exact cross_lv (fun m' hm'=>h m' (List.mem_cons_of_mem _ hm')) b hb l hl
theorem CjM.lv {F:Nat -> Prop} {P:List Value -> List (List Lv5) -> Prop} {w:World} {v:Value} {n:Nat} {m:List (List Lv5)} (h:CjM F P w v n m) (hP:∀ cs m,P cs m -> ∀ x ∈ m,∀ l ∈ x,lvOk F w l):∀ x ∈ m,∀ l ∈ x,lvOk F w l:=by
 obtain ⟨xs,h1, -,rfl, -⟩:=h
 refine cross_lv fun m hm=>?_
 obtain ⟨y,hy,rfl⟩:=List.mem_map.1 hm
 exact hP _ _ (h1 y hy)
theorem AlM.lv {F:Nat -> Prop} {P:List Value -> List (List Lv5) -> Prop} {w:World} {v:Value} {n:Nat} {m:List (List Lv5)} (h:AlM F P w v n m) (hP:∀ cs m,P cs m -> ∀ x ∈ m,∀ l ∈ x,lvOk F w l):∀ x ∈ m,∀ l ∈ x,lvOk F w l:=by
 obtain ⟨xs,h1, -,rfl, -⟩:=h
 intro x hx
 obtain ⟨m,hm,hx⟩:=List.mem_flatten.1 hx
 obtain ⟨y,hy,rfl⟩:=List.mem_map.1 hm
 exact (h1 y hy).lv hP x hx
theorem LiM.lv {F:Nat -> Prop} {w:World}:∀ (f:Nat) (cs:List Value) (m:List (List Lv5)),LiM F w f cs m -> ∀ x ∈ m,∀ l ∈ x,lvOk F w l
 | f + 1,cs,m,h=>by
  rcases h with ⟨a,y, -,h2,rfl⟩ | ⟨t, -,rfl⟩ | ⟨v,n, -,h2⟩
  ·intro x hx l hl
   rw [List.mem_singleton.1 hx] at hl
   rw [List.mem_singleton.1 hl]
   exact h2
  ·intro x hx l hl
   rw [List.mem_singleton.1 hx] at hl
   rw [List.mem_singleton.1 hl]
   exact trivial
  ·exact h2.lv fun cs m h=>LiM.lv f cs m h
theorem la5_mem:∀ {x:List Lv5} {p:At × Value},p ∈ la5 x -> Lv5.a p.1 p.2 ∈ x
 | [],p,h=>by cases h
 | .a a y :: r,p,h=>by
  rw [la5] at h
  rcases List.mem_cons.1 h with rfl | h
  ·exact List.mem_cons_self ..
  ·exact List.mem_cons_of_mem _ (la5_mem h)
 | .t _ :: r,p,h=>by
  rw [la5] at h
  exact List.mem_cons_of_mem _ (la5_mem h)
def fa5:List Lf5 -> List At
 | []=>[]
 | .a x :: r=>x :: fa5 r
 | .t _ :: r=>fa5 r
def ft5:List Lf5 -> List Te
 | []=>[]
 | .a _ :: r=>ft5 r
 | .t x :: r=>x :: ft5 r
theorem fa5_er:∀ x:List Lv5,fsts (la5 x) = fa5 (x.map Lv5.er)
 | []=>rfl
 | .a a y :: r=>by rw [la5,List.map_cons];show a :: fsts (la5 r) = a :: fa5 (r.map Lv5.er);rw [fa5_er r]
 | .t t :: r=>by rw [la5,List.map_cons];exact fa5_er r
theorem ft5_er:∀ x:List Lv5,lt5 x = ft5 (x.map Lv5.er)
 | []=>rfl
 | .a a y :: r=>by rw [lt5,List.map_cons];exact ft5_er r
 | .t t :: r=>by rw [lt5,List.map_cons];show t :: lt5 r = t :: ft5 (r.map Lv5.er);rw [ft5_er r]
theorem way_terms:∀ x:List Lf5,((fa5 x).flatMap At.pl).length + (tls (ft5 x)).length = ws5 x
 | []=>rfl
 | .a a :: r=>by
  have ih:=way_terms r
  rw [fa5,ft5,List.flatMap_cons,List.length_append]
  have e1:(At.pl a).length = a.args.length + 1:=rfl
  have e2:ws5 (.a a :: r) = (a.args.length + 1) + ws5 r:=by simp [ws5,wf5]
  omega
 | .t t :: r=>by
  have ih:=way_terms r
  rw [fa5,ft5]
  have e1:(tls (t :: ft5 r)).length = 2 + (tls (ft5 r)).length:=by rw [tls_len,tls_len,List.length_cons];omega
  have e2:ws5 (.t t :: r) = 2 + ws5 r:=by simp [ws5,wf5]
  omega
theorem way_mem {T:List Tk}:∀ {x:List Lf5},(∀ l ∈ x,vf5 T l) -> ∀ t ∈ (fa5 x).flatMap At.pl ++ tls (ft5 x),vr5 T t
 | [],_,t,ht=>by cases ht
 | .a a :: r,h,t,ht=>by
  rw [fa5,ft5,List.flatMap_cons,List.append_assoc] at ht
  rcases List.mem_append.1 ht with ht | ht
  ·exact h (.a a) (List.mem_cons_self ..) t ht
  ·exact way_mem (fun l hl=>h l (List.mem_cons_of_mem _ hl)) t ht
 | .t e :: r,h,t,ht=>by
  rw [fa5,ft5] at ht
  have hq:=h (.t e) (List.mem_cons_self ..)
  have hr:=way_mem (fun l hl=>h l (List.mem_cons_of_mem _ hl)) (t:=t)
  rcases List.mem_append.1 ht with ht | ht
  ·exact hr (List.mem_append_left _ ht)
  ·have e1:tls (e :: ft5 r) = [e.l,e.r] ++ tls (ft5 r):=by simp [tls]
   rw [e1] at ht
   rcases List.mem_append.1 ht with ht | ht
   ·rcases List.mem_cons.1 ht with rfl | ht
    ·exact hq.1
    ·rw [List.mem_singleton.1 ht];exact hq.2
   ·exact hr (List.mem_append_right _ ht)
def ck5 (h:At) (x:List Lf5):Ck:=(h,fa5 x,ft5 x)
theorem ck5_len (h:At) (x:List Lf5):(Ck.terms (ck5 h x)).length = h.args.length + 1 + ws5 x:=by
 unfold Ck.terms ck5
 simp only
 rw [List.length_append,List.length_append,way_terms]
 rfl
theorem ck5_var {T:List Tk} {h:At} {x:List Lf5} (hh:∀ t ∈ h.pl,vr5 T t) (hx:∀ l ∈ x,vf5 T l):∀ t ∈ Ck.terms (ck5 h x),vr5 T t:=fun t ht=>by
 unfold Ck.terms ck5 at ht
 rcases List.mem_append.1 ht with ht | ht
 ·exact hh t ht
 ·exact way_mem hx t ht
theorem vr5_wf {T:List Tk} {t:Tm} (hT:T.length <= 2000000) (h:vr5 T t) (hv:t.var = true):(Lit.int .i64 t.n).wf = true:=by
 obtain ⟨h1,h2⟩:=h hv
 have h3:t.n < 2000000:=by omega
 have h4 : -9223372036854775808 <= t.n /\ t.n <= 9223372036854775807:=by omega
 simp only [Lit.wf,IntKind.min,IntKind.max,Bool.and_eq_true]
 constructor <;> simp [IntKind.signed,IntKind.bits] <;> omega
end Go.Proofs.YtcpjiahdaplhlaaGreatDoor

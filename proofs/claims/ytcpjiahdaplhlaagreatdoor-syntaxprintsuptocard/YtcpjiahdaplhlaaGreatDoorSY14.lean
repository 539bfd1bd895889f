import Derived.Test.YtcpjiahdaplhlaaGreatDoorSY13
namespace Go.Proofs.YtcpjiahdaplhlaaGreatDoor
open Go.RowKit
attribute [local go_sem ↓] Go.wp_at_zero Go.wp_at_succ
theorem PZ.opn {c:Pk} {w:World} {s:Ps} (h:PZ c w s) (k:Nat) (hk:k <= 16):PZ c (w.setCell ⟨c.g,3,none⟩ (.int .i64 (k:Int))) ⟨s.nx,k,s.vs,s.nm⟩ /\ Fr (W5 c) w (w.setCell ⟨c.g,3,none⟩ (.int .i64 (k:Int))):=by
 have hf:Fr (fun b=>b = c.g) w (w.setCell ⟨c.g,3,none⟩ (.int .i64 (k:Int))):=(Fr.refl (fun b=>b = c.g) w).set (Or.inl rfl)
 have hb:=h.b.set 3 (.int .i64 (k:Int))
 exact ⟨h.put hf (by simpa using hb) h.le h.vb hk (Nat.le_refl _),hf.mono fun b _ e=>Or.inl e⟩
def BrOk (f:Nat):Prop:=∀ (c:Pk) (s:Ps) (w:World),PZ c w s -> 16 <= s.op + f -> Calls Tryz.prog 216 #[.pointer (some ⟨c.g,0,none⟩)] w (P5P c w (VA f w) (brOf5 (lit5 c.T c.L f) c.T c.L s))
theorem alM_fr {f:Nat} {F Q:Nat -> Prop} {w w':World} {v:Value} {n:Nat} {m:List (List Lv5)} (h:AlM F (LiM F w f) w v n m) (hf:Fr Q w w') (hQ:∀ b,F b -> ¬ Q b):AlM F (LiM F w' f) w' v n m:=h.fr hf hQ fun cs m h=>LiM.fr hf hQ f cs m h
theorem alM_below {f:Nat} {F:Nat -> Prop} {w w':World} {v:Value} {n:Nat} {m:List (List Lv5)} (h:AlM F (LiM F w f) w v n m) (hb:Below w.heap.size w w'):AlM F (LiM F w' f) w' v n m:=alM_fr (Q:=fun _=>False) h (Fr.of hb) fun _ _ h=>h
theorem alM_mono {f:Nat} {F G:Nat -> Prop} {w:World} {v:Value} {n:Nat} {m:List (List Lv5)} (h:AlM F (LiM F w f) w v n m) (hG:∀ b,b < w.heap.size -> F b -> G b):AlM G (LiM G w f) w v n m:=h.mono hG fun cs m h=>LiM.mono hG f cs m h
theorem alM_form {f:Nat} {F:Nat -> Prop} {w:World} {v:Value} {n:Nat} {m:List (List Lv5)} (h:AlM F (LiM F w f) w v n m):∃ a l c,v = .slice a l c:=by
 obtain ⟨xs, -,h2, -⟩:=h
 obtain ⟨a,c,e, -⟩:=row7_form h2.1
 exact ⟨a,_,c,e⟩
set_option maxRecDepth 20000 in
set_option maxHeartbeats 4000000 in
theorem bracket5_any (f:Nat) (hA:AltOk f):BrOk f:=by
 intro c s w h hop
 have HB0:=hm7 (below1 w (.cells #[.slice none 0 0,.int .i64 0] 139))
 have HR0:=hm7 (Bk.new w #[.slice none 0 0,.int .i64 0] 139)
 have HZ0:=hm7 (h.below HB0.out)
 obtain ⟨n1,n2⟩:=h.nw (r:=w.heap.size) (Nat.le_refl _)
 have HN1:=hm7 n1
 have HN2:=hm7 n2
 have HWB:Hid (∀ b,w.heap.size <= b -> ¬ W5 c b):=fun b hb=>(h.nw hb).1
 obtain ⟨Y0,hY0⟩:∃ Y0,w.alloc (.cells #[.slice none 0 0,.int .i64 0] 139) = Y0:=⟨_,rfl⟩
 rw [hY0] at HB0 HR0 HZ0
 have HY0:=hm7 hY0
 obtain ⟨q,hq⟩:∃ q,w.heap.size = q:=⟨_,rfl⟩
 rw [hq] at HN1 HN2 HR0
 have HQ:=hm7 hq
 have HQW:Hid (w.heap.size <= q):=by show _ <= _;rw [hq];exact Nat.le_refl _
 have HQ1:Hid (q < Y0.heap.size):=HR0.out.lt
 obtain ⟨R,hR⟩:∃ R,brOf5 (lit5 c.T c.L f) c.T c.L s = R:=⟨_,rfl⟩
 rw [hR]
 unfold brOf5 at hR
 have p3:=HZ0.out.b.cell (i:=3) rfl
 have hob:=h.ob
 obtain ⟨g,hg⟩:∃ g,c.g = g:=⟨_,rfl⟩
 clear h n1 n2 hY0 hq
 rw [hg] at p3
 go_enter Tryz.func216,Tryz.ntmps216
 go_upto_region 1 with fail
 rw [HY0.out,HQ.out,hg]
 clear HY0
 by_cases ho:s.op = 16
 ·rw [if_pos ho] at hR
  subst hR
  have HPL:=hm7 (place5_any c s Y0 HZ0.out)
  rw [hg] at HPL
  have HGU:Hid (∀ (a:Int) (X:World),Calls Tryz.prog 86 #[.int .i64 52,.int .i64 a] X fun e w'=>e = .panicked [pF (52,a)] /\ w' = X):=fun a X=>giveUp5_any 52 a X
  obtain ⟨pl,hpl⟩:∃ pl,pl5 c.T c.L s = pl:=⟨_,rfl⟩
  rw [hpl] at HPL
  rw [ho] at p3
  have HPE:=hm7 hpl
  clear hpl
  go_wp2_with (first
   | (go_at_call 87;refine HPL.out.mono ?_;rintro e W1 ⟨rfl,hb⟩;have HB1:=hm7 hb;clear hb)
   | (go_at_call 86;refine (HGU.out pl _).mono ?_;rintro e W2 ⟨rfl,hw2⟩;have HW2:=hm7 hw2;clear hw2))
  refine ⟨rfl, ?_,by show _ = _;rw [HPE.out]⟩
  rw [HW2.out]
  exact (W5.of HB0.out).then HB1.out
 ·rw [if_neg ho] at hR
  have ho2:((s.op:Int) == 16) = false:=by simp;omega
  have HTK:Hid (∀ X:World,PZ c X s -> Calls Tryz.prog 85 #[.pointer (some ⟨g,0,none⟩),.slice (some ⟨X.heap.size,0,none⟩) 1 1] (X.alloc (.cells #[.int .i64 6] 3)) (P5P c (X.alloc (.cells #[.int .i64 6] 3)) (fun (t:Tk) v _=>v = t.v) (tk5 c.T c.L [6] s))):=fun X hX=>by rw [<- hg];exact takeN5 6 (by decide) c s X hX
  have HO15:Hid (s.op + 1 <= 16):=by show _ <= _;omega
  cases hr:tk5 c.T c.L [6] s with
  | error e0=>
   rw [R5.and_err hr] at hR
   subst hR
   have HE:=hm7 (P5P.err (HTK.out Y0 HZ0.out) hr)
   clear hr HTK ho
   generalize (s.op:Int) = so at *
   go_wp2_with (go_at_call 85;refine HE.out.mono ?_;rintro e W1 ⟨rfl,hf⟩;have HF1:=hm7 (((W5.of (c:=c) HB0.out).then (below1 _ _)).tr hf);clear hf)
   exact ⟨rfl,HF1.out,rfl⟩
  | ok p=>
   obtain ⟨t0,s1⟩:=p
   rw [R5.and_ok hr] at hR
   have HE:=hm7 (P5P.ok (HTK.out Y0 HZ0.out) hr)
   obtain ⟨-, -,hs1⟩:=tk5_some hr
   have HS1:Hid (s1.op = s.op):=by rw [hs1];exact rfl
   have hs2:s1.op <= 15:=by rw [hs1];exact Nat.le_of_succ_le_succ HO15.out
   obtain ⟨tk0,tx0,tn0,ta0,te0⟩:=t0
   clear hr HTK ho hs1
   generalize (s.op:Int) = so at *
   go_upto_region 4 with (go_at_call 85;refine HE.out.mono ?_;rintro e W1 ⟨v1,rfl,rfl,hz,hf⟩;have HZ1:=hm7 hz;have HF1:=hm7 (((W5.of (c:=c) HB0.out).then (below1 _ _)).tr hf);have HR1:=hm7 ((HR0.out.below (below1 _ _)).fr hf HN1.out);have p3':=HZ1.out.b.cell (i:=3) rfl;have pf3:=HZ1.out.b.froz 3;have pl3:=HZ1.out.b.lt;clear hz hf p3)
   obtain ⟨hz2,hf2⟩:=HZ1.out.opn (s1.op + 1) (by omega)
   have HZ2:=hm7 hz2
   have HF2:=hm7 (HF1.out.tr hf2)
   have HR2:=hm7 (HR1.out.fr hf2 HN1.out)
   have hcast:((s1.op + 1:Nat):Int) = (s1.op:Int) + 1:=by omega
   rw [hg,hcast] at HZ2 HF2 HR2
   rw [hg] at p3' pf3 pl3
   clear hz2 hf2
   go_upto_region 5 with fail
   clear p3' pf3 pl3
   revert HZ2 HF2 HR2
   generalize W1.setCell ⟨g,3,none⟩ (.int .i64 ((s1.op:Int) + 1)) = W2
   intro HZ2 HF2 HR2
   clear HZ1 HF1 HR1
   have HAL:=hm7 (hA c ⟨s1.nx,s1.op + 1,s1.vs,s1.nm⟩ W2 HZ2.out (by show 17 <= s1.op + 1 + f;have:=HS1.out;omega))
   cases hr:altOf5 (lit5 c.T c.L f) c.T c.L ⟨s1.nx,s1.op + 1,s1.vs,s1.nm⟩ with
   | error e0=>
    rw [R5.and_err hr] at hR
    subst hR
    have HE2:=hm7 (P5P.err HAL.out hr)
    rw [hg] at HE2
    clear hr HAL
    go_wp2_with (go_at_call 155;refine HE2.out.mono ?_;rintro e W3 ⟨rfl,hf⟩;have HF3:=hm7 (HF2.out.tr hf);clear hf)
    exact ⟨rfl,HF3.out,rfl⟩
   | ok p=>
    obtain ⟨m,s2⟩:=p
    rw [R5.and_ok hr] at hR
    have HE2:=hm7 (P5P.ok HAL.out hr)
    rw [hg] at HE2
    have hs3:s2.op = s1.op + 1:=(goes_alt c.T c.L (goes_lit c.T c.L f) _ _ _ hr).1
    clear hr HAL
    go_upto_region 6 with (go_at_call 155;refine HE2.out.mono ?_;rintro e W3 ⟨v3,rfl,⟨va,an,m',rfl,hm,ha⟩,hz,hf⟩;obtain ⟨xa,xl,xc,rfl⟩:=alM_form ha;have HM:=hm7 hm;have HZ3:=hm7 (hz.below (below1 W3 (.cells #[.slice xa xl xc,.int .i64 (an:Int)] 139)));have HF3:=hm7 ((HF2.out.tr hf).then (below1 W3 (.cells #[.slice xa xl xc,.int .i64 (an:Int)] 139)));have HR3:=hm7 ((HR2.out.fr hf HN1.out).below (below1 W3 (.cells #[.slice xa xl xc,.int .i64 (an:Int)] 139)));have HA3:=hm7 (alM_below (alM_mono (G:=fun b=>w.heap.size <= b /\ b ≠ q) ha fun b _ hb=>⟨Nat.le_trans HF2.out.size hb,fun e=>by have:=HR2.out.lt;omega⟩) (below1 W3 (.cells #[.slice xa xl xc,.int .i64 (an:Int)] 139)));have HX3:=hm7 (Bk.new W3 #[.slice xa xl xc,.int .i64 (an:Int)] 139);have hz3:=(HF2.out.tr hf).size;have hq3:q < W3.heap.size:=Nat.lt_of_lt_of_le HR2.out.lt hf.size;clear hz hf hm ha)
    revert HZ3 HF3 HR3 HA3 HX3
    generalize W3.alloc (.cells #[.slice xa xl xc,.int .i64 (an:Int)] 139) = W4
    have HXN:Hid (¬ W5 c W3.heap.size /\ W3.heap.size ≠ q):=⟨HWB.out _ hz3,by omega⟩
    generalize W3.heap.size = xb at *
    intro HZ3 HF3 HR3 HA3 HX3
    clear hq3 hz3 HE2
    have HT2:Hid (∀ X:World,PZ c X s2 -> Calls Tryz.prog 85 #[.pointer (some ⟨g,0,none⟩),.slice (some ⟨X.heap.size,0,none⟩) 1 1] (X.alloc (.cells #[.int .i64 7] 3)) (P5P c (X.alloc (.cells #[.int .i64 7] 3)) (fun (t:Tk) v _=>v = t.v) (tk5 c.T c.L [7] s2))):=fun X hX=>by rw [<- hg];exact takeN5 7 (by decide) c s2 X hX
    cases hr:tk5 c.T c.L [7] s2 with
    | error e0=>
     rw [R5.and_err hr] at hR
     subst hR
     have HE3:=hm7 (P5P.err (HT2.out W4 HZ3.out) hr)
     clear hr HT2
     go_wp2_with (go_at_call 85;refine HE3.out.mono ?_;rintro e W5' ⟨rfl,hf⟩;have HF5:=hm7 ((HF3.out.then (below1 _ _)).tr hf);clear hf)
     exact ⟨rfl,HF5.out,rfl⟩
    | ok p=>
     obtain ⟨⟨tk1,tx1,tn1,ta1,te1⟩,s3⟩:=p
     rw [R5.and_ok hr] at hR
     subst hR
     have HE3:=hm7 (P5P.ok (HT2.out W4 HZ3.out) hr)
     obtain ⟨-, -,hs4⟩:=tk5_some hr
     have hs5:s3.op = s1.op + 1:=by rw [hs4];exact hs3
     have hob3:s3.op <= 16:=by omega
     have hob4:1 <= s3.op:=by omega
     clear hr HT2 hs4 hs5 hs3
     go_upto_region 7 with (go_at_call 85;refine HE3.out.mono ?_;rintro e W5' ⟨v5,rfl,rfl,hz,hf⟩;have HZ5:=hm7 hz;have HF5:=hm7 ((HF3.out.then (below1 _ _)).tr hf);have HR5:=hm7 ((HR3.out.below (below1 _ _)).fr hf HN1.out);have HX5:=hm7 ((HX3.out.below (below1 _ _)).fr hf HXN.out.1);have HA5:=hm7 (alM_fr (alM_below HA3.out (below1 W4 (.cells #[.int .i64 7] 3))) hf fun b hb=>HWB.out b hb.1);have p3':=HZ5.out.b.cell (i:=3) rfl;have pf3:=HZ5.out.b.froz 3;have pl3:=HZ5.out.b.lt;clear hz hf)
     obtain ⟨hz2,hf2⟩:=HZ5.out.opn (s3.op - 1) (by omega)
     have HZ6:=hm7 hz2
     have HF6:=hm7 (HF5.out.tr hf2)
     have HR6:=hm7 (HR5.out.fr hf2 HN1.out)
     have HX6:=hm7 (HX5.out.fr hf2 HXN.out.1)
     have HA6:=hm7 (alM_fr HA5.out hf2 fun b hb=>HWB.out b hb.1)
     have hcast2:((s3.op - 1:Nat):Int) = (s3.op:Int) - 1:=by omega
     rw [hg,hcast2] at HZ6 HF6 HR6 HX6 HA6
     rw [hg] at p3' pf3 pl3
     clear hz2 hf2
     go_upto_region 8 with fail
     clear p3' pf3 pl3
     revert HZ6 HF6 HR6 HX6 HA6
     generalize W5'.setCell ⟨g,3,none⟩ (.int .i64 ((s3.op:Int) - 1)) = W6
     intro HZ6 HF6 HR6 HX6 HA6
     have x0:=HX6.out.cell (i:=0) rfl
     have x1:=HX6.out.cell (i:=1) rfl
     have r0:=HR6.out.cell (i:=0) rfl
     have r1:=HR6.out.cell (i:=1) rfl
     have f0:=HR6.out.froz 0
     have f1:=HR6.out.froz 1
     have hrl:=HR6.out.lt
     have HZZ:=hm7 ((HR6.out.set 0 (.slice xa xl xc)).set 1 (.int .i64 (an:Int)))
     have z0:=HZZ.out.cell (i:=0) rfl
     have z1:=HZZ.out.cell (i:=1) rfl
     go_wp2
     refine bodyPost_ret (v:=.agg #[.slice xa xl xc,.int .i64 (an:Int)]) (by simp [results,Tryz.results216,go_sem,z0,z1]) rfl ?_
     have hfq:Fr (fun b=>b = q) W6 ((W6.setCell ⟨q,0,none⟩ (.slice xa xl xc)).setCell ⟨q,1,none⟩ (.int .i64 (an:Int))):=((Fr.refl (fun b=>b = q) _).set (Or.inl rfl)).set (Or.inl rfl)
     refine ⟨HF6.out.trans hfq (fun b hb e=>by have:=HQW.out;omega),_,rfl,⟨_,an,m',rfl,HM.out,alM_mono (alM_fr HA6.out hfq fun b hb=>hb.2) fun b _ hb=>hb.1⟩,HZ6.out.fr hfq fun b hb e=>by have:=HN2.out;omega⟩
theorem store15y {w:World} {g:Nat} {t:TypeId} {cs:Array Value} (h:Bk w g cs t) (hc:cs.size = 15) (v0 v1 v2 v3 v4 v5 v6 v7 v8 v9 v10 v11 v12 v13 v14:Value):Bk (((((((((((((((w.setCell ⟨g,0,none⟩ v0).setCell ⟨g,1,none⟩ v1).setCell ⟨g,2,none⟩ v2).setCell ⟨g,3,none⟩ v3).setCell ⟨g,4,none⟩ v4).setCell ⟨g,5,none⟩ v5).setCell ⟨g,6,none⟩ v6).setCell ⟨g,7,none⟩ v7).setCell ⟨g,8,none⟩ v8).setCell ⟨g,9,none⟩ v9).setCell ⟨g,10,none⟩ v10).setCell ⟨g,11,none⟩ v11).setCell ⟨g,12,none⟩ v12).setCell ⟨g,13,none⟩ v13).setCell ⟨g,14,none⟩ v14) g #[v0,v1,v2,v3,v4,v5,v6,v7,v8,v9,v10,v11,v12,v13,v14] t:=by
 obtain ⟨l⟩:=cs
 obtain ⟨a,b,c,d,e,f,g',i,j,k,m,n,o,p,q,rfl⟩:=list15 (l:=l) (by simpa using hc)
 have:=(((((((((((((((h.set 0 v0).set 1 v1).set 2 v2).set 3 v3).set 4 v4).set 5 v5).set 6 v6).set 7 v7).set 8 v8).set 9 v9).set 10 v10).set 11 v11).set 12 v12).set 13 v13).set 14 v14)
 simpa using this
theorem fr15 {P:Nat -> Prop} {w0 w:World} {g:Nat} (h:Fr P w0 w) (hg:P g ∨ w0.heap.size <= g) (v0 v1 v2 v3 v4 v5 v6 v7 v8 v9 v10 v11 v12 v13 v14:Value):Fr P w0 (((((((((((((((w.setCell ⟨g,0,none⟩ v0).setCell ⟨g,1,none⟩ v1).setCell ⟨g,2,none⟩ v2).setCell ⟨g,3,none⟩ v3).setCell ⟨g,4,none⟩ v4).setCell ⟨g,5,none⟩ v5).setCell ⟨g,6,none⟩ v6).setCell ⟨g,7,none⟩ v7).setCell ⟨g,8,none⟩ v8).setCell ⟨g,9,none⟩ v9).setCell ⟨g,10,none⟩ v10).setCell ⟨g,11,none⟩ v11).setCell ⟨g,12,none⟩ v12).setCell ⟨g,13,none⟩ v13).setCell ⟨g,14,none⟩ v14):=(((((((((((((((h.set hg).set hg).set hg).set hg).set hg).set hg).set hg).set hg).set hg).set hg).set hg).set hg).set hg).set hg).set hg)
set_option maxRecDepth 20000 in
set_option maxHeartbeats 4000000 in
theorem litP5_any (f:Nat) (hB:BrOk f):LitOk (f + 1):=by
 intro c s w h hop
 have HB0:=hm7 (below1 w (.cells #[.int .i64 0,.int .i64 0,.int .i64 0,.string ⟨#[]⟩,.string ⟨#[]⟩,.slice none 0 0,.int .i64 0,.int .i64 0,.int .i64 0,.string ⟨#[]⟩,.int .i64 0,.int .i64 0,.string ⟨#[]⟩,.slice none 0 0,.int .i64 0] 201))
 have HR0:=hm7 (Bk.new w #[.int .i64 0,.int .i64 0,.int .i64 0,.string ⟨#[]⟩,.string ⟨#[]⟩,.slice none 0 0,.int .i64 0,.int .i64 0,.int .i64 0,.string ⟨#[]⟩,.int .i64 0,.int .i64 0,.string ⟨#[]⟩,.slice none 0 0,.int .i64 0] 201)
 have HZ0:=hm7 (h.below HB0.out)
 obtain ⟨n1,n2⟩:=h.nw (r:=w.heap.size) (Nat.le_refl _)
 have HN1:=hm7 n1
 have HN2:=hm7 n2
 have HWB:Hid (∀ b,w.heap.size <= b -> ¬ W5 c b):=fun b hb=>(h.nw hb).1
 obtain ⟨Y0,hY0⟩:∃ Y0,w.alloc (.cells #[.int .i64 0,.int .i64 0,.int .i64 0,.string ⟨#[]⟩,.string ⟨#[]⟩,.slice none 0 0,.int .i64 0,.int .i64 0,.int .i64 0,.string ⟨#[]⟩,.int .i64 0,.int .i64 0,.string ⟨#[]⟩,.slice none 0 0,.int .i64 0] 201) = Y0:=⟨_,rfl⟩
 rw [hY0] at HB0 HR0 HZ0
 have HY0:=hm7 hY0
 obtain ⟨q,hq⟩:∃ q,w.heap.size = q:=⟨_,rfl⟩
 rw [hq] at HN1 HN2 HR0
 have HQ:=hm7 hq
 have HQW:Hid (w.heap.size <= q):=by show _ <= _;rw [hq];exact Nat.le_refl _
 have HQ1:Hid (q < Y0.heap.size):=HR0.out.lt
 obtain ⟨R,hR⟩:∃ R,lit5 c.T c.L (f + 1) s = R:=⟨_,rfl⟩
 rw [hR]
 unfold lit5 at hR
 have HOP:Hid (16 <= s.op + f):=by show _ <= _;omega
 have HK:=hm7 (kind5_0 c s Y0 HZ0.out)
 clear h n1 n2 hY0 hq
 go_enter Tryz.func206,Tryz.ntmps206
 go_upto_region 1 with fail
 rw [HY0.out,HQ.out]
 clear HY0
 by_cases hk:kd5 c.T s 0 = 6
 ·rw [if_pos hk] at hR
  rw [hk] at HK
  have HBR:Hid (∀ X:World,PZ c X s -> Calls Tryz.prog 216 #[.pointer (some ⟨c.g,0,none⟩)] X (P5P c X (VA f X) (brOf5 (lit5 c.T c.L f) c.T c.L s))):=fun X hX=>hB c s X hX HOP.out
  cases hr:brOf5 (lit5 c.T c.L f) c.T c.L s with
  | error e0=>
   rw [hr] at hR
   subst hR
   have HE:Hid (∀ X:World,PZ c X s -> Calls Tryz.prog 216 #[.pointer (some ⟨c.g,0,none⟩)] X fun e w'=>e = .panicked [pF e0] /\ Fr (W5 c) X w'):=fun X hX=>P5P.err (HBR.out X hX) hr
   clear hr HBR hk
   go_wp2_with (first
    | (go_at_call 124;refine HK.out.mono ?_;rintro e W1 ⟨rfl,hb⟩;have HB1:=hm7 hb;clear hb)
    | (go_at_call 216;refine (HE.out _ (HZ0.out.below HB1.out)).mono ?_;rintro e W2 ⟨rfl,hf⟩;have HF2:=hm7 (((W5.of (c:=c) HB0.out).then HB1.out).tr hf);clear hf))
   exact ⟨rfl,HF2.out,rfl⟩
  | ok p=>
   obtain ⟨m,s1⟩:=p
   rw [hr] at hR
   subst hR
   have HE:Hid (∀ X:World,PZ c X s -> Calls Tryz.prog 216 #[.pointer (some ⟨c.g,0,none⟩)] X fun e w'=>∃ v,e = .returned v /\ VA f X m v w' /\ PZ c w' s1 /\ Fr (W5 c) X w'):=fun X hX=>P5P.ok (HBR.out X hX) hr
   clear hr HBR hk
   go_wp2_with (first
    | (go_at_call 124;refine HK.out.mono ?_;rintro e W1 ⟨rfl,hb⟩;have HB1:=hm7 hb;clear hb)
    | (go_at_call 216;refine (HE.out _ (HZ0.out.below HB1.out)).mono ?_;rintro e W2 ⟨v2,rfl,⟨va,an,m',rfl,hm,ha⟩,hz,hf⟩;obtain ⟨xa,xl,xc,rfl⟩:=alM_form ha;have HM:=hm7 hm;have HA:=hm7 (alM_mono (G:=fun b=>w.heap.size <= b /\ b ≠ q) ha fun b _ hb=>⟨Nat.le_trans ((W5.of (c:=c) HB0.out).then HB1.out).size hb,fun e=>by have:=HQ1.out;have:=HB1.out.size;omega⟩);have HZ2:=hm7 hz;have HF2:=hm7 (((W5.of (c:=c) HB0.out).then HB1.out).tr hf);have HR2:=hm7 ((HR0.out.below HB1.out).fr hf HN1.out);clear hm ha hz hf;have r0:=HR2.out.cell (i:=0) rfl;have r1:=HR2.out.cell (i:=1) rfl;have r2:=HR2.out.cell (i:=2) rfl;have r3:=HR2.out.cell (i:=3) rfl;have r4:=HR2.out.cell (i:=4) rfl;have r5:=HR2.out.cell (i:=5) rfl;have r6:=HR2.out.cell (i:=6) rfl;have r7:=HR2.out.cell (i:=7) rfl;have r8:=HR2.out.cell (i:=8) rfl;have r9:=HR2.out.cell (i:=9) rfl;have r10:=HR2.out.cell (i:=10) rfl;have r11:=HR2.out.cell (i:=11) rfl;have r12:=HR2.out.cell (i:=12) rfl;have r13:=HR2.out.cell (i:=13) rfl;have r14:=HR2.out.cell (i:=14) rfl;have f0:=HR2.out.froz 0;have f1:=HR2.out.froz 1;have f2:=HR2.out.froz 2;have f3:=HR2.out.froz 3;have f4:=HR2.out.froz 4;have f5:=HR2.out.froz 5;have f6:=HR2.out.froz 6;have f7:=HR2.out.froz 7;have f8:=HR2.out.froz 8;have f9:=HR2.out.froz 9;have f10:=HR2.out.froz 10;have f11:=HR2.out.froz 11;have f12:=HR2.out.froz 12;have f13:=HR2.out.froz 13;have f14:=HR2.out.froz 14;have hrl:=HR2.out.lt))
   have HZZ:=hm7 (store15y HR2.out rfl (.int .i64 2) (.int .i64 0) (.int .i64 0) (.string ⟨#[]⟩) (.string ⟨#[]⟩) (.slice none 0 0) (.int .i64 0) (.int .i64 0) (.int .i64 0) (.string ⟨#[]⟩) (.int .i64 0) (.int .i64 0) (.string ⟨#[]⟩) (.slice xa xl xc) (.int .i64 (an:Int)))
   have z0:=HZZ.out.cell (i:=0) rfl
   have z1:=HZZ.out.cell (i:=1) rfl
   have z2:=HZZ.out.cell (i:=2) rfl
   have z3:=HZZ.out.cell (i:=3) rfl
   have z4:=HZZ.out.cell (i:=4) rfl
   have z5:=HZZ.out.cell (i:=5) rfl
   have z6:=HZZ.out.cell (i:=6) rfl
   have z7:=HZZ.out.cell (i:=7) rfl
   have z8:=HZZ.out.cell (i:=8) rfl
   have z9:=HZZ.out.cell (i:=9) rfl
   have z10:=HZZ.out.cell (i:=10) rfl
   have z11:=HZZ.out.cell (i:=11) rfl
   have z12:=HZZ.out.cell (i:=12) rfl
   have z13:=HZZ.out.cell (i:=13) rfl
   have z14:=HZZ.out.cell (i:=14) rfl
   refine bodyPost_ret (v:=.agg #[.int .i64 2,.int .i64 0,.int .i64 0,.string ⟨#[]⟩,.string ⟨#[]⟩,.slice none 0 0,.int .i64 0,.int .i64 0,.int .i64 0,.string ⟨#[]⟩,.int .i64 0,.int .i64 0,.string ⟨#[]⟩,.slice xa xl xc,.int .i64 (an:Int)]) (by simp [results,Tryz.results206,go_sem,z0,z1,z2,z3,z4,z5,z6,z7,z8,z9,z10,z11,z12,z13,z14]) rfl ?_
   have hfq:=fr15 (Fr.refl (fun b=>b = q) W2) (g:=q) (Or.inl rfl) (.int .i64 2) (.int .i64 0) (.int .i64 0) (.string ⟨#[]⟩) (.string ⟨#[]⟩) (.slice none 0 0) (.int .i64 0) (.int .i64 0) (.int .i64 0) (.string ⟨#[]⟩) (.int .i64 0) (.int .i64 0) (.string ⟨#[]⟩) (.slice xa xl xc) (.int .i64 (an:Int))
   exact ⟨HF2.out.trans hfq (fun b hb e=>by have:=HQW.out;omega),_,rfl,⟨(brCs (.slice xa xl xc) an,m'),rfl,HM.out,Or.inr (Or.inr ⟨_,an,rfl,alM_mono (alM_fr HA.out hfq fun b hb=>hb.2) fun b _ hb=>hb.1⟩)⟩,HZ2.out.fr hfq fun b hb e=>by have:=HN2.out;omega⟩
 ·rw [if_neg hk] at hR
  obtain ⟨kk,hkk⟩:∃ kk,kd5 c.T s 0 = kk:=⟨_,rfl⟩
  rw [hkk] at HK hk
  have hk2:(kk == 6) = false:=by simp [hk]
  have HBA:Hid (∀ X:World,PZ c X s -> Calls Tryz.prog 217 #[.pointer (some ⟨c.g,0,none⟩)] X fun e w'=>e = .returned (.bool (ba5 c.T s)) /\ Below X.heap.size X w'):=fun X hX=>begins5_any c s X hX
  clear hkk hk
  cases hba:ba5 c.T s with
  | true=>
   rw [hba] at HBA
   rw [if_pos hba] at hR
   have HAT:Hid (∀ X:World,PZ c X s -> Calls Tryz.prog 84 #[.pointer (some ⟨c.g,0,none⟩)] X (P5P c X (fun (a:At) v w'=>∃ y,v = a.v y /\ Ot5 w' X.heap.size y a.args) (at5 c.T c.L s))):=fun X hX=>atom5_any c s X hX
   cases hr:at5 c.T c.L s with
   | error e0=>
    rw [R5.and_err hr] at hR
    subst hR
    have HE:Hid (∀ X:World,PZ c X s -> Calls Tryz.prog 84 #[.pointer (some ⟨c.g,0,none⟩)] X fun e w'=>e = .panicked [pF e0] /\ Fr (W5 c) X w'):=fun X hX=>P5P.err (HAT.out X hX) hr
    clear hr HAT hba
    go_wp2_with (first
     | (go_at_call 124;refine HK.out.mono ?_;rintro e W1 ⟨rfl,hb⟩;have HB1:=hm7 hb;clear hb)
     | (go_at_call 217;refine (HBA.out _ (HZ0.out.below HB1.out)).mono ?_;rintro e W2 ⟨rfl,hb⟩;have HB2:=hm7 (HB1.out.trans (hb.mono HB1.out.size));clear hb)
     | (go_at_call 84;refine (HE.out _ (HZ0.out.below HB2.out)).mono ?_;rintro e W3 ⟨rfl,hf⟩;have HF2:=hm7 (((W5.of (c:=c) HB0.out).then HB2.out).tr hf);clear hf))
    exact ⟨rfl,HF2.out,rfl⟩
   | ok p=>
    obtain ⟨⟨⟨bk,bn,bs⟩,nm,al⟩,s1⟩:=p
    rw [R5.and_ok hr] at hR
    subst hR
    have HE:Hid (∀ X:World,PZ c X s -> Calls Tryz.prog 84 #[.pointer (some ⟨c.g,0,none⟩)] X fun e w'=>∃ v,e = .returned v /\ (∃ y,v = At.v ⟨⟨bk,bn,bs⟩,nm,al⟩ y /\ Ot5 w' X.heap.size y al) /\ PZ c w' s1 /\ Fr (W5 c) X w'):=fun X hX=>P5P.ok (HAT.out X hX) hr
    clear hr HAT hba
    go_wp2_with (first
     | (go_at_call 124;refine HK.out.mono ?_;rintro e W1 ⟨rfl,hb⟩;have HB1:=hm7 hb;clear hb)
     | (go_at_call 217;refine (HBA.out _ (HZ0.out.below HB1.out)).mono ?_;rintro e W1' ⟨rfl,hb⟩;have HB2:=hm7 (HB1.out.trans (hb.mono HB1.out.size));clear hb)
     | (go_at_call 84;refine (HE.out _ (HZ0.out.below HB2.out)).mono ?_;rintro e W2 ⟨v2,rfl,⟨y,rfl,hy⟩,hz,hf⟩;obtain ⟨ya,yc,hyf, -⟩:=row7_form hy;generalize hyn:al.length = yn at hyf;subst hyf;have HYN:=hm7 hyn;have HY:=hm7 hy;have HZ2:=hm7 hz;have HYW:=hm7 ((W5.of (c:=c) HB0.out).then HB2.out).size;have HYQ:Hid (q < W1'.heap.size):=Nat.lt_of_lt_of_le HQ1.out HB2.out.size;have HF2:=hm7 (((W5.of (c:=c) HB0.out).then HB2.out).tr hf);have HR2:=hm7 ((HR0.out.below HB2.out).fr hf HN1.out);clear hz hf hy hyn;have r0:=HR2.out.cell (i:=0) rfl;have r1:=HR2.out.cell (i:=1) rfl;have r2:=HR2.out.cell (i:=2) rfl;have r3:=HR2.out.cell (i:=3) rfl;have r4:=HR2.out.cell (i:=4) rfl;have r5:=HR2.out.cell (i:=5) rfl;have r6:=HR2.out.cell (i:=6) rfl;have r7:=HR2.out.cell (i:=7) rfl;have r8:=HR2.out.cell (i:=8) rfl;have r9:=HR2.out.cell (i:=9) rfl;have r10:=HR2.out.cell (i:=10) rfl;have r11:=HR2.out.cell (i:=11) rfl;have r12:=HR2.out.cell (i:=12) rfl;have r13:=HR2.out.cell (i:=13) rfl;have r14:=HR2.out.cell (i:=14) rfl;have f0:=HR2.out.froz 0;have f1:=HR2.out.froz 1;have f2:=HR2.out.froz 2;have f3:=HR2.out.froz 3;have f4:=HR2.out.froz 4;have f5:=HR2.out.froz 5;have f6:=HR2.out.froz 6;have f7:=HR2.out.froz 7;have f8:=HR2.out.froz 8;have f9:=HR2.out.froz 9;have f10:=HR2.out.froz 10;have f11:=HR2.out.froz 11;have f12:=HR2.out.froz 12;have f13:=HR2.out.froz 13;have f14:=HR2.out.froz 14;have hrl:=HR2.out.lt))
    have HZZ:=hm7 (store15y HR2.out rfl (.int .i64 0) (.int .i64 bk) (.int .i64 bn) (.string bs) (.string nm) (.slice ya yn yc) (.int .i64 0) (.int .i64 0) (.int .i64 0) (.string ⟨#[]⟩) (.int .i64 0) (.int .i64 0) (.string ⟨#[]⟩) (.slice none 0 0) (.int .i64 0))
    have z0:=HZZ.out.cell (i:=0) rfl
    have z1:=HZZ.out.cell (i:=1) rfl
    have z2:=HZZ.out.cell (i:=2) rfl
    have z3:=HZZ.out.cell (i:=3) rfl
    have z4:=HZZ.out.cell (i:=4) rfl
    have z5:=HZZ.out.cell (i:=5) rfl
    have z6:=HZZ.out.cell (i:=6) rfl
    have z7:=HZZ.out.cell (i:=7) rfl
    have z8:=HZZ.out.cell (i:=8) rfl
    have z9:=HZZ.out.cell (i:=9) rfl
    have z10:=HZZ.out.cell (i:=10) rfl
    have z11:=HZZ.out.cell (i:=11) rfl
    have z12:=HZZ.out.cell (i:=12) rfl
    have z13:=HZZ.out.cell (i:=13) rfl
    have z14:=HZZ.out.cell (i:=14) rfl
    refine bodyPost_ret (v:=.agg #[.int .i64 0,.int .i64 bk,.int .i64 bn,.string bs,.string nm,.slice ya yn yc,.int .i64 0,.int .i64 0,.int .i64 0,.string ⟨#[]⟩,.int .i64 0,.int .i64 0,.string ⟨#[]⟩,.slice none 0 0,.int .i64 0]) (by simp [results,Tryz.results206,go_sem,z0,z1,z2,z3,z4,z5,z6,z7,z8,z9,z10,z11,z12,z13,z14]) rfl ?_
    have hfq:=fr15 (Fr.refl (fun b=>b = q) W2) (g:=q) (Or.inl rfl) (.int .i64 0) (.int .i64 bk) (.int .i64 bn) (.string bs) (.string nm) (.slice ya yn yc) (.int .i64 0) (.int .i64 0) (.int .i64 0) (.string ⟨#[]⟩) (.int .i64 0) (.int .i64 0) (.string ⟨#[]⟩) (.slice none 0 0) (.int .i64 0)
    refine ⟨HF2.out.trans hfq (fun b hb e=>by have:=HQW.out;omega),_,rfl,⟨(atCs ⟨⟨bk,bn,bs⟩,nm,al⟩ (.slice ya yn yc),[[.a ⟨⟨bk,bn,bs⟩,nm,al⟩ (.slice ya yn yc)]]),rfl,rfl,Or.inl ⟨_,_,rfl,⟨?_, ?_⟩,rfl⟩⟩,HZ2.out.fr hfq fun b hb e=>by have:=HN2.out;omega⟩
    ·exact row5_base (row7_fr HY.out hfq fun g hg e=>by have:=(World.ownsRow.lt HY.out g hg).1;have:=HYQ.out;omega)
    ·intro g hg
     exact Nat.le_trans HYW.out (World.ownsRow.lt HY.out g hg).1
  | false=>
   rw [hba] at HBA
   rw [if_neg (by rw [hba];decide)] at hR
   have HTE:Hid (∀ X:World,PZ c X s -> Calls Tryz.prog 218 #[.pointer (some ⟨c.g,0,none⟩)] X (P5P c X (fun (t:Te) v _=>v = t.v) (te5 c.T c.L s))):=fun X hX=>test5_any c s X hX
   cases hr:te5 c.T c.L s with
   | error e0=>
    rw [R5.and_err hr] at hR
    subst hR
    have HE:Hid (∀ X:World,PZ c X s -> Calls Tryz.prog 218 #[.pointer (some ⟨c.g,0,none⟩)] X fun e w'=>e = .panicked [pF e0] /\ Fr (W5 c) X w'):=fun X hX=>P5P.err (HTE.out X hX) hr
    clear hr HTE hba
    go_wp2_with (first
     | (go_at_call 124;refine HK.out.mono ?_;rintro e W1 ⟨rfl,hb⟩;have HB1:=hm7 hb;clear hb)
     | (go_at_call 217;refine (HBA.out _ (HZ0.out.below HB1.out)).mono ?_;rintro e W2 ⟨rfl,hb⟩;have HB2:=hm7 (HB1.out.trans (hb.mono HB1.out.size));clear hb)
     | (go_at_call 218;refine (HE.out _ (HZ0.out.below HB2.out)).mono ?_;rintro e W3 ⟨rfl,hf⟩;have HF2:=hm7 (((W5.of (c:=c) HB0.out).then HB2.out).tr hf);clear hf))
    exact ⟨rfl,HF2.out,rfl⟩
   | ok p=>
    obtain ⟨⟨op,⟨lk,ln,ls⟩,⟨rk,rn,rs⟩⟩,s1⟩:=p
    rw [R5.and_ok hr] at hR
    subst hR
    have HE:Hid (∀ X:World,PZ c X s -> Calls Tryz.prog 218 #[.pointer (some ⟨c.g,0,none⟩)] X fun e w'=>∃ v,e = .returned v /\ v = Te.v ⟨op,⟨lk,ln,ls⟩,⟨rk,rn,rs⟩⟩ /\ PZ c w' s1 /\ Fr (W5 c) X w'):=fun X hX=>P5P.ok (HTE.out X hX) hr
    clear hr HTE hba
    go_wp2_with (first
     | (go_at_call 124;refine HK.out.mono ?_;rintro e W1 ⟨rfl,hb⟩;have HB1:=hm7 hb;clear hb)
     | (go_at_call 217;refine (HBA.out _ (HZ0.out.below HB1.out)).mono ?_;rintro e W1' ⟨rfl,hb⟩;have HB2:=hm7 (HB1.out.trans (hb.mono HB1.out.size));clear hb)
     | (go_at_call 218;refine (HE.out _ (HZ0.out.below HB2.out)).mono ?_;rintro e W2 ⟨v2,rfl,rfl,hz,hf⟩;have HZ2:=hm7 hz;have HF2:=hm7 (((W5.of (c:=c) HB0.out).then HB2.out).tr hf);have HR2:=hm7 ((HR0.out.below HB2.out).fr hf HN1.out);clear hz hf;have r0:=HR2.out.cell (i:=0) rfl;have r1:=HR2.out.cell (i:=1) rfl;have r2:=HR2.out.cell (i:=2) rfl;have r3:=HR2.out.cell (i:=3) rfl;have r4:=HR2.out.cell (i:=4) rfl;have r5:=HR2.out.cell (i:=5) rfl;have r6:=HR2.out.cell (i:=6) rfl;have r7:=HR2.out.cell (i:=7) rfl;have r8:=HR2.out.cell (i:=8) rfl;have r9:=HR2.out.cell (i:=9) rfl;have r10:=HR2.out.cell (i:=10) rfl;have r11:=HR2.out.cell (i:=11) rfl;have r12:=HR2.out.cell (i:=12) rfl;have r13:=HR2.out.cell (i:=13) rfl;have r14:=HR2.out.cell (i:=14) rfl;have f0:=HR2.out.froz 0;have f1:=HR2.out.froz 1;have f2:=HR2.out.froz 2;have f3:=HR2.out.froz 3;have f4:=HR2.out.froz 4;have f5:=HR2.out.froz 5;have f6:=HR2.out.froz 6;have f7:=HR2.out.froz 7;have f8:=HR2.out.froz 8;have f9:=HR2.out.froz 9;have f10:=HR2.out.froz 10;have f11:=HR2.out.froz 11;have f12:=HR2.out.froz 12;have f13:=HR2.out.froz 13;have f14:=HR2.out.froz 14;have hrl:=HR2.out.lt))
    have HZZ:=hm7 (store15y HR2.out rfl (.int .i64 1) (.int .i64 0) (.int .i64 0) (.string ⟨#[]⟩) (.string ⟨#[]⟩) (.slice none 0 0) (.int .i64 op) (.int .i64 lk) (.int .i64 ln) (.string ls) (.int .i64 rk) (.int .i64 rn) (.string rs) (.slice none 0 0) (.int .i64 0))
    have z0:=HZZ.out.cell (i:=0) rfl
    have z1:=HZZ.out.cell (i:=1) rfl
    have z2:=HZZ.out.cell (i:=2) rfl
    have z3:=HZZ.out.cell (i:=3) rfl
    have z4:=HZZ.out.cell (i:=4) rfl
    have z5:=HZZ.out.cell (i:=5) rfl
    have z6:=HZZ.out.cell (i:=6) rfl
    have z7:=HZZ.out.cell (i:=7) rfl
    have z8:=HZZ.out.cell (i:=8) rfl
    have z9:=HZZ.out.cell (i:=9) rfl
    have z10:=HZZ.out.cell (i:=10) rfl
    have z11:=HZZ.out.cell (i:=11) rfl
    have z12:=HZZ.out.cell (i:=12) rfl
    have z13:=HZZ.out.cell (i:=13) rfl
    have z14:=HZZ.out.cell (i:=14) rfl
    refine bodyPost_ret (v:=.agg #[.int .i64 1,.int .i64 0,.int .i64 0,.string ⟨#[]⟩,.string ⟨#[]⟩,.slice none 0 0,.int .i64 op,.int .i64 lk,.int .i64 ln,.string ls,.int .i64 rk,.int .i64 rn,.string rs,.slice none 0 0,.int .i64 0]) (by simp [results,Tryz.results206,go_sem,z0,z1,z2,z3,z4,z5,z6,z7,z8,z9,z10,z11,z12,z13,z14]) rfl ?_
    have hfq:=fr15 (Fr.refl (fun b=>b = q) W2) (g:=q) (Or.inl rfl) (.int .i64 1) (.int .i64 0) (.int .i64 0) (.string ⟨#[]⟩) (.string ⟨#[]⟩) (.slice none 0 0) (.int .i64 op) (.int .i64 lk) (.int .i64 ln) (.string ls) (.int .i64 rk) (.int .i64 rn) (.string rs) (.slice none 0 0) (.int .i64 0)
    exact ⟨HF2.out.trans hfq (fun b hb e=>by have:=HQW.out;omega),_,rfl,⟨(teCs ⟨op,⟨lk,ln,ls⟩,⟨rk,rn,rs⟩⟩,[[.t ⟨op,⟨lk,ln,ls⟩,⟨rk,rn,rs⟩⟩]]),rfl,rfl,Or.inr (Or.inl ⟨_,rfl,rfl⟩)⟩,HZ2.out.fr hfq fun b hb e=>by have:=HN2.out;omega⟩
theorem litOk_all:∀ f,LitOk f
 | 0=>fun c s w h hop=>by have:=h.ob;omega
 | f + 1=>litP5_any f (bracket5_any f (alt5_any f (conj5_any f (litOk_all f))))
theorem altOk_all (f:Nat):AltOk f:=alt5_any f (conj5_any f (litOk_all f))
end Go.Proofs.YtcpjiahdaplhlaaGreatDoor

import Derived.Test.YtcpjiahdaplhlaaGreatDoorB2
import Derived.Test.YtcpjiahdaplhlaaGreatDoorSY7
import Derived.Test.YtcpjiahdaplhlaaGreatDoorCL2
namespace Go.Proofs.YtcpjiahdaplhlaaGreatDoor
open Go.RowKit
attribute [local go_sem ↓] Go.wp_at_zero Go.wp_at_succ
def op5 (k:Int):Int:=if k = 13 then 1 else if k = 14 then 2 else if k = 15 then 3 else if k = 16 then 4 else 0
theorem ops_at (w:World):((Instr.index 151 (.agg opsV) (.int .i64 0)).run Tryz.prog w = .ok (.agg #[.int .i64 13,.int .i64 1,.string ⟨#[61]⟩]) w /\ (Instr.index 151 (.agg opsV) (.int .i64 1)).run Tryz.prog w = .ok (.agg #[.int .i64 14,.int .i64 2,.string ⟨#[33,61]⟩]) w) /\ ((Instr.index 151 (.agg opsV) (.int .i64 2)).run Tryz.prog w = .ok (.agg #[.int .i64 15,.int .i64 3,.string ⟨#[60]⟩]) w /\ (Instr.index 151 (.agg opsV) (.int .i64 3)).run Tryz.prog w = .ok (.agg #[.int .i64 16,.int .i64 4,.string ⟨#[60,61]⟩]) w):=
 ⟨⟨by kernel_rfl,by kernel_rfl⟩,by kernel_rfl,by kernel_rfl⟩
def oz5 (k:Int) (j:Nat):Prop:=(0 < j -> k ≠ 13) /\ (1 < j -> k ≠ 14) /\ (2 < j -> k ≠ 15) /\ (3 < j -> k ≠ 16)
set_option maxRecDepth 20000 in
set_option maxHeartbeats 2000000 in
theorem operator5_any (k:Int) (w:World) (h:OpsOk w) :
  Calls Tryz.prog 219 #[.int .i64 k] w fun e w'=>e = .returned (.int .i64 (op5 k)) /\ Below w.heap.size w w':=by
 have c0:=h.cell (i:=0) (v:=.int .i64 13) rfl
 have c1:=h.cell (i:=1) (v:=.int .i64 1) rfl
 have c2:=h.cell (i:=2) (v:=.string ⟨#[61]⟩) rfl
 have c3:=h.cell (i:=3) (v:=.int .i64 14) rfl
 have c4:=h.cell (i:=4) (v:=.int .i64 2) rfl
 have c5:=h.cell (i:=5) (v:=.string ⟨#[33,61]⟩) rfl
 have c6:=h.cell (i:=6) (v:=.int .i64 15) rfl
 have c7:=h.cell (i:=7) (v:=.int .i64 3) rfl
 have c8:=h.cell (i:=8) (v:=.string ⟨#[60]⟩) rfl
 have c9:=h.cell (i:=9) (v:=.int .i64 16) rfl
 have c10:=h.cell (i:=10) (v:=.int .i64 4) rfl
 have c11:=h.cell (i:=11) (v:=.string ⟨#[60,61]⟩) rfl
 have hg:=h.lt
 obtain ⟨R,hR⟩:∃ R,op5 k = R:=⟨_,rfl⟩
 rw [hR]
 have HR:=hm7 hR
 clear h hR
 go_enter Tryz.func219,Tryz.ntmps219
 go_wp2
 clear c0 c1 c2 c3 c4 c5 c6 c7 c8 c9 c10 c11
 go_loopg [4,6] 4 (fun g _ i wr=>∃ j:Nat,j + g = 4 /\ i = .int .i64 j /\ oz5 k j /\ Below w.heap.size w wr)
 case atStart=>exact ⟨0,by omega,rfl,⟨by omega,by omega,by omega,by omega⟩,Below.refl _ _⟩
 case round=>
  obtain ⟨j,hj,rfl,ho,hb⟩:=hrel
  have HO:=hm7 ho
  have HB:=hm7 hb
  clear ho hb
  cases gk with
  | succ g=>
   obtain ⟨⟨q0,q1⟩,q2,q3⟩:=ops_at wr
   unfold opsV at q0 q1 q2 q3
   have hz:=HB.out.size
   rcases (show j = 0 ∨ j = 1 ∨ j = 2 ∨ j = 3 by omega) with rfl | rfl | rfl | rfl
   ·by_cases e:k = 13
    ·subst e
     have hR0:R = 1:=by rw [<- HR.out];rfl
     subst hR0
     go_wp2
     go_ret
     exact ⟨rfl,HB.out.alloc hz _⟩
    ·have e1:((13:Int) == k) = false:=by simp;omega
     go_wp2
     go_roundg g
     case measure=>omega
     case rel=>exact ⟨1,by omega,by go_num,⟨by have:=HO.out.1;omega,by have:=HO.out.2.1;omega,by have:=HO.out.2.2.1;omega,by have:=HO.out.2.2.2;omega⟩,HB.out.alloc hz _⟩
   ·by_cases e:k = 14
    ·subst e
     have hR0:R = 2:=by rw [<- HR.out];rfl
     subst hR0
     go_wp2
     go_ret
     exact ⟨rfl,HB.out.alloc hz _⟩
    ·have e1:((14:Int) == k) = false:=by simp;omega
     go_wp2
     go_roundg g
     case measure=>omega
     case rel=>exact ⟨2,by omega,by go_num,⟨by have:=HO.out.1;omega,by have:=HO.out.2.1;omega,by have:=HO.out.2.2.1;omega,by have:=HO.out.2.2.2;omega⟩,HB.out.alloc hz _⟩
   ·by_cases e:k = 15
    ·subst e
     have hR0:R = 3:=by rw [<- HR.out];rfl
     subst hR0
     go_wp2
     go_ret
     exact ⟨rfl,HB.out.alloc hz _⟩
    ·have e1:((15:Int) == k) = false:=by simp;omega
     go_wp2
     go_roundg g
     case measure=>omega
     case rel=>exact ⟨3,by omega,by go_num,⟨by have:=HO.out.1;omega,by have:=HO.out.2.1;omega,by have:=HO.out.2.2.1;omega,by have:=HO.out.2.2.2;omega⟩,HB.out.alloc hz _⟩
   ·by_cases e:k = 16
    ·subst e
     have hR0:R = 4:=by rw [<- HR.out];rfl
     subst hR0
     go_wp2
     go_ret
     exact ⟨rfl,HB.out.alloc hz _⟩
    ·have e1:((16:Int) == k) = false:=by simp;omega
     go_wp2
     go_roundg g
     case measure=>omega
     case rel=>exact ⟨4,by omega,by go_num,⟨by have:=HO.out.1;omega,by have:=HO.out.2.1;omega,by have:=HO.out.2.2.1;omega,by have:=HO.out.2.2.2;omega⟩,HB.out.alloc hz _⟩
  | zero=>
   obtain rfl:j = 4:=by omega
   have hR0:R = 0:=by
    rw [<- HR.out]
    obtain ⟨o1,o2,o3,o4⟩:=HO.out
    unfold op5
    rw [if_neg (o1 (by omega)),if_neg (o2 (by omega)),if_neg (o3 (by omega)),if_neg (o4 (by omega))]
   subst hR0
   go_wp2
   go_ret
   exact ⟨rfl,HB.out⟩
def te5 (T:List Tk) (L:Nat) (s:Ps):R5 Te:=(tm5 T L s).and fun l s=>(tk5 T L [13,14,15,16] s).and fun t s=>(tm5 T L s).and fun r s=>.ok (⟨op5 t.k,l,r⟩,s)
theorem store7y {w:World} {g:Nat} {t:TypeId} {z0 z1 z2 z3 z4 z5 z6 a b c d e f k:Value} (h:Bk w g #[z0,z1,z2,z3,z4,z5,z6] t):Bk (((((((w.setCell ⟨g,0,none⟩ a).setCell ⟨g,1,none⟩ b).setCell ⟨g,2,none⟩ c).setCell ⟨g,3,none⟩ d).setCell ⟨g,4,none⟩ e).setCell ⟨g,5,none⟩ f).setCell ⟨g,6,none⟩ k) g #[a,b,c,d,e,f,k] t:=by
 have:=((((((h.set 0 a).set 1 b).set 2 c).set 3 d).set 4 e).set 5 f).set 6 k
 simpa using this
set_option maxRecDepth 20000 in
set_option maxHeartbeats 4000000 in
theorem test5_any (c:Pk) (s:Ps) (w:World) (h:PZ c w s) :
  Calls Tryz.prog 218 #[.pointer (some ⟨c.g,0,none⟩)] w (P5P c w (fun (t:Te) v _=>v = t.v) (te5 c.T c.L s)):=by
 have HTM:Hid (∀ (X:World) (s:Ps),PZ c X s -> Calls Tryz.prog 160 #[.pointer (some ⟨c.g,0,none⟩)] X (P5P c X (fun (t:Tm) v _=>v = t.v) (tm5 c.T c.L s))):=fun X s hX=>term5_any c s X hX
 obtain ⟨n1,n2⟩:=h.nw (r:=w.heap.size) (Nat.le_refl _)
 have HN1:=hm7 n1
 have HN2:=hm7 n2
 have HWB:Hid (∀ b,w.heap.size <= b -> ¬ W5 c b):=fun b hb=>(h.nw hb).1
 have HB0:=hm7 (below1 w (.cells #[.int .i64 0,.int .i64 0,.int .i64 0,.string ⟨#[]⟩,.int .i64 0,.int .i64 0,.string ⟨#[]⟩] 85))
 have HR0:=hm7 (Bk.new w #[.int .i64 0,.int .i64 0,.int .i64 0,.string ⟨#[]⟩,.int .i64 0,.int .i64 0,.string ⟨#[]⟩] 85)
 have HZ0:=hm7 (h.below HB0.out)
 obtain ⟨Y0,hY0⟩:∃ Y0,w.alloc (.cells #[.int .i64 0,.int .i64 0,.int .i64 0,.string ⟨#[]⟩,.int .i64 0,.int .i64 0,.string ⟨#[]⟩] 85) = Y0:=⟨_,rfl⟩
 rw [hY0] at HB0 HR0 HZ0
 have HY0:=hm7 hY0
 obtain ⟨q,hq⟩:∃ q,w.heap.size = q:=⟨_,rfl⟩
 rw [hq] at HN1 HN2 HR0
 have HQ:=hm7 hq
 have HQW:Hid (w.heap.size <= q):=by show _ <= _;rw [hq];exact Nat.le_refl _
 obtain ⟨R,hR⟩:∃ R,te5 c.T c.L s = R:=⟨_,rfl⟩
 rw [hR]
 unfold te5 at hR
 have HQ1:Hid (q < Y0.heap.size):=HR0.out.lt
 clear h n1 n2 hY0 hq
 go_enter Tryz.func218,Tryz.ntmps218
 go_upto_region 1 with fail
 rw [HY0.out,HQ.out]
 clear HY0
 cases hr:tm5 c.T c.L s with
 | error f=>
  rw [R5.and_err hr] at hR
  subst hR
  have HE:=hm7 (P5P.err (HTM.out Y0 s HZ0.out) hr)
  clear hr HTM
  go_wp2_with (go_at_call 160;refine HE.out.mono ?_;rintro e W1 ⟨rfl,hf⟩;have HF1:=hm7 ((W5.of (c:=c) HB0.out).tr hf);clear hf)
  exact ⟨rfl,HF1.out,rfl⟩
 | ok p=>
  obtain ⟨⟨lk,ln,ls⟩,s1⟩:=p
  rw [R5.and_ok hr] at hR
  have HE:=hm7 (P5P.ok (HTM.out Y0 s HZ0.out) hr)
  clear hr
  go_upto_region 2 with (go_at_call 160;refine HE.out.mono ?_;rintro e W1 ⟨v1,rfl,rfl,hz,hf⟩;have HZ2:=hm7 (hz.below (below1 W1 (.cells #[.int .i64 lk,.int .i64 ln,.string ls] 39)));have HF2:=hm7 (((W5.of (c:=c) HB0.out).tr hf).then (below1 W1 (.cells #[.int .i64 lk,.int .i64 ln,.string ls] 39)));have HR2:=hm7 ((HR0.out.fr hf HN1.out).below (below1 W1 (.cells #[.int .i64 lk,.int .i64 ln,.string ls] 39)));have HX2:=hm7 (Bk.new W1 #[.int .i64 lk,.int .i64 ln,.string ls] 39);have hz1:=((W5.of (c:=c) HB0.out).tr hf).size;have hq1:q < W1.heap.size:=Nat.lt_of_lt_of_le HQ1.out hf.size;clear hz hf)
  revert HZ2 HF2 HR2 HX2
  generalize W1.alloc (.cells #[.int .i64 lk,.int .i64 ln,.string ls] 39) = W2
  have HXN:Hid (¬ W5 c W1.heap.size /\ W1.heap.size ≠ q):=⟨HWB.out _ hz1,by omega⟩
  generalize W1.heap.size = xb at *
  intro HZ2 HF2 HR2 HX2
  clear hq1 hz1 HE
  have HTK:=hm7 (take5_any [13,14,15,16] (.slice (some ⟨W2.heap.size,0,none⟩) 4 4) c s1 _ (HZ2.out.below (below1 W2 (.cells #[.int .i64 13,.int .i64 14,.int .i64 15,.int .i64 16] 3))) (Nm5.bk (ks:=[13,14,15,16]) (Bk.new W2 #[.int .i64 13,.int .i64 14,.int .i64 15,.int .i64 16] 3) rfl (by decide)) (by decide))
  cases hr:tk5 c.T c.L [13,14,15,16] s1 with
  | error f=>
   rw [R5.and_err hr] at hR
   subst hR
   have HE2:=hm7 (P5P.err HTK.out hr)
   clear hr HTK
   go_wp2_with (go_at_call 85;refine HE2.out.mono ?_;rintro e W4 ⟨rfl,hf⟩;have HF4:=hm7 ((HF2.out.then (below1 _ _)).tr hf);clear hf)
   exact ⟨rfl,HF4.out,rfl⟩
  | ok p=>
   obtain ⟨⟨tk,tx,tn,ta,te⟩,s2⟩:=p
   rw [R5.and_ok hr] at hR
   have HE2:=hm7 (P5P.ok HTK.out hr)
   clear hr HTK
   go_upto_region 3 with (go_at_call 85;refine HE2.out.mono ?_;rintro e W3 ⟨v3,rfl,rfl,hz,hf⟩;have HZ4:=hm7 (hz.below (below1 W3 (.cells #[.int .i64 tk,.string tx,.int .i64 tn,.int .i64 ta,.int .i64 te] 64)));have HF4:=hm7 (((HF2.out.then (below1 _ _)).tr hf).then (below1 W3 (.cells #[.int .i64 tk,.string tx,.int .i64 tn,.int .i64 ta,.int .i64 te] 64)));have HQ4:=hm7 (((HR2.out.below (below1 _ _)).fr hf HN1.out).below (below1 W3 (.cells #[.int .i64 tk,.string tx,.int .i64 tn,.int .i64 ta,.int .i64 te] 64)));have HX4:=hm7 (((HX2.out.below (below1 _ _)).fr hf HXN.out.1).below (below1 W3 (.cells #[.int .i64 tk,.string tx,.int .i64 tn,.int .i64 ta,.int .i64 te] 64)));have HT4:=hm7 (Bk.new W3 #[.int .i64 tk,.string tx,.int .i64 tn,.int .i64 ta,.int .i64 te] 64);have hz3:=((HF2.out.then (below1 _ _)).tr hf).size;have hq3:q < W3.heap.size:=Nat.lt_of_lt_of_le (HR2.out.below (below1 _ _)).lt hf.size;clear hz hf)
   revert HZ4 HF4 HQ4 HX4 HT4
   generalize W3.alloc (.cells #[.int .i64 tk,.string tx,.int .i64 tn,.int .i64 ta,.int .i64 te] 64) = W4
   have HTN:Hid (¬ W5 c W3.heap.size /\ W3.heap.size ≠ q):=⟨HWB.out _ hz3,by omega⟩
   generalize W3.heap.size = tb at *
   intro HZ4 HF4 HQ4 HX4 HT4
   clear hq3 hz3 HE2
   have HBC:Hid (∀ Y:World,Fr (fun b=>W5 c b ∨ b = q) W4 Y -> Y.cell? ⟨xb,0,none⟩ = some (.int .i64 lk) /\ Y.cell? ⟨xb,1,none⟩ = some (.int .i64 ln) /\ Y.cell? ⟨xb,2,none⟩ = some (.string ls) /\ Y.cell? ⟨tb,0,none⟩ = some (.int .i64 tk)):=fun Y hY=>by
    have:=HX4.out.fr hY (fun e=>by rcases e with e | e;exact HXN.out.1 e;exact HXN.out.2 e)
    have h2:=HT4.out.fr hY (fun e=>by rcases e with e | e;exact HTN.out.1 e;exact HTN.out.2 e)
    exact ⟨this.cell (i:=0) rfl,this.cell (i:=1) rfl,this.cell (i:=2) rfl,h2.cell (i:=0) rfl⟩
   obtain ⟨ok,hok⟩:∃ o,op5 tk = o:=⟨_,rfl⟩
   have HOP:Hid (∀ X:World,PZ c X s2 -> Calls Tryz.prog 219 #[.int .i64 tk] X fun e w'=>e = .returned (.int .i64 ok) /\ Below X.heap.size X w'):=fun X hX=>by rw [<- hok];exact operator5_any tk X hX.o
   have hR2:((tm5 c.T c.L s2).and fun r s=>.ok (⟨ok,⟨lk,ln,ls⟩,r⟩,s)) = R:=by rw [<- hok];exact hR
   clear hR hok
   cases hr:tm5 c.T c.L s2 with
   | error f=>
     rw [R5.and_err hr] at hR2
     subst hR2
     have HT2:Hid (∀ X:World,PZ c X s2 -> Calls Tryz.prog 160 #[.pointer (some ⟨c.g,0,none⟩)] X fun e w'=>e = .panicked [pF f] /\ Fr (W5 c) X w'):=fun X hX=>P5P.err (HTM.out X s2 hX) hr
     clear hr HTM
     refine wp_region_held_drew (S:=fun w'=>Fr (fun b=>W5 c b ∨ b = q) W4 w') (by kernel_rfl) (by exact (Fr.refl _ _).drew) (fun hH=>?_)
     revert hH
     generalize hV0:W4.drew = V0
     intro hH
     have HVV:Hid (Below W4.heap.size W4 V0):=by show Below _ _ _;rw [<- hV0];exact below_drewN (Below.refl _ _) 1
     clear hV0
     have HZV:=hm7 (HZ4.out.below HVV.out)
     have HQV:=hm7 (HQ4.out.below HVV.out)
     refine wTl 0 (.pointer (some ⟨tb,0,none⟩)) rfl (by kernel_rfl) (fun _ _ _ h=>h) rfl (fun w' h=>by clear h;go_simp) hH ?_
     simp only [wA,wB,wC,wD]
     refine wTl 1 (.int .i64 tk) rfl (by kernel_rfl) (fun _ _ _ h=>h) rfl (fun w' h=>by have q0:=(HBC.out w' h).2.2.2;clear h;go_simp) hH ?_
     simp only [wA,wB,wC,wD]
     refine wTl 3 (.agg #[.int .i64 lk,.int .i64 ln,.string ls]) rfl (by kernel_rfl) (fun _ _ _ h=>h) rfl (fun w' h=>by obtain ⟨q0,q1,q2, -⟩:=HBC.out w' h;clear h;go_simp) hH ?_
     simp only [wA,wB,wC,wD]
     refine wTl 4 (.pointer (some ⟨c.g,0,none⟩)) rfl (by kernel_rfl) (fun _ _ _ h=>h) rfl (fun w' h=>by clear h;go_simp) hH ?_
     simp only [wA,wB,wC,wD]
     refine wRd 2 (by kernel_rfl) rfl (fun K hK=>?_)
     go_simp
     refine (HOP.out _ HZV.out).mono ?_
     rintro e U5 ⟨rfl,hb⟩
     have HZ5:=hm7 (HZV.out.below hb)
     have HB5:=hm7 (HVV.out.trans (hb.mono HVV.out.size))
     have HQ5:=hm7 (HQV.out.below hb)
     refine hK.out _ _ (hH.then hb) (fun hH=>?_)
     clear hK hb
     try simp only [wA,wB,wC,wD]
     refine wRd 5 (by kernel_rfl) rfl (fun K hK=>?_)
     go_simp
     refine (HT2.out _ HZ5.out).mono ?_
     rintro e U6 ⟨rfl,hf⟩
     refine ⟨rfl, ?_⟩
     exact ⟨(HF4.out.then HB5.out).tr hf,rfl⟩
   | ok p=>
     obtain ⟨⟨rk,rn,rs⟩,s3⟩:=p
     rw [R5.and_ok hr] at hR2
     subst hR2
     have HT2:Hid (∀ X:World,PZ c X s2 -> Calls Tryz.prog 160 #[.pointer (some ⟨c.g,0,none⟩)] X fun e w'=>∃ v,e = .returned v /\ v = Tm.v ⟨rk,rn,rs⟩ /\ PZ c w' s3 /\ Fr (W5 c) X w'):=fun X hX=>P5P.ok (HTM.out X s2 hX) hr
     clear hr HTM
     refine wp_region_held_drew (S:=fun w'=>Fr (fun b=>W5 c b ∨ b = q) W4 w') (by kernel_rfl) (by exact (Fr.refl _ _).drew) (fun hH=>?_)
     revert hH
     generalize hV0:W4.drew = V0
     intro hH
     have HVV:Hid (Below W4.heap.size W4 V0):=by show Below _ _ _;rw [<- hV0];exact below_drewN (Below.refl _ _) 1
     clear hV0
     have HZV:=hm7 (HZ4.out.below HVV.out)
     have HQV:=hm7 (HQ4.out.below HVV.out)
     refine wTl 0 (.pointer (some ⟨tb,0,none⟩)) rfl (by kernel_rfl) (fun _ _ _ h=>h) rfl (fun w' h=>by clear h;go_simp) hH ?_
     simp only [wA,wB,wC,wD]
     refine wTl 1 (.int .i64 tk) rfl (by kernel_rfl) (fun _ _ _ h=>h) rfl (fun w' h=>by have q0:=(HBC.out w' h).2.2.2;clear h;go_simp) hH ?_
     simp only [wA,wB,wC,wD]
     refine wTl 3 (.agg #[.int .i64 lk,.int .i64 ln,.string ls]) rfl (by kernel_rfl) (fun _ _ _ h=>h) rfl (fun w' h=>by obtain ⟨q0,q1,q2, -⟩:=HBC.out w' h;clear h;go_simp) hH ?_
     simp only [wA,wB,wC,wD]
     refine wTl 4 (.pointer (some ⟨c.g,0,none⟩)) rfl (by kernel_rfl) (fun _ _ _ h=>h) rfl (fun w' h=>by clear h;go_simp) hH ?_
     simp only [wA,wB,wC,wD]
     refine wRd 2 (by kernel_rfl) rfl (fun K hK=>?_)
     go_simp
     refine (HOP.out _ HZV.out).mono ?_
     rintro e U5 ⟨rfl,hb⟩
     have HZ5:=hm7 (HZV.out.below hb)
     have HB5:=hm7 (HVV.out.trans (hb.mono HVV.out.size))
     have HQ5:=hm7 (HQV.out.below hb)
     refine hK.out _ _ (hH.then hb) (fun hH=>?_)
     clear hK hb
     try simp only [wA,wB,wC,wD]
     refine wRd 5 (by kernel_rfl) rfl (fun K hK=>?_)
     go_simp
     refine (HT2.out _ HZ5.out).mono ?_
     rintro e U6 ⟨v6,rfl,hv6,hz,hf⟩
     have hv7:v6 = .agg #[.int .i64 rk,.int .i64 rn,.string rs]:=hv6
     subst hv7
     have HZ6:=hm7 hz
     have HF6:=hm7 ((HF4.out.then HB5.out).tr hf)
     have HQ6:=hm7 (HQ5.out.fr hf HN1.out)
     refine hK.out _ _ (hH.trans (Q:=W5 c) hf fun b _ e=>Or.inl e) (fun hH=>?_)
     clear hK hv6 hz hf
     try simp only [wA,wB,wC,wD]
     refine wTl 6 (.agg #[.int .i64 ok,.int .i64 lk,.int .i64 ln,.string ls,.int .i64 rk,.int .i64 rn,.string rs]) rfl (by kernel_rfl) (fun _ _ _ h=>h) rfl (fun w' h=>by clear h;go_simp) hH ?_
     simp only [wA,wB,wC,wD]
     have r0:=HQ6.out.cell (i:=0) rfl
     have r1:=HQ6.out.cell (i:=1) rfl
     have r2:=HQ6.out.cell (i:=2) rfl
     have r3:=HQ6.out.cell (i:=3) rfl
     have r4:=HQ6.out.cell (i:=4) rfl
     have r5:=HQ6.out.cell (i:=5) rfl
     have r6:=HQ6.out.cell (i:=6) rfl
     have f0:=HQ6.out.froz 0
     have f1:=HQ6.out.froz 1
     have f2:=HQ6.out.froz 2
     have f3:=HQ6.out.froz 3
     have f4:=HQ6.out.froz 4
     have f5:=HQ6.out.froz 5
     have f6:=HQ6.out.froz 6
     have hrl:=HQ6.out.lt
     refine wRd 7 (by kernel_rfl) rfl (fun K hK=>?_)
     go_simp
     refine hK.out _ _ (((((((hH.set (Or.inl (Or.inr rfl))).set (Or.inl (Or.inr rfl))).set (Or.inl (Or.inr rfl))).set (Or.inl (Or.inr rfl))).set (Or.inl (Or.inr rfl))).set (Or.inl (Or.inr rfl))).set (Or.inl (Or.inr rfl))) (fun hH=>?_)
     clear hK hH
     try simp only [wA,wB,wC,wD]
     refine wpAnyH_done (by kernel_rfl) ?_ _
     clear r0 r1 r2 r3 r4 r5 r6 f0 f1 f2 f3 f4 f5 f6 hrl
     have HRZ:=hm7 (store7y HQ6.out (a:=.int .i64 ok) (b:=.int .i64 lk) (c:=.int .i64 ln) (d:=.string ls) (e:=.int .i64 rk) (f:=.int .i64 rn) (k:=.string rs))
     have z0:=HRZ.out.cell (i:=0) rfl
     have z1:=HRZ.out.cell (i:=1) rfl
     have z2:=HRZ.out.cell (i:=2) rfl
     have z3:=HRZ.out.cell (i:=3) rfl
     have z4:=HRZ.out.cell (i:=4) rfl
     have z5:=HRZ.out.cell (i:=5) rfl
     have z6:=HRZ.out.cell (i:=6) rfl
     have HZ7:=hm7 (((((((HZ6.out.off (i:=0) (v:=.int .i64 ok) HN2.out).off (i:=1) (v:=.int .i64 lk) HN2.out).off (i:=2) (v:=.int .i64 ln) HN2.out).off (i:=3) (v:=.string ls) HN2.out).off (i:=4) (v:=.int .i64 rk) HN2.out).off (i:=5) (v:=.int .i64 rn) HN2.out).off (i:=6) (v:=.string rs) HN2.out)
     have HF7:=hm7 (((((((HF6.out.set (i:=0) (v:=.int .i64 ok) (Or.inr HQW.out)).set (i:=1) (v:=.int .i64 lk) (Or.inr HQW.out)).set (i:=2) (v:=.int .i64 ln) (Or.inr HQW.out)).set (i:=3) (v:=.string ls) (Or.inr HQW.out)).set (i:=4) (v:=.int .i64 rk) (Or.inr HQW.out)).set (i:=5) (v:=.int .i64 rn) (Or.inr HQW.out)).set (i:=6) (v:=.string rs) (Or.inr HQW.out))
     try go_wp2
     refine bodyPost_ret (v:=.agg #[.int .i64 ok,.int .i64 lk,.int .i64 ln,.string ls,.int .i64 rk,.int .i64 rn,.string rs]) (by simp [results,Tryz.results218,go_sem,z0,z1,z2,z3,z4,z5,z6]) rfl ?_
     exact ⟨HF7.out,_,rfl,rfl,HZ7.out⟩
def ba5 (T:List Tk) (s:Ps):Bool:=if kd5 T s 0 = 1 then decide (op5 (kd5 T s 1) = 0) else if kd5 T s 0 = 3 ∨ kd5 T s 0 = 2 then decide (kd5 T s 1 = 5) else false
set_option maxRecDepth 20000 in
set_option maxHeartbeats 2000000 in
theorem begins5_any (c:Pk) (s:Ps) (w:World) (h:PZ c w s) :
  Calls Tryz.prog 217 #[.pointer (some ⟨c.g,0,none⟩)] w fun e w'=>e = .returned (.bool (ba5 c.T s)) /\ Below w.heap.size w w':=by
 have HK0:=hm7 (kind5_0 c s w h)
 have HK1:Hid (∀ X:World,Below w.heap.size w X -> Calls Tryz.prog 124 #[.pointer (some ⟨c.g,0,none⟩),.int .i64 1] X fun e w'=>e = .returned (.int .i64 (kd5 c.T s 1)) /\ Below X.heap.size X w'):=fun X hX=>kind5_1 c s X (h.below hX)
 have HOP:Hid (∀ (k:Int) (X:World),Below w.heap.size w X -> Calls Tryz.prog 219 #[.int .i64 k] X fun e w'=>e = .returned (.int .i64 (op5 k)) /\ Below X.heap.size X w'):=fun k X hX=>operator5_any k X (h.below hX).o
 unfold ba5
 obtain ⟨k0,hk0⟩:∃ k,kd5 c.T s 0 = k:=⟨_,rfl⟩
 obtain ⟨k1,hk1⟩:∃ k,kd5 c.T s 1 = k:=⟨_,rfl⟩
 rw [hk0] at HK0
 rw [hk1] at HK1
 rw [hk0,hk1]
 clear h hk0 hk1
 by_cases e1:k0 = 1
 ·subst e1
  rw [if_pos rfl]
  obtain ⟨ok,hok⟩:∃ o,op5 k1 = o:=⟨_,rfl⟩
  have HO1:Hid (∀ X:World,Below w.heap.size w X -> Calls Tryz.prog 219 #[.int .i64 k1] X fun e w'=>e = .returned (.int .i64 ok) /\ Below X.heap.size X w'):=fun X hX=>by rw [<- hok];exact HOP.out k1 X hX
  rw [hok]
  clear hok HOP
  by_cases e2:ok = 0
  ·subst e2
   go_enter Tryz.func217,Tryz.ntmps217
   go_wp2_with (first
    | (go_at_call 124;refine HK0.out.mono ?_;rintro e W1 ⟨rfl,hb⟩;have HB1:=hm7 hb;clear hb HK0)
    | (go_at_call 124;refine (HK1.out _ HB1.out).mono ?_;rintro e W2 ⟨rfl,hb⟩;have HB2:=hm7 (HB1.out.trans (hb.mono HB1.out.size));clear hb HK1)
    | (go_at_call 219;refine (HO1.out _ HB2.out).mono ?_;rintro e W3 ⟨rfl,hb⟩;have HB3:=hm7 (HB2.out.trans (hb.mono HB2.out.size));clear hb))
   go_ret
   exact ⟨rfl,HB3.out⟩
  ·have e3:(ok == 0) = false:=by simp [e2]
   rw [decide_eq_false e2]
   go_enter Tryz.func217,Tryz.ntmps217
   go_wp2_with (first
    | (go_at_call 124;refine HK0.out.mono ?_;rintro e W1 ⟨rfl,hb⟩;have HB1:=hm7 hb;clear hb HK0)
    | (go_at_call 124;refine (HK1.out _ HB1.out).mono ?_;rintro e W2 ⟨rfl,hb⟩;have HB2:=hm7 (HB1.out.trans (hb.mono HB1.out.size));clear hb HK1)
    | (go_at_call 219;refine (HO1.out _ HB2.out).mono ?_;rintro e W3 ⟨rfl,hb⟩;have HB3:=hm7 (HB2.out.trans (hb.mono HB2.out.size));clear hb))
   go_ret
   exact ⟨rfl,HB3.out⟩
 ·rw [if_neg e1]
  have e1':(k0 == 1) = false:=by simp [e1]
  clear HOP
  by_cases e2:k0 = 3 ∨ k0 = 2
  ·rw [if_pos e2]
   by_cases e5:k1 = 5
   ·subst e5
    rcases e2 with rfl | rfl
    all_goals
     go_enter Tryz.func217,Tryz.ntmps217
     go_wp2_with (first
      | (go_at_call 124;refine HK0.out.mono ?_;rintro e W1 ⟨rfl,hb⟩;have HB1:=hm7 hb;clear hb HK0)
      | (go_at_call 124;refine (HK1.out _ HB1.out).mono ?_;rintro e W2 ⟨rfl,hb⟩;have HB2:=hm7 (HB1.out.trans (hb.mono HB1.out.size));clear hb HK1))
     go_ret
     exact ⟨rfl,HB2.out⟩
   ·have e5':(k1 == 5) = false:=by simp [e5]
    rw [decide_eq_false e5]
    rcases e2 with rfl | rfl
    all_goals
     go_enter Tryz.func217,Tryz.ntmps217
     go_wp2_with (first
      | (go_at_call 124;refine HK0.out.mono ?_;rintro e W1 ⟨rfl,hb⟩;have HB1:=hm7 hb;clear hb HK0)
      | (go_at_call 124;refine (HK1.out _ HB1.out).mono ?_;rintro e W2 ⟨rfl,hb⟩;have HB2:=hm7 (HB1.out.trans (hb.mono HB1.out.size));clear hb HK1))
     go_ret
     exact ⟨rfl,HB2.out⟩
  ·rw [if_neg e2]
   have e3:(k0 == 3) = false:=by simp;omega
   have e4:(k0 == 2) = false:=by simp;omega
   go_enter Tryz.func217,Tryz.ntmps217
   go_wp2_with (go_at_call 124;refine HK0.out.mono ?_;rintro e W1 ⟨rfl,hb⟩;have HB1:=hm7 hb;clear hb HK0)
   go_ret
   exact ⟨rfl,HB1.out⟩
end Go.Proofs.YtcpjiahdaplhlaaGreatDoor

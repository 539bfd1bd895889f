import Derived.Test.YtcpjiahdaplhlaaGreatDoorSY10
namespace Go.Proofs.YtcpjiahdaplhlaaGreatDoor
open Go.RowKit
attribute [local go_sem ↓] Go.wp_at_zero Go.wp_at_succ
def LI (f:Nat) (F:Nat -> Prop) (w:World) (x:List Value × List (List Lv5)):Prop:=LiM F w f x.1 x.2
theorem LI.fr {f:Nat} {F Q:Nat -> Prop} {w w':World} {x:List Value × List (List Lv5)} (h:LI f F w x) (hf:Fr Q w w') (hQ:∀ b,F b -> ¬ Q b):LI f F w' x:=LiM.fr hf hQ f _ _ h
theorem LI.below {f:Nat} {F:Nat -> Prop} {w w':World} {x:List Value × List (List Lv5)} (h:LI f F w x) (hb:Below w.heap.size w w'):LI f F w' x:=h.fr (Q:=fun _=>False) (Fr.of hb) fun _ _ h=>h
theorem LI.mono {f:Nat} {F G:Nat -> Prop} {w:World} {x:List Value × List (List Lv5)} (h:LI f F w x) (hG:∀ b,b < w.heap.size -> F b -> G b):LI f G w x:=LiM.mono hG f _ _ h
def CI (f:Nat) (F:Nat -> Prop) (w:World) (x:(Value × Nat) × List (List Lv5)):Prop:=CjM F (LiM F w f) w x.1.1 x.1.2 x.2
theorem CI.fr {f:Nat} {F Q:Nat -> Prop} {w w':World} {x:(Value × Nat) × List (List Lv5)} (h:CI f F w x) (hf:Fr Q w w') (hQ:∀ b,F b -> ¬ Q b):CI f F w' x:=CjM.fr h hf hQ fun cs m h=>LiM.fr hf hQ f cs m h
theorem CI.below {f:Nat} {F:Nat -> Prop} {w w':World} {x:(Value × Nat) × List (List Lv5)} (h:CI f F w x) (hb:Below w.heap.size w w'):CI f F w' x:=h.fr (Q:=fun _=>False) (Fr.of hb) fun _ _ h=>h
theorem CI.mono {f:Nat} {F G:Nat -> Prop} {w:World} {x:(Value × Nat) × List (List Lv5)} (h:CI f F w x) (hG:∀ b,b < w.heap.size -> F b -> G b):CI f G w x:=CjM.mono h hG fun cs m h=>LiM.mono hG f cs m h
def VL (f:Nat) (w:World) (m:List (List Lf5)) (v:Value) (w':World):Prop:=∃ x:List Value × List (List Lv5),v = .agg x.1.toArray /\ m = er5 x.2 /\ LI f (fun b=>w.heap.size <= b) w' x
def LitOk (f:Nat):Prop:=∀ (c:Pk) (s:Ps) (w:World),PZ c w s -> 17 <= s.op + f -> Calls Tryz.prog 206 #[.pointer (some ⟨c.g,0,none⟩)] w (P5P c w (VL f w) (lit5 c.T c.L f s))
def VC (f:Nat) (w:World) (m:List (List Lf5)) (v:Value) (w':World):Prop:=∃ x:(Value × Nat) × List (List Lv5),v = .agg #[x.1.1,.int .i64 (x.1.2:Int)] /\ m = er5 x.2 /\ CI f (fun b=>w.heap.size <= b) w' x
def ConjOk (f:Nat):Prop:=∀ (c:Pk) (s:Ps) (w:World),PZ c w s -> 17 <= s.op + f -> Calls Tryz.prog 188 #[.pointer (some ⟨c.g,0,none⟩)] w (P5P c w (VC f w) (conjOf5 (lit5 c.T c.L f) c.T c.L s))
theorem Tryz.infoLit5:(Tryz.prog.info? 201).map (fun i=>(i.zero,i.size,i.bytes)) = some (some (.agg #[.int .i64 0,.int .i64 0,.int .i64 0,.string ⟨#[]⟩,.string ⟨#[]⟩,.slice none 0 0,.int .i64 0,.int .i64 0,.int .i64 0,.string ⟨#[]⟩,.int .i64 0,.int .i64 0,.string ⟨#[]⟩,.slice none 0 0,.int .i64 0]),15,184):=by kernel_rfl
theorem Tryz.infoConj5:(Tryz.prog.info? 170).map (fun i=>(i.zero,i.size,i.bytes)) = some (some (.agg #[.slice none 0 0,.int .i64 0]),2,32):=by kernel_rfl
theorem row_one5 {w:World} {b base n:Nat} {e:TypeId} {y:Array Value} (h:Bk w b y e) (hb:base <= b) (hy:y.size = n):w.ownsRow base e n (.slice (some ⟨b,0,none⟩) 1 1) 1 y.toList:=
 ⟨by simp [hy],Or.inr ⟨b,1,y,rfl,hb,h,Nat.le_refl _,by unfold maxLen;omega,by rw [Nat.one_mul];exact hy,by rw [Nat.one_mul];exact (List.take_of_length_le (by rw [Array.length_toList,hy];exact Nat.le_refl _))⟩⟩
def VLs (f:Nat) (w:World) (ms:List (List (List Lf5))) (v:Value) (w':World):Prop:=∃ xs:List (List Value × List (List Lv5)),ms = xs.map (fun x=>er5 x.2) /\ (∀ x ∈ xs,LI f (fun b=>w.heap.size <= b) w' x) /\ w'.ownsRow w.heap.size 201 15 v xs.length (xs.flatMap Prod.fst) /\ xs.length <= 3000000
set_option maxRecDepth 20000 in
set_option maxHeartbeats 4000000 in
theorem listL5_any (f:Nat) (hL:LitOk f) (c:Pk) (s:Ps) (w:World) (h:PZ c w s) (hop:17 <= s.op + f) :
  Calls Tryz.prog 205 #[.pointer (some ⟨c.g,0,none⟩),.func (.func 206) #[.pointer (some ⟨c.g,0,none⟩)] #[],.int .i64 8] w (P5P c w (VLs f w) (list5 (lit5 c.T c.L f) c.T c.L 8 s)):=by
 have hT:=h.ok.l
 have hNw:=h.Nw
 have HTM:Hid (∀ (X:World) (s':Ps),PZ c X s' -> s'.op = s.op -> Calls Tryz.prog 206 #[.pointer (some ⟨c.g,0,none⟩)] X (P5P c X (VL f X) (lit5 c.T c.L f s'))):=fun X s' hX he=>hL c s' X hX (by rw [he];exact hop)
 have HKD:Hid (∀ (X:World) (s:Ps),PZ c X s -> Calls Tryz.prog 124 #[.pointer (some ⟨c.g,0,none⟩),.int .i64 0] X fun e w'=>e = .returned (.int .i64 (kd5 c.T s 0)) /\ Below X.heap.size X w'):=fun X s hX=>kind5_0 c s X hX
 have HWB:Hid (∀ b,w.heap.size <= b -> ¬ W5 c b):=fun b hb=>(h.nw hb).1
 have HGO:Hid (Goes (lit5 c.T c.L f)):=goes_lit c.T c.L f
 obtain ⟨R,hR⟩:∃ R,list5 (lit5 c.T c.L f) c.T c.L 8 s = R:=⟨_,rfl⟩
 rw [hR]
 unfold list5 at hR
 have h1:=HTM.out w s h rfl
 cases hr:lit5 c.T c.L f s with
 | error e0=>
  have HE:=hm7 (P5P.err h1 hr)
  rw [hr] at hR
  subst hR
  clear h1 hr h
  show Calls _ _ _ _ (P5P c w _ (.error e0))
  go_enter Tryz.func205,Tryz.ntmps205
  go_wp2_with (go_at_call 206;refine HE.out.mono ?_;rintro e W1 ⟨rfl,hf⟩)
  exact ⟨rfl,hf,rfl⟩
 | ok p=>
  obtain ⟨m0,s1⟩:=p
  have HE:=hm7 (P5P.ok h1 hr)
  rw [hr] at hR
  have HR:=hm7 (show ls5 (lit5 c.T c.L f) c.T c.L 8 (c.T.length + 1) [m0] s1 = R from hR)
  have HS1:=hm7 (HGO.out s m0 s1 hr)
  have HNW:=hm7 hNw
  clear h1 hr h hR hNw
  go_enter Tryz.func205,Tryz.ntmps205
  go_upto_region 2 with (go_at_call 206;refine HE.out.mono ?_;rintro e W1 ⟨v1,rfl,⟨x0,rfl,hm0,hx0⟩,hz,hf⟩;obtain ⟨x1,x2⟩:=x0;obtain ⟨k0,bk,bn,bs,nm,ya,yn,yc,op,lk,ln,ls,rk,rn,rs,va,vn,vc,N0,hx1⟩:=LiM.shape hx0;dsimp only at hx1;subst hx1;have HZ1:=hm7 (hz.below (below1 W1 (.cells #[.int .i64 k0,.int .i64 bk,.int .i64 bn,.string bs,.string nm,.slice ya yn yc,.int .i64 op,.int .i64 lk,.int .i64 ln,.string ls,.int .i64 rk,.int .i64 rn,.string rs,.slice va vn vc,.int .i64 N0] 201)));have HF1:=hm7 (hf.then (below1 W1 (.cells #[.int .i64 k0,.int .i64 bk,.int .i64 bn,.string bs,.string nm,.slice ya yn yc,.int .i64 op,.int .i64 lk,.int .i64 ln,.string ls,.int .i64 rk,.int .i64 rn,.string rs,.slice va vn vc,.int .i64 N0] 201)));have HO1:=hm7 (row_one5 (base:=w.heap.size) (Bk.new W1 #[.int .i64 k0,.int .i64 bk,.int .i64 bn,.string bs,.string nm,.slice ya yn yc,.int .i64 op,.int .i64 lk,.int .i64 ln,.string ls,.int .i64 rk,.int .i64 rn,.string rs,.slice va vn vc,.int .i64 N0] 201) hf.size (n:=15) rfl);have HI1:=hm7 ((hx0.mono (G:=fun b=>w.heap.size <= b /\ b ≠ W1.heap.size) fun b hb hw=>⟨hw,by omega⟩).below (below1 W1 (.cells #[.int .i64 k0,.int .i64 bk,.int .i64 bn,.string bs,.string nm,.slice ya yn yc,.int .i64 op,.int .i64 lk,.int .i64 ln,.string ls,.int .i64 rk,.int .i64 rn,.string rs,.slice va vn vc,.int .i64 N0] 201)));have HM0:=hm7 hm0;clear hz hf hx0 hm0)
  go_wp2
  go_loopg [7] (c.T.length + 1) (fun fu u wr=>∃ (xs:List (List Value × List (List Lv5))) (s2:Ps),ls5 (lit5 c.T c.L f) c.T c.L 8 fu (xs.map fun x=>er5 x.2) s2 = R /\ c.T.length < s2.nx + fu /\ xs.length <= s2.nx + 1 /\ s2.op = s.op /\ wr.ownsRow w.heap.size 201 15 u xs.length (xs.flatMap Prod.fst) /\ (∀ x ∈ xs,LI f (fun b=>w.heap.size <= b /\ u.ownBlock ≠ some b) wr x) /\ PZ c wr s2 /\ Fr (W5 c) w wr)
  case atStart=>
   refine ⟨[([.int .i64 k0,.int .i64 bk,.int .i64 bn,.string bs,.string nm,.slice ya yn yc,.int .i64 op,.int .i64 lk,.int .i64 ln,.string ls,.int .i64 rk,.int .i64 rn,.string rs,.slice va vn vc,.int .i64 N0],x2)],s1, ?_,by omega,by simp,HS1.out.1, ?_, ?_,HZ1.out,HF1.out⟩
   ·have:=HR.out;rw [HM0.out] at this;exact this
   ·have:=HO1.out;simpa using this
   ·intro x hx
    rw [List.mem_singleton.1 hx]
    refine HI1.out.mono fun b _ hb=>⟨hb.1,fun e=>hb.2 ?_⟩
    exact (Option.some.inj e).symm
  case round=>
   obtain ⟨xs,s2,hls,hfl,hal,hop2,ho,hxi,hz,hf⟩:=hrel
   have HLS:=hm7 hls
   have HAL:=hm7 hal
   have HO:=hm7 ho
   have HLI:=hm7 hxi
   have HZ:=hm7 hz
   have HF:=hm7 hf
   have HOP:=hm7 hop2
   have hle:=hz.le
   have hsz:=hf.size
   clear hls hal ho hz hf HR HZ1 HF1 HO1 HI1 hxi hop2 HM0 HE HS1
   obtain ⟨ua,uc,huf, -⟩:=row7_form HO.out
   obtain ⟨an,han⟩:∃ n,xs.length = n:=⟨_,rfl⟩
   rw [han] at huf
   have HAN:=hm7 han
   have HOW:Hid (wr.ownsRow w.heap.size 201 15 u7 an (xs.flatMap Prod.fst)):=by have:=HO.out;rw [han] at this;exact this
   subst huf
   have han2:an <= 2000001:=by have:=HAL.out;omega
   clear han
   cases gk with
   | zero=>omega
   | succ fu=>
    have HK:=hm7 (HKD.out wr s2 HZ.out)
    by_cases hk:kd5 c.T s2 0 = 8
    ·obtain ⟨t0,ht0,htk,hlt⟩:=kd5_some (L:=c.L) hk (by decide)
     have HTK:Hid (∀ X:World,Below wr.heap.size wr X -> Calls Tryz.prog 85 #[.pointer (some ⟨c.g,0,none⟩),.slice (some ⟨X.heap.size,0,none⟩) 1 1] (X.alloc (.cells #[.int .i64 8] 3)) fun e w'=>∃ v,e = .returned v /\ v = t0.v /\ PZ c w' ⟨s2.nx + 1,s2.op,s2.vs,s2.nm⟩ /\ Fr (W5 c) (X.alloc (.cells #[.int .i64 8] 3)) w'):=fun X hX=>
      P5P.ok (take5_any [8] (.slice (some ⟨X.heap.size,0,none⟩) 1 1) c s2 _ ((HZ.out.below hX).below (below1 _ _)) (Nm5.bk (ks:=[8]) (Bk.new X #[.int .i64 8] 3) rfl (by decide)) (by decide)) htk
     have hls2:=HLS.out
     unfold ls5 at hls2
     rw [if_pos hk,htk] at hls2
     rw [hk] at HK
     have HL2:=hm7 (show ((lit5 c.T c.L f ⟨s2.nx + 1,s2.op,s2.vs,s2.nm⟩).and fun a s=>ls5 (lit5 c.T c.L f) c.T c.L 8 fu ((xs.map fun x=>er5 x.2) ++ [a]) s) = R from hls2)
     clear hls2 htk ht0
     obtain ⟨tk0,tx0,tn0,ta0,te0⟩:=t0
     cases hr2:lit5 c.T c.L f ⟨s2.nx + 1,s2.op,s2.vs,s2.nm⟩ with
     | error f2=>
      have HR2:Hid (R = .error f2):=by have:=HL2.out;rw [hr2] at this;exact this.symm
      have HE2:Hid (∀ X:World,PZ c X ⟨s2.nx + 1,s2.op,s2.vs,s2.nm⟩ -> Calls Tryz.prog 206 #[.pointer (some ⟨c.g,0,none⟩)] X fun e w'=>e = .panicked [pF f2] /\ Fr (W5 c) X w'):=fun X hX=>P5P.err (HTM.out X _ hX HOP.out) hr2
      clear hr2 HL2 HLS
      go_wp2_with (first
       | (go_at_call 124;refine HK.out.mono ?_;rintro e W2 ⟨rfl,hb⟩;have HB2:=hm7 hb;clear hb)
       | (go_at_call 85;refine (HTK.out _ HB2.out).mono ?_;rintro e W3 ⟨v3,rfl,rfl,hz,hf⟩;have HZ3:=hm7 hz;have HF3:=hm7 (((HF.out.then HB2.out).then (below1 _ _)).tr hf);clear hz hf)
       | (go_at_call 206;refine (HE2.out _ HZ3.out).mono ?_;rintro e W4 ⟨rfl,hf⟩;have HF4:=hm7 (HF3.out.tr hf);clear hf))
      refine ⟨rfl, ?_⟩
      rw [HR2.out]
      exact ⟨HF4.out,rfl⟩
     | ok p2=>
      obtain ⟨m3,s3⟩:=p2
      have HR3:Hid (ls5 (lit5 c.T c.L f) c.T c.L 8 fu ((xs.map fun x=>er5 x.2) ++ [m3]) s3 = R):=by have:=HL2.out;rw [hr2] at this;exact this
      have HE2:Hid (∀ X:World,PZ c X ⟨s2.nx + 1,s2.op,s2.vs,s2.nm⟩ -> Calls Tryz.prog 206 #[.pointer (some ⟨c.g,0,none⟩)] X fun e w'=>∃ v,e = .returned v /\ VL f X m3 v w' /\ PZ c w' s3 /\ Fr (W5 c) X w'):=fun X hX=>P5P.ok (HTM.out X _ hX HOP.out) hr2
      have HN3:Hid (s3.op = s2.op /\ s2.nx + 1 <= s3.nx):=HGO.out _ m3 s3 hr2
      clear hr2 HL2 HLS
      go_upto_region 4 with (first
       | (go_at_call 124;refine HK.out.mono ?_;rintro e W2 ⟨rfl,hb⟩;have HB2:=hm7 hb;clear hb)
       | (go_at_call 85;refine (HTK.out _ HB2.out).mono ?_;rintro e W3 ⟨v3,rfl,rfl,hz,hf⟩;have HZ3:=hm7 hz;have HF3:=hm7 (((HF.out.then HB2.out).then (below1 _ _)).tr hf);have HO3:=hm7 (row7_fr (row7_below (row7_below HOW.out HB2.out) (below1 _ _)) hf fun b hb=>HWB.out b (World.ownsRow.lt HOW.out b hb).1);have HI3:Hid (∀ x ∈ xs,LI f (fun b=>w.heap.size <= b /\ (Value.slice ua an uc).ownBlock ≠ some b) W3 x):=fun x hx=>(((HLI.out x hx).below HB2.out).below (below1 _ _)).fr hf fun b hb=>HWB.out b hb.1;clear hz hf))
      go_wp2_with (first
       | (go_at_call 206;refine (HE2.out _ HZ3.out).mono ?_;rintro e W4 ⟨v4,rfl,⟨x0,rfl,hm0,hx0⟩,hz,hf⟩;obtain ⟨x1,x2⟩:=x0;obtain ⟨k0,bk,bn,bs,nm,ya,yn,yc,op,lk,ln,ls,rk,rn,rs,va,vn,vc,N0,hx1⟩:=LiM.shape hx0;dsimp only at hx1;subst hx1;have HZ4:=hm7 (hz.below (below1 W4 (.cells #[.int .i64 k0,.int .i64 bk,.int .i64 bn,.string bs,.string nm,.slice ya yn yc,.int .i64 op,.int .i64 lk,.int .i64 ln,.string ls,.int .i64 rk,.int .i64 rn,.string rs,.slice va vn vc,.int .i64 N0] 201)));have HF4:=hm7 ((HF3.out.tr hf).then (below1 W4 (.cells #[.int .i64 k0,.int .i64 bk,.int .i64 bn,.string bs,.string nm,.slice ya yn yc,.int .i64 op,.int .i64 lk,.int .i64 ln,.string ls,.int .i64 rk,.int .i64 rn,.string rs,.slice va vn vc,.int .i64 N0] 201)));have HO4:=hm7 (row7_below (row7_fr HO3.out hf fun b hb=>HWB.out b (World.ownsRow.lt HO3.out b hb).1) (below1 W4 (.cells #[.int .i64 k0,.int .i64 bk,.int .i64 bn,.string bs,.string nm,.slice ya yn yc,.int .i64 op,.int .i64 lk,.int .i64 ln,.string ls,.int .i64 rk,.int .i64 rn,.string rs,.slice va vn vc,.int .i64 N0] 201)));have HI4:Hid (∀ x ∈ xs,LI f (fun b=>w.heap.size <= b /\ (Value.slice ua an uc).ownBlock ≠ some b) W4 x):=fun x hx=>(HI3.out x hx).fr hf fun b hb=>HWB.out b hb.1;have HN4:=hm7 (hx0.mono (G:=fun b=>w.heap.size <= b /\ (Value.slice ua an uc).ownBlock ≠ some b) fun b hb hw=>⟨Nat.le_trans HF3.out.size hw,fun e=>by have:=(World.ownsRow.lt HO3.out b e).2;omega⟩);have HM0:=hm7 hm0;have hz4:=(HF3.out.tr hf).size;clear hz hf hx0 hm0)
       | (at_builtin;refine gapp5 Tryz.underlying168 Tryz.infoLit5 rfl (by decide) (by decide) rfl _ _ rfl w.heap.size (.slice ua an uc) an (xs.flatMap Prod.fst) rfl HO4.out W4.heap.size #[.int .i64 k0,.int .i64 bk,.int .i64 bn,.string bs,.string nm,.slice ya yn yc,.int .i64 op,.int .i64 lk,.int .i64 ln,.string ls,.int .i64 rk,.int .i64 rn,.string rs,.slice va vn vc,.int .i64 N0] rfl (Bk.new _ _ _) rfl (by simp [Value.oneCell']) (by omega) (by simp;omega) ?_;intro g5 q5 w5 ho5 hg5 hv5 hl5;have HO5:=hm7 ho5;have HG5:=hm7 hg5;have HV5:=hm7 hv5;clear ho5 hg5 hv5 hl5))
      have HGF:Hid (Fr (fun b=>w.heap.size <= b) (W4.alloc (.cells #[.int .i64 k0,.int .i64 bk,.int .i64 bn,.string bs,.string nm,.slice ya yn yc,.int .i64 op,.int .i64 lk,.int .i64 ln,.string ls,.int .i64 rk,.int .i64 rn,.string rs,.slice va vn vc,.int .i64 N0] 201)) w5):=Fr.grown HG5.out fun b hb=>(World.ownsRow.lt HO4.out b hb).1
      have HGW:Hid (Fr (fun b=>(Value.slice ua an uc).ownBlock = some b) (W4.alloc (.cells #[.int .i64 k0,.int .i64 bk,.int .i64 bn,.string bs,.string nm,.slice ya yn yc,.int .i64 op,.int .i64 lk,.int .i64 ln,.string ls,.int .i64 rk,.int .i64 rn,.string rs,.slice va vn vc,.int .i64 N0] 201)) w5):=Fr.grown HG5.out fun b hb=>hb
      have HZ5:=hm7 (HZ4.out.fr HGF.out fun b hb e=>by have:=HNW.out;omega)
      have HF5:=hm7 (HF4.out.trans HGF.out fun b hb e=>by omega)
      have HI5:Hid (∀ x,LI f (fun b=>w.heap.size <= b /\ (Value.slice ua an uc).ownBlock ≠ some b) W4 x -> LI f (fun b=>w.heap.size <= b /\ (Value.slice (some ⟨g5,0,none⟩) (an + 1) q5).ownBlock ≠ some b) w5 x):=fun x hx=>by
       have h1:=(hx.mono (G:=fun b=>w.heap.size <= b /\ (Value.slice ua an uc).ownBlock ≠ some b /\ b ≠ W4.heap.size) fun b hb hw=>⟨hw.1,hw.2,by omega⟩).below (below1 W4 (.cells #[.int .i64 k0,.int .i64 bk,.int .i64 bn,.string bs,.string nm,.slice ya yn yc,.int .i64 op,.int .i64 lk,.int .i64 ln,.string ls,.int .i64 rk,.int .i64 rn,.string rs,.slice va vn vc,.int .i64 N0] 201))
       have h2:=h1.mono (G:=fun b=>(w.heap.size <= b /\ (Value.slice (some ⟨g5,0,none⟩) (an + 1) q5).ownBlock ≠ some b) /\ (Value.slice ua an uc).ownBlock ≠ some b) fun b hb hw=>⟨⟨hw.1,fun e=>by
        have e1:g5 = b:=Option.some.inj e
        rcases HV5.out with e2 | e2
        ·exact hw.2.1 (by rw [<- e1];exact e2)
        ·omega⟩,hw.2.1⟩
       exact (h2.fr HGW.out fun b hb=>hb.2).mono fun b _ hb=>hb.1
      try go_wp2
      go_roundg fu
      case measure=>omega
      case rel=>
       refine ⟨xs ++ [([.int .i64 k0,.int .i64 bk,.int .i64 bn,.string bs,.string nm,.slice ya yn yc,.int .i64 op,.int .i64 lk,.int .i64 ln,.string ls,.int .i64 rk,.int .i64 rn,.string rs,.slice va vn vc,.int .i64 N0],x2)],s3, ?_,by have:=HN3.out.2;omega,by have:=HN3.out.2;have:=HAL.out;rw [List.length_append,List.length_singleton];omega,HN3.out.1.trans HOP.out, ?_, ?_,HZ5.out,HF5.out⟩
       ·have:=HR3.out;rw [HM0.out] at this;rw [List.map_append];exact this
       ·rw [List.length_append,List.length_singleton,HAN.out,List.flatMap_append];have:=HO5.out;simpa using this
       ·intro x hx
        rcases List.mem_append.1 hx with hx | hx
        ·exact HI5.out x (HI4.out x hx)
        ·rw [List.mem_singleton.1 hx];exact HI5.out _ HN4.out
    ·have hR2:=HLS.out
     unfold ls5 at hR2
     rw [if_neg hk] at hR2
     obtain ⟨kk,hkk⟩:∃ kk,kd5 c.T s2 0 = kk:=⟨_,rfl⟩
     rw [hkk] at HK hk
     have hk2:(kk == 8) = false:=by simp [hk]
     have HR2:=hm7 hR2
     clear hR2 hkk HLS
     go_wp2_with (go_at_call 124;refine HK.out.mono ?_;rintro e W2 ⟨rfl,hb⟩;have HB2:=hm7 hb;clear hb)
     go_ret
     rw [<- HR2.out]
     exact ⟨HF.out.then HB2.out,_,rfl,⟨xs,rfl,fun x hx=>((HLI.out x hx).below HB2.out).mono fun b _ hb=>hb.1,by rw [HAN.out];exact row7_below HOW.out HB2.out,by have:=HAN.out;omega⟩,HZ.out.below HB2.out⟩
end Go.Proofs.YtcpjiahdaplhlaaGreatDoor
namespace Go.Proofs.YtcpjiahdaplhlaaGreatDoor
open Go.RowKit
attribute [local go_sem ↓] Go.wp_at_zero Go.wp_at_succ
theorem CI.form {f:Nat} {F:Nat -> Prop} {w:World} {x:(Value × Nat) × List (List Lv5)} (h:CI f F w x):∃ a n c,x.1.1 = .slice a n c:=by
 obtain ⟨xs, -,h2, -⟩:=h
 obtain ⟨a,c,e, -⟩:=row7_form h2.1
 exact ⟨a,_,c,e⟩
def VCs (f:Nat) (w:World) (ms:List (List (List Lf5))) (v:Value) (w':World):Prop:=∃ xs:List ((Value × Nat) × List (List Lv5)),ms = xs.map (fun x=>er5 x.2) /\ (∀ x ∈ xs,CI f (fun b=>w.heap.size <= b) w' x) /\ w'.ownsRow w.heap.size 170 2 v xs.length (xs.flatMap (fun x=>[x.1.1,Value.int .i64 (x.1.2:Int)])) /\ xs.length <= 3000000
set_option maxRecDepth 20000 in
set_option maxHeartbeats 4000000 in
theorem listC5_any (f:Nat) (hL:ConjOk f) (c:Pk) (s:Ps) (w:World) (h:PZ c w s) (hop:17 <= s.op + f) :
  Calls Tryz.prog 187 #[.pointer (some ⟨c.g,0,none⟩),.func (.func 188) #[.pointer (some ⟨c.g,0,none⟩)] #[],.int .i64 9] w (P5P c w (VCs f w) (list5 (conjOf5 (lit5 c.T c.L f) c.T c.L) c.T c.L 9 s)):=by
 have hT:=h.ok.l
 have hNw:=h.Nw
 have HTM:Hid (∀ (X:World) (s':Ps),PZ c X s' -> s'.op = s.op -> Calls Tryz.prog 188 #[.pointer (some ⟨c.g,0,none⟩)] X (P5P c X (VC f X) (conjOf5 (lit5 c.T c.L f) c.T c.L s'))):=fun X s' hX he=>hL c s' X hX (by rw [he];exact hop)
 have HKD:Hid (∀ (X:World) (s:Ps),PZ c X s -> Calls Tryz.prog 124 #[.pointer (some ⟨c.g,0,none⟩),.int .i64 0] X fun e w'=>e = .returned (.int .i64 (kd5 c.T s 0)) /\ Below X.heap.size X w'):=fun X s hX=>kind5_0 c s X hX
 have HWB:Hid (∀ b,w.heap.size <= b -> ¬ W5 c b):=fun b hb=>(h.nw hb).1
 have HGO:Hid (Goes (conjOf5 (lit5 c.T c.L f) c.T c.L)):=goes_conj c.T c.L (goes_lit c.T c.L f)
 obtain ⟨R,hR⟩:∃ R,list5 (conjOf5 (lit5 c.T c.L f) c.T c.L) c.T c.L 9 s = R:=⟨_,rfl⟩
 rw [hR]
 unfold list5 at hR
 have h1:=HTM.out w s h rfl
 cases hr:conjOf5 (lit5 c.T c.L f) c.T c.L s with
 | error e0=>
  have HE:=hm7 (P5P.err h1 hr)
  rw [hr] at hR
  subst hR
  clear h1 hr h
  show Calls _ _ _ _ (P5P c w _ (.error e0))
  go_enter Tryz.func187,Tryz.ntmps187
  go_wp2_with (go_at_call 188;refine HE.out.mono ?_;rintro e W1 ⟨rfl,hf⟩)
  exact ⟨rfl,hf,rfl⟩
 | ok p=>
  obtain ⟨m0,s1⟩:=p
  have HE:=hm7 (P5P.ok h1 hr)
  rw [hr] at hR
  have HR:=hm7 (show ls5 (conjOf5 (lit5 c.T c.L f) c.T c.L) c.T c.L 9 (c.T.length + 1) [m0] s1 = R from hR)
  have HS1:=hm7 (HGO.out s m0 s1 hr)
  have HNW:=hm7 hNw
  clear h1 hr h hR hNw
  go_enter Tryz.func187,Tryz.ntmps187
  go_upto_region 2 with (go_at_call 188;refine HE.out.mono ?_;rintro e W1 ⟨v1,rfl,⟨x0,rfl,hm0,hx0⟩,hz,hf⟩;obtain ⟨⟨x1,xn⟩,x2⟩:=x0;obtain ⟨xa,xl,xc,hx1⟩:=CI.form hx0;dsimp only at hx1;subst hx1;have HZ1:=hm7 (hz.below (below1 W1 (.cells #[.slice xa xl xc,.int .i64 (xn:Int)] 170)));have HF1:=hm7 (hf.then (below1 W1 (.cells #[.slice xa xl xc,.int .i64 (xn:Int)] 170)));have HO1:=hm7 (row_one5 (base:=w.heap.size) (Bk.new W1 #[.slice xa xl xc,.int .i64 (xn:Int)] 170) hf.size (n:=2) rfl);have HI1:=hm7 ((hx0.mono (G:=fun b=>w.heap.size <= b /\ b ≠ W1.heap.size) fun b hb hw=>⟨hw,by omega⟩).below (below1 W1 (.cells #[.slice xa xl xc,.int .i64 (xn:Int)] 170)));have HM0:=hm7 hm0;clear hz hf hx0 hm0)
  go_wp2
  go_loopg [7] (c.T.length + 1) (fun fu u wr=>∃ (xs:List ((Value × Nat) × List (List Lv5))) (s2:Ps),ls5 (conjOf5 (lit5 c.T c.L f) c.T c.L) c.T c.L 9 fu (xs.map fun x=>er5 x.2) s2 = R /\ c.T.length < s2.nx + fu /\ xs.length <= s2.nx + 1 /\ s2.op = s.op /\ wr.ownsRow w.heap.size 170 2 u xs.length (xs.flatMap (fun x=>[x.1.1,Value.int .i64 (x.1.2:Int)])) /\ (∀ x ∈ xs,CI f (fun b=>w.heap.size <= b /\ u.ownBlock ≠ some b) wr x) /\ PZ c wr s2 /\ Fr (W5 c) w wr)
  case atStart=>
   refine ⟨[((.slice xa xl xc,xn),x2)],s1, ?_,by omega,by simp,HS1.out.1, ?_, ?_,HZ1.out,HF1.out⟩
   ·have:=HR.out;rw [HM0.out] at this;exact this
   ·have:=HO1.out;simpa using this
   ·intro x hx
    rw [List.mem_singleton.1 hx]
    refine HI1.out.mono fun b _ hb=>⟨hb.1,fun e=>hb.2 ?_⟩
    exact (Option.some.inj e).symm
  case round=>
   obtain ⟨xs,s2,hls,hfl,hal,hop2,ho,hxi,hz,hf⟩:=hrel
   have HLS:=hm7 hls
   have HAL:=hm7 hal
   have HO:=hm7 ho
   have HCI:=hm7 hxi
   have HZ:=hm7 hz
   have HF:=hm7 hf
   have HOP:=hm7 hop2
   have hle:=hz.le
   have hsz:=hf.size
   clear hls hal ho hz hf HR HZ1 HF1 HO1 HI1 hxi hop2 HM0 HE HS1
   obtain ⟨ua,uc,huf, -⟩:=row7_form HO.out
   obtain ⟨an,han⟩:∃ n,xs.length = n:=⟨_,rfl⟩
   rw [han] at huf
   have HAN:=hm7 han
   have HOW:Hid (wr.ownsRow w.heap.size 170 2 u7 an (xs.flatMap (fun x=>[x.1.1,Value.int .i64 (x.1.2:Int)]))):=by have:=HO.out;rw [han] at this;exact this
   subst huf
   have han2:an <= 2000001:=by have:=HAL.out;omega
   clear han
   cases gk with
   | zero=>omega
   | succ fu=>
    have HK:=hm7 (HKD.out wr s2 HZ.out)
    by_cases hk:kd5 c.T s2 0 = 9
    ·obtain ⟨t0,ht0,htk,hlt⟩:=kd5_some (L:=c.L) hk (by decide)
     have HTK:Hid (∀ X:World,Below wr.heap.size wr X -> Calls Tryz.prog 85 #[.pointer (some ⟨c.g,0,none⟩),.slice (some ⟨X.heap.size,0,none⟩) 1 1] (X.alloc (.cells #[.int .i64 9] 3)) fun e w'=>∃ v,e = .returned v /\ v = t0.v /\ PZ c w' ⟨s2.nx + 1,s2.op,s2.vs,s2.nm⟩ /\ Fr (W5 c) (X.alloc (.cells #[.int .i64 9] 3)) w'):=fun X hX=>
      P5P.ok (take5_any [9] (.slice (some ⟨X.heap.size,0,none⟩) 1 1) c s2 _ ((HZ.out.below hX).below (below1 _ _)) (Nm5.bk (ks:=[9]) (Bk.new X #[.int .i64 9] 3) rfl (by decide)) (by decide)) htk
     have hls2:=HLS.out
     unfold ls5 at hls2
     rw [if_pos hk,htk] at hls2
     rw [hk] at HK
     have HL2:=hm7 (show ((conjOf5 (lit5 c.T c.L f) c.T c.L ⟨s2.nx + 1,s2.op,s2.vs,s2.nm⟩).and fun a s=>ls5 (conjOf5 (lit5 c.T c.L f) c.T c.L) c.T c.L 9 fu ((xs.map fun x=>er5 x.2) ++ [a]) s) = R from hls2)
     clear hls2 htk ht0
     obtain ⟨tk0,tx0,tn0,ta0,te0⟩:=t0
     cases hr2:conjOf5 (lit5 c.T c.L f) c.T c.L ⟨s2.nx + 1,s2.op,s2.vs,s2.nm⟩ with
     | error f2=>
      have HR2:Hid (R = .error f2):=by have:=HL2.out;rw [hr2] at this;exact this.symm
      have HE2:Hid (∀ X:World,PZ c X ⟨s2.nx + 1,s2.op,s2.vs,s2.nm⟩ -> Calls Tryz.prog 188 #[.pointer (some ⟨c.g,0,none⟩)] X fun e w'=>e = .panicked [pF f2] /\ Fr (W5 c) X w'):=fun X hX=>P5P.err (HTM.out X _ hX HOP.out) hr2
      clear hr2 HL2 HLS
      go_wp2_with (first
       | (go_at_call 124;refine HK.out.mono ?_;rintro e W2 ⟨rfl,hb⟩;have HB2:=hm7 hb;clear hb)
       | (go_at_call 85;refine (HTK.out _ HB2.out).mono ?_;rintro e W3 ⟨v3,rfl,rfl,hz,hf⟩;have HZ3:=hm7 hz;have HF3:=hm7 (((HF.out.then HB2.out).then (below1 _ _)).tr hf);clear hz hf)
       | (go_at_call 188;refine (HE2.out _ HZ3.out).mono ?_;rintro e W4 ⟨rfl,hf⟩;have HF4:=hm7 (HF3.out.tr hf);clear hf))
      refine ⟨rfl, ?_⟩
      rw [HR2.out]
      exact ⟨HF4.out,rfl⟩
     | ok p2=>
      obtain ⟨m3,s3⟩:=p2
      have HR3:Hid (ls5 (conjOf5 (lit5 c.T c.L f) c.T c.L) c.T c.L 9 fu ((xs.map fun x=>er5 x.2) ++ [m3]) s3 = R):=by have:=HL2.out;rw [hr2] at this;exact this
      have HE2:Hid (∀ X:World,PZ c X ⟨s2.nx + 1,s2.op,s2.vs,s2.nm⟩ -> Calls Tryz.prog 188 #[.pointer (some ⟨c.g,0,none⟩)] X fun e w'=>∃ v,e = .returned v /\ VC f X m3 v w' /\ PZ c w' s3 /\ Fr (W5 c) X w'):=fun X hX=>P5P.ok (HTM.out X _ hX HOP.out) hr2
      have HN3:Hid (s3.op = s2.op /\ s2.nx + 1 <= s3.nx):=HGO.out _ m3 s3 hr2
      clear hr2 HL2 HLS
      go_upto_region 4 with (first
       | (go_at_call 124;refine HK.out.mono ?_;rintro e W2 ⟨rfl,hb⟩;have HB2:=hm7 hb;clear hb)
       | (go_at_call 85;refine (HTK.out _ HB2.out).mono ?_;rintro e W3 ⟨v3,rfl,rfl,hz,hf⟩;have HZ3:=hm7 hz;have HF3:=hm7 (((HF.out.then HB2.out).then (below1 _ _)).tr hf);have HO3:=hm7 (row7_fr (row7_below (row7_below HOW.out HB2.out) (below1 _ _)) hf fun b hb=>HWB.out b (World.ownsRow.lt HOW.out b hb).1);have HI3:Hid (∀ x ∈ xs,CI f (fun b=>w.heap.size <= b /\ (Value.slice ua an uc).ownBlock ≠ some b) W3 x):=fun x hx=>(((HCI.out x hx).below HB2.out).below (below1 _ _)).fr hf fun b hb=>HWB.out b hb.1;clear hz hf))
      go_wp2_with (first
       | (go_at_call 188;refine (HE2.out _ HZ3.out).mono ?_;rintro e W4 ⟨v4,rfl,⟨x0,rfl,hm0,hx0⟩,hz,hf⟩;obtain ⟨⟨x1,xn⟩,x2⟩:=x0;obtain ⟨xa,xl,xc,hx1⟩:=CI.form hx0;dsimp only at hx1;subst hx1;have HZ4:=hm7 (hz.below (below1 W4 (.cells #[.slice xa xl xc,.int .i64 (xn:Int)] 170)));have HF4:=hm7 ((HF3.out.tr hf).then (below1 W4 (.cells #[.slice xa xl xc,.int .i64 (xn:Int)] 170)));have HO4:=hm7 (row7_below (row7_fr HO3.out hf fun b hb=>HWB.out b (World.ownsRow.lt HO3.out b hb).1) (below1 W4 (.cells #[.slice xa xl xc,.int .i64 (xn:Int)] 170)));have HI4:Hid (∀ x ∈ xs,CI f (fun b=>w.heap.size <= b /\ (Value.slice ua an uc).ownBlock ≠ some b) W4 x):=fun x hx=>(HI3.out x hx).fr hf fun b hb=>HWB.out b hb.1;have HN4:=hm7 (hx0.mono (G:=fun b=>w.heap.size <= b /\ (Value.slice ua an uc).ownBlock ≠ some b) fun b hb hw=>⟨Nat.le_trans HF3.out.size hw,fun e=>by have:=(World.ownsRow.lt HO3.out b e).2;omega⟩);have HM0:=hm7 hm0;have hz4:=(HF3.out.tr hf).size;clear hz hf hx0 hm0)
       | (at_builtin;refine gapp5 Tryz.underlying137 Tryz.infoConj5 rfl (by decide) (by decide) rfl _ _ rfl w.heap.size (.slice ua an uc) an (xs.flatMap (fun x=>[x.1.1,Value.int .i64 (x.1.2:Int)])) rfl HO4.out W4.heap.size #[.slice xa xl xc,.int .i64 (xn:Int)] rfl (Bk.new _ _ _) rfl (by simp [Value.oneCell']) (by omega) (by simp;omega) ?_;intro g5 q5 w5 ho5 hg5 hv5 hl5;have HO5:=hm7 ho5;have HG5:=hm7 hg5;have HV5:=hm7 hv5;clear ho5 hg5 hv5 hl5))
      have HGF:Hid (Fr (fun b=>w.heap.size <= b) (W4.alloc (.cells #[.slice xa xl xc,.int .i64 (xn:Int)] 170)) w5):=Fr.grown HG5.out fun b hb=>(World.ownsRow.lt HO4.out b hb).1
      have HGW:Hid (Fr (fun b=>(Value.slice ua an uc).ownBlock = some b) (W4.alloc (.cells #[.slice xa xl xc,.int .i64 (xn:Int)] 170)) w5):=Fr.grown HG5.out fun b hb=>hb
      have HZ5:=hm7 (HZ4.out.fr HGF.out fun b hb e=>by have:=HNW.out;omega)
      have HF5:=hm7 (HF4.out.trans HGF.out fun b hb e=>by omega)
      have HI5:Hid (∀ x,CI f (fun b=>w.heap.size <= b /\ (Value.slice ua an uc).ownBlock ≠ some b) W4 x -> CI f (fun b=>w.heap.size <= b /\ (Value.slice (some ⟨g5,0,none⟩) (an + 1) q5).ownBlock ≠ some b) w5 x):=fun x hx=>by
       have h1:=(hx.mono (G:=fun b=>w.heap.size <= b /\ (Value.slice ua an uc).ownBlock ≠ some b /\ b ≠ W4.heap.size) fun b hb hw=>⟨hw.1,hw.2,by omega⟩).below (below1 W4 (.cells #[.slice xa xl xc,.int .i64 (xn:Int)] 170))
       have h2:=h1.mono (G:=fun b=>(w.heap.size <= b /\ (Value.slice (some ⟨g5,0,none⟩) (an + 1) q5).ownBlock ≠ some b) /\ (Value.slice ua an uc).ownBlock ≠ some b) fun b hb hw=>⟨⟨hw.1,fun e=>by
        have e1:g5 = b:=Option.some.inj e
        rcases HV5.out with e2 | e2
        ·exact hw.2.1 (by rw [<- e1];exact e2)
        ·omega⟩,hw.2.1⟩
       exact (h2.fr HGW.out fun b hb=>hb.2).mono fun b _ hb=>hb.1
      try go_wp2
      go_roundg fu
      case measure=>omega
      case rel=>
       refine ⟨xs ++ [((.slice xa xl xc,xn),x2)],s3, ?_,by have:=HN3.out.2;omega,by have:=HN3.out.2;have:=HAL.out;rw [List.length_append,List.length_singleton];omega,HN3.out.1.trans HOP.out, ?_, ?_,HZ5.out,HF5.out⟩
       ·have:=HR3.out;rw [HM0.out] at this;rw [List.map_append];exact this
       ·rw [List.length_append,List.length_singleton,HAN.out,List.flatMap_append];have:=HO5.out;simpa using this
       ·intro x hx
        rcases List.mem_append.1 hx with hx | hx
        ·exact HI5.out x (HI4.out x hx)
        ·rw [List.mem_singleton.1 hx];exact HI5.out _ HN4.out
    ·have hR2:=HLS.out
     unfold ls5 at hR2
     rw [if_neg hk] at hR2
     obtain ⟨kk,hkk⟩:∃ kk,kd5 c.T s2 0 = kk:=⟨_,rfl⟩
     rw [hkk] at HK hk
     have hk2:(kk == 9) = false:=by simp [hk]
     have HR2:=hm7 hR2
     clear hR2 hkk HLS
     go_wp2_with (go_at_call 124;refine HK.out.mono ?_;rintro e W2 ⟨rfl,hb⟩;have HB2:=hm7 hb;clear hb)
     go_ret
     rw [<- HR2.out]
     exact ⟨HF.out.then HB2.out,_,rfl,⟨xs,rfl,fun x hx=>((HCI.out x hx).below HB2.out).mono fun b _ hb=>hb.1,by rw [HAN.out];exact row7_below HOW.out HB2.out,by have:=HAN.out;omega⟩,HZ.out.below HB2.out⟩
end Go.Proofs.YtcpjiahdaplhlaaGreatDoor
namespace Go.Proofs.YtcpjiahdaplhlaaGreatDoor
open Go.RowKit
attribute [local go_sem ↓] Go.wp_at_zero Go.wp_at_succ
theorem er5_cross {κ:Type} (xs:List (κ × List (List Lv5))):er5 (cross5 (xs.map Prod.snd)) = cross5 (xs.map fun x=>er5 x.2):=by
 unfold er5
 rw [cross5_map,List.map_map]
 rfl
theorem er5_flat {κ:Type} (xs:List (κ × List (List Lv5))):er5 (xs.map Prod.snd).flatten = (xs.map fun x=>er5 x.2).flatten:=by
 unfold er5
 rw [List.map_flatten,List.map_map]
 rfl
def VA (f:Nat) (w:World) (m:List (List Lf5)) (v:Value) (w':World):Prop:=∃ (va:Value) (n:Nat) (m':List (List Lv5)),v = .agg #[va,.int .i64 (n:Int)] /\ m = er5 m' /\ AlM (fun b=>w.heap.size <= b) (LiM (fun b=>w.heap.size <= b) w' f) w' va n m'
def AltOk (f:Nat):Prop:=∀ (c:Pk) (s:Ps) (w:World),PZ c w s -> 17 <= s.op + f -> Calls Tryz.prog 155 #[.pointer (some ⟨c.g,0,none⟩)] w (P5P c w (VA f w) (altOf5 (lit5 c.T c.L f) c.T c.L s))
theorem ls5_ne {α:Type} {one:Ps -> R5 α} {T:List Tk} {L:Nat} {b:Int}:∀ {f:Nat} {acc:List α} {s:Ps} {l:List α} {s':Ps},ls5 one T L b f acc s = .ok (l,s') -> acc ≠ [] -> l ≠ []
 | 0,acc,s,l,s',h,hn=>by
  unfold ls5 at h
  have:acc = l:=congrArg Prod.fst (Except.ok.inj h)
  rw [<- this];exact hn
 | f + 1,acc,s,l,s',h,hn=>by
  unfold ls5 at h
  by_cases hk:kd5 T s 0 = b
  ·rw [if_pos hk] at h
   obtain ⟨t,s1,h1,h2⟩:=and5_inv h
   obtain ⟨x,s2,h3,h4⟩:=and5_inv h2
   exact ls5_ne h4 (by simp)
  ·rw [if_neg hk] at h
   have:acc = l:=congrArg Prod.fst (Except.ok.inj h)
   rw [<- this];exact hn
theorem list5_ne {α:Type} {one:Ps -> R5 α} {T:List Tk} {L:Nat} {b:Int} {s s':Ps} {l:List α} (h:list5 one T L b s = .ok (l,s')):l ≠ []:=by
 unfold list5 at h
 obtain ⟨a,s1,h1,h2⟩:=and5_inv h
 exact ls5_ne h2 (by simp)
theorem flat_ne5 {xs:List ((Value × Nat) × List (List Lv5))} (h:xs ≠ []) (hx:∀ x ∈ xs,x.2 ≠ []):(xs.map Prod.snd).flatten ≠ []:=by
 cases xs with
 | nil=>exact absurd rfl h
 | cons x xs=>
  have:=hx x (List.mem_cons_self ..)
  intro e
  rw [List.map_cons,List.flatten_cons] at e
  exact this (List.append_eq_nil_iff.1 e).1
theorem row5_base {w:World} {b n m:Nat} {e:TypeId} {v:Value} {xs:List Value} (h:w.ownsRow b e n v m xs):w.ownsRow 0 e n v m xs:=by
 refine ⟨h.1, ?_⟩
 rcases h.2 with hn | ⟨g,cap,cur,hv,hbb,hg,rest⟩
 ·exact Or.inl hn
 ·exact Or.inr ⟨g,cap,cur,hv,Nat.zero_le _,hg,rest⟩
set_option maxRecDepth 20000 in
set_option maxHeartbeats 4000000 in
theorem conj5_any (f:Nat) (hL:LitOk f):ConjOk f:=by
 intro c s w h hop
 have HB0:=hm7 (below1 w (.cells #[.slice none 0 0,.int .i64 0] 170))
 have HR0:=hm7 (Bk.new w #[.slice none 0 0,.int .i64 0] 170)
 have HZ0:=hm7 (h.below HB0.out)
 obtain ⟨n1,n2⟩:=h.nw (r:=w.heap.size) (Nat.le_refl _)
 have HN1:=hm7 n1
 have HN2:=hm7 n2
 obtain ⟨Y0,hY0⟩:∃ Y0,w.alloc (.cells #[.slice none 0 0,.int .i64 0] 170) = Y0:=⟨_,rfl⟩
 rw [hY0] at HB0 HR0 HZ0
 have HY0:=hm7 hY0
 obtain ⟨q,hq⟩:∃ q,w.heap.size = q:=⟨_,rfl⟩
 rw [hq] at HN1 HN2 HR0
 have HQ:=hm7 hq
 have HQW:Hid (w.heap.size <= q):=by show _ <= _;rw [hq];exact Nat.le_refl _
 have HQ1:Hid (q < Y0.heap.size):=HR0.out.lt
 have HLS:=hm7 (listL5_any f hL c s Y0 HZ0.out hop)
 obtain ⟨R,hR⟩:∃ R,conjOf5 (lit5 c.T c.L f) c.T c.L s = R:=⟨_,rfl⟩
 rw [hR]
 unfold conjOf5 at hR
 have hmf:∀ (fn:Fn) (first cap:Array Value) (w:World),(Instr.makeFunc fn first cap).run Tryz.prog w = .ok (.func fn first cap) w:=fun _ _ _ _=>rfl
 clear h n1 n2 hY0 hq
 go_enter Tryz.func188,Tryz.ntmps188
 go_upto_region 1 with fail
 rw [HY0.out,HQ.out]
 clear HY0
 cases hr:list5 (lit5 c.T c.L f) c.T c.L 8 s with
 | error e0=>
  rw [R5.and_err hr] at hR
  subst hR
  have HE:=hm7 (P5P.err HLS.out hr)
  clear hr HLS
  go_wp2_with (go_at_call 205;refine HE.out.mono ?_;rintro e W1 ⟨rfl,hf⟩;have HF1:=hm7 ((W5.of (c:=c) HB0.out).tr hf);clear hf)
  exact ⟨rfl,HF1.out,rfl⟩
 | ok p=>
  obtain ⟨ms,s1⟩:=p
  rw [R5.and_ok hr] at hR
  subst hR
  have HE:=hm7 (P5P.ok HLS.out hr)
  have HNE:=hm7 (list5_ne hr)
  clear hr HLS
  go_wp2_with (first
   | (go_at_call 205;refine HE.out.mono ?_;rintro e W1 ⟨v1,rfl,⟨xs,hms,hxi,ho,hl⟩,hz,hf⟩;have HC:=hm7 (conjOf5_any _ _ f v1 xs W1 hxi ho hl);obtain ⟨cn,hcn⟩:∃ cn:Nat,min (cross5 (xs.map Prod.snd)).length 65 = cn:=⟨_,rfl⟩;rw [hcn] at HC;have HCN:=hm7 hcn;clear hcn;obtain ⟨xa,xc,hvf, -⟩:=row7_form ho;generalize hxn:xs.length = xn at hvf;subst hvf;have HXN:=hm7 hxn;have HMS:=hm7 hms;have HXI:=hm7 hxi;have HO:=hm7 ho;have HZ1:=hm7 hz;have HF1:=hm7 ((W5.of (c:=c) HB0.out).tr hf);have HR1:=hm7 (HR0.out.fr hf HN1.out);clear hms hxi ho hl hz hf hxn HE)
   | (go_at_call 154;refine HC.out.mono ?_;rintro e W2 ⟨rfl,hb⟩;have HR2:=hm7 (HR1.out.below hb);have HB2:=hm7 hb;have r0:=HR2.out.cell (i:=0) rfl;have r1:=HR2.out.cell (i:=1) rfl;have f0:=HR2.out.froz 0;have f1:=HR2.out.froz 1;have hrl:=HR2.out.lt;clear hb HC))
  have HZ3:=hm7 ((HR2.out.set 0 (.slice xa xn xc)).set 1 (.int .i64 (cn:Int)))
  have z0:=HZ3.out.cell (i:=0) rfl
  have z1:=HZ3.out.cell (i:=1) rfl
  refine bodyPost_ret (v:=.agg #[.slice xa xn xc,.int .i64 (cn:Int)]) (by simp [results,Tryz.results188,go_sem,z0,z1]) rfl ?_
  have hfq:Fr (fun b=>b = q) W2 ((W2.setCell ⟨q,0,none⟩ (.slice xa xn xc)).setCell ⟨q,1,none⟩ (.int .i64 (cn:Int))):=((Fr.refl (fun b=>b = q) _).set (Or.inl rfl)).set (Or.inl rfl)
  have hnq:∀ b,Y0.heap.size <= b -> ¬ b = q:=fun b hb e=>by have:=HQ1.out;omega
  have hmo:∀ b,b < ((W2.setCell ⟨q,0,none⟩ (.slice xa xn xc)).setCell ⟨q,1,none⟩ (.int .i64 (cn:Int))).heap.size -> Y0.heap.size <= b -> w.heap.size <= b:=fun b _ hb=>Nat.le_trans HB0.out.size hb
  refine ⟨(HF1.out.then HB2.out).trans hfq (fun b hb e=>by have:=HQW.out;omega),_,rfl, ?_,(HZ1.out.below HB2.out).fr hfq fun b hb e=>by have:=HN2.out;omega⟩
  refine ⟨((.slice xa xn xc,cn),cross5 (xs.map Prod.snd)),rfl, ?_, ?_⟩
  ·rw [er5_cross,HMS.out]
  ·refine ⟨xs,fun x hx=>((((HXI.out x hx).below HB2.out).fr hfq hnq).mono hmo),⟨?_, ?_⟩,rfl,HCN.out.symm,cross5_ne fun m hm=>?_⟩
   ·have:=HO.out
    rw [HXN.out] at this ⊢
    exact row5_base (row7_fr (row7_below this HB2.out) hfq fun g hg=>hnq g (World.ownsRow.lt this g hg).1)
   ·intro g hg
    have:=HO.out
    rw [HXN.out] at this
    exact Nat.le_trans HB0.out.size (World.ownsRow.lt this g hg).1
   ·obtain ⟨y,hy,rfl⟩:=List.mem_map.1 hm
    exact (HXI.out y hy).ne
set_option maxRecDepth 20000 in
set_option maxHeartbeats 4000000 in
theorem alt5_any (f:Nat) (hL:ConjOk f):AltOk f:=by
 intro c s w h hop
 have HB0:=hm7 (below1 w (.cells #[.slice none 0 0,.int .i64 0] 139))
 have HR0:=hm7 (Bk.new w #[.slice none 0 0,.int .i64 0] 139)
 have HZ0:=hm7 (h.below HB0.out)
 obtain ⟨n1,n2⟩:=h.nw (r:=w.heap.size) (Nat.le_refl _)
 have HN1:=hm7 n1
 have HN2:=hm7 n2
 obtain ⟨Y0,hY0⟩:∃ Y0,w.alloc (.cells #[.slice none 0 0,.int .i64 0] 139) = Y0:=⟨_,rfl⟩
 rw [hY0] at HB0 HR0 HZ0
 have HY0:=hm7 hY0
 obtain ⟨q,hq⟩:∃ q,w.heap.size = q:=⟨_,rfl⟩
 rw [hq] at HN1 HN2 HR0
 have HQ:=hm7 hq
 have HQW:Hid (w.heap.size <= q):=by show _ <= _;rw [hq];exact Nat.le_refl _
 have HQ1:Hid (q < Y0.heap.size):=HR0.out.lt
 have HLS:=hm7 (listC5_any f hL c s Y0 HZ0.out hop)
 obtain ⟨R,hR⟩:∃ R,altOf5 (lit5 c.T c.L f) c.T c.L s = R:=⟨_,rfl⟩
 rw [hR]
 unfold altOf5 at hR
 have hmf:∀ (fn:Fn) (first cap:Array Value) (w:World),(Instr.makeFunc fn first cap).run Tryz.prog w = .ok (.func fn first cap) w:=fun _ _ _ _=>rfl
 clear h n1 n2 hY0 hq
 go_enter Tryz.func155,Tryz.ntmps155
 go_upto_region 1 with fail
 rw [HY0.out,HQ.out]
 clear HY0
 cases hr:list5 (conjOf5 (lit5 c.T c.L f) c.T c.L) c.T c.L 9 s with
 | error e0=>
  rw [R5.and_err hr] at hR
  subst hR
  have HE:=hm7 (P5P.err HLS.out hr)
  clear hr HLS
  go_wp2_with (go_at_call 187;refine HE.out.mono ?_;rintro e W1 ⟨rfl,hf⟩;have HF1:=hm7 ((W5.of (c:=c) HB0.out).tr hf);clear hf)
  exact ⟨rfl,HF1.out,rfl⟩
 | ok p=>
  obtain ⟨ms,s1⟩:=p
  rw [R5.and_ok hr] at hR
  subst hR
  have HE:=hm7 (P5P.ok HLS.out hr)
  have HNE:=hm7 (list5_ne hr)
  clear hr HLS
  go_wp2_with (first
   | (go_at_call 187;refine HE.out.mono ?_;rintro e W1 ⟨v1,rfl,⟨xs,hms,hxi,ho,hl⟩,hz,hf⟩;have HC:=hm7 (altOf5_any _ _ _ v1 xs W1 hxi ho hl);obtain ⟨cn,hcn⟩:∃ cn:Nat,min ((xs.map Prod.snd).flatten).length 65 = cn:=⟨_,rfl⟩;rw [hcn] at HC;have HCN:=hm7 hcn;clear hcn;obtain ⟨xa,xc,hvf, -⟩:=row7_form ho;generalize hxn:xs.length = xn at hvf;subst hvf;have HXN:=hm7 hxn;have HMS:=hm7 hms;have HXI:=hm7 hxi;have HO:=hm7 ho;have HZ1:=hm7 hz;have HF1:=hm7 ((W5.of (c:=c) HB0.out).tr hf);have HR1:=hm7 (HR0.out.fr hf HN1.out);clear hms hxi ho hl hz hf hxn HE)
   | (go_at_call 153;refine HC.out.mono ?_;rintro e W2 ⟨rfl,hb⟩;have HR2:=hm7 (HR1.out.below hb);have HB2:=hm7 hb;have r0:=HR2.out.cell (i:=0) rfl;have r1:=HR2.out.cell (i:=1) rfl;have f0:=HR2.out.froz 0;have f1:=HR2.out.froz 1;have hrl:=HR2.out.lt;clear hb HC))
  have HZ3:=hm7 ((HR2.out.set 0 (.slice xa xn xc)).set 1 (.int .i64 (cn:Int)))
  have z0:=HZ3.out.cell (i:=0) rfl
  have z1:=HZ3.out.cell (i:=1) rfl
  refine bodyPost_ret (v:=.agg #[.slice xa xn xc,.int .i64 (cn:Int)]) (by simp [results,Tryz.results155,go_sem,z0,z1]) rfl ?_
  have hfq:Fr (fun b=>b = q) W2 ((W2.setCell ⟨q,0,none⟩ (.slice xa xn xc)).setCell ⟨q,1,none⟩ (.int .i64 (cn:Int))):=((Fr.refl (fun b=>b = q) _).set (Or.inl rfl)).set (Or.inl rfl)
  have hnq:∀ b,Y0.heap.size <= b -> ¬ b = q:=fun b hb e=>by have:=HQ1.out;omega
  have hmo:∀ b,b < ((W2.setCell ⟨q,0,none⟩ (.slice xa xn xc)).setCell ⟨q,1,none⟩ (.int .i64 (cn:Int))).heap.size -> Y0.heap.size <= b -> w.heap.size <= b:=fun b _ hb=>Nat.le_trans HB0.out.size hb
  refine ⟨(HF1.out.then HB2.out).trans hfq (fun b hb e=>by have:=HQW.out;omega),_,rfl, ?_,(HZ1.out.below HB2.out).fr hfq fun b hb e=>by have:=HN2.out;omega⟩
  refine ⟨.slice xa xn xc,cn,(xs.map Prod.snd).flatten,rfl, ?_, ?_⟩
  ·rw [er5_flat,HMS.out]
  ·refine ⟨xs,fun x hx=>((((HXI.out x hx).below HB2.out).fr hfq hnq).mono hmo),⟨?_, ?_⟩,rfl,HCN.out.symm,flat_ne5 ?_ fun x hx=>?_⟩
   ·have:=HO.out
    rw [HXN.out] at this ⊢
    exact row5_base (row7_fr (row7_below this HB2.out) hfq fun g hg=>hnq g (World.ownsRow.lt this g hg).1)
   ·intro g hg
    have:=HO.out
    rw [HXN.out] at this
    exact Nat.le_trans HB0.out.size (World.ownsRow.lt this g hg).1
   ·intro e
    apply HNE.out
    rw [HMS.out,e]
    rfl
   ·obtain ⟨ys, -, -, -, -,h5⟩:=HXI.out x hx
    exact h5
end Go.Proofs.YtcpjiahdaplhlaaGreatDoor

import Derived.Test.YtcpjiahdaplhlaaGreatDoorSY16
namespace Go.Proofs.YtcpjiahdaplhlaaGreatDoor
open Go.RowKit
attribute [local go_sem ↓] Go.wp_at_zero Go.wp_at_succ
theorem mk_map5 (T:TypeId) (w:World):(Instr.makeMap T none).run Tryz.prog w = .ok (.map (some w.heap.size)) (w.alloc (.map #[] 0)):=by
 simp [Instr.makeMap,go_sem]
structure PB (g N:Nat) (tv:Value) (T:List Tk) (L:Nat) (w:World) (nx:Nat):Prop where
 b:∃ (mv:Option Nat) (vs:Int),Bk w g #[tv,.int .i64 (nx:Int),.int .i64 (L:Int),.int .i64 0,.map mv,.int .i64 vs] 109
 t:Tz (fun b=>b ≠ g /\ b < N) w tv T
 le:nx <= T.length
 gN:g < N
 Nw:N <= w.heap.size
 ok:Tok5 T L
 o:OpsOk w
 og:g ≠ 3 /\ 3 < N
theorem PB.fr {P:Nat -> Prop} {g N:Nat} {tv:Value} {T:List Tk} {L nx:Nat} {w w':World} (h:PB g N tv T L w nx) (hf:Fr P w w') (hn:∀ b,b < N -> ¬ P b):PB g N tv T L w' nx:=by
 obtain ⟨mv,vs,hb⟩:=h.b
 exact ⟨⟨mv,vs,hb.fr hf (hn _ h.gN)⟩,h.t.fr hf fun b _ hF=>hn b hF.2,h.le,h.gN,Nat.le_trans h.Nw hf.size,h.ok,h.o.fr hf (hn _ h.og.2),h.og⟩
theorem PB.below {g N:Nat} {tv:Value} {T:List Tk} {L nx:Nat} {w w':World} (h:PB g N tv T L w nx) (hb:Below w.heap.size w w'):PB g N tv T L w' nx:=h.fr (P:=fun _=>False) (Fr.of hb) fun _ _ h=>h
def s05 (nx:Nat):Ps:=⟨nx,0,0,fun _=>none⟩
set_option maxRecDepth 20000 in
set_option maxHeartbeats 1000000 in
theorem begin5_any (g N:Nat) (tv:Value) (T:List Tk) (L nx:Nat) (w:World) (h:PB g N tv T L w nx) :
  Calls Tryz.prog 83 #[.pointer (some ⟨g,0,none⟩)] w fun e w'=>e = .returned (.int .i64 (pl5 T L (s05 nx))) /\ PZ ⟨g,w.heap.size,w.heap.size + 1,tv,T,L⟩ w' (s05 nx) /\ Fr (fun b=>b = g) w w':=by
 obtain ⟨mv,vs,hb⟩:=h.b
 have hgl:=hb.lt
 have HM:=hm7 (Mp.made Tryz.prog 9 w)
 have hb1:Below w.heap.size w (w.alloc (.map #[] 0)):=below1 w (.map #[] 0)
 have hz1:(w.alloc (.map #[] 0)).heap.size = w.heap.size + 1:=by simp
 have hk1:=hb.below hb1
 have f1:Fr (fun b=>b = g) (w.alloc (.map #[] 0)) (((w.alloc (.map #[] 0)).setCell ⟨g,4,none⟩ (.map (some w.heap.size))).setCell ⟨g,5,none⟩ (.int .i64 0)):=((Fr.refl (fun b=>b = g) _).set (Or.inl rfl)).set (Or.inl rfl)
 have f2:Fr (fun b=>b = g) w (((w.alloc (.map #[] 0)).setCell ⟨g,4,none⟩ (.map (some w.heap.size))).setCell ⟨g,5,none⟩ (.int .i64 0)):=(Fr.of hb1).tr f1
 have hk2:Bk (((w.alloc (.map #[] 0)).setCell ⟨g,4,none⟩ (.map (some w.heap.size))).setCell ⟨g,5,none⟩ (.int .i64 0)) g #[tv,.int .i64 (nx:Int),.int .i64 (L:Int),.int .i64 0,.map (some w.heap.size),.int .i64 0] 109:=by
  have:=(hk1.set 4 (.map (some w.heap.size))).set 5 (.int .i64 0)
  simpa using this
 have hz:PZ ⟨g,w.heap.size,w.heap.size + 1,tv,T,L⟩ (((w.alloc (.map #[] 0)).setCell ⟨g,4,none⟩ (.map (some w.heap.size))).setCell ⟨g,5,none⟩ (.int .i64 0)) (s05 nx):=
  ⟨hk2,(h.t.fr f2 fun b _ hF e=>hF.1 e).mono fun b hb hF=>⟨hF.1,fun e=>by have:=hF.2;have:=h.Nw;dsimp only at e;omega,by have:=hF.2;have:=h.Nw;show b < w.heap.size + 1;omega⟩,⟨0,Nat.zero_le _,HM.out.fr f1 (fun e=>by omega)⟩,h.le,Nat.zero_le _,Nat.zero_le _,by show g ≠ w.heap.size;omega,by show g < w.heap.size + 1;omega,Nat.lt_succ_self _,by have:=f1.size;show w.heap.size + 1 <= _;omega,h.ok,h.o.fr f2 (fun e=>h.og.1 e.symm),h.og.1,by have:=h.og.2;have:=h.Nw;show w.heap.size ≠ _;omega,by have:=h.og.2;have:=h.Nw;show _ < w.heap.size + 1;omega⟩
 have HF:=hm7 f2
 have HZ:=hm7 hz
 have HPL:=hm7 (place5_any ⟨g,w.heap.size,w.heap.size + 1,tv,T,L⟩ (s05 nx) _ hz)
 dsimp only at HPL
 have c4:=hk1.cell (i:=4) rfl
 have c5:=(hk1.set 4 (.map (some w.heap.size))).cell (i:=5) rfl
 have k4:=hk1.froz 4
 have k5:=(hk1.set 4 (.map (some w.heap.size))).froz 5
 have l4:=hk1.lt
 have hmk:=mk_map5 107 w
 clear h hb hb1 hk1 f1 f2 hk2 hz HM
 obtain ⟨M1,hM1⟩:∃ M1,w.alloc (.map #[] 0) = M1:=⟨_,rfl⟩
 rw [hM1] at HZ HF HPL hmk c4 c5 k4 k5 l4
 clear hM1
 obtain ⟨q,hq⟩:∃ q,w.heap.size = q:=⟨_,rfl⟩
 rw [hq] at HZ HF HPL hmk c5 k5 hgl ⊢
 clear hq
 go_enter Tryz.func83,Tryz.ntmps83
 go_upto_region 3 with fail
 clear c4 c5 k4 k5 l4 hmk
 revert HF HZ HPL
 generalize (M1.setCell ⟨g,4,none⟩ (.map (some q))).setCell ⟨g,5,none⟩ (.int .i64 0) = W2
 intro HPL HF HZ
 go_wp2_with (go_at_call 87;refine HPL.out.mono ?_;rintro e W3 ⟨rfl,hb⟩;have HB3:=hm7 hb;clear hb)
 go_ret
 exact ⟨rfl,HZ.out.below HB3.out,HF.out.then HB3.out⟩
def bd5 (T:List Tk) (L:Nat) (s:Ps):R5 (List (List Lf5)):=if kd5 T s 0 = 11 then (tk5 T L [11] s).and fun _ s=>altOf5 (lit5 T L 17) T L s else .ok ([[]],s)
theorem goes_bd (T:List Tk) (L:Nat):Goes (bd5 T L):=goes_if ((goes_tk T L _).and fun _=>goes_alt T L (goes_lit T L 17)) (goes_ok _)
set_option maxRecDepth 20000 in
set_option maxHeartbeats 2000000 in
theorem body5_any (c:Pk) (s:Ps) (w:World) (h:PZ c w s) :
  Calls Tryz.prog 119 #[.pointer (some ⟨c.g,0,none⟩)] w (P5P c w (VA 17 w) (bd5 c.T c.L s)):=by
 have HB0:=hm7 (below1 w (.cells #[.slice none 0 0,.int .i64 0] 139))
 have HR0:=hm7 (Bk.new w #[.slice none 0 0,.int .i64 0] 139)
 have HZ0:=hm7 (h.below HB0.out)
 obtain ⟨n1,n2⟩:=h.nw (r:=w.heap.size) (Nat.le_refl _)
 have HN1:=hm7 n1
 have HN2:=hm7 n2
 obtain ⟨Y0,hY0⟩:∃ Y0,w.alloc (.cells #[.slice none 0 0,.int .i64 0] 139) = Y0:=⟨_,rfl⟩
 rw [hY0] at HB0 HR0 HZ0
 have HY0:=hm7 hY0
 obtain ⟨q,hq⟩:∃ q,w.heap.size = q:=⟨_,rfl⟩
 rw [hq] at HN1 HN2 HR0
 have HQ:=hm7 hq
 have HQW:Hid (w.heap.size <= q):=by show _ <= _;rw [hq];exact Nat.le_refl _
 have HQ1:Hid (q < Y0.heap.size):=HR0.out.lt
 obtain ⟨R,hR⟩:∃ R,bd5 c.T c.L s = R:=⟨_,rfl⟩
 rw [hR]
 unfold bd5 at hR
 have HK:=hm7 (kind5_0 c s Y0 HZ0.out)
 clear h n1 n2 hY0 hq
 go_enter Tryz.func119,Tryz.ntmps119
 go_upto_region 1 with fail
 rw [HY0.out,HQ.out]
 clear HY0
 by_cases hk:kd5 c.T s 0 = 11
 ·rw [if_pos hk] at hR
  rw [hk] at HK
  obtain ⟨t0, -,htk, -⟩:=kd5_some (L:=c.L) hk (by decide)
  rw [R5.and_ok htk] at hR
  obtain ⟨s1,hs1⟩:∃ s1:Ps,s1 = ⟨s.nx + 1,s.op,s.vs,s.nm⟩:=⟨_,rfl⟩
  rw [<- hs1] at htk hR
  have HT1:Hid (∀ X:World,PZ c X s -> Calls Tryz.prog 85 #[.pointer (some ⟨c.g,0,none⟩),.slice (some ⟨X.heap.size,0,none⟩) 1 1] (X.alloc (.cells #[.int .i64 11] 3)) fun e w'=>∃ v,e = .returned v /\ v = t0.v /\ PZ c w' s1 /\ Fr (W5 c) (X.alloc (.cells #[.int .i64 11] 3)) w'):=fun X hX=>P5P.ok (takeN5 11 (by decide) c s X hX) htk
  have HAX:Hid (∀ X:World,PZ c X s1 -> Calls Tryz.prog 155 #[.pointer (some ⟨c.g,0,none⟩)] X (P5P c X (VA 17 X) (altOf5 (lit5 c.T c.L 17) c.T c.L s1))):=fun X hX=>altOk_all 17 c s1 X hX (by omega)
  clear htk hs1 hk
  obtain ⟨tk0,tx0,tn0,ta0,te0⟩:=t0
  cases hr:altOf5 (lit5 c.T c.L 17) c.T c.L s1 with
  | error e0=>
   rw [hr] at hR
   subst hR
   have HE:Hid (∀ X:World,PZ c X s1 -> Calls Tryz.prog 155 #[.pointer (some ⟨c.g,0,none⟩)] X fun e w'=>e = .panicked [pF e0] /\ Fr (W5 c) X w'):=fun X hX=>P5P.err (HAX.out X hX) hr
   clear hr HAX
   go_wp2_with (first
    | (go_at_call 124;refine HK.out.mono ?_;rintro e W1 ⟨rfl,hb⟩;have HB1:=hm7 hb;clear hb)
    | (go_at_call 85;refine (HT1.out _ (HZ0.out.below HB1.out)).mono ?_;rintro e W2 ⟨v2,rfl,rfl,hz,hf⟩;have HZ2:=hm7 hz;have HF2:=hm7 ((((W5.of (c:=c) HB0.out).then HB1.out).then (below1 _ _)).tr hf);clear hz hf)
    | (go_at_call 155;refine (HE.out _ HZ2.out).mono ?_;rintro e W3 ⟨rfl,hf⟩;have HF3:=hm7 (HF2.out.tr hf);clear hf))
   exact ⟨rfl,HF3.out,rfl⟩
  | ok p=>
   obtain ⟨m,s2⟩:=p
   rw [hr] at hR
   subst hR
   have HE:Hid (∀ X:World,PZ c X s1 -> Calls Tryz.prog 155 #[.pointer (some ⟨c.g,0,none⟩)] X fun e w'=>∃ v,e = .returned v /\ VA 17 X m v w' /\ PZ c w' s2 /\ Fr (W5 c) X w'):=fun X hX=>P5P.ok (HAX.out X hX) hr
   clear hr HAX
   go_wp2_with (first
    | (go_at_call 124;refine HK.out.mono ?_;rintro e W1 ⟨rfl,hb⟩;have HB1:=hm7 hb;clear hb)
    | (go_at_call 85;refine (HT1.out _ (HZ0.out.below HB1.out)).mono ?_;rintro e W2 ⟨v2,rfl,rfl,hz,hf⟩;have HZ2:=hm7 hz;have HF2:=hm7 ((((W5.of (c:=c) HB0.out).then HB1.out).then (below1 _ _)).tr hf);have HR2:=hm7 (((HR0.out.below HB1.out).below (below1 _ _)).fr hf HN1.out);clear hz hf)
    | (go_at_call 155;refine (HE.out _ HZ2.out).mono ?_;rintro e W3 ⟨v3,rfl,⟨va,an,m',rfl,hm,ha⟩,hz,hf⟩;obtain ⟨xa,xl,xc,rfl⟩:=alM_form ha;have HM:=hm7 hm;have HZ3:=hm7 hz;have HF3:=hm7 (HF2.out.tr hf);have HR3:=hm7 (HR2.out.fr hf HN1.out);have HA3:=hm7 (alM_mono (G:=fun b=>w.heap.size <= b /\ b ≠ q) ha fun b _ hb=>⟨Nat.le_trans HF2.out.size hb,fun e=>by have:=HR2.out.lt;omega⟩);have r0:=HR3.out.cell (i:=0) rfl;have r1:=HR3.out.cell (i:=1) rfl;have f0:=HR3.out.froz 0;have f1:=HR3.out.froz 1;have hrl:=HR3.out.lt;clear hz hf hm ha))
   have HZZ:=hm7 ((HR3.out.set 0 (.slice xa xl xc)).set 1 (.int .i64 (an:Int)))
   have z0:=HZZ.out.cell (i:=0) rfl
   have z1:=HZZ.out.cell (i:=1) rfl
   refine bodyPost_ret (v:=.agg #[.slice xa xl xc,.int .i64 (an:Int)]) (by simp [results,Tryz.results119,go_sem,z0,z1]) rfl ?_
   have hfq:Fr (fun b=>b = q) W3 ((W3.setCell ⟨q,0,none⟩ (.slice xa xl xc)).setCell ⟨q,1,none⟩ (.int .i64 (an:Int))):=((Fr.refl (fun b=>b = q) _).set (Or.inl rfl)).set (Or.inl rfl)
   refine ⟨HF3.out.trans hfq (fun b hb e=>by have:=HQW.out;omega),_,rfl,⟨_,an,m',rfl,HM.out,alM_mono (alM_fr HA3.out hfq fun b hb=>hb.2) fun b _ hb=>hb.1⟩,HZ3.out.fr hfq fun b hb e=>by have:=HN2.out;omega⟩
 ·rw [if_neg hk] at hR
  subst hR
  obtain ⟨kk,hkk⟩:∃ kk,kd5 c.T s 0 = kk:=⟨_,rfl⟩
  rw [hkk] at HK hk
  have hk2:(kk == 11) = false:=by simp [hk]
  have hk3:(kk != 11) = true:=by simp [hk]
  have HCJ:Hid (∀ X:World,Calls Tryz.prog 154 #[.slice none 0 0] X fun e w'=>e = .returned (.agg #[.slice none 0 0,.int .i64 1]) /\ Below X.heap.size X w'):=fun X=>conjOf5_any (fun _=>True) 0 0 (.slice none 0 0) [] X (fun x hx=>by cases hx) (World.ownsRow_nil _ _ _ _) (by simp)
  have HAO:Hid (∀ X:World,Calls Tryz.prog 153 #[.slice (some ⟨X.heap.size,0,none⟩) 1 1] (X.alloc (.cells #[.slice none 0 0,.int .i64 1] 170)) fun e w'=>e = .returned (.agg #[.slice (some ⟨X.heap.size,0,none⟩) 1 1,.int .i64 1]) /\ Below (X.alloc (.cells #[.slice none 0 0,.int .i64 1] 170)).heap.size (X.alloc (.cells #[.slice none 0 0,.int .i64 1] 170)) w'):=fun X=>
   altOf5_any (fun _=>True) 0 (fun _ _=>True) (.slice (some ⟨X.heap.size,0,none⟩) 1 1) [((.slice none 0 0,1),[[]])] _ (fun x hx=>by rw [List.mem_singleton.1 hx];exact ⟨[],(fun x hx=>by cases hx),⟨World.ownsRow_nil _ _ _ _,(fun g hg=>by cases hg)⟩,rfl,rfl,by simp⟩) (row_one5 (Bk.new X #[.slice none 0 0,.int .i64 1] 170) (Nat.zero_le _) rfl) (by simp)
  clear hkk hk
  go_wp2_with (first
   | (go_at_call 124;refine HK.out.mono ?_;rintro e W1 ⟨rfl,hb⟩;have HB1:=hm7 hb;clear hb)
   | (go_at_call 154;refine (HCJ.out _).mono ?_;rintro e W2 ⟨rfl,hb⟩;have HB2:=hm7 (HB1.out.trans (hb.mono HB1.out.size));clear hb)
   | (go_at_call 153;refine (HAO.out _).mono ?_;rintro e W3 ⟨rfl,hb⟩;have HO3:=hm7 (row7_below (row_one5 (base:=0) (Bk.new W2 #[.slice none 0 0,.int .i64 1] 170) (Nat.zero_le _) rfl) hb);have HW2:Hid (q < W2.heap.size):=Nat.lt_of_lt_of_le HQ1.out HB2.out.size;have HB3:=hm7 ((HB2.out.trans ((below1 W2 (.cells #[.slice none 0 0,.int .i64 1] 170)).mono HB2.out.size)).trans (hb.mono (Nat.le_trans HB2.out.size (below1 W2 (.cells #[.slice none 0 0,.int .i64 1] 170)).size)));have HR3:=hm7 (HR0.out.below HB3.out);have r0:=HR3.out.cell (i:=0) rfl;have r1:=HR3.out.cell (i:=1) rfl;have f0:=HR3.out.froz 0;have f1:=HR3.out.froz 1;have hrl:=HR3.out.lt;clear hb))
  obtain ⟨x2,hx2⟩:∃ x2,W2.heap.size = x2:=⟨_,rfl⟩
  rw [hx2] at HO3 HW2 ⊢
  have HZZ:=hm7 ((HR3.out.set 0 (.slice (some ⟨x2,0,none⟩) 1 1)).set 1 (.int .i64 1))
  have z0:=HZZ.out.cell (i:=0) rfl
  have z1:=HZZ.out.cell (i:=1) rfl
  refine bodyPost_ret (v:=.agg #[.slice (some ⟨x2,0,none⟩) 1 1,.int .i64 1]) (by simp [results,Tryz.results119,go_sem,z0,z1]) rfl ?_
  have hfq:Fr (fun b=>b = q) W3 ((W3.setCell ⟨q,0,none⟩ (.slice (some ⟨x2,0,none⟩) 1 1)).setCell ⟨q,1,none⟩ (.int .i64 1)):=((Fr.refl (fun b=>b = q) _).set (Or.inl rfl)).set (Or.inl rfl)
  refine ⟨((W5.of HB0.out).then HB3.out).trans hfq (fun b hb e=>by have:=HQW.out;omega),_,rfl,⟨.slice (some ⟨x2,0,none⟩) 1 1,1,[[]],rfl,rfl, ?_⟩,(HZ0.out.below HB3.out).fr hfq fun b hb e=>by have:=HN2.out;omega⟩
  refine ⟨[((.slice none 0 0,1),[[]])],fun x hx=>?_,⟨row7_fr HO3.out hfq fun b hb e=>?_,fun b hb=>?_⟩,rfl,rfl,by simp⟩
  ·rw [List.mem_singleton.1 hx]
   exact ⟨[],(fun x hx=>by cases hx),⟨World.ownsRow_nil _ _ _ _,(fun g hg=>by cases hg)⟩,rfl,rfl,by simp⟩
  ·have e1:x2 = b:=Option.some.inj hb
   have:=HW2.out
   omega
  ·have e1:x2 = b:=Option.some.inj hb
   have:=HW2.out
   have:=HQW.out
   omega
end Go.Proofs.YtcpjiahdaplhlaaGreatDoor
namespace Go.Proofs.YtcpjiahdaplhlaaGreatDoor
open Go.RowKit
structure GS (T:List Tk) (s:Ps):Prop where
 a:s.nx <= T.length
 b:s.vs <= s.nx
 c:∀ x k,s.nm x = some k -> k < s.vs
def vr5 (T:List Tk) (t:Tm):Prop:=t.var = true -> 0 <= t.n /\ t.n < (T.length:Int)
def Wg {α:Type} (T:List Tk) (f:Ps -> R5 α) (Q : α -> Nat -> Prop):Prop:=∀ s a s',GS T s -> f s = .ok (a,s') -> GS T s' /\ s.nx <= s'.nx /\ Q a (s'.nx - s.nx)
theorem Wg.and {α β:Type} {T:List Tk} {f:Ps -> R5 α} {k : α -> Ps -> R5 β} {Q : α -> Nat -> Prop} {R : α -> β -> Nat -> Prop} {S : β -> Nat -> Prop} (h:Wg T f Q) (hk:∀ a,Wg T (k a) (R a)) (hs:∀ a b d e,Q a d -> R a b e -> S b (d + e)):Wg T (fun s=>(f s).and k) S:=fun s b s' g e=>by
 obtain ⟨a,s1,h1,h2⟩:=and5_inv e
 obtain ⟨g1,n1,q1⟩:=h s a s1 g h1
 obtain ⟨g2,n2,q2⟩:=hk a s1 b s' g1 h2
 refine ⟨g2,Nat.le_trans n1 n2, ?_⟩
 have:=hs a b _ _ q1 q2
 rw [show s1.nx - s.nx + (s'.nx - s1.nx) = s'.nx - s.nx by omega] at this
 exact this
theorem wg_ok {α:Type} {T:List Tk} (a : α) {Q : α -> Nat -> Prop} (h:Q a 0):Wg T (fun s=>(.ok (a,s):R5 α)) Q:=fun s b s' g e=>by
 have e1:a = b:=congrArg Prod.fst (Except.ok.inj e)
 have e2:s = s':=congrArg Prod.snd (Except.ok.inj e)
 rw [<- e1, <- e2,Nat.sub_self]
 exact ⟨g,Nat.le_refl _,h⟩
theorem wg_if {α:Type} {T:List Tk} {p:Ps -> Prop} [∀ s,Decidable (p s)] {f g:Ps -> R5 α} {Q : α -> Nat -> Prop} (hf:Wg T f Q) (hg:Wg T g Q):Wg T (fun s=>if p s then f s else g s) Q:=fun s a s' gs e=>by
 by_cases hp:p s
 ·simp only [if_pos hp] at e;exact hf s a s' gs e
 ·simp only [if_neg hp] at e;exact hg s a s' gs e
theorem wg_tk (T:List Tk) (L:Nat) (ks:List Int):Wg T (tk5 T L ks) (fun _ d=>d = 1):=fun s a s' g e=>by
 obtain ⟨h1, -,rfl⟩:=tk5_some e
 have:=(List.getElem?_eq_some_iff.1 h1).1
 exact ⟨⟨this,Nat.le_succ_of_le g.b,g.c⟩,Nat.le_succ _,by show s.nx + 1 - s.nx = 1;omega⟩
theorem wg_mean (T:List Tk) (L:Nat) (ks:List Int):Wg T (fun s=>(tk5 T L ks s).and fun t s=>.ok (mean5 t s)) (fun t d=>d = 1 /\ vr5 T t):=fun s a s' g e=>by
 obtain ⟨t,s1,h1,h2⟩:=and5_inv e
 have h3:mean5 t s1 = (a,s'):=Except.ok.inj h2
 obtain ⟨g1,n1,d1⟩:=wg_tk T L ks s t s1 g h1
 obtain ⟨h4, -,h5⟩:=tk5_some h1
 have hv:s1.vs < s1.nx:=by rw [h5];show s.vs < s.nx + 1;have:=g.b;omega
 unfold mean5 at h3
 by_cases k2:t.k = 2
 ·rw [if_pos k2] at h3
  have e1:(⟨3,((va5 t.x s1).1:Int),⟨#[]⟩⟩:Tm) = a:=congrArg Prod.fst h3
  have e2:(va5 t.x s1).2 = s':=congrArg Prod.snd h3
  unfold va5 at e1 e2
  by_cases hh:(s1.nm t.x).isSome = true /\ t.x ≠ us5
  ·rw [if_pos hh] at e1 e2
   obtain ⟨k,hk⟩:∃ k,s1.nm t.x = some k:=Option.isSome_iff_exists.1 hh.1
   have e3:s1 = s':=e2
   rw [<- e3]
   refine ⟨g1,n1,d1,fun _=>?_⟩
   rw [<- e1]
   simp only [hk,Option.getD_some]
   have:=g1.c _ _ hk;have:=g1.b;have:=g1.a
   omega
  ·rw [if_neg hh] at e1 e2
   have e3:(⟨s1.nx,s1.op,s1.vs + 1,nput s1.nm t.x s1.vs⟩:Ps) = s':=e2
   rw [<- e3]
   refine ⟨⟨g1.a,hv,fun x k hx=>?_⟩,n1,d1,fun _=>?_⟩
   ·show k < s1.vs + 1
    unfold nput at hx
    simp only at hx
    by_cases hxe:x = t.x
    ·rw [if_pos hxe] at hx;have:=Option.some.inj hx;omega
    ·rw [if_neg hxe] at hx;have:=g1.c _ _ hx;omega
   ·rw [<- e1]
    have:=g1.a
    show (0:Int) <= (s1.vs:Int) /\ (s1.vs:Int) < (T.length:Int)
    omega
 ·rw [if_neg k2] at h3
  by_cases k4:t.k = 4
  ·rw [if_pos k4] at h3
   have e1:(⟨1,t.n,⟨#[]⟩⟩:Tm) = a:=congrArg Prod.fst h3
   have e2:s1 = s':=congrArg Prod.snd h3
   rw [<- e2]
   refine ⟨g1,n1,d1,fun hv=>?_⟩
   rw [<- e1] at hv
   simp [Tm.var] at hv
  ·rw [if_neg k4] at h3
   have e1:(⟨2,0,t.x⟩:Tm) = a:=congrArg Prod.fst h3
   have e2:s1 = s':=congrArg Prod.snd h3
   rw [<- e2]
   refine ⟨g1,n1,d1,fun hv=>?_⟩
   rw [<- e1] at hv
   simp [Tm.var] at hv
theorem wg_tm (T:List Tk) (L:Nat):Wg T (tm5 T L) (fun t d=>d = 1 /\ vr5 T t):=wg_mean T L _
theorem wg_who (T:List Tk) (L:Nat):Wg T (who5 T L) (fun t d=>d = 1 /\ vr5 T t):=wg_mean T L _
def QL {α:Type} (Q : α -> Nat -> Prop):List α -> Nat -> Prop
 | [],_=>True
 | a :: l,d=>∃ d1 d2,Q a d1 /\ QL Q l d2 /\ d1 + d2 <= d
theorem QL.le {α:Type} {Q : α -> Nat -> Prop}:∀ {l:List α} {d e:Nat},QL Q l d -> d <= e -> QL Q l e
 | [],_,_,_,_=>trivial
 | _ :: _,_,_,⟨d1,d2,h1,h2,h3⟩,h=>⟨d1,d2,h1,h2,Nat.le_trans h3 h⟩
theorem QL.snoc {α:Type} {Q : α -> Nat -> Prop}:∀ {l:List α} {d e:Nat} {a : α},QL Q l d -> Q a e -> QL Q (l ++ [a]) (d + e)
 | [],d,e,a,_,h=>⟨e,0,h,trivial,by omega⟩
 | _ :: _,_,_,_,⟨d1,d2,h1,h2,h3⟩,h=>⟨d1,_,h1,QL.snoc h2 h,by omega⟩
theorem wg_ls {α:Type} {T:List Tk} {one:Ps -> R5 α} {Q : α -> Nat -> Prop} (L:Nat) (b:Int) (h:Wg T one Q):∀ (f:Nat) (acc:List α) (d0:Nat),QL Q acc d0 -> Wg T (ls5 one T L b f acc) (fun l d=>QL Q l (d0 + d))
 | 0,acc,d0,hq=>fun s a s' g e=>by
  unfold ls5 at e
  exact wg_ok (T:=T) acc (Q:=fun l d=>QL Q l (d0 + d)) hq s a s' g e
 | f + 1,acc,d0,hq=>fun s a s' g e=>by
  unfold ls5 at e
  by_cases hk:kd5 T s 0 = b
  ·rw [if_pos hk] at e
   obtain ⟨t,s1,h1,h2⟩:=and5_inv e
   obtain ⟨x,s2,h3,h4⟩:=and5_inv h2
   obtain ⟨g1,n1,d1⟩:=wg_tk T L _ s t s1 g h1
   obtain ⟨g2,n2,q2⟩:=h s1 x s2 g1 h3
   obtain ⟨g3,n3,q3⟩:=wg_ls L b h f (acc ++ [x]) _ (hq.snoc q2) s2 a s' g2 h4
   exact ⟨g3,by omega,q3.le (by omega)⟩
  ·rw [if_neg hk] at e
   exact wg_ok (T:=T) acc (Q:=fun l d=>QL Q l (d0 + d)) hq s a s' g e
theorem wg_list {α:Type} {T:List Tk} {one:Ps -> R5 α} {Q : α -> Nat -> Prop} (L:Nat) (b:Int) (h:Wg T one Q):Wg T (list5 one T L b) (QL Q):=fun s l s' g e=>by
 obtain ⟨a,s1,h1,h2⟩:=and5_inv e
 obtain ⟨g1,n1,q1⟩:=h s a s1 g h1
 obtain ⟨g2,n2,q2⟩:=wg_ls L b h _ [a] _ (QL.snoc (l:=[]) (d:=0) trivial q1) s1 l s' g1 h2
 exact ⟨g2,by omega,q2.le (by omega)⟩
theorem QL.terms {T:List Tk}:∀ {l:List Tm} {d:Nat},QL (fun t d=>d = 1 /\ vr5 T t) l d -> l.length <= d /\ ∀ t ∈ l,vr5 T t
 | [],_,_=>⟨Nat.zero_le _,fun t h=>by cases h⟩
 | _ :: _,_,⟨d1,d2,h1,h2,h3⟩=>⟨by have:=(QL.terms h2).1;rw [List.length_cons];omega,fun t h=>by
  rcases List.mem_cons.1 h with rfl | h
  ·exact h1.2
  ·exact (QL.terms h2).2 t h⟩
theorem wg_args (T:List Tk) (L:Nat):Wg T (args5 T L) (fun l d=>l.length <= d /\ ∀ t ∈ l,vr5 T t):=
 wg_if ((wg_tk T L [6]).and (fun _=>(wg_list L 8 (wg_tm T L)).and (fun l=>(wg_tk T L [7]).and (fun _=>wg_ok l (Q:=fun l' d=>l' = l) rfl) (S:=fun l' _=>l' = l) fun _ _ _ _ _ h=>h) (S:=fun l d=>l.length <= d /\ ∀ t ∈ l,vr5 T t) fun l l' d e h1 h2=>by rw [h2];exact ⟨by have:=h1.terms.1;omega,h1.terms.2⟩) fun _ _ d e _ h=>⟨by omega,h.2⟩) (wg_ok [] ⟨Nat.le_refl _,fun t h=>by cases h⟩)
theorem wg_by (T:List Tk) (L:Nat):Wg T (by5 T L) (fun t _=>vr5 T t):=
 wg_if (wg_ok _ fun h=>by simp [Tm.var] at h) ((wg_who T L).and (fun t=>(wg_tk T L [5]).and (fun _=>wg_ok t (Q:=fun t' _=>t' = t) rfl) (S:=fun t' _=>t' = t) fun _ _ _ _ _ h=>h) fun t t' d e h1 h2=>by rw [h2];exact h1.2)
def qA5 (T:List Tk) (a:At) (d:Nat):Prop:=a.args.length + 1 <= d /\ ∀ t ∈ a.pl,vr5 T t
theorem wg_at (T:List Tk) (L:Nat):Wg T (at5 T L) (qA5 T):=fun s a s' g e=>by
 obtain ⟨b,s1,h1,h2⟩:=and5_inv e
 obtain ⟨t,s2,h3,h4⟩:=and5_inv h2
 obtain ⟨l,s3,h5,h6⟩:=and5_inv h4
 obtain ⟨g1,n1,q1⟩:=wg_by T L s b s1 g h1
 obtain ⟨g2,n2,q2⟩:=wg_tk T L _ s1 t s2 g1 h3
 obtain ⟨g3,n3,q3⟩:=wg_args T L s2 l s3 g2 h5
 have e1:(⟨b,t.x,l⟩:At) = a:=congrArg Prod.fst (Except.ok.inj h6)
 have e2:s3 = s':=congrArg Prod.snd (Except.ok.inj h6)
 rw [<- e1, <- e2]
 refine ⟨g3,by omega, ?_,fun t ht=>?_⟩
 ·show l.length + 1 <= _
  have:=q3.1
  omega
 ·rcases List.mem_cons.1 ht with rfl | ht
  ·exact q1
  ·exact q3.2 t ht
def qE5 (T:List Tk) (t:Te) (d:Nat):Prop:=2 <= d /\ vr5 T t.l /\ vr5 T t.r
theorem wg_te (T:List Tk) (L:Nat):Wg T (te5 T L) (qE5 T):=fun s a s' g e=>by
 obtain ⟨b,s1,h1,h2⟩:=and5_inv e
 obtain ⟨t,s2,h3,h4⟩:=and5_inv h2
 obtain ⟨l,s3,h5,h6⟩:=and5_inv h4
 obtain ⟨g1,n1,q1⟩:=wg_tm T L s b s1 g h1
 obtain ⟨g2,n2,q2⟩:=wg_tk T L _ s1 t s2 g1 h3
 obtain ⟨g3,n3,q3⟩:=wg_tm T L s2 l s3 g2 h5
 have e1:(⟨op5 t.k,b,l⟩:Te) = a:=congrArg Prod.fst (Except.ok.inj h6)
 have e2:s3 = s':=congrArg Prod.snd (Except.ok.inj h6)
 rw [<- e1, <- e2]
 exact ⟨g3,by omega,by omega,q1.2,q3.2⟩
def wf5:Lf5 -> Nat
 | .a x=>x.args.length + 1
 | .t _=>2
def ws5 (x:List Lf5):Nat:=(x.map wf5).sum
theorem ws5_app (x y:List Lf5):ws5 (x ++ y) = ws5 x + ws5 y:=by unfold ws5;rw [List.map_append,List.sum_append]
def vf5 (T:List Tk):Lf5 -> Prop
 | .a x=>∀ t ∈ x.pl,vr5 T t
 | .t x=>vr5 T x.l /\ vr5 T x.r
def QW (T:List Tk) (m:List (List Lf5)) (d:Nat):Prop:=∀ x ∈ m,ws5 x <= d /\ ∀ l ∈ x,vf5 T l
theorem QW.le {T:List Tk} {m:List (List Lf5)} {d e:Nat} (h:QW T m d) (hd:d <= e):QW T m e:=fun x hx=>⟨Nat.le_trans (h x hx).1 hd,(h x hx).2⟩
theorem QW.cross {T:List Tk}:∀ {ms:List (List (List Lf5))} {d:Nat},QL (QW T) ms d -> QW T (cross5 ms) d
 | [],d,_=>fun x hx=>by
  rw [cross5_nil] at hx
  rw [List.mem_singleton.1 hx]
  exact ⟨Nat.zero_le _,fun l h=>by cases h⟩
 | m :: r,d,⟨d1,d2,h1,h2,h3⟩=>fun x hx=>by
  rw [cross5_cons] at hx
  obtain ⟨a,ha,hx⟩:=List.mem_flatMap.1 hx
  obtain ⟨b,hb,rfl⟩:=List.mem_map.1 hx
  obtain ⟨w1,v1⟩:=h1 a ha
  obtain ⟨w2,v2⟩:=QW.cross h2 b hb
  rw [ws5_app]
  refine ⟨by omega,fun l hl=>?_⟩
  rcases List.mem_append.1 hl with hl | hl
  ·exact v1 l hl
  ·exact v2 l hl
theorem QW.flat {T:List Tk}:∀ {ms:List (List (List Lf5))} {d:Nat},QL (QW T) ms d -> QW T ms.flatten d
 | [],d,_=>fun x hx=>by simp at hx
 | m :: r,d,⟨d1,d2,h1,h2,h3⟩=>fun x hx=>by
  rw [List.flatten_cons] at hx
  rcases List.mem_append.1 hx with hx | hx
  ·exact (h1.le (by omega)) x hx
  ·exact ((QW.flat h2).le (by omega)) x hx
theorem wg_conj {T:List Tk} {one:Ps -> R5 (List (List Lf5))} (L:Nat) (h:Wg T one (QW T)):Wg T (conjOf5 one T L) (QW T):=
 (wg_list L 8 h).and (fun ms=>wg_ok _ (Q:=fun m _=>m = cross5 ms) rfl) fun ms m d e h1 h2=>by rw [h2];exact (QW.cross h1).le (by omega)
theorem wg_alt {T:List Tk} {one:Ps -> R5 (List (List Lf5))} (L:Nat) (h:Wg T one (QW T)):Wg T (altOf5 one T L) (QW T):=
 (wg_list L 9 (wg_conj L h)).and (fun ms=>wg_ok _ (Q:=fun m _=>m = ms.flatten) rfl) fun ms m d e h1 h2=>by rw [h2];exact (QW.flat h1).le (by omega)
theorem GS.op {T:List Tk} {s:Ps} (h:GS T s) (k:Nat):GS T ⟨s.nx,k,s.vs,s.nm⟩:=⟨h.a,h.b,h.c⟩
theorem wg_br {T:List Tk} {one:Ps -> R5 (List (List Lf5))} (L:Nat) (h:Wg T one (QW T)):Wg T (brOf5 one T L) (QW T):=fun s a s' g e=>by
 unfold brOf5 at e
 by_cases ho:s.op = 16
 ·rw [if_pos ho] at e;cases e
 ·rw [if_neg ho] at e
  obtain ⟨t,s1,h1,h2⟩:=and5_inv e
  obtain ⟨m,s2,h3,h4⟩:=and5_inv h2
  obtain ⟨u,s3,h5,h6⟩:=and5_inv h4
  obtain ⟨g1,n1,q1⟩:=wg_tk T L _ s t s1 g h1
  obtain ⟨g2,n2,q2⟩:=wg_alt L h _ m s2 (g1.op _) h3
  obtain ⟨g3,n3,q3⟩:=wg_tk T L _ s2 u s3 g2 h5
  have e1:m = a:=congrArg Prod.fst (Except.ok.inj h6)
  have e2:(⟨s3.nx,s3.op - 1,s3.vs,s3.nm⟩:Ps) = s':=congrArg Prod.snd (Except.ok.inj h6)
  rw [<- e1, <- e2]
  dsimp only at n2 q2
  exact ⟨g3.op _,by show s.nx <= s3.nx;omega,q2.le (by show _ <= s3.nx - s.nx;omega)⟩
theorem wg_lit (T:List Tk) (L:Nat):∀ f,Wg T (lit5 T L f) (QW T)
 | 0=>fun s a s' g e=>by cases e
 | f + 1=>wg_if (wg_br L (wg_lit T L f)) (wg_if
   ((wg_at T L).and (fun a=>wg_ok _ (Q:=fun m _=>m = [[.a a]]) rfl) fun a m d e h1 h2=>by
    rw [h2]
    intro x hx
    rw [List.mem_singleton.1 hx]
    exact ⟨by have:=h1.1;simp only [ws5,List.map_cons,List.map_nil,List.sum_cons,List.sum_nil,wf5];omega,fun l hl=>by rw [List.mem_singleton.1 hl];exact h1.2⟩)
   ((wg_te T L).and (fun t=>wg_ok _ (Q:=fun m _=>m = [[.t t]]) rfl) fun t m d e h1 h2=>by
    rw [h2]
    intro x hx
    rw [List.mem_singleton.1 hx]
    exact ⟨by have:=h1.1;simp only [ws5,List.map_cons,List.map_nil,List.sum_cons,List.sum_nil,wf5];omega,fun l hl=>by rw [List.mem_singleton.1 hl];exact h1.2⟩))
theorem wg_bd (T:List Tk) (L:Nat):Wg T (bd5 T L) (QW T):=
 wg_if ((wg_tk T L [11]).and (fun _=>wg_alt L (wg_lit T L 17)) fun _ m d e _ h=>h.le (by omega)) (wg_ok _ fun x hx=>by rw [List.mem_singleton.1 hx];exact ⟨Nat.zero_le _,fun l h=>by cases h⟩)
end Go.Proofs.YtcpjiahdaplhlaaGreatDoor

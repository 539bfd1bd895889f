import Derived.Test.YtcpjiahdaplhlaaGreatDoorB2
import Derived.Test.YtcpjiahdaplhlaaGreatDoorSY1
namespace Go.Proofs.YtcpjiahdaplhlaaGreatDoor
open Go.RowKit
attribute [local go_sem ↓] Go.wp_at_zero Go.wp_at_succ
theorem Nm5.below {w w':World} {v:Value} {l:List Int} (h:Nm5 w v l) (hb:Below w.heap.size w w'):Nm5 w' v l:=by
 obtain ⟨b,cap,rfl,h1,h2⟩:=h
 refine ⟨b,cap,rfl,h1,fun i x hx=>?_⟩
 have hc:=h2 i x hx
 rw [hb.cell (p:=⟨b,i,none⟩) (World.block_lt_of_cell? w _ hc)]
 exact hc
theorem Nm5.bk {w:World} {g cap:Nat} {c:Array Value} {ks:List Int} (h:Bk w g c 3) (hc:c.toList = ks.map (.int .i64)) (hl:ks.length <= 100):Nm5 w (.slice (some ⟨g,0,none⟩) ks.length cap) ks:=by
 refine ⟨g,cap,rfl,hl,fun i x hx=>h.cell ?_⟩
 rw [<- Array.getElem?_toList,hc,List.getElem?_map,hx];rfl
theorem store5y {w:World} {g:Nat} {t:TypeId} {z0 z1 z2 z3 z4 a b c d e:Value} (h:Bk w g #[z0,z1,z2,z3,z4] t):Bk (((((w.setCell ⟨g,0,none⟩ a).setCell ⟨g,1,none⟩ b).setCell ⟨g,2,none⟩ c).setCell ⟨g,3,none⟩ d).setCell ⟨g,4,none⟩ e) g #[a,b,c,d,e] t:=by
 have:=((((h.set 0 a).set 1 b).set 2 c).set 3 d).set 4 e
 simpa using this
theorem kind5_0 (c:Pk) (s:Ps) (w:World) (h:PZ c w s) :
  Calls Tryz.prog 124 #[.pointer (some ⟨c.g,0,none⟩),.int .i64 0] w fun e w'=>e = .returned (.int .i64 (kd5 c.T s 0)) /\ Below w.heap.size w w':=kind5_any 0 (by omega) c s w h
theorem kind5_1 (c:Pk) (s:Ps) (w:World) (h:PZ c w s) :
  Calls Tryz.prog 124 #[.pointer (some ⟨c.g,0,none⟩),.int .i64 1] w fun e w'=>e = .returned (.int .i64 (kd5 c.T s 1)) /\ Below w.heap.size w w':=kind5_any 1 (by omega) c s w h
set_option maxRecDepth 20000 in
set_option maxHeartbeats 1000000 in
theorem take5_no (ks:List Int) (kv:Value) (c:Pk) (s:Ps) (w:World) (h:PZ c w s) (hk:Nm5 w kv ks) (hn:kd5 c.T s 0 ∉ ks) :
  Calls Tryz.prog 85 #[.pointer (some ⟨c.g,0,none⟩),kv] w fun e w'=>e = .panicked [pF (51,pl5 c.T c.L s)] /\ Below w.heap.size w w':=by
 obtain ⟨R,hR⟩:∃ R,kd5 c.T s 0 = R:=⟨_,rfl⟩
 obtain ⟨P,hP⟩:∃ P,pl5 c.T c.L s = P:=⟨_,rfl⟩
 have HK:Hid (∀ X:World,Below w.heap.size w X -> Calls Tryz.prog 124 #[.pointer (some ⟨c.g,0,none⟩),.int .i64 0] X fun e w'=>e = .returned (.int .i64 R) /\ Below X.heap.size X w'):=fun X hX=>by rw [<- hR];exact kind5_0 c s X (h.below hX)
 have HC:Hid (∀ X:World,Below w.heap.size w X -> Calls Tryz.prog 123 #[kv,.int .i64 R] X fun e w'=>e = .returned (.bool false) /\ w' = X):=fun X hX=>by
  have:=cont5_any ks kv R X (hk.below hX)
  rw [decide_eq_false (by rw [<- hR];exact hn)] at this
  exact this
 have HP:Hid (∀ X:World,Below w.heap.size w X -> Calls Tryz.prog 87 #[.pointer (some ⟨c.g,0,none⟩)] X fun e w'=>e = .returned (.int .i64 P) /\ Below X.heap.size X w'):=fun X hX=>by rw [<- hP];exact place5_any c s X (h.below hX)
 obtain ⟨kb,cap,rfl, -, -⟩:=hk
 rw [hP]
 clear h hn hR hP
 generalize c.g = g at *
 generalize ks.length = kn at *
 go_enter Tryz.func85,Tryz.ntmps85
 go_wp2_with (first
  | (go_at_call 124;refine (HK.out _ (below1 _ _)).mono ?_;rintro e w1 ⟨rfl,hb⟩;have HB1:=hm7 ((below1 _ _).trans (hb.mono (below1 _ _).size));clear hb)
  | (go_at_call 123;refine (HC.out _ HB1.out).mono ?_;rintro e w2 ⟨rfl,hw⟩;rw [hw];clear hw w2)
  | (go_at_call 87;refine (HP.out _ HB1.out).mono ?_;rintro e w3 ⟨rfl,hb⟩;have HB3:=hm7 (HB1.out.trans (hb.mono HB1.out.size));clear hb)
  | (go_at_call 86;refine (giveUp5_any 51 P _).mono ?_;rintro e w4 ⟨rfl,hw⟩;rw [hw];clear hw w4))
 exact ⟨rfl,rfl,HB3.out⟩
set_option maxRecDepth 20000 in
set_option maxHeartbeats 2000000 in
theorem take5_ok (t:Tk) (ks:List Int) (kv:Value) (c:Pk) (s:Ps) (w:World) (h:PZ c w s) (hk:Nm5 w kv ks) (ht:c.T[s.nx]? = some t) (hn:t.k ∈ ks) :
  Calls Tryz.prog 85 #[.pointer (some ⟨c.g,0,none⟩),kv] w fun e w'=>e = .returned t.v /\ PZ c w' ⟨s.nx + 1,s.op,s.vs,s.nm⟩ /\ Fr (W5 c) w w':=by
 have hR:kd5 c.T s 0 = t.k:=by unfold kd5;rw [Nat.add_zero,ht];rfl
 have hlt:s.nx < c.T.length:=(List.getElem?_eq_some_iff.1 ht).1
 have hl:=h.ok.l
 have HK:Hid (∀ X:World,Below w.heap.size w X -> Calls Tryz.prog 124 #[.pointer (some ⟨c.g,0,none⟩),.int .i64 0] X fun e w'=>e = .returned (.int .i64 t.k) /\ Below X.heap.size X w'):=fun X hX=>by rw [<- hR];exact kind5_0 c s X (h.below hX)
 have HC:Hid (∀ X:World,Below w.heap.size w X -> Calls Tryz.prog 123 #[kv,.int .i64 t.k] X fun e w'=>e = .returned (.bool true) /\ w' = X):=fun X hX=>by
  have:=cont5_any ks kv t.k X (hk.below hX)
  rw [decide_eq_true hn] at this
  exact this
 have HZ:Hid (∀ X:World,Below w.heap.size w X -> PZ c X s):=fun X hX=>h.below hX
 have HLT:=hm7 hlt
 have HW:=hm7 h
 obtain ⟨a,cap,htv,htt⟩:=h.t
 have HCW:Hid (∃ b,a = some ⟨b,0,none⟩ /\ ∀ X:World,Below w.heap.size w X -> X.cell? ⟨c.g,0,none⟩ = some c.tv /\ X.cell? ⟨c.g,1,none⟩ = some (.int .i64 (s.nx:Int)) /\ X.cell? ⟨b,s.nx * 5,none⟩ = some (.int .i64 t.k) /\ X.cell? ⟨b,s.nx * 5 + 1,none⟩ = some (.string t.x) /\ X.cell? ⟨b,s.nx * 5 + 2,none⟩ = some (.int .i64 t.n) /\ X.cell? ⟨b,s.nx * 5 + 3,none⟩ = some (.int .i64 t.a) /\ X.cell? ⟨b,s.nx * 5 + 4,none⟩ = some (.int .i64 t.e)):=by
  rcases htt with e | ⟨b,rfl,hb, -,hc⟩
  ·rw [e] at ht;simp at ht
  ·refine ⟨b,rfl,fun X hX=>?_⟩
   obtain ⟨c0,c1,c2,c3,c4⟩:=hc _ _ ht
   have f:Fr (fun _=>False) w X:=Fr.of hX
   exact ⟨(h.below hX).b.cell (i:=0) rfl,(h.below hX).b.cell (i:=1) rfl,f.cell hb (fun x=>x) c0,f.cell hb (fun x=>x) c1,f.cell hb (fun x=>x) c2,f.cell hb (fun x=>x) c3,f.cell hb (fun x=>x) c4⟩
 obtain ⟨b,rfl,HCX⟩:=HCW.out
 obtain ⟨kb,kcap,rfl, -, -⟩:=hk
 generalize ks.length = kn at *
 have hgw:c.g < w.heap.size:=h.b.lt
 obtain ⟨nx,hnx⟩:∃ nx,s.nx = nx:=⟨_,rfl⟩
 have HTV:=hm7 htv
 rw [htv] at HCX
 rw [hnx] at HCX hlt
 have HX:=hm7 hnx
 obtain ⟨tl,htl⟩:∃ tl,c.T.length = tl:=⟨_,rfl⟩
 rw [htl] at HCX hlt hl
 have HCY:=hm7 HCX
 clear h hn hR HCX HCW htt htv hnx htl ht
 obtain ⟨g,mb,N,tv,T,L⟩:=c
 dsimp only at *
 obtain ⟨tk,tx,tn,ta,te⟩:=t
 simp only at HCY HK HC
 have i1:(nx:Int) < (tl:Int):=by omega
 have i2:(0:Int) <= (nx:Int):=by omega
 have HR0:=hm7 (Bk.new w #[.int .i64 0,.string ⟨#[]⟩,.int .i64 0,.int .i64 0,.int .i64 0] 64)
 have HB0:=hm7 (below1 w (.cells #[.int .i64 0,.string ⟨#[]⟩,.int .i64 0,.int .i64 0,.int .i64 0] 64))
 go_enter Tryz.func85,Tryz.ntmps85
 go_upto_region 1 with fail
 revert HR0 HB0
 generalize w.alloc (.cells #[.int .i64 0,.string ⟨#[]⟩,.int .i64 0,.int .i64 0,.int .i64 0] 64) = W0
 obtain ⟨r,hr⟩:∃ r,w.heap.size = r:=⟨_,rfl⟩
 intro HR0 HB0
 rw [hr] at HR0
 rw [hr]
 have HRQ:=hm7 hr
 clear hr
 go_upto_region 3 with (first
  | (go_at_call 124;refine (HK.out _ HB0.out).mono ?_;rintro e W1 ⟨rfl,hb⟩;have HB1:=hm7 (HB0.out.trans (hb.mono HB0.out.size));have HR1:=hm7 (HR0.out.below hb);clear hb)
  | (go_at_call 123;refine (HC.out _ HB1.out).mono ?_;rintro e w2 ⟨rfl,hw⟩;rw [hw];clear hw w2))
 have HCL:=hm7 (fun Y hY=>HCY.out Y (HB1.out.trans (Below.mono hY HB1.out.size)))
 refine wp_region_held_drew (S:=fun w'=>Below W1.heap.size W1 w') (by kernel_rfl) (by exact (Below.refl _ _).drew) (fun hH=>?_)
 revert hH
 generalize W1.drew = V0
 intro hH
 refine wTl 0 (.pointer (some ⟨g,0,none⟩)) rfl (by kernel_rfl) (fun _ _ _ h=>h) rfl (fun w' h=>by clear h;go_simp) hH ?_
 simp only [wA,wB,wC,wD]
 refine wTl 1 (.pointer (some ⟨g,0,none⟩)) rfl (by kernel_rfl) (fun _ _ _ h=>h) rfl (fun w' h=>by clear h;go_simp) hH ?_
 simp only [wA,wB,wC,wD]
 refine wTl 2 (.pointer (some ⟨g,0,none⟩)) rfl (by kernel_rfl) (fun _ _ _ h=>h) rfl (fun w' h=>by clear h;go_simp) hH ?_
 simp only [wA,wB,wC,wD]
 refine wTl 3 (.slice (some ⟨b,0,none⟩) tl cap) rfl (by kernel_rfl) (fun _ _ _ h=>h) rfl (fun w' h=>by have q:=(HCL.out w' h).1;clear h;go_simp) hH ?_
 simp only [wA,wB,wC,wD]
 refine wTl 4 (.pointer (some ⟨g,0,none⟩)) rfl (by kernel_rfl) (fun _ _ _ h=>h) rfl (fun w' h=>by clear h;go_simp) hH ?_
 simp only [wA,wB,wC,wD]
 refine wTl 5 (.pointer (some ⟨g,0,none⟩)) rfl (by kernel_rfl) (fun _ _ _ h=>h) rfl (fun w' h=>by clear h;go_simp) hH ?_
 simp only [wA,wB,wC,wD]
 refine wTl 6 (.pointer (some ⟨g,1,none⟩)) rfl (by kernel_rfl) (fun _ _ _ h=>h) rfl (fun w' h=>by clear h;go_simp) hH ?_
 simp only [wA,wB,wC,wD]
 refine wTl 7 (.int .i64 (nx:Int)) rfl (by kernel_rfl) (fun _ _ _ h=>h) rfl (fun w' h=>by have q:=(HCL.out w' h).2.1;clear h;go_simp) hH ?_
 simp only [wA,wB,wC,wD]
 refine wTl 8 (.pointer (some ⟨b,nx * 5,none⟩)) rfl (by kernel_rfl) (fun _ _ _ h=>h) rfl (fun w' h=>by clear h;go_simp) hH ?_
 simp only [wA,wB,wC,wD]
 refine wTl 9 (.agg #[.int .i64 tk,.string tx,.int .i64 tn,.int .i64 ta,.int .i64 te]) rfl (by kernel_rfl) (fun _ _ _ h=>h) rfl (fun w' h=>by obtain ⟨-, -,q0,q1,q2,q3,q4⟩:=HCL.out w' h;clear h;go_simp) hH ?_
 simp only [wA,wB,wC,wD]
 refine wRd 10 (by kernel_rfl) rfl (fun K hK=>?_)
 go_simp
 have HCC:=hm7 (Bk.new V0 (#[.int .i64 0,.string ⟨#[]⟩,.int .i64 0,.int .i64 0,.int .i64 0]) 64)
 have HCZ:=hm7 hH.size
 refine hK.out _ _ (hH.trans ((below1 _ _).mono hH.size)) (fun hH=>?_)
 clear hK
 try simp only [wA,wB,wC,wD]
 generalize V0.alloc (.cells (#[.int .i64 0,.string ⟨#[]⟩,.int .i64 0,.int .i64 0,.int .i64 0]) 64) = V1 at *
 generalize V0.heap.size = C at *
 have q0:=HCC.out.cell (i:=0) rfl
 have q1:=HCC.out.cell (i:=1) rfl
 have q2:=HCC.out.cell (i:=2) rfl
 have q3:=HCC.out.cell (i:=3) rfl
 have q4:=HCC.out.cell (i:=4) rfl
 have f0:=HCC.out.froz 0
 have f1:=HCC.out.froz 1
 have f2:=HCC.out.froz 2
 have f3:=HCC.out.froz 3
 have f4:=HCC.out.froz 4
 have hcl:=HCC.out.lt
 refine wRd 11 (by kernel_rfl) rfl (fun K hK=>?_)
 go_simp
 refine hK.out _ _ (((((hH.setCell (p:=⟨C,0,none⟩) HCZ.out _).setCell (p:=⟨C,1,none⟩) HCZ.out _).setCell (p:=⟨C,2,none⟩) HCZ.out _).setCell (p:=⟨C,3,none⟩) HCZ.out _).setCell (p:=⟨C,4,none⟩) HCZ.out _) (fun hH=>?_)
 clear hK
 try simp only [wA,wB,wC,wD]
 refine wpAnyH_done (by kernel_rfl) ?_ _
 have HB2:=hm7 hH
 have HC2:=hm7 (store5y HCC.out (a:=.int .i64 tk) (b:=.string tx) (c:=.int .i64 tn) (d:=.int .i64 ta) (e:=.int .i64 te))
 clear hH q0 q1 q2 q3 q4 f0 f1 f2 f3 f4 hcl HCC
 revert HB2 HC2
 generalize ((((V1.setCell ⟨C,0,none⟩ (.int .i64 tk)).setCell ⟨C,1,none⟩ (.string tx)).setCell ⟨C,2,none⟩ (.int .i64 tn)).setCell ⟨C,3,none⟩ (.int .i64 ta)).setCell ⟨C,4,none⟩ (.int .i64 te) = W2
 intro HB2 HC2
 have HB3:=hm7 (HB1.out.trans (HB2.out.mono HB1.out.size))
 have HZ2:=hm7 (HZ.out W2 HB3.out)
 have HR2:=hm7 (HR1.out.below HB2.out)
 have hnx1:((nx + 1:Nat):Int) = (nx:Int) + 1:=by omega
 have HG3:Hid (Bk (W2.setCell ⟨g,1,none⟩ (.int .i64 ((nx:Int) + 1))) g #[tv,.int .i64 ((nx + 1:Nat):Int),.int .i64 (L:Int),.int .i64 (s.op:Int),.map (some mb),.int .i64 (s.vs:Int)] 109):=by
  have:=HZ2.out.b.set 1 (.int .i64 ((nx:Int) + 1))
  show Bk _ _ _ _
  rw [hnx1]
  simpa using this
 have HF3:Hid (Fr (fun b=>b = g) w (W2.setCell ⟨g,1,none⟩ (.int .i64 ((nx:Int) + 1)))):=(Fr.of HB3.out).set (Or.inl rfl)
 clear hnx1
 have n0:=(HCY.out W2 HB3.out).2.1
 have fg:=HZ2.out.b.froz 1
 have hgl:=HZ2.out.b.lt
 have HC3:=hm7 (HC2.out.off (G:=g) (i:=1) (v:=.int .i64 ((nx:Int) + 1)) (fun e=>by have:=HCZ.out;have:=HB1.out.size;omega))
 have HR3:=hm7 (HR2.out.off (G:=g) (i:=1) (v:=.int .i64 ((nx:Int) + 1)) (fun e=>by have:=HRQ.out;omega))
 go_upto_region 5 with fail
 clear n0 fg hgl
 revert HG3 HF3 HC3 HR3
 generalize W2.setCell ⟨g,1,none⟩ (.int .i64 ((nx:Int) + 1)) = W3
 intro HG3 HF3 HC3 HR3
 have q0:=HC3.out.cell (i:=0) rfl
 have q1:=HC3.out.cell (i:=1) rfl
 have q2:=HC3.out.cell (i:=2) rfl
 have q3:=HC3.out.cell (i:=3) rfl
 have q4:=HC3.out.cell (i:=4) rfl
 have r0:=HR3.out.cell (i:=0) rfl
 have r1:=HR3.out.cell (i:=1) rfl
 have r2:=HR3.out.cell (i:=2) rfl
 have r3:=HR3.out.cell (i:=3) rfl
 have r4:=HR3.out.cell (i:=4) rfl
 have f0:=HR3.out.froz 0
 have f1:=HR3.out.froz 1
 have f2:=HR3.out.froz 2
 have f3:=HR3.out.froz 3
 have f4:=HR3.out.froz 4
 have hrl:=HR3.out.lt
 have HRZ:=hm7 (store5y HR3.out (a:=.int .i64 tk) (b:=.string tx) (c:=.int .i64 tn) (d:=.int .i64 ta) (e:=.int .i64 te))
 have z0:=HRZ.out.cell (i:=0) rfl
 have z1:=HRZ.out.cell (i:=1) rfl
 have z2:=HRZ.out.cell (i:=2) rfl
 have z3:=HRZ.out.cell (i:=3) rfl
 have z4:=HRZ.out.cell (i:=4) rfl
 have HRW:Hid (w.heap.size <= r):=by show _ <= _;rw [HRQ.out];exact Nat.le_refl _
 have HFZ:=hm7 (((((HF3.out.set (i:=0) (v:=.int .i64 tk) (Or.inr HRW.out)).set (i:=1) (v:=.string tx) (Or.inr HRW.out)).set (i:=2) (v:=.int .i64 tn) (Or.inr HRW.out)).set (i:=3) (v:=.int .i64 ta) (Or.inr HRW.out)).set (i:=4) (v:=.int .i64 te) (Or.inr HRW.out))
 have HGN:Hid (g ≠ r):=fun e=>by have:=HRW.out;omega
 have HGZ:=hm7 (((((HG3.out.off (i:=0) (v:=.int .i64 tk) HGN.out).off (i:=1) (v:=.string tx) HGN.out).off (i:=2) (v:=.int .i64 tn) HGN.out).off (i:=3) (v:=.int .i64 ta) HGN.out).off (i:=4) (v:=.int .i64 te) HGN.out)
 go_wp2
 refine bodyPost_ret (v:=.agg #[.int .i64 tk,.string tx,.int .i64 tn,.int .i64 ta,.int .i64 te]) (by simp [results,Tryz.results85,go_sem,z0,z1,z2,z3,z4]) rfl ?_
 have h5:=HW.out.put HFZ.out HGZ.out (by have h1:s.nx < T.length:=HLT.out;have:=HX.out;show nx + 1 <= T.length;omega) (by have:=HW.out.vb;have:=HX.out;omega) HW.out.ob (Nat.le_refl _)
 rw [<- HX.out] at h5
 exact ⟨rfl,h5,HFZ.out.mono fun b _ e=>Or.inl e⟩
end Go.Proofs.YtcpjiahdaplhlaaGreatDoor
namespace Go.Proofs.YtcpjiahdaplhlaaGreatDoor
open Go.RowKit
attribute [local go_sem ↓] Go.wp_at_zero Go.wp_at_succ
theorem W5.of {c:Pk} {w w':World} (h:Below w.heap.size w w'):Fr (W5 c) w w':=Fr.of h
theorem take5_any (ks:List Int) (kv:Value) (c:Pk) (s:Ps) (w:World) (h:PZ c w s) (hk:Nm5 w kv ks) (h0:(0:Int) ∉ ks) :
  Calls Tryz.prog 85 #[.pointer (some ⟨c.g,0,none⟩),kv] w (P5P c w (fun (t:Tk) v _=>v = t.v) (tk5 c.T c.L ks s)):=by
 unfold tk5
 cases ht:c.T[s.nx]? with
 | none=>
  have e1:kd5 c.T s 0 = 0:=by unfold kd5;rw [Nat.add_zero,ht];rfl
  have e2:pl5 c.T c.L s = c.L:=by unfold pl5;rw [ht];rfl
  have:=take5_no ks kv c s w h hk (by rw [e1];exact h0)
  rw [e2] at this
  exact this.mono fun e w' ⟨h1,h2⟩=>⟨W5.of h2,h1⟩
 | some t=>
  by_cases hm:t.k ∈ ks
  ·simp only [if_pos hm]
   exact (take5_ok t ks kv c s w h hk ht hm).mono fun e w' ⟨h1,h2,h3⟩=>⟨h3,_,h1,rfl,h2⟩
  ·simp only [if_neg hm]
   have e1:kd5 c.T s 0 = t.k:=by unfold kd5;rw [Nat.add_zero,ht];rfl
   have e2:pl5 c.T c.L s = t.a:=by unfold pl5;rw [ht];rfl
   have:=take5_no ks kv c s w h hk (by rw [e1];exact hm)
   rw [e2] at this
   exact this.mono fun e w' ⟨h1,h2⟩=>⟨W5.of h2,h1⟩
theorem tk5_some {T:List Tk} {L:Nat} {ks:List Int} {s s':Ps} {t:Tk} (h:tk5 T L ks s = .ok (t,s')):T[s.nx]? = some t /\ t.k ∈ ks /\ s' = ⟨s.nx + 1,s.op,s.vs,s.nm⟩:=by
 unfold tk5 at h
 cases ht:T[s.nx]? with
 | none=>rw [ht] at h;simp at h
 | some u=>
  rw [ht] at h
  by_cases hm:u.k ∈ ks
  ·simp only [if_pos hm,Except.ok.injEq,Prod.mk.injEq] at h
   obtain ⟨rfl,rfl⟩:=h
   exact ⟨rfl,hm,rfl⟩
  ·simp [if_neg hm] at h
def us5:ByteArray:=⟨#[95]⟩
def nput (f:ByteArray -> Option Nat) (x:ByteArray) (n:Nat):ByteArray -> Option Nat:=fun y=>if y = x then some n else f y
def va5 (x:ByteArray) (s:Ps):Nat × Ps:=
 if (s.nm x).isSome = true /\ x ≠ us5 then ((s.nm x).getD 0,s) else (s.vs,⟨s.nx,s.op,s.vs + 1,nput s.nm x s.vs⟩)
theorem PZ.named {c:Pk} {w W1:World} {s:Ps} {n:Nat} {x:ByteArray} (h:PZ c w s) (hv:s.vs < s.nx) (hn:n <= s.vs + 1) (hm:Mp Tryz.prog 9 W1 c.mb n (mput (fun y=>(s.nm y).map fun k=>.int .i64 (k:Int)) x (.int .i64 (s.vs:Int)))) (hg:w.grownBy W1 (some c.mb)) :
  PZ c (W1.setCell ⟨c.g,5,none⟩ (.int .i64 ((s.vs:Int) + 1))) ⟨s.nx,s.op,s.vs + 1,nput s.nm x s.vs⟩ /\ Fr (W5 c) w (W1.setCell ⟨c.g,5,none⟩ (.int .i64 ((s.vs:Int) + 1))):=by
 have f1:Fr (fun b=>b = c.mb) w W1:=Fr.grown hg fun k e=>(Option.some.inj e).symm
 have f2:Fr (fun b=>b = c.g) W1 (W1.setCell ⟨c.g,5,none⟩ (.int .i64 ((s.vs:Int) + 1))):=(Fr.refl _ _).set (Or.inl rfl)
 have f3:Fr (W5 c) w (W1.setCell ⟨c.g,5,none⟩ (.int .i64 ((s.vs:Int) + 1))):=(f1.mono (Q:=W5 c) fun b _ e=>Or.inr e).trans f2 fun b _ e=>Or.inl e
 refine ⟨⟨?_,h.t.fr f3 fun b _ hF e=>?_,⟨n,hn, ?_⟩,h.le,hv,h.ob,h.ne,h.gN,h.mN,Nat.le_trans h.Nw f3.size,h.ok,h.o.fr f3 (fun e=>by rcases e with e | e;exact h.og.1 e.symm;exact h.og.2.1 e.symm),h.og⟩,f3⟩
 ·have:=(h.b.fr f1 h.ne).set 5 (.int .i64 ((s.vs:Int) + 1))
  simpa using this
 ·rcases e with e | e
  ·exact hF.1 e
  ·exact hF.2.1 e
 ·have e:(mput (fun y=>(s.nm y).map fun k=>Value.int .i64 (k:Int)) x (.int .i64 (s.vs:Int))) = fun y=>(nput s.nm x s.vs y).map fun k=>Value.int .i64 (k:Int):=by
   funext y
   unfold mput nput
   by_cases hy:y = x <;> simp [hy]
  rw [e] at hm
  exact hm.fr f2 fun e=>h.ne e.symm
theorem zero5 (X:World):(zeroValue 3).run Tryz.prog X = .ok (.int .i64 0) X:=by kernel_rfl
theorem us5_ne {x:ByteArray} (h:x ≠ us5):(x.toList == [95]) = false:=by
 rw [ByteArray.toList_eq,beq_eq_false_iff_ne]
 intro e
 apply h
 obtain ⟨⟨a⟩⟩:=x
 simp at e
 unfold us5
 rw [e]
set_option maxRecDepth 20000 in
set_option maxHeartbeats 1000000 in
theorem variable5_any (x:ByteArray) (hx:x.size <= 2000000) (c:Pk) (s:Ps) (w:World) (h:PZ c w s) (hv:s.vs < s.nx) :
  Calls Tryz.prog 209 #[.pointer (some ⟨c.g,0,none⟩),.string x] w fun e w'=>e = .returned (.int .i64 ((va5 x s).1:Int)) /\ PZ c w' (va5 x s).2 /\ Fr (W5 c) w w':=by
 obtain ⟨n,hn,hm⟩:=h.m
 have hlk:=hm.has Tryz.underlying9 Tryz.underlying107 (zero5 w) (s:=x) (by unfold maxLen;omega)
 have hst:=hm.store Tryz.underlying9 Tryz.underlying107 (s:=x) (by have:=h.vb;have:=h.le;have:=h.ok.l;unfold maxLen;omega) (by unfold maxLen;omega) (.int .i64 (s.vs:Int))
 have c4:=h.b.cell (i:=4) rfl
 have c5:=h.b.cell (i:=5) rfl
 have hgl:=h.b.lt
 have HZ:=hm7 h
 have hvb:s.vs <= 2000000:=by have:=h.vb;have:=h.le;have:=h.ok.l;omega
 by_cases hh:(s.nm x).isSome = true /\ x ≠ us5
 ·obtain ⟨k,hk⟩:∃ k,s.nm x = some k:=Option.isSome_iff_exists.1 hh.1
  have e1:va5 x s = (k,s):=by unfold va5;rw [if_pos hh,hk];rfl
  rw [e1]
  replace hlk:(Instr.lookup 107 (.map (some c.mb)) (.string x) true).run Tryz.prog w = .ok (.tuple #[.int .i64 (k:Int),.bool true]) w:=by rw [hlk];simp [hk]
  have hu:=us5_ne hh.2
  clear hst hh h hm hk e1
  generalize c.g = g at *
  generalize c.mb = mb at *
  go_enter Tryz.func209,Tryz.ntmps209
  go_wp2
  go_ret
  exact ⟨rfl,HZ.out,Fr.refl _ _⟩
 ·have e1:va5 x s = (s.vs,⟨s.nx,s.op,s.vs + 1,nput s.nm x s.vs⟩):=by unfold va5;rw [if_neg hh]
  rw [e1]
  obtain ⟨W1,hrun,hmp,hgr⟩:=hst
  have hle:(if ((s.nm x).map fun k=>Value.int .i64 (k:Int)).isSome then n else n + 1) <= s.vs + 1:=by split <;> omega
  obtain ⟨hz,hf⟩:=h.named hv hle hmp hgr
  have HZ1:=hm7 hz
  have HF1:=hm7 hf
  have hb1:Bk W1 c.g _ 109:=h.b.fr (Fr.grown (P:=fun b=>b = c.mb) hgr fun k e=>(Option.some.inj e).symm) h.ne
  have d5:=hb1.cell (i:=5) rfl
  have df:=hb1.froz 5
  have dl:=hb1.lt
  clear hz hf hb1 hmp hgr hle h hm e1
  by_cases hs:(s.nm x).isSome = true
  ·have hxu:x = us5:=Classical.byContradiction fun e=>hh ⟨hs,e⟩
   subst hxu
   obtain ⟨k,hk⟩:∃ k,s.nm us5 = some k:=Option.isSome_iff_exists.1 hs
   replace hlk:(Instr.lookup 107 (.map (some c.mb)) (.string us5) true).run Tryz.prog w = .ok (.tuple #[.int .i64 (k:Int),.bool true]) w:=by rw [hlk];simp [hk]
   clear hh hs hk
   generalize c.g = g at *
   generalize c.mb = mb at *
   generalize s.vs = vs at *
   unfold us5 at *
   go_enter Tryz.func209,Tryz.ntmps209
   go_wp2
   go_ret
   exact ⟨rfl,HZ1.out,HF1.out⟩
  ·have hk:s.nm x = none:=by simpa using hs
   replace hlk:(Instr.lookup 107 (.map (some c.mb)) (.string x) true).run Tryz.prog w = .ok (.tuple #[.int .i64 0,.bool false]) w:=by rw [hlk];simp [hk]
   clear hh hs hk
   generalize c.g = g at *
   generalize c.mb = mb at *
   generalize s.vs = vs at *
   go_enter Tryz.func209,Tryz.ntmps209
   go_wp2
   go_ret
   exact ⟨rfl,HZ1.out,HF1.out⟩
end Go.Proofs.YtcpjiahdaplhlaaGreatDoor
namespace Go.Proofs.YtcpjiahdaplhlaaGreatDoor
open Go.RowKit
attribute [local go_sem ↓] Go.wp_at_zero Go.wp_at_succ
theorem two5 (w:World) (c0 c1:Array Value) (t0 t1:TypeId):Bk ((w.alloc (.cells c0 t0)).alloc (.cells c1 t1)) (w.heap.size + 1) c1 t1 /\ Bk ((w.alloc (.cells c0 t0)).alloc (.cells c1 t1)) w.heap.size c0 t0 /\ Below w.heap.size w ((w.alloc (.cells c0 t0)).alloc (.cells c1 t1)):=by
 refine ⟨?_,(Bk.new _ _ _).below (below1 _ _),(below1 w (.cells c0 t0)).trans ((below1 _ _).mono (below1 w (.cells c0 t0)).size)⟩
 have:=Bk.new (w.alloc (.cells c0 t0)) c1 t1
 rw [show (w.alloc (.cells c0 t0)).heap.size = w.heap.size + 1 by simp] at this
 exact this
theorem PZ.nw {c:Pk} {w:World} {s:Ps} {r:Nat} (h:PZ c w s) (hr:w.heap.size <= r):¬ W5 c r /\ c.N <= r:=
 ⟨fun e=>by rcases e with e | e <;> (have:=h.gN;have:=h.mN;have:=h.Nw;omega),Nat.le_trans h.Nw hr⟩
theorem store3y {w:World} {g:Nat} {t:TypeId} {z0 z1 z2 a b c:Value} (h:Bk w g #[z0,z1,z2] t):Bk (((w.setCell ⟨g,0,none⟩ a).setCell ⟨g,1,none⟩ b).setCell ⟨g,2,none⟩ c) g #[a,b,c] t:=by
 have:=((h.set 0 a).set 1 b).set 2 c
 simpa using this
theorem PZ.off3 {c:Pk} {w:World} {s:Ps} {r:Nat} {x y z:Value} (h:PZ c w s) (hr:c.N <= r):PZ c (((w.setCell ⟨r,0,none⟩ x).setCell ⟨r,1,none⟩ y).setCell ⟨r,2,none⟩ z) s:=((h.off hr).off hr).off hr
theorem fr_off3 {P:Nat -> Prop} {w0 w:World} {r:Nat} {x y z:Value} (h:Fr P w0 w) (hr:w0.heap.size <= r):Fr P w0 (((w.setCell ⟨r,0,none⟩ x).setCell ⟨r,1,none⟩ y).setCell ⟨r,2,none⟩ z):=((h.set (Or.inr hr)).set (Or.inr hr)).set (Or.inr hr)
def mean5 (t:Tk) (s:Ps):Tm × Ps:=if t.k = 2 then (⟨3,((va5 t.x s).1:Int),⟨#[]⟩⟩,(va5 t.x s).2) else if t.k = 4 then (⟨1,t.n,⟨#[]⟩⟩,s) else (⟨2,0,t.x⟩,s)
set_option maxRecDepth 20000 in
set_option maxHeartbeats 1000000 in
theorem meaning5_any (t:Tk) (hx:t.x.size <= 2000000) (c:Pk) (s:Ps) (w:World) (h:PZ c w s) (hv:s.vs < s.nx) :
  Calls Tryz.prog 192 #[.pointer (some ⟨c.g,0,none⟩),t.v] w fun e w'=>e = .returned (mean5 t s).1.v /\ PZ c w' (mean5 t s).2 /\ Fr (W5 c) w w':=by
 obtain ⟨r1,r0,hb0⟩:=two5 w #[.int .i64 t.k,.string t.x,.int .i64 t.n,.int .i64 t.a,.int .i64 t.e] #[.int .i64 0,.int .i64 0,.string ⟨#[]⟩] 64 39
 have HV:Hid (∀ X:World,PZ c X s -> Calls Tryz.prog 209 #[.pointer (some ⟨c.g,0,none⟩),.string t.x] X fun e w'=>e = .returned (.int .i64 ((va5 t.x s).1:Int)) /\ PZ c w' (va5 t.x s).2 /\ Fr (W5 c) X w'):=fun X hX=>variable5_any t.x hx c s X hX hv
 obtain ⟨k1,k2⟩:=h.nw (r:=w.heap.size + 1) (by omega)
 have HK1:=hm7 k1
 have HK2:=hm7 k2
 have HB0:=hm7 hb0
 have HZ0:=hm7 (h.below hb0)
 have HR0:=hm7 r1
 have HT0:=hm7 r0
 have HWZ:Hid (w.heap.size <= w.heap.size + 1):=Nat.le_succ _
 obtain ⟨Y0,hY0⟩:∃ Y0,(w.alloc (.cells #[.int .i64 t.k,.string t.x,.int .i64 t.n,.int .i64 t.a,.int .i64 t.e] 64)).alloc (.cells #[.int .i64 0,.int .i64 0,.string ⟨#[]⟩] 39) = Y0:=⟨_,rfl⟩
 rw [hY0] at HB0 HZ0 HR0 HT0
 have HY0:=hm7 hY0
 obtain ⟨q,hq⟩:∃ q,w.heap.size = q:=⟨_,rfl⟩
 rw [hq] at HK1 HK2 HR0 HT0
 have HQ:=hm7 hq
 unfold mean5
 clear h r1 r0 hb0 k1 k2 hY0 hq
 obtain ⟨tk,tx,tn,ta,te⟩:=t
 dsimp only at *
 have d0:=HT0.out.cell (i:=0) rfl
 have d1:=HT0.out.cell (i:=1) rfl
 have d2:=HT0.out.cell (i:=2) rfl
 have r0:=HR0.out.cell (i:=0) rfl
 have r1:=HR0.out.cell (i:=1) rfl
 have r2:=HR0.out.cell (i:=2) rfl
 have f0:=HR0.out.froz 0
 have f1:=HR0.out.froz 1
 have f2:=HR0.out.froz 2
 have hrl:=HR0.out.lt
 have HQW:Hid (w.heap.size <= q + 1):=by show _ <= _;rw [HQ.out];exact Nat.le_succ _
 by_cases h2:tk = 2
 ·rw [if_pos h2]
  obtain ⟨vn,hvn⟩:∃ vn:Nat,(va5 tx s).1 = vn:=⟨_,rfl⟩
  obtain ⟨vs',hvs⟩:∃ u,(va5 tx s).2 = u:=⟨_,rfl⟩
  rw [hvn,hvs] at HV ⊢
  subst h2
  clear hvn hvs
  go_enter Tryz.func192,Tryz.ntmps192
  go_upto_region 1 with fail
  rw [HY0.out,HQ.out]
  clear HY0
  go_upto_region 4 with (go_at_call 209;refine (HV.out _ HZ0.out).mono ?_;rintro e W1 ⟨rfl,hz,hf⟩;have HZ1:=hm7 hz;have HF1:=hm7 (W5.of (c:=c) HB0.out |>.tr hf);have HR1:=hm7 (HR0.out.fr hf HK1.out);have r0':=HR1.out.cell (i:=0) rfl;have r1':=HR1.out.cell (i:=1) rfl;have r2':=HR1.out.cell (i:=2) rfl;have f0':=HR1.out.froz 0;have f1':=HR1.out.froz 1;have f2':=HR1.out.froz 2;have hrl':=HR1.out.lt;clear hz hf d0 d1 d2 r0 r1 r2 f0 f1 f2 hrl HR0)
  all_goals skip
  have HRZ:=hm7 (store3y HR1.out (a:=.int .i64 3) (b:=.int .i64 (vn:Int)) (c:=.string ⟨#[]⟩))
  have z0:=HRZ.out.cell (i:=0) rfl
  have z1:=HRZ.out.cell (i:=1) rfl
  have z2:=HRZ.out.cell (i:=2) rfl
  have HZ2:=hm7 (HZ1.out.off3 (x:=.int .i64 3) (y:=.int .i64 (vn:Int)) (z:=.string ⟨#[]⟩) HK2.out)
  have HF2:=hm7 (fr_off3 (x:=.int .i64 3) (y:=.int .i64 (vn:Int)) (z:=.string ⟨#[]⟩) HF1.out HQW.out)
  try go_wp2
  refine bodyPost_ret (v:=.agg #[.int .i64 3,.int .i64 (vn:Int),.string ⟨#[]⟩]) (by simp [results,Tryz.results192,go_sem,z0,z1,z2]) rfl ?_
  exact ⟨rfl,HZ2.out,HF2.out⟩
 ·have h2':(tk == 2) = false:=by simp [h2]
  rw [if_neg h2]
  by_cases h4:tk = 4
  ·rw [if_pos h4]
   subst h4
   have HRZ:=hm7 (store3y HR0.out (a:=.int .i64 1) (b:=.int .i64 tn) (c:=.string ⟨#[]⟩))
   have z0:=HRZ.out.cell (i:=0) rfl
   have z1:=HRZ.out.cell (i:=1) rfl
   have z2:=HRZ.out.cell (i:=2) rfl
   have HZ2:=hm7 (HZ0.out.off3 (x:=.int .i64 1) (y:=.int .i64 tn) (z:=.string ⟨#[]⟩) HK2.out)
   have HF2:=hm7 (fr_off3 (x:=.int .i64 1) (y:=.int .i64 tn) (z:=.string ⟨#[]⟩) (W5.of (c:=c) HB0.out) HQW.out)
   clear HV
   go_enter Tryz.func192,Tryz.ntmps192
   go_upto_region 1 with fail
   rw [HY0.out,HQ.out]
   clear HY0
   go_wp2
   refine bodyPost_ret (v:=.agg #[.int .i64 1,.int .i64 tn,.string ⟨#[]⟩]) (by simp [results,Tryz.results192,go_sem,z0,z1,z2]) rfl ?_
   exact ⟨rfl,HZ2.out,HF2.out⟩
  ·have h4':(tk == 4) = false:=by simp [h4]
   rw [if_neg h4]
   have HRZ:=hm7 (store3y HR0.out (a:=.int .i64 2) (b:=.int .i64 0) (c:=.string tx))
   have z0:=HRZ.out.cell (i:=0) rfl
   have z1:=HRZ.out.cell (i:=1) rfl
   have z2:=HRZ.out.cell (i:=2) rfl
   have HZ2:=hm7 (HZ0.out.off3 (x:=.int .i64 2) (y:=.int .i64 0) (z:=.string tx) HK2.out)
   have HF2:=hm7 (fr_off3 (x:=.int .i64 2) (y:=.int .i64 0) (z:=.string tx) (W5.of (c:=c) HB0.out) HQW.out)
   clear HV
   go_enter Tryz.func192,Tryz.ntmps192
   go_upto_region 1 with fail
   rw [HY0.out,HQ.out]
   clear HY0
   go_wp2
   refine bodyPost_ret (v:=.agg #[.int .i64 2,.int .i64 0,.string tx]) (by simp [results,Tryz.results192,go_sem,z0,z1,z2]) rfl ?_
   exact ⟨rfl,HZ2.out,HF2.out⟩
def tm5 (T:List Tk) (L:Nat) (s:Ps):R5 Tm:=(tk5 T L [1,3,2,4] s).and fun t s=>.ok (mean5 t s)
set_option maxRecDepth 20000 in
set_option maxHeartbeats 1000000 in
theorem term5_any (c:Pk) (s:Ps) (w:World) (h:PZ c w s) :
  Calls Tryz.prog 160 #[.pointer (some ⟨c.g,0,none⟩)] w (P5P c w (fun (t:Tm) v _=>v = t.v) (tm5 c.T c.L s)):=by
 obtain ⟨k1,r1,hb0⟩:=two5 w #[.int .i64 0,.int .i64 0,.string ⟨#[]⟩] #[.int .i64 1,.int .i64 3,.int .i64 2,.int .i64 4] 39 3
 have HTK:=hm7 (take5_any [1,3,2,4] (.slice (some ⟨w.heap.size + 1,0,none⟩) 4 4) c s _ (h.below hb0) (Nm5.bk (ks:=[1,3,2,4]) k1 rfl (by decide)) (by decide))
 obtain ⟨n1,n2⟩:=h.nw (r:=w.heap.size) (Nat.le_refl _)
 have HN1:=hm7 n1
 have HN2:=hm7 n2
 have HB0:=hm7 hb0
 have HR0:=hm7 r1
 have HX:Hid (∀ t ∈ c.T,t.x.size <= 2000000):=h.ok.x
 have HVB:Hid (s.vs <= s.nx):=h.vb
 obtain ⟨Y0,hY0⟩:∃ Y0,(w.alloc (.cells #[.int .i64 0,.int .i64 0,.string ⟨#[]⟩] 39)).alloc (.cells #[.int .i64 1,.int .i64 3,.int .i64 2,.int .i64 4] 3) = Y0:=⟨_,rfl⟩
 rw [hY0] at HTK HB0 HR0
 have HY0:=hm7 hY0
 obtain ⟨q,hq⟩:∃ q,w.heap.size = q:=⟨_,rfl⟩
 rw [hq] at HTK HN1 HN2 HR0
 have HQ:=hm7 hq
 clear h k1 r1 hb0 n1 n2 hY0 hq
 unfold tm5
 cases hr:tk5 c.T c.L [1,3,2,4] s with
 | error f=>
  have HE:=hm7 (P5P.err HTK.out hr)
  clear HTK hr
  show Calls _ _ _ _ (P5P c w _ (.error f))
  generalize c.g = g at *
  go_enter Tryz.func160,Tryz.ntmps160
  go_wp2_with (go_at_call 85;first | rw [HY0.out] | skip;first | rw [HQ.out] | skip;refine HE.out.mono ?_;rintro e W1 ⟨rfl,hf⟩;have HF1:=hm7 (W5.of (c:=c) HB0.out |>.tr hf);clear hf)
  exact ⟨rfl,HF1.out,rfl⟩
 | ok p=>
  obtain ⟨t,s1⟩:=p
  have HE:=hm7 (P5P.ok HTK.out hr)
  obtain ⟨ht, -,hs1⟩:=tk5_some hr
  have hxs:=HX.out t (List.mem_of_getElem? ht)
  have hvs:s1.vs < s1.nx:=by rw [hs1];have:=HVB.out;show s.vs < s.nx + 1;omega
  have HM:Hid (∀ X:World,PZ c X s1 -> Calls Tryz.prog 192 #[.pointer (some ⟨c.g,0,none⟩),t.v] X fun e w'=>e = .returned (mean5 t s1).1.v /\ PZ c w' (mean5 t s1).2 /\ Fr (W5 c) X w'):=fun X hX=>meaning5_any t hxs c s1 X hX hvs
  clear HTK hr hxs hvs hs1 ht
  show Calls _ _ _ _ (P5P c w _ (.ok (mean5 t s1)))
  obtain ⟨mt,hmt⟩:∃ m,mean5 t s1 = m:=⟨_,rfl⟩
  rw [hmt] at HM ⊢
  clear hmt
  obtain ⟨⟨mk,mn,ms⟩,s2⟩:=mt
  obtain ⟨tk,tx,tn,ta,te⟩:=t
  dsimp only at HM
  have HQW:Hid (w.heap.size <= q):=by show _ <= _;rw [HQ.out];exact Nat.le_refl _
  generalize hg:c.g = g at *
  clear hg
  go_enter Tryz.func160,Tryz.ntmps160
  go_wp2_with (first
   | (go_at_call 85;(first | rw [HY0.out] | skip);(first | rw [HQ.out] | skip);refine HE.out.mono ?_;rintro e W1 ⟨v1,rfl,rfl,hz,hf⟩;have HZ1:=hm7 hz;have HF1:=hm7 (W5.of (c:=c) HB0.out |>.tr hf);have HR1:=hm7 (HR0.out.fr hf HN1.out);clear hz hf)
   | (go_at_call 192;refine (HM.out _ HZ1.out).mono ?_;rintro e W2 ⟨rfl,hz,hf⟩;have HZ2:=hm7 hz;have HF2:=hm7 (HF1.out.tr hf);have HR2:=hm7 (HR1.out.fr hf HN1.out);have r0':=HR2.out.cell (i:=0) rfl;have r1':=HR2.out.cell (i:=1) rfl;have r2':=HR2.out.cell (i:=2) rfl;have f0':=HR2.out.froz 0;have f1':=HR2.out.froz 1;have f2':=HR2.out.froz 2;have hrl':=HR2.out.lt;clear hz hf))
  have HRZ:=hm7 (store3y HR2.out (a:=.int .i64 mk) (b:=.int .i64 mn) (c:=.string ms))
  have z0:=HRZ.out.cell (i:=0) rfl
  have z1:=HRZ.out.cell (i:=1) rfl
  have z2:=HRZ.out.cell (i:=2) rfl
  have HZ3:=hm7 (HZ2.out.off3 (x:=.int .i64 mk) (y:=.int .i64 mn) (z:=.string ms) HN2.out)
  have HF3:=hm7 (fr_off3 (x:=.int .i64 mk) (y:=.int .i64 mn) (z:=.string ms) HF2.out HQW.out)
  refine bodyPost_ret (v:=.agg #[.int .i64 mk,.int .i64 mn,.string ms]) (by simp [results,Tryz.results160,go_sem,z0,z1,z2]) rfl ?_
  exact ⟨HF3.out,_,rfl,rfl,HZ3.out⟩
def who5 (T:List Tk) (L:Nat) (s:Ps):R5 Tm:=(tk5 T L [1,3,2] s).and fun t s=>.ok (mean5 t s)
set_option maxRecDepth 20000 in
set_option maxHeartbeats 1000000 in
theorem whoP5_any (c:Pk) (s:Ps) (w:World) (h:PZ c w s) :
  Calls Tryz.prog 158 #[.pointer (some ⟨c.g,0,none⟩)] w (P5P c w (fun (t:Tm) v _=>v = t.v) (who5 c.T c.L s)):=by
 obtain ⟨k1,r1,hb0⟩:=two5 w #[.int .i64 0,.int .i64 0,.string ⟨#[]⟩] #[.int .i64 1,.int .i64 3,.int .i64 2] 39 3
 have HTK:=hm7 (take5_any [1,3,2] (.slice (some ⟨w.heap.size + 1,0,none⟩) 3 3) c s _ (h.below hb0) (Nm5.bk (ks:=[1,3,2]) k1 rfl (by decide)) (by decide))
 obtain ⟨n1,n2⟩:=h.nw (r:=w.heap.size) (Nat.le_refl _)
 have HN1:=hm7 n1
 have HN2:=hm7 n2
 have HB0:=hm7 hb0
 have HR0:=hm7 r1
 have HX:Hid (∀ t ∈ c.T,t.x.size <= 2000000):=h.ok.x
 have HVB:Hid (s.vs <= s.nx):=h.vb
 obtain ⟨Y0,hY0⟩:∃ Y0,(w.alloc (.cells #[.int .i64 0,.int .i64 0,.string ⟨#[]⟩] 39)).alloc (.cells #[.int .i64 1,.int .i64 3,.int .i64 2] 3) = Y0:=⟨_,rfl⟩
 rw [hY0] at HTK HB0 HR0
 have HY0:=hm7 hY0
 obtain ⟨q,hq⟩:∃ q,w.heap.size = q:=⟨_,rfl⟩
 rw [hq] at HTK HN1 HN2 HR0
 have HQ:=hm7 hq
 clear h k1 r1 hb0 n1 n2 hY0 hq
 unfold who5
 cases hr:tk5 c.T c.L [1,3,2] s with
 | error f=>
  have HE:=hm7 (P5P.err HTK.out hr)
  clear HTK hr
  show Calls _ _ _ _ (P5P c w _ (.error f))
  generalize c.g = g at *
  go_enter Tryz.func158,Tryz.ntmps158
  go_wp2_with (go_at_call 85;first | rw [HY0.out] | skip;first | rw [HQ.out] | skip;refine HE.out.mono ?_;rintro e W1 ⟨rfl,hf⟩;have HF1:=hm7 (W5.of (c:=c) HB0.out |>.tr hf);clear hf)
  exact ⟨rfl,HF1.out,rfl⟩
 | ok p=>
  obtain ⟨t,s1⟩:=p
  have HE:=hm7 (P5P.ok HTK.out hr)
  obtain ⟨ht, -,hs1⟩:=tk5_some hr
  have hxs:=HX.out t (List.mem_of_getElem? ht)
  have hvs:s1.vs < s1.nx:=by rw [hs1];have:=HVB.out;show s.vs < s.nx + 1;omega
  have HM:Hid (∀ X:World,PZ c X s1 -> Calls Tryz.prog 192 #[.pointer (some ⟨c.g,0,none⟩),t.v] X fun e w'=>e = .returned (mean5 t s1).1.v /\ PZ c w' (mean5 t s1).2 /\ Fr (W5 c) X w'):=fun X hX=>meaning5_any t hxs c s1 X hX hvs
  clear HTK hr hxs hvs hs1 ht
  show Calls _ _ _ _ (P5P c w _ (.ok (mean5 t s1)))
  obtain ⟨mt,hmt⟩:∃ m,mean5 t s1 = m:=⟨_,rfl⟩
  rw [hmt] at HM ⊢
  clear hmt
  obtain ⟨⟨mk,mn,ms⟩,s2⟩:=mt
  obtain ⟨tk,tx,tn,ta,te⟩:=t
  dsimp only at HM
  have HQW:Hid (w.heap.size <= q):=by show _ <= _;rw [HQ.out];exact Nat.le_refl _
  generalize hg:c.g = g at *
  clear hg
  go_enter Tryz.func158,Tryz.ntmps158
  go_wp2_with (first
   | (go_at_call 85;(first | rw [HY0.out] | skip);(first | rw [HQ.out] | skip);refine HE.out.mono ?_;rintro e W1 ⟨v1,rfl,rfl,hz,hf⟩;have HZ1:=hm7 hz;have HF1:=hm7 (W5.of (c:=c) HB0.out |>.tr hf);have HR1:=hm7 (HR0.out.fr hf HN1.out);clear hz hf)
   | (go_at_call 192;refine (HM.out _ HZ1.out).mono ?_;rintro e W2 ⟨rfl,hz,hf⟩;have HZ2:=hm7 hz;have HF2:=hm7 (HF1.out.tr hf);have HR2:=hm7 (HR1.out.fr hf HN1.out);have r0':=HR2.out.cell (i:=0) rfl;have r1':=HR2.out.cell (i:=1) rfl;have r2':=HR2.out.cell (i:=2) rfl;have f0':=HR2.out.froz 0;have f1':=HR2.out.froz 1;have f2':=HR2.out.froz 2;have hrl':=HR2.out.lt;clear hz hf))
  have HRZ:=hm7 (store3y HR2.out (a:=.int .i64 mk) (b:=.int .i64 mn) (c:=.string ms))
  have z0:=HRZ.out.cell (i:=0) rfl
  have z1:=HRZ.out.cell (i:=1) rfl
  have z2:=HRZ.out.cell (i:=2) rfl
  have HZ3:=hm7 (HZ2.out.off3 (x:=.int .i64 mk) (y:=.int .i64 mn) (z:=.string ms) HN2.out)
  have HF3:=hm7 (fr_off3 (x:=.int .i64 mk) (y:=.int .i64 mn) (z:=.string ms) HF2.out HQW.out)
  refine bodyPost_ret (v:=.agg #[.int .i64 mk,.int .i64 mn,.string ms]) (by simp [results,Tryz.results158,go_sem,z0,z1,z2]) rfl ?_
  exact ⟨HF3.out,_,rfl,rfl,HZ3.out⟩
end Go.Proofs.YtcpjiahdaplhlaaGreatDoor

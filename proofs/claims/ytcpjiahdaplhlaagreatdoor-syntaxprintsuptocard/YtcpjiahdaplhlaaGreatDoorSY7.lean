import Derived.Test.YtcpjiahdaplhlaaGreatDoorSY4
import Derived.Laws.AppendOwnNone
import Derived.Test.YtcpjiahdaplhlaaGreatDoorB4
import Derived.Test.YtcpjiahdaplhlaaGreatDoorB2
import Derived.Deep.CutRange
namespace Go.Proofs.YtcpjiahdaplhlaaGreatDoor
open Go.RowKit
attribute [local go_sem ↓] Go.wp_at_zero Go.wp_at_succ
theorem info5 {P:Program} {e:TypeId} {z:Value} {s b:Nat} (h:(P.info? e).map (fun i=>(i.zero,i.size,i.bytes)) = some (some z,s,b)):∃ i,P.info? e = some i /\ i.zero = some z /\ i.size = s /\ i.bytes = b:=by
 cases hi:P.info? e with
 | none=>rw [hi] at h;simp at h
 | some i=>
  rw [hi] at h
  simp only [Option.map_some,Option.some.injEq,Prod.mk.injEq] at h
  exact ⟨i,rfl,h.1,h.2.1,h.2.2⟩
theorem gapp5 {T e:TypeId} {z:Value} {by_ size:Nat} (hT:Tryz.prog.underlying T = some (.slice e)) (hI:(Tryz.prog.info? e).map (fun i=>(i.zero,i.size,i.bytes)) = some (some z,size,by_)) (hz:z.cells.size = size) (hsz:0 < size) (hby:by_ <= 1000)
  {ops:Array Oper} {rest:List Oper} {o:Oper} {a:Act} {Q:Exit -> Act -> World -> Prop} {w:World} (hgd:o.guard = none) (s x:Operand)
  (ho:o.op = .call { callee:=.builtin .append,args:=#[s,x],argTypes:=#[T,T] }) (base:Nat) (v:Value) (n:Nat) (l:List Value) (hs:a.eval s = v) (hown:w.ownsRow base e size v n l)
  (b:Nat) (y:Array Value) (hx:a.eval x = .slice (some ⟨b,0,none⟩) 1 1) (hblk:Bk w b y e) (hy:y.size = size) (hone:∀ u ∈ y.toList,u.oneCell' = true) (hlen:n <= 100000000) (hbase:base <= w.heap.size)
  (h:∀ g cap w',w'.ownsRow base e size (.slice (some ⟨g,0,none⟩) (n + 1) cap) (n + 1) (l ++ y.toList) -> w.grownBy w' v.ownBlock -> (v.ownBlock = some g ∨ g = w.heap.size) -> g < w'.heap.size -> wpList Tryz.prog ops Q rest (a.put o.dst (.slice (some ⟨g,0,none⟩) (n + 1) cap)) w'):wpList Tryz.prog ops Q (o :: rest) a w:=by
 obtain ⟨i,hi,h0,h1,h2⟩:=info5 hI
 refine wpList_append_lies _ hgd s x T ho base e i z size by_ hT hi h0 h1 h2 hz hsz v n l hs hown ⟨b,0,none⟩ 1 1 y.toList hx (by simp [hy]) ?_ hone (by omega) (by unfold maxLen;omega) (Nat.le_trans (Nat.mul_le_mul (show n + 1 <= 100000001 by omega) hby) (by decide)) hbase _ rfl h
 intro j u hj
 exact World.news_of_block (cs:=y) (t:=e) (fr:=(0,0)) hblk j u (by simpa using hj)
theorem Tryz.infoTerm5:(Tryz.prog.info? 39).map (fun i=>(i.zero,i.size,i.bytes)) = some (some (.agg #[.int .i64 0,.int .i64 0,.string ⟨#[]⟩]),3,32):=by kernel_rfl
def tc5 (l:List Tm):List Value:=l.flatMap fun t=>[.int .i64 t.k,.int .i64 t.n,.string t.s]
def Ot5 (w:World) (base:Nat) (v:Value) (l:List Tm):Prop:=w.ownsRow base 39 3 v l.length (tc5 l)
theorem Ot5.fr {P:Nat -> Prop} {w w':World} {base:Nat} {v:Value} {l:List Tm} (h:Ot5 w base v l) (hf:Fr P w w') (hP:∀ b,base <= b -> ¬ P b):Ot5 w' base v l:=
 row7_fr h hf fun g hg=>hP g (World.ownsRow.lt h g hg).1
theorem Ot5.below {w w':World} {base:Nat} {v:Value} {l:List Tm} (h:Ot5 w base v l) (hb:Below w.heap.size w w'):Ot5 w' base v l:=row7_below h hb
theorem Ot5.mono5 {w:World} {b b':Nat} {v:Value} {l:List Tm} (h:Ot5 w b v l) (hb:b' <= b):Ot5 w b' v l:=by
 refine ⟨h.1, ?_⟩
 rcases h.2 with hn | ⟨g,cap,cur,hv,hbb,hg,rest⟩
 ·exact Or.inl hn
 ·exact Or.inr ⟨g,cap,cur,hv,Nat.le_trans hb hbb,hg,rest⟩
theorem Ot5.one {w:World} {b base:Nat} {t:Tm} (h:Bk w b #[.int .i64 t.k,.int .i64 t.n,.string t.s] 39) (hb:base <= b):Ot5 w base (.slice (some ⟨b,0,none⟩) 1 1) [t]:=
 ⟨rfl,Or.inr ⟨b,1,_,rfl,hb,h,Nat.le_refl _,by unfold maxLen;omega,rfl,rfl⟩⟩
theorem Ot5.snoc {w:World} {base n:Nat} {v:Value} {l:List Tm} {k m:Int} {x:ByteArray} (hn:l.length = n) (h:w.ownsRow base 39 3 v (n + 1) (tc5 l ++ [.int .i64 k,.int .i64 m,.string x])):Ot5 w base v (l ++ [⟨k,m,x⟩]):=by
 subst hn
 unfold Ot5
 rw [List.length_append,List.length_singleton,show tc5 (l ++ [⟨k,m,x⟩]) = tc5 l ++ [.int .i64 k,.int .i64 m,.string x] by simp [tc5]]
 exact h
def ls5 {α:Type} (one:Ps -> R5 α) (T:List Tk) (L:Nat) (b:Int):Nat -> List α -> Ps -> R5 (List α)
 | 0,acc,s=>.ok (acc,s)
 | f + 1,acc,s=>if kd5 T s 0 = b then (tk5 T L [b] s).and fun _ s=>(one s).and fun a s=>ls5 one T L b f (acc ++ [a]) s else .ok (acc,s)
def list5 {α:Type} (one:Ps -> R5 α) (T:List Tk) (L:Nat) (b:Int) (s:Ps):R5 (List α):=(one s).and fun a s=>ls5 one T L b (T.length + 1) [a] s
theorem kd5_some {T:List Tk} {L:Nat} {s:Ps} {b:Int} (h:kd5 T s 0 = b) (hb:b ≠ 0):∃ t,T[s.nx]? = some t /\ tk5 T L [b] s = .ok (t,⟨s.nx + 1,s.op,s.vs,s.nm⟩) /\ s.nx < T.length:=by
 unfold kd5 at h
 rw [Nat.add_zero] at h
 cases ht:T[s.nx]? with
 | none=>rw [ht] at h;exact absurd h.symm hb
 | some t=>
  rw [ht] at h
  have h1:t.k = b:=h
  refine ⟨t,rfl, ?_,(List.getElem?_eq_some_iff.1 ht).1⟩
  unfold tk5
  rw [ht]
  simp [h1]
theorem mean5_nx (t:Tk) (s:Ps):(mean5 t s).2.nx = s.nx:=by
 unfold mean5 va5
 (repeat' split) <;> rfl
theorem tm5_nx {T:List Tk} {L:Nat} {s s':Ps} {t:Tm} (h:tm5 T L s = .ok (t,s')):s'.nx = s.nx + 1:=by
 unfold tm5 at h
 cases hr:tk5 T L [1,3,2,4] s with
 | error f=>rw [hr] at h;cases h
 | ok p=>
  obtain ⟨u,s1⟩:=p
  rw [hr] at h
  obtain ⟨-, -,rfl⟩:=tk5_some hr
  have h1:mean5 u ⟨s.nx + 1,s.op,s.vs,s.nm⟩ = (t,s'):=Except.ok.inj h
  have:=mean5_nx u ⟨s.nx + 1,s.op,s.vs,s.nm⟩
  rw [h1] at this
  exact this
set_option maxRecDepth 20000 in
set_option maxHeartbeats 2000000 in
theorem listT5_any (c:Pk) (s:Ps) (w:World) (h:PZ c w s) :
  Calls Tryz.prog 159 #[.pointer (some ⟨c.g,0,none⟩),.func (.func 160) #[.pointer (some ⟨c.g,0,none⟩)] #[],.int .i64 8] w (P5P c w (fun (l:List Tm) v w'=>Ot5 w' w.heap.size v l) (list5 (tm5 c.T c.L) c.T c.L 8 s)):=by
 have hT:=h.ok.l
 have hNw:=h.Nw
 have HTM:Hid (∀ (X:World) (s:Ps),PZ c X s -> Calls Tryz.prog 160 #[.pointer (some ⟨c.g,0,none⟩)] X (P5P c X (fun (t:Tm) v _=>v = t.v) (tm5 c.T c.L s))):=fun X s hX=>term5_any c s X hX
 have HKD:Hid (∀ (X:World) (s:Ps),PZ c X s -> Calls Tryz.prog 124 #[.pointer (some ⟨c.g,0,none⟩),.int .i64 0] X fun e w'=>e = .returned (.int .i64 (kd5 c.T s 0)) /\ Below X.heap.size X w'):=fun X s hX=>kind5_0 c s X hX
 have HWB:Hid (∀ b,w.heap.size <= b -> ¬ W5 c b):=fun b hb=>(h.nw hb).1
 obtain ⟨R,hR⟩:∃ R,list5 (tm5 c.T c.L) c.T c.L 8 s = R:=⟨_,rfl⟩
 rw [hR]
 unfold list5 at hR
 have h1:=HTM.out w s h
 cases hr:tm5 c.T c.L s with
 | error f=>
  have HE:=hm7 (P5P.err h1 hr)
  rw [hr] at hR
  subst hR
  clear h1 hr h
  show Calls _ _ _ _ (P5P c w _ (.error f))
  go_enter Tryz.func159,Tryz.ntmps159
  go_wp2_with (go_at_call 160;refine HE.out.mono ?_;rintro e W1 ⟨rfl,hf⟩)
  exact ⟨rfl,hf,rfl⟩
 | ok p=>
  obtain ⟨⟨tk,tn,tx⟩,s1⟩:=p
  have HE:=hm7 (P5P.ok h1 hr)
  rw [hr] at hR
  have HR:=hm7 (show ls5 (tm5 c.T c.L) c.T c.L 8 (c.T.length + 1) [⟨tk,tn,tx⟩] s1 = R from hR)
  have HNX:=hm7 (tm5_nx hr)
  have HNW:=hm7 hNw
  clear h1 hr h hR hNw
  go_enter Tryz.func159,Tryz.ntmps159
  go_wp2_with (go_at_call 160;refine HE.out.mono ?_;rintro e W1 ⟨v1,rfl,rfl,hz,hf⟩;have HZ1:=hm7 (hz.below (below1 W1 (.cells #[.int .i64 tk,.int .i64 tn,.string tx] 39)));have HF1:=hm7 (hf.then (below1 W1 (.cells #[.int .i64 tk,.int .i64 tn,.string tx] 39)));have HO1:=hm7 (Ot5.one (t:=⟨tk,tn,tx⟩) (base:=w.heap.size) (Bk.new W1 #[.int .i64 tk,.int .i64 tn,.string tx] 39) hf.size);have hs1:=HNX.out;clear hz hf)
  go_loopg [7] (c.T.length + 1) (fun f u wr=>∃ (acc:List Tm) (s:Ps),ls5 (tm5 c.T c.L) c.T c.L 8 f acc s = R /\ c.T.length < s.nx + f /\ acc.length <= s.nx /\ Ot5 wr w.heap.size u acc /\ PZ c wr s /\ Fr (W5 c) w wr)
  case atStart=>exact ⟨[⟨tk,tn,tx⟩],s1,HR.out,by omega,by rw [hs1];simp,HO1.out,HZ1.out,HF1.out⟩
  case round=>
   obtain ⟨acc,s2,hls,hfl,hal,ho,hz,hf⟩:=hrel
   have HLS:=hm7 hls
   have HAL:=hm7 hal
   have HO:=hm7 ho
   have HZ:=hm7 hz
   have HF:=hm7 hf
   have hle:=hz.le
   have hsz:=hf.size
   clear hls hal ho hz hf HR HZ1 HF1 HO1
   obtain ⟨ua,uc,huf, -⟩:=row7_form HO.out
   obtain ⟨an,han⟩:∃ n,acc.length = n:=⟨_,rfl⟩
   rw [han] at huf
   have HAN:=hm7 han
   have HOW:Hid (wr.ownsRow w.heap.size 39 3 u7 an (tc5 acc)):=by have:=HO.out;unfold Ot5 at this;rw [han] at this;exact this
   subst huf
   have han2:an <= 2000000:=by have:=HAL.out;omega
   clear han
   cases gk with
   | zero=>omega
   | succ f=>
    have HK:=hm7 (HKD.out wr s2 HZ.out)
    by_cases hk:kd5 c.T s2 0 = 8
    ·obtain ⟨t0,ht0,htk,hlt⟩:=kd5_some (L:=c.L) hk (by decide)
     have HTK:Hid (∀ X:World,Below wr.heap.size wr X -> Calls Tryz.prog 85 #[.pointer (some ⟨c.g,0,none⟩),.slice (some ⟨X.heap.size,0,none⟩) 1 1] (X.alloc (.cells #[.int .i64 8] 3)) fun e w'=>∃ v,e = .returned v /\ v = t0.v /\ PZ c w' ⟨s2.nx + 1,s2.op,s2.vs,s2.nm⟩ /\ Fr (W5 c) (X.alloc (.cells #[.int .i64 8] 3)) w'):=fun X hX=>
      P5P.ok (take5_any [8] (.slice (some ⟨X.heap.size,0,none⟩) 1 1) c s2 _ ((HZ.out.below hX).below (below1 _ _)) (Nm5.bk (ks:=[8]) (Bk.new X #[.int .i64 8] 3) rfl (by decide)) (by decide)) htk
     have hls2:=HLS.out
     unfold ls5 at hls2
     rw [if_pos hk,htk] at hls2
     rw [hk] at HK
     have HL2:=hm7 (show ((tm5 c.T c.L ⟨s2.nx + 1,s2.op,s2.vs,s2.nm⟩).and fun a s=>ls5 (tm5 c.T c.L) c.T c.L 8 f (acc ++ [a]) s) = R from hls2)
     clear hls2 htk ht0
     obtain ⟨tk0,tx0,tn0,ta0,te0⟩:=t0
     cases hr2:tm5 c.T c.L ⟨s2.nx + 1,s2.op,s2.vs,s2.nm⟩ with
     | error f2=>
      have HR2:Hid (R = .error f2):=by have:=HL2.out;rw [hr2] at this;exact this.symm
      have HE2:Hid (∀ X:World,PZ c X ⟨s2.nx + 1,s2.op,s2.vs,s2.nm⟩ -> Calls Tryz.prog 160 #[.pointer (some ⟨c.g,0,none⟩)] X fun e w'=>e = .panicked [pF f2] /\ Fr (W5 c) X w'):=fun X hX=>P5P.err (HTM.out X _ hX) hr2
      clear hr2 HL2 HLS
      go_wp2_with (first
       | (go_at_call 124;refine HK.out.mono ?_;rintro e W2 ⟨rfl,hb⟩;have HB2:=hm7 hb;clear hb)
       | (go_at_call 85;refine (HTK.out _ HB2.out).mono ?_;rintro e W3 ⟨v3,rfl,rfl,hz,hf⟩;have HZ3:=hm7 hz;have HF3:=hm7 (((HF.out.then HB2.out).then (below1 _ _)).tr hf);clear hz hf)
       | (go_at_call 160;refine (HE2.out _ HZ3.out).mono ?_;rintro e W4 ⟨rfl,hf⟩;have HF4:=hm7 (HF3.out.tr hf);clear hf))
      refine ⟨rfl, ?_⟩
      rw [HR2.out]
      exact ⟨HF4.out,rfl⟩
     | ok p2=>
      obtain ⟨⟨uk,un,ux⟩,s3⟩:=p2
      have HR3:Hid (ls5 (tm5 c.T c.L) c.T c.L 8 f (acc ++ [⟨uk,un,ux⟩]) s3 = R):=by have:=HL2.out;rw [hr2] at this;exact this
      have HE2:Hid (∀ X:World,PZ c X ⟨s2.nx + 1,s2.op,s2.vs,s2.nm⟩ -> Calls Tryz.prog 160 #[.pointer (some ⟨c.g,0,none⟩)] X fun e w'=>∃ v,e = .returned v /\ v = Tm.v ⟨uk,un,ux⟩ /\ PZ c w' s3 /\ Fr (W5 c) X w'):=fun X hX=>P5P.ok (HTM.out X _ hX) hr2
      have hnx3:s3.nx = s2.nx + 1 + 1:=tm5_nx hr2
      have HN3:=hm7 hnx3
      clear hr2 HL2 HLS hnx3
      go_wp2_with (first
       | (go_at_call 124;refine HK.out.mono ?_;rintro e W2 ⟨rfl,hb⟩;have HB2:=hm7 hb;clear hb)
       | (go_at_call 85;refine (HTK.out _ HB2.out).mono ?_;rintro e W3 ⟨v3,rfl,rfl,hz,hf⟩;have HZ3:=hm7 hz;have HF3:=hm7 (((HF.out.then HB2.out).then (below1 _ _)).tr hf);have HO3:=hm7 (row7_fr (row7_below (row7_below HOW.out HB2.out) (below1 _ _)) hf fun b hb=>HWB.out b (World.ownsRow.lt HOW.out b hb).1);clear hz hf)
       | (go_at_call 160;refine (HE2.out _ HZ3.out).mono ?_;rintro e W4 ⟨v4,rfl,rfl,hz,hf⟩;have HZ4:=hm7 (hz.below (below1 W4 (.cells #[.int .i64 uk,.int .i64 un,.string ux] 39)));have HF4:=hm7 ((HF3.out.tr hf).then (below1 W4 (.cells #[.int .i64 uk,.int .i64 un,.string ux] 39)));have HO4:=hm7 (row7_below (row7_fr HO3.out hf fun b hb=>HWB.out b (World.ownsRow.lt HO3.out b hb).1) (below1 W4 (.cells #[.int .i64 uk,.int .i64 un,.string ux] 39)));have hz4:=(HF3.out.tr hf).size;clear hz hf)
       | (at_builtin;refine gapp5 Tryz.underlying40 Tryz.infoTerm5 rfl (by decide) (by decide) rfl _ _ rfl w.heap.size (.slice ua an uc) an (tc5 acc) rfl HO4.out W4.heap.size #[.int .i64 uk,.int .i64 un,.string ux] rfl (Bk.new _ _ _) rfl (by simp [Value.oneCell']) (by omega) (by simp;omega) ?_;intro g5 q5 w5 ho5 hg5 hv5 hl5;have HO5:=hm7 (Ot5.snoc HAN.out ho5);have HG5:Hid (Fr (fun b=>w.heap.size <= b) (W4.alloc (.cells #[.int .i64 uk,.int .i64 un,.string ux] 39)) w5):=Fr.grown hg5 fun b hb=>(World.ownsRow.lt HO4.out b hb).1;clear ho5 hg5 hv5 hl5))
      have HZ5:=hm7 (HZ4.out.fr HG5.out fun b hb e=>by have:=HNW.out;omega)
      have HF5:=hm7 (HF4.out.trans HG5.out fun b hb e=>by omega)
      go_roundg f
      case measure=>omega
      case rel=>exact ⟨acc ++ [⟨uk,un,ux⟩],s3,HR3.out,by have:=HN3.out;omega,by have:=HN3.out;have:=HAL.out;rw [List.length_append,List.length_singleton];omega,HO5.out,HZ5.out,HF5.out⟩
    ·have hR2:=HLS.out
     unfold ls5 at hR2
     rw [if_neg hk] at hR2
     obtain ⟨kk,hkk⟩:∃ kk,kd5 c.T s2 0 = kk:=⟨_,rfl⟩
     rw [hkk] at HK hk
     have hk2:(kk == 8) = false:=by simp [hk]
     have HR2:=hm7 hR2
     clear hR2 hkk HLS
     go_wp2_with (go_at_call 124;refine HK.out.mono ?_;rintro e W2 ⟨rfl,hb⟩;have HB2:=hm7 hb;clear hb)
     go_ret
     rw [<- HR2.out]
     exact ⟨HF.out.then HB2.out,_,rfl,HO.out.below HB2.out,HZ.out.below HB2.out⟩
end Go.Proofs.YtcpjiahdaplhlaaGreatDoor
namespace Go.Proofs.YtcpjiahdaplhlaaGreatDoor
open Go.RowKit
attribute [local go_sem ↓] Go.wp_at_zero Go.wp_at_succ
theorem takeN5 (k:Int) (hk:(0:Int) ≠ k) (c:Pk) (s:Ps) (X:World) (h:PZ c X s) :
  Calls Tryz.prog 85 #[.pointer (some ⟨c.g,0,none⟩),.slice (some ⟨X.heap.size,0,none⟩) 1 1] (X.alloc (.cells #[.int .i64 k] 3)) (P5P c (X.alloc (.cells #[.int .i64 k] 3)) (fun (t:Tk) v _=>v = t.v) (tk5 c.T c.L [k] s)):=
 take5_any [k] (.slice (some ⟨X.heap.size,0,none⟩) 1 1) c s _ (h.below (below1 _ _)) (Nm5.bk (ks:=[k]) (Bk.new X #[.int .i64 k] 3) rfl (by simp)) (by simpa using hk)
def args5 (T:List Tk) (L:Nat) (s:Ps):R5 (List Tm):=if kd5 T s 0 = 6 then (tk5 T L [6] s).and fun _ s=>(list5 (tm5 T L) T L 8 s).and fun l s=>(tk5 T L [7] s).and fun _ s=>.ok (l,s) else .ok ([],s)
def by5 (T:List Tk) (L:Nat) (s:Ps):R5 Tm:=if kd5 T s 0 = 1 /\ kd5 T s 1 ≠ 5 then .ok (⟨0,0,⟨#[]⟩⟩,s) else (who5 T L s).and fun t s=>(tk5 T L [5] s).and fun _ s=>.ok (t,s)
def at5 (T:List Tk) (L:Nat) (s:Ps):R5 At:=(by5 T L s).and fun b s=>(tk5 T L [1] s).and fun t s=>(args5 T L s).and fun l s=>.ok (⟨b,t.x,l⟩,s)
theorem R5.and_err {α β:Type} {r:R5 α} {f : α -> Ps -> R5 β} {e:Int × Int} (h:r = .error e):r.and f = .error e:=by rw [h];rfl
theorem R5.and_ok {α β:Type} {r:R5 α} {f : α -> Ps -> R5 β} {a : α} {s:Ps} (h:r = .ok (a,s)):r.and f = f a s:=by rw [h];rfl
set_option maxRecDepth 20000 in
set_option maxHeartbeats 2000000 in
theorem args5_any (c:Pk) (s:Ps) (w:World) (h:PZ c w s) :
  Calls Tryz.prog 122 #[.pointer (some ⟨c.g,0,none⟩)] w (P5P c w (fun (l:List Tm) v w'=>Ot5 w' w.heap.size v l) (args5 c.T c.L s)):=by
 have HK:=hm7 (kind5_0 c s w h)
 have HZ:=hm7 h
 have HWB:Hid (∀ b,w.heap.size <= b -> ¬ W5 c b):=fun b hb=>(h.nw hb).1
 obtain ⟨R,hR⟩:∃ R,args5 c.T c.L s = R:=⟨_,rfl⟩
 rw [hR]
 unfold args5 at hR
 by_cases hk:kd5 c.T s 0 = 6
 ·rw [if_pos hk] at hR
  rw [hk] at HK
  obtain ⟨t0, -,htk, -⟩:=kd5_some (L:=c.L) hk (by decide)
  rw [R5.and_ok htk] at hR
  obtain ⟨s1,hs1⟩:∃ s1:Ps,s1 = ⟨s.nx + 1,s.op,s.vs,s.nm⟩:=⟨_,rfl⟩
  rw [<- hs1] at htk hR
  have HT1:Hid (∀ X:World,PZ c X s -> Calls Tryz.prog 85 #[.pointer (some ⟨c.g,0,none⟩),.slice (some ⟨X.heap.size,0,none⟩) 1 1] (X.alloc (.cells #[.int .i64 6] 3)) fun e w'=>∃ v,e = .returned v /\ v = t0.v /\ PZ c w' s1 /\ Fr (W5 c) (X.alloc (.cells #[.int .i64 6] 3)) w'):=fun X hX=>P5P.ok (takeN5 6 (by decide) c s X hX) htk
  have HLT:Hid (∀ X:World,PZ c X s1 -> Calls Tryz.prog 159 #[.pointer (some ⟨c.g,0,none⟩),.func (.func 160) #[.pointer (some ⟨c.g,0,none⟩)] #[],.int .i64 8] X (P5P c X (fun (l:List Tm) v w'=>Ot5 w' X.heap.size v l) (list5 (tm5 c.T c.L) c.T c.L 8 s1))):=fun X hX=>listT5_any c s1 X hX
  clear hk h htk hs1
  obtain ⟨tk0,tx0,tn0,ta0,te0⟩:=t0
  have hmf:∀ (fn:Fn) (first cap:Array Value) (w:World),(Instr.makeFunc fn first cap).run Tryz.prog w = .ok (.func fn first cap) w:=fun _ _ _ _=>rfl
  cases hr:list5 (tm5 c.T c.L) c.T c.L 8 s1 with
  | error f=>
   rw [R5.and_err hr] at hR
   subst hR
   have HE:Hid (∀ X:World,PZ c X s1 -> Calls Tryz.prog 159 #[.pointer (some ⟨c.g,0,none⟩),.func (.func 160) #[.pointer (some ⟨c.g,0,none⟩)] #[],.int .i64 8] X fun e w'=>e = .panicked [pF f] /\ Fr (W5 c) X w'):=fun X hX=>P5P.err (HLT.out X hX) hr
   clear hr HLT
   go_enter Tryz.func122,Tryz.ntmps122
   go_wp2_with (first
    | (go_at_call 124;refine HK.out.mono ?_;rintro e W1 ⟨rfl,hb⟩;have HB1:=hm7 hb;clear hb)
    | (go_at_call 85;refine (HT1.out _ (HZ.out.below HB1.out)).mono ?_;rintro e W2 ⟨v2,rfl,rfl,hz,hf⟩;have HZ2:=hm7 hz;have HF2:=hm7 (((W5.of (c:=c) HB1.out).then (below1 _ _)).tr hf);clear hz hf)
    | (go_at_call 159;refine (HE.out _ HZ2.out).mono ?_;rintro e W3 ⟨rfl,hf⟩;have HF3:=hm7 (HF2.out.tr hf);clear hf))
   exact ⟨rfl,HF3.out,rfl⟩
  | ok p=>
   obtain ⟨l,s2⟩:=p
   rw [R5.and_ok hr] at hR
   have HE:Hid (∀ X:World,PZ c X s1 -> Calls Tryz.prog 159 #[.pointer (some ⟨c.g,0,none⟩),.func (.func 160) #[.pointer (some ⟨c.g,0,none⟩)] #[],.int .i64 8] X fun e w'=>∃ v,e = .returned v /\ Ot5 w' X.heap.size v l /\ PZ c w' s2 /\ Fr (W5 c) X w'):=fun X hX=>P5P.ok (HLT.out X hX) hr
   clear hr HLT
   have HT2:Hid (∀ X:World,PZ c X s2 -> Calls Tryz.prog 85 #[.pointer (some ⟨c.g,0,none⟩),.slice (some ⟨X.heap.size,0,none⟩) 1 1] (X.alloc (.cells #[.int .i64 7] 3)) (P5P c (X.alloc (.cells #[.int .i64 7] 3)) (fun (t:Tk) v _=>v = t.v) (tk5 c.T c.L [7] s2))):=fun X hX=>takeN5 7 (by decide) c s2 X hX
   cases hr:tk5 c.T c.L [7] s2 with
   | error f=>
    rw [R5.and_err hr] at hR
    subst hR
    have HT3:Hid (∀ X:World,PZ c X s2 -> Calls Tryz.prog 85 #[.pointer (some ⟨c.g,0,none⟩),.slice (some ⟨X.heap.size,0,none⟩) 1 1] (X.alloc (.cells #[.int .i64 7] 3)) fun e w'=>e = .panicked [pF f] /\ Fr (W5 c) (X.alloc (.cells #[.int .i64 7] 3)) w'):=fun X hX=>P5P.err (HT2.out X hX) hr
    clear hr HT2
    go_enter Tryz.func122,Tryz.ntmps122
    go_upto_region 5 with (first
     | (go_at_call 124;refine HK.out.mono ?_;rintro e W1 ⟨rfl,hb⟩;have HB1:=hm7 hb;clear hb)
     | (go_at_call 85;refine (HT1.out _ (HZ.out.below HB1.out)).mono ?_;rintro e W2 ⟨v2,rfl,rfl,hz,hf⟩;have HZ2:=hm7 hz;have HF2:=hm7 (((W5.of (c:=c) HB1.out).then (below1 _ _)).tr hf);clear hz hf HT1)
     | (go_at_call 159;refine (HE.out _ HZ2.out).mono ?_;rintro e W3 ⟨v3,rfl,ho,hz,hf⟩;have HZ3:=hm7 hz;have HF3:=hm7 (HF2.out.tr hf);clear ho hz hf))
    go_wp2_with (go_at_call 85;refine (HT3.out _ HZ3.out).mono ?_;rintro e W4 ⟨rfl,hf⟩;have HF4:=hm7 ((HF3.out.then (below1 _ _)).tr hf);clear hf)
    exact ⟨rfl,HF4.out,rfl⟩
   | ok p=>
    obtain ⟨t3,s3⟩:=p
    rw [R5.and_ok hr] at hR
    subst hR
    have HT3:Hid (∀ X:World,PZ c X s2 -> Calls Tryz.prog 85 #[.pointer (some ⟨c.g,0,none⟩),.slice (some ⟨X.heap.size,0,none⟩) 1 1] (X.alloc (.cells #[.int .i64 7] 3)) fun e w'=>∃ v,e = .returned v /\ v = t3.v /\ PZ c w' s3 /\ Fr (W5 c) (X.alloc (.cells #[.int .i64 7] 3)) w'):=fun X hX=>P5P.ok (HT2.out X hX) hr
    clear hr HT2
    obtain ⟨tk3,tx3,tn3,ta3,te3⟩:=t3
    go_enter Tryz.func122,Tryz.ntmps122
    go_upto_region 5 with (first
     | (go_at_call 124;refine HK.out.mono ?_;rintro e W1 ⟨rfl,hb⟩;have HB1:=hm7 hb;clear hb)
     | (go_at_call 85;refine (HT1.out _ (HZ.out.below HB1.out)).mono ?_;rintro e W2 ⟨v2,rfl,rfl,hz,hf⟩;have HZ2:=hm7 hz;have HF2:=hm7 (((W5.of (c:=c) HB1.out).then (below1 _ _)).tr hf);clear hz hf HT1)
     | (go_at_call 159;refine (HE.out _ HZ2.out).mono ?_;rintro e W3 ⟨v3,rfl,ho,hz,hf⟩;have HZ3:=hm7 hz;have HO3:=hm7 (Ot5.mono5 ho HF2.out.size);have HF3:=hm7 (HF2.out.tr hf);clear ho hz hf))
    go_wp2_with (go_at_call 85;refine (HT3.out _ HZ3.out).mono ?_;rintro e W4 ⟨v4,rfl,rfl,hz,hf⟩;have HZ4:=hm7 hz;have HO4:=hm7 ((HO3.out.below (below1 _ _)).fr hf HWB.out);have HF4:=hm7 ((HF3.out.then (below1 _ _)).tr hf);clear hz hf)
    go_ret
    exact ⟨HF4.out,_,rfl,HO4.out,HZ4.out⟩
 ·rw [if_neg hk] at hR
  obtain ⟨kk,hkk⟩:∃ kk,kd5 c.T s 0 = kk:=⟨_,rfl⟩
  rw [hkk] at HK hk
  have hk1:(kk == 6) = false:=by simp [hk]
  have hk2:(kk != 6) = true:=by simp [hk]
  subst hR
  clear hkk h
  go_enter Tryz.func122,Tryz.ntmps122
  go_wp2_with (go_at_call 124;refine HK.out.mono ?_;rintro e W1 ⟨rfl,hb⟩;have HB1:=hm7 hb;clear hb)
  go_ret
  exact ⟨W5.of HB1.out,_,rfl,World.ownsRow_nil _ _ _ _,HZ.out.below HB1.out⟩
end Go.Proofs.YtcpjiahdaplhlaaGreatDoor
namespace Go.Proofs.YtcpjiahdaplhlaaGreatDoor
open Go.RowKit
attribute [local go_sem ↓] Go.wp_at_zero Go.wp_at_succ
set_option maxRecDepth 20000 in
set_option maxHeartbeats 2000000 in
theorem by5_any (c:Pk) (s:Ps) (w:World) (h:PZ c w s) :
  Calls Tryz.prog 121 #[.pointer (some ⟨c.g,0,none⟩)] w (P5P c w (fun (t:Tm) v _=>v = t.v) (by5 c.T c.L s)):=by
 have HK0:Hid (∀ X:World,PZ c X s -> Calls Tryz.prog 124 #[.pointer (some ⟨c.g,0,none⟩),.int .i64 0] X fun e w'=>e = .returned (.int .i64 (kd5 c.T s 0)) /\ Below X.heap.size X w'):=fun X hX=>kind5_0 c s X hX
 have HK1:Hid (∀ X:World,PZ c X s -> Calls Tryz.prog 124 #[.pointer (some ⟨c.g,0,none⟩),.int .i64 1] X fun e w'=>e = .returned (.int .i64 (kd5 c.T s 1)) /\ Below X.heap.size X w'):=fun X hX=>kind5_1 c s X hX
 have HWH:Hid (∀ X:World,PZ c X s -> Calls Tryz.prog 158 #[.pointer (some ⟨c.g,0,none⟩)] X (P5P c X (fun (t:Tm) v _=>v = t.v) (who5 c.T c.L s))):=fun X hX=>whoP5_any c s X hX
 obtain ⟨n1,n2⟩:=h.nw (r:=w.heap.size) (Nat.le_refl _)
 have HN1:=hm7 n1
 have HN2:=hm7 n2
 have HB0:=hm7 (below1 w (.cells #[.int .i64 0,.int .i64 0,.string ⟨#[]⟩] 39))
 have HR0:=hm7 (Bk.new w #[.int .i64 0,.int .i64 0,.string ⟨#[]⟩] 39)
 have HZ0:=hm7 (h.below HB0.out)
 obtain ⟨Y0,hY0⟩:∃ Y0,w.alloc (.cells #[.int .i64 0,.int .i64 0,.string ⟨#[]⟩] 39) = Y0:=⟨_,rfl⟩
 rw [hY0] at HB0 HR0 HZ0
 have HY0:=hm7 hY0
 obtain ⟨q,hq⟩:∃ q,w.heap.size = q:=⟨_,rfl⟩
 rw [hq] at HN1 HN2 HR0
 have HQ:=hm7 hq
 have HQW:Hid (w.heap.size <= q):=by show _ <= _;rw [hq];exact Nat.le_refl _
 obtain ⟨R,hR⟩:∃ R,by5 c.T c.L s = R:=⟨_,rfl⟩
 rw [hR]
 unfold by5 at hR
 obtain ⟨k0,hk0⟩:∃ k,kd5 c.T s 0 = k:=⟨_,rfl⟩
 obtain ⟨k1,hk1⟩:∃ k,kd5 c.T s 1 = k:=⟨_,rfl⟩
 rw [hk0,hk1] at hR
 rw [hk0] at HK0
 rw [hk1] at HK1
 obtain ⟨bz,hbz⟩:∃ bz,decide (k0 = 1 /\ k1 ≠ 5) = bz:=⟨_,rfl⟩
 have HBZ:=hm7 hbz
 clear h n1 n2 hY0 hq hk0 hk1 hbz
 have HRR:=hm7 hR
 clear hR
 go_enter Tryz.func121,Tryz.ntmps121
 go_upto_region 1 with fail
 rw [HY0.out,HQ.out]
 clear HY0
 go_cut [11] from 4 to 11 (fun v wx=>v = .bool bz /\ Below Y0.heap.size Y0 wx)
 case first=>
  by_cases e0:k0 = 1
  ·subst e0
   by_cases e1:k1 = 5
   ·subst e1
    have hb:bz = false:=by rw [<- HBZ.out];simp
    subst hb
    go_wp2_with (first
     | (go_at_call 124;refine (HK0.out _ HZ0.out).mono ?_;rintro e W1 ⟨rfl,hb⟩;have HB1:=hm7 hb;clear hb HK0)
     | (go_at_call 124;refine (HK1.out _ (HZ0.out.below HB1.out)).mono ?_;rintro e W2 ⟨rfl,hb⟩;have HB2:=hm7 (HB1.out.trans (hb.mono HB1.out.size));clear hb))
    go_meet
    case rel=>exact ⟨rfl,HB2.out⟩
   ·have hb:bz = true:=by rw [<- HBZ.out];simp [e1]
    subst hb
    have e2:(k1 == 5) = false:=by simp [e1]
    have e3:(k1 != 5) = true:=by simp [e1]
    go_wp2_with (first
     | (go_at_call 124;refine (HK0.out _ HZ0.out).mono ?_;rintro e W1 ⟨rfl,hb⟩;have HB1:=hm7 hb;clear hb HK0)
     | (go_at_call 124;refine (HK1.out _ (HZ0.out.below HB1.out)).mono ?_;rintro e W2 ⟨rfl,hb⟩;have HB2:=hm7 (HB1.out.trans (hb.mono HB1.out.size));clear hb))
    go_meet
    case rel=>exact ⟨rfl,HB2.out⟩
  ·have hb:bz = false:=by rw [<- HBZ.out];simp [e0]
   subst hb
   have e2:(k0 == 1) = false:=by simp [e0]
   go_wp2_with (go_at_call 124;refine (HK0.out _ HZ0.out).mono ?_;rintro e W1 ⟨rfl,hb⟩;have HB1:=hm7 hb;clear hb HK0)
   go_meet
   case rel=>exact ⟨rfl,HB1.out⟩
 case rest=>
  obtain ⟨rfl,hb⟩:=hcut
  have HB1:=hm7 hb
  have HZ1:=hm7 (HZ0.out.below hb)
  have HR1:=hm7 (HR0.out.below hb)
  have HF1:=hm7 (W5.of (c:=c) (HB0.out.trans (hb.mono HB0.out.size)))
  clear hb HK0 HK1
  obtain ⟨W1,rfl⟩:∃ W1,W1 = wc:=⟨_,rfl⟩
  cases bz with
  | true=>
   have hd:=of_decide_eq_true HBZ.out
   have hR2:R = .ok (⟨0,0,⟨#[]⟩⟩,s):=by rw [<- HRR.out,if_pos hd]
   subst hR2
   have r0:=HR1.out.cell (i:=0) rfl
   have r1:=HR1.out.cell (i:=1) rfl
   have r2:=HR1.out.cell (i:=2) rfl
   have f0:=HR1.out.froz 0
   have f1:=HR1.out.froz 1
   have f2:=HR1.out.froz 2
   have hrl:=HR1.out.lt
   have HRZ:=hm7 (store3y HR1.out (a:=.int .i64 0) (b:=.int .i64 0) (c:=.string ⟨#[]⟩))
   have z0:=HRZ.out.cell (i:=0) rfl
   have z1:=HRZ.out.cell (i:=1) rfl
   have z2:=HRZ.out.cell (i:=2) rfl
   have HZ2:=hm7 (HZ1.out.off3 (x:=.int .i64 0) (y:=.int .i64 0) (z:=.string ⟨#[]⟩) HN2.out)
   have HF2:=hm7 (fr_off3 (x:=.int .i64 0) (y:=.int .i64 0) (z:=.string ⟨#[]⟩) HF1.out HQW.out)
   clear hd HRR
   go_wp2
   refine bodyPost_ret (v:=.agg #[.int .i64 0,.int .i64 0,.string ⟨#[]⟩]) (by simp [results,Tryz.results121,go_sem,z0,z1,z2]) rfl ?_
   exact ⟨HF2.out,_,rfl,rfl,HZ2.out⟩
  | false=>
   have hd:=of_decide_eq_false HBZ.out
   have hR2:=HRR.out
   rw [if_neg hd] at hR2
   clear HRR hd
   cases hr:who5 c.T c.L s with
   | error f=>
    rw [R5.and_err hr] at hR2
    subst hR2
    have HE:=hm7 (P5P.err (HWH.out W1 HZ1.out) hr)
    clear hr HWH
    go_wp2_with (go_at_call 158;refine HE.out.mono ?_;rintro e W2 ⟨rfl,hf⟩;have HF2:=hm7 (HF1.out.tr hf);clear hf)
    exact ⟨rfl,HF2.out,rfl⟩
   | ok p=>
    obtain ⟨⟨tk,tn,tx⟩,s1⟩:=p
    rw [R5.and_ok hr] at hR2
    have HE:=hm7 (P5P.ok (HWH.out W1 HZ1.out) hr)
    have HTK:Hid (∀ X:World,PZ c X s1 -> Calls Tryz.prog 85 #[.pointer (some ⟨c.g,0,none⟩),.slice (some ⟨X.heap.size,0,none⟩) 1 1] (X.alloc (.cells #[.int .i64 5] 3)) (P5P c (X.alloc (.cells #[.int .i64 5] 3)) (fun (t:Tk) v _=>v = t.v) (tk5 c.T c.L [5] s1))):=fun X hX=>takeN5 5 (by decide) c s1 X hX
    clear hr HWH
    go_upto_region 4 with (go_at_call 158;refine HE.out.mono ?_;rintro e W2 ⟨v2,rfl,rfl,hz,hf⟩;have HZ2:=hm7 (hz.below (below1 W2 (.cells #[.int .i64 tk,.int .i64 tn,.string tx] 39)));have HF2:=hm7 ((HF1.out.tr hf).then (below1 W2 (.cells #[.int .i64 tk,.int .i64 tn,.string tx] 39)));have HR2:=hm7 ((HR1.out.fr hf HN1.out).below (below1 W2 (.cells #[.int .i64 tk,.int .i64 tn,.string tx] 39)));have HX2:=hm7 (Bk.new W2 #[.int .i64 tk,.int .i64 tn,.string tx] 39);have hz2:=(HF1.out.tr hf).size;clear hz hf)
    revert HZ2 HF2 HR2 HX2
    generalize W2.alloc (.cells #[.int .i64 tk,.int .i64 tn,.string tx] 39) = W3
    have HXN:Hid (¬ W5 c W2.heap.size /\ c.N <= W2.heap.size):=⟨fun e=>by rcases e with e | e <;> (have:=HZ0.out.gN;have:=HZ0.out.mN;have:=HN2.out;have:=HQ.out;omega),by have:=HN2.out;have:=HQ.out;omega⟩
    generalize W2.heap.size = xb at *
    intro HZ2 HF2 HR2 HX2
    cases hr:tk5 c.T c.L [5] s1 with
    | error f=>
     rw [R5.and_err hr] at hR2
     subst hR2
     have HE2:=hm7 (P5P.err (HTK.out W3 HZ2.out) hr)
     clear hr HTK
     go_wp2_with (go_at_call 85;refine HE2.out.mono ?_;rintro e W4 ⟨rfl,hf⟩;have HF4:=hm7 ((HF2.out.then (below1 _ _)).tr hf);clear hf)
     exact ⟨rfl,HF4.out,rfl⟩
    | ok p=>
     obtain ⟨⟨tk0,tx0,tn0,ta0,te0⟩,s2⟩:=p
     rw [R5.and_ok hr] at hR2
     subst hR2
     have HE2:=hm7 (P5P.ok (HTK.out W3 HZ2.out) hr)
     clear hr HTK
     go_upto_region 5 with (go_at_call 85;refine HE2.out.mono ?_;rintro e W4 ⟨v4,rfl,rfl,hz,hf⟩;have HZ4:=hm7 hz;have HF4:=hm7 ((HF2.out.then (below1 _ _)).tr hf);have HR4:=hm7 ((HR2.out.below (below1 _ _)).fr hf HN1.out);have HX4:=hm7 ((HX2.out.below (below1 _ _)).fr hf HXN.out.1);clear hz hf)
     have r0:=HR4.out.cell (i:=0) rfl
     have r1:=HR4.out.cell (i:=1) rfl
     have r2:=HR4.out.cell (i:=2) rfl
     have f0:=HR4.out.froz 0
     have f1:=HR4.out.froz 1
     have f2:=HR4.out.froz 2
     have hrl:=HR4.out.lt
     have x0:=HX4.out.cell (i:=0) rfl
     have x1:=HX4.out.cell (i:=1) rfl
     have x2:=HX4.out.cell (i:=2) rfl
     have HRZ:=hm7 (store3y HR4.out (a:=.int .i64 tk) (b:=.int .i64 tn) (c:=.string tx))
     have z0:=HRZ.out.cell (i:=0) rfl
     have z1:=HRZ.out.cell (i:=1) rfl
     have z2:=HRZ.out.cell (i:=2) rfl
     have HZ5:=hm7 (HZ4.out.off3 (x:=.int .i64 tk) (y:=.int .i64 tn) (z:=.string tx) HN2.out)
     have HF5:=hm7 (fr_off3 (x:=.int .i64 tk) (y:=.int .i64 tn) (z:=.string tx) HF4.out HQW.out)
     go_wp2
     refine bodyPost_ret (v:=.agg #[.int .i64 tk,.int .i64 tn,.string tx]) (by simp [results,Tryz.results121,go_sem,z0,z1,z2]) rfl ?_
     exact ⟨HF5.out,_,rfl,rfl,HZ5.out⟩
theorem field5_x (a b c d e:Value) (w:World):(Instr.field 64 (.agg #[a,b,c,d,e]) 1).run Tryz.prog w = .ok b w:=by kernel_rfl
set_option maxRecDepth 20000 in
set_option maxHeartbeats 2000000 in
theorem atom5_any (c:Pk) (s:Ps) (w:World) (h:PZ c w s) :
  Calls Tryz.prog 84 #[.pointer (some ⟨c.g,0,none⟩)] w (P5P c w (fun (a:At) v w'=>∃ y,v = a.v y /\ Ot5 w' w.heap.size y a.args) (at5 c.T c.L s)):=by
 have HBY:Hid (∀ X:World,PZ c X s -> Calls Tryz.prog 121 #[.pointer (some ⟨c.g,0,none⟩)] X (P5P c X (fun (t:Tm) v _=>v = t.v) (by5 c.T c.L s))):=fun X hX=>by5_any c s X hX
 obtain ⟨n1,n2⟩:=h.nw (r:=w.heap.size) (Nat.le_refl _)
 have HN1:=hm7 n1
 have HN2:=hm7 n2
 have HWB:Hid (∀ b,w.heap.size <= b -> ¬ W5 c b):=fun b hb=>(h.nw hb).1
 have HB0:=hm7 (below1 w (.cells #[.int .i64 0,.int .i64 0,.string ⟨#[]⟩,.string ⟨#[]⟩,.slice none 0 0] 42))
 have HR0:=hm7 (Bk.new w #[.int .i64 0,.int .i64 0,.string ⟨#[]⟩,.string ⟨#[]⟩,.slice none 0 0] 42)
 have HZ0:=hm7 (h.below HB0.out)
 obtain ⟨Y0,hY0⟩:∃ Y0,w.alloc (.cells #[.int .i64 0,.int .i64 0,.string ⟨#[]⟩,.string ⟨#[]⟩,.slice none 0 0] 42) = Y0:=⟨_,rfl⟩
 rw [hY0] at HB0 HR0 HZ0
 have HY0:=hm7 hY0
 obtain ⟨q,hq⟩:∃ q,w.heap.size = q:=⟨_,rfl⟩
 rw [hq] at HN1 HN2 HR0
 have HQ:=hm7 hq
 have HQW:Hid (w.heap.size <= q):=by show _ <= _;rw [hq];exact Nat.le_refl _
 obtain ⟨R,hR⟩:∃ R,at5 c.T c.L s = R:=⟨_,rfl⟩
 rw [hR]
 unfold at5 at hR
 have HQ1:Hid (q < Y0.heap.size):=HR0.out.lt
 clear h n1 n2 hY0 hq
 go_enter Tryz.func84,Tryz.ntmps84
 go_upto_region 1 with fail
 rw [HY0.out,HQ.out]
 clear HY0
 cases hr:by5 c.T c.L s with
 | error f=>
  rw [R5.and_err hr] at hR
  subst hR
  have HE:=hm7 (P5P.err (HBY.out Y0 HZ0.out) hr)
  clear hr HBY
  go_wp2_with (go_at_call 121;refine HE.out.mono ?_;rintro e W1 ⟨rfl,hf⟩;have HF1:=hm7 ((W5.of (c:=c) HB0.out).tr hf);clear hf)
  exact ⟨rfl,HF1.out,rfl⟩
 | ok p=>
  obtain ⟨⟨bk,bn,bs⟩,s1⟩:=p
  rw [R5.and_ok hr] at hR
  have HE:=hm7 (P5P.ok (HBY.out Y0 HZ0.out) hr)
  clear hr HBY
  have HTK:Hid (∀ X:World,PZ c X s1 -> Calls Tryz.prog 85 #[.pointer (some ⟨c.g,0,none⟩),.slice (some ⟨X.heap.size,0,none⟩) 1 1] (X.alloc (.cells #[.int .i64 1] 3)) (P5P c (X.alloc (.cells #[.int .i64 1] 3)) (fun (t:Tk) v _=>v = t.v) (tk5 c.T c.L [1] s1))):=fun X hX=>takeN5 1 (by decide) c s1 X hX
  go_upto_region 2 with (go_at_call 121;refine HE.out.mono ?_;rintro e W1 ⟨v1,rfl,rfl,hz,hf⟩;have HZ2:=hm7 (hz.below (below1 W1 (.cells #[.int .i64 bk,.int .i64 bn,.string bs] 39)));have HF2:=hm7 (((W5.of (c:=c) HB0.out).tr hf).then (below1 W1 (.cells #[.int .i64 bk,.int .i64 bn,.string bs] 39)));have HR2:=hm7 ((HR0.out.fr hf HN1.out).below (below1 W1 (.cells #[.int .i64 bk,.int .i64 bn,.string bs] 39)));have HX2:=hm7 (Bk.new W1 #[.int .i64 bk,.int .i64 bn,.string bs] 39);have hz1:=((W5.of (c:=c) HB0.out).tr hf).size;have hq1:q < W1.heap.size:=Nat.lt_of_lt_of_le HQ1.out hf.size;clear hz hf)
  revert HZ2 HF2 HR2 HX2
  generalize W1.alloc (.cells #[.int .i64 bk,.int .i64 bn,.string bs] 39) = W2
  have HXN:Hid (¬ W5 c W1.heap.size /\ W1.heap.size ≠ q):=⟨HWB.out _ hz1,by omega⟩
  generalize W1.heap.size = xb at *
  intro HZ2 HF2 HR2 HX2
  clear hq1 hz1
  cases hr:tk5 c.T c.L [1] s1 with
  | error f=>
   rw [R5.and_err hr] at hR
   subst hR
   have HE2:=hm7 (P5P.err (HTK.out W2 HZ2.out) hr)
   clear hr HTK
   go_wp2_with (go_at_call 85;refine HE2.out.mono ?_;rintro e W4 ⟨rfl,hf⟩;have HF4:=hm7 ((HF2.out.then (below1 _ _)).tr hf);clear hf)
   exact ⟨rfl,HF4.out,rfl⟩
  | ok p=>
   obtain ⟨⟨tk,tx,tn,ta,te⟩,s2⟩:=p
   rw [R5.and_ok hr] at hR
   have HE2:=hm7 (P5P.ok (HTK.out W2 HZ2.out) hr)
   clear hr HTK
   have HAX:Hid (∀ X:World,PZ c X s2 -> Calls Tryz.prog 122 #[.pointer (some ⟨c.g,0,none⟩)] X (P5P c X (fun (l:List Tm) v w'=>Ot5 w' X.heap.size v l) (args5 c.T c.L s2))):=fun X hX=>args5_any c s2 X hX
   have hfx:=field5_x
   go_upto_region 3 with (go_at_call 85;refine HE2.out.mono ?_;rintro e W3 ⟨v3,rfl,hv3,hz,hf⟩;have hv4:v3 = .agg #[.int .i64 tk,.string tx,.int .i64 tn,.int .i64 ta,.int .i64 te]:=hv3;clear hv3;subst hv4;have HZ3:=hm7 hz;have HF3:=hm7 ((HF2.out.then (below1 _ _)).tr hf);have HQ3:=hm7 ((HR2.out.below (below1 _ _)).fr hf HN1.out);have HX3:=hm7 ((HX2.out.below (below1 _ _)).fr hf HXN.out.1);clear hz hf HE2)
   have HBC:Hid (∀ Y:World,Fr (fun b=>W5 c b ∨ b = q) W3 Y -> Y.cell? ⟨xb,0,none⟩ = some (.int .i64 bk) /\ Y.cell? ⟨xb,1,none⟩ = some (.int .i64 bn) /\ Y.cell? ⟨xb,2,none⟩ = some (.string bs)):=fun Y hY=>by
    have:=HX3.out.fr hY (fun e=>by rcases e with e | e;exact HXN.out.1 e;exact HXN.out.2 e)
    exact ⟨this.cell (i:=0) rfl,this.cell (i:=1) rfl,this.cell (i:=2) rfl⟩
   have HQN:Hid (¬ W5 c q):=HN1.out
   cases hr:args5 c.T c.L s2 with
   | error f=>
    rw [R5.and_err hr] at hR
    subst hR
    have HAR:Hid (∀ X:World,PZ c X s2 -> Calls Tryz.prog 122 #[.pointer (some ⟨c.g,0,none⟩)] X fun e w'=>e = .panicked [pF f] /\ Fr (W5 c) X w'):=fun X hX=>P5P.err (HAX.out X hX) hr
    clear hr HAX
    refine wp_region_held_drew (S:=fun w'=>Fr (fun b=>W5 c b ∨ b = q) W3 w') (by kernel_rfl) (by exact (Fr.refl _ _).drew) (fun hH=>?_)
    revert hH
    generalize hV0:W3.drew = V0
    intro hH
    have HV0:=hm7 hV0
    clear hV0
    refine wTl 0 (.agg #[.int .i64 bk,.int .i64 bn,.string bs]) rfl (by kernel_rfl) (fun _ _ _ h=>h) rfl (fun w' h=>by obtain ⟨q0,q1,q2⟩:=HBC.out w' h;clear h;go_simp) hH ?_
    simp only [wA,wB,wC,wD]
    refine wTl 1 (.string tx) rfl (by kernel_rfl) (fun _ _ _ h=>h) rfl (fun w' h=>by clear h;go_simp) hH ?_
    simp only [wA,wB,wC,wD]
    refine wTl 2 (.pointer (some ⟨c.g,0,none⟩)) rfl (by kernel_rfl) (fun _ _ _ h=>h) rfl (fun w' h=>by clear h;go_simp) hH ?_
    simp only [wA,wB,wC,wD]
    refine wRd 3 (by kernel_rfl) rfl (fun K hK=>?_)
    go_simp
    refine (HAR.out _ (by rw [<- HV0.out];exact HZ3.out.below (below_drewN (Below.refl _ _) 1))).mono ?_
    rintro e W4 ⟨rfl,hf⟩
    refine ⟨rfl, ?_⟩
    exact ⟨(HF3.out.then (show Below W3.heap.size W3 V0 by rw [<- HV0.out];exact below_drewN (Below.refl _ _) 1)).tr hf,rfl⟩
   | ok p=>
    obtain ⟨al,s3⟩:=p
    rw [R5.and_ok hr] at hR
    subst hR
    have HAR:Hid (∀ X:World,PZ c X s2 -> Calls Tryz.prog 122 #[.pointer (some ⟨c.g,0,none⟩)] X fun e w'=>∃ v,e = .returned v /\ Ot5 w' X.heap.size v al /\ PZ c w' s3 /\ Fr (W5 c) X w'):=fun X hX=>P5P.ok (HAX.out X hX) hr
    clear hr HAX
    refine wp_region_held_drew (S:=fun w'=>Fr (fun b=>W5 c b ∨ b = q) W3 w') (by kernel_rfl) (by exact (Fr.refl _ _).drew) (fun hH=>?_)
    revert hH
    generalize hV0:W3.drew = V0
    intro hH
    have HV0:=hm7 hV0
    clear hV0
    refine wTl 0 (.agg #[.int .i64 bk,.int .i64 bn,.string bs]) rfl (by kernel_rfl) (fun _ _ _ h=>h) rfl (fun w' h=>by obtain ⟨q0,q1,q2⟩:=HBC.out w' h;clear h;go_simp) hH ?_
    simp only [wA,wB,wC,wD]
    refine wTl 1 (.string tx) rfl (by kernel_rfl) (fun _ _ _ h=>h) rfl (fun w' h=>by clear h;go_simp) hH ?_
    simp only [wA,wB,wC,wD]
    refine wTl 2 (.pointer (some ⟨c.g,0,none⟩)) rfl (by kernel_rfl) (fun _ _ _ h=>h) rfl (fun w' h=>by clear h;go_simp) hH ?_
    simp only [wA,wB,wC,wD]
    refine wRd 3 (by kernel_rfl) rfl (fun K hK=>?_)
    go_simp
    refine (HAR.out _ (by rw [<- HV0.out];exact HZ3.out.below (below_drewN (Below.refl _ _) 1))).mono ?_
    rintro e W4 ⟨v4,rfl,ho,hz,hf⟩
    obtain ⟨ya,yc,hyf, -⟩:=row7_form ho
    generalize hal:al.length = an at hyf
    subst hyf
    have HAN:=hm7 hal
    clear hal
    have HO4:=hm7 ho
    have HZ4:=hm7 hz
    have HF4:=hm7 hf
    refine hK.out _ _ (hH.trans (Q:=W5 c) hf fun b _ e=>Or.inl e) (fun hH=>?_)
    clear hK ho hz hf
    try simp only [wA,wB,wC,wD]
    refine wTl 4 (.agg #[.int .i64 bk,.int .i64 bn,.string bs,.string tx,.slice ya an yc]) rfl (by kernel_rfl) (fun _ _ _ h=>h) rfl (fun w' h=>by clear h;go_simp) hH ?_
    simp only [wA,wB,wC,wD]
    have HQ4:=hm7 (HQ3.out.fr (W5.of (c:=c) (show Below W3.heap.size W3 V0 by rw [<- HV0.out];exact below_drewN (Below.refl _ _) 1) |>.tr HF4.out) HQN.out)
    have r0:=HQ4.out.cell (i:=0) rfl
    have r1:=HQ4.out.cell (i:=1) rfl
    have r2:=HQ4.out.cell (i:=2) rfl
    have r3:=HQ4.out.cell (i:=3) rfl
    have r4:=HQ4.out.cell (i:=4) rfl
    have f0:=HQ4.out.froz 0
    have f1:=HQ4.out.froz 1
    have f2:=HQ4.out.froz 2
    have f3:=HQ4.out.froz 3
    have f4:=HQ4.out.froz 4
    have hrl:=HQ4.out.lt
    refine wRd 5 (by kernel_rfl) rfl (fun K hK=>?_)
    go_simp
    refine hK.out _ _ (((((hH.set (Or.inl (Or.inr rfl))).set (Or.inl (Or.inr rfl))).set (Or.inl (Or.inr rfl))).set (Or.inl (Or.inr rfl))).set (Or.inl (Or.inr rfl))) (fun hH=>?_)
    clear hK hH
    try simp only [wA,wB,wC,wD]
    refine wpAnyH_done (by kernel_rfl) ?_ _
    clear r0 r1 r2 r3 r4 f0 f1 f2 f3 f4 hrl
    have HRZ:=hm7 (store5y HQ4.out (a:=.int .i64 bk) (b:=.int .i64 bn) (c:=.string bs) (d:=.string tx) (e:=.slice ya an yc))
    have z0:=HRZ.out.cell (i:=0) rfl
    have z1:=HRZ.out.cell (i:=1) rfl
    have z2:=HRZ.out.cell (i:=2) rfl
    have z3:=HRZ.out.cell (i:=3) rfl
    have z4:=HRZ.out.cell (i:=4) rfl
    have HVV:Hid (Below W3.heap.size W3 V0):=by show Below _ _ _;rw [<- HV0.out];exact below_drewN (Below.refl _ _) 1
    have HQV:Hid (q < V0.heap.size):=Nat.lt_of_lt_of_le HQ3.out.lt HVV.out.size
    have HZ5:=hm7 (((((HZ4.out.off (i:=0) (v:=.int .i64 bk) HN2.out).off (i:=1) (v:=.int .i64 bn) HN2.out).off (i:=2) (v:=.string bs) HN2.out).off (i:=3) (v:=.string tx) HN2.out).off (i:=4) (v:=.slice ya an yc) HN2.out)
    have HF5:=hm7 (((((((HF3.out.then HVV.out).tr HF4.out).set (i:=0) (v:=.int .i64 bk) (Or.inr HQW.out)).set (i:=1) (v:=.int .i64 bn) (Or.inr HQW.out)).set (i:=2) (v:=.string bs) (Or.inr HQW.out)).set (i:=3) (v:=.string tx) (Or.inr HQW.out)).set (i:=4) (v:=.slice ya an yc) (Or.inr HQW.out))
    have HO5:=hm7 (HO4.out.fr (((((Fr.refl (fun b=>b = q) _).set (i:=0) (v:=.int .i64 bk) (Or.inl rfl)).set (i:=1) (v:=.int .i64 bn) (Or.inl rfl)).set (i:=2) (v:=.string bs) (Or.inl rfl)).set (i:=3) (v:=.string tx) (Or.inl rfl) |>.set (i:=4) (v:=.slice ya an yc) (Or.inl rfl)) (fun b hb e=>by have:=HQV.out;omega))
    have HSZ:Hid (w.heap.size <= V0.heap.size):=Nat.le_trans HF3.out.size HVV.out.size
    try go_wp2
    refine bodyPost_ret (v:=.agg #[.int .i64 bk,.int .i64 bn,.string bs,.string tx,.slice ya an yc]) (by simp [results,Tryz.results84,go_sem,z0,z1,z2,z3,z4]) rfl ?_
    exact ⟨HF5.out,_,rfl,⟨_,rfl,HO5.out.mono5 HSZ.out⟩,HZ5.out⟩
end Go.Proofs.YtcpjiahdaplhlaaGreatDoor

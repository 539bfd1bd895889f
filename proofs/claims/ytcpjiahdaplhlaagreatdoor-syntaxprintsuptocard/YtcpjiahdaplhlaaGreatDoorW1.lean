import Derived.Test.YtcpjiahdaplhlaaGreatDoorCL2
import Derived.Deep.AppendLies
import Derived.WalkMore
import Derived.Deep.LoopGhost
import Derived.Deep.CutRange
namespace Go.Proofs.YtcpjiahdaplhlaaGreatDoor
open Go.RowKit Go.Shelf
attribute [local go_sem] Oper.semAt_some
theorem cterms_any (c:Cm) (w:World) (h:c.ok w) :
  Calls Tryz.prog 200 #[c.v] w fun e w'=>e = .returned (.func (.func 213) #[] #[.pointer (some ⟨w.heap.size,0,none⟩)]) /\ w' = w.alloc (.cells c.cs 53):=by
 obtain ⟨⟨a,n,cap,h1⟩,⟨a',cap',h2⟩,⟨a'',cap'',h3⟩, -, -⟩:=h.shape
 obtain ⟨⟨⟨⟨k,m,s⟩,nm,l⟩,hx⟩,body,bv,tests,tv⟩:=c
 simp only at h1 h2 h3
 subst h1 h2 h3
 go_enter Tryz.func200,Tryz.ntmps200
 go_wp2
 go_ret
 exact ⟨rfl,rfl⟩
theorem cblk_own {β:Type} (K B:Nat) (t:TypeId) (c:Array Value):OwnFrom K (fun (_ : β) W=>CBlk W B c t):=fun _ X _ row hs hg hr=>
 (hg.block B hs.lt (fun e=>by obtain ⟨o,ho,hc⟩:=(hr B e.symm).2;rw [show X.heap[B]? = _ from hs] at ho;cases ho;cases hc)).trans hs
theorem CBlk.up {K B:Nat} {t:TypeId} {c:Array Value} {W W':World} (h:CBlk W B c t) (hu:Up K W W') (hB:K <= B):CBlk W' B c t:=(hu.same B hB h.lt).trans h
theorem one {w:World} {g:Nat} {a:Value} {t:TypeId} (h:CBlk w g #[a] t):w.cell? ⟨g,0,none⟩ = some a /\ w.frozen? ⟨g,0,none⟩ = false:=⟨cell_of_row _ _ _ _ _ _ h,frozen_of_row _ _ _ _ _ h⟩
theorem cfive {w:World} {g:Nat} {a b c d e:Value} {t:TypeId} (h:CBlk w g #[a,b,c,d,e] t) :
  w.cell? ⟨g,0,none⟩ = some a /\ w.cell? ⟨g,1,none⟩ = some b /\ w.cell? ⟨g,2,none⟩ = some c /\ w.cell? ⟨g,3,none⟩ = some d /\ w.cell? ⟨g,4,none⟩ = some e:=
 ⟨cell_of_row _ _ _ _ _ _ h,cell_of_row _ _ _ _ _ _ h,cell_of_row _ _ _ _ _ _ h,cell_of_row _ _ _ _ _ _ h,cell_of_row _ _ _ _ _ _ h⟩
def flt (l:List (At × Value)):List Tm:=l.flatMap fun x=>x.1.pl
theorem flt_snoc (l:List (At × Value)) (x:At × Value):flt (l ++ [x]) = flt l ++ x.1.pl:=by simp [flt]
theorem flt_pre {pre xs:List (At × Value)} {x:At × Value} {q:List Tm} (R:List Tm) (h:pre ++ [x] <+: xs) (hq:q <+: x.1.pl):flt pre ++ q <+: flt xs ++ R:=by
 obtain ⟨suf,rfl⟩:=h
 obtain ⟨r,hr⟩:=hq
 refine ⟨r ++ flt suf ++ R, ?_⟩
 have e:flt (pre ++ [x] ++ suf) = flt pre ++ x.1.pl ++ flt suf:=by simp [flt]
 rw [e, <- hr]
 simp only [List.append_assoc]
def tls (l:List Te):List Tm:=l.flatMap fun t=>[t.l,t.r]
theorem tls_snoc (l:List Te) (t:Te):tls (l ++ [t]) = tls l ++ [t.l,t.r]:=by simp [tls]
theorem tls_pre {F:List Tm} {tests:List Te} {q:Nat} {t:Te} {p:List Tm} (ht:tests[q]? = some t) (hp:p <+: [t.l,t.r]):F ++ tls (tests.take q) ++ p <+: F ++ tls tests:=by
 obtain ⟨r,hr⟩:=hp
 obtain ⟨hq,rfl⟩:=List.getElem?_eq_some_iff.1 ht
 refine ⟨r ++ tls (tests.drop (q + 1)), ?_⟩
 have e:tls tests = tls (tests.take q) ++ [tests[q].l,tests[q].r] ++ tls (tests.drop (q + 1)):=by
  have e0:tests = tests.take q ++ (tests[q] :: tests.drop (q + 1)):=by rw [<- List.drop_eq_getElem_cons hq,List.take_append_drop]
  refine (congrArg tls e0).trans ?_
  unfold tls
  rw [List.flatMap_append,List.flatMap_cons,List.append_assoc]
 rw [e, <- hr]
 simp only [List.append_assoc]
theorem Cm.ok.mem {w:World} {c:Cm} (h:c.ok w) {x:At × Value} (hx:x ∈ c.atoms):Ts w x.2 x.1.args:=by
 rcases List.mem_cons.1 hx with rfl | hx
 ·exact h.h
 ·obtain ⟨-, -, -, -, -,ht⟩:=h.b;exact ht x hx
theorem mem_of_pre {α:Type} {pre xs:List α} {x : α} (h:pre ++ [x] <+: xs):x ∈ xs:=by
 obtain ⟨suf,rfl⟩:=h;simp
abbrev At.cs (a:At) (x:Value):Array Value:=#[.int .i64 a.by_.k,.int .i64 a.by_.n,.string a.by_.s,.string a.name,x]
set_option maxRecDepth 100000 in
set_option maxHeartbeats 4000000 in
theorem terms_seq (c:Cm) (B0:Nat) :
  SeqO Tryz.prog 213 #[.pointer (some ⟨B0,0,none⟩)] (fun t:Tm=>#[t.v]) c.terms (CMem c B0):=by
 intro n l J Jx W hJB hJ hJx hY h0
 have hWB:=hJB [] W h0
 have HC:Hid (CMem c B0 W):=hWB
 obtain ⟨⟨a,hn,cap,h1⟩,⟨a',cap',h2⟩,⟨a'',cap'',h3⟩,hbl,htl⟩:=hWB.2.shape
 obtain ⟨c0,c1,c2,c3,c4,c5,c6⟩:=cseven (CBlk.later hWB.1 (below1 W (.cells #[.func (.yield l) #[] #[]] 80)))
 have hat:=atoms_any c (W.alloc (.cells #[.func (.yield l) #[] #[]] 80)) (hWB.2.later (below1 _ _))
 obtain ⟨⟨⟨⟨k,m,s⟩,nm,ls⟩,hx⟩,body,bv,tests,tv⟩:=c
 simp only at h1 h2 h3 c0 c1 c2 c3 c4 c5 c6 hbl htl hat
 subst h1 h2 h3
 clear hWB
 refine callsIn_of_wp_marks Tryz.func213 rfl trivial ?_ rfl
 simp only [Tryz.ntmps213,List.size_toArray,List.length_cons,List.length_nil,Nat.reduceAdd,Nat.reduceSub,Array.replicate_succ,Array.replicate_zero,List.push_toArray,List.append_toArray,List.nil_append,List.cons_append]
 gi_wp2
 refine ⟨trivial,fun h=>(by cases h),(callsIn_wide.2 hat).mono ?_⟩
 rintro e w' ⟨rfl,rfl⟩
 clear hat
 have hz1:((W.alloc (.cells #[.func (.yield l) #[] #[]] 80)).alloc (.cells (Cm.cs ⟨(⟨⟨k,m,s⟩,nm,ls⟩,.slice a hn cap),body,.slice a' body.length cap',tests,.slice a'' tests.length cap''⟩) 53)).heap.size = W.heap.size + 2:=by simp
 have b1:CBlk ((W.alloc (.cells #[.func (.yield l) #[] #[]] 80)).alloc (.cells (Cm.cs ⟨(⟨⟨k,m,s⟩,nm,ls⟩,.slice a hn cap),body,.slice a' body.length cap',tests,.slice a'' tests.length cap''⟩) 53)) W.heap.size #[.func (.yield l) #[] #[]] 80:=(CBlk.new W _ _).later (below1 _ _)
 have b2:=CBlk.new (W.alloc (.cells #[.func (.yield l) #[] #[]] 80)) (Cm.cs ⟨(⟨⟨k,m,s⟩,nm,ls⟩,.slice a hn cap),body,.slice a' body.length cap',tests,.slice a'' tests.length cap''⟩) 53
 rw [show (W.alloc (.cells #[.func (.yield l) #[] #[]] 80)).heap.size = W.heap.size + 1 by simp] at b2
 have j1:J [] ((W.alloc (.cells #[.func (.yield l) #[] #[]] 80)).alloc (.cells (Cm.cs ⟨(⟨⟨k,m,s⟩,nm,ls⟩,.slice a hn cap),body,.slice a' body.length cap',tests,.slice a'' tests.length cap''⟩) 53)):=hJ.alloc _ (hJ.alloc _ h0)
 gi_wp2
 revert hz1 b1 b2 j1
 generalize (W.alloc (.cells #[.func (.yield l) #[] #[]] 80)).alloc (.cells (Cm.cs ⟨(⟨⟨k,m,s⟩,nm,ls⟩,.slice a hn cap),body,.slice a' body.length cap',tests,.slice a'' tests.length cap''⟩) 53) = W1
 intro hz1 b1 b2 j1
 have HJB:Hid (∀ pre W1,J pre W1 -> CMem ⟨(⟨⟨k,m,s⟩,nm,ls⟩,.slice a hn cap),body,.slice a' body.length cap',tests,.slice a'' tests.length cap''⟩ B0 W1):=hJB
 clear c0 c1 c2 c3 c4 c5 c6 h0 HC hJB
 refine wpIn_seq (gf:=212) (lb:=#[.pointer (some ⟨W.heap.size + 1,0,none⟩)]) rfl (enters_of Tryz.func212 (by kernel_rfl) rfl) (atoms_seq ⟨(⟨⟨k,m,s⟩,nm,ls⟩,.slice a hn cap),body,.slice a' body.length cap',tests,.slice a'' tests.length cap''⟩ (W.heap.size + 1)) (fun _=>rfl)
  (fun pre X=>J (flt pre) X /\ CBlk X W.heap.size #[.func (.yield l) #[] #[]] 80 /\ CBlk X (W.heap.size + 1) (Cm.cs ⟨(⟨⟨k,m,s⟩,nm,ls⟩,.slice a hn cap),body,.slice a' body.length cap',tests,.slice a'' tests.length cap''⟩) 53)
  (fun cd _ X=>cd = .ret /\ ∃ q,q <+: Cm.terms ⟨(⟨⟨k,m,s⟩,nm,ls⟩,.slice a hn cap),body,.slice a' body.length cap',tests,.slice a'' tests.length cap''⟩ /\ Jx q X)
  (OwnFrom.and (fun s X Y row hs hg hr=>hJ _ X Y row hs hg (fun r e=>⟨by have:=(hr r e).1;omega,(hr r e).2⟩)) (OwnFrom.and (cblk_own _ _ _ _) (cblk_own _ _ _ _)))
  (fun cd s X Y row hs hg hr=>⟨hs.1,by obtain ⟨q,hq,hx⟩:=hs.2;exact ⟨q,hq,hJx q X Y row hx hg (fun r e=>⟨by have:=(hr r e).1;omega,(hr r e).2⟩)⟩⟩)
  (fun pre X h=>⟨h.2.2,(HJB.out _ X h.1).2⟩)
  ⟨j1,b1,b2⟩
  (fun x act X=>∃ Bx,W.heap.size + 1 < Bx /\ CBlk X Bx (x.1.cs x.2) 42 /\ act = { tmps:=#[.func (.yield l) #[] #[],.pointer (some ⟨B0,0,none⟩),.pointer (some ⟨W.heap.size,0,none⟩),.pointer (some ⟨Bx,0,none⟩),undef,undef,undef,undef,.agg #[.int .i64 k,.int .i64 m,.string s,.string nm,.slice a hn cap,.slice a' body.length cap',.slice a'' tests.length cap''],.func (.func 212) #[] #[.pointer (some ⟨W.heap.size + 1,0,none⟩)],x.1.v x.2,undef,undef,undef,undef,undef,undef,undef,undef,undef,undef,undef,undef,undef,undef,undef,undef,undef,undef,undef,undef,undef,undef,undef,undef,undef,undef,undef,undef,undef,undef,undef,undef,undef,undef,undef,undef,undef],defers:=[] })
  (fun x _ _ X Y row hs hg hr=>by obtain ⟨Bx,h1,h2,h3⟩:=hs;exact ⟨Bx,h1,cblk_own (β:=Unit) _ _ _ _ () X Y row h2 hg hr,h3⟩)
  ?assign ?body ?done ?stop
 case assign=>
  rintro l' mm pre x X K hpre ⟨hj,hf,hb⟩ hle hK
  obtain ⟨ax,cx,hax, -⟩:=(HJB.out _ X hj).2.mem (mem_of_pre hpre)
  obtain ⟨⟨⟨kx,mx,sx⟩,nx,lx⟩,vx⟩:=x
  simp only at hax
  subst hax
  gi_wp2
  exact hK _ _ (Up.alloc _ _ _) ⟨hJ.alloc _ hj,hf.later (below1 _ _),hb.later (below1 _ _)⟩ ⟨X.heap.size,by omega,CBlk.new _ _ _,rfl⟩
 case body=>
  rintro l' mm pre x act X hpre ⟨hj,hf,hb⟩ ⟨Bx,hBx,hX,rfl⟩ hle
  obtain ⟨ax,cx,hax,hll, -⟩:=(HJB.out _ X hj).2.mem (mem_of_pre hpre)
  have HP:Hid (pre ++ [x] <+: Cm.atoms ⟨(⟨⟨k,m,s⟩,nm,ls⟩,.slice a hn cap),body,.slice a' body.length cap',tests,.slice a'' tests.length cap''⟩):=hpre
  have HF:Hid (CBlk X W.heap.size #[.func (.yield l) #[] #[]] 80):=hf
  have HB:Hid (CBlk X (W.heap.size + 1) (Cm.cs ⟨(⟨⟨k,m,s⟩,nm,ls⟩,.slice a hn cap),body,.slice a' body.length cap',tests,.slice a'' tests.length cap''⟩) 53):=hb
  have hYx:=hY (mm - 1) (flt pre) x.1.by_ X hj (flt_pre _ hpre ⟨x.1.args,rfl⟩)
  obtain ⟨⟨⟨kx,mx,sx⟩,nx,lx⟩,vx⟩:=x
  simp only at hax hYx hll
  subst hax
  have HX:Hid (CBlk X Bx #[.int .i64 kx,.int .i64 mx,.string sx,.string nx,.slice ax lx.length cx] 42):=hX
  obtain ⟨fn,tmps,assign,bd,hy,hR⟩:=hYx
  obtain ⟨f0, -⟩:=one hf
  obtain ⟨x0,x1,x2,x3,x4⟩:=cfive HX.out
  clear hX hf hb hj hpre
  gi_wp2
  refine ⟨fun h=>(by cases h),hR.mono ?_⟩
  clear hR hy
  rintro e W3 (⟨rfl,hJ3,hu3⟩ | ⟨rfl,hx3,hu3⟩)
  ·have HJ3:Hid (J (flt pre ++ [⟨kx,mx,sx⟩]) W3):=hJ3
   have HU3:Hid (Up W.heap.size X W3):=hu3
   clear f0 x0 x1 x2 x3 x4
   obtain ⟨f0, -⟩:=one (HF.out.up hu3 (Nat.le_refl _))
   obtain ⟨x0,x1,x2,x3,x4⟩:=cfive (HX.out.up hu3 (by omega))
   clear hJ3 hu3
   gi_wp2
   gi_loopw [19] (fun p wr=>∃ (q:Nat),p = .int .i64 (q:Int) /\ q <= lx.length /\ J (flt pre ++ (⟨kx,mx,sx⟩ :: lx.take q)) wr /\ Up W.heap.size X wr)
    (fun p _=>lx.length - (intOf p).toNat)
   case atStart=>exact ⟨0,rfl,Nat.zero_le _,HJ3.out,HU3.out⟩
   case round=>
    obtain ⟨q,rfl,hq,hJr,hur⟩:=hrel
    have HJr:Hid (J (flt pre ++ (⟨kx,mx,sx⟩ :: lx.take q)) wr):=hJr
    have HUr:Hid (Up W.heap.size X wr):=hur
    clear f0 x0 x1 x2 x3 x4 HJ3 HU3
    by_cases hlt:q < lx.length
    ·have i0:(0:Int) <= (q:Int):=by omega
     have i1:(q:Int) < (lx.length:Int):=by omega
     obtain ⟨t,ht⟩:∃ t,lx[q]? = some t:=⟨_,List.getElem?_eq_getElem hlt⟩
     obtain ⟨a1,cap1,hv, -,hm⟩:=(HJB.out _ wr hJr).2.mem (mem_of_pre HP.out)
     simp only [Value.slice.injEq,true_and] at hv
     obtain ⟨rfl,rfl⟩:=hv
     rcases hm with hm | ⟨b,o,rfl,hm⟩
     ·simp only at hm;rw [hm] at hlt;simp at hlt
     obtain ⟨e0,e1,e2⟩:=hm.2 q t ht
     have HT:Hid (lx[q]? = some t):=ht
     have hpt:flt pre ++ (⟨kx,mx,sx⟩ :: lx.take q) ++ [t] <+: Cm.terms ⟨(⟨⟨k,m,s⟩,nm,ls⟩,.slice a hn cap),body,.slice a' body.length cap',tests,.slice a'' tests.length cap''⟩:=by
      rw [List.append_assoc]
      exact flt_pre _ HP.out (by show (_ :: lx.take q) ++ [t] <+: _ :: lx;exact pre_take ht)
     have HPT:Hid (flt pre ++ (⟨kx,mx,sx⟩ :: lx.take q) ++ [t] <+: Cm.terms ⟨(⟨⟨k,m,s⟩,nm,ls⟩,.slice a hn cap),body,.slice a' body.length cap',tests,.slice a'' tests.length cap''⟩):=hpt
     have hY1:=hY (mm - 1) _ t _ (hJ.alloc (.cells #[.int .i64 t.k,.int .i64 t.n,.string t.s] 39) HJr.out) hpt
     obtain ⟨f0, -⟩:=one ((HF.out.up hur (Nat.le_refl _)).later (below1 wr (.cells #[.int .i64 t.k,.int .i64 t.n,.string t.s] 39)))
     clear hm ht hpt hJr hur
     obtain ⟨kt,mt,st⟩:=t
     simp only at e0 e1 e2 hY1 f0
     obtain ⟨fn,tmps,assign,bd,hy,hR⟩:=hY1
     gi_wp2
     refine ⟨fun h=>(by cases h),hR.mono ?_⟩
     clear hR hy
     rintro e W4 (⟨rfl,hJ4,hu4⟩ | ⟨rfl,hx4,hu4⟩)
     ·have HJ4:Hid (J (flt pre ++ (⟨kx,mx,sx⟩ :: lx.take (q + 1))) W4):=by
       show J _ W4;rw [take_next HT.out];simpa using hJ4
      have HU4:Hid (Up W.heap.size X W4):=HUr.out.trans ((Up.alloc _ _ _).trans hu4)
      clear hJ4 hu4
      gi_wp2
      go_roundw
      case rel=>exact ⟨q + 1,by go_num,by omega,HJ4.out,HU4.out⟩
      case measure=>simp [intOf];omega
     ·have HX4:Hid _:=hx4
      have HU4:Hid (Up W.heap.size X W4):=HUr.out.trans ((Up.alloc _ _ _).trans hu4)
      clear hx4 hu4
      gi_wp2
      exact ⟨HU4.out.mono (by omega),rfl,_,HPT.out,HX4.out⟩
    ·obtain rfl:q = lx.length:=by omega
     have i1:¬ ((lx.length:Int) < (lx.length:Int)):=by omega
     clear hJr hur
     gi_wp2
     refine ⟨HUr.out.mono (by omega), ?_,HF.out.up HUr.out (Nat.le_refl _),HB.out.up HUr.out (by omega)⟩
     have:=HJr.out
     rw [List.take_length] at this
     rw [flt_snoc]
     exact this
  ·have HX3:Hid _:=hx3
   have HU3:Hid (Up W.heap.size X W3):=hu3
   clear hx3 hu3
   gi_wp2
   exact ⟨HU3.out.mono (by omega),rfl,_,flt_pre _ HP.out ⟨lx,rfl⟩,HX3.out⟩
 case done=>
  rintro E X hE ⟨hj,hf,hb⟩ hD
  obtain ⟨c0,c1,c2,c3,c4,c5,c6⟩:=cseven (HJB.out _ X hj).1
  simp only at c0 c1 c2 c3 c4 c5 c6
  have HJ0:Hid (J (flt (Cm.atoms ⟨(⟨⟨k,m,s⟩,nm,ls⟩,.slice a hn cap),body,.slice a' body.length cap',tests,.slice a'' tests.length cap''⟩)) X):=hj
  have HF0:Hid (CBlk X W.heap.size #[.func (.yield l) #[] #[]] 80):=hf
  have HD0:Hid (X.heap[E]? = some (.deferred (some []))):=hD
  clear hj hf hb hD
  gi_wp2
  gi_loopw [31] (fun p wr=>∃ (q:Nat),p = .int .i64 (q:Int) /\ q <= tests.length /\ J (flt (Cm.atoms ⟨(⟨⟨k,m,s⟩,nm,ls⟩,.slice a hn cap),body,.slice a' body.length cap',tests,.slice a'' tests.length cap''⟩) ++ tls (tests.take q)) wr /\ CBlk wr W.heap.size #[.func (.yield l) #[] #[]] 80 /\ wr.heap[E]? = some (.deferred (some [])))
   (fun p _=>tests.length - (intOf p).toNat)
  case atStart=>exact ⟨0,rfl,Nat.zero_le _,by simpa [tls] using HJ0.out,HF0.out,HD0.out⟩
  case round=>
   obtain ⟨q,rfl,hq,hJr,hfr,hdr⟩:=hrel
   have HJr:Hid (J (flt (Cm.atoms ⟨(⟨⟨k,m,s⟩,nm,ls⟩,.slice a hn cap),body,.slice a' body.length cap',tests,.slice a'' tests.length cap''⟩) ++ tls (tests.take q)) wr):=hJr
   have HFr:Hid (CBlk wr W.heap.size #[.func (.yield l) #[] #[]] 80):=hfr
   have HDr:Hid (wr.heap[E]? = some (.deferred (some []))):=hdr
   clear c0 c1 c2 c3 c4 c5 c6 HJ0 HF0 HD0 hfr hdr
   by_cases hlt:q < tests.length
   ·have i0:(0:Int) <= (q:Int):=by omega
    have i1:(q:Int) < (tests.length:Int):=by omega
    obtain ⟨t,ht⟩:∃ t,tests[q]? = some t:=⟨_,List.getElem?_eq_getElem hlt⟩
    obtain ⟨a1,cap1,hv, -,hm⟩:=(HJB.out _ wr hJr).2.t
    simp only [Value.slice.injEq,true_and] at hv
    obtain ⟨rfl,rfl⟩:=hv
    rcases hm with hm | ⟨b,o,rfl,hm⟩
    ·simp only at hm;rw [hm] at hlt;simp at hlt
    obtain ⟨e0,e1,e2,e3,e4,e5,e6⟩:=hm.2 q t ht
    have HT:Hid (tests[q]? = some t):=ht
    have HPL:Hid (flt (Cm.atoms ⟨(⟨⟨k,m,s⟩,nm,ls⟩,.slice a hn cap),body,.slice a' body.length cap',tests,.slice (some ⟨b,o,none⟩) tests.length cap''⟩) ++ tls (tests.take q) ++ [t.l] <+: Cm.terms ⟨(⟨⟨k,m,s⟩,nm,ls⟩,.slice a hn cap),body,.slice a' body.length cap',tests,.slice (some ⟨b,o,none⟩) tests.length cap''⟩):=tls_pre ht ⟨[t.r],rfl⟩
    have HPR:Hid (flt (Cm.atoms ⟨(⟨⟨k,m,s⟩,nm,ls⟩,.slice a hn cap),body,.slice a' body.length cap',tests,.slice (some ⟨b,o,none⟩) tests.length cap''⟩) ++ tls (tests.take q) ++ [t.l] ++ [t.r] <+: Cm.terms ⟨(⟨⟨k,m,s⟩,nm,ls⟩,.slice a hn cap),body,.slice a' body.length cap',tests,.slice (some ⟨b,o,none⟩) tests.length cap''⟩):=by
     show _ <+: _;rw [List.append_assoc _ [t.l] [t.r]];exact tls_pre ht ⟨[],rfl⟩
    have hb7:=CBlk.new wr #[.int .i64 t.op,.int .i64 t.l.k,.int .i64 t.l.n,.string t.l.s,.int .i64 t.r.k,.int .i64 t.r.n,.string t.r.s] 85
    have hY1:=hY (n - 1) _ t.l _ (hJ.alloc (.cells #[.int .i64 t.op,.int .i64 t.l.k,.int .i64 t.l.n,.string t.l.s,.int .i64 t.r.k,.int .i64 t.r.n,.string t.r.s] 85) HJr.out) HPL.out
    obtain ⟨f0, -⟩:=one (HFr.out.later (below1 wr (.cells #[.int .i64 t.op,.int .i64 t.l.k,.int .i64 t.l.n,.string t.l.s,.int .i64 t.r.k,.int .i64 t.r.n,.string t.r.s] 85)))
    have HB7:Hid _:=hb7
    have hzw:W.heap.size < wr.heap.size:=HFr.out.lt
    have hze:E < wr.heap.size:=(Array.getElem?_eq_some_iff.1 HDr.out).1
    clear hm ht hJr hb7
    obtain ⟨op,⟨kl,ml,sl⟩,⟨kr,mr,sr⟩⟩:=t
    simp only at e0 e1 e2 e3 e4 e5 e6 hY1 f0 HPL HPR
    obtain ⟨fn,tmps,assign,bd,hy,hR⟩:=hY1
    gi_wp2
    refine ⟨fun h=>(by cases h),hR.mono ?_⟩
    clear hR hy
    rintro e W4 (⟨rfl,hJ4,hu4⟩ | ⟨rfl,hx4,hu4⟩)
    ·have hY2:=hY (n - 1) _ ⟨kr,mr,sr⟩ _ hJ4 HPR.out
     have hU4:Up W.heap.size wr W4:=(Up.alloc _ _ _).trans hu4
     have HF4:Hid (CBlk W4 W.heap.size #[.func (.yield l) #[] #[]] 80):=HFr.out.up hU4 (Nat.le_refl _)
     have HD4:Hid (W4.heap[E]? = some (.deferred (some []))):=(hU4.same E (by omega) hze).trans HDr.out
     clear f0
     obtain ⟨f0, -⟩:=one HF4.out
     obtain ⟨y0,y1,y2,y3,y4,y5,y6⟩:=cseven (CBlk.up HB7.out hu4 (by omega))
     clear hJ4 hu4 hU4
     obtain ⟨fn,tmps,assign,bd,hy,hR⟩:=hY2
     gi_wp2
     refine ⟨fun h=>(by cases h),hR.mono ?_⟩
     clear hR hy
     rintro e W5 (⟨rfl,hJ5,hu5⟩ | ⟨rfl,hx5,hu5⟩)
     ·have HJ5:Hid (J (flt (Cm.atoms ⟨(⟨⟨k,m,s⟩,nm,ls⟩,.slice a hn cap),body,.slice a' body.length cap',tests,.slice (some ⟨b,o,none⟩) tests.length cap''⟩) ++ tls (tests.take (q + 1))) W5):=by
       show J _ W5;rw [take_next HT.out,tls_snoc];simpa using hJ5
      have HF5:Hid (CBlk W5 W.heap.size #[.func (.yield l) #[] #[]] 80):=HF4.out.up hu5 (Nat.le_refl _)
      have HD5:Hid (W5.heap[E]? = some (.deferred (some []))):=(hu5.same E (by omega) (Array.getElem?_eq_some_iff.1 HD4.out).1).trans HD4.out
      clear hJ5 hu5
      gi_wp2
      go_roundw
      case rel=>exact ⟨q + 1,by go_num,by omega,HJ5.out,HF5.out,HD5.out⟩
      case measure=>simp [intOf];omega
     ·have HX5:Hid _:=hx5
      have hd5:W5.heap[E]? = some (.deferred (some [])):=(hu5.same E (by omega) (Array.getElem?_eq_some_iff.1 HD4.out).1).trans HD4.out
      have HD5:Hid (W5.heap[E]? = some (.deferred (some []))):=hd5
      clear hx5 hu5 hd5
      gi_wp2
      refine ⟨by simp,.inl ⟨_,_,rfl,run_takeDeferred HD5.out, ?_⟩⟩
      exact ⟨_,results_none rfl _ _ _,⟨_,rfl⟩,.inr ⟨_,HPR.out,hJx.putObj _ HX5.out (by omega) HD5.out rfl⟩⟩
    ·have HX4:Hid _:=hx4
     have hd4:W4.heap[E]? = some (.deferred (some [])):=(((Up.alloc _ _ _).trans hu4).same E (by omega) hze).trans HDr.out
     have HD4:Hid (W4.heap[E]? = some (.deferred (some []))):=hd4
     clear hx4 hu4 hd4
     gi_wp2
     refine ⟨fun _ h=>(by cases h), ?_⟩
     gi_wp2
     refine ⟨by simp,.inl ⟨_,_,rfl,run_takeDeferred HD4.out, ?_⟩⟩
     exact ⟨_,results_none rfl _ _ _,⟨_,rfl⟩,.inr ⟨_,HPL.out,hJx.putObj _ HX4.out (by omega) HD4.out rfl⟩⟩
   ·obtain rfl:q = tests.length:=by omega
    have i1:¬ ((tests.length:Int) < (tests.length:Int)):=by omega
    clear hJr
    gi_wp2
    refine ⟨by simp,.inl ⟨_,_,rfl,run_takeDeferred HDr.out, ?_⟩⟩
    refine ⟨_,results_none rfl _ _ _,⟨_,rfl⟩,.inl ?_⟩
    have:=HJr.out
    rw [List.take_length] at this
    exact hJ.putObj _ this (by omega) HDr.out rfl
 case stop=>
  rintro E cd pre X hE hpre ⟨rfl,q,hq,hx⟩ hD
  have HX:Hid _:=hx
  clear hx
  gi_wp2
  refine ⟨by simp,.inl ⟨_,_,rfl,run_takeDeferred hD, ?_⟩⟩
  exact ⟨_,results_none rfl _ _ _,⟨_,rfl⟩,.inr ⟨q,hq,hJx.putObj _ HX.out (by omega) hD rfl⟩⟩
end Go.Proofs.YtcpjiahdaplhlaaGreatDoor
namespace Go.Proofs.YtcpjiahdaplhlaaGreatDoor
open Go.RowKit Go.Shelf
attribute [local go_sem] Oper.semAt_some
theorem variables_any (c:Cm) (w:World) (h:c.ok w) :
  Calls Tryz.prog 172 #[c.v] w fun e w'=>e = .returned (.func (.func 199) #[] #[.pointer (some ⟨w.heap.size,0,none⟩)]) /\ w' = w.alloc (.cells c.cs 53):=by
 obtain ⟨⟨a,n,cap,h1⟩,⟨a',cap',h2⟩,⟨a'',cap'',h3⟩, -, -⟩:=h.shape
 obtain ⟨⟨⟨⟨k,m,s⟩,nm,l⟩,hx⟩,body,bv,tests,tv⟩:=c
 simp only at h1 h2 h3
 subst h1 h2 h3
 go_enter Tryz.func172,Tryz.ntmps172
 go_wp2
 go_ret
 exact ⟨rfl,rfl⟩
theorem below_grown {W W':World} (h:Below W.heap.size W W'):W.grownBy W' none:=⟨h.os,h.tape,h.output,h.size,fun k hk _=>h.block k hk⟩
theorem own_later {β:Type} {B:Nat} {I : β -> World -> Prop} (h:OwnFrom B I) {s : β} {W W':World} (hs:I s W) (hb:Below W.heap.size W W'):I s W':=
 h s W W' none hs (below_grown hb) (fun r e=>by cases e)
def vrs (l:List Tm):List Int:=(l.filter Tm.var).map (·.n)
theorem vrs_yes {l:List Tm} {x:Tm} (h:x.var = true):vrs (l ++ [x]) = vrs l ++ [x.n]:=by simp [vrs,h]
theorem vrs_no {l:List Tm} {x:Tm} (h:x.var = false):vrs (l ++ [x]) = vrs l:=by simp [vrs,h]
theorem vrs_pre {pre xs:List Tm} {x:Tm} (h:pre ++ [x] <+: xs) (hx:x.var = true):vrs pre ++ [x.n] <+: vrs xs:=by
 obtain ⟨suf,rfl⟩:=h
 refine ⟨vrs suf, ?_⟩
 simp [vrs,hx]
theorem cthree {w:World} {g:Nat} {a b c:Value} {t:TypeId} (h:CBlk w g #[a,b,c] t) :
  w.cell? ⟨g,0,none⟩ = some a /\ w.cell? ⟨g,1,none⟩ = some b /\ w.cell? ⟨g,2,none⟩ = some c:=
 ⟨cell_of_row _ _ _ _ _ _ h,cell_of_row _ _ _ _ _ _ h,cell_of_row _ _ _ _ _ _ h⟩
set_option maxRecDepth 100000 in
set_option maxHeartbeats 4000000 in
theorem variables_seq (c:Cm) (B0:Nat) :
  SeqO Tryz.prog 199 #[.pointer (some ⟨B0,0,none⟩)] (fun v:Int=>#[.int .i64 v]) c.vars (CMem c B0):=by
 intro n l J Jx W hJB hJ hJx hY h0
 have hWB:=hJB [] W h0
 obtain ⟨⟨a,hn,cap,h1⟩,⟨a',cap',h2⟩,⟨a'',cap'',h3⟩,hbl,htl⟩:=hWB.2.shape
 obtain ⟨c0,c1,c2,c3,c4,c5,c6⟩:=cseven (CBlk.later hWB.1 (below1 W (.cells #[.func (.yield l) #[] #[]] 190)))
 have hat:=cterms_any c (W.alloc (.cells #[.func (.yield l) #[] #[]] 190)) (hWB.2.later (below1 _ _))
 obtain ⟨⟨⟨⟨k,m,s⟩,nm,ls⟩,hx⟩,body,bv,tests,tv⟩:=c
 simp only at h1 h2 h3 c0 c1 c2 c3 c4 c5 c6 hbl htl hat
 subst h1 h2 h3
 clear hWB
 refine callsIn_of_wp_marks Tryz.func199 rfl trivial ?_ rfl
 simp only [Tryz.ntmps199,List.size_toArray,List.length_cons,List.length_nil,Nat.reduceAdd,Nat.reduceSub,Array.replicate_succ,Array.replicate_zero,List.push_toArray,List.append_toArray,List.nil_append,List.cons_append]
 gi_wp2
 refine ⟨trivial,fun h=>(by cases h),(callsIn_wide.2 hat).mono ?_⟩
 rintro e w' ⟨rfl,rfl⟩
 clear hat
 have hz1:((W.alloc (.cells #[.func (.yield l) #[] #[]] 190)).alloc (.cells (Cm.cs ⟨(⟨⟨k,m,s⟩,nm,ls⟩,.slice a hn cap),body,.slice a' body.length cap',tests,.slice a'' tests.length cap''⟩) 53)).heap.size = W.heap.size + 2:=by simp
 have b1:CBlk ((W.alloc (.cells #[.func (.yield l) #[] #[]] 190)).alloc (.cells (Cm.cs ⟨(⟨⟨k,m,s⟩,nm,ls⟩,.slice a hn cap),body,.slice a' body.length cap',tests,.slice a'' tests.length cap''⟩) 53)) W.heap.size #[.func (.yield l) #[] #[]] 190:=(CBlk.new W _ _).later (below1 _ _)
 have b2:=CBlk.new (W.alloc (.cells #[.func (.yield l) #[] #[]] 190)) (Cm.cs ⟨(⟨⟨k,m,s⟩,nm,ls⟩,.slice a hn cap),body,.slice a' body.length cap',tests,.slice a'' tests.length cap''⟩) 53
 rw [show (W.alloc (.cells #[.func (.yield l) #[] #[]] 190)).heap.size = W.heap.size + 1 by simp] at b2
 have j1:J [] ((W.alloc (.cells #[.func (.yield l) #[] #[]] 190)).alloc (.cells (Cm.cs ⟨(⟨⟨k,m,s⟩,nm,ls⟩,.slice a hn cap),body,.slice a' body.length cap',tests,.slice a'' tests.length cap''⟩) 53)):=hJ.alloc _ (hJ.alloc _ h0)
 gi_wp2
 revert hz1 b1 b2 j1
 generalize (W.alloc (.cells #[.func (.yield l) #[] #[]] 190)).alloc (.cells (Cm.cs ⟨(⟨⟨k,m,s⟩,nm,ls⟩,.slice a hn cap),body,.slice a' body.length cap',tests,.slice a'' tests.length cap''⟩) 53) = W1
 intro hz1 b1 b2 j1
 have HJB:Hid (∀ pre W1,J pre W1 -> CMem ⟨(⟨⟨k,m,s⟩,nm,ls⟩,.slice a hn cap),body,.slice a' body.length cap',tests,.slice a'' tests.length cap''⟩ B0 W1):=hJB
 clear c0 c1 c2 c3 c4 c5 c6 h0 hJB
 refine wpIn_seq (gf:=213) (lb:=#[.pointer (some ⟨W.heap.size + 1,0,none⟩)]) rfl (enters_of Tryz.func213 (by kernel_rfl) rfl) (terms_seq ⟨(⟨⟨k,m,s⟩,nm,ls⟩,.slice a hn cap),body,.slice a' body.length cap',tests,.slice a'' tests.length cap''⟩ (W.heap.size + 1)) (fun _=>rfl)
  (fun pre X=>J (vrs pre) X /\ CBlk X W.heap.size #[.func (.yield l) #[] #[]] 190 /\ CBlk X (W.heap.size + 1) (Cm.cs ⟨(⟨⟨k,m,s⟩,nm,ls⟩,.slice a hn cap),body,.slice a' body.length cap',tests,.slice a'' tests.length cap''⟩) 53)
  (fun cd _ X=>cd = .ret /\ ∃ q,q <+: Cm.vars ⟨(⟨⟨k,m,s⟩,nm,ls⟩,.slice a hn cap),body,.slice a' body.length cap',tests,.slice a'' tests.length cap''⟩ /\ Jx q X)
  (OwnFrom.and (fun s X Y row hs hg hr=>hJ _ X Y row hs hg (fun r e=>⟨by have:=(hr r e).1;omega,(hr r e).2⟩)) (OwnFrom.and (cblk_own _ _ _ _) (cblk_own _ _ _ _)))
  (fun cd s X Y row hs hg hr=>⟨hs.1,by obtain ⟨q,hq,hx⟩:=hs.2;exact ⟨q,hq,hJx q X Y row hx hg (fun r e=>⟨by have:=(hr r e).1;omega,(hr r e).2⟩)⟩⟩)
  (fun pre X h=>⟨h.2.2,(HJB.out _ X h.1).2⟩)
  ⟨j1,b1,b2⟩
  (fun x act X=>∃ Bx,W.heap.size + 1 < Bx /\ CBlk X Bx #[.int .i64 x.k,.int .i64 x.n,.string x.s] 39 /\ act = { tmps:=#[.func (.yield l) #[] #[],.pointer (some ⟨B0,0,none⟩),.pointer (some ⟨W.heap.size,0,none⟩),.pointer (some ⟨Bx,0,none⟩),.agg #[.int .i64 k,.int .i64 m,.string s,.string nm,.slice a hn cap,.slice a' body.length cap',.slice a'' tests.length cap''],.func (.func 213) #[] #[.pointer (some ⟨W.heap.size + 1,0,none⟩)],x.v,undef,undef,undef,undef,undef,undef,undef,undef,undef],defers:=[] })
  (fun x _ _ X Y row hs hg hr=>by obtain ⟨Bx,h1,h2,h3⟩:=hs;exact ⟨Bx,h1,cblk_own (β:=Unit) _ _ _ _ () X Y row h2 hg hr,h3⟩)
  ?assign ?body ?done ?stop
 case assign=>
  rintro l' mm pre x X K hpre ⟨hj,hf,hb⟩ hle hK
  obtain ⟨kx,mx,sx⟩:=x
  gi_wp2
  exact hK _ _ (Up.alloc _ _ _) ⟨hJ.alloc _ hj,hf.later (below1 _ _),hb.later (below1 _ _)⟩ ⟨X.heap.size,by omega,CBlk.new _ _ _,rfl⟩
 case body=>
  rintro l' mm pre x act X hpre ⟨hj,hf,hb⟩ ⟨Bx,hBx,hX,rfl⟩ hle
  have HP:Hid (pre ++ [x] <+: Cm.terms ⟨(⟨⟨k,m,s⟩,nm,ls⟩,.slice a hn cap),body,.slice a' body.length cap',tests,.slice a'' tests.length cap''⟩):=hpre
  have HJ0:Hid (J (vrs pre) X):=hj
  have HF:Hid (CBlk X W.heap.size #[.func (.yield l) #[] #[]] 190):=hf
  have HB:Hid (CBlk X (W.heap.size + 1) (Cm.cs ⟨(⟨⟨k,m,s⟩,nm,ls⟩,.slice a hn cap),body,.slice a' body.length cap',tests,.slice a'' tests.length cap''⟩) 53):=hb
  have HX:Hid (CBlk X Bx #[.int .i64 x.k,.int .i64 x.n,.string x.s] 39):=hX
  have hva:=var_any x X
  obtain ⟨x0,x1,x2⟩:=cthree hX
  cases hv:x.var with
  | true=>
   have HV:Hid (x.var = true):=hv
   rw [hv] at hva
   have hYx:=fun (Y:World) (hY':J (vrs pre) Y)=>hY (mm - 1) (vrs pre) x.n Y hY' (vrs_pre hpre hv)
   obtain ⟨kx,mx,sx⟩:=x
   simp only at hva hYx x0 x1 x2
   clear hX hf hb hj hpre hv
   gi_wp2
   refine ⟨trivial,fun h=>(by cases h),(CallsIn.inRound l' (callsIn_wide.2 hva)).mono ?_⟩
   clear hva x0 x1 x2
   rintro e w' ⟨rfl,hbw⟩
   obtain ⟨fn,tmps,assign,bd,hy,hR⟩:=hYx w' (own_later hJ HJ0.out hbw)
   obtain ⟨f0, -⟩:=one (HF.out.later hbw)
   obtain ⟨x0,x1,x2⟩:=cthree (HX.out.later hbw)
   have HUw:Hid (Up W.heap.size X w'):=Up.below hbw
   clear hYx hbw
   gi_wp2
   refine ⟨fun h=>(by cases h),hR.mono ?_⟩
   clear hR hy
   rintro e W3 (⟨rfl,hJ3,hu3⟩ | ⟨rfl,hx3,hu3⟩)
   ·have HJ3:Hid (J (vrs (pre ++ [⟨kx,mx,sx⟩])) W3):=by show J _ W3;rw [vrs_yes HV.out];exact hJ3
    have HU3:Hid (Up W.heap.size X W3):=HUw.out.trans hu3
    clear hJ3 hu3
    gi_wp2
    exact ⟨HU3.out.mono (by omega),HJ3.out,HF.out.up HU3.out (Nat.le_refl _),HB.out.up HU3.out (by omega)⟩
   ·have HX3:Hid (Jx (vrs pre ++ [mx]) W3):=hx3
    have HU3:Hid (Up W.heap.size X W3):=HUw.out.trans hu3
    clear hx3 hu3
    gi_wp2
    exact ⟨HU3.out.mono (by omega),rfl,_,vrs_pre HP.out HV.out,HX3.out⟩
  | false=>
   have HV:Hid (x.var = false):=hv
   rw [hv] at hva
   obtain ⟨kx,mx,sx⟩:=x
   simp only at hva x0 x1 x2
   clear hX hf hb hj hpre hv
   gi_wp2
   refine ⟨trivial,fun h=>(by cases h),(CallsIn.inRound l' (callsIn_wide.2 hva)).mono ?_⟩
   clear hva x0 x1 x2
   rintro e w' ⟨rfl,hbw⟩
   have HBw:Hid (Below X.heap.size X w'):=hbw
   clear hbw
   gi_wp2
   refine ⟨fun _ h=>(by cases h), ?_⟩
   gi_wp2
   have hu:=Up.below (B:=W.heap.size) HBw.out
   refine ⟨hu.mono (by omega), ?_,HF.out.up hu (Nat.le_refl _),HB.out.up hu (by omega)⟩
   rw [vrs_no HV.out]
   exact own_later hJ HJ0.out HBw.out
 case done=>
  rintro E X hE ⟨hj,hf,hb⟩ hD
  have HJ0:Hid (J (Cm.vars ⟨(⟨⟨k,m,s⟩,nm,ls⟩,.slice a hn cap),body,.slice a' body.length cap',tests,.slice a'' tests.length cap''⟩) X):=hj
  clear hj hf hb
  gi_wp2
  refine ⟨by simp,.inl ⟨_,_,rfl,run_takeDeferred hD, ?_⟩⟩
  exact ⟨_,results_none rfl _ _ _,⟨_,rfl⟩,.inl (hJ.putObj _ HJ0.out (by omega) hD rfl)⟩
 case stop=>
  rintro E cd pre X hE hpre ⟨rfl,q,hq,hx⟩ hD
  have HX:Hid _:=hx
  clear hx
  gi_wp2
  refine ⟨by simp,.inl ⟨_,_,rfl,run_takeDeferred hD, ?_⟩⟩
  exact ⟨_,results_none rfl _ _ _,⟨_,rfl⟩,.inr ⟨q,hq,hJx.putObj _ HX.out (by omega) hD rfl⟩⟩
end Go.Proofs.YtcpjiahdaplhlaaGreatDoor
namespace Go.Proofs.YtcpjiahdaplhlaaGreatDoor
open Go.RowKit
theorem four {w:World} {g:Nat} {a b c d:Value} {t:TypeId} (h:w.heap[g]? = some (.cells #[a,b,c,d] t (0,0))) :
  w.cell? ⟨g,0,none⟩ = some a /\ w.cell? ⟨g,1,none⟩ = some b /\ w.cell? ⟨g,2,none⟩ = some c /\ w.cell? ⟨g,3,none⟩ = some d:=
 ⟨cell_of_row _ _ _ _ _ _ h,cell_of_row _ _ _ _ _ _ h,cell_of_row _ _ _ _ _ _ h,cell_of_row _ _ _ _ _ _ h⟩
end Go.Proofs.YtcpjiahdaplhlaaGreatDoor
namespace Go.Proofs.YtcpjiahdaplhlaaGreatDoor
open Go.RowKit
def ch (s:ByteArray) (j:Nat):Int:=if h:j < s.size then (s[j].toNat:Int) else 0
theorem ch_lt (s:ByteArray) (j:Nat) (h:j < s.size):ch s j = (s[j].toNat:Int):=by unfold ch;rw [dif_pos h]
theorem run_index_ch (s:ByteArray) (j:Nat) (hj:j < s.size) (i:Int) (hi:i = j) (w:World) (k:IntKind):(Instr.index 9 (.string s) (.int k i)).run Tryz.prog w = .ok (.int .u8 (ch s j)) w:=by
 subst hi
 rw [run_index_string w 9 s k _ Tryz.underlying9,dif_pos (by omega),ch_lt s j hj]
 simp
def small (c:Int):Bool:=decide (97 <= c /\ c <= 122)
def nb (c:Int):Bool:=decide ((97 <= c /\ c <= 122) ∨ (65 <= c /\ c <= 90) ∨ (48 <= c /\ c <= 57) ∨ c = 95)
theorem small_nb {c:Int} (h:small c = true):nb c = true:=by
 simp only [small,nb,decide_eq_true_eq] at *;exact Or.inl h
def says_:ByteArray:=⟨#[115,97,121,115]⟩
def nameHead (s:ByteArray):Bool:=decide (s ≠ ⟨#[]⟩ /\ s.size <= 32 /\ s ≠ says_) && small (ch s 0)
def nameOk (s:ByteArray):Bool:=nameHead s && decide (∀ i,i < s.size -> nb (ch s i) = true)
theorem name_bad {s:ByteArray} {i:Nat} (hi:i < s.size) (h:nb (ch s i) = false):nameOk s = false:=by
 unfold nameOk
 rw [decide_eq_false (fun hh=>by rw [hh i hi] at h;cases h),Bool.and_false]
theorem name_good {s:ByteArray} (h:nameHead s = true) (hh:∀ i,i < s.size -> nb (ch s i) = true):nameOk s = true:=by
 unfold nameOk;rw [h,decide_eq_true hh];rfl
theorem head_no {s:ByteArray} (h:nameHead s = false):nameOk s = false:=by unfold nameOk;rw [h];rfl
theorem says_l:says_.toList = [115,97,121,115]:=by kernel_rfl
theorem isS (s:ByteArray):(s.toList == [115,97,121,115]) = decide (s = says_):=by
 by_cases h:s = says_
 ·subst h;rw [decide_eq_true rfl,says_l];rfl
 ·rw [decide_eq_false h]
  cases e:(s.toList == [115,97,121,115])
  ·rfl
  ·exact absurd (toList_inj (b:=says_) (by have:=eq_of_beq e;rw [this,says_l])) h
theorem size_pos {s:ByteArray} (h:s ≠ ⟨#[]⟩):0 < s.size:=by
 rcases Nat.eq_zero_or_pos s.size with h0 | h0
 ·exact absurd (ByteArray.ext (Array.eq_empty_of_size_eq_zero h0)) h
 ·exact h0
set_option maxHeartbeats 400000 in
theorem small_any (c:Int) (w:World):Calls Tryz.prog 130 #[.int .u8 c] w fun e w'=>e = .returned (.bool (small c)) /\ Below w.heap.size w w':=by
 unfold small
 go_enter Tryz.func130,Tryz.ntmps130
 go_wp2
 all_goals
  go_ret
  refine ⟨ret_b ?_,Below.refl _ _⟩
  first | (rw [Bool.eq_iff_iff];simp;omega) | (simp_all;omega) | (simp_all;done)
set_option maxHeartbeats 1000000 in
theorem nb_any (c:Int) (w:World):Calls Tryz.prog 131 #[.int .u8 c] w fun e w'=>e = .returned (.bool (nb c)) /\ Below w.heap.size w w':=by
 by_cases h1:small c = true
 ·have HN:Hid (nb c = true):=small_nb h1
  go_enter Tryz.func131,Tryz.ntmps131
  go_wp2_with (go_at_call 130;refine (small_any c _).mono ?_;rw [h1];rintro e w1 ⟨rfl,hb1⟩)
  go_ret
  exact ⟨ret_b HN.out.symm,hb1⟩
 ·have h1':small c = false:=by simpa using h1
  have h2:¬ (97 <= c /\ c <= 122):=by simpa [small] using h1
  clear h1
  go_enter Tryz.func131,Tryz.ntmps131
  go_wp2_with (go_at_call 130;refine (small_any c _).mono ?_;rw [h1'];rintro e w1 ⟨rfl,hb1⟩)
  all_goals
   go_ret
   refine ⟨ret_b ?_,hb1⟩
   unfold nb
   first | (rw [Bool.eq_iff_iff];simp;omega) | (simp_all;omega) | (simp_all;done)
set_option maxHeartbeats 1000000 in
theorem rnb_any (c:Int) (w:World):Calls Tryz.prog 134 #[.int .u8 c] w fun e w'=>e = .returned (.bool (nb c)) /\ Below w.heap.size w w':=by
 unfold nb
 go_enter Tryz.func134,Tryz.ntmps134
 go_wp2
 all_goals
  go_ret
  refine ⟨ret_b ?_,Below.refl _ _⟩
  first | (rw [Bool.eq_iff_iff];simp;omega) | (simp_all;omega) | (simp_all;done)
set_option maxHeartbeats 2000000 in
theorem name_any (s:ByteArray) (w:World):Calls Tryz.prog 92 #[.string s] w fun e w'=>e = .returned (.bool (nameOk s)) /\ Below w.heap.size w w':=by
 by_cases h0:s = ⟨#[]⟩
 ·have HN:Hid (nameOk s = false):=head_no (by rw [h0];rfl)
  have q0:s.toList.isEmpty = true:=by rw [isE];exact decide_eq_true h0
  clear h0
  go_enter Tryz.func92,Tryz.ntmps92
  go_wp2
  go_ret
  exact ⟨ret_b HN.out.symm,Below.refl _ _⟩
 ·have hp:=size_pos h0
  have q0:s.toList.isEmpty = false:=by rw [isE];exact decide_eq_false h0
  have hi0:=run_index_ch s 0 hp 0 rfl
  by_cases h1:s.size <= 32
  ·have q1:¬ (32:Int) < (s.size:Int):=by omega
   by_cases h2:s = says_
   ·have HN:Hid (nameOk s = false):=head_no (by rw [h2];rfl)
    have q2:(s.toList == [115,97,121,115]) = true:=by rw [isS];exact decide_eq_true h2
    clear h0 h1 h2 hi0
    go_enter Tryz.func92,Tryz.ntmps92
    go_wp2
    go_ret
    exact ⟨ret_b HN.out.symm,Below.refl _ _⟩
   ·have q2:(s.toList == [115,97,121,115]) = false:=by rw [isS];exact decide_eq_false h2
    by_cases h3:small (ch s 0) = true
    ·have HH:Hid (nameHead s = true):=by show _ = _;unfold nameHead;rw [h3,decide_eq_true ⟨h0,h1,h2⟩];rfl
     have H3:Hid (small (ch s 0) = true):=h3
     obtain ⟨c,hc⟩:∃ c,ch s 0 = c:=⟨_,rfl⟩
     rw [hc] at hi0
     have HC:Hid (ch s 0 = c):=hc
     clear h0 h1 h2 h3 hc
     go_enter Tryz.func92,Tryz.ntmps92
     go_wp2_with (go_at_call 130;refine (small_any c _).mono ?_;rw [<- HC.out,H3.out];rintro e w1 ⟨rfl,hb1⟩)
     go_loopg [3] s.size (fun g i wr=>∃ j:Nat,j + g = s.size + 1 /\ 1 <= j /\ j <= s.size /\ i = .int .i64 j /\ (∀ t,t < j -> nb (ch s t) = true) /\ Below w.heap.size w wr)
     case atStart=>
      refine ⟨1,by omega,by omega,by omega,rfl,fun t ht=>?_,hb1⟩
      have h0:t = 0:=by omega
      rw [h0];exact small_nb H3.out
     case round=>
      obtain ⟨j,hj,h1j,hjs,rfl,hall,hbr⟩:=hrel
      have HA:Hid (∀ t,t < j -> nb (ch s t) = true):=hall
      clear hall hi0
      by_cases hlt:j < s.size
      ·cases gk with
       | zero=>omega
       | succ g=>
        have hix:=run_index_ch s j hlt j rfl
        have i2:(j:Int) < (s.size:Int):=by omega
        obtain ⟨d,hd⟩:∃ c,ch s j = c:=⟨_,rfl⟩
        rw [hd] at hix
        cases hnb:nb d
        ·have HN:Hid (nameOk s = false):=name_bad hlt (by rw [hd];exact hnb)
         go_wp2_with (go_at_call 131;refine (nb_any d _).mono ?_;rw [hnb];rintro e w2 ⟨rfl,hb2⟩)
         go_ret
         exact ⟨ret_b HN.out.symm,below_step hbr hb2⟩
        ·have HD:Hid (ch s j = d):=hd
         have HNB:Hid (nb d = true):=hnb
         clear hd hnb
         go_wp2_with (go_at_call 131;refine (nb_any d _).mono ?_;rw [HNB.out];rintro e w2 ⟨rfl,hb2⟩)
         go_roundg g
         case measure=>omega
         case rel=>
          refine ⟨j + 1,by omega,by omega,by omega,by go_num,fun t ht=>?_,below_step hbr hb2⟩
          rcases Nat.lt_or_ge t j with h | h
          ·exact HA.out t h
          ·obtain rfl:t = j:=by omega
           rw [HD.out];exact HNB.out
      ·obtain rfl:j = s.size:=by omega
       have HN:Hid (nameOk s = true):=name_good HH.out HA.out
       have hz:¬ ((s.size:Int) < (s.size:Int)):=by omega
       go_wp2
       go_ret
       exact ⟨ret_b HN.out.symm,hbr⟩
    ·have h3':small (ch s 0) = false:=by simpa using h3
     have HN:Hid (nameOk s = false):=head_no (by unfold nameHead;rw [h3',Bool.and_false])
     obtain ⟨c,hc⟩:∃ c,ch s 0 = c:=⟨_,rfl⟩
     rw [hc] at hi0 h3'
     clear h0 h1 h2 h3 hc
     go_enter Tryz.func92,Tryz.ntmps92
     go_wp2_with (go_at_call 130;refine (small_any c _).mono ?_;rw [h3'];rintro e w1 ⟨rfl,hb1⟩)
     go_ret
     exact ⟨ret_b HN.out.symm,hb1⟩
  ·have HN:Hid (nameOk s = false):=head_no (by unfold nameHead;rw [decide_eq_false (fun h=>h1 h.2.1)];rfl)
   have q1:(32:Int) < (s.size:Int):=by omega
   clear h0 h1 hi0
   go_enter Tryz.func92,Tryz.ntmps92
   go_wp2
   go_ret
   exact ⟨ret_b HN.out.symm,Below.refl _ _⟩
set_option maxHeartbeats 2000000 in
theorem rname_any (s:ByteArray) (w:World):Calls Tryz.prog 96 #[.string s] w fun e w'=>e = .returned (.bool (nameOk s)) /\ Below w.heap.size w w':=by
 by_cases h0:s = ⟨#[]⟩
 ·have HN:Hid (nameOk s = false):=head_no (by rw [h0];rfl)
  have q0:s.toList.isEmpty = true:=by rw [isE];exact decide_eq_true h0
  clear h0
  go_enter Tryz.func96,Tryz.ntmps96
  go_wp2
  go_ret
  exact ⟨ret_b HN.out.symm,Below.refl _ _⟩
 ·have hp:=size_pos h0
  have q0:s.toList.isEmpty = false:=by rw [isE];exact decide_eq_false h0
  have hi0:=run_index_ch s 0 hp 0 rfl
  by_cases h1:s.size <= 32
  ·have q1:¬ (32:Int) < (s.size:Int):=by omega
   by_cases h2:s = says_
   ·have HN:Hid (nameOk s = false):=head_no (by rw [h2];rfl)
    have q2:(s.toList == [115,97,121,115]) = true:=by rw [isS];exact decide_eq_true h2
    clear h0 h1 h2 hi0
    go_enter Tryz.func96,Tryz.ntmps96
    go_wp2
    go_ret
    exact ⟨ret_b HN.out.symm,Below.refl _ _⟩
   ·have q2:(s.toList == [115,97,121,115]) = false:=by rw [isS];exact decide_eq_false h2
    obtain ⟨c,hc⟩:∃ c,ch s 0 = c:=⟨_,rfl⟩
    rw [hc] at hi0
    by_cases ha:c < 97
    ·have HN:Hid (nameOk s = false):=head_no (by unfold nameHead;rw [hc,show small c = false from decide_eq_false (by omega),Bool.and_false])
     clear h0 h1 h2 hc
     go_enter Tryz.func96,Tryz.ntmps96
     go_wp2
     go_ret
     exact ⟨ret_b HN.out.symm,Below.refl _ _⟩
    ·by_cases hz:122 < c
     ·have HN:Hid (nameOk s = false):=head_no (by unfold nameHead;rw [hc,show small c = false from decide_eq_false (by omega),Bool.and_false])
      clear h0 h1 h2 hc
      go_enter Tryz.func96,Tryz.ntmps96
      go_wp2
      go_ret
      exact ⟨ret_b HN.out.symm,Below.refl _ _⟩
     ·have HH:Hid (nameHead s = true):=by show _ = _;unfold nameHead;rw [hc,show small c = true from decide_eq_true (by omega),decide_eq_true ⟨h0,h1,h2⟩];rfl
      clear h0 h1 h2 hc
      go_enter Tryz.func96,Tryz.ntmps96
      go_wp2
      go_loopg [3] s.size (fun g i wr=>∃ j:Nat,j + g = s.size /\ i = .int .i64 j /\ (∀ t,t < j -> nb (ch s t) = true) /\ Below w.heap.size w wr)
      case atStart=>exact ⟨0,by omega,rfl,fun t ht=>by omega,Below.refl _ _⟩
      case round=>
       obtain ⟨j,hj,rfl,hall,hbr⟩:=hrel
       have HA:Hid (∀ t,t < j -> nb (ch s t) = true):=hall
       clear hall hi0
       cases gk with
       | succ g=>
        have hlt:j < s.size:=by omega
        have hix:=run_index_ch s j hlt j rfl
        have i2:(j:Int) < (s.size:Int):=by omega
        obtain ⟨d,hd⟩:∃ c,ch s j = c:=⟨_,rfl⟩
        rw [hd] at hix
        cases hnb:nb d
        ·have HN:Hid (nameOk s = false):=name_bad hlt (by rw [hd];exact hnb)
         go_wp2_with (go_at_call 134;refine (rnb_any d _).mono ?_;rw [hnb];rintro e w2 ⟨rfl,hb2⟩)
         go_ret
         exact ⟨ret_b HN.out.symm,below_step hbr hb2⟩
        ·have HD:Hid (ch s j = d):=hd
         have HNB:Hid (nb d = true):=hnb
         clear hd hnb
         go_wp2_with (go_at_call 134;refine (rnb_any d _).mono ?_;rw [HNB.out];rintro e w2 ⟨rfl,hb2⟩)
         go_roundg g
         case measure=>omega
         case rel=>
          refine ⟨j + 1,by omega,by go_num,fun t ht=>?_,below_step hbr hb2⟩
          rcases Nat.lt_or_ge t j with h | h
          ·exact HA.out t h
          ·obtain rfl:t = j:=by omega
           rw [HD.out];exact HNB.out
       | zero=>
        obtain rfl:j = s.size:=by omega
        have HN:Hid (nameOk s = true):=name_good HH.out HA.out
        have hz:¬ ((s.size:Int) < (s.size:Int)):=by omega
        go_wp2
        go_ret
        exact ⟨ret_b HN.out.symm,hbr⟩
  ·have HN:Hid (nameOk s = false):=head_no (by unfold nameHead;rw [decide_eq_false (fun h=>h1 h.2.1)];rfl)
   have q1:(32:Int) < (s.size:Int):=by omega
   clear h0 h1 hi0
   go_enter Tryz.func96,Tryz.ntmps96
   go_wp2
   go_ret
   exact ⟨ret_b HN.out.symm,Below.refl _ _⟩
end Go.Proofs.YtcpjiahdaplhlaaGreatDoor

import Derived.Test.YtcpjiahdaplhlaaGreatDoorCL5
import Derived.Maps.OwnIn
import Derived.Maps.AppendAt
namespace Go.Proofs.YtcpjiahdaplhlaaGreatDoor
open Go.RowKit Go.Shelf
attribute [local go_sem] Oper.semAt_some
def sv (l:List Int):DataW Unit:=Maps.setOf (.agg []) (l.map (Lit.int .i64))
theorem sv_snoc (l:List Int) (x:Int):sv (l ++ [x]) = (sv l).put (.int .i64 x) (.agg []):=by
 unfold sv;rw [List.map_append,List.map_cons,List.map_nil,Maps.setOf_snoc]
def SetOk (X:World) (b:Nat) (l:List Int):Prop:=X.ownsMap Tryz.prog 3 (unitElem (H:=Unit)) b l.length (sv l)
theorem SetOk.grown {X Y:World} {b:Nat} {l:List Int} {row:Option Nat} (h:SetOk X b l) (hg:X.grownBy Y row) (hr:some b ≠ row):SetOk Y b l:=h.kept hg hr
theorem SetOk.later {X Y:World} {b:Nat} {l:List Int} (h:SetOk X b l) (hb:Below X.heap.size X Y):SetOk Y b l:=h.grown (below_grown hb) (by simp)
theorem set_own (K b:Nat) (hb:b < K):OwnFrom K (fun (l:List Int) X=>SetOk X b l):=fun _ _ _ _ hs hg hr=>hs.grown hg (fun e=>by have:=(hr b e.symm).1;omega)
def VPost (w:World) (l:List Int) (e:Ending) (w':World):Prop:=∃ b,e = .returned (.map (some b)) /\ SetOk w' b l /\ w.heap.size <= b /\ Below w.heap.size w w'
set_option maxRecDepth 100000 in
set_option maxHeartbeats 4000000 in
theorem variableSet_any (c:Cm) (w:World) (h:c.ok w) (hw:∀ v ∈ c.vars,(Lit.int .i64 v).wf = true) (hvl:c.vars.length < 4000000000000000000) :
  Calls Tryz.prog 171 #[c.v] w (VPost w c.vars):=by
 obtain ⟨⟨a,hn,cap,h1⟩,⟨a',cap',h2⟩,⟨a'',cap'',h3⟩,hbl,htl⟩:=h.shape
 have HOK:Hid (c.ok w):=h
 have HWF:Hid (∀ v ∈ c.vars,(Lit.int .i64 v).wf = true):=hw
 have HVL:Hid (c.vars.length < 4000000000000000000):=hvl
 have hb3:Below w.heap.size w (((w.alloc (.cells c.cs 53)).alloc (.map #[] 0)).alloc (.cells #[.map (some (w.heap.size + 1))] 183)):=(below2 w _ _).trans ((below1 _ _).mono (by simp;omega))
 have hat:=variables_any c (((w.alloc (.cells c.cs 53)).alloc (.map #[] 0)).alloc (.cells #[.map (some (w.heap.size + 1))] 183)) (h.later hb3)
 obtain ⟨⟨⟨⟨k,m,s⟩,nm,ls⟩,hx⟩,body,bv,tests,tv⟩:=c
 simp only at h1 h2 h3 hbl htl hat hb3
 subst h1 h2 h3
 have hmm:=@run_makeMap Tryz.prog
 obtain ⟨n, -⟩:∃ n:Nat,True:=⟨0,trivial⟩
 refine (callsIn_wide (n:=n)).1 ?_
 refine callsIn_of_wp_marks Tryz.func171 rfl trivial ?_ rfl
 simp only [Tryz.ntmps171,List.size_toArray,List.length_cons,List.length_nil,Nat.reduceAdd,Nat.reduceSub,Array.replicate_succ,Array.replicate_zero,List.push_toArray,List.append_toArray,List.nil_append,List.cons_append]
 gi_wp2
 refine ⟨trivial,fun h=>(by cases h),(callsIn_wide.2 hat).mono ?_⟩
 rintro e w' ⟨rfl,rfl⟩
 clear hat h hw hvl
 have hz1:((((w.alloc (.cells (Cm.cs ⟨(⟨⟨k,m,s⟩,nm,ls⟩,.slice a hn cap),body,.slice a' body.length cap',tests,.slice a'' tests.length cap''⟩) 53)).alloc (.map #[] 0)).alloc (.cells #[.map (some (w.heap.size + 1))] 183)).alloc (.cells (Cm.cs ⟨(⟨⟨k,m,s⟩,nm,ls⟩,.slice a hn cap),body,.slice a' body.length cap',tests,.slice a'' tests.length cap''⟩) 53)).heap.size = w.heap.size + 4:=by simp
 have b0:SetOk ((((w.alloc (.cells (Cm.cs ⟨(⟨⟨k,m,s⟩,nm,ls⟩,.slice a hn cap),body,.slice a' body.length cap',tests,.slice a'' tests.length cap''⟩) 53)).alloc (.map #[] 0)).alloc (.cells #[.map (some (w.heap.size + 1))] 183)).alloc (.cells (Cm.cs ⟨(⟨⟨k,m,s⟩,nm,ls⟩,.slice a hn cap),body,.slice a' body.length cap',tests,.slice a'' tests.length cap''⟩) 53)) (w.heap.size + 1) []:=by
  have h:=World.ownsMap_made (w.alloc (.cells (Cm.cs ⟨(⟨⟨k,m,s⟩,nm,ls⟩,.slice a hn cap),body,.slice a' body.length cap',tests,.slice a'' tests.length cap''⟩) 53)) Tryz.prog 3 (unitElem (H:=Unit))
  rw [show (w.alloc (.cells (Cm.cs ⟨(⟨⟨k,m,s⟩,nm,ls⟩,.slice a hn cap),body,.slice a' body.length cap',tests,.slice a'' tests.length cap''⟩) 53)).heap.size = w.heap.size + 1 by simp] at h
  have h':SetOk ((w.alloc (.cells (Cm.cs ⟨(⟨⟨k,m,s⟩,nm,ls⟩,.slice a hn cap),body,.slice a' body.length cap',tests,.slice a'' tests.length cap''⟩) 53)).alloc (.map #[] 0)) (w.heap.size + 1) []:=h
  exact (h'.later (below1 _ _)).later (below1 _ _)
 have b1:CBlk ((((w.alloc (.cells (Cm.cs ⟨(⟨⟨k,m,s⟩,nm,ls⟩,.slice a hn cap),body,.slice a' body.length cap',tests,.slice a'' tests.length cap''⟩) 53)).alloc (.map #[] 0)).alloc (.cells #[.map (some (w.heap.size + 1))] 183)).alloc (.cells (Cm.cs ⟨(⟨⟨k,m,s⟩,nm,ls⟩,.slice a hn cap),body,.slice a' body.length cap',tests,.slice a'' tests.length cap''⟩) 53)) (w.heap.size + 1 + 1) #[.map (some (w.heap.size + 1))] 183:=by
  have:=(CBlk.new ((w.alloc (.cells (Cm.cs ⟨(⟨⟨k,m,s⟩,nm,ls⟩,.slice a hn cap),body,.slice a' body.length cap',tests,.slice a'' tests.length cap''⟩) 53)).alloc (.map #[] 0)) #[.map (some (w.heap.size + 1))] 183).later (below1 _ (.cells (Cm.cs ⟨(⟨⟨k,m,s⟩,nm,ls⟩,.slice a hn cap),body,.slice a' body.length cap',tests,.slice a'' tests.length cap''⟩) 53))
  rwa [show ((w.alloc (.cells (Cm.cs ⟨(⟨⟨k,m,s⟩,nm,ls⟩,.slice a hn cap),body,.slice a' body.length cap',tests,.slice a'' tests.length cap''⟩) 53)).alloc (.map #[] 0)).heap.size = w.heap.size + 1 + 1 by simp] at this
 have b2:CBlk ((((w.alloc (.cells (Cm.cs ⟨(⟨⟨k,m,s⟩,nm,ls⟩,.slice a hn cap),body,.slice a' body.length cap',tests,.slice a'' tests.length cap''⟩) 53)).alloc (.map #[] 0)).alloc (.cells #[.map (some (w.heap.size + 1))] 183)).alloc (.cells (Cm.cs ⟨(⟨⟨k,m,s⟩,nm,ls⟩,.slice a hn cap),body,.slice a' body.length cap',tests,.slice a'' tests.length cap''⟩) 53)) (w.heap.size + 1 + 1 + 1) (Cm.cs ⟨(⟨⟨k,m,s⟩,nm,ls⟩,.slice a hn cap),body,.slice a' body.length cap',tests,.slice a'' tests.length cap''⟩) 53:=by
  have:=CBlk.new (((w.alloc (.cells (Cm.cs ⟨(⟨⟨k,m,s⟩,nm,ls⟩,.slice a hn cap),body,.slice a' body.length cap',tests,.slice a'' tests.length cap''⟩) 53)).alloc (.map #[] 0)).alloc (.cells #[.map (some (w.heap.size + 1))] 183)) (Cm.cs ⟨(⟨⟨k,m,s⟩,nm,ls⟩,.slice a hn cap),body,.slice a' body.length cap',tests,.slice a'' tests.length cap''⟩) 53
  rwa [show (((w.alloc (.cells (Cm.cs ⟨(⟨⟨k,m,s⟩,nm,ls⟩,.slice a hn cap),body,.slice a' body.length cap',tests,.slice a'' tests.length cap''⟩) 53)).alloc (.map #[] 0)).alloc (.cells #[.map (some (w.heap.size + 1))] 183)).heap.size = w.heap.size + 1 + 1 + 1 by simp] at this
 have hB1:Below w.heap.size w ((((w.alloc (.cells (Cm.cs ⟨(⟨⟨k,m,s⟩,nm,ls⟩,.slice a hn cap),body,.slice a' body.length cap',tests,.slice a'' tests.length cap''⟩) 53)).alloc (.map #[] 0)).alloc (.cells #[.map (some (w.heap.size + 1))] 183)).alloc (.cells (Cm.cs ⟨(⟨⟨k,m,s⟩,nm,ls⟩,.slice a hn cap),body,.slice a' body.length cap',tests,.slice a'' tests.length cap''⟩) 53)):=hb3.trans ((below1 _ _).mono hb3.size)
 gi_wp2
 revert hz1 b0 b1 b2 hB1
 generalize (((w.alloc (.cells (Cm.cs ⟨(⟨⟨k,m,s⟩,nm,ls⟩,.slice a hn cap),body,.slice a' body.length cap',tests,.slice a'' tests.length cap''⟩) 53)).alloc (.map #[] 0)).alloc (.cells #[.map (some (w.heap.size + 1))] 183)).alloc (.cells (Cm.cs ⟨(⟨⟨k,m,s⟩,nm,ls⟩,.slice a hn cap),body,.slice a' body.length cap',tests,.slice a'' tests.length cap''⟩) 53) = V
 intro hz1 b0 b1 b2 hB1
 clear hb3
 refine wpIn_seq (gf:=199) (lb:=#[.pointer (some ⟨w.heap.size + 1 + 1 + 1,0,none⟩)]) rfl (enters_of Tryz.func199 (by kernel_rfl) rfl) (variables_seq ⟨(⟨⟨k,m,s⟩,nm,ls⟩,.slice a hn cap),body,.slice a' body.length cap',tests,.slice a'' tests.length cap''⟩ (w.heap.size + 1 + 1 + 1)) (fun _=>rfl)
  (fun pre X=>SetOk X (w.heap.size + 1) pre /\ CBlk X (w.heap.size + 1 + 1) #[.map (some (w.heap.size + 1))] 183 /\ CBlk X (w.heap.size + 1 + 1 + 1) (Cm.cs ⟨(⟨⟨k,m,s⟩,nm,ls⟩,.slice a hn cap),body,.slice a' body.length cap',tests,.slice a'' tests.length cap''⟩) 53 /\ Below w.heap.size w X)
  (fun _ _ _=>False)
  (OwnFrom.and (set_own _ _ (by omega)) (OwnFrom.and (cblk_own _ _ _ _) (OwnFrom.and (cblk_own _ _ _ _) (ownFrom_below (Nat.le_refl _) (by omega)))))
  (fun cd=>ownFrom_pure _ (fun _=>False))
  (fun pre X h=>⟨h.2.2.1,HOK.out.later h.2.2.2⟩)
  ⟨b0,b1,b2,hB1⟩
  (fun x act X=>act = { tmps:=#[.agg #[.int .i64 k,.int .i64 m,.string s,.string nm,.slice a hn cap,.slice a' body.length cap',.slice a'' tests.length cap''],.pointer (some ⟨w.heap.size,0,none⟩),.map none,.pointer (some ⟨w.heap.size + 1 + 1,0,none⟩),.int .i64 x,.map (some (w.heap.size + 1)),.agg #[.int .i64 k,.int .i64 m,.string s,.string nm,.slice a hn cap,.slice a' body.length cap',.slice a'' tests.length cap''],.func (.func 199) #[] #[.pointer (some ⟨w.heap.size + 1 + 1 + 1,0,none⟩)],.int .i64 x,undef,undef,undef,undef],defers:=[] })
  (fun x act=>ownFrom_pure _ (fun _=>act = _))
  ?assign ?body ?done ?stop
 case assign=>
  rintro l' mm pre x X K hpre ⟨hs,hf,hb,hbw⟩ hle hK
  gi_wp2
  exact hK _ _ (Up.refl _ _) ⟨hs,hf,hb,hbw⟩ rfl
 case body=>
  rintro l' mm pre x act X hpre ⟨hs,hf,hb,hbw⟩ rfl hle
  have HS:Hid (SetOk X (w.heap.size + 1) pre):=hs
  have HF:Hid (CBlk X (w.heap.size + 1 + 1) #[.map (some (w.heap.size + 1))] 183):=hf
  have HB:Hid (CBlk X (w.heap.size + 1 + 1 + 1) (Cm.cs ⟨(⟨⟨k,m,s⟩,nm,ls⟩,.slice a hn cap),body,.slice a' body.length cap',tests,.slice a'' tests.length cap''⟩) 53):=hb
  have HBW:Hid (Below w.heap.size w X):=hbw
  have hwx:(Lit.int .i64 x).wf = true:=HWF.out x (mem_of_pre hpre)
  have hpl:pre.length < maxLen:=by
   have h1:=HVL.out
   have h2:=hpre.length_le
   simp only [List.length_append,List.length_cons,List.length_nil] at h2
   unfold maxLen;omega
  have HWX:Hid ((Lit.int .i64 x).wf = true):=hwx
  obtain ⟨f0,f1⟩:=one hf
  clear hs hf hb hbw hpre hwx
  gi_wp2_with (gi_at_mapUpdate;refine wpListIn_mapUpdate_own _ rfl _ _ _ 183 rfl 3 188 (Maps.int_keyed Tryz.underlying3) Tryz.underlying183 (unitElem (H:=Unit)) (w.heap.size + 1) pre.length (sv pre) rfl HS.out hpl _ _ _ rfl rfl (Maps.keyOf_int_mk Tryz.underlying3 HWX.out) _ [] unitElem_mk ?_;intro w1 hown1 hgrow1)
  refine ⟨Up.grown hgrow1 (fun q e=>by cases e;omega), ?_, ?_, ?_,HBW.out.grown hgrow1 HBW.out.size (fun q e=>by cases e;omega)⟩
  ·unfold SetOk
   rw [List.length_append,sv_snoc]
   exact hown1
  ·exact (hgrow1.block _ HF.out.lt (fun e=>by have:=Option.some.inj e;omega)).trans HF.out
  ·exact (hgrow1.block _ HB.out.lt (fun e=>by have:=Option.some.inj e;omega)).trans HB.out
 case done=>
  rintro E X hE ⟨hs,hf,hb,hbw⟩ hD
  obtain ⟨f0,f1⟩:=one hf
  have HS:Hid (SetOk X (w.heap.size + 1) (Cm.vars ⟨(⟨⟨k,m,s⟩,nm,ls⟩,.slice a hn cap),body,.slice a' body.length cap',tests,.slice a'' tests.length cap''⟩)):=hs
  clear hs
  gi_wp2
  refine ⟨by simp,.inl ⟨_,_,rfl,run_takeDeferred hD, ?_⟩⟩
  exact ⟨_,results_tmp rfl _ _ _,w.heap.size + 1,rfl,HS.out.grown (grownBy_putObj' _ E _) (fun e=>by cases e;omega),by omega,below_put hbw (by omega)⟩
 case stop=>
  rintro E cd pre X hE hpre h hD
  exact h.elim
end Go.Proofs.YtcpjiahdaplhlaaGreatDoor
namespace Go.Proofs.YtcpjiahdaplhlaaGreatDoor
open Go.RowKit Go.Shelf
def dstep (acc:List Int) (x:Int):List Int:=if x ∈ acc then acc else acc ++ [x]
def dis (l:List Int):List Int:=l.foldl dstep []
theorem key_int (x:Int):WideAt.IsKeyLit (Lit.int .i64 x):=by trivial
theorem any_int (acc:List Int) (x:Int):(acc.map (Lit.int .i64)).any (fun y=>y.sameKey (.int .i64 x)) = decide (x ∈ acc):=by
 induction acc with
 | nil=>rfl
 | cons a l ih=>
  rw [List.map_cons,List.any_cons,ih]
  by_cases e:a = x
  ·subst e;rw [WideAt.sameKey_self (key_int _)];simp
  ·rw [Maps.sameKey_ne (fun h=>e (by cases h;rfl))]
   have:x ≠ a:=fun h=>e h.symm
   simp [this]
theorem has_sv (l:List Int) (x:Int):Maps.has (sv l) (.int .i64 x) = decide (x ∈ l):=by
 unfold sv
 rw [Maps.has_setOf _ _ _ (fun y hy=>by obtain ⟨z, -,rfl⟩:=List.mem_map.1 hy;exact key_int z),any_int]
end Go.Proofs.YtcpjiahdaplhlaaGreatDoor
namespace Go.Proofs.YtcpjiahdaplhlaaGreatDoor
open Go.RowKit Go.Shelf
attribute [local go_sem] Oper.semAt_some
def mis:Int -> List Int -> Bool
 | _,[]=>false
 | n,v :: r=>if n < v then true else mis (if v = n then n + 1 else n) r
set_option maxRecDepth 100000 in
set_option maxHeartbeats 4000000 in
theorem misnumbered_any (c:Cm) (w:World) (h:c.ok w) (hvl:c.vars.length < 4000000000000000000) :
  Calls Tryz.prog 140 #[c.v] w fun e w'=>e = .returned (.bool (mis 0 c.vars)) /\ Below w.heap.size w w':=by
 obtain ⟨⟨a,hn,cap,h1⟩,⟨a',cap',h2⟩,⟨a'',cap'',h3⟩,hbl,htl⟩:=h.shape
 have HOK:Hid (c.ok w):=h
 have HVL:Hid (c.vars.length < 4000000000000000000):=hvl
 have hb3:Below w.heap.size w (((w.alloc (.cells c.cs 53)).alloc (.cells #[.bool false] 4)).alloc (.cells #[.int .i64 0] 3)):=(below2 w _ _).trans ((below1 _ _).mono (by simp;omega))
 have hat:=variables_any c (((w.alloc (.cells c.cs 53)).alloc (.cells #[.bool false] 4)).alloc (.cells #[.int .i64 0] 3)) (h.later hb3)
 obtain ⟨⟨⟨⟨k,m,s⟩,nm,ls⟩,hx⟩,body,bv,tests,tv⟩:=c
 simp only at h1 h2 h3 hbl htl hat hb3
 subst h1 h2 h3
 obtain ⟨n, -⟩:∃ n:Nat,True:=⟨0,trivial⟩
 refine (callsIn_wide (n:=n)).1 ?_
 refine callsIn_of_wp_marks Tryz.func140 rfl trivial ?_ rfl
 simp only [Tryz.ntmps140,List.size_toArray,List.length_cons,List.length_nil,Nat.reduceAdd,Nat.reduceSub,Array.replicate_succ,Array.replicate_zero,List.push_toArray,List.append_toArray,List.nil_append,List.cons_append]
 gi_wp2
 refine ⟨trivial,fun h=>(by cases h),(callsIn_wide.2 hat).mono ?_⟩
 rintro e w' ⟨rfl,rfl⟩
 clear hat h hvl
 have hz1:((((w.alloc (.cells (Cm.cs ⟨(⟨⟨k,m,s⟩,nm,ls⟩,.slice a hn cap),body,.slice a' body.length cap',tests,.slice a'' tests.length cap''⟩) 53)).alloc (.cells #[.bool false] 4)).alloc (.cells #[.int .i64 0] 3)).alloc (.cells (Cm.cs ⟨(⟨⟨k,m,s⟩,nm,ls⟩,.slice a hn cap),body,.slice a' body.length cap',tests,.slice a'' tests.length cap''⟩) 53)).heap.size = w.heap.size + 4:=by simp
 have b0:CBlk ((((w.alloc (.cells (Cm.cs ⟨(⟨⟨k,m,s⟩,nm,ls⟩,.slice a hn cap),body,.slice a' body.length cap',tests,.slice a'' tests.length cap''⟩) 53)).alloc (.cells #[.bool false] 4)).alloc (.cells #[.int .i64 0] 3)).alloc (.cells (Cm.cs ⟨(⟨⟨k,m,s⟩,nm,ls⟩,.slice a hn cap),body,.slice a' body.length cap',tests,.slice a'' tests.length cap''⟩) 53)) (w.heap.size + 1) #[.bool false] 4:=by
  have:=((CBlk.new (w.alloc (.cells (Cm.cs ⟨(⟨⟨k,m,s⟩,nm,ls⟩,.slice a hn cap),body,.slice a' body.length cap',tests,.slice a'' tests.length cap''⟩) 53)) #[.bool false] 4).later (below1 _ (.cells #[.int .i64 0] 3))).later (below1 _ (.cells (Cm.cs ⟨(⟨⟨k,m,s⟩,nm,ls⟩,.slice a hn cap),body,.slice a' body.length cap',tests,.slice a'' tests.length cap''⟩) 53))
  rwa [show (w.alloc (.cells (Cm.cs ⟨(⟨⟨k,m,s⟩,nm,ls⟩,.slice a hn cap),body,.slice a' body.length cap',tests,.slice a'' tests.length cap''⟩) 53)).heap.size = w.heap.size + 1 by simp] at this
 have b1:CBlk ((((w.alloc (.cells (Cm.cs ⟨(⟨⟨k,m,s⟩,nm,ls⟩,.slice a hn cap),body,.slice a' body.length cap',tests,.slice a'' tests.length cap''⟩) 53)).alloc (.cells #[.bool false] 4)).alloc (.cells #[.int .i64 0] 3)).alloc (.cells (Cm.cs ⟨(⟨⟨k,m,s⟩,nm,ls⟩,.slice a hn cap),body,.slice a' body.length cap',tests,.slice a'' tests.length cap''⟩) 53)) (w.heap.size + 1 + 1) #[.int .i64 0] 3:=by
  have:=(CBlk.new ((w.alloc (.cells (Cm.cs ⟨(⟨⟨k,m,s⟩,nm,ls⟩,.slice a hn cap),body,.slice a' body.length cap',tests,.slice a'' tests.length cap''⟩) 53)).alloc (.cells #[.bool false] 4)) #[.int .i64 0] 3).later (below1 _ (.cells (Cm.cs ⟨(⟨⟨k,m,s⟩,nm,ls⟩,.slice a hn cap),body,.slice a' body.length cap',tests,.slice a'' tests.length cap''⟩) 53))
  rwa [show ((w.alloc (.cells (Cm.cs ⟨(⟨⟨k,m,s⟩,nm,ls⟩,.slice a hn cap),body,.slice a' body.length cap',tests,.slice a'' tests.length cap''⟩) 53)).alloc (.cells #[.bool false] 4)).heap.size = w.heap.size + 1 + 1 by simp] at this
 have b2:CBlk ((((w.alloc (.cells (Cm.cs ⟨(⟨⟨k,m,s⟩,nm,ls⟩,.slice a hn cap),body,.slice a' body.length cap',tests,.slice a'' tests.length cap''⟩) 53)).alloc (.cells #[.bool false] 4)).alloc (.cells #[.int .i64 0] 3)).alloc (.cells (Cm.cs ⟨(⟨⟨k,m,s⟩,nm,ls⟩,.slice a hn cap),body,.slice a' body.length cap',tests,.slice a'' tests.length cap''⟩) 53)) (w.heap.size + 1 + 1 + 1) (Cm.cs ⟨(⟨⟨k,m,s⟩,nm,ls⟩,.slice a hn cap),body,.slice a' body.length cap',tests,.slice a'' tests.length cap''⟩) 53:=by
  have:=CBlk.new (((w.alloc (.cells (Cm.cs ⟨(⟨⟨k,m,s⟩,nm,ls⟩,.slice a hn cap),body,.slice a' body.length cap',tests,.slice a'' tests.length cap''⟩) 53)).alloc (.cells #[.bool false] 4)).alloc (.cells #[.int .i64 0] 3)) (Cm.cs ⟨(⟨⟨k,m,s⟩,nm,ls⟩,.slice a hn cap),body,.slice a' body.length cap',tests,.slice a'' tests.length cap''⟩) 53
  rwa [show (((w.alloc (.cells (Cm.cs ⟨(⟨⟨k,m,s⟩,nm,ls⟩,.slice a hn cap),body,.slice a' body.length cap',tests,.slice a'' tests.length cap''⟩) 53)).alloc (.cells #[.bool false] 4)).alloc (.cells #[.int .i64 0] 3)).heap.size = w.heap.size + 1 + 1 + 1 by simp] at this
 have hB1:Below w.heap.size w ((((w.alloc (.cells (Cm.cs ⟨(⟨⟨k,m,s⟩,nm,ls⟩,.slice a hn cap),body,.slice a' body.length cap',tests,.slice a'' tests.length cap''⟩) 53)).alloc (.cells #[.bool false] 4)).alloc (.cells #[.int .i64 0] 3)).alloc (.cells (Cm.cs ⟨(⟨⟨k,m,s⟩,nm,ls⟩,.slice a hn cap),body,.slice a' body.length cap',tests,.slice a'' tests.length cap''⟩) 53)):=hb3.trans ((below1 _ _).mono hb3.size)
 gi_wp2
 revert hz1 b0 b1 b2 hB1
 generalize (((w.alloc (.cells (Cm.cs ⟨(⟨⟨k,m,s⟩,nm,ls⟩,.slice a hn cap),body,.slice a' body.length cap',tests,.slice a'' tests.length cap''⟩) 53)).alloc (.cells #[.bool false] 4)).alloc (.cells #[.int .i64 0] 3)).alloc (.cells (Cm.cs ⟨(⟨⟨k,m,s⟩,nm,ls⟩,.slice a hn cap),body,.slice a' body.length cap',tests,.slice a'' tests.length cap''⟩) 53) = V
 intro hz1 b0 b1 b2 hB1
 clear hb3
 refine wpIn_seq (gf:=199) (lb:=#[.pointer (some ⟨w.heap.size + 1 + 1 + 1,0,none⟩)]) rfl (enters_of Tryz.func199 (by kernel_rfl) rfl) (variables_seq ⟨(⟨⟨k,m,s⟩,nm,ls⟩,.slice a hn cap),body,.slice a' body.length cap',tests,.slice a'' tests.length cap''⟩ (w.heap.size + 1 + 1 + 1)) (fun _=>rfl)
  (fun pre X=>∃ nx:Int,(0 <= nx /\ nx <= pre.length /\ ∀ suf,mis 0 (pre ++ suf) = mis nx suf) /\ CBlk X (w.heap.size + 1) #[.bool false] 4 /\ CBlk X (w.heap.size + 1 + 1) #[.int .i64 nx] 3 /\ CBlk X (w.heap.size + 1 + 1 + 1) (Cm.cs ⟨(⟨⟨k,m,s⟩,nm,ls⟩,.slice a hn cap),body,.slice a' body.length cap',tests,.slice a'' tests.length cap''⟩) 53 /\ Below w.heap.size w X)
  (fun cd _ X=>(cd = .ret /\ mis 0 (Cm.vars ⟨(⟨⟨k,m,s⟩,nm,ls⟩,.slice a hn cap),body,.slice a' body.length cap',tests,.slice a'' tests.length cap''⟩) = true) /\ CBlk X (w.heap.size + 1) #[.bool true] 4 /\ Below w.heap.size w X)
  (fun pre X Y row hs hg hr=>by
   obtain ⟨nx,hp,h1,h2,h3,h4⟩:=hs
   exact ⟨nx,hp,cblk_own (β:=Unit) _ _ _ _ () X Y row h1 hg hr,cblk_own (β:=Unit) _ _ _ _ () X Y row h2 hg hr,cblk_own (β:=Unit) _ _ _ _ () X Y row h3 hg hr,ownFrom_below (β:=Unit) (Nat.le_refl _) (by omega) () X Y row h4 hg hr⟩)
  (fun cd=>OwnFrom.and (ownFrom_pure _ (fun _=>cd = .ret /\ mis 0 (Cm.vars ⟨(⟨⟨k,m,s⟩,nm,ls⟩,.slice a hn cap),body,.slice a' body.length cap',tests,.slice a'' tests.length cap''⟩) = true)) (OwnFrom.and (cblk_own _ _ _ _) (ownFrom_below (Nat.le_refl _) (by omega))))
  (fun pre X h=>by obtain ⟨nx, -, -, -,h3,h4⟩:=h;exact ⟨h3,HOK.out.later h4⟩)
  ⟨0,⟨by omega,by simp,fun suf=>rfl⟩,b0,b1,b2,hB1⟩
  (fun x act X=>act = { tmps:=#[.agg #[.int .i64 k,.int .i64 m,.string s,.string nm,.slice a hn cap,.slice a' body.length cap',.slice a'' tests.length cap''],.pointer (some ⟨w.heap.size,0,none⟩),.pointer (some ⟨w.heap.size + 1,0,none⟩),.pointer (some ⟨w.heap.size + 1 + 1,0,none⟩),.int .i64 x,.agg #[.int .i64 k,.int .i64 m,.string s,.string nm,.slice a hn cap,.slice a' body.length cap',.slice a'' tests.length cap''],.func (.func 199) #[] #[.pointer (some ⟨w.heap.size + 1 + 1 + 1,0,none⟩)],.int .i64 x,undef,undef,undef,undef,undef,undef,undef,undef],defers:=[] })
  (fun x act=>ownFrom_pure _ (fun _=>act = _))
  ?assign ?body ?done ?stop
 case assign=>
  rintro l' mm pre x X K hpre hi hle hK
  gi_wp2
  exact hK _ _ (Up.refl _ _) hi rfl
 case body=>
  rintro l' mm pre x act X hpre ⟨nx,⟨hn0,hn1,hms⟩,hr,hf,hb,hbw⟩ rfl hle
  have HM:Hid (∀ suf,mis 0 (pre ++ suf) = mis nx suf):=hms
  have HR:Hid (CBlk X (w.heap.size + 1) #[.bool false] 4):=hr
  have HF:Hid (CBlk X (w.heap.size + 1 + 1) #[.int .i64 nx] 3):=hf
  have HB:Hid (CBlk X (w.heap.size + 1 + 1 + 1) (Cm.cs ⟨(⟨⟨k,m,s⟩,nm,ls⟩,.slice a hn cap),body,.slice a' body.length cap',tests,.slice a'' tests.length cap''⟩) 53):=hb
  have HBW:Hid (Below w.heap.size w X):=hbw
  have HP:Hid (pre ++ [x] <+: Cm.vars ⟨(⟨⟨k,m,s⟩,nm,ls⟩,.slice a hn cap),body,.slice a' body.length cap',tests,.slice a'' tests.length cap''⟩):=hpre
  have hpl:nx < 4000000000000000000:=by
   have h1:=HVL.out
   have h2:=hpre.length_le
   simp only [List.length_append,List.length_cons,List.length_nil] at h2
   omega
  obtain ⟨f0,f1⟩:=one hf
  obtain ⟨r0,r1⟩:=one hr
  clear hr hf hb hbw hpre hms
  by_cases q1:nx < x
  ·have HQ:Hid (nx < x):=q1
   gi_wp2
   refine ⟨Up.setCell _ (by simp only;omega),⟨rfl, ?_⟩,HR.out.set 0 (.bool true),HBW.out.setCell (by simp only;omega) _⟩
   obtain ⟨suf,hs⟩:=HP.out
   rw [<- hs,List.append_assoc,HM.out,List.singleton_append,mis,if_pos (by have:=HQ.out;omega)]
  ·have HQ:Hid (¬ nx < x):=q1
   by_cases q2:x = nx
   ·have n1:(x == nx) = true:=by simp [q2]
    have HQ2:Hid (x = nx):=q2
    clear q2
    gi_wp2
    refine ⟨Up.setCell _ (by simp only;omega),nx + 1,⟨by omega,by simp;omega,fun suf=>?_⟩,HR.out.off (by omega),HF.out.set 0 (.int .i64 (nx + 1)),HB.out.off (by omega),HBW.out.setCell (by simp only;omega) _⟩
    rw [List.append_assoc,HM.out,List.singleton_append,mis,if_neg (by have:=HQ.out;omega),if_pos HQ2.out]
   ·have n1:(x == nx) = false:=beq_eq_false_iff_ne.2 q2
    have HQ2:Hid (¬ x = nx):=q2
    clear q2
    gi_wp2
    refine ⟨Up.refl _ _,nx,⟨hn0,by simp;omega,fun suf=>?_⟩,HR.out,HF.out,HB.out,HBW.out⟩
    rw [List.append_assoc,HM.out,List.singleton_append,mis,if_neg (by have:=HQ.out;omega),if_neg HQ2.out]
 case done=>
  rintro E X hE ⟨nx,⟨hn0,hn1,hms⟩,hr,hf,hb,hbw⟩ hD
  obtain ⟨r0,r1⟩:=one hr
  have HM:Hid (∀ suf,mis 0 (Cm.vars ⟨(⟨⟨k,m,s⟩,nm,ls⟩,.slice a hn cap),body,.slice a' body.length cap',tests,.slice a'' tests.length cap''⟩ ++ suf) = mis nx suf):=hms
  have HR:Hid (CBlk X (w.heap.size + 1) #[.bool false] 4):=hr
  have HBW:Hid (Below w.heap.size w X):=hbw
  have HD:Hid (X.heap[E]? = some (.deferred (some []))):=hD
  clear hr hf hb hbw hD hms
  gi_wp2
  refine ⟨by simp,.inl ⟨_,_,rfl,run_takeDeferred ((heap_setCell_other _ _ _ _ (show E ≠ w.heap.size + 1 by omega)).trans HD.out), ?_⟩⟩
  refine ⟨_,ret_bcell Tryz.results140 _ _ (w.heap.size + 1) false rfl (one ((HR.out.set 0 (.bool false)).put _ (by omega))).1, ?_, ?_⟩
  ·have:=HM.out []
   rw [List.append_nil] at this
   rw [this];rfl
  ·exact below_put (HBW.out.setCell (by simp only;omega) _) (by omega)
 case stop=>
  rintro E cd pre X hE hpre ⟨⟨rfl,hm⟩,hf,hbw⟩ hD
  have HF:Hid (CBlk X (w.heap.size + 1) #[.bool true] 4):=hf
  have HM:Hid (mis 0 (Cm.vars ⟨(⟨⟨k,m,s⟩,nm,ls⟩,.slice a hn cap),body,.slice a' body.length cap',tests,.slice a'' tests.length cap''⟩) = true):=hm
  clear hf hm
  gi_wp2
  refine ⟨by simp,.inl ⟨_,_,rfl,run_takeDeferred hD, ?_⟩⟩
  exact ⟨_,ret_bcell Tryz.results140 _ _ (w.heap.size + 1) true rfl (one (HF.out.put _ (by omega))).1,by rw [HM.out],below_put hbw (by omega)⟩
end Go.Proofs.YtcpjiahdaplhlaaGreatDoor

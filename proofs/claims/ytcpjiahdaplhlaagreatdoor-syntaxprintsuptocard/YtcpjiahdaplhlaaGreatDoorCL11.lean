import Derived.Test.YtcpjiahdaplhlaaGreatDoorCL8
import Derived.Test.YtcpjiahdaplhlaaGreatDoorB2
import Derived.Deep.RegionHeld3
import Derived.Test.YtcpjiahdaplhlaaGreatDoorCL2
import Derived.Test.YtcpjiahdaplhlaaGreatDoorW1
import Derived.Deep.CutRange
namespace Go.Proofs.YtcpjiahdaplhlaaGreatDoor
open Go.RowKit Go.Shelf
attribute [local go_sem] Oper.semAt_some
def Cm.bodyC (c:Cm):Cm:=⟨(⟨⟨0,0,⟨#[]⟩⟩,⟨#[]⟩,[]⟩,.slice none 0 0),c.body,c.bv,[],.slice none 0 0⟩
def Cm.restC (c:Cm):Cm:=⟨c.head,[],.slice none 0 0,c.tests,c.tv⟩
theorem Cm.ok.bodyC {w:World} {c:Cm} (h:c.ok w):c.bodyC.ok w:=⟨⟨none,0,rfl,by simp [Cm.bodyC],Or.inl rfl⟩,h.b,⟨none,0,rfl,by simp [Cm.bodyC],Or.inl rfl⟩⟩
theorem Cm.ok.restC {w:World} {c:Cm} (h:c.ok w):c.restC.ok w:=⟨h.h,⟨none,0,rfl,by simp [Cm.restC],Or.inl rfl,fun x hx=>by simp [Cm.restC] at hx⟩,h.t⟩
def unb (c:Cm):Bool:=c.restC.vars.any fun v=>!decide (v ∈ c.bodyC.vars)
theorem unb_no {c:Cm} (h:∀ v ∈ c.restC.vars,v ∈ c.bodyC.vars):unb c = false:=by
 unfold unb
 rw [List.any_eq_false]
 intro v hv
 simp [h v hv]
theorem unb_yes {c:Cm} {pre:List Int} {x:Int} (hp:pre ++ [x] <+: c.restC.vars) (hx:¬ x ∈ c.bodyC.vars):unb c = true:=by
 unfold unb
 rw [List.any_eq_true]
 exact ⟨x,mem_of_pre hp,by simp [hx]⟩
theorem bodyC_eq (k m:Int) (s nm:ByteArray) (ls:List Tm) (hx bv tv:Value) (body:List (At × Value)) (tests:List Te):Cm.bodyC ⟨(⟨⟨k,m,s⟩,nm,ls⟩,hx),body,bv,tests,tv⟩ = ⟨(⟨⟨0,0,⟨#[]⟩⟩,⟨#[]⟩,[]⟩,.slice none 0 0),body,bv,[],.slice none 0 0⟩:=rfl
theorem restC_eq (k m:Int) (s nm:ByteArray) (ls:List Tm) (hx bv tv:Value) (body:List (At × Value)) (tests:List Te):Cm.restC ⟨(⟨⟨k,m,s⟩,nm,ls⟩,hx),body,bv,tests,tv⟩ = ⟨(⟨⟨k,m,s⟩,nm,ls⟩,hx),[],.slice none 0 0,tests,tv⟩:=rfl
set_option maxRecDepth 100000 in
set_option maxHeartbeats 4000000 in
theorem unbound_any (c:Cm) (w:World) (h:c.ok w) (hw:∀ v ∈ c.bodyC.vars,(Lit.int .i64 v).wf = true) (hw2:∀ v ∈ c.restC.vars,(Lit.int .i64 v).wf = true) (hvl:c.bodyC.vars.length < 4000000000000000000) :
  Calls Tryz.prog 139 #[c.v] w fun e w'=>e = .returned (.bool (unb c)) /\ Below w.heap.size w w':=by
 obtain ⟨⟨a,hn,cap,h1⟩,⟨a',cap',h2⟩,⟨a'',cap'',h3⟩,hbl,htl⟩:=h.shape
 have HOK:Hid (c.ok w):=h
 have HWF:Hid (∀ v ∈ c.restC.vars,(Lit.int .i64 v).wf = true):=hw2
 have hb2:Below w.heap.size w ((w.alloc (.cells c.cs 53)).alloc (.cells #[.bool false] 4)):=below2 w _ _
 have hat:=variableSet_any c.bodyC _ ((h.later hb2).bodyC) hw hvl
 have hva:=fun (X:World) (hX:Below w.heap.size w X)=>variables_any c.restC X (h.later hX).restC
 have b0:CBlk ((w.alloc (.cells c.cs 53)).alloc (.cells #[.bool false] 4)) w.heap.size c.cs 53:=(CBlk.new w c.cs 53).later (below1 _ _)
 have b1:CBlk ((w.alloc (.cells c.cs 53)).alloc (.cells #[.bool false] 4)) (w.heap.size + 1) #[.bool false] 4:=by
  have:=CBlk.new (w.alloc (.cells c.cs 53)) #[.bool false] 4
  rwa [show (w.alloc (.cells c.cs 53)).heap.size = w.heap.size + 1 by simp] at this
 have hz0:((w.alloc (.cells c.cs 53)).alloc (.cells #[.bool false] 4)).heap.size = w.heap.size + 2:=by simp
 obtain ⟨⟨⟨⟨k,m,s⟩,nm,ls⟩,hx⟩,body,bv,tests,tv⟩:=c
 simp only at h1 h2 h3 hbl htl
 subst h1 h2 h3
 rw [bodyC_eq] at hat
 simp only [restC_eq] at hva
 obtain ⟨vb,hvb⟩:∃ l,Cm.vars ⟨(⟨⟨0,0,⟨#[]⟩⟩,⟨#[]⟩,[]⟩,.slice none 0 0),body,.slice a' body.length cap',[],.slice none 0 0⟩ = l:=⟨_,rfl⟩
 have HVB:Hid (Cm.vars ⟨(⟨⟨0,0,⟨#[]⟩⟩,⟨#[]⟩,[]⟩,.slice none 0 0),body,.slice a' body.length cap',[],.slice none 0 0⟩ = vb):=hvb
 rw [hvb] at hat
 clear h hw hvl hw2 hvb
 obtain ⟨n, -⟩:∃ n:Nat,True:=⟨0,trivial⟩
 refine (callsIn_wide (n:=n)).1 ?_
 refine callsIn_of_wp_marks Tryz.func139 rfl trivial ?_ rfl
 simp only [Tryz.ntmps139,List.size_toArray,List.length_cons,List.length_nil,Nat.reduceAdd,Nat.reduceSub,Array.replicate_succ,Array.replicate_zero,List.push_toArray,List.append_toArray,List.nil_append,List.cons_append]
 gi_wp2
 refine ⟨trivial,fun h=>(by cases h),(callsIn_wide.2 hat).mono ?_⟩
 rintro e w2 ⟨b,rfl,hs,hbb,hb3⟩
 rw [hz0] at hbb
 clear hat
 have hz2:=hb3.size
 rw [hz0] at hz2
 obtain ⟨Bm,hBm⟩:∃ B,w2.heap.size = B:=⟨_,rfl⟩
 rw [hBm] at hz2
 have B0:=CBlk.later b0 hb3
 have B1:=CBlk.later b1 hb3
 have hB2:=below_step hb2 hb3
 have b3:=CBlk.new w2 #[.map (some b)] 183
 have hz3:(w2.alloc (.cells #[.map (some b)] 183)).heap.size = Bm + 1:=by simp [hBm]
 rw [hBm] at b3
 have hsb:b < Bm:=by
  obtain ⟨es,clock,hmap, -⟩:=hs
  have:=(Array.getElem?_eq_some_iff.1 hmap).1
  omega
 have hs3:=hs.later (below1 w2 (.cells #[.map (some b)] 183))
 have B03:=B0.later (below1 w2 (.cells #[.map (some b)] 183))
 have B13:=B1.later (below1 w2 (.cells #[.map (some b)] 183))
 have hB3:=below_step hB2 (below1 w2 (.cells #[.map (some b)] 183))
 clear hs hb3 B0 B1 hB2 b0 b1 hb2 hz0
 obtain ⟨c0,c1,c2,c3,c4,c5,c6⟩:=cseven B03
 simp only at c0 c1 c2 c3 c4 c5 c6
 gi_wp2
 refine ⟨trivial,fun h=>(by cases h),(callsIn_wide.2 (hva _ hB3)).mono ?_⟩
 rintro e w' ⟨rfl,rfl⟩
 clear c0 c1 c2 c3 c4 c5 c6
 have hz4:((w2.alloc (.cells #[.map (some b)] 183)).alloc (.cells (Cm.cs ⟨(⟨⟨k,m,s⟩,nm,ls⟩,.slice a hn cap),[],.slice none 0 0,tests,.slice a'' tests.length cap''⟩) 53)).heap.size = Bm + 2:=by simp [hBm]
 have d0:=hs3.later (below1 _ (.cells (Cm.cs ⟨(⟨⟨k,m,s⟩,nm,ls⟩,.slice a hn cap),[],.slice none 0 0,tests,.slice a'' tests.length cap''⟩) 53))
 have d1:=B13.later (below1 _ (.cells (Cm.cs ⟨(⟨⟨k,m,s⟩,nm,ls⟩,.slice a hn cap),[],.slice none 0 0,tests,.slice a'' tests.length cap''⟩) 53))
 have d2:=b3.later (below1 _ (.cells (Cm.cs ⟨(⟨⟨k,m,s⟩,nm,ls⟩,.slice a hn cap),[],.slice none 0 0,tests,.slice a'' tests.length cap''⟩) 53))
 have d3:=CBlk.new (w2.alloc (.cells #[.map (some b)] 183)) (Cm.cs ⟨(⟨⟨k,m,s⟩,nm,ls⟩,.slice a hn cap),[],.slice none 0 0,tests,.slice a'' tests.length cap''⟩) 53
 rw [hz3] at d3
 have d4:=below_step hB3 (below1 _ (.cells (Cm.cs ⟨(⟨⟨k,m,s⟩,nm,ls⟩,.slice a hn cap),[],.slice none 0 0,tests,.slice a'' tests.length cap''⟩) 53))
 clear hva hs3 B03 B13 hB3 b3
 gi_wp2
 revert hz4 d0 d1 d2 d3 d4
 generalize (w2.alloc (.cells #[.map (some b)] 183)).alloc (.cells (Cm.cs ⟨(⟨⟨k,m,s⟩,nm,ls⟩,.slice a hn cap),[],.slice none 0 0,tests,.slice a'' tests.length cap''⟩) 53) = V
 intro hz4 d0 d1 d2 d3 d4
 refine wpIn_seq (gf:=199) (lb:=#[.pointer (some ⟨Bm + 1,0,none⟩)]) rfl (enters_of Tryz.func199 (by kernel_rfl) rfl) (variables_seq ⟨(⟨⟨k,m,s⟩,nm,ls⟩,.slice a hn cap),[],.slice none 0 0,tests,.slice a'' tests.length cap''⟩ (Bm + 1)) (fun _=>rfl)
  (fun pre X=>(∀ v ∈ pre,v ∈ vb) /\ SetOk X b vb /\ CBlk X (w.heap.size + 1) #[.bool false] 4 /\ CBlk X Bm #[.map (some b)] 183 /\ CBlk X (Bm + 1) (Cm.cs ⟨(⟨⟨k,m,s⟩,nm,ls⟩,.slice a hn cap),[],.slice none 0 0,tests,.slice a'' tests.length cap''⟩) 53 /\ Below w.heap.size w X)
  (fun cd _ X=>(cd = .ret /\ unb ⟨(⟨⟨k,m,s⟩,nm,ls⟩,.slice a hn cap),body,.slice a' body.length cap',tests,.slice a'' tests.length cap''⟩ = true) /\ CBlk X (w.heap.size + 1) #[.bool true] 4 /\ Below w.heap.size w X)
  (OwnFrom.and (ownFrom_pure _ _) (OwnFrom.and (fun _ X Y row hs hg hr=>set_own _ _ (by omega) vb X Y row hs hg hr) (OwnFrom.and (cblk_own _ _ _ _) (OwnFrom.and (cblk_own _ _ _ _) (OwnFrom.and (cblk_own _ _ _ _) (ownFrom_below (Nat.le_refl _) (by omega)))))))
  (fun cd=>OwnFrom.and (ownFrom_pure _ (fun _=>cd = .ret /\ unb ⟨(⟨⟨k,m,s⟩,nm,ls⟩,.slice a hn cap),body,.slice a' body.length cap',tests,.slice a'' tests.length cap''⟩ = true)) (OwnFrom.and (cblk_own _ _ _ _) (ownFrom_below (Nat.le_refl _) (by omega))))
  (fun pre X h=>⟨h.2.2.2.2.1,(HOK.out.later h.2.2.2.2.2).restC⟩)
  ⟨fun v hv=>by simp at hv,d0,d1,d2,d3,d4⟩
  (fun x act X=>act = { tmps:=#[.agg #[.int .i64 k,.int .i64 m,.string s,.string nm,.slice a hn cap,.slice a' body.length cap',.slice a'' tests.length cap''],.pointer (some ⟨w.heap.size,0,none⟩),.pointer (some ⟨w.heap.size + 1,0,none⟩),.pointer (some ⟨Bm,0,none⟩),.int .i64 x,undef,undef,.pointer (some ⟨w.heap.size,5,none⟩),.slice a' body.length cap',.agg #[.int .i64 0,.int .i64 0,.string ⟨#[]⟩,.string ⟨#[]⟩,.slice none 0 0,.slice a' body.length cap',.slice none 0 0],.map (some b),.pointer (some ⟨w.heap.size,0,none⟩),.agg #[.int .i64 k,.int .i64 m,.string s,.string nm,.slice a hn cap],.pointer (some ⟨w.heap.size,6,none⟩),.slice a'' tests.length cap'',.agg #[.int .i64 k,.int .i64 m,.string s,.string nm,.slice a hn cap,.slice none 0 0,.slice a'' tests.length cap''],.func (.func 199) #[] #[.pointer (some ⟨Bm + 1,0,none⟩)],.int .i64 x,undef,undef,undef,undef,undef,undef,undef,undef],defers:=[] })
  (fun x act=>ownFrom_pure _ (fun _=>act = _))
  ?assign ?bdy ?done ?stop
 case assign=>
  rintro l' mm pre x X K hpre hi hle hK
  gi_wp2
  exact hK _ _ (Up.refl _ _) hi rfl
 case bdy=>
  rintro l' mm pre x act X hpre ⟨hin,hs,hr,hf,hb,hbw⟩ rfl hle
  have HI:Hid (∀ v ∈ pre,v ∈ vb):=hin
  have HS:Hid (SetOk X b vb):=hs
  have HR:Hid (CBlk X (w.heap.size + 1) #[.bool false] 4):=hr
  have HF:Hid (CBlk X Bm #[.map (some b)] 183):=hf
  have HB:Hid (CBlk X (Bm + 1) (Cm.cs ⟨(⟨⟨k,m,s⟩,nm,ls⟩,.slice a hn cap),[],.slice none 0 0,tests,.slice a'' tests.length cap''⟩) 53):=hb
  have HBW:Hid (Below w.heap.size w X):=hbw
  have HP:Hid (pre ++ [x] <+: Cm.vars ⟨(⟨⟨k,m,s⟩,nm,ls⟩,.slice a hn cap),[],.slice none 0 0,tests,.slice a'' tests.length cap''⟩):=hpre
  have HWX:Hid ((Lit.int .i64 x).wf = true):=HWF.out x (mem_of_pre hpre)
  obtain ⟨f0,f1⟩:=one hf
  obtain ⟨r0,r1⟩:=one (hr.later (below1 X (.cells #[] 188)))
  have hzX:w.heap.size + 1 < X.heap.size:=hr.lt
  have hzm:Bm < X.heap.size:=hf.lt
  clear hin hs hr hf hb hbw hpre
  by_cases q:x ∈ vb
  ·have hd:Maps.has (sv vb) (.int .i64 x) = true:=by rw [has_sv];simp [q]
   have HQ:Hid (x ∈ vb):=q
   clear q
   gi_wp2_with (gi_at_lookup;refine wpListIn_lookup_own_unit _ rfl _ _ 183 rfl 3 188 (Maps.int_keyed Tryz.underlying3) Tryz.underlying183 (Tryz.zeroValue188 _) b vb.length (sv vb) rfl HS.out _ _ rfl (Maps.keyOf_int_mk Tryz.underlying3 HWX.out) ?_)
   refine ⟨Up.alloc _ _ _,fun v hv=>?_,HS.out.later (below1 _ _),HR.out.later (below1 _ _),HF.out.later (below1 _ _),HB.out.later (below1 _ _),below_step HBW.out (below1 _ _)⟩
   rcases List.mem_append.1 hv with hv | hv
   ·exact HI.out v hv
   ·rw [List.mem_singleton] at hv;rw [hv];exact HQ.out
  ·have hd:Maps.has (sv vb) (.int .i64 x) = false:=by rw [has_sv];simp [q]
   have HQ:Hid (¬ x ∈ vb):=q
   clear q
   gi_wp2_with (gi_at_lookup;refine wpListIn_lookup_own_unit _ rfl _ _ 183 rfl 3 188 (Maps.int_keyed Tryz.underlying3) Tryz.underlying183 (Tryz.zeroValue188 _) b vb.length (sv vb) rfl HS.out _ _ rfl (Maps.keyOf_int_mk Tryz.underlying3 HWX.out) ?_)
   refine ⟨(Up.setCell _ (by simp only;omega)).trans (Up.alloc _ _ _),⟨rfl, ?_⟩,(HR.out.set 0 (.bool true)).later (below1 _ _),below_step (HBW.out.setCell (by simp only;omega) _) (below1 _ _)⟩
   refine unb_yes (x:=x) (pre:=pre) ?_ ?_
   ·rw [restC_eq];exact HP.out
   ·rw [bodyC_eq,HVB.out];exact HQ.out
 case done=>
  rintro E X hE ⟨hin,hs,hr,hf,hb,hbw⟩ hD
  obtain ⟨r0,r1⟩:=one hr
  have HI:Hid (∀ v ∈ Cm.vars ⟨(⟨⟨k,m,s⟩,nm,ls⟩,.slice a hn cap),[],.slice none 0 0,tests,.slice a'' tests.length cap''⟩,v ∈ vb):=hin
  have HR:Hid (CBlk X (w.heap.size + 1) #[.bool false] 4):=hr
  have HBW:Hid (Below w.heap.size w X):=hbw
  have HD:Hid (X.heap[E]? = some (.deferred (some []))):=hD
  clear hin hs hr hf hb hbw hD
  gi_wp2
  refine ⟨by simp,.inl ⟨_,_,rfl,run_takeDeferred ((heap_setCell_other _ _ _ _ (show E ≠ w.heap.size + 1 by omega)).trans HD.out), ?_⟩⟩
  refine ⟨_,ret_bcell Tryz.results139 _ _ (w.heap.size + 1) false rfl (one ((HR.out.set 0 (.bool false)).put _ (by omega))).1, ?_, ?_⟩
  ·rw [unb_no (c:=⟨(⟨⟨k,m,s⟩,nm,ls⟩,.slice a hn cap),body,.slice a' body.length cap',tests,.slice a'' tests.length cap''⟩) (by rw [restC_eq,bodyC_eq,HVB.out];exact HI.out)]
  ·exact below_put (HBW.out.setCell (by simp only;omega) _) (by omega)
 case stop=>
  rintro E cd pre X hE hpre ⟨⟨rfl,hm⟩,hf,hbw⟩ hD
  have HF:Hid (CBlk X (w.heap.size + 1) #[.bool true] 4):=hf
  have HM:Hid (unb ⟨(⟨⟨k,m,s⟩,nm,ls⟩,.slice a hn cap),body,.slice a' body.length cap',tests,.slice a'' tests.length cap''⟩ = true):=hm
  clear hf hm
  gi_wp2
  refine ⟨by simp,.inl ⟨_,_,rfl,run_takeDeferred hD, ?_⟩⟩
  exact ⟨_,ret_bcell Tryz.results139 _ _ (w.heap.size + 1) true rfl (one (HF.out.put _ (by omega))).1,by rw [HM.out],below_put hbw (by omega)⟩
end Go.Proofs.YtcpjiahdaplhlaaGreatDoor
namespace Go.Proofs.YtcpjiahdaplhlaaGreatDoor
open Go.RowKit Go.Shelf
def long (c:Cm):Bool:=decide (8 < c.body.length) || decide (8 < c.tests.length)
set_option maxHeartbeats 1000000 in
theorem tooLong_any (c:Cm) (w:World) (h:c.ok w):Calls Tryz.prog 135 #[c.v] w fun e w'=>e = .returned (.bool (long c)) /\ Below w.heap.size w w':=by
 obtain ⟨⟨a,hn,cap,h1⟩,⟨a',cap',h2⟩,⟨a'',cap'',h3⟩,hbl,htl⟩:=h.shape
 clear h
 obtain ⟨⟨⟨⟨k,m,s⟩,nm,ls⟩,hx⟩,body,bv,tests,tv⟩:=c
 simp only at h1 h2 h3 hbl htl
 subst h1 h2 h3
 obtain ⟨p,hp⟩:∃ p:Nat,body.length = p:=⟨_,rfl⟩
 obtain ⟨q,hq⟩:∃ q:Nat,tests.length = q:=⟨_,rfl⟩
 have HE:Hid (long ⟨(⟨⟨k,m,s⟩,nm,ls⟩,.slice a hn cap),body,.slice a' body.length cap',tests,.slice a'' tests.length cap''⟩ = (decide (8 < p) || decide (8 < q))):=by show _ = _;simp only [long,hp,hq]
 rw [HE.out,hp,hq]
 rw [hp] at hbl
 rw [hq] at htl
 clear HE hp hq
 by_cases q1:8 < p
 ·have i1:(8:Int) < (p:Int):=by omega
  rw [decide_eq_true q1]
  clear q1
  go_enter Tryz.func135,Tryz.ntmps135
  go_wp2
  go_ret
  exact ⟨rfl,below1 _ _⟩
 ·have i1:¬ (8:Int) < (p:Int):=by omega
  rw [decide_eq_false q1]
  by_cases q2:8 < q
  ·have i2:(8:Int) < (q:Int):=by omega
   rw [decide_eq_true q2]
   clear q1 q2
   go_enter Tryz.func135,Tryz.ntmps135
   go_wp2
   go_ret
   exact ⟨rfl,below1 _ _⟩
  ·have i2:¬ (8:Int) < (q:Int):=by omega
   rw [decide_eq_false q2]
   clear q1 q2
   go_enter Tryz.func135,Tryz.ntmps135
   go_wp2
   go_ret
   exact ⟨rfl,below1 _ _⟩
theorem speaks_any (c:Cm) (w:World) (h:c.ok w):Calls Tryz.prog 138 #[c.v] w fun e w'=>e = .returned (.bool c.head.1.by_.var) /\ Below w.heap.size w w':=by
 obtain ⟨⟨a,hn,cap,h1⟩,⟨a',cap',h2⟩,⟨a'',cap'',h3⟩,hbl,htl⟩:=h.shape
 have hva:=var_any c.head.1.by_
 clear h
 obtain ⟨b,hb⟩:∃ b,c.head.1.by_.var = b:=⟨_,rfl⟩
 rw [hb] at hva ⊢
 clear hb
 obtain ⟨⟨⟨⟨k,m,s⟩,nm,ls⟩,hx⟩,body,bv,tests,tv⟩:=c
 simp only at h1 h2 h3 hbl htl hva
 subst h1 h2 h3
 go_enter Tryz.func138,Tryz.ntmps138
 go_wp2_with (go_at_call 44;refine (hva _).mono ?_;rintro e w1 ⟨rfl,hb1⟩)
 go_ret
 exact ⟨rfl,below_step (below1 _ _) hb1⟩
theorem wrongAtom_any (err:Int) (w:World):Calls Tryz.prog 136 #[.int .i64 err] w fun e w'=>e = .returned (.func (.func 168) #[] #[.pointer (some ⟨w.heap.size,0,none⟩)]) /\ w' = w.alloc (.cells #[.int .i64 err] 24):=by
 go_enter Tryz.func136,Tryz.ntmps136
 go_wp2
 go_ret
 exact ⟨rfl,rfl⟩
set_option maxRecDepth 20000 in
set_option maxHeartbeats 1000000 in
theorem wrongAtom1_any (c:Cm) (g:Nat) (err:Int) (w:World) (h:c.ok w) (hg:CBlk w g #[.int .i64 err] 24) :
  Calls Tryz.prog 168 #[c.v,.pointer (some ⟨g,0,none⟩)] w fun e w'=>e = .returned (.bool (decide (aErr c.atoms = err))) /\ Below w.heap.size w w':=by
 obtain ⟨⟨a,hn,cap,h1⟩,⟨a',cap',h2⟩,⟨a'',cap'',h3⟩,hbl,htl⟩:=h.shape
 obtain ⟨V1,hV1⟩:∃ V1,w.alloc (.cells c.cs 53) = V1:=⟨_,rfl⟩
 have hb1:=CBlk.new w c.cs 53
 have hg1:=hg.later (below1 w (.cells c.cs 53))
 have hw1:=below1 w (.cells c.cs 53)
 have ha:=fun (X:World) (hX:Below (w.alloc (.cells c.cs 53)).heap.size (w.alloc (.cells c.cs 53)) X)=>atomsError_any c X (h.later (below_step (below1 _ _) hX))
 rw [hV1] at hb1 hg1 hw1 ha
 obtain ⟨E,hE⟩:∃ E,aErr c.atoms = E:=⟨_,rfl⟩
 simp only [hE] at ha
 rw [hE]
 clear h hg hE
 obtain ⟨⟨⟨⟨k,m,s⟩,nm,ls⟩,hx⟩,body,bv,tests,tv⟩:=c
 simp only at h1 h2 h3 hbl htl
 subst h1 h2 h3
 have HB:Hid (CBlk V1 w.heap.size #[.int .i64 k,.int .i64 m,.string s,.string nm,.slice a hn cap,.slice a' body.length cap',.slice a'' tests.length cap''] 53):=hb1
 have HG:Hid (CBlk V1 g #[.int .i64 err] 24):=hg1
 have HW:Hid (Below w.heap.size w V1):=hw1
 have HA:∀ (X:World),Below V1.heap.size V1 X -> Calls Tryz.prog 169 #[.agg #[.int .i64 k,.int .i64 m,.string s,.string nm,.slice a hn cap,.slice a' body.length cap',.slice a'' tests.length cap'']] X fun e w'=>e = .returned (.int .i64 E) /\ Below X.heap.size X w':=ha
 clear hb1 hg1 hw1 ha
 by_cases q:E = err
 ·have HE:Hid (decide (E = err) = true):=by show _ = _;simp [q]
  have n1:(E == err) = true:=by simp [q]
  clear q
  go_enter Tryz.func168,Tryz.ntmps168
  go_upto_region 1 with fail
  clear hV1
  refine wp_region_held_drew (S:=fun w'=>Below V1.heap.size V1 w') (by kernel_rfl) (Below.refl _ _).drew (fun hH=>?_)
  revert hH
  generalize V1.drew = V
  intro hH
  refine wTl 0 (.agg #[.int .i64 k,.int .i64 m,.string s,.string nm,.slice a hn cap,.slice a' body.length cap',.slice a'' tests.length cap'']) rfl (by kernel_rfl) (fun _ _ _ h=>h) rfl (fun w' h=>by obtain ⟨p0,p1,p2,p3,p4,p5,p6⟩:=cseven HB.out;have z:=HB.out.lt;have a0:=cell_step h z p0;have a1:=cell_step h z p1;have a2:=cell_step h z p2;have a3:=cell_step h z p3;have a4:=cell_step h z p4;have a5:=cell_step h z p5;have a6:=cell_step h z p6;clear p0 p1 p2 p3 p4 p5 p6;go_simp) hH ?_
  simp only [wA,wB,wC,wD]
  refine wTl 2 (.int .i64 err) rfl (by kernel_rfl) (fun _ _ _ h=>h) rfl (fun w' h=>by have a0:=cell_step h HG.out.lt (one HG.out).1;go_simp) hH ?_
  simp only [wA,wB,wC,wD]
  refine wRd 1 (by kernel_rfl) rfl (fun K hK=>?_)
  go_simp
  refine (HA _ hH).mono ?_
  rintro x1 V2 ⟨rfl,hb⟩
  refine hK.out _ _ (below_step hH hb) (fun hH=>?_)
  clear hK K
  refine wTl 3 (.bool true) rfl (by kernel_rfl) (fun _ _ _ h=>h) rfl (fun w' _=>by go_simp) hH ?_
  simp only [wA,wB,wC,wD]
  refine wTl 4 (.bool true) rfl (by kernel_rfl) (fun _ _ _ h=>h) rfl (fun w' _=>by go_simp) hH ?_
  simp only [wA,wB,wC,wD]
  refine wpAnyH_done (by kernel_rfl) ?_ _
  have HV:Hid (Below V1.heap.size V1 V2):=hH
  clear hH hb
  go_wp2
  go_ret
  exact ⟨by rw [HE.out];rfl,below_step HW.out HV.out⟩
 ·have HE:Hid (decide (E = err) = false):=by show _ = _;simp [q]
  have n1:(E == err) = false:=beq_eq_false_iff_ne.2 q
  clear q
  go_enter Tryz.func168,Tryz.ntmps168
  go_upto_region 1 with fail
  clear hV1
  refine wp_region_held_drew (S:=fun w'=>Below V1.heap.size V1 w') (by kernel_rfl) (Below.refl _ _).drew (fun hH=>?_)
  revert hH
  generalize V1.drew = V
  intro hH
  refine wTl 0 (.agg #[.int .i64 k,.int .i64 m,.string s,.string nm,.slice a hn cap,.slice a' body.length cap',.slice a'' tests.length cap'']) rfl (by kernel_rfl) (fun _ _ _ h=>h) rfl (fun w' h=>by obtain ⟨p0,p1,p2,p3,p4,p5,p6⟩:=cseven HB.out;have z:=HB.out.lt;have a0:=cell_step h z p0;have a1:=cell_step h z p1;have a2:=cell_step h z p2;have a3:=cell_step h z p3;have a4:=cell_step h z p4;have a5:=cell_step h z p5;have a6:=cell_step h z p6;clear p0 p1 p2 p3 p4 p5 p6;go_simp) hH ?_
  simp only [wA,wB,wC,wD]
  refine wTl 2 (.int .i64 err) rfl (by kernel_rfl) (fun _ _ _ h=>h) rfl (fun w' h=>by have a0:=cell_step h HG.out.lt (one HG.out).1;go_simp) hH ?_
  simp only [wA,wB,wC,wD]
  refine wRd 1 (by kernel_rfl) rfl (fun K hK=>?_)
  go_simp
  refine (HA _ hH).mono ?_
  rintro x1 V2 ⟨rfl,hb⟩
  refine hK.out _ _ (below_step hH hb) (fun hH=>?_)
  clear hK K
  refine wTl 3 (.bool false) rfl (by kernel_rfl) (fun _ _ _ h=>h) rfl (fun w' _=>by go_simp) hH ?_
  simp only [wA,wB,wC,wD]
  refine wTl 4 (.bool false) rfl (by kernel_rfl) (fun _ _ _ h=>h) rfl (fun w' _=>by go_simp) hH ?_
  simp only [wA,wB,wC,wD]
  refine wpAnyH_done (by kernel_rfl) ?_ _
  have HV:Hid (Below V1.heap.size V1 V2):=hH
  clear hH hb
  go_wp2
  go_ret
  exact ⟨by rw [HE.out];rfl,below_step HW.out HV.out⟩
end Go.Proofs.YtcpjiahdaplhlaaGreatDoor
namespace Go.Proofs.YtcpjiahdaplhlaaGreatDoor
open Go.RowKit Go.Shelf
def badT (c:Cm):Bool:=c.tests.any fun t=>!t.ok
theorem badT_no {l:List Te} (h:∀ t ∈ l,t.ok = true):(l.any fun t=>!t.ok) = false:=by
 rw [List.any_eq_false];intro t ht;simp [h t ht]
theorem badT_yes {l:List Te} {j:Nat} {t:Te} (ht:l[j]? = some t) (h:t.ok = false):(l.any fun t=>!t.ok) = true:=by
 rw [List.any_eq_true];exact ⟨t,List.mem_of_getElem? ht,by simp [h]⟩
set_option maxRecDepth 20000 in
set_option maxHeartbeats 1000000 in
theorem wrongTest_any (c:Cm) (w:World) (h:c.ok w):Calls Tryz.prog 137 #[c.v] w fun e w'=>e = .returned (.bool (badT c)) /\ Below w.heap.size w w':=by
 obtain ⟨⟨a,hn,cap,h1⟩,⟨a',cap',h2⟩,⟨a'',cap'',h3⟩,hbl,htl⟩:=h.shape
 have HT:Hid (Es w c.tv c.tests):=h.t
 clear h
 unfold badT
 obtain ⟨⟨⟨⟨k,m,s⟩,nm,ls⟩,hx⟩,body,bv,tests,tv⟩:=c
 simp only at h1 h2 h3 hbl htl HT
 subst h1 h2 h3
 obtain ⟨r,hr⟩:∃ r,(tests.any fun t=>!t.ok) = r:=⟨_,rfl⟩
 have HR:Hid ((tests.any fun t=>!t.ok) = r):=hr
 simp only [hr]
 clear hr
 go_enter Tryz.func137,Tryz.ntmps137
 go_wp2
 go_loopg [8] tests.length (fun g i wr=>∃ j:Nat,j + g = tests.length /\ i = .int .i64 (j:Int) /\ (∀ t ∈ tests.take j,t.ok = true) /\ Below w.heap.size w wr)
 case atStart=>exact ⟨0,by omega,rfl,by simp,below1 _ _⟩
 case round=>
  obtain ⟨j,hj,rfl,hall,hbr⟩:=hrel
  have HA:Hid (∀ t ∈ tests.take j,t.ok = true):=hall
  have HBr:Hid (Below w.heap.size w wr):=hbr
  cases gk with
  | succ g=>
   have hlt:j < tests.length:=by omega
   have i0:(0:Int) <= (j:Int):=by omega
   have i1:(j:Int) < (tests.length:Int):=by omega
   obtain ⟨t,ht⟩:∃ t,tests[j]? = some t:=⟨_,List.getElem?_eq_getElem hlt⟩
   obtain ⟨a1,cap1,hv, -,hm⟩:=HT.out.later hbr
   simp only [Value.slice.injEq,true_and] at hv
   obtain ⟨rfl,rfl⟩:=hv
   rcases hm with hm | ⟨b,o,rfl,hm⟩
   ·rw [hm] at hlt;simp at hlt
   obtain ⟨e0,e1,e2,e3,e4,e5,e6⟩:=hm.2 j t ht
   have hck:=fun X=>check_any t X
   have HTj:Hid (tests[j]? = some t):=ht
   obtain ⟨ok,hok⟩:∃ ok,t.ok = ok:=⟨_,rfl⟩
   have HOk:Hid (t.ok = ok):=hok
   simp only [hok] at hck
   clear hm ht hall hbr hok
   obtain ⟨op,⟨kl,ml,sl⟩,⟨kr,mr,sr⟩⟩:=t
   simp only at e0 e1 e2 e3 e4 e5 e6 hck
   cases ok with
   | true=>
    simp only [if_true] at hck
    go_wp2_with (go_at_call 170;refine (hck _).mono ?_;clear hck;rintro e w1 ⟨rfl,hb1⟩;have HB1:Hid (Below _ _ _):=hb1;clear hb1)
    go_roundg g
    case measure=>omega
    case rel=>
     refine ⟨j + 1,by omega,by go_num,fun t ht=>?_,below_step (below_step HBr.out (below1 _ _)) HB1.out⟩
     rw [take_next HTj.out] at ht
     rcases List.mem_append.1 ht with ht | ht
     ·exact HA.out t ht
     ·rw [List.mem_singleton] at ht;rw [ht];exact HOk.out
   | false=>
    simp only [Bool.false_eq_true,if_false] at hck
    go_wp2_with (go_at_call 170;refine (hck _).mono ?_;clear hck;rintro e w1 ⟨rfl,hb1⟩;have HB1:Hid (Below _ _ _):=hb1;clear hb1)
    go_ret
    refine ⟨ret_b ?_,below_step (below_step HBr.out (below1 _ _)) HB1.out⟩
    rw [<- HR.out,badT_yes HTj.out HOk.out]
  | zero=>
   obtain rfl:j = tests.length:=by omega
   have hz:¬ ((tests.length:Int) < (tests.length:Int)):=by omega
   clear hall hbr
   go_wp2
   go_ret
   refine ⟨ret_b ?_,HBr.out⟩
   have:=HA.out
   rw [List.take_length] at this
   rw [<- HR.out,badT_no this]
abbrev tbl (n:Nat):Array Value:=#[.func (.func 135) #[] #[],.int .i64 31,.func (.func 168) #[] #[.pointer (some ⟨n,0,none⟩)],.int .i64 21,.func (.func 168) #[] #[.pointer (some ⟨n + 1,0,none⟩)],.int .i64 22,.func (.func 168) #[] #[.pointer (some ⟨n + 1 + 1,0,none⟩)],.int .i64 23,.func (.func 168) #[] #[.pointer (some ⟨n + 1 + 1 + 1,0,none⟩)],.int .i64 24,.func (.func 137) #[] #[],.int .i64 32,.func (.func 138) #[] #[],.int .i64 33,.func (.func 139) #[] #[],.int .i64 34,.func (.func 140) #[] #[],.int .i64 35]
abbrev chW (w:World):World:=((((w.alloc (.cells #[.int .i64 21] 24)).alloc (.cells #[.int .i64 22] 24)).alloc (.cells #[.int .i64 23] 24)).alloc (.cells #[.int .i64 24] 24)).alloc (.cells (tbl w.heap.size) 120)
set_option maxHeartbeats 1000000 in
theorem checks_any (w:World):Calls Tryz.prog 98 #[] w fun e w'=>e = .returned (.slice (some ⟨w.heap.size + 1 + 1 + 1 + 1,0,none⟩) 9 9) /\ w' = chW w:=by
 go_enter Tryz.func98,Tryz.ntmps98
 go_wp2_with (go_at_call 136;refine (wrongAtom_any _ _).mono ?_;rintro e w1 ⟨rfl,rfl⟩)
 go_ret
 exact ⟨rfl,rfl⟩
end Go.Proofs.YtcpjiahdaplhlaaGreatDoor

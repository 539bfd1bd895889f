import Derived.Test.YtcpjiahdaplhlaaGreatDoorPR3
import Derived.Test.YtcpjiahdaplhlaaGreatDoorSY22
import Derived.Test.YtcpjiahdaplhlaaGreatDoorK37
import Derived.Test.YtcpjiahdaplhlaaGreatDoorSY25
import Derived.Test.YtcpjiahdaplhlaaGreatDoorK24B
import Derived.Shelf.Strings.BuilderK
import Derived.Ground.NamesProg
import Derived.Test.YtcpjiahdaplhlaaGreatDoorProg
namespace Go.Proofs.YtcpjiahdaplhlaaGreatDoor
open Go.RowKit
attribute [local go_sem ↓] Go.wp_at_zero Go.wp_at_succ
def pbs5 (x:Ck):List ByteArray:=x.2.1.map pa5 ++ x.2.2.map pe5
def pc5 (x:Ck):ByteArray:=if ch5 x = 0 then (if pbs5 x = [] then pa5 x.1 else pa5 x.1 ++ ((⟨#[32,58,45,32]⟩:ByteArray) ++ jn5 (pbs5 x) ⟨#[44,32]⟩)) ++ (⟨#[46]⟩:ByteArray) else ⟨#[]⟩
theorem chk_long5 {c:Cm} (h:c.chk = 0):c.body.length <= 8 /\ c.tests.length <= 8:=by
 cases hl:long c with
 | true=>
  unfold Cm.chk Cm.rs at h
  rw [hl] at h
  exact absurd h (by show ¬ (31:Int) = 0;decide)
 | false=>
  unfold long at hl
  simp at hl
  exact hl
theorem pe5_len (t:Te) (hl:N64 t.l.n) (hr:N64 t.r.n):(pe5 t).size <= 4000:=by
 have l1:=pt5_len t.l hl
 have l2:=pt5_len t.r hr
 have l3:=sg5_len t.op
 unfold pe5
 have e:(⟨#[32]⟩:ByteArray).size = 1:=rfl
 rw [ByteArray.size_append,ByteArray.size_append,ByteArray.size_append,ByteArray.size_append]
 omega
set_option maxRecDepth 20000 in
set_option maxHeartbeats 4000000 in
theorem print5_any (c:Cm) (w:World) (h:c.ok w) (hwf:c.wf) (hn:∀ t ∈ c.terms,N64 t.n) (hE:EnvOk w) (hO:OpsOk w) :
  Calls Tryz.prog 24 #[c.v] w fun e w'=>e = .returned (.string (pc5 c.key)) /\ Below w.heap.size w w':=by
 have HB0:=hm7 (below1 w (.cells c.cs 53))
 have HX0:Hid (Bk (w.alloc (.cells c.cs 53)) w.heap.size c.cs 53):=Bk.new w c.cs 53
 have HCK:=hm7 (check9_any c _ (h.later HB0.out) hwf)
 have HPA:Hid (∀ p ∈ c.atoms,∀ X:World,Below w.heap.size w X -> Calls Tryz.prog 19 #[p.1.v p.2] X fun e w'=>e = .returned (.string (pa5 p.1)) /\ Below X.heap.size X w'):=fun p hp X hX=>by
  refine printAtom_any p.1 p.2 X ?_ (fun t ht=>hn t ?_) (hE.later hX)
  ·rcases List.mem_cons.1 hp with rfl | hp
   ·exact h.h.later hX
   ·obtain ⟨-, -, -, -, -,h5⟩:=h.b
    exact (h5 p hp).later hX
  ·exact List.mem_append_left _ (List.mem_flatMap.2 ⟨p,hp,ht⟩)
 have HPE:Hid (∀ t ∈ c.tests,∀ X:World,Below w.heap.size w X -> Calls Tryz.prog 59 #[t.v] X fun e w'=>e = .returned (.string (pe5 t)) /\ Below X.heap.size X w'):=fun t ht X hX=>printTest_any t (hn _ (List.mem_append_right _ (List.mem_flatMap.2 ⟨t,ht,by simp⟩))) (hn _ (List.mem_append_right _ (List.mem_flatMap.2 ⟨t,ht,by simp⟩))) X (hE.later hX) (hO.fr (P:=fun _=>False) (Fr.of hX) fun h=>h)
 have HLA:Hid (∀ p ∈ c.atoms,(pa5 p.1).size <= 4000):=fun p hp=>pa5_len p.1 fun t ht=>hn t (List.mem_append_left _ (List.mem_flatMap.2 ⟨p,hp,ht⟩))
 have HLE:Hid (∀ t ∈ c.tests,(pe5 t).size <= 4000):=fun t ht=>pe5_len t (hn _ (List.mem_append_right _ (List.mem_flatMap.2 ⟨t,ht,by simp⟩))) (hn _ (List.mem_append_right _ (List.mem_flatMap.2 ⟨t,ht,by simp⟩)))
 have HCH:Hid (c.chk = 0 -> c.body.length <= 8 /\ c.tests.length <= 8):=chk_long5
 obtain ⟨⟨⟨⟨hk,hnn,hs⟩,hm,ha⟩,hv⟩,body,bv,tests,tv⟩:=c
 obtain ⟨⟨a1,n1,cp1,e1⟩,⟨a2,cp2,e2⟩,⟨a3,cp3,e3⟩, -, -⟩:=h.shape
 dsimp only at e1 e2 e3
 obtain ⟨bn,hbn⟩:∃ n,body.length = n:=⟨_,rfl⟩
 obtain ⟨tn,htn⟩:∃ n,tests.length = n:=⟨_,rfl⟩
 rw [hbn] at e2
 rw [htn] at e3
 subst e1
 subst e2
 subst e3
 have HBN:=hm7 hbn
 have HTN:=hm7 htn
 have HHB:Hid (As w (.slice a2 bn cp2) body):=h.b
 have HHT:Hid (Es w (.slice a3 tn cp3) tests):=h.t
 obtain ⟨R,hR⟩:∃ R,pc5 (Cm.key ⟨(⟨⟨hk,hnn,hs⟩,hm,ha⟩,.slice a1 n1 cp1),body,.slice a2 bn cp2,tests,.slice a3 tn cp3⟩) = R:=⟨_,rfl⟩
 rw [hR]
 unfold pc5 at hR
 rw [<- chk_ch5] at hR
 obtain ⟨er,her⟩:∃ er,Cm.chk ⟨(⟨⟨hk,hnn,hs⟩,hm,ha⟩,.slice a1 n1 cp1),body,.slice a2 bn cp2,tests,.slice a3 tn cp3⟩ = er:=⟨_,rfl⟩
 rw [her] at hR HCK HCH
 dsimp only at HB0 HX0 HCK HCH HPA HPE HLA HLE
 rw [hbn,htn] at HCH
 clear h hwf hn hE hO her hbn htn
 show Calls Tryz.prog 24 #[.agg #[.int .i64 hk,.int .i64 hnn,.string hs,.string hm,.slice a1 n1 cp1,.slice a2 bn cp2,.slice a3 tn cp3]] w _
 have c0:=HX0.out.cell (i:=0) rfl
 have c1:=HX0.out.cell (i:=1) rfl
 have c2:=HX0.out.cell (i:=2) rfl
 have c3:=HX0.out.cell (i:=3) rfl
 have c4:=HX0.out.cell (i:=4) rfl
 have c5:=HX0.out.cell (i:=5) rfl
 have c6:=HX0.out.cell (i:=6) rfl
 by_cases he:er = 0
 ·subst he
  rw [if_pos rfl] at hR
  obtain ⟨hb8,ht8⟩:=HCH.out rfl
  have HR:=hm7 hR
  clear hR
  go_enter Tryz.func24,Tryz.ntmps24
  go_upto_region 4 with (go_at_call 58;refine HCK.out.mono ?_;rintro e WW ⟨rfl,hb⟩;have HBW:=hm7 (HB0.out.trans (hb.mono HB0.out.size));have HX1:=hm7 (HX0.out.below hb);clear hb c0 c1 c2 c3 c4 c5 c6;have c5:=HX1.out.cell (i:=5) rfl)
  have HWZ:Hid (w.heap.size < WW.heap.size):=HX1.out.lt
  go_wp2
  clear c5
  go_loopg [3,5,15] bn (fun gk u _ i wr=>∃ j:Nat,j + gk = bn /\ i = .int .i64 j /\ wr.ownsRow WW.heap.size 9 1 u j (((body.take j).map fun p=>pa5 p.1).map Value.string) /\ Below WW.heap.size WW wr)
  case atStart=>exact ⟨0,by omega,rfl,World.ownsRow_nil _ _ _ _,Below.refl _ _⟩
  case round=>
   obtain ⟨j,hj,rfl,ho,hb⟩:=hrel
   have HB:=hm7 hb
   have HO:=hm7 ho
   obtain ⟨ua,uc,huf, -⟩:=row7_form ho
   subst huf
   have hsz:=hb.size
   clear hb ho
   cases gk with
   | succ gk=>
    have hlt:(j:Int) < (bn:Int):=by omega
    obtain ⟨p,hp⟩:∃ p,body[j]? = some p:=⟨body[j]'(by rw [HBN.out];omega),List.getElem?_eq_getElem _⟩
    have HTK:Hid (body.take (j + 1) = body.take j ++ [p]):=by show _ = _;rw [List.take_add_one,hp];rfl
    have HTM:=hm7 (HPA.out p (List.mem_cons_of_mem _ (List.mem_of_getElem? hp)))
    obtain ⟨ya2,yc2,hyf2, -,hyr2,hts⟩:=HHB.out
    rw [HBN.out] at hyf2
    cases hyf2
    obtain ⟨pa,pn,hpf, -⟩:=hts p (List.mem_of_getElem? hp)
    rcases hyr2 with e | ⟨tb,toff,rfl,htr⟩
    ·rw [e] at hp;simp at hp
    have HWR:=hm7 (HBW.out.trans (HB.out.mono HBW.out.size))
    obtain ⟨q0,q1,q2,q3,q4⟩:=htr.2 j p hp
    have d0:=(Fr.of (P:=fun _=>False) HWR.out).cell htr.1 (fun z=>z) q0
    have d1:=(Fr.of (P:=fun _=>False) HWR.out).cell htr.1 (fun z=>z) q1
    have d2:=(Fr.of (P:=fun _=>False) HWR.out).cell htr.1 (fun z=>z) q2
    have d3:=(Fr.of (P:=fun _=>False) HWR.out).cell htr.1 (fun z=>z) q3
    have d4:=(Fr.of (P:=fun _=>False) HWR.out).cell htr.1 (fun z=>z) q4
    clear htr hp hts q0 q1 q2 q3 q4
    obtain ⟨⟨⟨tk,tn2,ts⟩,nm,al⟩,pv⟩:=p
    dsimp only at d0 d1 d2 d3 d4 hpf
    generalize al.length = aln at hpf
    subst hpf
    have HB1x:=hm7 (below1 wr (.cells #[.int .i64 tk,.int .i64 tn2,.string ts,.string nm,.slice pa aln pn] 42))
    obtain ⟨px,hpx⟩:∃ px,pa5 ⟨⟨tk,tn2,ts⟩,nm,al⟩ = px:=⟨_,rfl⟩
    dsimp only at HTM
    rw [hpx] at HTM
    have HPX:=hm7 hpx
    clear hpx
    go_wp2_with (first
     | (go_at_call 19;refine (HTM.out _ (HWR.out.trans (HB1x.out.mono HWR.out.size))).mono ?_;rintro e w5 ⟨rfl,hb⟩;have HB5:=hm7 (HB1x.out.trans (hb.mono HB1x.out.size));clear hb d0 d1 d2 d3 d4;have HO5:=hm7 (row7_below (row7_below HO.out HB5.out) (below1 w5 (.cells #[.string px] 9)));have hsz5:=HB5.out.size)
     | (at_builtin;refine gapp5 Tryz.underlying68 Tryz.infoStr5 rfl (by decide) (by decide) rfl _ _ rfl WW.heap.size (.slice ua j uc) j _ rfl HO5.out w5.heap.size #[.string px] rfl (Bk.new _ _ _) rfl (by simp [Value.oneCell']) (by omega) (by simp;omega) ?_;intro g6 q6 w6 ho6 hg6 hv6 hl6;have HO6:=hm7 ho6;have HG6:=hm7 hg6;clear ho6 hg6 hv6 hl6))
    have HF6:Hid (Fr (fun b=>WW.heap.size <= b) (w5.alloc (.cells #[.string px] 9)) w6):=Fr.grown HG6.out fun b hb=>(World.ownsRow.lt HO5.out b hb).1
    try go_wp2
    go_roundg gk
    case measure=>omega
    case rel=>
     refine ⟨j + 1,by omega,by go_num, ?_, ?_⟩
     ·rw [HTK.out,List.map_append,List.map_append]
      have:=HO6.out
      simpa [HPX.out] using this
     ·exact HB.out.trans (Fr.low (((Fr.of (P:=fun b=>WW.heap.size <= b) HB5.out).then (below1 _ _)).tr HF6.out) hsz)
   | zero=>
    obtain rfl:j = bn:=by omega
    have hlt:¬ (j:Int) < (j:Int):=by omega
    have HOB:Hid (wr.ownsRow WW.heap.size 9 1 (.slice ua j uc) j ((body.map fun p=>pa5 p.1).map Value.string)):=by
     have:=HO.out
     rw [List.take_of_length_le (by rw [HBN.out];exact Nat.le_refl _)] at this
     exact this
    clear HO
    have HX2:=hm7 (HX1.out.below (HB.out.mono (Nat.le_refl _)))
    have c6:=HX2.out.cell (i:=6) rfl
    obtain ⟨W8,hW8⟩:∃ W8,W8 = wr:=⟨_,rfl⟩
    subst hW8
    go_wp2
    clear c6
    go_loopg [3,7,28] tn (fun gk u _ i wr=>∃ k:Nat,k + gk = tn /\ i = .int .i64 k /\ wr.ownsRow WW.heap.size 9 1 u (j + k) ((body.map fun p=>pa5 p.1).map Value.string ++ ((tests.take k).map pe5).map Value.string) /\ Below WW.heap.size WW wr)
    case atStart=>exact ⟨0,by omega,rfl,by simpa using HOB.out,HB.out⟩
    case round=>
     obtain ⟨k,hk',rfl,ho,hb⟩:=hrel
     have HB2:=hm7 hb
     have HO2:=hm7 ho
     obtain ⟨ua2,uc2,huf, -⟩:=row7_form ho
     subst huf
     have hsz2:=hb.size
     clear hb ho HOB HB
     cases gk with
     | succ gk=>
      have hlt2:(k:Int) < (tn:Int):=by omega
      obtain ⟨t,ht⟩:∃ t,tests[k]? = some t:=⟨tests[k]'(by rw [HTN.out];omega),List.getElem?_eq_getElem _⟩
      have HTK:Hid (tests.take (k + 1) = tests.take k ++ [t]):=by show _ = _;rw [List.take_add_one,ht];rfl
      have HTM:=hm7 (HPE.out t (List.mem_of_getElem? ht))
      obtain ⟨ya2,yc2,hyf2, -,hyr2⟩:=HHT.out
      rw [HTN.out] at hyf2
      cases hyf2
      rcases hyr2 with e | ⟨tb,toff,rfl,htr⟩
      ·rw [e] at ht;simp at ht
      have HWR:=hm7 (HBW.out.trans (HB2.out.mono HBW.out.size))
      obtain ⟨q0,q1,q2,q3,q4,q5,q6⟩:=htr.2 k t ht
      have d0:=(Fr.of (P:=fun _=>False) HWR.out).cell htr.1 (fun z=>z) q0
      have d1:=(Fr.of (P:=fun _=>False) HWR.out).cell htr.1 (fun z=>z) q1
      have d2:=(Fr.of (P:=fun _=>False) HWR.out).cell htr.1 (fun z=>z) q2
      have d3:=(Fr.of (P:=fun _=>False) HWR.out).cell htr.1 (fun z=>z) q3
      have d4:=(Fr.of (P:=fun _=>False) HWR.out).cell htr.1 (fun z=>z) q4
      have d5:=(Fr.of (P:=fun _=>False) HWR.out).cell htr.1 (fun z=>z) q5
      have d6:=(Fr.of (P:=fun _=>False) HWR.out).cell htr.1 (fun z=>z) q6
      clear htr ht q0 q1 q2 q3 q4 q5 q6
      obtain ⟨op,⟨lk,ln,ls⟩,⟨rk,rn,rs⟩⟩:=t
      dsimp only at d0 d1 d2 d3 d4 d5 d6
      have HB1x:=hm7 (below1 wr (.cells #[.int .i64 op,.int .i64 lk,.int .i64 ln,.string ls,.int .i64 rk,.int .i64 rn,.string rs] 85))
      obtain ⟨px,hpx⟩:∃ px,pe5 ⟨op,⟨lk,ln,ls⟩,⟨rk,rn,rs⟩⟩ = px:=⟨_,rfl⟩
      rw [hpx] at HTM
      have HPX:=hm7 hpx
      clear hpx
      have hjk:((j + k:Nat):Int) = (j:Int) + (k:Int):=by omega
      have hjk8:j + k <= 16:=by omega
      obtain ⟨jk,hjke⟩:∃ jk,j + k = jk:=⟨_,rfl⟩
      rw [hjke] at HO2 hjk8 hjk
      rw [hjke]
      have HJK:=hm7 hjke
      clear hjk hjke
      go_wp2_with (first
       | (go_at_call 59;refine (HTM.out _ (HWR.out.trans (HB1x.out.mono HWR.out.size))).mono ?_;rintro e w5 ⟨rfl,hb⟩;have HB5:=hm7 (HB1x.out.trans (hb.mono HB1x.out.size));clear hb d0 d1 d2 d3 d4 d5 d6;have HO5:=hm7 (row7_below (row7_below HO2.out HB5.out) (below1 w5 (.cells #[.string px] 9)));have hsz5:=HB5.out.size)
       | (at_builtin;refine gapp5 Tryz.underlying68 Tryz.infoStr5 rfl (by decide) (by decide) rfl _ _ rfl WW.heap.size (.slice ua2 jk uc2) jk _ rfl HO5.out w5.heap.size #[.string px] rfl (Bk.new _ _ _) rfl (by simp [Value.oneCell']) (by omega) (by simp;omega) ?_;intro g6 q6 w6 ho6 hg6 hv6 hl6;have HO6:=hm7 ho6;have HG6:=hm7 hg6;clear ho6 hg6 hv6 hl6))
      have HF6:Hid (Fr (fun b=>WW.heap.size <= b) (w5.alloc (.cells #[.string px] 9)) w6):=Fr.grown HG6.out fun b hb=>(World.ownsRow.lt HO5.out b hb).1
      try go_wp2
      go_roundg gk
      case measure=>omega
      case rel=>
       refine ⟨k + 1,by omega,by go_num, ?_, ?_⟩
       ·rw [HTK.out,List.map_append,List.map_append, <- List.append_assoc,show j + (k + 1) = jk + 1 by rw [<- HJK.out];omega]
        have:=HO6.out
        simpa [HPX.out] using this
       ·exact HB2.out.trans (Fr.low (((Fr.of (P:=fun b=>WW.heap.size <= b) HB5.out).then (below1 _ _)).tr HF6.out) hsz2)
     | zero=>
      obtain rfl:k = tn:=by omega
      have hlt2:¬ (k:Int) < (k:Int):=by omega
      have HOA:Hid (wr.ownsRow WW.heap.size 9 1 (.slice ua2 (j + k) uc2) (pbs5 (Cm.key ⟨(⟨⟨hk,hnn,hs⟩,hm,ha⟩,.slice a1 n1 cp1),body,.slice a2 j cp2,tests,.slice a3 k cp3⟩)).length ((pbs5 (Cm.key ⟨(⟨⟨hk,hnn,hs⟩,hm,ha⟩,.slice a1 n1 cp1),body,.slice a2 j cp2,tests,.slice a3 k cp3⟩)).map Value.string)):=by
       have h1:=HO2.out
       rw [List.take_of_length_le (by rw [HTN.out];exact Nat.le_refl _)] at h1
       have h2:pbs5 (Cm.key ⟨(⟨⟨hk,hnn,hs⟩,hm,ha⟩,.slice a1 n1 cp1),body,.slice a2 j cp2,tests,.slice a3 k cp3⟩) = (body.map fun p=>pa5 p.1) ++ tests.map pe5:=by
        show (fsts body).map pa5 ++ tests.map pe5 = _
        unfold fsts
        rw [List.map_map]
        rfl
       show World.ownsRow _ _ _ _ _ _ _
       rw [h2,List.length_append,List.length_map,List.length_map,HBN.out,HTN.out,List.map_append]
       exact h1
      have HLL:Hid ((pbs5 (Cm.key ⟨(⟨⟨hk,hnn,hs⟩,hm,ha⟩,.slice a1 n1 cp1),body,.slice a2 j cp2,tests,.slice a3 k cp3⟩)).length = j + k /\ ∀ x ∈ pbs5 (Cm.key ⟨(⟨⟨hk,hnn,hs⟩,hm,ha⟩,.slice a1 n1 cp1),body,.slice a2 j cp2,tests,.slice a3 k cp3⟩),x.size <= 4000):=by
       have h2:pbs5 (Cm.key ⟨(⟨⟨hk,hnn,hs⟩,hm,ha⟩,.slice a1 n1 cp1),body,.slice a2 j cp2,tests,.slice a3 k cp3⟩) = (body.map fun p=>pa5 p.1) ++ tests.map pe5:=by
        show (fsts body).map pa5 ++ tests.map pe5 = _
        unfold fsts
        rw [List.map_map]
        rfl
       show _ /\ _
       rw [h2,List.length_append,List.length_map,List.length_map,HBN.out,HTN.out]
       refine ⟨rfl,fun x hx=>?_⟩
       rcases List.mem_append.1 hx with hx | hx
       ·obtain ⟨p,hp,rfl⟩:=List.mem_map.1 hx
        exact HLA.out p (List.mem_cons_of_mem _ hp)
       ·obtain ⟨t,ht,rfl⟩:=List.mem_map.1 hx
        exact HLE.out t ht
      have HR3:=hm7 HR.out
      revert HOA HLL HR3
      generalize pbs5 (Cm.key ⟨(⟨⟨hk,hnn,hs⟩,hm,ha⟩,.slice a1 n1 cp1),body,.slice a2 j cp2,tests,.slice a3 k cp3⟩) = bs
      intro HOA HLL HR3
      have hph:=HLA.out (⟨⟨hk,hnn,hs⟩,hm,ha⟩,.slice a1 n1 cp1) (List.mem_cons_self ..)
      have HPH:=hm7 (HPA.out (⟨⟨hk,hnn,hs⟩,hm,ha⟩,.slice a1 n1 cp1) (List.mem_cons_self ..))
      dsimp only at hph HPH
      obtain ⟨ph,hphe⟩:∃ ph,pa5 ⟨⟨hk,hnn,hs⟩,hm,ha⟩ = ph:=⟨_,rfl⟩
      have HR4:Hid ((if bs = [] then ph else ph ++ ((⟨#[32,58,45,32]⟩:ByteArray) ++ jn5 bs ⟨#[44,32]⟩)) ++ (⟨#[46]⟩:ByteArray) = R):=by
       have:=HR3.out
       show _ = _
       rw [<- hphe]
       exact this
      rw [hphe] at hph HPH
      have HWR:=hm7 (HBW.out.trans (HB2.out.mono HBW.out.size))
      have HX3:=hm7 (HX1.out.below HB2.out)
      have c0:=HX3.out.cell (i:=0) rfl
      have c1:=HX3.out.cell (i:=1) rfl
      have c2:=HX3.out.cell (i:=2) rfl
      have c3:=HX3.out.cell (i:=3) rfl
      have c4:=HX3.out.cell (i:=4) rfl
      clear hphe HR HR3 HO2 HPA HPE HCK
      obtain ⟨jk,hjk⟩:∃ jk,j + k = jk:=⟨_,rfl⟩
      rw [hjk] at HOA HLL
      have hjk16:jk <= 16:=by omega
      rw [hjk]
      clear hjk
      by_cases hz:jk = 0
      ·have hbs:bs = []:=List.eq_nil_of_length_eq_zero (by rw [HLL.out.1];exact hz)
       have hR5:=HR4.out
       rw [if_pos hbs] at hR5
       subst hz
       have g1:¬ 9223372036854775807 < ph.size + 1:=by omega
       clear hbs HR4
       go_wp2_with (go_at_call 19;refine (HPH.out _ HWR.out).mono ?_;rintro e w7 ⟨rfl,hb⟩;have HB7:=hm7 (HWR.out.trans (hb.mono HWR.out.size));clear hb)
       go_ret
       exact ⟨rfl,HB7.out⟩
      ·have hbs:bs ≠ []:=fun e=>hz (by rw [<- HLL.out.1,e];rfl)
       have hR5:=HR4.out
       rw [if_neg hbs] at hR5
       have hz1:(0:Int) < (jk:Int):=by omega
       have HJX:Hid (∀ X:World,Below wr.heap.size wr X -> Calls Tryz.prog 55 #[.slice ua2 jk uc2,.string ⟨#[44,32]⟩] X fun e w'=>e = .returned (.string (jn5 bs ⟨#[44,32]⟩)) /\ Below X.heap.size X w'):=fun X hX=>join5_any bs ⟨#[44,32]⟩ _ X WW.heap.size (row7_below HOA.out hX) hbs (fun x hx=>by have:=HLL.out.2 x hx;omega) (by rw [HLL.out.1];omega) (by decide)
       have hjl:=jn5_len 4000 bs ⟨#[44,32]⟩ HLL.out.2
       rw [HLL.out.1,show (⟨#[44,32]⟩:ByteArray).size = 2 from rfl] at hjl
       obtain ⟨jn,hjn⟩:∃ jn,jn5 bs ⟨#[44,32]⟩ = jn:=⟨_,rfl⟩
       rw [hjn] at HJX hR5 hjl
       have hjl2:jn.size <= 64032:=Nat.le_trans hjl (Nat.mul_le_mul_left _ hjk16)
       obtain ⟨A1,hA1⟩:∃ A,(⟨#[32,58,45,32]⟩:ByteArray) ++ jn = A:=⟨_,rfl⟩
       have s1:A1.size <= 64036:=by rw [<- hA1,ByteArray.size_append];have:(⟨#[32,58,45,32]⟩:ByteArray).size = 4:=rfl;omega
       rw [hA1] at hR5
       obtain ⟨A2,hA2⟩:∃ A,ph ++ A1 = A:=⟨_,rfl⟩
       have s2:A2.size <= 70000:=by rw [<- hA2,ByteArray.size_append];omega
       rw [hA2] at hR5
       have g1:¬ 9223372036854775807 < 4 + jn.size:=by omega
       have g2:¬ 9223372036854775807 < ph.size + A1.size:=by omega
       have g3:¬ 9223372036854775807 < A2.size + 1:=by omega
       clear hbs HR4 hjn hjl hjl2 s1 s2 hph
       go_wp2_with (first
        | (go_at_call 19;refine (HPH.out _ HWR.out).mono ?_;rintro e w7 ⟨rfl,hb⟩;have HB7:=hm7 hb;clear hb)
        | (go_at_call 55;refine (HJX.out _ HB7.out).mono ?_;rintro e w8 ⟨rfl,hb⟩;have HB8:=hm7 (HWR.out.trans ((HB7.out.trans (hb.mono HB7.out.size)).mono HWR.out.size));clear hb))
       go_ret
       exact ⟨rfl,HB8.out⟩
 ·have he1:(er == 0) = false:=by simp [he]
  have he2:(er != 0) = true:=by simp [he]
  rw [if_neg he] at hR
  subst hR
  go_enter Tryz.func24,Tryz.ntmps24
  go_wp2_with (go_at_call 58;refine HCK.out.mono ?_;rintro e w1 ⟨rfl,hb⟩;have HB1:=hm7 (HB0.out.trans (hb.mono HB0.out.size));clear hb)
  go_ret
  exact ⟨rfl,HB1.out⟩
end Go.Proofs.YtcpjiahdaplhlaaGreatDoor
namespace Go.Proofs.YtcpjiahdaplhlaaGreatDoor
open Go.RowKit
theorem name_wrd {s:ByteArray} (h:nameOk s = true):wrd s = true /\ s.size <= 64:=by
 unfold nameOk nameHead at h
 simp only [Bool.and_eq_true,decide_eq_true_eq] at h
 obtain ⟨⟨⟨h1,h2,h3⟩,h4⟩,h5⟩:=h
 have hp:0 < s.size:=size_posK h1
 have hch:∀ i,i < s.size -> ch s i = atK_ s i:=fun i hi=>by rw [ch_lt s i hi,atK_lt s i hi]
 have h6:sml (atK_ s 0) = true:=by
  rw [hch 0 hp] at h4
  simp only [small,decide_eq_true_eq] at h4
  simp only [sml,Bool.and_eq_true,decide_eq_true_eq]
  exact h4
 have h7:∀ d j,s.size - j = d -> j <= s.size -> rne s j = s.size:=by
  intro d
  induction d with
  | zero=>
   intro j hd hj;obtain rfl:j = s.size:=by omega
   exact rne_end
  | succ d ih=>
   intro j hd hj
   have hlt:j < s.size:=by omega
   have h8:=h5 j hlt
   rw [hch j hlt] at h8
   have h9:rnb (atK_ s j) = true:=by
    simp only [nb,decide_eq_true_eq] at h8
    simp only [rnb,sml,grt,dig,Bool.or_eq_true,Bool.and_eq_true,decide_eq_true_eq]
    omega
   rw [<- rne_yes hlt h9]
   exact ih (j + 1) (by omega) (by omega)
 have h10:¬ s = saysB:=fun e=>h3 e
 refine ⟨?_,by omega⟩
 unfold wrd
 rw [h6,h7 _ 0 rfl (Nat.zero_le _)]
 simp [h1,h10]
def jb5:List (List Int) -> List Int
 | []=>[]
 | x :: r=>x ++ r.flatMap fun y=>[44,32] ++ y
theorem bl_jn5 (xs:List ByteArray):blK (jn5 xs ⟨#[44,32]⟩) = jb5 (xs.map blK):=by
 unfold jn5 blK
 show ((Lib.join (xs.map (·.data.toList)) [44,32]).map fun b=>(b.toNat:Int)) = _
 cases xs with
 | nil=>rfl
 | cons x r=>
  rw [List.map_cons,Lib.join_cons,List.map_append]
  show _ = (x.data.toList.map fun b=>(b.toNat:Int)) ++ _
  congr 1
  induction r with
  | nil=>rfl
  | cons y r ih=>
   rw [List.map_cons,List.map_cons,List.flatMap_cons, <- ih]
   unfold Lib.joinTail
   rw [List.map_cons,List.flatten_cons,List.map_append,List.map_append]
   rfl
end Go.Proofs.YtcpjiahdaplhlaaGreatDoor
namespace Go.Proofs.YtcpjiahdaplhlaaGreatDoor
open Go.RowKit
theorem chkL5_none:∀ (l:List (Bool × Int)),(∀ x ∈ l,x.2 ≠ 0) -> chkL l = 0 -> ∀ x ∈ l,x.1 = false
 | [],_,_,x,hx=>by cases hx
 | y :: l,h,e,x,hx=>by
  unfold chkL at e
  split at e
  ·exact absurd e (h y (List.mem_cons_self ..))
  ·rename_i hy
   rcases List.mem_cons.1 hx with rfl | hx
   ·simpa using hy
   ·exact chkL5_none l (fun x hx=>h x (List.mem_cons_of_mem _ hx)) e x hx
theorem err_val5 (a:At):a.err = 0 ∨ a.err = 21 ∨ a.err = 22 ∨ a.err = 23 ∨ a.err = 24:=by
 unfold At.err;(repeat' split) <;> simp
theorem aErr5:∀ l:List (At × Value),(∀ x ∈ l,x.1.err = 0) ∨ aErr l = 21 ∨ aErr l = 22 ∨ aErr l = 23 ∨ aErr l = 24
 | []=>Or.inl fun x hx=>by cases hx
 | x :: r=>by
  unfold aErr
  split
  ·rename_i e
   rcases aErr5 r with h | h
   ·refine Or.inl fun y hy=>?_
    rcases List.mem_cons.1 hy with rfl | hy
    ·exact e
    ·exact h y hy
   ·exact Or.inr h
  ·rename_i e
   rcases err_val5 x.1 with h | h
   ·exact absurd h e
   ·exact Or.inr h
theorem var_same5 {s t:Tm} (hs:s.var = true) (ht:t.var = true) (h:s.n = t.n):s = t:=by
 simp only [Tm.var,decide_eq_true_eq] at hs ht
 obtain ⟨sk,sn,ss⟩:=s
 obtain ⟨tk,tn,ts⟩:=t
 simp only at hs ht h
 rw [h,hs.1,ht.1,hs.2.2,ht.2.2]
theorem chk_val5 {c:Cm} (h:c.chk = 0):Val0 c.key /\ mis 0 (vrs (Ck.terms c.key)) = false:=by
 have key:=chkL5_none c.rs (fun x hx=>by
  simp only [Cm.rs,List.mem_cons,List.not_mem_nil,or_false] at hx
  rcases hx with rfl | rfl | rfl | rfl | rfl | rfl | rfl | rfl | rfl <;> simp) h
 have a21:=key (decide (aErr c.atoms = 21),21) (by simp [Cm.rs])
 have a22:=key (decide (aErr c.atoms = 22),22) (by simp [Cm.rs])
 have a23:=key (decide (aErr c.atoms = 23),23) (by simp [Cm.rs])
 have a24:=key (decide (aErr c.atoms = 24),24) (by simp [Cm.rs])
 have hb:=key (badT c,32) (by simp [Cm.rs])
 have hs:=key (c.head.1.by_.var,33) (by simp [Cm.rs])
 have hu:=key (unb c,34) (by simp [Cm.rs])
 have hm:=key (mis 0 c.vars,35) (by simp [Cm.rs])
 simp only [decide_eq_false_iff_not] at a21 a22 a23 a24 hb hs hu hm
 have he:∀ x ∈ c.atoms,x.1.err = 0:=by
  rcases aErr5 c.atoms with h | h | h | h | h
  ·exact h
  ·exact absurd h a21
  ·exact absurd h a22
  ·exact absurd h a23
  ·exact absurd h a24
 have hl:=chk_long5 h
 refine ⟨⟨fun a ha=>?_,fun t ht=>?_, ?_,hl.2,hs,fun t ht hv=>?_⟩, ?_⟩
 ·rcases List.mem_cons.1 ha with rfl | ha
  ·exact he c.head (List.mem_cons_self ..)
  ·obtain ⟨x,hx,rfl⟩:=List.mem_map.1 (show a ∈ c.body.map Prod.fst from ha)
   exact he x (List.mem_cons_of_mem _ hx)
 ·have:=List.any_eq_false.1 hb t ht
  simpa using this
 ·simpa [Cm.key,fsts] using hl.1
 ·rw [unb_key,List.any_eq_false] at hu
  have:=hu t.n (List.mem_map.2 ⟨t,List.mem_filter.2 ⟨ht,hv⟩,rfl⟩)
  simp only [Bool.not_eq_true,Bool.not_eq_false',decide_eq_true_eq] at this
  obtain ⟨u,hu1,e⟩:=List.mem_map.1 this
  obtain ⟨hu1,hu2⟩:=List.mem_filter.1 hu1
  rw [<- var_same5 hu2 hv e]
  exact hu1
 ·rw [<- mis_key];exact hm
theorem ch_val5 {x:Ck} (h:ch5 x = 0):Val0 x /\ mis 0 (vrs (Ck.terms x)) = false:=by
 have:=chk_val5 (c:=⟨(x.1,.slice none 0 0),x.2.1.map fun a=>(a,.slice none 0 0),.slice none 0 0,x.2.2,.slice none 0 0⟩) h
 have e:Cm.key ⟨(x.1,.slice none 0 0),x.2.1.map fun a=>(a,.slice none 0 0),.slice none 0 0,x.2.2,.slice none 0 0⟩ = x:=by simp [Cm.key,fsts,Function.comp_def]
 rw [e] at this
 exact this
theorem qual_cov {t:Tm} (h:qualOk t = true) (hk:t.k ≠ 0):t.cov = true:=by
 unfold qualOk at h
 simp only [Bool.or_eq_true,decide_eq_true_eq] at h
 unfold Tm.cov
 rcases h with h | h | h
 ·rw [h] at hk;exact absurd rfl hk
 ·simp only [Tm.prin,decide_eq_true_eq] at h
  have:t.con = true:=by simp only [Tm.con,decide_eq_true_eq];exact Or.inr ⟨h.1,h.2.1,h.2.2.1⟩
  rw [this];rfl
 ·rw [h];simp
theorem Val0.atom {x:Ck} (h:Val0 x):x.1.err = 0 /\ ∀ a ∈ x.2.1,a.err = 0:=⟨h.e _ (List.mem_cons_self ..),fun a ha=>h.e a (List.mem_cons_of_mem _ ha)⟩
theorem terms_mem {x:Ck} {P:Tm -> Prop} (h:∀ t ∈ Ck.terms x,P t):(∀ t ∈ x.1.pl,P t) /\ (∀ a ∈ x.2.1,∀ t ∈ a.pl,P t) /\ ∀ e ∈ x.2.2,P e.l /\ P e.r:=by
 unfold Ck.terms at h
 refine ⟨fun t ht=>h t (List.mem_append_left _ ht),fun a ha t ht=>h t (List.mem_append_right _ (List.mem_append_left _ (List.mem_flatMap.2 ⟨a,ha,ht⟩))),fun e he=>?_⟩
 have:∀ u,u ∈ [e.l,e.r] -> P u:=fun u hu=>h u (List.mem_append_right _ (List.mem_append_right _ (List.mem_flatMap.2 ⟨e,he,hu⟩)))
 exact ⟨this _ (by simp),this _ (by simp)⟩
theorem pt5_258 {t:Tm} (hc:t.cov = true) (hn:N64 t.n):(pt5 t).size <= 258:=by
 unfold pt5
 by_cases hv:t.var = true
 ·rw [if_pos hv,ByteArray.size_append]
  have:=ib5_len t.n hn
  have e:(⟨#[86]⟩:ByteArray).size = 1:=rfl
  omega
 ·rw [if_neg hv]
  have hcon:t.con = true:=by
   unfold Tm.cov at hc
   cases h:t.con
   ·rw [h] at hc;exact absurd hc (by simpa using hv)
   ·rfl
  have hcf:¬ t.con = false:=by rw [hcon];simp
  rw [if_neg hcf]
  simp only [Tm.con,decide_eq_true_eq] at hcon
  by_cases hk:t.k = 1
  ·rw [if_pos hk];have:=ib5_len t.n hn;omega
  ·rw [if_neg hk]
   have h64:t.s.size <= 64:=by rcases hcon with h | h;exact absurd h.1 hk;exact h.2.2
   by_cases hw:wrd t.s = true
   ·rw [if_pos hw];omega
   ·rw [if_neg hw];have:=qtB_len t.s;omega
theorem flat_len {α:Type} (f : α -> List Int) (M:Nat):∀ l:List α,(∀ a ∈ l,(f a).length <= M) -> (l.flatMap f).length <= M * l.length
 | [],_=>Nat.zero_le _
 | a :: l,h=>by
  rw [List.flatMap_cons,List.length_append,List.length_cons,Nat.mul_succ]
  have h1:=h a (List.mem_cons_self ..)
  have h2:=flat_len f M l fun b hb=>h b (List.mem_cons_of_mem _ hb)
  omega
theorem jb5_len (xs:List (List Int)):(jb5 xs).length <= (xs.flatMap fun y=>[44,32] ++ y).length:=by
 cases xs with
 | nil=>exact Nat.le_refl _
 | cons x r=>
  show (x ++ _).length <= _
  rw [List.flatMap_cons,List.length_append,List.length_append,List.length_append]
  simp only [List.length_cons,List.length_nil]
  omega
theorem pa5_2410 {a:At} (h:a.err = 0) (hn:∀ t ∈ a.pl,N64 t.n):(pa5 a).size <= 2410:=by
 obtain ⟨h1,h2,h3,h4⟩:=err_zero' h
 have hs:=(name_wrd h1).2
 have hpo:(po5 a).size <= 328:=by
  unfold po5
  by_cases hk:a.by_.k = 0
  ·rw [if_pos hk];omega
  ·rw [if_neg hk,ByteArray.size_append,ByteArray.size_append]
   have:=pt5_258 (qual_cov h3 hk) (hn _ (List.mem_cons_self ..))
   have e:(⟨#[32,115,97,121,115,32]⟩:ByteArray).size = 6:=rfl
   omega
 unfold pa5
 rw [if_pos h]
 by_cases ha:a.args = []
 ·rw [if_pos ha];omega
 ·rw [if_neg ha,ByteArray.size_append,ByteArray.size_append,ByteArray.size_append]
  have e1:(⟨#[40]⟩:ByteArray).size = 1:=rfl
  have e2:(⟨#[41]⟩:ByteArray).size = 1:=rfl
  have l1:(jn5 (a.args.map pt5) ⟨#[44,32]⟩).size = (jb5 ((a.args.map pt5).map blK)).length:=by rw [<- bl_len,bl_jn5]
  have l2:=jb5_len ((a.args.map pt5).map blK)
  have l3:=flat_len (fun y:List Int=>[44,32] ++ y) 260 ((a.args.map pt5).map blK) (fun y hy=>by
   obtain ⟨s,hs,rfl⟩:=List.mem_map.1 hy
   obtain ⟨t,ht,rfl⟩:=List.mem_map.1 hs
   have:=pt5_258 (h4 t ht) (hn t (List.mem_cons_of_mem _ ht))
   rw [List.length_append,bl_len]
   simp only [List.length_cons,List.length_nil]
   omega)
  rw [List.length_map,List.length_map] at l3
  have l4:260 * a.args.length <= 260 * 8:=Nat.mul_le_mul_left _ h2
  omega
theorem pe5_520 {t:Te} (h:t.ok = true) (hl:N64 t.l.n) (hr:N64 t.r.n):(pe5 t).size <= 520:=by
 unfold Te.ok at h
 simp only [Bool.and_eq_true,decide_eq_true_eq] at h
 obtain ⟨h1,h2,h3⟩:=h
 have l1:=pt5_258 h2 hl
 have l2:=pt5_258 h3 hr
 have l3:=sg5_len t.op
 unfold pe5
 have e:(⟨#[32]⟩:ByteArray).size = 1:=rfl
 rw [ByteArray.size_append,ByteArray.size_append,ByteArray.size_append,ByteArray.size_append]
 omega
theorem pc5_len {x:Ck} (h:ch5 x = 0) (hn:∀ t ∈ Ck.terms x,N64 t.n):(pc5 x).size < 27000:=by
 obtain ⟨hv, -⟩:=ch_val5 h
 obtain ⟨n1,n2,n3⟩:=terms_mem hn
 have l0:=pa5_2410 hv.atom.1 n1
 unfold pc5
 rw [if_pos h,ByteArray.size_append]
 have e46:(⟨#[46]⟩:ByteArray).size = 1:=rfl
 by_cases hp:pbs5 x = []
 ·rw [if_pos hp];omega
 ·rw [if_neg hp,ByteArray.size_append,ByteArray.size_append]
  have e:(⟨#[32,58,45,32]⟩:ByteArray).size = 4:=rfl
  have l1:(jn5 (pbs5 x) ⟨#[44,32]⟩).size = (jb5 ((pbs5 x).map blK)).length:=by rw [<- bl_len,bl_jn5]
  have l2:=jb5_len ((pbs5 x).map blK)
  have l3:=flat_len (fun y:List Int=>[44,32] ++ y) 2412 ((x.2.1.map pa5).map blK) (fun y hy=>by
   obtain ⟨s,hs,rfl⟩:=List.mem_map.1 hy
   obtain ⟨a,ha,rfl⟩:=List.mem_map.1 hs
   have:=pa5_2410 (hv.atom.2 a ha) (n2 a ha)
   rw [List.length_append,bl_len]
   simp only [List.length_cons,List.length_nil]
   omega)
  have l4:=flat_len (fun y:List Int=>[44,32] ++ y) 522 ((x.2.2.map pe5).map blK) (fun y hy=>by
   obtain ⟨s,hs,rfl⟩:=List.mem_map.1 hy
   obtain ⟨a,ha,rfl⟩:=List.mem_map.1 hs
   have:=pe5_520 (hv.t a ha) (n3 a ha).1 (n3 a ha).2
   rw [List.length_append,bl_len]
   simp only [List.length_cons,List.length_nil]
   omega)
  rw [List.length_map,List.length_map] at l3 l4
  have l5:2412 * x.2.1.length <= 2412 * 8:=Nat.mul_le_mul_left _ hv.bl
  have l6:522 * x.2.2.length <= 522 * 8:=Nat.mul_le_mul_left _ hv.tl
  unfold pbs5 at l1 l2 ⊢
  rw [List.map_append,List.flatMap_append,List.length_append] at l2
  rw [List.map_append] at l1
  omega
end Go.Proofs.YtcpjiahdaplhlaaGreatDoor
/-
  DERIVED: strings.Builder's WriteByte at this dump, in plain words (as lay-plain.mjs writes them; laid by hand out of strings.Join's, as shelf_lay wants a type that no body names).
-/
namespace Go.Proofs
open Go.Shelf
def Tryz.wbyteL_ren : Go.Shelf.Ren := ⟨fun | 167 => 62 | 156 => 55 | 165 => 95 | 166 => 61 | 169 => 63 | 240 => 107 | 241 => 133 | 276 => 141 | 277 => 167 | n => n, fun | 31 => 68 | 9 => 9 | 3 => 3 | 4 => 4 | 0 => 0 | 20 => 20 | 72 => 91 | 76 => 94 | 70 => 89 | 37 => 67 | 75 => 93 | 127 => 126 | 164 => 152 | 5 => 5 | 80 => 97 | n => n, fun | n => n⟩
theorem Tryz.wbyteL : Go.Proofs.Lays.n167 Tryz.prog Tryz.wbyteL_ren := {
  f167 := Tryz.func62.trans (congrArg some (by kernel_rfl))
  mixed := by kernel_rfl
  f240 := Tryz.func107.trans (congrArg some (by kernel_rfl))
  f276 := Tryz.func141.trans (congrArg some (by kernel_rfl))
  t0 := Tryz.underlying0
  a0 := Tryz.isAgg0
  z0 := Tryz.sizeOf0
  v0 := Tryz.zeroValue0
  t4 := Tryz.underlying4
  a4 := Tryz.isAgg4
  z4 := Tryz.sizeOf4
  v4 := Tryz.zeroValue4
  t5 := Tryz.underlying5
  a5 := Tryz.isAgg5
  z5 := Tryz.sizeOf5
  v5 := Tryz.zeroValue5
  t9 := Tryz.underlying9
  a9 := Tryz.isAgg9
  z9 := Tryz.sizeOf9
  v9 := Tryz.zeroValue9
  t20 := Tryz.underlying20
  a20 := Tryz.isAgg20
  z20 := Tryz.sizeOf20
  v20 := Tryz.zeroValue20
  t37 := Tryz.underlying67
  a37 := Tryz.isAgg67
  z37 := Tryz.sizeOf67
  v37 := Tryz.zeroValue67
  t70 := Tryz.underlying89
  a70 := Tryz.isAgg89
  z70 := Tryz.sizeOf89
  v70 := Tryz.zeroValue89
  t72 := Tryz.underlying91
  a72 := Tryz.isAgg91
  z72 := Tryz.sizeOf91
  v72 := Tryz.zeroValue91
  t75 := Tryz.underlying93
  a75 := Tryz.isAgg93
  z75 := Tryz.sizeOf93
  v75 := Tryz.zeroValue93
  t164 := Tryz.underlying152
  a164 := Tryz.isAgg152
  z164 := Tryz.sizeOf152
  v164 := Tryz.zeroValue152 }
end Go.Proofs

import Derived.Test.YtcpjiahdaplhlaaGreatDoorB2
import Derived.Test.YtcpjiahdaplhlaaGreatDoorRCK2
import Derived.Test.YtcpjiahdaplhlaaGreatDoorST6
namespace Go.Proofs.YtcpjiahdaplhlaaGreatDoor
open Go.RowKit
attribute [local go_sem ↓] Go.wp_at_zero Go.wp_at_succ
def sgL:List ByteArray:=[⟨#[]⟩,⟨#[61]⟩,⟨#[33,61]⟩,⟨#[60]⟩,⟨#[60,61]⟩]
def Sg5 (w:World):Prop:=∀ (i:Nat) (t:ByteArray),sgL[i]? = some t -> w.cell? ⟨1,i,none⟩ = some (.string t)
theorem Sg5.later {w w':World} (h:Sg5 w) (hb:Below w.heap.size w w'):Sg5 w':=by
 have l0:=World.block_lt_of_cell? w _ (h 0 _ rfl)
 exact fun i t ht=>cell_step hb l0 (h i t ht)
theorem sg_at {w:World} (h:Sg5 w) {n:Nat} (h1:1 <= n) (h4:n <= 4):w.cell? ⟨1,n,none⟩ = some (.string (sg5 (n:Int))):=by
 rcases (show n = 1 ∨ n = 2 ∨ n = 3 ∨ n = 4 by omega) with rfl | rfl | rfl | rfl <;> exact h _ _ rfl
theorem ba_assoc (a b c:ByteArray):(a ++ b) ++ c = a ++ (b ++ c):=by
 apply ByteArray.ext
 simp [ByteArray.data_append,Array.append_assoc]
theorem chk_op5 {c:Cm} (h:c.chk = 0):∀ u ∈ c.tests,1 <= u.op /\ u.op <= 4:=fun u hu=>by
 have h1:long c = false:=by
  cases e:long c
  ·rfl
  ·exact absurd ((chk_1 e).symm.trans h) (by decide)
 have h2:aErr c.atoms = 0:=by
  by_cases e:aErr c.atoms = 0
  ·exact e
  ·exact absurd ((chk_2 h1 e).symm.trans h) e
 have h3:badT c = false:=by
  cases e:badT c
  ·rfl
  ·exact absurd ((chk_3 h1 h2 e).symm.trans h) (by decide)
 have h4:u.ok = true:=by
  cases e:u.ok
  ·exact absurd (List.any_eq_true.2 ⟨u,hu,by rw [e];rfl⟩:c.tests.any (fun t=>!t.ok) = true) (by unfold badT at h3;rw [h3];decide)
  ·rfl
 unfold Te.ok at h4
 simp at h4
 omega
set_option maxRecDepth 20000 in
set_option maxHeartbeats 4000000 in
theorem rprint_any (c:Cm) (w:World) (h:c.ok w) (hh:TsP w c.head.2 c.head.1.args) (hp:∀ x ∈ c.body,TsP w x.2 x.1.args) (hbp:AsP w c.bv c.body) (hn:∀ t ∈ c.terms,N64 t.n) (hE:QOk w) (hG:Sg5 w) :
  Calls Tryz.prog 25 #[c.v] w fun e w'=>e = .returned (.string (pc5 c.key)) /\ Below w.heap.size w w':=by
 have HB0:=hm7 (below1 w (.cells c.cs 53))
 have HX0:Hid (Bk (w.alloc (.cells c.cs 53)) w.heap.size c.cs 53):=Bk.new w c.cs 53
 have HCK:=hm7 (rcheckC_any c _ (h.later HB0.out) (hh.later HB0.out) (fun x hx=>(hp x hx).later HB0.out) (hbp.later HB0.out))
 have HPA:Hid (∀ p ∈ c.atoms,∀ X:World,Below w.heap.size w X -> Calls Tryz.prog 20 #[p.1.v p.2] X fun e w'=>e = .returned (.string (pa5 p.1)) /\ Below X.heap.size X w'):=fun p hp X hX=>by
  refine rprintAtom_any p.1 p.2 X ?_ (fun t ht=>hn t ?_) (hE.later hX)
  ·rcases List.mem_cons.1 hp with rfl | hp
   ·exact h.h.later hX
   ·obtain ⟨-, -, -, -, -,h5⟩:=h.b
    exact (h5 p hp).later hX
  ·exact List.mem_append_left _ (List.mem_flatMap.2 ⟨p,hp,ht⟩)
 have HPE:Hid (∀ u ∈ c.tests,(∀ X:World,Below w.heap.size w X -> Calls Tryz.prog 18 #[u.l.v] X fun e w'=>e = .returned (.string (pt5 u.l)) /\ Below X.heap.size X w') /\ (∀ X:World,Below w.heap.size w X -> Calls Tryz.prog 18 #[u.r.v] X fun e w'=>e = .returned (.string (pt5 u.r)) /\ Below X.heap.size X w') /\ (pt5 u.l).size <= 300 /\ (pt5 u.r).size <= 300):=fun u hu=>by
  have n1:=hn u.l (List.mem_append_right _ (List.mem_flatMap.2 ⟨u,hu,by simp⟩))
  have n2:=hn u.r (List.mem_append_right _ (List.mem_flatMap.2 ⟨u,hu,by simp⟩))
  exact ⟨fun X hX=>rprintTerm_any u.l n1 X (hE.later hX),fun X hX=>rprintTerm_any u.r n2 X (hE.later hX),pt5_len _ n1,pt5_len _ n2⟩
 have HOP:Hid (c.chk = 0 -> ∀ u ∈ c.tests,1 <= u.op /\ u.op <= 4):=chk_op5
 have HG:=hm7 hG
 have HLA:Hid (∀ p ∈ c.atoms,(pa5 p.1).size <= 4000):=fun p hp=>pa5_len p.1 fun t ht=>hn t (List.mem_append_left _ (List.mem_flatMap.2 ⟨p,hp,ht⟩))
 have HLE:Hid (∀ t ∈ c.tests,(pe5 t).size <= 4000):=fun t ht=>pe5_len t (hn _ (List.mem_append_right _ (List.mem_flatMap.2 ⟨t,ht,by simp⟩))) (hn _ (List.mem_append_right _ (List.mem_flatMap.2 ⟨t,ht,by simp⟩)))
 have HCH:Hid (c.chk = 0 -> c.body.length <= 8 /\ c.tests.length <= 8):=chk_long5
 obtain ⟨⟨⟨⟨hk,hnn,hs⟩,hm,ha⟩,hv⟩,body,bv,tests,tv⟩:=c
 obtain ⟨⟨a1,n1,cp1,e1⟩,⟨a2,cp2,e2⟩,⟨a3,cp3,e3⟩, -, -⟩:=h.shape
 dsimp only at e1 e2 e3
 obtain ⟨bn,hbn⟩:∃ n,body.length = n:=⟨_,rfl⟩
 obtain ⟨tn,htn⟩:∃ n,tests.length = n:=⟨_,rfl⟩
 rw [hbn] at e2
 rw [htn] at e3
 subst e1
 subst e2
 subst e3
 have HBN:=hm7 hbn
 have HTN:=hm7 htn
 have HHB:Hid (As w (.slice a2 bn cp2) body):=h.b
 have HHT:Hid (Es w (.slice a3 tn cp3) tests):=h.t
 obtain ⟨R,hR⟩:∃ R,pc5 (Cm.key ⟨(⟨⟨hk,hnn,hs⟩,hm,ha⟩,.slice a1 n1 cp1),body,.slice a2 bn cp2,tests,.slice a3 tn cp3⟩) = R:=⟨_,rfl⟩
 rw [hR]
 unfold pc5 at hR
 rw [<- chk_ch5] at hR
 obtain ⟨er,her⟩:∃ er,Cm.chk ⟨(⟨⟨hk,hnn,hs⟩,hm,ha⟩,.slice a1 n1 cp1),body,.slice a2 bn cp2,tests,.slice a3 tn cp3⟩ = er:=⟨_,rfl⟩
 rw [her] at hR HCK HCH HOP
 dsimp only at HB0 HX0 HCK HCH HPA HPE HLA HLE HOP hh hp hbp
 rw [hbn,htn] at HCH
 clear h hn hE hG her hbn htn hh hp hbp
 show Calls Tryz.prog 25 #[.agg #[.int .i64 hk,.int .i64 hnn,.string hs,.string hm,.slice a1 n1 cp1,.slice a2 bn cp2,.slice a3 tn cp3]] w _
 have c0:=HX0.out.cell (i:=0) rfl
 have c1:=HX0.out.cell (i:=1) rfl
 have c2:=HX0.out.cell (i:=2) rfl
 have c3:=HX0.out.cell (i:=3) rfl
 have c4:=HX0.out.cell (i:=4) rfl
 have c5:=HX0.out.cell (i:=5) rfl
 have c6:=HX0.out.cell (i:=6) rfl
 by_cases he:er = 0
 ·subst he
  rw [if_pos rfl] at hR
  obtain ⟨hb8,ht8⟩:=HCH.out rfl
  have HOQ:=hm7 (HOP.out rfl)
  clear HOP
  have HR:=hm7 hR
  clear hR
  go_enter Tryz.func25,Tryz.ntmps25
  go_upto_region 4 with (go_at_call 60;refine HCK.out.mono ?_;rintro e WW ⟨rfl,hb⟩;have HBW:=hm7 (HB0.out.trans (hb.mono HB0.out.size));have HX1:=hm7 (HX0.out.below hb);clear hb c0 c1 c2 c3 c4 c5 c6;have c5:=HX1.out.cell (i:=5) rfl)
  have HWZ:Hid (w.heap.size < WW.heap.size):=HX1.out.lt
  go_wp2
  clear c5
  go_loopg [3,4] bn (fun gk u i wr=>∃ j:Nat,j + gk = bn /\ i = .int .i64 j /\ wr.ownsRow WW.heap.size 9 1 u j (((body.take j).map fun p=>pa5 p.1).map Value.string) /\ Below WW.heap.size WW wr)
  case atStart=>exact ⟨0,by omega,rfl,World.ownsRow_nil _ _ _ _,Below.refl _ _⟩
  case round=>
   obtain ⟨j,hj,rfl,ho,hb⟩:=hrel
   have HB:=hm7 hb
   have HO:=hm7 ho
   obtain ⟨ua,uc,huf, -⟩:=row7_form ho
   subst huf
   have hsz:=hb.size
   clear hb ho
   cases gk with
   | succ gk=>
    have hlt0:(0:Int) <= (j:Int):=by omega
    have hlt:(j:Int) < (bn:Int):=by omega
    have c5:=(HX1.out.below HB.out).cell (i:=5) rfl
    obtain ⟨p,hp⟩:∃ p,body[j]? = some p:=⟨body[j]'(by rw [HBN.out];omega),List.getElem?_eq_getElem _⟩
    have HTK:Hid (body.take (j + 1) = body.take j ++ [p]):=by show _ = _;rw [List.take_add_one,hp];rfl
    have HTM:=hm7 (HPA.out p (List.mem_cons_of_mem _ (List.mem_of_getElem? hp)))
    obtain ⟨ya2,yc2,hyf2, -,hyr2,hts⟩:=HHB.out
    rw [HBN.out] at hyf2
    cases hyf2
    obtain ⟨pa,pn,hpf, -⟩:=hts p (List.mem_of_getElem? hp)
    rcases hyr2 with e | ⟨tb,toff,rfl,htr⟩
    ·rw [e] at hp;simp at hp
    have HWR:=hm7 (HBW.out.trans (HB.out.mono HBW.out.size))
    obtain ⟨q0,q1,q2,q3,q4⟩:=htr.2 j p hp
    have d0:=(Fr.of (P:=fun _=>False) HWR.out).cell htr.1 (fun z=>z) q0
    have d1:=(Fr.of (P:=fun _=>False) HWR.out).cell htr.1 (fun z=>z) q1
    have d2:=(Fr.of (P:=fun _=>False) HWR.out).cell htr.1 (fun z=>z) q2
    have d3:=(Fr.of (P:=fun _=>False) HWR.out).cell htr.1 (fun z=>z) q3
    have d4:=(Fr.of (P:=fun _=>False) HWR.out).cell htr.1 (fun z=>z) q4
    clear htr hp hts q0 q1 q2 q3 q4
    obtain ⟨⟨⟨tk,tn2,ts⟩,nm,al⟩,pv⟩:=p
    dsimp only at d0 d1 d2 d3 d4 hpf
    generalize al.length = aln at hpf
    subst hpf
    obtain ⟨px,hpx⟩:∃ px,pa5 ⟨⟨tk,tn2,ts⟩,nm,al⟩ = px:=⟨_,rfl⟩
    dsimp only at HTM
    rw [hpx] at HTM
    have HPX:=hm7 hpx
    clear hpx
    go_wp2_with (first
     | (go_at_call 20;refine (HTM.out _ HWR.out).mono ?_;rintro e w5 ⟨rfl,hb⟩;have HB5:=hm7 hb;clear hb d0 d1 d2 d3 d4 c5;have HO5:=hm7 (row7_below (row7_below HO.out HB5.out) (below1 w5 (.cells #[.string px] 9)));have hsz5:=HB5.out.size)
     | (at_builtin;refine gapp5 Tryz.underlying68 Tryz.infoStr5 rfl (by decide) (by decide) rfl _ _ rfl WW.heap.size (.slice ua j uc) j _ rfl HO5.out w5.heap.size #[.string px] rfl (Bk.new _ _ _) rfl (by simp [Value.oneCell']) (by omega) (by simp;omega) ?_;intro g6 q6 w6 ho6 hg6 hv6 hl6;have HO6:=hm7 ho6;have HG6:=hm7 hg6;clear ho6 hg6 hv6 hl6))
    have HF6:Hid (Fr (fun b=>WW.heap.size <= b) (w5.alloc (.cells #[.string px] 9)) w6):=Fr.grown HG6.out fun b hb=>(World.ownsRow.lt HO5.out b hb).1
    try go_wp2
    go_roundg gk
    case measure=>omega
    case rel=>
     refine ⟨j + 1,by omega,by go_num, ?_, ?_⟩
     ·rw [HTK.out,List.map_append,List.map_append]
      have:=HO6.out
      simpa [HPX.out] using this
     ·exact HB.out.trans (Fr.low (((Fr.of (P:=fun b=>WW.heap.size <= b) HB5.out).then (below1 _ _)).tr HF6.out) hsz)
   | zero=>
    obtain rfl:j = bn:=by omega
    have hlt:¬ (j:Int) < (j:Int):=by omega
    have c5:=(HX1.out.below HB.out).cell (i:=5) rfl
    have HOB:Hid (wr.ownsRow WW.heap.size 9 1 (.slice ua j uc) j ((body.map fun p=>pa5 p.1).map Value.string)):=by
     have:=HO.out
     rw [List.take_of_length_le (by rw [HBN.out];exact Nat.le_refl _)] at this
     exact this
    clear HO
    have HX2:=hm7 (HX1.out.below (HB.out.mono (Nat.le_refl _)))
    have c6:=HX2.out.cell (i:=6) rfl
    obtain ⟨W8,hW8⟩:∃ W8,W8 = wr:=⟨_,rfl⟩
    subst hW8
    go_wp2
    clear c6 c5
    go_loopg [3,5,6] tn (fun gk u i _ wr=>∃ k:Nat,k + gk = tn /\ i = .int .i64 k /\ wr.ownsRow WW.heap.size 9 1 u (j + k) ((body.map fun p=>pa5 p.1).map Value.string ++ ((tests.take k).map pe5).map Value.string) /\ Below WW.heap.size WW wr)
    case atStart=>exact ⟨0,by omega,rfl,by simpa using HOB.out,HB.out⟩
    case round=>
     obtain ⟨k,hk',rfl,ho,hb⟩:=hrel
     have HB2:=hm7 hb
     have HO2:=hm7 ho
     obtain ⟨ua2,uc2,huf, -⟩:=row7_form ho
     subst huf
     have hsz2:=hb.size
     clear hb ho HOB HB
     cases gk with
     | succ gk=>
      have hlt3:(0:Int) <= (k:Int):=by omega
      have hlt2:(k:Int) < (tn:Int):=by omega
      have c6:=(HX1.out.below HB2.out).cell (i:=6) rfl
      obtain ⟨t,ht⟩:∃ t,tests[k]? = some t:=⟨tests[k]'(by rw [HTN.out];omega),List.getElem?_eq_getElem _⟩
      have HTK:Hid (tests.take (k + 1) = tests.take k ++ [t]):=by show _ = _;rw [List.take_add_one,ht];rfl
      obtain ⟨htl,htr0,hl1,hl2⟩:=HPE.out t (List.mem_of_getElem? ht)
      have HTL:=hm7 htl
      have HTR:=hm7 htr0
      obtain ⟨o1,o2⟩:=HOQ.out t (List.mem_of_getElem? ht)
      clear htl htr0
      obtain ⟨ya2,yc2,hyf2, -,hyr2⟩:=HHT.out
      rw [HTN.out] at hyf2
      cases hyf2
      rcases hyr2 with e | ⟨tb,toff,rfl,htr⟩
      ·rw [e] at ht;simp at ht
      have HWR:=hm7 (HBW.out.trans (HB2.out.mono HBW.out.size))
      obtain ⟨q0,q1,q2,q3,q4,q5,q6⟩:=htr.2 k t ht
      have d0:=(Fr.of (P:=fun _=>False) HWR.out).cell htr.1 (fun z=>z) q0
      have d1:=(Fr.of (P:=fun _=>False) HWR.out).cell htr.1 (fun z=>z) q1
      have d2:=(Fr.of (P:=fun _=>False) HWR.out).cell htr.1 (fun z=>z) q2
      have d3:=(Fr.of (P:=fun _=>False) HWR.out).cell htr.1 (fun z=>z) q3
      have d4:=(Fr.of (P:=fun _=>False) HWR.out).cell htr.1 (fun z=>z) q4
      have d5:=(Fr.of (P:=fun _=>False) HWR.out).cell htr.1 (fun z=>z) q5
      have d6:=(Fr.of (P:=fun _=>False) HWR.out).cell htr.1 (fun z=>z) q6
      clear htr ht q0 q1 q2 q3 q4 q5 q6
      obtain ⟨op,⟨lk,ln,ls⟩,⟨rk,rn,rs⟩⟩:=t
      dsimp only at d0 d1 d2 d3 d4 d5 d6
      obtain ⟨on,hon⟩:∃ on:Nat,op = (on:Int):=⟨op.toNat,by dsimp only at o1;omega⟩
      dsimp only at o1 o2 hl1 hl2 HTL HTR
      subst hon
      have HSG:Hid (∀ X:World,Below w.heap.size w X -> X.cell? ⟨1,on,none⟩ = some (.string (sg5 (on:Int)))):=fun X hX=>sg_at (HG.out.later hX) (by omega) (by omega)
      obtain ⟨px,hpx⟩:∃ px,pe5 ⟨(on:Int),⟨lk,ln,ls⟩,⟨rk,rn,rs⟩⟩ = px:=⟨_,rfl⟩
      have HPX:=hm7 hpx
      unfold pe5 at hpx
      have hsl:=sg5_len (on:Int)
      obtain ⟨pl,hpl⟩:∃ z,pt5 ⟨lk,ln,ls⟩ = z:=⟨_,rfl⟩
      obtain ⟨pr,hpr⟩:∃ z,pt5 ⟨rk,rn,rs⟩ = z:=⟨_,rfl⟩
      obtain ⟨sg,hsg⟩:∃ z,sg5 (on:Int) = z:=⟨_,rfl⟩
      dsimp only at hpx
      rw [hpl] at HTL hl1 hpx
      rw [hpr] at HTR hl2 hpx
      rw [hsg] at HSG hsl hpx
      obtain ⟨A1,hA1⟩:∃ z,pl ++ (⟨#[32]⟩:ByteArray) = z:=⟨_,rfl⟩
      rw [hA1] at hpx
      obtain ⟨A2,hA2⟩:∃ z,A1 ++ sg = z:=⟨_,rfl⟩
      rw [hA2] at hpx
      obtain ⟨A3,hA3⟩:∃ z,A2 ++ (⟨#[32]⟩:ByteArray) = z:=⟨_,rfl⟩
      rw [hA3] at hpx
      have e32:(⟨#[32]⟩:ByteArray).size = 1:=rfl
      have s1:A1.size = pl.size + 1:=by rw [<- hA1,ByteArray.size_append];omega
      have s2:A2.size = A1.size + sg.size:=by rw [<- hA2,ByteArray.size_append]
      have s3:A3.size = A2.size + 1:=by rw [<- hA3,ByteArray.size_append];omega
      have g1:¬ 9223372036854775807 < pl.size + 1:=by omega
      have g2:¬ 9223372036854775807 < A1.size + sg.size:=by omega
      have g3:¬ 9223372036854775807 < A2.size + 1:=by omega
      have g4:¬ 9223372036854775807 < A3.size + pr.size:=by omega
      have hon0:(0:Int) <= (on:Int):=by omega
      have hon5:(on:Int) < 5:=by omega
      have hjk8:j + k <= 16:=by omega
      obtain ⟨jk,hjke⟩:∃ jk,j + k = jk:=⟨_,rfl⟩
      rw [hjke] at HO2 hjk8
      rw [hjke]
      have HJK:=hm7 hjke
      clear hjke hpl hpr hsg s1 s2 s3 e32 o1 o2 hsl hl1 hl2
      go_upto_region 12 with fail
      clear d0 d1 d2 d3 d4 d5 d6 c6
      have HTB:=hm7 (Bk.new wr #[.int .i64 (on:Int),.int .i64 lk,.int .i64 ln,.string ls,.int .i64 rk,.int .i64 rn,.string rs] 85)
      have HBA:=hm7 (below1 wr (.cells #[.int .i64 (on:Int),.int .i64 lk,.int .i64 ln,.string ls,.int .i64 rk,.int .i64 rn,.string rs] 85))
      have HOV:=hm7 (row7_below (row7_below HO2.out HBA.out) (Below.refl _ _).drew)
      have HBB:=hm7 (HB2.out.trans (HBA.out.mono hsz2))
      obtain ⟨tq,htq⟩:∃ z,wr.heap.size = z:=⟨_,rfl⟩
      rw [htq] at HTB
      rw [htq]
      clear htq
      clear HBA
      revert HTB
      revert HBB
      revert HOV
      generalize wr.alloc (.cells #[.int .i64 (on:Int),.int .i64 lk,.int .i64 ln,.string ls,.int .i64 rk,.int .i64 rn,.string rs] 85) = WA
      intro HOV HBB HTB
      refine wp_region_held_drew (S:=fun w'=>Below WW.heap.size WW w' /\ Bk w' tq #[.int .i64 (on:Int),.int .i64 lk,.int .i64 ln,.string ls,.int .i64 rk,.int .i64 rn,.string rs] 85) (by kernel_rfl) ⟨HBB.out.drew,HTB.out.below (Below.refl _ _).drew⟩ (fun hH=>?_)
      revert hH
      revert HOV
      generalize WA.drew = V
      intro HOV hH
      refine wTl 0 (.slice ua2 jk uc2) rfl (by kernel_rfl) (fun _ _ _ h=>h) rfl (fun w' h=>by have _h:=h.1;clear h;go_simp) hH ?_
      simp only [wA,wB,wC,wD]
      refine wTl 1 (.pointer (some ⟨tq,1,none⟩)) rfl (by kernel_rfl) (fun _ _ _ h=>h) rfl (fun w' h=>by have _h:=h.1;clear h;go_simp) hH ?_
      simp only [wA,wB,wC,wD]
      refine wTl 2 (.agg #[.int .i64 lk,.int .i64 ln,.string ls]) rfl (by kernel_rfl) (fun _ _ _ h=>h) rfl (fun w' h=>by have a0:=h.2.cell (i:=0) rfl;have a1:=h.2.cell (i:=1) rfl;have a2:=h.2.cell (i:=2) rfl;have a3:=h.2.cell (i:=3) rfl;have a4:=h.2.cell (i:=4) rfl;have a5:=h.2.cell (i:=5) rfl;have a6:=h.2.cell (i:=6) rfl;have _h:=h.1;clear h;go_simp) hH ?_
      simp only [wA,wB,wC,wD]
      refine wTl 5 (.pointer (some ⟨tq,0,none⟩)) rfl (by kernel_rfl) (fun _ _ _ h=>h) rfl (fun w' h=>by have _h:=h.1;clear h;go_simp) hH ?_
      simp only [wA,wB,wC,wD]
      refine wTl 6 (.int .i64 (on:Int)) rfl (by kernel_rfl) (fun _ _ _ h=>h) rfl (fun w' h=>by have a0:=h.2.cell (i:=0) rfl;have a1:=h.2.cell (i:=1) rfl;have a2:=h.2.cell (i:=2) rfl;have a3:=h.2.cell (i:=3) rfl;have a4:=h.2.cell (i:=4) rfl;have a5:=h.2.cell (i:=5) rfl;have a6:=h.2.cell (i:=6) rfl;have _h:=h.1;clear h;go_simp) hH ?_
      simp only [wA,wB,wC,wD]
      refine wTl 7 (.pointer (some ⟨1,on,none⟩)) rfl (by kernel_rfl) (fun _ _ _ h=>h) rfl (fun w' h=>by have _h:=h.1;clear h;go_simp) hH ?_
      simp only [wA,wB,wC,wD]
      refine wTl 8 (.string sg) rfl (by kernel_rfl) (fun _ _ _ h=>h) rfl (fun w' h=>by have q:=HSG.out w' (HBW.out.trans (h.1.mono HBW.out.size));have _h:=h.1;clear h;go_simp) hH ?_
      simp only [wA,wB,wC,wD]
      refine wTl 11 (.pointer (some ⟨tq,4,none⟩)) rfl (by kernel_rfl) (fun _ _ _ h=>h) rfl (fun w' h=>by have _h:=h.1;clear h;go_simp) hH ?_
      simp only [wA,wB,wC,wD]
      refine wTl 12 (.agg #[.int .i64 rk,.int .i64 rn,.string rs]) rfl (by kernel_rfl) (fun _ _ _ h=>h) rfl (fun w' h=>by have a0:=h.2.cell (i:=0) rfl;have a1:=h.2.cell (i:=1) rfl;have a2:=h.2.cell (i:=2) rfl;have a3:=h.2.cell (i:=3) rfl;have a4:=h.2.cell (i:=4) rfl;have a5:=h.2.cell (i:=5) rfl;have a6:=h.2.cell (i:=6) rfl;have _h:=h.1;clear h;go_simp) hH ?_
      simp only [wA,wB,wC,wD]
      refine wRd 3 (by kernel_rfl) rfl (fun K0 hK=>?_)
      go_simp
      refine (HTL.out _ (HBW.out.trans (hH.1.mono HBW.out.size))).mono ?_
      rintro e V1 ⟨rfl,hb⟩
      have HOV:=hm7 (row7_below HOV.out hb)
      refine hK.out _ _ ⟨hH.1.trans (hb.mono hH.1.size),hH.2.below hb⟩ (fun hH=>?_)
      clear hK K0 hb
      try simp only [wA,wB,wC,wD]
      refine wTl 4 (.string A1) rfl (by kernel_rfl) (fun _ _ _ h=>h) rfl (fun w' h=>by have _h:=h.1;clear h;go_simp) hH ?_
      simp only [wA,wB,wC,wD]
      refine wTl 9 (.string A2) rfl (by kernel_rfl) (fun _ _ _ h=>h) rfl (fun w' h=>by have _h:=h.1;clear h;go_simp) hH ?_
      simp only [wA,wB,wC,wD]
      refine wTl 10 (.string A3) rfl (by kernel_rfl) (fun _ _ _ h=>h) rfl (fun w' h=>by have _h:=h.1;clear h;go_simp) hH ?_
      simp only [wA,wB,wC,wD]
      refine wRd 13 (by kernel_rfl) rfl (fun K0 hK=>?_)
      go_simp
      refine (HTR.out _ (HBW.out.trans (hH.1.mono HBW.out.size))).mono ?_
      rintro e V2 ⟨rfl,hb⟩
      have HOV:=hm7 (row7_below HOV.out hb)
      refine hK.out _ _ ⟨hH.1.trans (hb.mono hH.1.size),hH.2.below hb⟩ (fun hH=>?_)
      clear hK K0 hb
      try simp only [wA,wB,wC,wD]
      refine wTl 14 (.string px) rfl (by kernel_rfl) (fun _ _ _ h=>h) rfl (fun w' h=>by have _h:=h.1;clear h;go_simp) hH ?_
      simp only [wA,wB,wC,wD]
      refine wRd 15 (by kernel_rfl) rfl (fun K0 hK=>?_)
      go_simp
      refine hK.out _ _ ⟨hH.1.trans ((below1 _ _).mono hH.1.size),hH.2.below (below1 _ _)⟩ (fun hH=>?_)
      clear hK K0
      try simp only [wA,wB,wC,wD]
      have HO5:=hm7 (row7_below HOV.out (below1 V2 (.cells #[.string px] 9)))
      refine wRd 16 (by kernel_rfl) rfl (fun K0 hK=>?_)
      refine stepQ6 Tryz.underlying68 Tryz.infoStr5 rfl (by decide) (by decide) rfl _ _ rfl WW.heap.size (.slice ua2 jk uc2) jk _ rfl (.slice (some ⟨V2.heap.size,0,none⟩) 1 1) 1 0 [.string px] rfl HO5.out ⟨rfl,Or.inr ⟨V2.heap.size,1,_,rfl,Nat.zero_le _,Bk.new _ _ _,Nat.le_refl _,by unfold maxLen;omega,rfl,rfl⟩⟩ (by simp [Value.oneCell']) (by omega) hH.1.size ?_
      intro v6 w6 ho6 hg6 hv6
      have HO6:=hm7 ho6
      refine hK.out _ _ ⟨hH.1.grown hg6 hH.1.size (fun b hb=>(World.ownsRow.lt HO5.out b hb).1),bk_grow hH.2 HO5.out hg6 (by decide)⟩ (fun hH=>?_)
      clear hK K0 hg6 hv6 ho6
      try simp only [wA,wB,wC,wD]
      refine wTl 17 (v6) rfl (by kernel_rfl) (fun _ _ _ h=>h) rfl (fun w' h=>by have _h:=h.1;clear h;go_simp) hH ?_
      simp only [wA,wB,wC,wD]
      refine wpAnyH_done (by kernel_rfl) ?_ _
      have HF6:=hm7 hH.1
      clear hH
      try go_wp2
      go_roundg gk
      case measure=>omega
      case rel=>
       refine ⟨k + 1,by omega,by go_num, ?_, ?_⟩
       ·rw [HTK.out,List.map_append,List.map_append, <- List.append_assoc,show j + (k + 1) = jk + 1 by rw [<- HJK.out];omega]
        have:=HO6.out
        simpa [HPX.out] using this
       ·exact HF6.out
     | zero=>
      obtain rfl:k = tn:=by omega
      have hlt2:¬ (k:Int) < (k:Int):=by omega
      have HOA:Hid (wr.ownsRow WW.heap.size 9 1 (.slice ua2 (j + k) uc2) (pbs5 (Cm.key ⟨(⟨⟨hk,hnn,hs⟩,hm,ha⟩,.slice a1 n1 cp1),body,.slice a2 j cp2,tests,.slice a3 k cp3⟩)).length ((pbs5 (Cm.key ⟨(⟨⟨hk,hnn,hs⟩,hm,ha⟩,.slice a1 n1 cp1),body,.slice a2 j cp2,tests,.slice a3 k cp3⟩)).map Value.string)):=by
       have h1:=HO2.out
       rw [List.take_of_length_le (by rw [HTN.out];exact Nat.le_refl _)] at h1
       have h2:pbs5 (Cm.key ⟨(⟨⟨hk,hnn,hs⟩,hm,ha⟩,.slice a1 n1 cp1),body,.slice a2 j cp2,tests,.slice a3 k cp3⟩) = (body.map fun p=>pa5 p.1) ++ tests.map pe5:=by
        show (fsts body).map pa5 ++ tests.map pe5 = _
        unfold fsts
        rw [List.map_map]
        rfl
       show World.ownsRow _ _ _ _ _ _ _
       rw [h2,List.length_append,List.length_map,List.length_map,HBN.out,HTN.out,List.map_append]
       exact h1
      have HLL:Hid ((pbs5 (Cm.key ⟨(⟨⟨hk,hnn,hs⟩,hm,ha⟩,.slice a1 n1 cp1),body,.slice a2 j cp2,tests,.slice a3 k cp3⟩)).length = j + k /\ ∀ x ∈ pbs5 (Cm.key ⟨(⟨⟨hk,hnn,hs⟩,hm,ha⟩,.slice a1 n1 cp1),body,.slice a2 j cp2,tests,.slice a3 k cp3⟩),x.size <= 4000):=by
       have h2:pbs5 (Cm.key ⟨(⟨⟨hk,hnn,hs⟩,hm,ha⟩,.slice a1 n1 cp1),body,.slice a2 j cp2,tests,.slice a3 k cp3⟩) = (body.map fun p=>pa5 p.1) ++ tests.map pe5:=by
        show (fsts body).map pa5 ++ tests.map pe5 = _
        unfold fsts
        rw [List.map_map]
        rfl
       show _ /\ _
       rw [h2,List.length_append,List.length_map,List.length_map,HBN.out,HTN.out]
       refine ⟨rfl,fun x hx=>?_⟩
       rcases List.mem_append.1 hx with hx | hx
       ·obtain ⟨p,hp,rfl⟩:=List.mem_map.1 hx
        exact HLA.out p (List.mem_cons_of_mem _ hp)
       ·obtain ⟨t,ht,rfl⟩:=List.mem_map.1 hx
        exact HLE.out t ht
      have HR3:=hm7 HR.out
      revert HOA HLL HR3
      generalize pbs5 (Cm.key ⟨(⟨⟨hk,hnn,hs⟩,hm,ha⟩,.slice a1 n1 cp1),body,.slice a2 j cp2,tests,.slice a3 k cp3⟩) = bs
      intro HOA HLL HR3
      have hph:=HLA.out (⟨⟨hk,hnn,hs⟩,hm,ha⟩,.slice a1 n1 cp1) (List.mem_cons_self ..)
      have HPH:=hm7 (HPA.out (⟨⟨hk,hnn,hs⟩,hm,ha⟩,.slice a1 n1 cp1) (List.mem_cons_self ..))
      dsimp only at hph HPH
      obtain ⟨ph,hphe⟩:∃ ph,pa5 ⟨⟨hk,hnn,hs⟩,hm,ha⟩ = ph:=⟨_,rfl⟩
      have HR4:Hid ((if bs = [] then ph else ph ++ ((⟨#[32,58,45,32]⟩:ByteArray) ++ jn5 bs ⟨#[44,32]⟩)) ++ (⟨#[46]⟩:ByteArray) = R):=by
       have:=HR3.out
       show _ = _
       rw [<- hphe]
       exact this
      rw [hphe] at hph HPH
      have HWR:=hm7 (HBW.out.trans (HB2.out.mono HBW.out.size))
      have HX3:=hm7 (HX1.out.below HB2.out)
      have c6:=HX3.out.cell (i:=6) rfl
      have c0:=HX3.out.cell (i:=0) rfl
      have c1:=HX3.out.cell (i:=1) rfl
      have c2:=HX3.out.cell (i:=2) rfl
      have c3:=HX3.out.cell (i:=3) rfl
      have c4:=HX3.out.cell (i:=4) rfl
      clear hphe HR HR3 HO2 HPA HPE HCK
      obtain ⟨jk,hjk⟩:∃ jk,j + k = jk:=⟨_,rfl⟩
      rw [hjk] at HOA HLL
      have hjk16:jk <= 16:=by omega
      rw [hjk]
      clear hjk
      by_cases hz:jk = 0
      ·have hbs:bs = []:=List.eq_nil_of_length_eq_zero (by rw [HLL.out.1];exact hz)
       have hR5:=HR4.out
       rw [if_pos hbs] at hR5
       subst hz
       have g1:¬ 9223372036854775807 < ph.size + 1:=by omega
       clear hbs HR4
       go_wp2_with (go_at_call 20;refine (HPH.out _ HWR.out).mono ?_;rintro e w7 ⟨rfl,hb⟩;have HB7:=hm7 (HWR.out.trans (hb.mono HWR.out.size));clear hb)
       go_ret
       exact ⟨rfl,HB7.out⟩
      ·have hbs:bs ≠ []:=fun e=>hz (by rw [<- HLL.out.1,e];rfl)
       have hR5:=HR4.out
       rw [if_neg hbs] at hR5
       have hz1:(0:Int) < (jk:Int):=by omega
       have HJX:Hid (∀ X:World,Below wr.heap.size wr X -> Calls Tryz.prog 57 #[.slice ua2 jk uc2,.string ⟨#[44,32]⟩] X fun e w'=>e = .returned (.string (jn5 bs ⟨#[44,32]⟩)) /\ Below X.heap.size X w'):=fun X hX=>joined_any bs ⟨#[44,32]⟩ _ X WW.heap.size (row7_below HOA.out hX) (fun x hx=>by have:=HLL.out.2 x hx;omega) (by rw [HLL.out.1];omega) (by decide)
       have hjl:=jn5_len 4000 bs ⟨#[44,32]⟩ HLL.out.2
       rw [HLL.out.1,show (⟨#[44,32]⟩:ByteArray).size = 2 from rfl] at hjl
       obtain ⟨jn,hjn⟩:∃ jn,jn5 bs ⟨#[44,32]⟩ = jn:=⟨_,rfl⟩
       rw [hjn] at HJX hR5 hjl
       have hjl2:jn.size <= 64032:=Nat.le_trans hjl (Nat.mul_le_mul_left _ hjk16)
       rw [<- ba_assoc] at hR5
       obtain ⟨A1,hA1⟩:∃ A,ph ++ (⟨#[32,58,45,32]⟩:ByteArray) = A:=⟨_,rfl⟩
       have s1:A1.size = ph.size + 4:=by rw [<- hA1,ByteArray.size_append];have:(⟨#[32,58,45,32]⟩:ByteArray).size = 4:=rfl;omega
       rw [hA1] at hR5
       obtain ⟨A2,hA2⟩:∃ A,A1 ++ jn = A:=⟨_,rfl⟩
       have s2:A2.size <= 70000:=by rw [<- hA2,ByteArray.size_append];omega
       rw [hA2] at hR5
       have g1:¬ 9223372036854775807 < ph.size + 4:=by omega
       have g2:¬ 9223372036854775807 < A1.size + jn.size:=by omega
       have g3:¬ 9223372036854775807 < A2.size + 1:=by omega
       have hz2:((jk:Int) == 0) = false:=by simp;omega
       clear hbs HR4 hjn hjl hjl2 s1 s2 hph
       go_wp2_with (first
        | (go_at_call 20;refine (HPH.out _ HWR.out).mono ?_;rintro e w7 ⟨rfl,hb⟩;have HB7:=hm7 hb;clear hb)
        | (go_at_call 57;refine (HJX.out _ HB7.out).mono ?_;rintro e w8 ⟨rfl,hb⟩;have HB8:=hm7 (HWR.out.trans ((HB7.out.trans (hb.mono HB7.out.size)).mono HWR.out.size));clear hb))
       go_ret
       exact ⟨rfl,HB8.out⟩
 ·have he1:(er == 0) = false:=by simp [he]
  have he2:(er != 0) = true:=by simp [he]
  rw [if_neg he] at hR
  subst hR
  go_enter Tryz.func25,Tryz.ntmps25
  go_wp2_with (go_at_call 60;refine HCK.out.mono ?_;rintro e w1 ⟨rfl,hb⟩;have HB1:=hm7 (HB0.out.trans (hb.mono HB0.out.size));clear hb)
  go_ret
  exact ⟨rfl,HB1.out⟩
end Go.Proofs.YtcpjiahdaplhlaaGreatDoor

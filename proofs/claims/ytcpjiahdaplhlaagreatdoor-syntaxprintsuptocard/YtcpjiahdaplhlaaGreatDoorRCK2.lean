import Derived.Test.YtcpjiahdaplhlaaGreatDoorSB2
import Derived.Test.YtcpjiahdaplhlaaGreatDoorCL2
import Derived.Test.YtcpjiahdaplhlaaGreatDoorCL5
import Derived.Test.YtcpjiahdaplhlaaGreatDoorB2
import Derived.Test.YtcpjiahdaplhlaaGreatDoorJ1
import Derived.Test.YtcpjiahdaplhlaaGreatDoorOQ1
import Derived.Deep.RegionHeld3
import Derived.Deep.CutRange
namespace Go.Proofs.YtcpjiahdaplhlaaGreatDoor
open Go.RowKit
attribute [local go_sem ↓] Go.wp_at_zero Go.wp_at_succ
set_option maxRecDepth 20000 in
set_option maxHeartbeats 4000000 in
theorem rprintAtom_any (a:At) (y:Value) (w:World) (h:Ts w y a.args) (hn:∀ t ∈ a.pl,N64 t.n) (hE:QOk w) :
  Calls Tryz.prog 20 #[a.v y] w fun e w'=>e = .returned (.string (pa5 a)) /\ Below w.heap.size w w':=by
 obtain ⟨ya,yc,hyf,hyl,hyr⟩:=h
 have hts:Ts w y a.args:=⟨ya,yc,hyf,hyl,hyr⟩
 obtain ⟨yn,hyn⟩:∃ yn,a.args.length = yn:=⟨_,rfl⟩
 rw [hyn] at hyf
 subst hyf
 have HB0:=hm7 (below1 w (.cells #[.int .i64 a.by_.k,.int .i64 a.by_.n,.string a.by_.s,.string a.name,.slice ya yn yc] 42))
 have HX0:=hm7 (Bk.new w #[.int .i64 a.by_.k,.int .i64 a.by_.n,.string a.by_.s,.string a.name,.slice ya yn yc] 42)
 have HCK:=hm7 (rchk_any a (.slice ya yn yc) _ (hts.later HB0.out))
 have HE:=hm7 hE
 have HTS:=hm7 hts
 have HYN:=hm7 hyn
 have HN:=hm7 hn
 obtain ⟨R,hR⟩:∃ R,pa5 a = R:=⟨_,rfl⟩
 rw [hR]
 unfold pa5 at hR
 obtain ⟨er,her⟩:∃ er,a.err = er:=⟨_,rfl⟩
 rw [her] at hR HCK
 show Calls Tryz.prog 20 #[.agg #[.int .i64 a.by_.k,.int .i64 a.by_.n,.string a.by_.s,.string a.name,.slice ya yn yc]] w _
 clear hts hyr hyl hn hE hyn
 have c0:=HX0.out.cell (i:=0) rfl
 have c1:=HX0.out.cell (i:=1) rfl
 have c2:=HX0.out.cell (i:=2) rfl
 have c3:=HX0.out.cell (i:=3) rfl
 have c4:=HX0.out.cell (i:=4) rfl
 by_cases he:er = 0
 ·subst he
  rw [if_pos rfl] at hR
  obtain ⟨hs1,hs2⟩:=err5_len her
  rw [HYN.out] at hs2
  have HPB:Hid (∀ X:World,QOk X -> Calls Tryz.prog 18 #[.agg #[.int .i64 a.by_.k,.int .i64 a.by_.n,.string a.by_.s]] X fun e w'=>e = .returned (.string (pt5 a.by_)) /\ Below X.heap.size X w'):=fun X hX=>rprintTerm_any a.by_ (HN.out _ (List.mem_cons_self ..)) X hX
  have HPO:=hm7 (po5_len a (HN.out _ (List.mem_cons_self ..)) hs1)
  have hpl:=pt5_len a.by_ (HN.out _ (List.mem_cons_self ..))
  obtain ⟨po,hpo⟩:∃ p,po5 a = p:=⟨_,rfl⟩
  rw [hpo] at hR HPO
  unfold po5 at hpo
  go_enter Tryz.func20,Tryz.ntmps20
  go_upto_region 4 with (go_at_call 56;refine HCK.out.mono ?_;rintro e w1 ⟨rfl,hb⟩;have HB1:=hm7 (HB0.out.trans (hb.mono HB0.out.size));have HX1:=hm7 (HX0.out.below hb);clear hb c0 c1 c2 c3 c4;have c0:=HX1.out.cell (i:=0) rfl;have c1:=HX1.out.cell (i:=1) rfl;have c2:=HX1.out.cell (i:=2) rfl;have c3:=HX1.out.cell (i:=3) rfl;have c4:=HX1.out.cell (i:=4) rfl)
  go_upto_if 14 with fail
  go_cut [3] from 14 to 20 (fun s3 wx=>s3 = .string po /\ Below w1.heap.size w1 wx)
  case first=>
   by_cases hk:a.by_.k = 0
   ·rw [if_pos hk] at hpo
    have hk1:(a.by_.k == 0) = true:=by simp [hk]
    have hk2:(a.by_.k != 0) = false:=by simp [hk]
    subst hpo
    go_wp2
    go_meet
    case rel=>exact ⟨rfl,Below.refl _ _⟩
   ·rw [if_neg hk] at hpo
    have hk1:(a.by_.k == 0) = false:=by simp [hk]
    have hk2:(a.by_.k != 0) = true:=by simp [hk]
    obtain ⟨pb,hpb⟩:∃ p,pt5 a.by_ = p:=⟨_,rfl⟩
    rw [hpb] at hpo hpl HPB
    obtain ⟨A0,hA0⟩:∃ A,pb ++ (⟨#[32,115,97,121,115,32]⟩:ByteArray) = A:=⟨_,rfl⟩
    have s0:A0.size <= 306:=by rw [<- hA0,ByteArray.size_append];have:(⟨#[32,115,97,121,115,32]⟩:ByteArray).size = 6:=rfl;omega
    rw [hA0] at hpo
    have g01:¬ 9223372036854775807 < pb.size + 6:=by omega
    have g02:¬ 9223372036854775807 < A0.size + a.name.size:=by omega
    clear s0 hpb
    go_wp2_with (go_at_call 18;refine (HPB.out _ (HE.out.later HB1.out)).mono ?_;rintro e WW ⟨rfl,hb⟩;have HBW:=hm7 hb;clear hb)
    go_meet
    case rel=>exact ⟨rfl,HBW.out⟩
  case rest=>
  obtain ⟨rfl,hbx⟩:=hcut
  have HBW:=hm7 (HB1.out.trans (hbx.mono HB1.out.size))
  have HX2:=hm7 (HX1.out.below hbx)
  clear hbx c0 c1 c2 c3 c4
  have c4:=HX2.out.cell (i:=4) rfl
  by_cases hz:yn = 0
  ·have hne:a.args = []:=List.eq_nil_of_length_eq_zero (by rw [HYN.out];exact hz)
   rw [if_pos hne] at hR
   subst hR
   subst hz
   go_wp2
   go_ret
   exact ⟨rfl,HBW.out⟩
  ·have hz2:((yn:Int) == 0) = false:=by simp;omega
   have HNE:Hid (a.args ≠ []):=fun e=>hz (by rw [<- HYN.out,e];rfl)
   rw [if_neg HNE.out] at hR
   have HPT:Hid (∀ t ∈ a.args,∀ X:World,QOk X -> Calls Tryz.prog 18 #[t.v] X fun e w'=>e = .returned (.string (pt5 t)) /\ Below X.heap.size X w'):=fun t ht X hX=>rprintTerm_any t (HN.out _ (List.mem_cons_of_mem _ ht)) X hX
   have HTW:=hm7 (HTS.out.later HBW.out)
   have HR:=hm7 hR
   clear hR
   go_wp2
   clear c4
   go_loopg [4,5] yn (fun gk u i wr=>∃ j:Nat,j + gk = yn /\ i = .int .i64 j /\ wr.ownsRow wc.heap.size 9 1 u j (((a.args.take j).map pt5).map Value.string) /\ Below wc.heap.size wc wr)
   case atStart=>exact ⟨0,by omega,rfl,World.ownsRow_nil _ _ _ _,Below.refl _ _⟩
   case round=>
    obtain ⟨j,hj,rfl,ho,hb⟩:=hrel
    have HB:=hm7 hb
    have HO:=hm7 ho
    obtain ⟨ua,uc,huf, -⟩:=row7_form ho
    subst huf
    have hsz:=hb.size
    clear hb ho
    have c4:=(HX2.out.below HB.out).cell (i:=4) rfl
    cases gk with
    | succ gk=>
     have hlt0:(0:Int) <= (j:Int):=by omega
     have hlt:(j:Int) < (yn:Int):=by omega
     have hj8:j <= 8:=by omega
     obtain ⟨t,ht⟩:∃ t,a.args[j]? = some t:=⟨a.args[j]'(by rw [HYN.out];omega),List.getElem?_eq_getElem _⟩
     have HTK:Hid (a.args.take (j + 1) = a.args.take j ++ [t]):=by show _ = _;rw [List.take_add_one,ht];rfl
     have HTM:=hm7 (HPT.out t (List.mem_of_getElem? ht))
     obtain ⟨ya2,yc2,hyf2, -,hyr2⟩:=HTW.out
     rw [HYN.out] at hyf2
     cases hyf2
     rcases hyr2 with e | ⟨tb,toff,rfl,htr⟩
     ·exact absurd e HNE.out
     have d0:=(Fr.of (P:=fun _=>False) HB.out).cell htr.1 (fun z=>z) (htr.2 j t ht).1
     have d1:=(Fr.of (P:=fun _=>False) HB.out).cell htr.1 (fun z=>z) (htr.2 j t ht).2.1
     have d2:=(Fr.of (P:=fun _=>False) HB.out).cell htr.1 (fun z=>z) (htr.2 j t ht).2.2
     have HEW:=hm7 (HE.out.later (HBW.out.trans (HB.out.mono HBW.out.size)))
     clear htr ht
     obtain ⟨tk,tn,ts⟩:=t
     dsimp only at d0 d1 d2
     obtain ⟨px,hpx⟩:∃ px,pt5 ⟨tk,tn,ts⟩ = px:=⟨_,rfl⟩
     rw [hpx] at HTM
     have HPX:=hm7 hpx
     clear hpx
     go_wp2_with (first
      | (go_at_call 18;refine (HTM.out _ HEW.out).mono ?_;rintro e w5 ⟨rfl,hb⟩;have HB5:=hm7 hb;clear hb d0 d1 d2 c4;have HO5:=hm7 (row7_below (row7_below HO.out HB5.out) (below1 w5 (.cells #[.string px] 9)));have hsz5:=HB5.out.size)
      | (at_builtin;refine gapp5 Tryz.underlying68 Tryz.infoStr5 rfl (by decide) (by decide) rfl _ _ rfl wc.heap.size (.slice ua j uc) j _ rfl HO5.out w5.heap.size #[.string px] rfl (Bk.new _ _ _) rfl (by simp [Value.oneCell']) (by omega) (by simp;omega) ?_;intro g6 q6 w6 ho6 hg6 hv6 hl6;have HO6:=hm7 ho6;have HG6:=hm7 hg6;clear ho6 hg6 hv6 hl6))
     have HF6:Hid (Fr (fun b=>wc.heap.size <= b) (w5.alloc (.cells #[.string px] 9)) w6):=Fr.grown HG6.out fun b hb=>(World.ownsRow.lt HO5.out b hb).1
     try go_wp2
     go_roundg gk
     case measure=>omega
     case rel=>
      refine ⟨j + 1,by omega,by go_num, ?_, ?_⟩
      ·rw [HTK.out,List.map_append,List.map_append]
       have:=HO6.out
       simpa [HPX.out] using this
      ·exact HB.out.trans (Fr.low (((Fr.of (P:=fun b=>wc.heap.size <= b) HB5.out).then (below1 _ _)).tr HF6.out) hsz)
    | zero=>
     obtain rfl:j = yn:=by omega
     have hlt:¬ (j:Int) < (j:Int):=by omega
     have HO2:Hid (wr.ownsRow wc.heap.size 9 1 (.slice ua j uc) (a.args.map pt5).length ((a.args.map pt5).map Value.string)):=by
      have:=HO.out
      rw [List.take_of_length_le (by rw [HYN.out];exact Nat.le_refl _)] at this
      show World.ownsRow _ _ _ _ _ _ _
      rw [List.length_map,HYN.out]
      exact this
     have HJL:=hm7 (jn5_len 300 (a.args.map pt5) ⟨#[44,32]⟩ (fun x hx=>by
      obtain ⟨t,ht,rfl⟩:=List.mem_map.1 hx
      exact pt5_len t (HN.out t (List.mem_cons_of_mem _ ht))))
     have HJ:=hm7 (joined_any (a.args.map pt5) ⟨#[44,32]⟩ _ wr _ HO2.out (fun x hx=>by
      obtain ⟨t,ht,rfl⟩:=List.mem_map.1 hx
      have:=pt5_len t (HN.out t (List.mem_cons_of_mem _ ht))
      omega) (by rw [List.length_map,HYN.out];omega) (by decide))
     obtain ⟨jn,hjn⟩:∃ jn,jn5 (a.args.map pt5) ⟨#[44,32]⟩ = jn:=⟨_,rfl⟩
     have hjl:jn.size <= 3000:=by
      have:=HJL.out
      rw [hjn,List.length_map,HYN.out,show (⟨#[44,32]⟩:ByteArray).size = 2 from rfl] at this
      have h5:(300 + 2) * j <= 302 * 8:=Nat.mul_le_mul_left _ hs2
      omega
     have hR2:=HR.out
     rw [hjn] at HJ hR2
     have hpl2:=HPO.out
     obtain ⟨A1,hA1⟩:∃ A,po ++ (⟨#[40]⟩:ByteArray) = A:=⟨_,rfl⟩
     have s1:A1.size <= 371:=by rw [<- hA1,ByteArray.size_append];have:(⟨#[40]⟩:ByteArray).size = 1:=rfl;omega
     rw [hA1] at hR2
     obtain ⟨A2,hA2⟩:∃ A,A1 ++ jn = A:=⟨_,rfl⟩
     have s2:A2.size <= 3371:=by rw [<- hA2,ByteArray.size_append];omega
     rw [hA2] at hR2
     have g1:¬ 9223372036854775807 < po.size + 1:=by omega
     have g2:¬ 9223372036854775807 < A1.size + jn.size:=by omega
     have g3:¬ 9223372036854775807 < A2.size + 1:=by omega
     clear s1 s2 hpl2 hjl hjn
     go_wp2_with (go_at_call 57;refine HJ.out.mono ?_;rintro e w7 ⟨rfl,hb⟩;have HB7:=hm7 ((HBW.out.trans (HB.out.mono HBW.out.size)).trans (hb.mono (Nat.le_trans HBW.out.size hsz)));clear hb)
     go_ret
     exact ⟨rfl,HB7.out⟩
 ·have he1:(er == 0) = false:=by simp [he]
  have he2:(er != 0) = true:=by simp [he]
  rw [if_neg he] at hR
  subst hR
  clear her
  go_enter Tryz.func20,Tryz.ntmps20
  go_wp2_with (go_at_call 56;refine HCK.out.mono ?_;rintro e w1 ⟨rfl,hb⟩;have HB1:=hm7 (HB0.out.trans (hb.mono HB0.out.size));clear hb)
  go_ret
  exact ⟨rfl,HB1.out⟩
end Go.Proofs.YtcpjiahdaplhlaaGreatDoor
namespace Go.Proofs.YtcpjiahdaplhlaaGreatDoor
open Go.RowKit
set_option maxHeartbeats 2000000 in
theorem rcheck_any (t:Te) (w:World) :
  Calls Tryz.prog 100 #[t.v] w fun e w'=>e = .returned (.int .i64 (if t.ok then 0 else 32)) /\ Below w.heap.size w w':=by
 obtain ⟨op,⟨k,n,s⟩,⟨k',n',s'⟩⟩:=t
 obtain ⟨c1,h1⟩:∃ c,Tm.con ⟨k,n,s⟩ = c:=⟨_,rfl⟩
 obtain ⟨c2,h2⟩:∃ c,Tm.con ⟨k',n',s'⟩ = c:=⟨_,rfl⟩
 obtain ⟨v1,h3⟩:∃ c,Tm.var ⟨k,n,s⟩ = c:=⟨_,rfl⟩
 obtain ⟨v2,h4⟩:∃ c,Tm.var ⟨k',n',s'⟩ = c:=⟨_,rfl⟩
 obtain ⟨r,hr⟩:∃ r:Int,(if Te.ok ⟨op,⟨k,n,s⟩,⟨k',n',s'⟩⟩ then 0 else 32) = r:=⟨_,rfl⟩
 rw [hr]
 have HR:Hid ((if decide (1 <= op /\ op <= 4) && ((c1 || v1) && (c2 || v2)) then (0:Int) else 32) = r):=by rw [<- hr, <- h1, <- h2, <- h3, <- h4];rfl
 have H1:Hid (Tm.con ⟨k,n,s⟩ = c1):=h1
 have H2:Hid (Tm.con ⟨k',n',s'⟩ = c2):=h2
 have H3:Hid (Tm.var ⟨k,n,s⟩ = v1):=h3
 have H4:Hid (Tm.var ⟨k',n',s'⟩ = v2):=h4
 clear h1 h2 h3 h4 hr
 have ho:op < 1 ∨ 4 < op ∨ (1 <= op /\ op <= 4):=by omega
 rcases ho with ho | ho | ⟨ho1,ho2⟩ <;> cases c1 <;> cases c2 <;> cases v1 <;> cases v2
 all_goals
  go_enter Tryz.func100,Tryz.ntmps100
  go_wp2_with (first
   | (go_at_call 51;refine (rcon_any ⟨_,_,_⟩ _).mono ?_;first
     | (rw [H1.out];rintro e w1 ⟨rfl,hb1⟩;have C1:=(Box1.start _ _ _).later hb1;obtain ⟨a0,a1,a2,a3,a4,a5,a6⟩:=C1.cells7;have BB:Hid (Box1 _ _ _ _):=C1;clear C1)
     | (rw [H2.out];rintro e w1 ⟨rfl,hb1⟩;have C1:=(Hid.out BB).later hb1;clear a0 a1 a2 a3 a4 a5 a6 BB;obtain ⟨a0,a1,a2,a3,a4,a5,a6⟩:=C1.cells7;have BB:Hid (Box1 _ _ _ _):=C1;clear C1))
   | (go_at_call 49;refine (rvar_any ⟨_,_,_⟩ _).mono ?_;(first | rw [H3.out] | rw [H4.out]);rintro e w1 ⟨rfl,hb1⟩;have C1:=(Hid.out BB).later hb1;clear a0 a1 a2 a3 a4 a5 a6 BB;obtain ⟨a0,a1,a2,a3,a4,a5,a6⟩:=C1.cells7;have BB:Hid (Box1 _ _ _ _):=C1;clear C1))
  go_ret
  exact ⟨ret_i (by rw [<- HR.out];first | (rw [decide_eq_false (by omega)];rfl) | (rw [decide_eq_true (by omega)];rfl)),(Hid.out BB).2⟩
end Go.Proofs.YtcpjiahdaplhlaaGreatDoor
namespace Go.Proofs.YtcpjiahdaplhlaaGreatDoor
open Go.RowKit
attribute [local go_sem ↓] Go.wp_at_zero Go.wp_at_succ
theorem As.ts_ {w:World} {v:Value} {l:List (At × Value)} (h:As w v l):∀ x ∈ l,Ts w x.2 x.1.args:=by
 obtain ⟨_,_,_,_,_,h⟩:=h
 exact h
set_option maxRecDepth 20000 in
set_option maxHeartbeats 2000000 in
theorem rcheckC_any (c:Cm) (w:World) (h:c.ok w) (hh:TsP w c.head.2 c.head.1.args) (hp:∀ x ∈ c.body,TsP w x.2 x.1.args) (hbp:AsP w c.bv c.body) :
  Calls Tryz.prog 60 #[c.v] w fun e w'=>e = .returned (.int .i64 c.chk) /\ Below w.heap.size w w':=by
 obtain ⟨⟨a,hn,cap,h1⟩,⟨a',cap',h2⟩,⟨a'',cap'',h3⟩, -, -⟩:=h.shape
 have C1:Hid (long c = true -> c.chk = 31):=fun e=>chk_1 e
 have C2:Hid (long c = false -> aErr c.atoms ≠ 0 -> c.chk = aErr c.atoms):=fun e e2=>chk_2 e e2
 have C3:Hid (long c = false -> aErr c.atoms = 0 -> badT c = true -> c.chk = 32):=fun e e2 e3=>chk_3 e e2 e3
 have C4:Hid (long c = false -> aErr c.atoms = 0 -> badT c = false -> c.head.1.by_.k = 3 -> c.chk = 33):=fun e e2 e3 e4=>chk_4 e e2 e3 ((head_kind (aErr_all e2 c.head (by simp [Cm.atoms]))).2 e4)
 have C5:Hid (long c = false -> aErr c.atoms = 0 -> badT c = false -> ¬ c.head.1.by_.k = 3 -> (∃ t ∈ disT (c.head.1.pl ++ tls c.tests),¬ t ∈ flt c.body) -> c.chk = 34):=fun e e2 e3 e4 e5=>chk_5 e e2 e3 (by
  cases hv:c.head.1.by_.var
  ·rfl
  ·exact absurd ((head_kind (aErr_all e2 c.head (by simp [Cm.atoms]))).1 hv) e4) (unb_ref.2 e5)
 have C6:Hid (long c = false -> aErr c.atoms = 0 -> badT c = false -> ¬ c.head.1.by_.k = 3 -> (∀ t ∈ disT (c.head.1.pl ++ tls c.tests),t ∈ flt c.body) -> (∃ (i:Nat) (t:Tm),(disT c.terms)[i]? = some t /\ t.n ≠ i) -> c.chk = 35):=fun e e2 e3 e4 e5 e6=>chk_6 e e2 e3 (by
  cases hv:c.head.1.by_.var
  ·rfl
  ·exact absurd ((head_kind (aErr_all e2 c.head (by simp [Cm.atoms]))).1 hv) e4) (by
  cases hu:unb c
  ·rfl
  ·obtain ⟨t,ht,hn⟩:=unb_ref.1 hu
   exact absurd (e5 t ht) hn) (by
  cases hu:mis 0 c.vars
  ·obtain ⟨i,t,ht,hn⟩:=e6
   exact absurd (mis_ref.1 hu i t ht) hn
  ·rfl)
 have C7:Hid (long c = false -> aErr c.atoms = 0 -> badT c = false -> ¬ c.head.1.by_.k = 3 -> (∀ t ∈ disT (c.head.1.pl ++ tls c.tests),t ∈ flt c.body) -> (∀ (i:Nat) (t:Tm),(disT c.terms)[i]? = some t -> t.n = i) -> c.chk = 0):=fun e e2 e3 e4 e5 e6=>chk_7 e e2 e3 (by
  cases hv:c.head.1.by_.var
  ·rfl
  ·exact absurd ((head_kind (aErr_all e2 c.head (by simp [Cm.atoms]))).1 hv) e4) (by
  cases hu:unb c
  ·rfl
  ·obtain ⟨t,ht,hn⟩:=unb_ref.1 hu
   exact absurd (e5 t ht) hn) (mis_ref.2 e6)
 have HLE:Hid (long c = false -> aErr c.atoms = 0 -> c.head.1.pl.length <= 9 /\ (flt c.body).length <= 72 /\ (tls c.tests).length <= 16):=fun e e2=>by
  unfold long at e
  simp only [Bool.or_eq_false_iff,decide_eq_false_iff_not] at e
  have hall:=aErr_all e2
  refine ⟨?_, ?_,by rw [tls_len];omega⟩
  ·have:=(err_zero' (hall c.head (by simp [Cm.atoms]))).2.1
   simp [At.pl];omega
  ·have e3:(flt c.body).length <= 9 * c.body.length:=by
    have hx:∀ x ∈ c.body,x.1.pl.length <= 9:=fun x hx=>by
     have:=(err_zero' (hall x (by simp [Cm.atoms,hx]))).2.1
     simp [At.pl];omega
    generalize c.body = l at hx
    induction l with
    | nil=>simp [flt]
    | cons x l ih=>
     have h1:=hx x (by simp)
     have h2:=ih fun y hy=>hx y (by simp [hy])
     unfold flt at h2 ⊢
     rw [List.flatMap_cons,List.length_append,List.length_cons];omega
   omega
 have HTQ:Hid (c.terms = c.head.1.pl ++ flt c.body ++ tls c.tests):=c.terms_eq
 have hAT:Cm.atoms c = c.head :: c.body:=rfl
 have HBX0:Hid (Bx (w.alloc (.cells c.cs 53)) w.heap.size c):=Bx.new h
 have HOK:Hid (c.ok w /\ TsP w c.head.2 c.head.1.args /\ (∀ x ∈ c.body,TsP w x.2 x.1.args) /\ AsP w c.bv c.body):=⟨h,hh,hp,hbp⟩
 have HLG:Hid (long c = (decide (8 < c.body.length) || decide (8 < c.tests.length))):=rfl
 obtain ⟨R,hR⟩:∃ R,c.chk = R:=⟨_,rfl⟩
 rw [hR] at C1 C2 C3 C4 C5 C6 C7
 rw [hR]
 obtain ⟨LG,hLG⟩:∃ b,long c = b:=⟨_,rfl⟩
 rw [hLG] at C1 C2 C3 C4 C5 C6 C7 HLG HLE
 rw [hAT] at C2 C3 C4 C5 C6 C7 HLE
 have HB3:Hid (badT c = c.tests.any fun t=>!t.ok):=rfl
 obtain ⟨BT_,hBT⟩:∃ b,badT c = b:=⟨_,rfl⟩
 rw [hBT] at C3 C4 C5 C6 C7 HB3
 clear h hh hp hbp hR hLG hAT hBT
 have HTE2:Hid (∀ X:World,Below w.heap.size w X -> c.terms.length <= 97 -> Calls Tryz.prog 106 #[c.v] X fun e w'=>∃ v',e = .returned v' /\ OwnT w' X.heap.size v' c.terms /\ Below X.heap.size X w'):=fun X hX hl=>terms3_any c X (HOK.out.1.later hX) (HOK.out.2.1.later hX) (fun x hx=>(HOK.out.2.2.1 x hx).later hX) (by omega)
 have HHD0:Hid (∀ X:World,Below w.heap.size w X -> c.head.1.pl.length <= 9 -> Calls Tryz.prog 102 #[c.head.1.v c.head.2] X fun e w'=>∃ v',e = .returned v' /\ OwnT w' X.heap.size v' c.head.1.pl /\ Below X.heap.size X w'):=fun X hX hl=>atomTerms_any _ _ X (HOK.out.2.1.later hX) (by simp [At.pl] at hl;omega)
 have HBO0:Hid (∀ X:World,Below w.heap.size w X -> (flt c.body).length <= 72 -> Calls Tryz.prog 101 #[c.v] X fun e w'=>∃ v',e = .returned v' /\ OwnT w' X.heap.size v' (flt c.body) /\ Below X.heap.size X w'):=fun X hX hl=>bodyTerms_any c X (HOK.out.1.later hX) (fun x hx=>(HOK.out.2.2.1 x hx).later hX) (by omega)
 have HTT0:Hid (∀ X:World,Below w.heap.size w X -> (tls c.tests).length <= 16 -> Calls Tryz.prog 103 #[c.v] X fun e w'=>∃ v',e = .returned v' /\ OwnT w' X.heap.size v' (tls c.tests) /\ Below X.heap.size X w'):=fun X hX hl=>testTerms_any c X (HOK.out.1.later hX) (by rw [tls_len] at hl;omega)
 generalize c.terms = TT at C6 C7 HTQ HTE2
 obtain ⟨⟨⟨⟨k,m,s⟩,nm,ls⟩,hx⟩,body,bv,tests,tv⟩:=c
 simp only at h1 h2 h3 C2 C3 C4 C5 C6 C7 HLE HTQ HLG HB3 HHD0 HBO0 HTT0
 subst h1 h2 h3
 generalize hPH:At.pl ⟨⟨k,m,s⟩,nm,ls⟩ = PH at C5 C6 C7 HLE HTQ HHD0
 generalize hPB:flt body = PB at C5 C6 C7 HLE HTQ HBO0
 generalize hPT:tls tests = PT at C5 C6 C7 HLE HTQ HTT0
 clear hPH hPB hPT
 by_cases z1:8 < body.length
 ·have hz:(8:Int) < (body.length:Int):=by omega
  have HR:Hid (R = 31):=C1.out (by rw [HLG.out,decide_eq_true z1];rfl)
  clear C1 C2 C3 C4 C5 C6 C7 z1
  go_enter Tryz.func60,Tryz.ntmps60
  go_wp2
  go_ret
  exact ⟨by rw [HR.out];rfl,below1 _ _⟩
 by_cases z2:8 < tests.length
 ·have hz:¬ (8:Int) < (body.length:Int):=by omega
  have hz2:(8:Int) < (tests.length:Int):=by omega
  have HR:Hid (R = 31):=C1.out (by rw [HLG.out,decide_eq_true z2];simp)
  clear C1 C2 C3 C4 C5 C6 C7 z1 z2
  go_enter Tryz.func60,Tryz.ntmps60
  go_wp2
  go_ret
  exact ⟨by rw [HR.out];rfl,below1 _ _⟩
 have hlg:LG = false:=by rw [HLG.out,decide_eq_false z1,decide_eq_false z2];rfl
 have C2:Hid _:=C2.out hlg
 have C3:Hid _:=C3.out hlg
 have C4:Hid _:=C4.out hlg
 have C5:Hid _:=C5.out hlg
 have C6:Hid _:=C6.out hlg
 have C7:Hid _:=C7.out hlg
 have HLE:Hid _:=HLE.out hlg
 have hz:¬ (8:Int) < (body.length:Int):=by omega
 have hz2:¬ (8:Int) < (tests.length:Int):=by omega
 have hb8:body.length <= 8:=by omega
 have ht8:tests.length <= 8:=by omega
 clear hlg C1 HLG z1 z2
 have HAC:Hid (CBlk ((w.alloc (.cells #[.int .i64 k,.int .i64 m,.string s,.string nm,.slice a hn cap,.slice a' body.length cap',.slice a'' tests.length cap''] 53)).alloc (.cells #[.int .i64 k,.int .i64 m,.string s,.string nm,.slice a hn cap] 42)) (w.heap.size + 1) #[.int .i64 k,.int .i64 m,.string s,.string nm,.slice a hn cap] 42):=by
  have:=CBlk.new (w.alloc (.cells #[.int .i64 k,.int .i64 m,.string s,.string nm,.slice a hn cap,.slice a' body.length cap',.slice a'' tests.length cap''] 53)) #[.int .i64 k,.int .i64 m,.string s,.string nm,.slice a hn cap] 42
  rw [show (w.alloc (.cells #[.int .i64 k,.int .i64 m,.string s,.string nm,.slice a hn cap,.slice a' body.length cap',.slice a'' tests.length cap''] 53)).heap.size = w.heap.size + 1 by simp] at this
  exact this
 have HBX1:Hid (Bx ((w.alloc (.cells #[.int .i64 k,.int .i64 m,.string s,.string nm,.slice a hn cap,.slice a' body.length cap',.slice a'' tests.length cap''] 53)).alloc (.cells #[.int .i64 k,.int .i64 m,.string s,.string nm,.slice a hn cap] 42)) w.heap.size ⟨(⟨⟨k,m,s⟩,nm,ls⟩,.slice a hn cap),body,.slice a' body.length cap',tests,.slice a'' tests.length cap''⟩):=HBX0.out.later (below1 _ _)
 have HW1:Hid (Below w.heap.size w ((w.alloc (.cells #[.int .i64 k,.int .i64 m,.string s,.string nm,.slice a hn cap,.slice a' body.length cap',.slice a'' tests.length cap''] 53)).alloc (.cells #[.int .i64 k,.int .i64 m,.string s,.string nm,.slice a hn cap] 42)) /\ ((w.alloc (.cells #[.int .i64 k,.int .i64 m,.string s,.string nm,.slice a hn cap,.slice a' body.length cap',.slice a'' tests.length cap''] 53)).alloc (.cells #[.int .i64 k,.int .i64 m,.string s,.string nm,.slice a hn cap] 42)).heap.size = w.heap.size + 2):=⟨below2 _ _ _,by simp⟩
 go_enter Tryz.func60,Tryz.ntmps60
 go_upto_region 4 with fail
 revert HAC HBX1 HW1
 generalize (w.alloc (.cells #[.int .i64 k,.int .i64 m,.string s,.string nm,.slice a hn cap,.slice a' body.length cap',.slice a'' tests.length cap''] 53)).alloc (.cells #[.int .i64 k,.int .i64 m,.string s,.string nm,.slice a hn cap] 42) = W1
 intro HAC HBX1 HW1
 obtain ⟨c0,c1,c2,c3,c4,c5,c6⟩:=cseven HBX1.out.b
 go_upto_region 5 with (at_builtin;go_loud (refine aapp_list rfl _ _ rfl (w.heap.size + 1) _ [(⟨⟨k,m,s⟩,nm,ls⟩,.slice a hn cap)] (by rfl) (ownA_one (y:=(⟨⟨k,m,s⟩,nm,ls⟩,.slice a hn cap)) HAC.out (Nat.le_refl _)) _ body (by rfl) (HOK.out.2.2.2.later HW1.out.1) (fun z hz u hu=>by obtain ⟨za,zc,ze⟩:=(HOK.out.2.2.1 z hz).form;obtain ⟨z1,z2⟩:=z;simp only at ze;subst ze;exact acell_one _ _ _ _ u hu) (by simp;omega) (by have:=HW1.out.2;omega) ?_;intro v' w2 hown hb;obtain ⟨sa,sc,hsf⟩:=hown.form;rw [List.singleton_append,List.length_cons] at hsf;subst hsf;have hb2:Below w.heap.size w w2:=HW1.out.1.trans (hb.mono (by omega));have HAS:Hid (As w2 (.slice sa (body.length + 1) sc) ((⟨⟨k,m,s⟩,nm,ls⟩,.slice a hn cap) :: body)):=OwnA.as hown (by simp;omega) (fun x hx=>by rcases List.mem_cons.1 hx with hx | hx;(subst hx;exact HOK.out.1.h.later hb2);(exact (HOK.out.1.b.ts_ x hx).later hb2));have HX2:Hid (Bx w2 w.heap.size ⟨(⟨⟨k,m,s⟩,nm,ls⟩,.slice a hn cap),body,.slice a' body.length cap',tests,.slice a'' tests.length cap''⟩):=⟨(hb.block _ (by omega)).trans HBX1.out.b,HOK.out.1.later hb2⟩;have HW2:Hid (Below w.heap.size w w2):=hb2;clear hown hb hb2 c0 c1 c2 c3 c4 c5 c6))
 clear HAC HBX1 HW1 HBX0
 go_wp2
 go_loopg [4] (body.length + 1) (fun g i wr=>∃ j:Nat,j + g = body.length + 1 /\ i = .int .i64 j /\ aErr ((⟨⟨k,m,s⟩,nm,ls⟩,.slice a hn cap) :: body) = aErr (((⟨⟨k,m,s⟩,nm,ls⟩,.slice a hn cap) :: body).drop j) /\ Below w2.heap.size w2 wr)
 case atStart=>exact ⟨0,by omega,rfl,rfl,Below.refl _ _⟩
 case round=>
 obtain ⟨j,hj,rfl,hae,hb⟩:=hrel
 have HAE:Hid (aErr ((⟨⟨k,m,s⟩,nm,ls⟩,.slice a hn cap) :: body) = aErr (((⟨⟨k,m,s⟩,nm,ls⟩,.slice a hn cap) :: body).drop j)):=hae
 have HBr:Hid (Below w2.heap.size w2 wr):=hb
 clear hae
 cases gk with
 | succ g=>
  have hlt:(j:Int) < (body.length:Int) + 1:=by omega
  have j0:(0:Int) <= (j:Int):=by omega
  obtain ⟨b1,o1,t1,ex,ht1,hz1,⟨p0,p1,p2,p3,p4⟩,hs1⟩:=(HAS.out.later hb).get_ (j:=j) (by omega)
  have HC:Hid (∀ X:World,X = wr -> Calls Tryz.prog 56 #[t1.1.v t1.2] X fun e w'=>e = .returned (.int .i64 t1.1.err) /\ Below X.heap.size X w'):=fun X hX=>by rw [hX];exact rchk_any t1.1 t1.2 wr hs1
  have HD1:Hid (t1.1.err = 0 -> aErr (((⟨⟨k,m,s⟩,nm,ls⟩,.slice a hn cap) :: body).drop j) = aErr (((⟨⟨k,m,s⟩,nm,ls⟩,.slice a hn cap) :: body).drop (j + 1))):=fun e=>aErr_drop ht1 e
  have HD2:Hid (t1.1.err ≠ 0 -> aErr (((⟨⟨k,m,s⟩,nm,ls⟩,.slice a hn cap) :: body).drop j) = t1.1.err):=fun e=>aErr_hit2 ht1 e
  obtain ⟨ax,cx,hax, -⟩:=hs1
  clear ht1 hz1 hb
  obtain ⟨t,vt⟩:=t1
  simp only at hax p0 p1 p2 p3 p4 HC HD1 HD2
  generalize hER:t.err = ER at HC HD1 HD2
  clear hER
  obtain ⟨⟨tk,tn,ts⟩,tm,ta⟩:=t
  simp only at hax p0 p1 p2 p3 p4
  subst hax ex
  go_upto_region 9 with (go_at_call 56;refine (HC.out _ rfl).mono ?_;rintro e w3 ⟨rfl,hb3⟩;have HB3':Hid (Below w2.heap.size w2 w3):=below_step HBr.out hb3;clear hb3 p0 p1 p2 p3 p4)
  by_cases he:ER = 0
  ·have hq:(ER != 0) = false:=by rw [he];rfl
   have HN:Hid (aErr ((⟨⟨k,m,s⟩,nm,ls⟩,.slice a hn cap) :: body) = aErr (((⟨⟨k,m,s⟩,nm,ls⟩,.slice a hn cap) :: body).drop (j + 1))):=HAE.out.trans (HD1.out he)
   clear he
   go_wp2
   go_roundg g
   case measure=>omega
   case rel=>exact ⟨j + 1,by omega,by go_num,HN.out,HB3'.out⟩
  ·have hq:(ER != 0) = true:=by simp [he]
   have HR:Hid (R = ER):=by
    have e:=HAE.out.trans (HD2.out he)
    have:=C2.out (by rw [e];exact he)
    rw [e] at this;exact this
   clear he
   go_wp2
   go_ret
   exact ⟨by rw [HR.out];rfl,below_step HW2.out HB3'.out⟩
 | zero=>
 have hz3:¬ (j:Int) < (body.length:Int) + 1:=by omega
 have hAE0:aErr ((⟨⟨k,m,s⟩,nm,ls⟩,.slice a hn cap) :: body) = 0:=by
  rw [HAE.out,List.drop_eq_nil_of_le (by simp;omega)];rfl
 have C3:Hid _:=C3.out hAE0
 have C4:Hid _:=C4.out hAE0
 have C5:Hid _:=C5.out hAE0
 have C6:Hid _:=C6.out hAE0
 have C7:Hid _:=C7.out hAE0
 have HLE:Hid _:=HLE.out hAE0
 have HX3:Hid (Bx wr w.heap.size ⟨(⟨⟨k,m,s⟩,nm,ls⟩,.slice a hn cap),body,.slice a' body.length cap',tests,.slice a'' tests.length cap''⟩):=HX2.out.later hb
 have HW3:Hid (Below w.heap.size w wr):=below_step HW2.out hb
 clear C2 hAE0 hb HAE HBr
 obtain ⟨c0,c1,c2,c3,c4,c5,c6⟩:=cseven HX3.out.b
 go_wp2
 clear hz3 c0 c1 c2 c3 c4 c5 c6
 revert HX3 HW3
 generalize wr = w3
 intro HX3 HW3
 go_loopg [6] tests.length (fun g i wr=>∃ i':Nat,i' + g = tests.length /\ i = .int .i64 i' /\ (tests.any fun t=>!t.ok) = ((tests.drop i').any fun t=>!t.ok) /\ Below w3.heap.size w3 wr)
 case atStart=>exact ⟨0,by omega,rfl,rfl,Below.refl _ _⟩
 case round=>
 obtain ⟨i',hi',rfl,hae,hb⟩:=hrel
 have HAE:Hid ((tests.any fun t=>!t.ok) = ((tests.drop i').any fun t=>!t.ok)):=hae
 have HBr:Hid (Below w3.heap.size w3 wr):=hb
 have HXr:Hid (Bx wr w.heap.size ⟨(⟨⟨k,m,s⟩,nm,ls⟩,.slice a hn cap),body,.slice a' body.length cap',tests,.slice a'' tests.length cap''⟩):=HX3.out.later hb
 clear hae
 obtain ⟨c0,c1,c2,c3,c4,c5,c6⟩:=cseven HXr.out.b
 cases gk with
 | succ g=>
  have hlt:(i':Int) < (tests.length:Int):=by omega
  have j0:(0:Int) <= (i':Int):=by omega
  obtain ⟨b1,o1,t1,ex,ht1,hz1,p0,p1,p2,p3,p4,p5,p6⟩:=HXr.out.o.t.get_ (j:=i') (by omega)
  simp only at ht1
  have HC:Hid (∀ X:World,Calls Tryz.prog 100 #[t1.v] X fun e w'=>e = .returned (.int .i64 (if t1.ok then 0 else 32)) /\ Below X.heap.size X w'):=fun X=>rcheck_any t1 X
  have HD1:Hid (t1.ok = true -> (tests.any fun t=>!t.ok) = ((tests.drop (i' + 1)).any fun t=>!t.ok)):=fun e=>HAE.out.trans (any_drop ht1 e)
  have HD2:Hid (t1.ok = false -> (tests.any fun t=>!t.ok) = true):=fun e=>any_hit ht1 e
  clear ht1 hz1 hb
  generalize hOK:t1.ok = TO at HC HD1 HD2
  clear hOK
  obtain ⟨op,⟨kl,ml,sl⟩,⟨kr,mr,sr⟩⟩:=t1
  simp only at p0 p1 p2 p3 p4 p5 p6
  subst ex
  cases TO with
  | true=>
   have HC2:Hid (∀ X:World,Calls Tryz.prog 100 #[Te.v ⟨op,⟨kl,ml,sl⟩,⟨kr,mr,sr⟩⟩] X fun e w'=>e = .returned (.int .i64 0) /\ Below X.heap.size X w'):=HC.out
   go_wp2_with (go_at_call 100;refine (HC2.out _).mono ?_;rintro e w4 ⟨rfl,hb3⟩;have HB3':Hid (Below w3.heap.size w3 w4):=below_step HBr.out hb3;clear hb3 p0 p1 p2 p3 p4 p5 p6 c0 c1 c2 c3 c4 c5 c6)
   go_roundg g
   case measure=>omega
   case rel=>exact ⟨i' + 1,by omega,by go_num,HD1.out (by simp),HB3'.out⟩
  | false=>
   have HC2:Hid (∀ X:World,Calls Tryz.prog 100 #[Te.v ⟨op,⟨kl,ml,sl⟩,⟨kr,mr,sr⟩⟩] X fun e w'=>e = .returned (.int .i64 32) /\ Below X.heap.size X w'):=HC.out
   have HR:Hid (R = 32):=C3.out (by rw [HB3.out];exact HD2.out rfl)
   go_wp2_with (go_at_call 100;refine (HC2.out _).mono ?_;rintro e w4 ⟨rfl,hb3⟩;have HB3':Hid (Below w3.heap.size w3 w4):=below_step HBr.out hb3;clear hb3 p0 p1 p2 p3 p4 p5 p6 c0 c1 c2 c3 c4 c5 c6)
   go_ret
   exact ⟨by rw [HR.out];rfl,below_step HW3.out HB3'.out⟩
 | zero=>
 have hz3:¬ (i':Int) < (tests.length:Int):=by omega
 have hBT0:BT_ = false:=by
  rw [HB3.out,HAE.out,List.drop_eq_nil_of_le (by omega)];rfl
 have C4:Hid _:=C4.out hBT0
 have C5:Hid _:=C5.out hBT0
 have C6:Hid _:=C6.out hBT0
 have C7:Hid _:=C7.out hBT0
 have HW4:Hid (Below w.heap.size w wr):=below_step HW3.out hb
 clear C3 hBT0 hb HAE HBr HX3 HW3 HX2 HW2 HAS
 by_cases hk3:k = 3
 ·have hq:(k == 3) = true:=by rw [hk3];rfl
  have HR:Hid (R = 33):=C4.out hk3
  clear hk3 C4 C5 C6 C7
  go_wp2
  go_ret
  exact ⟨by rw [HR.out];rfl,HW4.out⟩
 have hq:(k == 3) = false:=beq_eq_false_iff_ne.2 hk3
 have C5:Hid _:=C5.out hk3
 have C6:Hid _:=C6.out hk3
 have C7:Hid _:=C7.out hk3
 have hl9:=HLE.out.1
 have hl72:=HLE.out.2.1
 have hl16:=HLE.out.2.2
 have HLN:Hid (PH.length + PT.length <= 100):=by show _ <= _;omega
 have HHD:Hid (∀ X:World,Below w.heap.size w X -> Calls Tryz.prog 102 #[.agg #[.int .i64 k,.int .i64 m,.string s,.string nm,.slice a hn cap]] X fun e w'=>∃ v',e = .returned v' /\ OwnT w' X.heap.size v' PH /\ Below X.heap.size X w'):=fun X hX=>HHD0.out X hX hl9
 have HTE:Hid (∀ X:World,Below w.heap.size w X -> Calls Tryz.prog 103 #[Cm.v ⟨(⟨⟨k,m,s⟩,nm,ls⟩,.slice a hn cap),body,.slice a' body.length cap',tests,.slice a'' tests.length cap''⟩] X fun e w'=>∃ v',e = .returned v' /\ OwnT w' X.heap.size v' PT /\ Below X.heap.size X w'):=fun X hX=>HTT0.out X hX hl16
 have HBO:Hid (∀ X:World,Below w.heap.size w X -> Calls Tryz.prog 101 #[Cm.v ⟨(⟨⟨k,m,s⟩,nm,ls⟩,.slice a hn cap),body,.slice a' body.length cap',tests,.slice a'' tests.length cap''⟩] X fun e w'=>∃ v',e = .returned v' /\ OwnT w' X.heap.size v' PB /\ Below X.heap.size X w'):=fun X hX=>HBO0.out X hX hl72
 have HTM:Hid (∀ X:World,Below w.heap.size w X -> Calls Tryz.prog 106 #[Cm.v ⟨(⟨⟨k,m,s⟩,nm,ls⟩,.slice a hn cap),body,.slice a' body.length cap',tests,.slice a'' tests.length cap''⟩] X fun e w'=>∃ v',e = .returned v' /\ OwnT w' X.heap.size v' TT /\ Below X.heap.size X w'):=fun X hX=>HTE2.out X hX (by rw [HTQ.out,List.length_append,List.length_append];omega)
 have HTL:Hid (TT.length <= 97):=by show _ <= _;rw [HTQ.out,List.length_append,List.length_append];omega
 clear C4 hk3 hl9 hl72 hl16 HHD0 HTT0 HBO0 HTE2
 go_upto_region 20 with (go_at_call 101;refine (HBO.out _ HW4.out).mono ?_;rintro e w5 ⟨bt,rfl,hbt,hb5⟩;have HBT:Hid (Ts w5 bt PB):=hbt.tsP.ts (by have:=HLE.out.2.1;omega);have HX5:Hid (Bx w5 w.heap.size ⟨(⟨⟨k,m,s⟩,nm,ls⟩,.slice a hn cap),body,.slice a' body.length cap',tests,.slice a'' tests.length cap''⟩):=HXr.out.later hb5;have HW5:Hid (Below w.heap.size w w5):=below_step HW4.out hb5;clear hbt hb5 c0 c1 c2 c3 c4 c5 c6)
 clear HBO HXr HW4 hz3 hq
 go_cut [9] from 68 (fun s9 wx=>∃ (xa:Option Addr) (xn xc:Nat),s9 = .slice xa xn xc /\ OwnT wx w5.heap.size (.slice xa xn xc) (PH ++ PT) /\ Below w5.heap.size w5 wx)
 case first=>
  refine wp_region_held_drew (S:=fun w'=>Below w5.heap.size w5 w') (by kernel_rfl) (Below.refl _ _).drew (fun hH=>?_)
  revert hH
  generalize w5.drew = V0
  intro hH
  refine wTl 0 (.pointer (some ⟨w.heap.size,0,none⟩)) rfl (by kernel_rfl) (fun _ _ _ h=>h) rfl (fun w' h=>by clear h;go_simp) hH ?_
  simp only [wA,wB,wC,wD]
  refine wTl 1 (.agg #[.int .i64 k,.int .i64 m,.string s,.string nm,.slice a hn cap]) rfl (by kernel_rfl) (fun _ _ _ h=>h) rfl (fun w' h=>by obtain ⟨c0,c1,c2,c3,c4,c5,c6⟩:=cseven (CBlk.later (Hid.out HX5).b h);clear h;go_simp) hH ?_
  simp only [wA,wB,wC,wD]
  refine wTl 3 (.agg #[.int .i64 k,.int .i64 m,.string s,.string nm,.slice a hn cap,.slice a' body.length cap',.slice a'' tests.length cap'']) rfl (by kernel_rfl) (fun _ _ _ h=>h) rfl (fun w' h=>by obtain ⟨c0,c1,c2,c3,c4,c5,c6⟩:=cseven (CBlk.later (Hid.out HX5).b h);clear h;go_simp) hH ?_
  simp only [wA,wB,wC,wD]
  refine wRd 2 (by kernel_rfl) rfl (fun K hK=>?_)
  go_simp
  refine (HHD.out _ (below_step HW5.out hH)).mono ?_
  rintro e V1 ⟨y,rfl,hy,hb⟩
  have HY:Hid (OwnT V1 w5.heap.size y PH):=hy.mono hH.size
  refine hK.out _ _ (below_step hH hb) (fun hH=>?_)
  clear hK K hb hy
  try simp only [wA,wB,wC,wD]
  refine wRd 4 (by kernel_rfl) rfl (fun K hK=>?_)
  go_simp
  refine (HTE.out _ (below_step HW5.out hH)).mono ?_
  rintro e V2 ⟨z,rfl,hz,hb⟩
  have HZ:Hid (TsP V2 z PT):=hz.tsP
  have HY2:Hid (OwnT V2 w5.heap.size y PH):=HY.out.later hb
  refine hK.out _ _ (below_step hH hb) (fun hH=>?_)
  clear hK K hb hz HY
  try simp only [wA,wB,wC,wD]
  refine wRd 5 (by kernel_rfl) rfl (fun K hK=>?_)
  refine stepT_list rfl _ _ rfl w5.heap.size y PH (by rfl) HY2.out z PT (by rfl) HZ.out (by have:=HLN.out;omega) hH.size ?_
  intro v3 V3 hown hb3
  obtain ⟨xa,xc,rfl⟩:=hown.tsP.form
  obtain ⟨xn,hxn⟩:∃ n,(PH ++ PT).length = n:=⟨_,rfl⟩
  rw [hxn] at hown ⊢
  have HO3:Hid (OwnT V3 w5.heap.size (.slice xa xn xc) (PH ++ PT)):=hown
  refine hK.out _ _ (hH.trans hb3) (fun hH=>?_)
  clear hK K hown hb3 HY2 HZ
  try simp only [wA,wB,wC,wD]
  refine wTl 6 (.slice xa xn xc) rfl (by kernel_rfl) (fun _ _ _ h=>h) rfl (fun w' h=>by clear h;go_simp) hH ?_
  simp only [wA,wB,wC,wD]
  refine wpAnyH_done (by kernel_rfl) ?_ _
  go_wp2_with fail
  go_meet
  case rel=>exact ⟨xa,xn,xc,rfl,HO3.out,hH⟩
 case rest=>
 obtain ⟨xa,xn,xc,rfl,hrs,hb6⟩:=hcut
 rename World=>w6
 have HRS:Hid (Ts w6 (.slice xa xn xc) (PH ++ PT)):=hrs.tsP.ts (by rw [List.length_append];have:=HLN.out;omega)
 have HBT6:Hid (Ts w6 bt PB):=HBT.out.later hb6
 have HX6:Hid (Bx w6 w.heap.size ⟨(⟨⟨k,m,s⟩,nm,ls⟩,.slice a hn cap),body,.slice a' body.length cap',tests,.slice a'' tests.length cap''⟩):=HX5.out.later hb6
 have HW6:Hid (Below w.heap.size w w6):=below_step HW5.out hb6
 clear hrs hb6 HBT HX5 HW5 HHD HTE
 go_upto_region 22 with (go_at_call 104;refine (variables3_any (PH ++ PT) _ _ HRS.out (by rw [List.length_append];have:=HLN.out;omega)).mono ?_;rintro e w7 ⟨nv,rfl,hnv,hb7⟩;have hdl:=disT_len (PH ++ PT);have hnt:Ts w7 nv (disT (PH ++ PT)):=hnv.tsP.ts (by rw [List.length_append] at hdl;have:=HLN.out;omega);have HNV:Hid (Ts w7 nv (disT (PH ++ PT))):=hnt;have HBT7:Hid (Ts w7 bt PB):=HBT6.out.later hb7;have HX7:Hid (Bx w7 w.heap.size ⟨(⟨⟨k,m,s⟩,nm,ls⟩,.slice a hn cap),body,.slice a' body.length cap',tests,.slice a'' tests.length cap''⟩):=HX6.out.later hb7;have HW7:Hid (Below w.heap.size w w7):=below_step HW6.out hb7;obtain ⟨na,nc,hnf,hnl,hnr⟩:=hnt;subst hnf;clear hnv hb7 hdl)
 clear HRS HBT6 HX6 HW6
 generalize disT (PH ++ PT) = ND at HNV C5 C6 C7 hnl hnr ⊢
 go_wp2
 go_loopg [11] ND.length (fun g i wr=>∃ j':Nat,j' + g = ND.length /\ i = .int .i64 j' /\ (∀ t ∈ ND.take j',t ∈ PB) /\ Below w7.heap.size w7 wr)
 case atStart=>exact ⟨0,by omega,rfl,fun t ht=>by simp at ht,Below.refl _ _⟩
 case round=>
 obtain ⟨j',hj',rfl,hae,hb⟩:=hrel
 have HAE:Hid (∀ t ∈ ND.take j',t ∈ PB):=hae
 have HBr:Hid (Below w7.heap.size w7 wr):=hb
 clear hae
 cases gk with
 | succ g=>
  have hlt:(j':Int) < (ND.length:Int):=by omega
  have j0:(0:Int) <= (j':Int):=by omega
  obtain ⟨t1,ht1⟩:∃ t,ND[j']? = some t:=⟨_,List.getElem?_eq_getElem (by omega)⟩
  rcases hnr with hnr | ⟨b1,o1,rfl,hnr⟩
  ·rw [hnr] at ht1;simp at ht1
  obtain ⟨p0,p1,p2⟩:=(hnr.later hb).2 j' t1 ht1
  have HC0:=within_any PB bt t1 wr (HBT7.out.later hb)
  obtain ⟨IN,hIN⟩:∃ b,decide (t1 ∈ PB) = b:=⟨_,rfl⟩
  rw [hIN] at HC0
  have HC:Hid (Calls Tryz.prog 105 #[bt,t1.v] wr fun e w'=>e = .returned (.bool IN) /\ Below wr.heap.size wr w'):=HC0
  have HD1:Hid (IN = true -> ∀ t ∈ ND.take (j' + 1),t ∈ PB):=fun e t ht=>by
   rw [List.take_add_one,ht1] at ht
   rcases List.mem_append.1 ht with ht | ht
   ·exact HAE.out t ht
   ·simp at ht;subst ht;rw [e] at hIN;exact of_decide_eq_true hIN
  have HD2:Hid (IN = false -> ∃ t ∈ ND,¬ t ∈ PB):=fun e=>⟨t1,List.mem_of_getElem? ht1,by rw [e] at hIN;exact of_decide_eq_false hIN⟩
  clear ht1 hb HC0 hIN hnr
  obtain ⟨tk,tn,ts⟩:=t1
  simp only at p0 p1 p2
  cases IN with
  | true=>
   go_wp2_with (go_at_call 105;refine HC.out.mono ?_;rintro e w8 ⟨rfl,hb3⟩;have HB3':Hid (Below w7.heap.size w7 w8):=below_step HBr.out hb3;clear hb3 p0 p1 p2)
   go_roundg g
   case measure=>omega
   case rel=>exact ⟨j' + 1,by omega,by go_num,HD1.out (by simp),HB3'.out⟩
  | false=>
   have HR:Hid (R = 34):=C5.out (HD2.out rfl)
   go_wp2_with (go_at_call 105;refine HC.out.mono ?_;rintro e w8 ⟨rfl,hb3⟩;have HB3':Hid (Below w7.heap.size w7 w8):=below_step HBr.out hb3;clear hb3 p0 p1 p2)
   go_ret
   exact ⟨by rw [HR.out];rfl,below_step HW7.out HB3'.out⟩
 | zero=>
 have hz3:¬ (j':Int) < (ND.length:Int):=by omega
 have hall:∀ t ∈ ND,t ∈ PB:=by
  have:=HAE.out
  rwa [List.take_of_length_le (by omega)] at this
 have C6:Hid _:=C6.out hall
 have C7:Hid _:=C7.out hall
 have HX8:Hid (Bx wr w.heap.size ⟨(⟨⟨k,m,s⟩,nm,ls⟩,.slice a hn cap),body,.slice a' body.length cap',tests,.slice a'' tests.length cap''⟩):=HX7.out.later hb
 have HW8:Hid (Below w.heap.size w wr):=below_step HW7.out hb
 clear C5 hall hb HAE HBr HX7 HW7 HBT7 HNV hnr
 obtain ⟨c0,c1,c2,c3,c4,c5,c6⟩:=cseven HX8.out.b
 go_upto_region 28 with (first
  | (go_at_call 106;refine (HTM.out _ HW8.out).mono ?_;rintro e w9 ⟨y,rfl,hy,hb9⟩;have HY:Hid (Ts w9 y TT):=hy.tsP.ts (by have:=HTL.out;omega);have HW9:Hid (Below w.heap.size w w9):=below_step HW8.out hb9;clear hy hb9 c0 c1 c2 c3 c4 c5 c6)
  | (go_at_call 104;refine (variables3_any TT y _ HY.out (by have:=HTL.out;omega)).mono ?_;rintro e w10 ⟨nv2,rfl,hnv,hb7⟩;have hdl:=disT_len TT;have hnt:Ts w10 nv2 (disT TT):=hnv.tsP.ts (by have:=HTL.out;omega);have HW10:Hid (Below w.heap.size w w10):=below_step HW9.out hb7;obtain ⟨ma,mc,hnf,hml,hmr⟩:=hnt;subst hnf;clear hnv hb7))
 clear HTM HX8 HW8 HY HW9 hz3
 generalize disT TT = AL at C6 C7 hdl hml hmr ⊢
 have HAL:Hid (AL.length <= 97):=by show _ <= _;have:=HTL.out;omega
 go_wp2
 go_loopg [13] AL.length (fun g i wr=>∃ q:Nat,q + g = AL.length /\ i = .int .i64 q /\ (∀ (i:Nat) (t:Tm),i < q -> AL[i]? = some t -> t.n = i) /\ Below w10.heap.size w10 wr)
 case atStart=>exact ⟨0,by omega,rfl,fun i t hi=>by omega,Below.refl _ _⟩
 case round=>
 obtain ⟨q,hqg,rfl,hae,hb⟩:=hrel
 have HAE:Hid (∀ (i:Nat) (t:Tm),i < q -> AL[i]? = some t -> t.n = i):=hae
 have HBr:Hid (Below w10.heap.size w10 wr):=hb
 clear hae
 cases gk with
 | succ g=>
  have hlt:(q:Int) < (AL.length:Int):=by omega
  have j0:(0:Int) <= (q:Int):=by omega
  have hq97:(q:Int) <= 97:=by have:=HAL.out;omega
  obtain ⟨t1,ht1⟩:∃ t,AL[q]? = some t:=⟨_,List.getElem?_eq_getElem (by omega)⟩
  rcases hmr with hmr | ⟨b1,o1,rfl,hmr⟩
  ·rw [hmr] at ht1;simp at ht1
  obtain ⟨-,p1, -⟩:=(hmr.later hb).2 q t1 ht1
  have HD1:Hid (t1.n = q -> ∀ (i:Nat) (t:Tm),i < q + 1 -> AL[i]? = some t -> t.n = i):=fun e i t hi ht=>by
   by_cases hiq:i = q
   ·subst hiq;rw [ht1] at ht;rw [<- Option.some.inj ht];exact e
   ·exact HAE.out i t (by omega) ht
  have HD2:Hid (t1.n ≠ q -> ∃ (i:Nat) (t:Tm),AL[i]? = some t /\ t.n ≠ i):=fun e=>⟨q,t1,ht1,e⟩
  clear ht1 hb hmr
  obtain ⟨tk,tn,ts⟩:=t1
  simp only at p1 HD1 HD2
  by_cases he:tn = (q:Int)
  ·have hq2:(tn != (q:Int)) = false:=by rw [he];simp
   have HD1:Hid _:=HD1.out he
   clear he
   go_wp2
   go_roundg g
   case measure=>omega
   case rel=>exact ⟨q + 1,by omega,by go_num,HD1.out,HBr.out⟩
  ·have hq2:(tn != (q:Int)) = true:=by simp [he]
   have HR:Hid (R = 35):=C6.out (HD2.out he)
   clear he
   go_wp2
   go_ret
   exact ⟨by rw [HR.out];rfl,below_step HW10.out HBr.out⟩
 | zero=>
  have hz3:¬ (q:Int) < (AL.length:Int):=by omega
  have HR:Hid (R = 0):=C7.out fun i t ht=>HAE.out i t (by have:=(List.getElem?_eq_some_iff.1 ht).1;omega) ht
  clear C6 C7 hb hmr
  go_wp2
  go_ret
  exact ⟨by rw [HR.out];rfl,below_step HW10.out HBr.out⟩
end Go.Proofs.YtcpjiahdaplhlaaGreatDoor

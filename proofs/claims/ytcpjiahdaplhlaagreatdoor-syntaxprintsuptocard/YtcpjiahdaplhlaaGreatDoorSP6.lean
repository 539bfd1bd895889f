import Derived.Test.YtcpjiahdaplhlaaGreatDoorSP3
import Derived.Test.YtcpjiahdaplhlaaGreatDoorOQ1
import Derived.Test.YtcpjiahdaplhlaaGreatDoorST6
import Derived.Test.YtcpjiahdaplhlaaGreatDoorSB2
namespace Go.Proofs.YtcpjiahdaplhlaaGreatDoor
open Go.RowKit
attribute [local go_sem ↓] Go.wp_at_zero Go.wp_at_succ
theorem pa5_no {a:At} (h:a.err ≠ 0):pa5 a = ⟨#[]⟩:=by unfold pa5;rw [if_neg h]
theorem wrd_ne {s:ByteArray} (h:wrd s = true):0 < s.size:=by
 rcases Nat.eq_zero_or_pos s.size with e | e
 ·exfalso
  have e2:s = ⟨#[]⟩:=ByteArray.ext (Array.eq_empty_of_size_eq_zero e)
  rw [e2] at h
  exact absurd h (by decide)
 ·exact e
theorem err_name5 {a:At} (h:a.err = 0):0 < a.name.size:=by
 refine wrd_ne (name_wrd ?_).1
 unfold At.err at h
 by_cases h1:nameOk a.name = false
 ·rw [if_pos h1] at h;exact absurd h (by decide)
 ·simpa using h1
theorem pa5_ne {a:At} (h:a.err = 0):pa5 a ≠ ⟨#[]⟩:=by
 have h1:=err_name5 h
 have h2:a.name.size <= (po5 a).size:=by
  unfold po5
  split
  ·exact Nat.le_refl _
  ·rw [ByteArray.size_append];omega
 apply ba_pos
 unfold pa5
 rw [if_pos h]
 split
 ·omega
 ·rw [ByteArray.size_append,ByteArray.size_append,ByteArray.size_append];omega
set_option maxRecDepth 20000 in
set_option maxHeartbeats 2000000 in
theorem rprintQuery_any (a:At) (y:Value) (w:World) (h:Ts w y a.args) (hn:∀ t ∈ a.pl,N64 t.n) (hE:QOk w) :
  Calls Tryz.prog 22 #[a.v y] w fun e w'=>e = .returned (.string (pq5 a)) /\ Below w.heap.size w w':=by
 have HB0:=hm7 (below1 w (.cells #[.int .i64 a.by_.k,.int .i64 a.by_.n,.string a.by_.s,.string a.name,y] 42))
 have HX0:=hm7 (Bk.new w #[.int .i64 a.by_.k,.int .i64 a.by_.n,.string a.by_.s,.string a.name,y] 42)
 have HPA:Hid (∀ X:World,Below w.heap.size w X -> Calls Tryz.prog 20 #[a.v y] X fun e w'=>e = .returned (.string (pa5 a)) /\ Below X.heap.size X w'):=fun X hX=>rprintAtom_any a y X (h.later hX) hn (hE.later hX)
 have hpl:=pa5_len a hn
 obtain ⟨ya,yc,hyf, -⟩:=h
 obtain ⟨yn,hyn⟩:∃ yn,a.args.length = yn:=⟨_,rfl⟩
 rw [hyn] at hyf
 subst hyf
 obtain ⟨R,hR⟩:∃ R,pq5 a = R:=⟨_,rfl⟩
 rw [hR]
 unfold pq5 at hR
 have hcs:(pa5 a = ⟨#[]⟩ /\ R = ⟨#[]⟩) ∨ (pa5 a ≠ ⟨#[]⟩ /\ R = pa5 a ++ (⟨#[63]⟩:ByteArray)):=by
  by_cases he:a.err = 0
  ·rw [if_pos he] at hR
   exact Or.inr ⟨pa5_ne he,hR.symm⟩
  ·rw [if_neg he] at hR
   exact Or.inl ⟨pa5_no he,hR.symm⟩
 obtain ⟨pa,hpa⟩:∃ p,pa5 a = p:=⟨_,rfl⟩
 rw [hpa] at HPA hpl hcs
 have c0:=HX0.out.cell (i:=0) rfl
 have c1:=HX0.out.cell (i:=1) rfl
 have c2:=HX0.out.cell (i:=2) rfl
 have c3:=HX0.out.cell (i:=3) rfl
 have c4:=HX0.out.cell (i:=4) rfl
 clear hn hE hyn hpa hR
 rcases hcs with ⟨rfl,rfl⟩ | ⟨he,rfl⟩
 ·go_enter Tryz.func22,Tryz.ntmps22
  go_wp2_with (go_at_call 20;refine (HPA.out _ HB0.out).mono ?_;rintro e w1 ⟨rfl,hb⟩;have HB1:=hm7 (HB0.out.trans (hb.mono HB0.out.size));clear hb c0 c1 c2 c3 c4)
  go_ret
  exact ⟨rfl,HB1.out⟩
 ·have he1:(pa.toList == []) = false:=by rw [strE,decide_eq_false he]
  have he2:pa.toList.isEmpty = false:=by rw [isEK,decide_eq_false he]
  have g1:¬ 9223372036854775807 < pa.size + 1:=by omega
  go_enter Tryz.func22,Tryz.ntmps22
  go_wp2_with (go_at_call 20;refine (HPA.out _ HB0.out).mono ?_;rintro e w1 ⟨rfl,hb⟩;have HB1:=hm7 (HB0.out.trans (hb.mono HB0.out.size));clear hb c0 c1 c2 c3 c4)
  go_ret
  exact ⟨rfl,HB1.out⟩
structure Rp5 (w:World) (c:Cm):Prop where
 ok:c.ok w
 hh:TsP w c.head.2 c.head.1.args
 hp:∀ x ∈ c.body,TsP w x.2 x.1.args
 hb:AsP w c.bv c.body
 n:∀ t ∈ c.terms,N64 t.n
theorem Rp5.later {w w':World} {c:Cm} (h:Rp5 w c) (hb:Below w.heap.size w w'):Rp5 w' c:=⟨h.ok.later hb,h.hh.later hb,fun x hx=>(h.hp x hx).later hb,h.hb.later hb,h.n⟩
theorem Rp5.print {w:World} {c:Cm} (h:Rp5 w c) (hE:QOk w) (hG:Sg5 w):Calls Tryz.prog 25 #[c.v] w fun e w'=>e = .returned (.string (pc5 c.key)) /\ Below w.heap.size w w':=rprint_any c w h.ok h.hh h.hp h.hb h.n hE hG
theorem pal_step (A:List UInt8) (x:ByteArray):(⟨(A ++ (x.data.toList ++ [10])).toArray⟩:ByteArray) = ((⟨A.toArray⟩:ByteArray) ++ x) ++ (⟨#[10]⟩:ByteArray):=by
 apply ByteArray.ext
 rw [ByteArray.data_append,ByteArray.data_append]
 simp
set_option maxRecDepth 20000 in
set_option maxHeartbeats 4000000 in
theorem rprintAll_any (l:List Cm) (v:Value) (w:World) (h:Cx5 w v l) (hr:∀ c ∈ l,Rp5 w c) (hl:l.length <= 2000000) (hE:QOk w) (hG:Sg5 w) :
  Calls Tryz.prog 28 #[v] w fun e w'=>e = .returned (.string ⟨(pal5 (l.map Cm.key)).toArray⟩) /\ Below w.heap.size w w':=by
 have HP:=hm7 h
 obtain ⟨⟨va,vc,hv,hm⟩, -⟩:=h
 obtain ⟨n,hn⟩:∃ n,l.length = n:=⟨_,rfl⟩
 rw [hn] at hv hl
 subst hv
 have HN:=hm7 hn
 have HM:=hm7 hm
 have HR:=hm7 hr
 have HPR:Hid (∀ (c:Cm) (X:World),c ∈ l -> Below w.heap.size w X -> Calls Tryz.prog 25 #[c.v] X fun e w'=>e = .returned (.string (pc5 c.key)) /\ Below X.heap.size X w'):=fun c X hcl hX=>((hr c hcl).later hX).print (hE.later hX) (hG.later hX)
 clear hn hm hr hE hG
 go_enter Tryz.func28,Tryz.ntmps28
 go_wp2
 go_loopg [3,4,5] n (fun g s i _ wr=>∃ j:Nat,j + g = n /\ i = .int .i64 (j:Int) /\ s = .string ⟨(pal5 ((l.take j).map Cm.key)).toArray⟩ /\ (pal5 ((l.take j).map Cm.key)).length <= 27000 * j /\ Below w.heap.size w wr)
 case atStart=>exact ⟨0,by omega,rfl,rfl,Nat.zero_le _,Below.refl _ _⟩
 case round=>
  obtain ⟨j,hg,rfl,rfl,hpl,hb⟩:=hrel
  have HPL:=hm7 hpl
  have HB:=hm7 hb
  clear hpl hb
  cases gk with
  | succ g=>
   have i0:(0:Int) <= (j:Int):=by omega
   have i1:(j:Int) < (n:Int):=by omega
   obtain ⟨x,hx⟩:∃ c,l[j]? = some c:=⟨_,List.getElem?_eq_getElem (by have:=HN.out;omega)⟩
   have hxl:=List.mem_of_getElem? hx
   have hok:=(HP.out.below HB.out).ok x hxl
   rcases HM.out with e | ⟨sb,so,rfl,hz,hce⟩
   ·rw [e] at hx;simp at hx
   obtain ⟨p0,p1,p2,p3,p4,p5,p6⟩:=hce j x hx
   have q0:=cell_step HB.out hz p0
   have q1:=cell_step HB.out hz p1
   have q2:=cell_step HB.out hz p2
   have q3:=cell_step HB.out hz p3
   have q4:=cell_step HB.out hz p4
   have q5:=cell_step HB.out hz p5
   have q6:=cell_step HB.out hz p6
   clear p0 p1 p2 p3 p4 p5 p6 hce hz
   have HTK:Hid (pal5 ((l.take (j + 1)).map Cm.key) = pal5 ((l.take j).map Cm.key) ++ ln5 x.key):=by
    show _ = _
    rw [List.take_add_one,hx]
    simp [pal5]
   have HLN:Hid ((ln5 x.key).length <= 27000):=ln5_len fun t ht=>(HR.out x hxl).n t (by rw [key_terms];exact ht)
   obtain ⟨⟨x1,x2,x3,e1⟩,⟨x4,x6,e2⟩,⟨x7,x9,e3⟩, -, -⟩:=hok.shape
   have HPX:=hm7 (HPR.out x wr hxl HB.out)
   obtain ⟨A,hA⟩:∃ A,pal5 ((l.take j).map Cm.key) = A:=⟨_,rfl⟩
   rw [hA] at HPL HTK ⊢
   obtain ⟨lx,hlx⟩:∃ z,ln5 x.key = z:=⟨_,rfl⟩
   rw [hlx] at HTK HLN
   unfold ln5 at hlx
   obtain ⟨tx,htx⟩:∃ t,pc5 x.key = t:=⟨_,rfl⟩
   rw [htx] at HPX hlx
   obtain ⟨x5,h5⟩:∃ n,x.body.length = n:=⟨_,rfl⟩
   obtain ⟨x8,h8⟩:∃ n,x.tests.length = n:=⟨_,rfl⟩
   rw [h5] at e2
   rw [h8] at e3
   clear hx hxl hok htx hA h5 h8
   obtain ⟨⟨⟨⟨xk,xm,xs⟩,xn,xl⟩,xx⟩,xb,xbv,xt,xtv⟩:=x
   simp only at q0 q1 q2 q3 q4 q5 q6 e1 e2 e3
   subst e1 e2 e3
   obtain ⟨SA,hSA⟩:∃ z,(⟨A.toArray⟩:ByteArray) = z:=⟨_,rfl⟩
   have hsa:SA.size = A.length:=by rw [<- hSA];show A.toArray.size = _;simp
   rw [hSA]
   have hAl:A.length <= 54000000000:=Nat.le_trans HPL.out (Nat.mul_le_mul_left 27000 (show j <= 2000000 by omega))
   by_cases he:tx = ⟨#[]⟩
   ·rw [if_pos he] at hlx
    subst he
    subst hlx
    go_wp2_with (go_at_call 25;refine HPX.out.mono ?_;rintro e W2 ⟨rfl,hb⟩;have HB2:=hm7 (below_step HB.out hb);clear hb q0 q1 q2 q3 q4 q5 q6)
    go_roundg g
    case measure=>omega
    case rel=>
     refine ⟨j + 1,by omega,by go_num, ?_, ?_,HB2.out⟩
     ·rw [HTK.out,List.append_nil,hSA]
     ·rw [HTK.out,List.append_nil];have:=HPL.out;omega
   ·rw [if_neg he] at hlx
    subst hlx
    have he1:(tx.toList == []) = false:=by rw [strE,decide_eq_false he]
    have he2:tx.toList.isEmpty = false:=by rw [isEK,decide_eq_false he]
    have HTZ:Hid (tx.data.toList.length = tx.size):=by show _ = _;rw [Array.length_toList];rfl
    have hts:tx.size <= 27000:=by
     have h2:=HLN.out
     rw [List.length_append,HTZ.out] at h2
     omega
    have HPS:Hid ((⟨(A ++ (tx.data.toList ++ [10])).toArray⟩:ByteArray) = (SA ++ tx) ++ (⟨#[10]⟩:ByteArray)):=by show _ = _;rw [<- hSA];exact pal_step A tx
    obtain ⟨B,hB⟩:∃ z,SA ++ tx = z:=⟨_,rfl⟩
    have hbs:B.size = SA.size + tx.size:=by rw [<- hB,ByteArray.size_append]
    have g1:¬ 9223372036854775807 < SA.size + tx.size:=by omega
    have g2:¬ 9223372036854775807 < B.size + 1:=by omega
    clear hbs hts hsa hAl hSA
    go_wp2_with (go_at_call 25;refine HPX.out.mono ?_;rintro e W2 ⟨rfl,hb⟩;have HB2:=hm7 (below_step HB.out hb);clear hb q0 q1 q2 q3 q4 q5 q6)
    go_roundg g
    case measure=>omega
    case rel=>
     refine ⟨j + 1,by omega,by go_num, ?_, ?_,HB2.out⟩
     ·rw [HTK.out,HPS.out,hB]
     ·rw [HTK.out,List.length_append];have:=HPL.out;have:=HLN.out;omega
  | zero=>
   have i1:¬ (j:Int) < (n:Int):=by omega
   have HA:Hid ((l.map Cm.key).take j = l.map Cm.key):=List.take_of_length_le (by rw [List.length_map];have:=HN.out;omega)
   go_wp2
   go_ret
   exact ⟨by rw [HA.out];rfl,HB.out⟩
end Go.Proofs.YtcpjiahdaplhlaaGreatDoor
namespace Go.Proofs.YtcpjiahdaplhlaaGreatDoor
open Go.RowKit
attribute [local go_sem ↓] Go.wp_at_zero Go.wp_at_succ
def mkB:ByteArray:=⟨#[109,97,114,107]⟩
def mT:Tm:=⟨-4,901,mkB⟩
structure MkOk (w:World):Prop where
 lt:0 < w.heap.size
 t0:w.cell? ⟨0,0,none⟩ = some (.int .i64 (-4))
 t1:w.cell? ⟨0,1,none⟩ = some (.int .i64 901)
 t2:w.cell? ⟨0,2,none⟩ = some (.string ⟨#[109,97,114,107]⟩)
theorem MkOk.later {w w':World} (h:MkOk w) (hb:Below w.heap.size w w'):MkOk w':=⟨Nat.lt_of_lt_of_le h.lt hb.size,cell_step hb h.lt h.t0,cell_step hb h.lt h.t1,cell_step hb h.lt h.t2⟩
def LtT (X:World) (B:Nat) (v:Value) (l:List Tm):Prop:=∃ g cap,v = .slice (some ⟨g,0,none⟩) l.length cap /\ OwnT X B (.slice (some ⟨g,0,none⟩) (l.length + 1) cap) (l ++ [mT])
theorem LtT.later {X X':World} {B:Nat} {v:Value} {l:List Tm} (h:LtT X B v l) (hb:Below X.heap.size X X'):LtT X' B v l:=by
 obtain ⟨g,cap,e,ho⟩:=h
 exact ⟨g,cap,e,ho.later hb⟩
theorem LtT.mono {X:World} {B B':Nat} {v:Value} {l:List Tm} (h:LtT X B v l) (hb:B' <= B):LtT X B' v l:=by
 obtain ⟨g,cap,e,ho⟩:=h
 exact ⟨g,cap,e,ho.mono hb⟩
theorem LtT.ts {X:World} {B:Nat} {v:Value} {l:List Tm} (h:LtT X B v l) (hl:l.length < 1000000000000000000):Ts X v l:=by
 obtain ⟨g,cap,rfl,ho⟩:=h
 exact ownT_pre ho hl
set_option maxRecDepth 20000 in
set_option maxHeartbeats 4000000 in
theorem lentAtom_any (a:At) (v:Value) (w:World) (h:TsP w v a.args) (hl:a.args.length <= 3900000000000) (hB:MkOk w) :
  Calls Tryz.prog 16 #[a.v v] w fun e w'=>∃ u,e = .returned (a.v u) /\ LtT w' w.heap.size u a.args /\ Below w.heap.size w w':=by
 obtain ⟨⟨k,n,ss⟩,nm,l⟩:=a
 simp only at h hl ⊢
 obtain ⟨ad,cap,rfl⟩:=h.form
 have HP:=hm7 h
 have HB:=hm7 hB
 obtain ⟨ln,hln⟩:∃ z,l.length = z:=⟨_,rfl⟩
 have HLN:=hm7 hln
 rw [hln] at HP hl
 show Calls Tryz.prog 16 #[.agg #[.int .i64 k,.int .i64 n,.string ss,.string nm,.slice ad l.length cap]] w _
 rw [hln]
 obtain ⟨t1,t2,t3⟩:=two5 w #[.int .i64 k,.int .i64 n,.string ss,.string nm,.slice ad ln cap] #[.int .i64 0,.int .i64 0,.string ⟨#[]⟩,.string ⟨#[]⟩,.slice none 0 0] 42 42
 have HR0:=hm7 t1
 have HX0:=hm7 t2
 have HB0:=hm7 t3
 clear t1 t2 t3 h hB hln
 go_enter Tryz.func16,Tryz.ntmps16
 go_upto_region 2 with fail
 revert HR0 HX0 HB0
 generalize (w.alloc (.cells #[.int .i64 k,.int .i64 n,.string ss,.string nm,.slice ad ln cap] 42)).alloc (.cells #[.int .i64 0,.int .i64 0,.string ⟨#[]⟩,.string ⟨#[]⟩,.slice none 0 0] 42) = W0
 intro HR0 HX0 HB0
 obtain ⟨q,hq⟩:∃ z,w.heap.size = z:=⟨_,rfl⟩
 obtain ⟨r,hr⟩:∃ z,q + 1 = z:=⟨_,rfl⟩
 rw [hq,hr] at HR0
 rw [hq] at HX0
 rw [hq,hr]
 have HQ:=hm7 hq
 have HRQ:=hm7 hr
 have hqr:q ≠ r:=by omega
 have hrq:r ≠ q:=by omega
 clear hq hr
 have c4:=HX0.out.cell (i:=4) rfl
 go_upto_region 3 with (at_builtin;refine app_terms rfl _ _ rfl W0.heap.size (.slice none 0 0) [] (by rfl) (ownT_nil _ _) _ l (by rfl) (HP.out.later HB0.out) (by simp only [List.length_nil];have:=HLN.out;omega) (Nat.le_refl _) ?_;intro v1 w1 hown hb hg;rw [List.nil_append] at hown;have HO:=hm7 hown;have HW:=hm7 hb;clear hown hb hg)
 clear c4
 obtain ⟨-,t0,t1,t2⟩:=HB.out.later (below_step HB0.out HW.out)
 have HG3:Hid (CBlk (w1.alloc (.cells #[.int .i64 (-4),.int .i64 901,.string ⟨#[109,97,114,107]⟩] 39)) w1.heap.size #[.int .i64 (-4),.int .i64 901,.string ⟨#[109,97,114,107]⟩] 39):=CBlk.new _ _ _
 have HL3:=hm7 (HO.out.later (below1 w1 (.cells #[.int .i64 (-4),.int .i64 901,.string ⟨#[109,97,114,107]⟩] 39)))
 have HW3:=hm7 (below_step HW.out (below1 w1 (.cells #[.int .i64 (-4),.int .i64 901,.string ⟨#[109,97,114,107]⟩] 39)))
 go_upto_region 4 with (at_builtin;refine app_terms rfl _ _ rfl W0.heap.size v1 l (by rfl) HL3.out (.slice (some ⟨w1.heap.size,0,none⟩) 1 1) [mT] (by rfl) (TsP.one (t:=mT) HG3.out) (by simp only [List.length_cons,List.length_nil];have:=HLN.out;omega) HW3.out.size ?_;intro v2 w2 hown hb hg;obtain ⟨g,cap2,rfl,hcap⟩:=ownT_some hown;have HO2:=hm7 hown;have HW2:=hm7 (HW3.out.trans hb);clear hown hb hg)
 rw [HLN.out] at hcap HO2 ⊢
 have HXX:=hm7 (HX0.out.below HW2.out)
 have HRR:=hm7 (HR0.out.below HW2.out)
 clear t0 t1 t2 HG3 HL3 HW3 HO HW
 have x4:=HXX.out.cell (i:=4) rfl
 have f4:=HXX.out.froz 4
 have hxl:=HXX.out.lt
 have hcap':(ln:Int) <= (cap2:Int):=by omega
 have z0:(0:Int) <= (ln:Int):=by omega
 have z1:(ln:Int) + 1 - 1 = (ln:Int):=by omega
 go_upto_region 5 with fail
 have HX5:Hid (Bk (w2.setCell ⟨q,4,none⟩ (.slice (some ⟨g,0,none⟩) ln cap2)) q #[.int .i64 k,.int .i64 n,.string ss,.string nm,.slice (some ⟨g,0,none⟩) ln cap2] 42):=HXX.out.set 4 _
 have HF5:Hid (Fr (fun b=>b = q) w2 (w2.setCell ⟨q,4,none⟩ (.slice (some ⟨g,0,none⟩) ln cap2))):=(Fr.refl (fun b=>b = q) _).set (Or.inl rfl)
 have HR5:=hm7 (HRR.out.fr HF5.out hrq)
 have HQ5:Hid (q < W0.heap.size /\ r < W0.heap.size):=⟨HX0.out.lt,HR0.out.lt⟩
 have HO5:Hid (OwnT (w2.setCell ⟨q,4,none⟩ (.slice (some ⟨g,0,none⟩) ln cap2)) W0.heap.size (.slice (some ⟨g,0,none⟩) (ln + 1) cap2) (l ++ [mT])):=row7_fr HO2.out HF5.out fun b hb e=>by have:=(OwnT.lt HO2.out b hb).1;have:=HQ5.out.1;omega
 have HB5:Hid (Below w.heap.size w (w2.setCell ⟨q,4,none⟩ (.slice (some ⟨g,0,none⟩) ln cap2))):=(below_step HB0.out HW2.out).setCell (p:=⟨q,4,none⟩) (by show w.heap.size <= q;rw [HQ.out];exact Nat.le_refl _) _
 clear x4 f4 hxl HXX HRR HO2 HW2
 revert HX5
 revert HR5
 revert HO5
 revert HB5
 clear HF5
 generalize w2.setCell ⟨q,4,none⟩ (.slice (some ⟨g,0,none⟩) ln cap2) = W5
 intro HB5 HO5 HR5 HX5
 have y0:=HX5.out.cell (i:=0) rfl
 have y1:=HX5.out.cell (i:=1) rfl
 have y2:=HX5.out.cell (i:=2) rfl
 have y3:=HX5.out.cell (i:=3) rfl
 have y4:=HX5.out.cell (i:=4) rfl
 have r0:=HR5.out.cell (i:=0) rfl
 have r1:=HR5.out.cell (i:=1) rfl
 have r2:=HR5.out.cell (i:=2) rfl
 have r3:=HR5.out.cell (i:=3) rfl
 have r4:=HR5.out.cell (i:=4) rfl
 have f0:=HR5.out.froz 0
 have f1:=HR5.out.froz 1
 have f2:=HR5.out.froz 2
 have f3:=HR5.out.froz 3
 have f4:=HR5.out.froz 4
 have hrl:=HR5.out.lt
 go_wp2
 clear y0 y1 y2 y3 y4 r0 r1 r2 r3 r4 f0 f1 f2 f3 f4 hrl
 have HR6:=hm7 (store5a (a:=.int .i64 k) (b:=.int .i64 n) (c:=.string ss) (d:=.string nm) (e:=.slice (some ⟨g,0,none⟩) ln cap2) HR5.out)
 have HF6:Hid (Fr (fun b=>b = r) W5 (((((W5.setCell ⟨r,0,none⟩ (.int .i64 k)).setCell ⟨r,1,none⟩ (.int .i64 n)).setCell ⟨r,2,none⟩ (.string ss)).setCell ⟨r,3,none⟩ (.string nm)).setCell ⟨r,4,none⟩ (.slice (some ⟨g,0,none⟩) ln cap2))):=(((((Fr.refl (fun b=>b = r) _).set (Or.inl rfl)).set (Or.inl rfl)).set (Or.inl rfl)).set (Or.inl rfl)).set (Or.inl rfl)
 have HRW:Hid (w.heap.size <= r):=by show _ <= _;have:=HQ.out;have:=HRQ.out;omega
 have HB6:Hid (Below w.heap.size w (((((W5.setCell ⟨r,0,none⟩ (.int .i64 k)).setCell ⟨r,1,none⟩ (.int .i64 n)).setCell ⟨r,2,none⟩ (.string ss)).setCell ⟨r,3,none⟩ (.string nm)).setCell ⟨r,4,none⟩ (.slice (some ⟨g,0,none⟩) ln cap2))):=((((HB5.out.setCell (p:=⟨r,0,none⟩) HRW.out _).setCell (p:=⟨r,1,none⟩) HRW.out _).setCell (p:=⟨r,2,none⟩) HRW.out _).setCell (p:=⟨r,3,none⟩) HRW.out _).setCell (p:=⟨r,4,none⟩) HRW.out _
 have HO6:=hm7 (row7_fr HO5.out HF6.out fun b hb e=>by have:=(OwnT.lt HO5.out b hb).1;have:=HQ5.out.2;omega)
 have HO7:Hid (LtT (((((W5.setCell ⟨r,0,none⟩ (.int .i64 k)).setCell ⟨r,1,none⟩ (.int .i64 n)).setCell ⟨r,2,none⟩ (.string ss)).setCell ⟨r,3,none⟩ (.string nm)).setCell ⟨r,4,none⟩ (.slice (some ⟨g,0,none⟩) ln cap2)) w.heap.size (.slice (some ⟨g,0,none⟩) ln cap2) l):=by
  refine ⟨g,cap2,by rw [HLN.out], ?_⟩
  rw [HLN.out]
  exact OwnT.mono HO6.out HB0.out.size
 clear HO6 HF6 HR5 HO5 HX5 HB5
 revert HR6
 revert HB6
 revert HO7
 generalize ((((W5.setCell ⟨r,0,none⟩ (.int .i64 k)).setCell ⟨r,1,none⟩ (.int .i64 n)).setCell ⟨r,2,none⟩ (.string ss)).setCell ⟨r,3,none⟩ (.string nm)).setCell ⟨r,4,none⟩ (.slice (some ⟨g,0,none⟩) ln cap2) = W6
 intro HO7 HB6 HR6
 have z0:=HR6.out.cell (i:=0) rfl
 have z1:=HR6.out.cell (i:=1) rfl
 have z2:=HR6.out.cell (i:=2) rfl
 have z3:=HR6.out.cell (i:=3) rfl
 have z4:=HR6.out.cell (i:=4) rfl
 exact bodyPost_ret (v:=At.v ⟨⟨k,n,ss⟩,nm,l⟩ (.slice (some ⟨g,0,none⟩) ln cap2)) (by simp [results,Tryz.results16,go_sem,z0,z1,z2,z3,z4]) rfl ⟨.slice (some ⟨g,0,none⟩) ln cap2,rfl,HO7.out,HB6.out⟩
set_option maxRecDepth 20000 in
set_option maxHeartbeats 2000000 in
theorem keptAtom_any (a:At) (u v:Value) (base:Nat) (w:World) (h:Ts w v a.args) (ho:LtT w base u a.args) (hB:MkOk w) :
  Calls Tryz.prog 29 #[a.v u,a.v v] w fun e w'=>e = .returned (.bool true) /\ Below w.heap.size w w':=by
 obtain ⟨⟨k,n,ss⟩,nm,l⟩:=a
 simp only at h ho
 have hs:l.length < 1000000000000000000:=by obtain ⟨_,_,_,h,_⟩:=h;exact h
 have HAT:Hid (∀ X:World,Below w.heap.size w X -> Calls Tryz.prog 15 #[At.v ⟨⟨k,n,ss⟩,nm,l⟩ u,At.v ⟨⟨k,n,ss⟩,nm,l⟩ v] X fun e w'=>e = .returned (.bool true) /\ Below X.heap.size X w'):=fun X hX=>by
  have:=atoms5_any ⟨⟨k,n,ss⟩,nm,l⟩ ⟨⟨k,n,ss⟩,nm,l⟩ u v X ((ho.ts hs).later hX) (h.later hX)
  rw [decide_eq_true rfl] at this
  exact this
 obtain ⟨g,cap,rfl,ho⟩:=ho
 have hcap:=ownT_cap ho
 have HO:=hm7 ho
 have HB:=hm7 hB
 obtain ⟨ad,cap',rfl, -, -⟩:=h
 have he:=run_eql_tm ⟨-4,901,⟨#[109,97,114,107]⟩⟩ ⟨-4,901,⟨#[109,97,114,107]⟩⟩
 rw [decide_eq_true rfl] at he
 obtain ⟨ln,hln⟩:∃ z,l.length = z:=⟨_,rfl⟩
 have HLN:=hm7 hln
 rw [hln] at hs hcap
 have i0:(0:Int) <= (ln:Int):=by omega
 have i1:(ln:Int) < (ln:Int) + 1:=by omega
 have hcap':(ln:Int) + 1 <= (cap:Int):=by omega
 show Calls Tryz.prog 29 #[.agg #[.int .i64 k,.int .i64 n,.string ss,.string nm,.slice (some ⟨g,0,none⟩) l.length cap],.agg #[.int .i64 k,.int .i64 n,.string ss,.string nm,.slice ad l.length cap']] w _
 have HAT2:Hid (∀ X:World,Below w.heap.size w X -> Calls Tryz.prog 15 #[.agg #[.int .i64 k,.int .i64 n,.string ss,.string nm,.slice (some ⟨g,0,none⟩) ln cap],.agg #[.int .i64 k,.int .i64 n,.string ss,.string nm,.slice ad ln cap']] X fun e w'=>e = .returned (.bool true) /\ Below X.heap.size X w'):=fun X hX=>by
  have:=HAT.out X hX
  unfold At.v at this
  simp only at this
  rw [hln] at this
  exact this
 rw [hln]
 obtain ⟨t1,t2,t3⟩:=two5 w #[.int .i64 k,.int .i64 n,.string ss,.string nm,.slice (some ⟨g,0,none⟩) ln cap] #[.int .i64 k,.int .i64 n,.string ss,.string nm,.slice ad ln cap'] 42 42
 have HR0:=hm7 t1
 have HX0:=hm7 t2
 have HB0:=hm7 t3
 clear t1 t2 t3 hB hln ho HAT
 go_enter Tryz.func29,Tryz.ntmps29
 go_upto_region 1 with fail
 revert HR0 HX0 HB0
 generalize (w.alloc (.cells #[.int .i64 k,.int .i64 n,.string ss,.string nm,.slice (some ⟨g,0,none⟩) ln cap] 42)).alloc (.cells #[.int .i64 k,.int .i64 n,.string ss,.string nm,.slice ad ln cap'] 42) = W0
 generalize w.heap.size + 1 = r at *
 intro HR0 HX0 HB0
 have y0:=HX0.out.cell (i:=0) rfl
 have y1:=HX0.out.cell (i:=1) rfl
 have y2:=HX0.out.cell (i:=2) rfl
 have y3:=HX0.out.cell (i:=3) rfl
 have y4:=HX0.out.cell (i:=4) rfl
 have r0:=HR0.out.cell (i:=0) rfl
 have r1:=HR0.out.cell (i:=1) rfl
 have r2:=HR0.out.cell (i:=2) rfl
 have r3:=HR0.out.cell (i:=3) rfl
 have r4:=HR0.out.cell (i:=4) rfl
 go_upto_region 4 with (go_at_call 15;refine (HAT2.out _ HB0.out).mono ?_;rintro e w1 ⟨rfl,hb1⟩;obtain ⟨-,t0,t1,t2⟩:=HB.out.later (below_step HB0.out hb1);obtain ⟨c0,c1,c2⟩:=ownT_cells (HO.out.later (below_step HB0.out hb1)) l.length mT (by simp);simp only [mT,mkB] at c0 c1 c2;rw [HLN.out] at c0 c1 c2;clear y0 y1 y2 y3 y4 r0 r1 r2 r3 r4;have y4:=(HX0.out.below hb1).cell (i:=4) rfl;have r4:=(HR0.out.below hb1).cell (i:=4) rfl;have HW1:=hm7 (below_step HB0.out hb1);clear hb1)
 go_quiet (fail)
 go_wp2
 go_ret
 exact ⟨ret_b rfl,below_drewN HW1.out _⟩
end Go.Proofs.YtcpjiahdaplhlaaGreatDoor
namespace Go.Proofs.YtcpjiahdaplhlaaGreatDoor
open Go.RowKit
attribute [local go_sem ↓] Go.wp_at_zero Go.wp_at_succ
def mA:At:=⟨zt,mkB,[]⟩
def mE:Te:=⟨-9,zt,zt⟩
theorem LtT.kept {X X':World} {B B' e n m:Nat} {v y:Value} {l:List Tm} {ys:List Value} (h:LtT X B v l) (hy:X.ownsRow B' e n y m ys) (hg:X.grownBy X' y.ownBlock) (he:39 ≠ e):LtT X' B v l:=by
 obtain ⟨g,cap,e1,ho⟩:=h
 exact ⟨g,cap,e1,World.ownsRow.kept ho hg (row_ne ho hy he)⟩
theorem row_frB {X X':World} {B e n m G:Nat} {v:Value} {l:List Value} {c:Array Value} {t:TypeId} (h:X.ownsRow B e n v m l) (hb:Bk X G c t) (hf:Fr (fun b=>b = G) X X') (he:e ≠ t):X'.ownsRow B e n v m l:=
 row7_fr h hf fun g hg e1=>row_bk h hb he (by rw [hg,e1])
theorem LtT.frB {X X':World} {B G:Nat} {v:Value} {l:List Tm} {c:Array Value} {t:TypeId} (h:LtT X B v l) (hb:Bk X G c t) (hf:Fr (fun b=>b = G) X X') (he:39 ≠ t):LtT X' B v l:=by
 obtain ⟨g,cap,e1,ho⟩:=h
 exact ⟨g,cap,e1,row_frB ho hb hf he⟩
structure LtA (X:World) (B:Nat) (v:Value) (LB:List (At × Value)):Prop where
 o:∃ g cap,v = .slice (some ⟨g,0,none⟩) LB.length cap /\ OwnA X B (.slice (some ⟨g,0,none⟩) (LB.length + 1) cap) (LB ++ [(mA,.slice none 0 0)])
 ts:∀ x ∈ LB,LtT X B x.2 x.1.args
def LtE (X:World) (B:Nat) (v:Value) (l:List Te):Prop:=∃ g cap,v = .slice (some ⟨g,0,none⟩) l.length cap /\ OwnE X B (.slice (some ⟨g,0,none⟩) (l.length + 1) cap) (l ++ [mE])
structure Lt5 (B:Nat) (X:World) (d:Cm):Prop where
 h:LtT X B d.head.2 d.head.1.args
 b:LtA X B d.bv d.body
 t:LtE X B d.tv d.tests
theorem Lt5.frB {X X':World} {B G:Nat} {d:Cm} {c:Array Value} (h:Lt5 B X d) (hb:Bk X G c 53) (hf:Fr (fun b=>b = G) X X'):Lt5 B X' d:=by
 obtain ⟨h1,⟨⟨g,cap,e,ho⟩,hts⟩,⟨g2,cap2,e2,ho2⟩⟩:=h
 exact ⟨h1.frB hb hf (by decide),⟨⟨g,cap,e,row_frB ho hb hf (by decide)⟩,fun x hx=>(hts x hx).frB hb hf (by decide)⟩,⟨g2,cap2,e2,row_frB ho2 hb hf (by decide)⟩⟩
structure LB5 (W X:World) (u:Value) (LB:List (At × Value)):Prop where
 ow:OwnA X W.heap.size u LB
 ts:∀ x ∈ LB,LtT X W.heap.size x.2 x.1.args
 bw:Below W.heap.size W X
theorem LB5.later {W X X':World} {u:Value} {LB:List (At × Value)} (h:LB5 W X u LB) (hb:Below X.heap.size X X'):LB5 W X' u LB:=⟨h.ow.later hb,fun x hx=>(h.ts x hx).later hb,below_step h.bw hb⟩
theorem LB5.grow {W X X':World} {u v' u':Value} {LB:List (At × Value)} {x:At} (h:LB5 W X u LB) (hl:LtT X W.heap.size u' x.args) (ho:OwnA X' W.heap.size v' (LB ++ [(x,u')])) (hb:Below W.heap.size X X') (hg:X.grownBy X' u.ownBlock):LB5 W X' v' (LB ++ [(x,u')]):=
 ⟨ho,fun y hy=>by
  rcases List.mem_append.1 hy with hy | hy
  ·exact (h.ts y hy).kept h.ow hg (by decide)
  ·obtain rfl:y = (x,u'):=by simpa using hy
   exact hl.kept h.ow hg (by decide),h.bw.trans hb⟩
theorem store7a {w:World} {g:Nat} {t:TypeId} {z0 z1 z2 z3 z4 z5 z6 a b c d e f i:Value} (h:Bk w g #[z0,z1,z2,z3,z4,z5,z6] t):Bk (((((((w.setCell ⟨g,0,none⟩ a).setCell ⟨g,1,none⟩ b).setCell ⟨g,2,none⟩ c).setCell ⟨g,3,none⟩ d).setCell ⟨g,4,none⟩ e).setCell ⟨g,5,none⟩ f).setCell ⟨g,6,none⟩ i) g #[a,b,c,d,e,f,i] t:=by
 have h0:Bk _ g #[a,z1,z2,z3,z4,z5,z6] t:=h.set 0 a
 have h1:Bk _ g #[a,b,z2,z3,z4,z5,z6] t:=h0.set 1 b
 have h2:Bk _ g #[a,b,c,z3,z4,z5,z6] t:=h1.set 2 c
 have h3:Bk _ g #[a,b,c,d,z4,z5,z6] t:=h2.set 3 d
 have h4:Bk _ g #[a,b,c,d,e,z5,z6] t:=h3.set 4 e
 have h5:Bk _ g #[a,b,c,d,e,f,z6] t:=h4.set 5 f
 have h6:Bk _ g #[a,b,c,d,e,f,i] t:=h5.set 6 i
 exact h6
theorem row_mono5 {w:World} {B B' e n m:Nat} {v:Value} {l:List Value} (h:w.ownsRow B e n v m l) (hb:B' <= B):w.ownsRow B' e n v m l:=
 ⟨h.1,h.2.imp id fun ⟨g,cap,cur,e1,e2,e3⟩=>⟨g,cap,cur,e1,Nat.le_trans hb e2,e3⟩⟩
set_option maxRecDepth 20000 in
set_option maxHeartbeats 8000000 in
theorem lent_any (c:Cm) (w:World) (h:c.ok w) (hh:TsP w c.head.2 c.head.1.args) (hp:∀ x ∈ c.body,TsP w x.2 x.1.args) (ht:EsP w c.tv c.tests) (hs:(Ck.terms c.key).length <= 4000000) (hB:MkOk w) :
  Calls Tryz.prog 23 #[c.v] w fun e w'=>∃ d:Cm,e = .returned d.v /\ d.key = c.key /\ Lt5 w.heap.size w' d /\ Below w.heap.size w w':=by
 obtain ⟨s1,s2,s3,s4⟩:=cm_sizes hs
 obtain ⟨⟨a1,n1,cp1,e1⟩,⟨a2,cp2,e2⟩,⟨a3,cp3,e3⟩, -, -⟩:=h.shape
 have hbA:=h.b
 obtain ⟨⟨⟨⟨hk,hn,hz⟩,nm,hl⟩,hv⟩,body,bv,tests,tv⟩:=c
 dsimp only at s1 s2 s3 s4 e1 e2 e3 hh hp ht hbA
 obtain ⟨bn,hbn⟩:∃ n,body.length = n:=⟨_,rfl⟩
 obtain ⟨tn,htn⟩:∃ n,tests.length = n:=⟨_,rfl⟩
 rw [hbn] at e2 s2
 rw [htn] at e3 s3
 subst e1 e2 e3
 have HBN:=hm7 hbn
 have HTN:=hm7 htn
 have HHH:=hm7 hh
 have HP:=hm7 hp
 have HT:=hm7 ht
 have HX4:=hm7 s4
 have HB:=hm7 hB
 have HBA:=hm7 hbA
 obtain ⟨t1,t2,t3⟩:=two5 w #[.int .i64 hk,.int .i64 hn,.string hz,.string nm,.slice a1 n1 cp1,.slice a2 bn cp2,.slice a3 tn cp3] #[.int .i64 0,.int .i64 0,.string ⟨#[]⟩,.string ⟨#[]⟩,.slice none 0 0,.slice none 0 0,.slice none 0 0] 53 53
 have HR0:=hm7 t1
 have HX0:=hm7 t2
 have HB0:=hm7 t3
 have HLA0:=hm7 (lentAtom_any ⟨⟨hk,hn,hz⟩,nm,hl⟩ (.slice a1 n1 cp1) _ (hh.later HB0.out) (by show hl.length <= _;omega) (hB.later HB0.out))
 show Calls Tryz.prog 23 #[.agg #[.int .i64 hk,.int .i64 hn,.string hz,.string nm,.slice a1 n1 cp1,.slice a2 bn cp2,.slice a3 tn cp3]] w _
 clear t1 t2 t3 h hh hp ht hs hB hbn htn hbA s4
 go_enter Tryz.func23,Tryz.ntmps23
 go_upto_region 1 with fail
 revert HR0 HX0 HB0 HLA0
 generalize (w.alloc (.cells #[.int .i64 hk,.int .i64 hn,.string hz,.string nm,.slice a1 n1 cp1,.slice a2 bn cp2,.slice a3 tn cp3] 53)).alloc (.cells #[.int .i64 0,.int .i64 0,.string ⟨#[]⟩,.string ⟨#[]⟩,.slice none 0 0,.slice none 0 0,.slice none 0 0] 53) = W0
 intro HR0 HX0 HB0 HLA0
 obtain ⟨q,hq⟩:∃ z,w.heap.size = z:=⟨_,rfl⟩
 obtain ⟨r,hr⟩:∃ z,q + 1 = z:=⟨_,rfl⟩
 rw [hq,hr] at HR0
 rw [hq] at HX0
 rw [hq,hr]
 have HQ:=hm7 hq
 have HRQ:=hm7 hr
 clear hq hr
 have y0:=HX0.out.cell (i:=0) rfl
 have y1:=HX0.out.cell (i:=1) rfl
 have y2:=HX0.out.cell (i:=2) rfl
 have y3:=HX0.out.cell (i:=3) rfl
 have y4:=HX0.out.cell (i:=4) rfl
 go_upto_region 2 with (go_at_call 16;refine HLA0.out.mono ?_;rintro e w1 ⟨u,rfl,hlu,hb⟩;have HLU:=hm7 hlu;have HB1:=hm7 hb;obtain ⟨gu,cu,hgu, -⟩:=hlu;generalize hul:List.length _ = un at hgu;subst hgu;clear hb hul y0 y1 y2 y3 y4)
 have hbA:=below1 w1 (.cells #[.int .i64 hk,.int .i64 hn,.string hz,.string nm,.slice (some ⟨gu,0,none⟩) un cu,.slice none 0 0,.slice none 0 0] 53)
 have HSA:=hm7 (Bk.new w1 #[.int .i64 hk,.int .i64 hn,.string hz,.string nm,.slice (some ⟨gu,0,none⟩) un cu,.slice none 0 0,.slice none 0 0] 53)
 have HXA:=hm7 (HX0.out.below (below_step HB1.out hbA))
 have HRA:=hm7 (HR0.out.below (below_step HB1.out hbA))
 have HLA:Hid (LtT (w1.alloc (.cells #[.int .i64 hk,.int .i64 hn,.string hz,.string nm,.slice (some ⟨gu,0,none⟩) un cu,.slice none 0 0,.slice none 0 0] 53)) w.heap.size (.slice (some ⟨gu,0,none⟩) un cu) hl):=(HLU.out.later hbA).mono HB0.out.size
 have HWA:=hm7 (below_step HB0.out (below_step HB1.out hbA))
 have HSG:Hid (r < w1.heap.size /\ w.heap.size <= w1.heap.size):=⟨Nat.lt_of_lt_of_le HR0.out.lt HB1.out.size,Nat.le_trans HB0.out.size HB1.out.size⟩
 clear hbA HLU HB1 HX0 HR0 HLA0
 revert HSA
 revert HXA
 revert HRA
 revert HLA
 revert HWA
 generalize w1.alloc (.cells #[.int .i64 hk,.int .i64 hn,.string hz,.string nm,.slice (some ⟨gu,0,none⟩) un cu,.slice none 0 0,.slice none 0 0] 53) = WA
 intro HWA HLA HRA HXA HSA
 obtain ⟨s,hsq⟩:∃ z,w1.heap.size = z:=⟨_,rfl⟩
 rw [hsq] at HSA HSG
 rw [hsq]
 clear hsq
 go_wp2
 go_loopg [4,5,6] bn (fun g u i _ wr=>∃ j:Nat,j + g = bn /\ i = .int .i64 j /\ ∃ LB,fsts LB = fsts (body.take j) /\ LB5 WA wr u LB)
 case atStart=>exact ⟨0,by omega,rfl,[],rfl,OwnA.nil _ _,fun x hx=>(by cases hx),Below.refl _ _⟩
 case round=>
  obtain ⟨j,hj,rfl,LB,hf,hla⟩:=hrel
  have HLB:=hm7 hla
  have HF:=hm7 hf
  have HLL:Hid (LB.length = j):=by
   have h1:=congrArg List.length hf
   simp [fsts] at h1
   show _ = _
   have:=HBN.out
   omega
  obtain ⟨ua,uc,huf, -⟩:=row7_form hla.ow
  rw [HLL.out] at huf
  subst huf
  clear hf hla
  have x5:=(HXA.out.below HLB.out.bw).cell (i:=5) rfl
  cases gk with
  | succ g=>
   have hlt:(j:Int) < (bn:Int):=by omega
   have j0:(0:Int) <= (j:Int):=by omega
   obtain ⟨t,ht⟩:∃ t,body[j]? = some t:=⟨_,List.getElem?_eq_getElem (by have:=HBN.out;omega)⟩
   have hm:=List.mem_of_getElem? ht
   obtain ⟨ad2,cp2',hbf, -,hrow, -⟩:=HBA.out
   rw [HBN.out] at hbf
   cases hbf
   rcases hrow with e | ⟨b1,o1,rfl,hrow⟩
   ·rw [e] at ht;simp at ht
   have HWR:=hm7 (HWA.out.trans (HLB.out.bw.mono HWA.out.size))
   obtain ⟨p0,p1,p2,p3,p4⟩:=(hrow.later HWR.out).2 j t ht
   have htp:=(HP.out t hm).later HWR.out
   have HLN:Hid (∀ u,fsts (LB ++ [(t.1,u)]) = fsts (body.take (j + 1))):=fun u=>fsts_take ht HF.out
   have HC:=hm7 (lentAtom_any t.1 t.2 wr htp (by have:=HX4.out t hm;omega) (HB.out.later HWR.out))
   obtain ⟨ax,cx,hax⟩:=htp.form
   clear ht hm htp hrow HF
   obtain ⟨⟨⟨kx,mx,sx⟩,nx,lx⟩,vx⟩:=t
   simp only at hax p0 p1 p2 p3 p4
   generalize lx.length = lxn at hax
   subst hax
   go_upto_region 7 with (go_at_call 16;refine HC.out.mono ?_;rintro e w1 ⟨u',rfl,hlt',hb1⟩;have HL1:=hm7 hlt';have HB1:=hm7 hb1;obtain ⟨gu',cu',hgu, -⟩:=hlt';generalize hul:List.length _ = un' at hgu;subst hgu;clear hb1 hul p0 p1 p2 p3 p4 x5)
   have hb2:=below1 w1 (.cells #[.int .i64 kx,.int .i64 mx,.string sx,.string nx,.slice (some ⟨gu',0,none⟩) un' cu'] 42)
   have HA2:=hm7 (Bk.new w1 #[.int .i64 kx,.int .i64 mx,.string sx,.string nx,.slice (some ⟨gu',0,none⟩) un' cu'] 42)
   have HL2:=hm7 ((HL1.out.later hb2).mono HLB.out.bw.size)
   have HLB2:=hm7 (HLB.out.later (below_step HB1.out hb2))
   clear hb2 HL1 HB1 HLB
   revert HA2
   revert HL2
   revert HLB2
   generalize w1.alloc (.cells #[.int .i64 kx,.int .i64 mx,.string sx,.string nx,.slice (some ⟨gu',0,none⟩) un' cu'] 42) = w2
   intro HLB2 HL2 HA2
   obtain ⟨bx,hbx⟩:∃ z,w1.heap.size = z:=⟨_,rfl⟩
   rw [hbx] at HA2
   rw [hbx]
   clear hbx
   have b0:=HA2.out.cell (i:=0) rfl
   have b1':=HA2.out.cell (i:=1) rfl
   have b2:=HA2.out.cell (i:=2) rfl
   have b3:=HA2.out.cell (i:=3) rfl
   have b4:=HA2.out.cell (i:=4) rfl
   have hb3:=below1 w2 (.cells #[.int .i64 kx,.int .i64 mx,.string sx,.string nx,.slice (some ⟨gu',0,none⟩) un' cu'] 42)
   have HG3:Hid (CBlk (w2.alloc (.cells #[.int .i64 kx,.int .i64 mx,.string sx,.string nx,.slice (some ⟨gu',0,none⟩) un' cu'] 42)) w2.heap.size #[.int .i64 kx,.int .i64 mx,.string sx,.string nx,.slice (some ⟨gu',0,none⟩) un' cu'] 42):=CBlk.new _ _ _
   have HLB3:=hm7 (HLB2.out.later hb3)
   have HL3:=hm7 (HL2.out.later hb3)
   clear hb3 HLB2 HL2
   go_wp2_with (at_builtin;refine aapp_one rfl _ _ rfl WA.heap.size (.slice ua j uc) LB (by rfl) HLB3.out.ow w2.heap.size (⟨⟨kx,mx,sx⟩,nx,lx⟩,.slice (some ⟨gu',0,none⟩) un' cu') (by rfl) HG3.out (acell_one _ _ _ _) (by have:=HLL.out;omega) HLB3.out.bw.size ?_;intro v' w4 hown hb3 hg3 ha3;have HL4:=hm7 (HLB3.out.grow HL3.out hown hb3 hg3);clear hown hb3 hg3 ha3)
   go_roundg g
   case measure=>omega
   case rel=>exact ⟨j + 1,by omega,by go_num,_,HLN.out _,HL4.out⟩
  | zero=>
   obtain rfl:j = bn:=by omega
   have hlt:¬ (j:Int) < (j:Int):=by omega
   have HFF:Hid (fsts LB = fsts body):=by have:=HF.out;rw [<- HBN.out,List.take_length] at this;exact this
   have hb1:=below1 wr (.cells #[.int .i64 0,.int .i64 0,.string ⟨#[]⟩,.string ⟨#[109,97,114,107]⟩,.slice none 0 0] 42)
   have HG:Hid (CBlk (wr.alloc (.cells #[.int .i64 0,.int .i64 0,.string ⟨#[]⟩,.string ⟨#[109,97,114,107]⟩,.slice none 0 0] 42)) wr.heap.size #[.int .i64 0,.int .i64 0,.string ⟨#[]⟩,.string ⟨#[109,97,114,107]⟩,.slice none 0 0] 42):=CBlk.new _ _ _
   have HL1:=hm7 (HLB.out.later hb1)
   clear hb1 HF HLB
   go_upto_region 9 with (at_builtin;refine aapp_one rfl _ _ rfl WA.heap.size (.slice ua j uc) LB (by rfl) HL1.out.ow wr.heap.size (mA,.slice none 0 0) (by rfl) HG.out (acell_one _ _ _ _) (by have:=HLL.out;omega) HL1.out.bw.size ?_;intro v' w4 hown hb3 hg3 ha3;obtain ⟨gb,capb,rfl,hcap⟩:=ownA_some hown;have HO4:=hm7 hown;have HT4:Hid (∀ x ∈ LB,LtT w4 WA.heap.size x.2 x.1.args):=(fun x hx=>(HL1.out.ts x hx).kept HL1.out.ow hg3 (by decide));have HW4:=hm7 (HL1.out.bw.trans hb3);clear hown hb3 hg3 ha3 x5)
   rw [HLL.out] at HO4 hcap ⊢
   clear HG HL1
   have x6:=(HXA.out.below HW4.out).cell (i:=6) rfl
   go_upto_region 11 with (at_builtin;refine eapp_list rfl _ _ rfl (by rfl) (.slice a3 tn cp3) tests (by rfl) (HT.out.later (HWA.out.trans (HW4.out.mono HWA.out.size))) (by have:=HTN.out;omega) ?_;intro v5 w5 hown hb;have HO5:=hm7 hown;have HB5:=hm7 hb;clear hown hb x6)
   obtain ⟨va5,vc5,hv5, -⟩:=row7_form HO5.out
   rw [HTN.out] at hv5
   subst hv5
   have HG5:Hid (CBlk (w5.alloc (.cells #[.int .i64 (-9),.int .i64 0,.int .i64 0,.string ⟨#[]⟩,.int .i64 0,.int .i64 0,.string ⟨#[]⟩] 85)) w5.heap.size #[.int .i64 (-9),.int .i64 0,.int .i64 0,.string ⟨#[]⟩,.int .i64 0,.int .i64 0,.string ⟨#[]⟩] 85):=CBlk.new _ _ _
   have HO5b:=hm7 (row7_below HO5.out (below1 w5 (.cells #[.int .i64 (-9),.int .i64 0,.int .i64 0,.string ⟨#[]⟩,.int .i64 0,.int .i64 0,.string ⟨#[]⟩] 85)))
   have HB5b:=hm7 (below_step HB5.out (below1 w5 (.cells #[.int .i64 (-9),.int .i64 0,.int .i64 0,.string ⟨#[]⟩,.int .i64 0,.int .i64 0,.string ⟨#[]⟩] 85)))
   clear HO5 HB5
   go_upto_region 12 with (at_builtin;refine eapp_one rfl _ _ rfl w4.heap.size (.slice va5 tn vc5) tests (by rfl) HO5b.out w5.heap.size mE (by rfl) HG5.out (ecell_one _) (by have:=HTN.out;omega) HB5b.out.size ?_;intro v6 w6 hown hb hg ha;obtain ⟨ge,cape,rfl,hcap6⟩:=ownE_some hown;have HO6:=hm7 hown;have HB6:=hm7 (HB5b.out.trans hb);clear hown hb hg ha)
   rw [HTN.out] at HO6 hcap6 ⊢
   have HWZ:Hid (w.heap.size <= WA.heap.size):=HWA.out.size
   have HA6:=hm7 (below_step HW4.out HB6.out)
   have HL6:Hid (Lt5 w.heap.size w6 ⟨(⟨⟨hk,hn,hz⟩,nm,hl⟩,.slice (some ⟨gu,0,none⟩) un cu),LB,.slice (some ⟨gb,0,none⟩) j capb,tests,.slice (some ⟨ge,0,none⟩) tn cape⟩):=⟨HLA.out.later HA6.out,⟨⟨gb,capb,by rw [HLL.out],by show OwnA _ _ _ _;rw [HLL.out];exact row_mono5 (row7_below HO4.out HB6.out) HWZ.out⟩,fun x hx=>((HT4.out x hx).later HB6.out).mono HWZ.out⟩,⟨ge,cape,by rw [HTN.out],by show OwnE _ _ _ _;rw [HTN.out];exact row_mono5 HO6.out (Nat.le_trans HWZ.out HW4.out.size)⟩⟩
   have HS6:=hm7 (HSA.out.below HA6.out)
   have HR6:=hm7 (HRA.out.below HA6.out)
   have HB6w:=hm7 (below_step HWA.out HA6.out)
   have HKY:Hid (Cm.key ⟨(⟨⟨hk,hn,hz⟩,nm,hl⟩,.slice (some ⟨gu,0,none⟩) un cu),LB,.slice (some ⟨gb,0,none⟩) j capb,tests,.slice (some ⟨ge,0,none⟩) tn cape⟩ = Cm.key ⟨(⟨⟨hk,hn,hz⟩,nm,hl⟩,.slice a1 n1 cp1),body,.slice a2 j cp2,tests,.slice a3 tn cp3⟩):=by
    show (_,_,_) = (_,_,_)
    rw [HFF.out]
   have hrs:r ≠ s:=by have:=HSG.out.1;omega
   have hsr:s ≠ r:=fun e=>hrs e.symm
   have HSW:Hid (w.heap.size <= s):=HSG.out.2
   have HRW:Hid (w.heap.size <= r):=by show _ <= _;have:=HQ.out;have:=HRQ.out;omega
   clear HO4 HT4 HW4 HG5 HO5b HB5b HO6 HB6 HA6 HLA HSA HRA HXA HWA HFF HT HP HBA HX4
   have s5:=HS6.out.cell (i:=5) rfl
   have f5:=HS6.out.froz 5
   have hsl:=HS6.out.lt
   have k1:(j:Int) <= (capb:Int):=by omega
   have k0:(0:Int) <= (j:Int):=by omega
   have k2:(j:Int) + 1 - 1 = (j:Int):=by omega
   have k3:(tn:Int) <= (cape:Int):=by omega
   have k4:(0:Int) <= (tn:Int):=by omega
   have k5:(tn:Int) + 1 - 1 = (tn:Int):=by omega
   go_upto_region 13 with fail
   have HS7:Hid (Bk (w6.setCell ⟨s,5,none⟩ (.slice (some ⟨gb,0,none⟩) j capb)) s #[.int .i64 hk,.int .i64 hn,.string hz,.string nm,.slice (some ⟨gu,0,none⟩) un cu,.slice (some ⟨gb,0,none⟩) j capb,.slice none 0 0] 53):=HS6.out.set 5 _
   have hF7:Fr (fun b=>b = s) w6 (w6.setCell ⟨s,5,none⟩ (.slice (some ⟨gb,0,none⟩) j capb)):=(Fr.refl (fun b=>b = s) _).set (Or.inl rfl)
   have HR7:=hm7 (HR6.out.fr hF7 hrs)
   have HL7:=hm7 (HL6.out.frB HS6.out hF7)
   have HB7:=hm7 (HB6w.out.setCell (p:=⟨s,5,none⟩) HSW.out (.slice (some ⟨gb,0,none⟩) j capb))
   clear hF7 s5 f5 hsl HS6 HR6 HL6 HB6w
   revert HS7
   revert HR7
   revert HL7
   revert HB7
   generalize w6.setCell ⟨s,5,none⟩ (.slice (some ⟨gb,0,none⟩) j capb) = w7
   intro HB7 HL7 HR7 HS7
   have s6:=HS7.out.cell (i:=6) rfl
   have f6:=HS7.out.froz 6
   have hsl:=HS7.out.lt
   go_upto_region 14 with fail
   have HS8:Hid (Bk (w7.setCell ⟨s,6,none⟩ (.slice (some ⟨ge,0,none⟩) tn cape)) s #[.int .i64 hk,.int .i64 hn,.string hz,.string nm,.slice (some ⟨gu,0,none⟩) un cu,.slice (some ⟨gb,0,none⟩) j capb,.slice (some ⟨ge,0,none⟩) tn cape] 53):=HS7.out.set 6 _
   have hF8:Fr (fun b=>b = s) w7 (w7.setCell ⟨s,6,none⟩ (.slice (some ⟨ge,0,none⟩) tn cape)):=(Fr.refl (fun b=>b = s) _).set (Or.inl rfl)
   have HR8:=hm7 (HR7.out.fr hF8 hrs)
   have HL8:=hm7 (HL7.out.frB HS7.out hF8)
   have HB8:=hm7 (HB7.out.setCell (p:=⟨s,6,none⟩) HSW.out (.slice (some ⟨ge,0,none⟩) tn cape))
   clear hF8 s6 f6 hsl HS7 HR7 HL7 HB7
   revert HS8
   revert HR8
   revert HL8
   revert HB8
   generalize w7.setCell ⟨s,6,none⟩ (.slice (some ⟨ge,0,none⟩) tn cape) = w8
   intro HB8 HL8 HR8 HS8
   have y0:=HS8.out.cell (i:=0) rfl
   have y1:=HS8.out.cell (i:=1) rfl
   have y2:=HS8.out.cell (i:=2) rfl
   have y3:=HS8.out.cell (i:=3) rfl
   have y4:=HS8.out.cell (i:=4) rfl
   have y5:=HS8.out.cell (i:=5) rfl
   have y6:=HS8.out.cell (i:=6) rfl
   have r0:=HR8.out.cell (i:=0) rfl
   have f0:=HR8.out.froz 0
   have r1:=HR8.out.cell (i:=1) rfl
   have f1:=HR8.out.froz 1
   have r2:=HR8.out.cell (i:=2) rfl
   have f2:=HR8.out.froz 2
   have r3:=HR8.out.cell (i:=3) rfl
   have f3:=HR8.out.froz 3
   have r4:=HR8.out.cell (i:=4) rfl
   have f4:=HR8.out.froz 4
   have r5:=HR8.out.cell (i:=5) rfl
   have f5:=HR8.out.froz 5
   have r6:=HR8.out.cell (i:=6) rfl
   have f6:=HR8.out.froz 6
   have hrl:=HR8.out.lt
   go_wp2
   clear y0 r0 f0 y1 r1 f1 y2 r2 f2 y3 r3 f3 y4 r4 f4 y5 r5 f5 y6 r6 f6 hrl
   have HR9:=hm7 (store7a (a:=.int .i64 hk) (b:=.int .i64 hn) (c:=.string hz) (d:=.string nm) (e:=.slice (some ⟨gu,0,none⟩) un cu) (f:=.slice (some ⟨gb,0,none⟩) j capb) (i:=.slice (some ⟨ge,0,none⟩) tn cape) HR8.out)
   have hF9:Fr (fun b=>b = r) w8 (((((((w8.setCell ⟨r,0,none⟩ (.int .i64 hk)).setCell ⟨r,1,none⟩ (.int .i64 hn)).setCell ⟨r,2,none⟩ (.string hz)).setCell ⟨r,3,none⟩ (.string nm)).setCell ⟨r,4,none⟩ (.slice (some ⟨gu,0,none⟩) un cu)).setCell ⟨r,5,none⟩ (.slice (some ⟨gb,0,none⟩) j capb)).setCell ⟨r,6,none⟩ (.slice (some ⟨ge,0,none⟩) tn cape)):=((((((((Fr.refl (fun b=>b = r) _).set (Or.inl rfl)).set (Or.inl rfl)).set (Or.inl rfl)).set (Or.inl rfl)).set (Or.inl rfl)).set (Or.inl rfl)).set (Or.inl rfl))
   have HL9:=hm7 (HL8.out.frB HR8.out hF9)
   have HB9:=hm7 (((((((HB8.out.setCell (p:=⟨r,0,none⟩) HRW.out (.int .i64 hk)).setCell (p:=⟨r,1,none⟩) HRW.out (.int .i64 hn)).setCell (p:=⟨r,2,none⟩) HRW.out (.string hz)).setCell (p:=⟨r,3,none⟩) HRW.out (.string nm)).setCell (p:=⟨r,4,none⟩) HRW.out (.slice (some ⟨gu,0,none⟩) un cu)).setCell (p:=⟨r,5,none⟩) HRW.out (.slice (some ⟨gb,0,none⟩) j capb)).setCell (p:=⟨r,6,none⟩) HRW.out (.slice (some ⟨ge,0,none⟩) tn cape))
   clear hF9 HR8 HS8 HL8 HB8
   revert HR9
   revert HL9
   revert HB9
   generalize ((((((w8.setCell ⟨r,0,none⟩ (.int .i64 hk)).setCell ⟨r,1,none⟩ (.int .i64 hn)).setCell ⟨r,2,none⟩ (.string hz)).setCell ⟨r,3,none⟩ (.string nm)).setCell ⟨r,4,none⟩ (.slice (some ⟨gu,0,none⟩) un cu)).setCell ⟨r,5,none⟩ (.slice (some ⟨gb,0,none⟩) j capb)).setCell ⟨r,6,none⟩ (.slice (some ⟨ge,0,none⟩) tn cape) = w9
   intro HB9 HL9 HR9
   have z0:=HR9.out.cell (i:=0) rfl
   have z1:=HR9.out.cell (i:=1) rfl
   have z2:=HR9.out.cell (i:=2) rfl
   have z3:=HR9.out.cell (i:=3) rfl
   have z4:=HR9.out.cell (i:=4) rfl
   have z5:=HR9.out.cell (i:=5) rfl
   have z6:=HR9.out.cell (i:=6) rfl
   exact bodyPost_ret (v:=Cm.v ⟨(⟨⟨hk,hn,hz⟩,nm,hl⟩,.slice (some ⟨gu,0,none⟩) un cu),LB,.slice (some ⟨gb,0,none⟩) j capb,tests,.slice (some ⟨ge,0,none⟩) tn cape⟩) (by simp [results,Tryz.results23,go_sem,z0,z1,z2,z3,z4,z5,z6]) rfl ⟨⟨(⟨⟨hk,hn,hz⟩,nm,hl⟩,.slice (some ⟨gu,0,none⟩) un cu),LB,.slice (some ⟨gb,0,none⟩) j capb,tests,.slice (some ⟨ge,0,none⟩) tn cape⟩,rfl,HKY.out,HL9.out,HB9.out⟩
end Go.Proofs.YtcpjiahdaplhlaaGreatDoor

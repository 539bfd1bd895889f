import Derived.Test.YtcpjiahdaplhlaaGreatDoorShelf3
import Derived.Test.YtcpjiahdaplhlaaGreatDoorL1
import Derived.Test.YtcpjiahdaplhlaaGreatDoorK9
import Derived.BigQuiet
namespace Go.Proofs.YtcpjiahdaplhlaaGreatDoor
open Go.RowKit
attribute [local go_sem ↓] Go.wp_at_zero Go.wp_at_succ
theorem Tryz.extraW:Builder.Extra Tryz.prog Tryz.wbyteL_ren where
 sizeBuilder:=by kernel_rfl
 liesBuilder:=by kernel_rfl
 t5:=Tryz.underlying5
 a5:=Tryz.isAgg5
 z5:=Tryz.sizeOf5
 v5:=Tryz.zeroValue5
 infoByte:=by kernel_rfl
 cellsByte:=by kernel_rfl
 sizeByte:=by kernel_rfl
 neB5:=by decide
def Bd5 (w:World) (B b:Nat) (l:List UInt8):Prop:=Lib.IsBuilderF 91 5 B b (Lib.byteCells l) w
theorem bdF_later {T e:TypeId} {B b:Nat} {p:Value} {bs:List Value} {w w':World} (h:Lib.BuilderAtF T e B b p bs w) (hb:Below w.heap.size w w'):Lib.BuilderAtF T e B b p bs w':=by
 obtain ⟨hB,v,hbk,⟨ho,hown⟩,hne⟩:=h
 have hlt:=(Array.getElem?_eq_some_iff.1 hbk).1
 refine ⟨hB,v,(hb.block b hlt).trans hbk,⟨ho, ?_⟩,hne⟩
 rcases hown with h | ⟨g,cap,cur,fz,h1,h2,h3,h4⟩
 ·exact Or.inl h
 ·exact Or.inr ⟨g,cap,cur,fz,h1,h2,(hb.block g (Array.getElem?_eq_some_iff.1 h3).1).trans h3,h4⟩
theorem Bd5.later {w w':World} {B b:Nat} {l:List UInt8} (h:Bd5 w B b l) (hb:Below w.heap.size w w'):Bd5 w' B b l:=h.imp (fun x=>bdF_later x hb) fun x=>bdF_later x hb
theorem Bd5.new (w:World):Bd5 (w.alloc (.cells #[.pointer none,.slice none 0 0] 91)) w.heap.size w.heap.size []:=Lib.IsBuilderF.of (Lib.fresh_isBuilder 91 5 w)
theorem byteCells_app (a b:List UInt8):Lib.byteCells (a ++ b) = Lib.byteCells a ++ Lib.byteCells b:=by simp [Lib.byteCells]
theorem bdWS_any (s:ByteArray) (B b:Nat) (l:List UInt8) (w:World) (h:Bd5 w B b l) (hl:l.length + s.size <= 100000000000) (hB:B <= w.heap.size) :
  Calls Tryz.prog 61 #[.pointer (some ⟨b,0,none⟩),.string s] w fun e w'=>e = .returned (.tuple #[.int .i64 s.size,.nilIface]) /\ Bd5 w' B b (l ++ s.data.toList) /\ Below B w w':=by
 refine (Any.Builder_WriteString_k (P:=Tryz.prog) (ρ:=Tryz.joinL_ren) { Tryz.joinL with } Tryz.extraJ B b (Lib.byteCells l) s w h (by rw [Lib.byteCells_length];omega) hB).mono ?_
 rintro e w' ⟨rfl,h1,h2, -⟩
 refine ⟨rfl, ?_,h2⟩
 unfold Bd5
 rw [byteCells_app]
 exact Or.inr h1
theorem bdWB_any (c:UInt8) (B b:Nat) (l:List UInt8) (w:World) (h:Bd5 w B b l) (hl:l.length + 1 <= 100000000000) (hB:B <= w.heap.size) :
  Calls Tryz.prog 62 #[.pointer (some ⟨b,0,none⟩),.int .u8 c.toNat] w fun e w'=>e = .returned .nilIface /\ Bd5 w' B b (l ++ [c]) /\ Below B w w':=by
 refine (Any.Builder_WriteByte_k (P:=Tryz.prog) (ρ:=Tryz.wbyteL_ren) Tryz.wbyteL Tryz.extraW B b (Lib.byteCells l) c.toNat w h (by rw [Lib.byteCells_length];omega) hB).mono ?_
 rintro e w' ⟨rfl,h1,h2, -⟩
 refine ⟨rfl, ?_,h2⟩
 unfold Bd5
 rw [byteCells_app]
 exact Or.inr h1
theorem bdST_any (B b:Nat) (l:List UInt8) (w:World) (h:Bd5 w B b l) (hB:B <= w.heap.size) :
  Calls Tryz.prog 63 #[.pointer (some ⟨b,0,none⟩)] w fun e w'=>e = .returned (.string ⟨l.toArray⟩) /\ Below B w w':=by
 refine (Any.Builder_String_any_k (P:=Tryz.prog) (ρ:=Tryz.joinL_ren) { Tryz.joinL with } Tryz.extraJ B b l w h hB).mono ?_
 rintro e w' ⟨rfl, -,h2, -⟩
 exact ⟨rfl,h2⟩
def ln5 (k:Ck):List UInt8:=if pc5 k = ⟨#[]⟩ then [] else (pc5 k).data.toList ++ [10]
def pal5 (ks:List Ck):List UInt8:=ks.flatMap ln5
theorem ba_pos {s:ByteArray} (h:0 < s.size):s ≠ ⟨#[]⟩:=fun e=>by rw [e] at h;exact absurd h (by decide)
theorem pc5_no {k:Ck} (h:ch5 k ≠ 0):pc5 k = ⟨#[]⟩:=by unfold pc5;rw [if_neg h]
theorem ln5_len {k:Ck} (hn:∀ t ∈ Ck.terms k,N64 t.n):(ln5 k).length <= 27000:=by
 unfold ln5
 split
 ·exact Nat.zero_le _
 ·rename_i h
  have hc:ch5 k = 0:=by
   by_cases hc:ch5 k = 0
   ·exact hc
   ·exact absurd (pc5_no hc) h
  have h1:=pc5_len hc hn
  have h2:(pc5 k).data.toList.length = (pc5 k).size:=by rw [Array.length_toList];rfl
  rw [List.length_append,h2]
  simp only [List.length_cons,List.length_nil]
  omega
structure Cx5 (w:World) (v:Value) (l:List Cm):Prop where
 m:∃ a cap,v = .slice a l.length cap /\ (l = [] ∨ ∃ b o,a = some ⟨b,o,none⟩ /\ b < w.heap.size /\ ∀ (j:Nat) (c:Cm),l[j]? = some c -> w.cell? ⟨b,o + j * 7,none⟩ = some (.int .i64 c.head.1.by_.k) /\ w.cell? ⟨b,o + j * 7 + 1,none⟩ = some (.int .i64 c.head.1.by_.n) /\ w.cell? ⟨b,o + j * 7 + 2,none⟩ = some (.string c.head.1.by_.s) /\ w.cell? ⟨b,o + j * 7 + 3,none⟩ = some (.string c.head.1.name) /\ w.cell? ⟨b,o + j * 7 + 4,none⟩ = some c.head.2 /\ w.cell? ⟨b,o + j * 7 + 5,none⟩ = some c.bv /\ w.cell? ⟨b,o + j * 7 + 6,none⟩ = some c.tv)
 ok:∀ c ∈ l,c.ok w
theorem Cx5.below {w w':World} {v:Value} {l:List Cm} (h:Cx5 w v l) (hb:Below w.heap.size w w'):Cx5 w' v l:=by
 obtain ⟨⟨a,cap,e,hm⟩,ho⟩:=h
 refine ⟨⟨a,cap,e,hm.imp id ?_⟩,fun c hc=>(ho c hc).later hb⟩
 rintro ⟨b,o,e1,hlt,hc⟩
 refine ⟨b,o,e1,Nat.lt_of_lt_of_le hlt hb.size,fun j c hj=>?_⟩
 obtain ⟨c0,c1,c2,c3,c4,c5,c6⟩:=hc j c hj
 exact ⟨cell_step hb hlt c0,cell_step hb hlt c1,cell_step hb hlt c2,cell_step hb hlt c3,cell_step hb hlt c4,cell_step hb hlt c5,cell_step hb hlt c6⟩
def Nw5 (c:Cm):Prop:=c.wf /\ ∀ t ∈ c.terms,N64 t.n
set_option maxRecDepth 20000 in
set_option maxHeartbeats 4000000 in
theorem printAll_any (l:List Cm) (v:Value) (w:World) (h:Cx5 w v l) (hl:l.length <= 2000000) (hc:∀ c ∈ l,Nw5 c) (hE:EnvOk w) (hO:OpsOk w) :
  Calls Tryz.prog 27 #[v] w fun e w'=>e = .returned (.string ⟨(pal5 (l.map Cm.key)).toArray⟩) /\ Below w.heap.size w w':=by
 have HP:=hm7 h
 obtain ⟨⟨va,vc,hv,hm⟩, -⟩:=h
 obtain ⟨n,hn⟩:∃ n,l.length = n:=⟨_,rfl⟩
 rw [hn] at hv hl
 subst hv
 have HN:=hm7 hn
 have HM:=hm7 hm
 have HC:=hm7 hc
 have HPR:Hid (∀ (c:Cm) (X:World),c ∈ l -> c.ok X -> Below w.heap.size w X -> Calls Tryz.prog 24 #[c.v] X fun e w'=>e = .returned (.string (pc5 c.key)) /\ Below X.heap.size X w'):=fun c X hcl ho hX=>print5_any c X ho (hc c hcl).1 (hc c hcl).2 (hE.later hX) (hO.fr (P:=fun _=>False) (Fr.of hX) fun h=>h)
 have HB0:=hm7 (below1 w (.cells #[.pointer none,.slice none 0 0] 91))
 have HD0:=hm7 (Bd5.new w)
 clear hn hm hc hE hO
 go_enter Tryz.func27,Tryz.ntmps27
 go_upto_region 2 with fail
 revert HB0 HD0
 generalize w.alloc (.cells #[.pointer none,.slice none 0 0] 91) = W0
 intro HB0 HD0
 obtain ⟨q,hq⟩:∃ q,w.heap.size = q:=⟨_,rfl⟩
 rw [hq] at HD0 ⊢
 have HQ:=hm7 hq
 clear hq
 go_wp2
 go_loopg [9] n (fun g i wr=>∃ j:Nat,j + g = n /\ i = .int .i64 (j:Int) /\ Bd5 wr q q (pal5 ((l.take j).map Cm.key)) /\ (pal5 ((l.take j).map Cm.key)).length <= 27000 * j /\ Below q w wr)
 case atStart=>exact ⟨0,by omega,rfl,HD0.out,Nat.zero_le _,by have:=HB0.out;rw [HQ.out] at this;exact this⟩
 case round=>
  obtain ⟨j,hg,rfl,hbd,hpl,hb⟩:=hrel
  have HD:=hm7 hbd
  have HPL:=hm7 hpl
  have HB:Hid (Below w.heap.size w wr):=by have:=hb;rw [<- HQ.out] at this;exact this
  have HQW:Hid (q <= wr.heap.size):=by have:=hb.size;rw [HQ.out] at this;exact this
  clear hbd hpl hb
  cases gk with
  | succ g=>
   have i0:(0:Int) <= (j:Int):=by omega
   have i1:(j:Int) < (n:Int):=by omega
   obtain ⟨x,hx⟩:∃ c,l[j]? = some c:=⟨_,List.getElem?_eq_getElem (by have:=HN.out;omega)⟩
   have hxl:=List.mem_of_getElem? hx
   have hok:=(HP.out.below HB.out).ok x hxl
   rcases HM.out with e | ⟨sb,so,rfl,hz,hce⟩
   ·rw [e] at hx;simp at hx
   obtain ⟨p0,p1,p2,p3,p4,p5,p6⟩:=hce j x hx
   have q0:=cell_step HB.out hz p0
   have q1:=cell_step HB.out hz p1
   have q2:=cell_step HB.out hz p2
   have q3:=cell_step HB.out hz p3
   have q4:=cell_step HB.out hz p4
   have q5:=cell_step HB.out hz p5
   have q6:=cell_step HB.out hz p6
   have hzr:sb < wr.heap.size:=Nat.lt_of_lt_of_le hz HB.out.size
   clear p0 p1 p2 p3 p4 p5 p6 hce hz
   have HNX:=hm7 (HC.out x hxl)
   have HTK:Hid (pal5 ((l.take (j + 1)).map Cm.key) = pal5 ((l.take j).map Cm.key) ++ ln5 x.key):=by
    show _ = _
    rw [List.take_add_one,hx]
    simp [pal5]
   have HLN:Hid ((ln5 x.key).length <= 27000):=ln5_len fun t ht=>HNX.out.2 t (by rw [key_terms];exact ht)
   have hsh:=hok.shape
   obtain ⟨⟨x1,x2,x3,e1⟩,⟨x4,x6,e2⟩,⟨x7,x9,e3⟩, -, -⟩:=hsh
   have HPX:Hid (∀ X:World,Below wr.heap.size wr X -> Calls Tryz.prog 24 #[x.v] X fun e w'=>e = .returned (.string (pc5 x.key)) /\ Below X.heap.size X w'):=fun X hX=>HPR.out x X hxl (hok.later hX) (below_step HB.out hX)
   obtain ⟨A,hA⟩:∃ A,pal5 ((l.take j).map Cm.key) = A:=⟨_,rfl⟩
   rw [hA] at HD HPL HTK
   obtain ⟨lx,hlx⟩:∃ z,ln5 x.key = z:=⟨_,rfl⟩
   rw [hlx] at HTK HLN
   unfold ln5 at hlx
   obtain ⟨tx,htx⟩:∃ t,pc5 x.key = t:=⟨_,rfl⟩
   rw [htx] at HPX hlx
   obtain ⟨x5,h5⟩:∃ n,x.body.length = n:=⟨_,rfl⟩
   obtain ⟨x8,h8⟩:∃ n,x.tests.length = n:=⟨_,rfl⟩
   rw [h5] at e2
   rw [h8] at e3
   clear hx hxl hok htx hA h5 h8 HNX
   obtain ⟨⟨⟨⟨xk,xm,xs⟩,xn,xl⟩,xx⟩,xb,xbv,xt,xtv⟩:=x
   simp only at q0 q1 q2 q3 q4 q5 q6 e1 e2 e3
   subst e1 e2 e3
   have HBX:=hm7 (below1 wr (.cells #[.int .i64 xk,.int .i64 xm,.string xs,.string xn,.slice x1 x2 x3,.slice x4 x5 x6,.slice x7 x8 x9] 53))
   have HXX:=hm7 (Bk.new wr #[.int .i64 xk,.int .i64 xm,.string xs,.string xn,.slice x1 x2 x3,.slice x4 x5 x6,.slice x7 x8 x9] 53)
   have HXB:Hid (∀ X:World,Below wr.heap.size wr X -> Bd5 X q q A):=fun X hX=>HD.out.later hX
   have HBX1:Hid (∀ X:World,Below (wr.alloc (.cells #[.int .i64 xk,.int .i64 xm,.string xs,.string xn,.slice x1 x2 x3,.slice x4 x5 x6,.slice x7 x8 x9] 53)).heap.size (wr.alloc (.cells #[.int .i64 xk,.int .i64 xm,.string xs,.string xn,.slice x1 x2 x3,.slice x4 x5 x6,.slice x7 x8 x9] 53)) X -> Below wr.heap.size wr X):=fun X hX=>below_step HBX.out hX
   have HBQ:Hid (∀ X:World,Below wr.heap.size wr X -> Below q w X):=fun X hX=>by have:=below_step HB.out hX;rw [HQ.out] at this;exact this
   go_upto_region 5 with fail
   clear q0 q1 q2 q3 q4 q5 q6
   revert HBX HXX HBX1
   generalize wr.alloc (.cells #[.int .i64 xk,.int .i64 xm,.string xs,.string xn,.slice x1 x2 x3,.slice x4 x5 x6,.slice x7 x8 x9] 53) = W1
   generalize wr.heap.size = xbk at *
   intro HBX HXX HBX1
   have HD1:=hm7 (HXB.out W1 HBX.out)
   have HP1:=hm7 (HPX.out W1 HBX.out)
   have c0:=HXX.out.cell (i:=0) rfl
   have c1:=HXX.out.cell (i:=1) rfl
   have c2:=HXX.out.cell (i:=2) rfl
   have c3:=HXX.out.cell (i:=3) rfl
   have c4:=HXX.out.cell (i:=4) rfl
   have c5:=HXX.out.cell (i:=5) rfl
   have c6:=HXX.out.cell (i:=6) rfl
   by_cases he:tx = ⟨#[]⟩
   ·rw [if_pos he] at hlx
    subst he
    subst hlx
    go_wp2_with (go_at_call 24;refine HP1.out.mono ?_;rintro e W2 ⟨rfl,hb⟩;have HB2:=hm7 hb;clear hb c0 c1 c2 c3 c4 c5 c6)
    go_roundg g
    case measure=>omega
    case rel=>
     refine ⟨j + 1,by omega,by go_num, ?_, ?_, ?_⟩
     ·rw [HTK.out,List.append_nil];exact HD1.out.later HB2.out
     ·rw [HTK.out,List.append_nil];have:=HPL.out;omega
     ·exact HBQ.out _ (HBX1.out _ HB2.out)
   ·rw [if_neg he] at hlx
    subst hlx
    have he1:(tx.toList == []) = false:=by rw [strE,decide_eq_false he]
    have he2:tx.toList.isEmpty = false:=by rw [isEK,decide_eq_false he]
    have HTZ:Hid (tx.data.toList.length = tx.size):=by show _ = _;rw [Array.length_toList];rfl
    have hsz:A.length + tx.size + 1 <= 100000000000:=by
     have h1:=HPL.out
     have h2:=HLN.out
     rw [List.length_append,HTZ.out] at h2
     simp only [List.length_cons,List.length_nil] at h2
     have h3:27000 * j <= 27000 * 2000000:=Nat.mul_le_mul_left _ (by omega)
     omega
    have HWS:Hid (∀ X:World,Bd5 X q q A -> q <= X.heap.size -> Calls Tryz.prog 61 #[.pointer (some ⟨q,0,none⟩),.string tx] X fun e w'=>e = .returned (.tuple #[.int .i64 tx.size,.nilIface]) /\ Bd5 w' q q (A ++ tx.data.toList) /\ Below q X w'):=fun X h1 h2=>bdWS_any tx q q A X h1 (by omega) h2
    have HWB:Hid (∀ X:World,Bd5 X q q (A ++ tx.data.toList) -> q <= X.heap.size -> Calls Tryz.prog 62 #[.pointer (some ⟨q,0,none⟩),.int .u8 10] X fun e w'=>e = .returned .nilIface /\ Bd5 w' q q (A ++ tx.data.toList ++ [10]) /\ Below q X w'):=fun X h1 h2=>bdWB_any 10 q q _ X h1 (by rw [List.length_append,HTZ.out];omega) h2
    go_wp2_with (first
     | (go_at_call 24;refine HP1.out.mono ?_;rintro e W2 ⟨rfl,hb⟩;have HB2:=hm7 (HBQ.out _ (HBX1.out _ hb));have HD2:=hm7 (HD1.out.later hb);have HQ2:Hid (q <= W2.heap.size):=(by have:=HB2.out.size;rw [HQ.out] at this;exact this);clear hb c0 c1 c2 c3 c4 c5 c6)
     | (go_at_call 61;refine (HWS.out _ HD2.out HQ2.out).mono ?_;rintro e W3 ⟨rfl,hd,hb⟩;have HB3:=hm7 (HB2.out.trans hb);have HD3:=hm7 hd;have HQ3:Hid (q <= W3.heap.size):=(by have:=HB3.out.size;rw [HQ.out] at this;exact this);clear hb hd)
     | (go_at_call 62;refine (HWB.out _ HD3.out HQ3.out).mono ?_;rintro e W4 ⟨rfl,hd,hb⟩;have HB4:=hm7 (HB3.out.trans hb);have HD4:=hm7 hd;clear hb hd))
    go_roundg g
    case measure=>omega
    case rel=>
     refine ⟨j + 1,by omega,by go_num, ?_, ?_,HB4.out⟩
     ·rw [HTK.out, <- List.append_assoc];exact HD4.out
     ·rw [HTK.out,List.length_append];have:=HPL.out;have:=HLN.out;omega
  | zero=>
   have i1:¬ (j:Int) < (n:Int):=by omega
   have HA:Hid (l.take j = l):=List.take_of_length_le (by have:=HN.out;omega)
   rw [HA.out] at HD
   have HST:=hm7 (bdST_any q q _ wr HD.out HQW.out)
   go_wp2_with (go_at_call 63;refine HST.out.mono ?_;rintro e W9 ⟨rfl,hb⟩;have HB9:=hm7 hb;clear hb)
   go_ret
   refine ⟨rfl,HB.out.trans ?_⟩
   rw [HQ.out]
   exact HB9.out
end Go.Proofs.YtcpjiahdaplhlaaGreatDoor
namespace Go.Proofs.YtcpjiahdaplhlaaGreatDoor
open Go.ChangeShapes Go.WideShapes Go.ChangeAt Go.RowKit Go.Joins Go.Deep
theorem bulkW_mem {H:Type} {d:DataW H}:∀ {l:List (DataW H)},d ∈ l -> Rows.uptoBulk d <= Rows.uptoBulkAll l
 | x :: r,h=>by
  simp only [Rows.uptoBulkAll]
  rcases List.mem_cons.1 h with rfl | h
  ·omega
  ·have:=bulkW_mem h;omega
theorem wf_n64 {t:Tm} (h:WfT t):N64 t.n:=by
 have h:(Lit.int .i64 t.n).wf = true:=h
 simp only [Lit.wf,IntKind.min,IntKind.max,Bool.and_eq_true] at h
 simp [IntKind.signed,IntKind.bits] at h
 unfold N64
 omega
end Go.Proofs.YtcpjiahdaplhlaaGreatDoor
namespace Go.Proofs.YtcpjiahdaplhlaaGreatDoor
open Go.RowKit
set_option maxHeartbeats 400000 in
theorem qhex_any (c:Int) (h0:0 <= c) (h1:c <= 255) (w:World) :
  Calls Tryz.prog 201 #[.int .u8 c] w fun e w'=>e = .returned (.int .i64 ((hexv c).getD (-1))) /\ w' = w:=by
 have cd:=qdigit_any c
 by_cases a:48 <= c /\ c <= 57
 ·have e:dig c = true:=by simp [dig,a]
  have E:hexv c = some (c - 48):=by unfold hexv;rw [if_pos a]
  rw [e] at cd
  rw [E]
  obtain ⟨a1,a2⟩:=a
  clear e E
  go_enter Tryz.func201,Tryz.ntmps201
  go_wp2_with (go_at_call 129;refine (cd _).mono ?_;rintro e w1 ⟨rfl,rfl⟩)
  go_ret
  exact ⟨rfl,rfl⟩
 ·have e:dig c = false:=by simp [dig];omega
  rw [e] at cd
  clear e
  by_cases b:97 <= c /\ c <= 102
  ·have E:hexv c = some (c - 87):=by unfold hexv;rw [if_neg a,if_pos b]
   rw [E]
   obtain ⟨b1,b2⟩:=b
   clear a E
   go_enter Tryz.func201,Tryz.ntmps201
   go_wp2_with (go_at_call 129;refine (cd _).mono ?_;rintro e w1 ⟨rfl,rfl⟩)
   go_ret
   exact ⟨by simp;omega,rfl⟩
  ·by_cases d:65 <= c /\ c <= 70
   ·have E:hexv c = some (c - 55):=by unfold hexv;rw [if_neg a,if_neg b,if_pos d]
    rw [E]
    obtain ⟨d1,d2⟩:=d
    have b1:¬ 97 <= c:=by omega
    clear a b E
    go_enter Tryz.func201,Tryz.ntmps201
    go_wp2_with (go_at_call 129;refine (cd _).mono ?_;rintro e w1 ⟨rfl,rfl⟩)
    go_ret
    exact ⟨by simp;omega,rfl⟩
   ·have E:hexv c = none:=by unfold hexv;rw [if_neg a,if_neg b,if_neg d]
    rw [E]
    clear a E
    have b':c < 97 ∨ (97 <= c /\ 102 < c):=by omega
    have d':c < 65 ∨ (65 <= c /\ 70 < c):=by omega
    clear b d
    rcases b' with b1 | ⟨b1,b2⟩ <;> rcases d' with d1 | ⟨d1,d2⟩ <;> first | (exfalso;omega) | skip
    all_goals
     go_enter Tryz.func201,Tryz.ntmps201
     go_wp2_with (go_at_call 129;refine (cd _).mono ?_;rintro e w1 ⟨rfl,rfl⟩)
     go_ret
     exact ⟨rfl,rfl⟩
def qes (s:ByteArray) (j:Nat):Int × Nat:=match esc ((blK s).drop (j + 1)) with
 | some (b,k)=>(b,k + 1)
 | none=>(0,0)
theorem hex2_short {l:List Int} (h:l.length < 2):hex2 l = none:=by
 match l,h with
 | [],_=>rfl
 | [_],_=>rfl
set_option maxRecDepth 20000 in
set_option maxHeartbeats 2000000 in
theorem qescape_any (s:ByteArray) (j:Nat) (hj:j < s.size) (hs:s.size < 4611686018427387000) (w:World) :
  Calls Tryz.prog 177 #[.string s,.int .i64 j] w fun e w'=>e = .returned (.tuple #[.int .u8 (qes s j).1,.int .i64 ((qes s j).2:Int)]) /\ Below w.heap.size w w':=by
 rcases Nat.lt_or_ge (j + 1) s.size with h | h
 ·have i1:¬ (s.size:Int) <= (j:Int) + 1:=by omega
  have x1:=run_index_atK s (j + 1) h ((j:Int) + 1) (by omega)
  have HE:Hid (∀ c,atK_ s (j + 1) = c -> qes s j = (if c = 34 ∨ c = 92 then (c,2) else if c = 110 then (10,2) else if c = 116 then (9,2) else if c = 120 then (match hex2 ((blK s).drop (j + 2)) with | some b=>(b,4) | none=>(0,0)) else (0,0))):=fun c hc=>by
   unfold qes
   rw [bl_drop h,hc,esc_cons]
   by_cases q1:c = 34 ∨ c = 92
   ·rw [if_pos q1,if_pos q1]
   ·rw [if_neg q1,if_neg q1]
    by_cases q2:c = 110
    ·rw [if_pos q2,if_pos q2]
    ·rw [if_neg q2,if_neg q2]
     by_cases q3:c = 116
     ·rw [if_pos q3,if_pos q3]
     ·rw [if_neg q3,if_neg q3]
      by_cases q4:c = 120
      ·rw [if_pos q4,if_pos q4]
       cases hex2 ((blK s).drop (j + 2)) <;> rfl
      ·rw [if_neg q4,if_neg q4]
  obtain ⟨c,hc⟩:∃ c,atK_ s (j + 1) = c:=⟨_,rfl⟩
  rw [HE.out c hc]
  rw [hc] at x1
  clear HE hc
  by_cases q1:c = 34 ∨ c = 92
  ·rw [if_pos q1]
   rcases q1 with rfl | rfl <;>
   ·go_enter Tryz.func177,Tryz.ntmps177
    go_wp2
    go_ret2
    exact ⟨ret_2 rfl rfl,Below.refl _ _⟩
  ·rw [if_neg q1]
   have n1:(c == 34) = false:=beq_eq_false_iff_ne.2 fun e=>q1 (Or.inl e)
   have n2:(c == 92) = false:=beq_eq_false_iff_ne.2 fun e=>q1 (Or.inr e)
   clear q1
   by_cases q2:c = 110
   ·rw [if_pos q2]
    subst q2
    clear n1 n2
    go_enter Tryz.func177,Tryz.ntmps177
    go_wp2
    go_ret2
    exact ⟨ret_2 rfl rfl,Below.refl _ _⟩
   ·rw [if_neg q2]
    have n3:(c == 110) = false:=beq_eq_false_iff_ne.2 q2
    clear q2
    by_cases q3:c = 116
    ·rw [if_pos q3]
     subst q3
     clear n1 n2 n3
     go_enter Tryz.func177,Tryz.ntmps177
     go_wp2
     go_ret2
     exact ⟨ret_2 rfl rfl,Below.refl _ _⟩
    ·rw [if_neg q3]
     have n4:(c == 116) = false:=beq_eq_false_iff_ne.2 q3
     clear q3
     by_cases q4:c = 120
     ·rw [if_pos q4]
      subst q4
      clear n1 n2 n3 n4
      rcases Nat.lt_or_ge (j + 3) s.size with h3 | h3
      ·have i3:(j:Int) + 3 < (s.size:Int):=by omega
       have x2:=run_index_atK s (j + 2) (by omega) ((j:Int) + 2) (by omega)
       have x3:=run_index_atK s (j + 3) h3 ((j:Int) + 3) (by omega)
       have c2:=qhex_any (atK_ s (j + 2)) (at_range s (j + 2)).1 (at_range s (j + 2)).2
       have c3:=qhex_any (atK_ s (j + 3)) (at_range s (j + 3)).1 (at_range s (j + 3)).2
       rw [bl_drop (show j + 2 < s.size by omega),bl_drop (show j + 2 + 1 < s.size by omega)]
       obtain ⟨a,ha⟩:∃ c,atK_ s (j + 2) = c:=⟨_,rfl⟩
       obtain ⟨b,hb⟩:∃ c,atK_ s (j + 3) = c:=⟨_,rfl⟩
       rw [ha] at x2 c2 ⊢
       rw [show j + 2 + 1 = j + 3 from rfl,hb]
       rw [hb] at x3 c3
       clear ha hb
       cases u:hexv a with
       | none=>
        have e:hex2 (a :: b :: (blK s).drop (j + 3 + 1)) = none:=by simp [hex2,u]
        rw [e]
        rw [u] at c2
        simp only [Option.getD_none] at c2
        clear u e c3
        go_enter Tryz.func177,Tryz.ntmps177
        go_wp2_with (go_at_call 201;with_reducible refine (c2 _).mono ?_;rintro e w1 ⟨rfl,rfl⟩)
        go_ret2
        exact ⟨ret_2 rfl rfl,Below.refl _ _⟩
       | some x=>
        have r1:=hexv_rng u
        have p1:=r1.1
        rw [u] at c2
        simp only [Option.getD_some] at c2
        cases v:hexv b with
        | none=>
         have e:hex2 (a :: b :: (blK s).drop (j + 3 + 1)) = none:=by simp [hex2,u,v]
         rw [e]
         rw [v] at c3
         simp only [Option.getD_none] at c3
         clear u v e r1
         go_enter Tryz.func177,Tryz.ntmps177
         go_wp2_with (first | (go_at_call 201;with_reducible refine (c2 _).mono ?_;rintro e w1 ⟨rfl,rfl⟩) | (go_at_call 201;with_reducible refine (c3 _).mono ?_;rintro e w2 ⟨rfl,rfl⟩))
         go_ret2
         exact ⟨ret_2 rfl rfl,Below.refl _ _⟩
        | some y=>
         have r2:=hexv_rng v
         have p2:=r2.1
         have e:hex2 (a :: b :: (blK s).drop (j + 3 + 1)) = some (x * 16 + y):=by simp [hex2,u,v]
         rw [e]
         rw [v] at c3
         simp only [Option.getD_some] at c3
         have hw1:IntKind.i64.wrap (16 * x) = 16 * x:=by rw [IntKind.wrap_i64];omega
         have hw2:IntKind.i64.wrap (16 * x + y) = 16 * x + y:=by rw [IntKind.wrap_i64];omega
         have hw3:IntKind.u8.wrap (16 * x + y) = 16 * x + y:=by rw [IntKind.wrap_u8];omega
         have HX:Hid (16 * x + y = x * 16 + y):=by show _ = _;omega
         clear u v e r1 r2
         go_enter Tryz.func177,Tryz.ntmps177
         go_upto_region 13 with (first | (go_at_call 201;with_reducible refine (c2 _).mono ?_;rintro e w1 ⟨rfl,rfl⟩) | (go_at_call 201;with_reducible refine (c3 _).mono ?_;rintro e w2 ⟨rfl,rfl⟩))
         go_quiet (first | (go_at_call 201;with_reducible refine (c2 _).mono ?_;rintro e w1 ⟨rfl,rfl⟩;exact ⟨rfl,_,rfl⟩) | (go_at_call 201;with_reducible refine (c3 _).mono ?_;rintro e w2 ⟨rfl,rfl⟩;exact ⟨rfl,_,rfl⟩))
         go_wp2
         go_ret2
         exact ⟨ret_2 (by show Value.int .u8 (16 * x + y) = .int .u8 (x * 16 + y);rw [HX.out]) rfl,below_drewN (Below.refl _ _) _⟩
      ·have i3:¬ (j:Int) + 3 < (s.size:Int):=by omega
       have e:hex2 ((blK s).drop (j + 2)) = none:=hex2_short (by rw [List.length_drop,bl_len];omega)
       rw [e]
       clear e
       go_enter Tryz.func177,Tryz.ntmps177
       go_wp2
       go_ret2
       exact ⟨ret_2 rfl rfl,Below.refl _ _⟩
     ·rw [if_neg q4]
      have n5:(c == 120) = false:=beq_eq_false_iff_ne.2 q4
      clear q4
      go_enter Tryz.func177,Tryz.ntmps177
      go_wp2
      go_ret2
      exact ⟨ret_2 rfl rfl,Below.refl _ _⟩
 ·have i1:(s.size:Int) <= (j:Int) + 1:=by omega
  have E:qes s j = (0,0):=by unfold qes;rw [bl_drop_end h];rfl
  rw [E]
  clear E
  go_enter Tryz.func177,Tryz.ntmps177
  go_wp2
  go_ret2
  exact ⟨ret_2 rfl rfl,Below.refl _ _⟩
end Go.Proofs.YtcpjiahdaplhlaaGreatDoor

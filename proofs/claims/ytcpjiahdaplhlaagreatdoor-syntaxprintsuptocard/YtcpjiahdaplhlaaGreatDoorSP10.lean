import Derived.Test.YtcpjiahdaplhlaaGreatDoorJ4
import Derived.Stop.LaidErr
import Derived.Test.YtcpjiahdaplhlaaGreatDoorSY1
import Derived.Test.YtcpjiahdaplhlaaGreatDoorKR4
import Derived.Test.YtcpjiahdaplhlaaGreatDoorSP8C
import Derived.Test.YtcpjiahdaplhlaaGreatDoorJ1
import Derived.Test.YtcpjiahdaplhlaaGreatDoorSPO
import Derived.Test.YtcpjiahdaplhlaaGreatDoorCards
import Derived.Test.YtcpjiahdaplhlaaGreatDoorTie
import Derived.SevenTiedAt
import Derived.Deep.DeepHandedRow
import Derived.JoinedCond
import Derived.ChangeMaps5
namespace Go.Proofs.YtcpjiahdaplhlaaGreatDoor
open Go.RowKit
theorem Tryz.gES:Tryz.prog.globalNamed "strconv.ErrSyntax" = some 8:=by kernel_rfl
theorem Tryz.gEST:(Tryz.prog.globals[8]?).map (·.type) = some 93:=by kernel_rfl
theorem Tryz.gER:Tryz.prog.globalNamed "strconv.ErrRange" = some 9:=by kernel_rfl
theorem Tryz.gERT:(Tryz.prog.globals[9]?).map (·.type) = some 93:=by kernel_rfl
theorem Tryz.gPW:Tryz.prog.globalNamed "internal/strconv.uint64pow10" = some 6:=by kernel_rfl
theorem Tryz.gPWT:(Tryz.prog.globals[6]?).map (·.type) = some 209:=by kernel_rfl
theorem Tryz.cellsES:Tryz.prog.cellsOf 233 = 1:=by kernel_rfl
theorem Tryz.cellsU64:Tryz.prog.cellsOf 177 = 1:=by kernel_rfl
theorem Tryz.cellsPow:Tryz.prog.cellsOf 209 = 20:=by kernel_rfl
theorem Tryz.star : "*" ++ "errors.errorString" = "*errors.errorString" := by decide
theorem Tryz.rowES (u:TypeId) (h:Tryz.prog.typeName? 3 u = some "*errors.errorString"):u = 231:=
 typeName_ptr_named (nm:="errors.errorString") (by rw [Tryz.star];kernel_rfl) (by kernel_rfl) (by decide) u (by rw [Tryz.star];exact h)
theorem noHandle {W:World} {l:List (String × DataW Unit)} (hl:(l.filter fun x=>x.2.handleName?.isSome) = []) (h:laidMetH Tryz.prog l W):laidMet Tryz.prog l W:=by
 unfold laidMetH at h
 rw [hl] at h
 exact h
end Go.Proofs.YtcpjiahdaplhlaaGreatDoor
namespace Go.Proofs.YtcpjiahdaplhlaaGreatDoor
open Go.RowKit
theorem Tryz.gOps:Tryz.prog.globalNamed "hearsay/syntax.operators" = some 3:=by kernel_rfl
theorem Tryz.tOps:(Tryz.prog.globals[3]?).map (·.type) = some 151:=by kernel_rfl
theorem Tryz.cellsOps:Tryz.prog.cellsOf 151 = 12:=by kernel_rfl
theorem Tryz.cellsOpE:Tryz.prog.cellsOf 150 = 3:=by kernel_rfl
theorem Tryz.cellsInt5:Tryz.prog.cellsOf 3 = 1:=by kernel_rfl
theorem ope_trod {H:Type} {enc:TypeId × Value -> H} {W:World} {base f0:Nat} {spare:Nat -> Bool} {held:Bool} {c3:List Value} {x:DataW H × List MemPlace} {a b:Int} {s:ByteArray}
  (h:DataW.trod enc Tryz.prog W base spare held f0 150 c3 = some x) (hx:x.1 = .agg [.lit (.int .i64 a),.lit (.int .i64 b),.lit (.string s.data.toList)]):c3 = [.int .i64 a,.int .i64 b,.string s]:=by
 obtain ⟨y0,y1,y2,n,rfl,hl,h0,h1,h2⟩:=Go.Deep.trod_struct3 Tryz.underlying150 h
 rw [Tryz.cellsOpE] at hl
 dsimp only at h0 h1 h2 hx
 rw [Tryz.cellsInt5] at h0 h1
 rw [Tryz.cellsStr] at h2
 obtain ⟨n0,e0,f0, -⟩:=DataW.trod_int Tryz.underlying3 h0
 obtain ⟨n1,e1,f1, -⟩:=DataW.trod_int Tryz.underlying3 h1
 obtain ⟨t2,e2,f2, -⟩:=DataW.trod_string Tryz.underlying9 h2
 rw [f0,f1,f2] at hx
 simp only [DataW.agg.injEq,List.cons.injEq,DataW.lit.injEq,Lit.int.injEq,Lit.string.injEq,true_and,and_true] at hx
 obtain ⟨rfl,rfl,hs⟩:=hx
 obtain rfl:t2 = s:=ByteArray.ext (Array.toList_inj.1 hs)
 match c3,hl,e0,e1,e2 with
 | [u,v,z],_,e0,e1,e2=>
  simp at e0 e1 e2
  rw [e0,e1,e2]
set_option maxRecDepth 100000 in
theorem ops_of_trod {H:Type} {enc:TypeId × Value -> H} {W:World} {base f0:Nat} {spare:Nat -> Bool} {held:Bool} {cs0:List Value} {p0:List MemPlace}
  (h:DataW.trod enc Tryz.prog W base spare held f0 151 cs0 = some (Rows.laid_hearsay_syntax_operators,p0)):cs0 = opsV.toList:=by
 obtain ⟨xs,m, -,hx,hl,hn,hel⟩:=DataW.trod_array Tryz.underlying151 h
 rw [Tryz.cellsOps] at hl
 have hx1:xs.map (·.1) = [.agg [.lit (.int .i64 13),.lit (.int .i64 1),.lit (.string (⟨#[61]⟩:ByteArray).data.toList)],.agg [.lit (.int .i64 14),.lit (.int .i64 2),.lit (.string (⟨#[33,61]⟩:ByteArray).data.toList)],.agg [.lit (.int .i64 15),.lit (.int .i64 3),.lit (.string (⟨#[60]⟩:ByteArray).data.toList)],.agg [.lit (.int .i64 16),.lit (.int .i64 4),.lit (.string (⟨#[60,61]⟩:ByteArray).data.toList)]]:=by
  have:=congrArg Prod.fst hx
  simp only [Rows.laid_hearsay_syntax_operators,DataW.agg.injEq] at this
  rw [<- this]
 clear hx h
 match xs,hn,hel,hx1 with
 | [x0,x1,x2,x3],_,hel,hx1=>
  simp only [List.map_cons,List.map_nil,List.cons.injEq,and_true] at hx1
  obtain ⟨g0,g1,g2,g3⟩:=hx1
  have k0:=ope_trod (s:=⟨#[61]⟩) (hel 0 (by omega)) g0
  have k1:=ope_trod (s:=⟨#[33,61]⟩) (hel 1 (by omega)) g1
  have k2:=ope_trod (s:=⟨#[60]⟩) (hel 2 (by omega)) g2
  have k3:=ope_trod (s:=⟨#[60,61]⟩) (hel 3 (by omega)) g3
  rw [Tryz.cellsOpE] at k0 k1 k2 k3
  match cs0,hl,k0,k1,k2,k3 with
  | [a,b,c,d,e,f,g,i,j,k,l,n],_,k0,k1,k2,k3=>
   simp at k0 k1 k2 k3
   obtain ⟨rfl,rfl,rfl⟩:=k0
   obtain ⟨rfl,rfl,rfl⟩:=k1
   obtain ⟨rfl,rfl,rfl⟩:=k2
   obtain ⟨rfl,rfl,rfl⟩:=k3
   rfl
set_option maxRecDepth 100000 in
theorem signs_of_head {W:World} {l:List (String × DataW Unit)} (h:laidMet Tryz.prog (("hearsay/tokens.signs",Rows.laid_hearsay_tokens_signs) :: l) W):SignsOk W:=by
 obtain ⟨ps,⟨g0,t0,cs0,f0,p0,q0,hg0,ht0,hv0,hd0,_,_⟩,_,_⟩:=h
 obtain rfl:=Option.some.inj (Tryz.gSigns.symm.trans hg0)
 obtain rfl:=Option.some.inj (Tryz.tSigns.symm.trans ht0)
 have hc:∀ (i:Nat) (t:ByteArray),signL[i]? = some t -> cs0[i]? = some (.string t):=fun i t ht=>by simpa using (signs_of_trod hd0 i t ht).1
 have hl:cs0.size = 17:=by simpa using (signs_of_trod hd0 5 _ rfl).2
 refine ⟨?_,fun i t ht=>?_⟩
 ·have e:cs0 = signV:=by
   apply Array.ext_getElem?
   intro i
   rcases Nat.lt_or_ge i 17 with h | h
   ·have hs:i < signL.length:=h
    rw [hc i _ (List.getElem?_eq_getElem hs)]
    simp [signV,hs]
   ·rw [Array.getElem?_eq_none (by omega),Array.getElem?_eq_none (by show signV.size <= i;exact h)]
  subst e
  unfold World.var? at hv0
  rw [hg0] at hv0
  simp only [Option.bind_some] at hv0
  split at hv0
  ·rename_i cs t fr he
   cases hv0
   exact ⟨t,fr,he⟩
  ·cases hv0
 ·have:=World.var?_cell hg0 hv0 i
  rw [show W.cell? ⟨2,i,none⟩ = cs0[i]? by simpa using this]
  exact hc i t ht
end Go.Proofs.YtcpjiahdaplhlaaGreatDoor
namespace Go.Proofs.YtcpjiahdaplhlaaGreatDoor
open Go.ChangeShapes Go.WideShapes Go.ChangeAt Go.RowKit
theorem Tryz.gQS:Tryz.prog.globalNamed "hearsay/hearsayref04.signs" = some 4:=by kernel_rfl
theorem Tryz.tQS:(Tryz.prog.globals[4]?).map (·.type) = some 160:=by kernel_rfl
theorem Tryz.gQK:Tryz.prog.globalNamed "hearsay/hearsayref04.kinds" = some 5:=by kernel_rfl
theorem Tryz.tQK:(Tryz.prog.globals[5]?).map (·.type) = some 161:=by kernel_rfl
theorem Tryz.qcellsInt:Tryz.prog.cellsOf 3 = 1:=by kernel_rfl
theorem qsigns_of_trod {H:Type} {enc:TypeId × Value -> H} {W:World} {base f0:Nat} {spare:Nat -> Bool} {held:Bool} {cs0:List Value} {p0:List MemPlace}
  (h:DataW.trod enc Tryz.prog W base spare held f0 160 cs0 = some (Rows.laid_hearsay_hearsayref04_signs,p0)) (i:Nat) (t:ByteArray) (ht:qsL[i]? = some t):cs0[i]? = some (.string t):=by
 obtain ⟨xs,m, -,hx,hl,hn,hel⟩:=DataW.trod_array Tryz.underlying160 h
 have hi:i < 11:=by have:=(List.getElem?_eq_some_iff.1 ht).1;simpa [qsL] using this
 have he:=hel i hi
 rw [Tryz.cellsStr,Nat.mul_one] at he
 have hxs:xs[i]? = some xs[i]:=List.getElem?_eq_getElem (by omega)
 rw [hxs] at he
 obtain ⟨s,e1,e2, -⟩:=DataW.trod_string Tryz.underlying9 he
 have hx1:xs.map (·.1) = qsL.map (fun b=>DataW.lit (.string b.data.toList)):=by
  have:=congrArg Prod.fst hx
  simp only [Rows.laid_hearsay_hearsayref04_signs,DataW.agg.injEq] at this
  rw [<- this];rfl
 have h2:(xs.map (·.1))[i]? = some (DataW.lit (.string t.data.toList)):=by rw [hx1,List.getElem?_map,ht];rfl
 rw [List.getElem?_map,hxs,e2] at h2
 simp only [Option.map_some,Option.some.injEq,DataW.lit.injEq,Lit.string.injEq] at h2
 obtain rfl:s = t:=ByteArray.ext (Array.toList_inj.1 h2)
 have h3:((cs0.drop i).take 1)[0]? = some (.string s):=by rw [e1];rfl
 rw [List.getElem?_take_of_lt (by omega),List.getElem?_drop] at h3
 simpa using h3
theorem qkinds_of_trod {H:Type} {enc:TypeId × Value -> H} {W:World} {base f0:Nat} {spare:Nat -> Bool} {held:Bool} {cs0:List Value} {p0:List MemPlace}
  (h:DataW.trod enc Tryz.prog W base spare held f0 161 cs0 = some (Rows.laid_hearsay_hearsayref04_kinds,p0)) (i:Nat) (k:Int) (ht:qkL[i]? = some k):cs0[i]? = some (.int .i64 k):=by
 obtain ⟨xs,m, -,hx,hl,hn,hel⟩:=DataW.trod_array Tryz.underlying161 h
 have hi:i < 11:=by have:=(List.getElem?_eq_some_iff.1 ht).1;simpa [qkL] using this
 have he:=hel i hi
 rw [Tryz.qcellsInt,Nat.mul_one] at he
 have hxs:xs[i]? = some xs[i]:=List.getElem?_eq_getElem (by omega)
 rw [hxs] at he
 obtain ⟨s,e1,e2, -⟩:=DataW.trod_int Tryz.underlying3 he
 have hx1:xs.map (·.1) = qkL.map (fun b=>DataW.lit (.int .i64 b)):=by
  have:=congrArg Prod.fst hx
  simp only [Rows.laid_hearsay_hearsayref04_kinds,DataW.agg.injEq] at this
  rw [<- this];rfl
 have h2:(xs.map (·.1))[i]? = some (DataW.lit (.int .i64 k)):=by rw [hx1,List.getElem?_map,ht];rfl
 rw [List.getElem?_map,hxs,e2] at h2
 simp only [Option.map_some,Option.some.injEq,DataW.lit.injEq,Lit.int.injEq,true_and] at h2
 subst h2
 have h3:((cs0.drop i).take 1)[0]? = some (.int .i64 s):=by rw [e1];rfl
 rw [List.getElem?_take_of_lt (by omega),List.getElem?_drop] at h3
 simpa using h3
end Go.Proofs.YtcpjiahdaplhlaaGreatDoor
namespace Go.Proofs.YtcpjiahdaplhlaaGreatDoor
open Go.ChangeShapes Go.WideShapes Go.ChangeAt Go.RowKit Go.Deep
theorem Tryz.gSg:Tryz.prog.globalNamed "hearsay/hearsayref05.signs" = some 1:=by kernel_rfl
theorem Tryz.tSg:(Tryz.prog.globals[1]?).map (·.type) = some 88:=by kernel_rfl
theorem Tryz.gMk:Tryz.prog.globalNamed "hearsay/hearsaylaw05.mark" = some 0:=by kernel_rfl
theorem Tryz.tMk:(Tryz.prog.globals[0]?).map (·.type) = some 39:=by kernel_rfl
theorem sgs_of_trod {H:Type} {enc:TypeId × Value -> H} {W:World} {base f0:Nat} {spare:Nat -> Bool} {held:Bool} {cs0:List Value} {p0:List MemPlace}
  (h:DataW.trod enc Tryz.prog W base spare held f0 88 cs0 = some (Rows.laid_hearsay_hearsayref05_signs,p0)) (i:Nat) (t:ByteArray) (ht:sgL[i]? = some t):cs0[i]? = some (.string t):=by
 obtain ⟨xs,m, -,hx,hl,hn,hel⟩:=DataW.trod_array Tryz.underlying88 h
 have hi:i < 5:=by have:=(List.getElem?_eq_some_iff.1 ht).1;simpa [sgL] using this
 have he:=hel i hi
 rw [Tryz.cellsStr,Nat.mul_one] at he
 have hxs:xs[i]? = some xs[i]:=List.getElem?_eq_getElem (by omega)
 rw [hxs] at he
 obtain ⟨s,e1,e2, -⟩:=DataW.trod_string Tryz.underlying9 he
 have hx1:xs.map (·.1) = sgL.map (fun b=>DataW.lit (.string b.data.toList)):=by
  have:=congrArg Prod.fst hx
  simp only [Rows.laid_hearsay_hearsayref05_signs,DataW.agg.injEq] at this
  rw [<- this];rfl
 have h2:(xs.map (·.1))[i]? = some (DataW.lit (.string t.data.toList)):=by rw [hx1,List.getElem?_map,ht];rfl
 rw [List.getElem?_map,hxs,e2] at h2
 simp only [Option.map_some,Option.some.injEq,DataW.lit.injEq,Lit.string.injEq] at h2
 obtain rfl:s = t:=ByteArray.ext (Array.toList_inj.1 h2)
 have h3:((cs0.drop i).take 1)[0]? = some (.string s):=by rw [e1];rfl
 rw [List.getElem?_take_of_lt (by omega),List.getElem?_drop] at h3
 simpa using h3
abbrev laid11:List (String × DataW Unit):=[("hearsay/hearsayref04.signs",Rows.laid_hearsay_hearsayref04_signs),("hearsay/hearsayref04.kinds",Rows.laid_hearsay_hearsayref04_kinds),("hearsay/hearsayref05.signs",Rows.laid_hearsay_hearsayref05_signs),("math/bits.deBruijn32tab",Rows.laid_math_bits_deBruijn32tab),("math/bits.deBruijn64tab",Rows.laid_math_bits_deBruijn64tab),("internal/strconv.uint64pow10",Rows.laid_internal_strconv_uint64pow10),("strconv.ErrRange",Rows.laid_strconv_ErrRange),("strconv.ErrSyntax",Rows.laid_strconv_ErrSyntax),("hearsay/tokens.signs",Rows.laid_hearsay_tokens_signs),("hearsay/syntax.operators",Rows.laid_hearsay_syntax_operators),("hearsay/hearsaylaw05.mark",Rows.laid_hearsay_hearsaylaw05_mark)]
set_option maxRecDepth 100000 in
theorem ops_of_head {W:World} {l:List (String × DataW Unit)} (h:laidMet Tryz.prog (("hearsay/syntax.operators",Rows.laid_hearsay_syntax_operators) :: l) W):OpsOk W:=by
 obtain ⟨ps,⟨g0,t0,cs0,f0,p0,q0,hg0,ht0,hv0,hd0,_,_⟩,_,_⟩:=h
 obtain rfl:=Option.some.inj (Tryz.gOps.symm.trans hg0)
 obtain rfl:=Option.some.inj (Tryz.tOps.symm.trans ht0)
 have e:cs0 = opsV:=Array.toList_inj.1 (ops_of_trod hd0)
 subst e
 unfold World.var? at hv0
 rw [hg0] at hv0
 simp only [Option.bind_some] at hv0
 split at hv0
 ·rename_i cs t fr he
  cases hv0
  exact ⟨t,fr,he⟩
 ·cases hv0
theorem mark_of_head {W:World} {l:List (String × DataW Unit)} (h:laidMet Tryz.prog (("hearsay/hearsaylaw05.mark",Rows.laid_hearsay_hearsaylaw05_mark) :: l) W):MkOk W:=by
 obtain ⟨ps,⟨g1,t1,cs1,f1,p1,q1,hg1,ht1,hv1,hd1,_,_⟩,_,_⟩:=h
 obtain rfl:=Option.some.inj (Tryz.gMk.symm.trans hg1)
 obtain rfl:=Option.some.inj (Tryz.tMk.symm.trans ht1)
 obtain ⟨y0,y1,y2,n, -,hl, -, -, -⟩:=trod_struct3 Tryz.underlying39 hd1
 rw [Tryz.cellsTerm] at hl
 obtain ⟨d,e,hx⟩:=terms_lits hd1 hl
 have hc:∀ i,W.cell? ⟨0,i,none⟩ = d.cs[i]? := fun i=>by
  have:=World.var?_cell hg1 hv1 i
  rw [Tm.cs, <- e];simpa using this
 simp only [Rows.laid_hearsay_hearsaylaw05_mark,DataW.agg.injEq,List.cons.injEq,DataW.lit.injEq,Lit.int.injEq,Lit.string.injEq,true_and,and_true] at hx
 have hs:d.s = ⟨#[109,97,114,107]⟩:=ByteArray.ext (Array.toList_inj.1 hx.2.2.symm)
 have h0:=hc 0;have h1:=hc 1;have h2:=hc 2
 simp only [Tm.cs, <- hx.1, <- hx.2.1,hs] at h0 h1 h2
 exact ⟨World.block_lt_of_cell? W _ h0,h0,h1,h2⟩
set_option maxRecDepth 100000 in
theorem en_of_laid {W:World} (h:laidMetH Tryz.prog laid11 W):En5 W:=by
 have h0:laidMet Tryz.prog laid11 W:=noHandle rfl h
 have h1:=h0.tail
 have h2:=h1.tail
 have h3:=h2.tail
 have hp:laidMet Tryz.prog (("internal/strconv.uint64pow10",Lib.tabData .u64 Lib.pow10Tab) :: [("strconv.ErrRange",Rows.laid_strconv_ErrRange),("strconv.ErrSyntax",Rows.laid_strconv_ErrSyntax),("hearsay/tokens.signs",Rows.laid_hearsay_tokens_signs),("hearsay/syntax.operators",Rows.laid_hearsay_syntax_operators),("hearsay/hearsaylaw05.mark",Rows.laid_hearsay_hearsaylaw05_mark)]) W:=h3.tail.tail
 have hr:=hp.tail
 have hs:=hr.tail
 have hg:=hs.tail
 obtain ⟨a1,s1,hv1, -, -, -⟩:=laid_sentinel hr Tryz.gER Tryz.gERT Tryz.underlying93 Tryz.rowES Tryz.underlying231 Tryz.underlying233 rfl rfl Tryz.underlying9 Tryz.cellsES Tryz.cellsStr
 obtain ⟨a2,s2,hv2, -, -, -⟩:=laid_sentinel hs Tryz.gES Tryz.gEST Tryz.underlying93 Tryz.rowES Tryz.underlying231 Tryz.underlying233 rfl rfl Tryz.underlying9 Tryz.cellsES Tryz.cellsStr
 refine ⟨⟨signs_of_head hg,⟨_,_,hv2⟩,⟨_,_,hv1⟩,Lib.tabIs_of_head Tryz.gPW Tryz.gPWT Tryz.underlying209 Tryz.underlying177 Tryz.cellsU64 Tryz.cellsPow hp⟩,ops_of_head hg.tail,⟨?_, ?_⟩, ?_,mark_of_head hg.tail.tail⟩
 ·obtain ⟨ps,⟨g0,t0,cs0,f0,p0,q0,hg0,ht0,hv0,hd0,_⟩,_⟩:=h0
  obtain rfl:=Option.some.inj (Tryz.gQS.symm.trans hg0)
  obtain rfl:=Option.some.inj (Tryz.tQS.symm.trans ht0)
  intro i t ht
  have:=World.var?_cell hg0 hv0 i
  rw [show W.cell? ⟨4,i,none⟩ = cs0[i]? by simpa using this]
  simpa using qsigns_of_trod hd0 i t ht
 ·obtain ⟨ps,⟨g0,t0,cs0,f0,p0,q0,hg0,ht0,hv0,hd0,_⟩,_⟩:=h1
  obtain rfl:=Option.some.inj (Tryz.gQK.symm.trans hg0)
  obtain rfl:=Option.some.inj (Tryz.tQK.symm.trans ht0)
  intro i t ht
  have:=World.var?_cell hg0 hv0 i
  rw [show W.cell? ⟨5,i,none⟩ = cs0[i]? by simpa using this]
  simpa using qkinds_of_trod hd0 i t ht
 ·obtain ⟨ps,⟨g0,t0,cs0,f0,p0,q0,hg0,ht0,hv0,hd0,_⟩,_⟩:=h2
  obtain rfl:=Option.some.inj (Tryz.gSg.symm.trans hg0)
  obtain rfl:=Option.some.inj (Tryz.tSg.symm.trans ht0)
  intro i t ht
  have:=World.var?_cell hg0 hv0 i
  rw [show W.cell? ⟨1,i,none⟩ = cs0[i]? by simpa using this]
  simpa using sgs_of_trod hd0 i t ht
end Go.Proofs.YtcpjiahdaplhlaaGreatDoor
namespace Go.Proofs.YtcpjiahdaplhlaaGreatDoor
open Go.ChangeShapes Go.WideShapes Go.ChangeAt Go.RowKit
theorem prints_met (os:Os) (args:Array Value):laidMetH Tryz.prog laid11 ((World.doorLaid Tryz.prog 2000 os).forCall (fun _ _=>0) ⟨#[],args,[]⟩).memory:=
 laidMetH_of_parts3 (fuel:=8) (laidMet_of_run' 8 (by kernel_rfl) (by kernel_rfl)) (by kernel_rfl) (by kernel_rfl)
theorem prints_reads (os:Os) {H:Type} (enc:TypeId × Value -> H):∃ places,DataW.whole enc Tryz.prog ((World.doorLaid Tryz.prog 2000 os).forCall (fun _ _=>0) ⟨#[], #[.agg #[.int .i64 0,.int .i64 0,.string ⟨#[]⟩],.agg #[.int .i64 0,.int .i64 0,.string ⟨#[]⟩,.string ⟨#[]⟩,.slice none 0 0],.slice none 0 0],[]⟩).memory Tryz.f4.params.toList Rows.syntaxPrintsSpec.vars false #[.agg #[.int .i64 0,.int .i64 0,.string ⟨#[]⟩],.agg #[.int .i64 0,.int .i64 0,.string ⟨#[]⟩,.string ⟨#[]⟩,.slice none 0 0],.slice none 0 0].toList 8 = some ([.agg [.lit (.int .i64 0),.lit (.int .i64 0),.lit (.string [])],.agg [.agg [.lit (.int .i64 0),.lit (.int .i64 0),.lit (.string [])],.lit (.string []),.nil],.nil],[],places):=
 ⟨[],by kernel_rfl⟩
set_option maxRecDepth 100000 in
theorem prints_lifted (os:Os) (started:os.Started) (H:Type) (enc:TypeId × Value -> H) (F:Stop.Interp) :
  ReturnsInHanded {} Tryz.checked os 4 .any ((Rows.OpenSpec.upto Rows.syntaxPrintsSpec).preRow enc Tryz.prog Tryz.f4 Rows.syntaxPrintsUptoRow.domain false Rows.syntaxPrintsUptoRow.laid) (((Rows.OpenSpec.upto Rows.syntaxPrintsSpec).at F).post enc Tryz.prog Tryz.f4 false true false false):=by
 obtain ⟨places,hx⟩:=prints_reads os enc
 refine returnsInHanded_of_row (C:=Tryz.checked) (s:=Rows.OpenSpec.upto Rows.syntaxPrintsSpec) Tryz.own started (by kernel_rfl) Tryz.func4
  (witness_row_at (enc:=enc) (C:=Tryz.checked) false (World.doorLaid Tryz.prog 2000 os) #[.agg #[.int .i64 0,.int .i64 0,.string ⟨#[]⟩],.agg #[.int .i64 0,.int .i64 0,.string ⟨#[]⟩,.string ⟨#[]⟩,.slice none 0 0],.slice none 0 0] rfl (by kernel_rfl) (by kernel_rfl) (by kernel_rfl)
   (OpenSpec.preRow_of_cond 8 hx (by kernel_rfl) (fun k hk=>by cases hk;kernel_rfl) (by kernel_rfl) (prints_met os _))) ?_
 intro W base args ds gs before hval0 hW _ hcond hsz0 hL0 _ _
 have hk:Rows.uptoSmall H (ds ++ gs) = true:=hcond _ rfl
 have hL:laidMetH Tryz.prog laid11 W:=hL0
 have hval:∀ (j:Nat) t v,Tryz.f4.params[j]? = some t -> args[j]? = some v -> Value.okWide Tryz.prog W .any base t v:=hval0
 have hsz:(DataW.weightsEach Tryz.prog (Tryz.f4.params.toList ++ Rows.syntaxPrintsSpec.plain.varTypes Tryz.prog) (ds ++ gs)).all (· <= reachBytes) = true:=hsz0
 have hW':=hW
 obtain ⟨p,q,hA0,hV,rfl,hfz,hnd⟩:=hW
 have hA:DataW.TrodAll enc Tryz.prog W 0 (fun _=>true) true Tryz.f4.params.toList args.toList ds p:=hA0
 rw [Tryz.params4] at hA hval hsz
 obtain ⟨v0,vs0,d0,ds0,p0,q0,hargs,rfl,rfl,h0,r0⟩:=trodAll_cons hA
 obtain ⟨v1,vs1,d1,ds1,p1,q1,rfl,rfl,rfl,h1,r1⟩:=trodAll_cons r0
 obtain ⟨v2,vs2,d2,ds2,p2,q2,rfl,rfl,rfl,h2,r2⟩:=trodAll_cons r1
 obtain ⟨rfl,rfl,rfl⟩:=trodAll_nil r2
 obtain rfl:args = #[v0,v1,v2]:=by cases args;simp_all
 obtain ⟨rfl,rfl⟩:=trodVars_none hV
 have k0:=h0
 have lt0:∀ x ∈ p0,x.block < W.heap.size:=by obtain ⟨m,hm⟩:=k0;exact DataW.trod_lt m _ _ _ hm
 have k1:=h1
 have lt1:∀ x ∈ p1,x.block < W.heap.size:=by obtain ⟨m,hm⟩:=k1;exact DataW.trod_lt m _ _ _ hm
 have k2:=h2
 have lt2:∀ x ∈ p2,x.block < W.heap.size:=by obtain ⟨m,hm⟩:=k2;exact DataW.trod_lt m _ _ _ hm
 have sz:∀ n ∈ DataW.weightsEach Tryz.prog _ _,n <= reachBytes:=fun n hn=>by simpa using List.all_eq_true.1 hsz n hn
 obtain ⟨t,rfl,ht⟩:=open_termZ5 (hval 0 39 v0 rfl rfl) h0
 obtain ⟨a,y,rfl,hy,hal,hwa⟩:=open_atomZ5 (hval 1 42 v1 rfl rfl) h1 (fun n hn=>sz n (DataW.weights_mem_each (j:=1) rfl rfl n hn))
 obtain ⟨a0,len,cap,rfl⟩:=okWide_slice Tryz.underlying33 (hval 2 33 v2 rfl rfl)
 obtain ⟨fuel,hf⟩:=h2
 obtain ⟨v,l,e,hcs,hco,hll,hlt⟩:=open_clausesZ hf (fun n hn=>sz n (DataW.weights_mem_each (j:=2) rfl rfl n hn))
 simp [Value.cells] at e
 subst e
 simp only at hll hlt
 have hbk:Rows.uptoBulkAll ([d0,d1,d2] ++ []) <= 1048576:=of_decide_eq_true hk
 simp only [List.cons_append,List.nil_append,Rows.uptoBulkAll] at hbk
 have hpl:a.pl.length = a.args.length + 1:=rfl
 clear hA0 hval0
 refine (prints_any t a y l _ W (sz_n64 ht) hy (by omega) (fun t ht=>sz_n64 (hwa t ht)) hcs (fun c hc=>(hco c hc).op (by have:=hlt c hc;omega)) (by omega) (en_of_laid hL)).mono fun e W' ⟨he,bel⟩=>?_
 subst he
 exact ⟨_,rfl,_,_,_,[],_,[],hW',trodAll_mk1 (shut_bool Tryz.underlying4 _),(trodAll_cons_mk (Below.trod Tryz.laidOut (by kernel_rfl) (of_decide_eq_true (by kernel_rfl)) k0 bel lt0) (trodAll_cons_mk (Below.trod Tryz.laidOut (by kernel_rfl) (of_decide_eq_true (by kernel_rfl)) k1 bel lt1) (trodAll_cons_mk (Below.trod Tryz.laidOut (by kernel_rfl) (of_decide_eq_true (by kernel_rfl)) k2 bel lt2) trodAll_mk0))),rfl,bel.frame _,fun h=>by cases h⟩
theorem syntaxPrints_row:Rows.SyntaxPrintsUptoSaid:=
 OpenClaim.holds_of_cond 4 Tryz.f4 rfl rfl rfl rfl rfl rfl rfl ⟨rfl,rfl,rfl,rfl,rfl⟩ rfl rfl rfl rfl rfl (by kernel_rfl) Tryz.func4 (by kernel_rfl)
  (of_decide_eq_true (by kernel_rfl)) (by unfold Func.isWrapper;first | (rw [if_pos (by decide +kernel)];kernel_rfl) | (rw [if_neg (by decide +kernel)];exact ⟨rfl,rfl⟩))
  (fun os started H enc _ F=>by rw [OpenClaim.pre_eq_preRow];exact prints_lifted os started H enc F)
theorem syntaxPrints_holds:Rows.SyntaxPrintsUptoCardSaid:=
 Claim7.holds_tied_plain_at .later [] _ _ _ _
  syntaxPrints_row (fun _ h=>by cases h) (by kernel_rfl) (fun _ h=>by cases h) syntaxPrintsUpto_row_tie rfl ⟨rfl,rfl⟩ (by kernel_rfl) rfl
  (fun f fn hf hfn=>by
   obtain rfl:f = 4:=Option.some.inj ((show Tryz.prog.funcNamed "hearsay/hearsaylaw05.SyntaxPrints" = some 4 by kernel_rfl).symm.trans hf) |>.symm
   obtain rfl:fn = Tryz.f4:=(Option.some.inj (Tryz.func4.symm.trans hfn)).symm
   exact ⟨by kernel_rfl,fun j t ht=>by
    rw [Tryz.params4] at ht
    have h3:t = 39 ∨ t = 42 ∨ t = 33:=by
     rcases j with _ | _ | _ | j
     ·left;simpa using ht.symm
     ·right;left;simpa using ht.symm
     ·right;right;simpa using ht.symm
     ·simp at ht
    rcases h3 with h3 | h3 | h3
    ·rw [h3];exact (show Tryz.prog.wantsStandIn 39 = false by kernel_rfl)
    ·rw [h3];exact (show Tryz.prog.wantsStandIn 42 = false by kernel_rfl)
    ·rw [h3];exact (show Tryz.prog.wantsStandIn 33 = false by kernel_rfl)⟩)
  (by kernel_rfl)
#print axioms syntaxPrints_holds
end Go.Proofs.YtcpjiahdaplhlaaGreatDoor

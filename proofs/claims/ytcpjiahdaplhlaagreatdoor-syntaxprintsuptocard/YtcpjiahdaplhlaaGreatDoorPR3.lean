import Derived.Shelf.Strings.OnBuilder
import Derived.Ground.NamesProg
import Derived.Test.YtcpjiahdaplhlaaGreatDoorProg
import Derived.Test.YtcpjiahdaplhlaaGreatDoorPR1
import Derived.Test.YtcpjiahdaplhlaaGreatDoorSY7
import Derived.Test.YtcpjiahdaplhlaaGreatDoorCL5
/-
  DERIVED: THE SHELF's CONTRACTS AT THIS DUMP, IN PLAIN WORDS (tools/lay-plain.mjs out of 'YtcpjiahdaplhlaaGreatDoorShelf2.lean', which tools/lay-shelf.mjs wrote): THE SAME DECLARATIONS UNDER THE SAME NAMES: 'import', 'namespace', 'open', 'def', 'theorem' AND NOTHING ELSE: no command of the shelf's: FOR A HAND-IN. Each laying: the table of numbers ('.._ren') and one theorem, a field a fact of the dump's own or the kernel's comparison; each contract: ONE APPLICATION.
-/
namespace Go.Proofs
open Go.Shelf
def Tryz.joinL_ren : Go.Shelf.Ren := ⟨fun | 156 => 55 | 165 => 95 | 166 => 61 | 169 => 63 | 240 => 107 | 241 => 133 | 276 => 141 | 277 => 167 | n => n, fun | 31 => 68 | 9 => 9 | 3 => 3 | 4 => 4 | 0 => 0 | 20 => 20 | 72 => 91 | 76 => 94 | 70 => 89 | 37 => 67 | 75 => 93 | 127 => 126 | 164 => 152 | 5 => 5 | 80 => 97 | n => n, fun | n => n⟩
theorem Tryz.joinL : Go.Proofs.Lays.n156 Tryz.prog Tryz.joinL_ren := {
  mixed := by kernel_rfl
  f156 := Tryz.func55.trans (congrArg some (by kernel_rfl))
  f165 := Tryz.func95.trans (congrArg some (by kernel_rfl))
  f166 := Tryz.func61.trans (congrArg some (by kernel_rfl))
  f169 := Tryz.func63.trans (congrArg some (by kernel_rfl))
  f240 := Tryz.func107.trans (congrArg some (by kernel_rfl))
  f241 := Tryz.func133.trans (congrArg some (by kernel_rfl))
  f276 := Tryz.func141.trans (congrArg some (by kernel_rfl))
  f277 := Tryz.func167.trans (congrArg some (by kernel_rfl))
  t0 := Tryz.underlying0
  a0 := Tryz.isAgg0
  z0 := Tryz.sizeOf0
  v0 := Tryz.zeroValue0
  t3 := Tryz.underlying3
  a3 := Tryz.isAgg3
  z3 := Tryz.sizeOf3
  v3 := Tryz.zeroValue3
  t4 := Tryz.underlying4
  a4 := Tryz.isAgg4
  z4 := Tryz.sizeOf4
  v4 := Tryz.zeroValue4
  t9 := Tryz.underlying9
  a9 := Tryz.isAgg9
  z9 := Tryz.sizeOf9
  v9 := Tryz.zeroValue9
  t20 := Tryz.underlying20
  a20 := Tryz.isAgg20
  z20 := Tryz.sizeOf20
  v20 := Tryz.zeroValue20
  t31 := Tryz.underlying68
  a31 := Tryz.isAgg68
  z31 := Tryz.sizeOf68
  v31 := Tryz.zeroValue68
  t37 := Tryz.underlying67
  a37 := Tryz.isAgg67
  z37 := Tryz.sizeOf67
  v37 := Tryz.zeroValue67
  t70 := Tryz.underlying89
  a70 := Tryz.isAgg89
  z70 := Tryz.sizeOf89
  v70 := Tryz.zeroValue89
  t72 := Tryz.underlying91
  a72 := Tryz.isAgg91
  z72 := Tryz.sizeOf91
  v72 := Tryz.zeroValue91
  t75 := Tryz.underlying93
  a75 := Tryz.isAgg93
  z75 := Tryz.sizeOf93
  v75 := Tryz.zeroValue93
  t76 := Tryz.underlying94
  a76 := Tryz.isAgg94
  z76 := Tryz.sizeOf94
  v76 := Tryz.zeroValue94
  t127 := Tryz.underlying126
  a127 := Tryz.isAgg126
  z127 := Tryz.sizeOf126
  v127 := Tryz.zeroValue126
  t164 := Tryz.underlying152
  a164 := Tryz.isAgg152
  z164 := Tryz.sizeOf152
  v164 := Tryz.zeroValue152 }
end Go.Proofs
namespace Go.Proofs.YtcpjiahdaplhlaaGreatDoor
open Go.RowKit
attribute [local go_sem ↓] Go.wp_at_zero Go.wp_at_succ
theorem Tryz.extraJ:Builder.Extra Tryz.prog Tryz.joinL_ren where
 sizeBuilder:=by kernel_rfl
 liesBuilder:=by kernel_rfl
 t5:=Tryz.underlying5
 a5:=Tryz.isAgg5
 z5:=Tryz.sizeOf5
 v5:=Tryz.zeroValue5
 infoByte:=by kernel_rfl
 cellsByte:=by kernel_rfl
 sizeByte:=by kernel_rfl
 neB5:=by decide
def jn5 (xs:List ByteArray) (sep:ByteArray):ByteArray:=⟨(Lib.join (xs.map (·.data.toList)) sep.data.toList).toArray⟩
theorem lens5 (M:Nat):∀ l:List (List UInt8),(∀ x ∈ l,x.length <= M) -> Lib.lens l <= M * l.length
 | [],_=>Nat.zero_le _
 | x :: l,h=>by
  have h1:=lens5 M l fun y hy=>h y (List.mem_cons_of_mem _ hy)
  have h2:=h x (List.mem_cons_self ..)
  have h3:Lib.lens (x :: l) = x.length + Lib.lens l:=by simp [Lib.lens]
  rw [h3,List.length_cons,Nat.mul_succ]
  omega
theorem jn5_len (M:Nat) (xs:List ByteArray) (sep:ByteArray) (hx:∀ x ∈ xs,x.size <= M):(jn5 xs sep).size <= (M + sep.size) * xs.length:=by
 show (Lib.join (xs.map (·.data.toList)) sep.data.toList).toArray.size <= _
 rw [List.size_toArray]
 cases xs with
 | nil=>exact Nat.le_refl _
 | cons x r=>
  rw [List.map_cons,Lib.join_length]
  have h1:=lens5 M (x.data.toList :: r.map (·.data.toList)) (fun y hy=>by
   rcases List.mem_cons.1 hy with rfl | hy
   ·exact hx x (List.mem_cons_self ..)
   ·obtain ⟨z,hz,rfl⟩:=List.mem_map.1 hy
    exact hx z (List.mem_cons_of_mem _ hz))
  rw [List.length_cons,List.length_map] at h1
  rw [List.length_map,List.length_cons,Nat.add_mul]
  have h2:sep.data.toList.length = sep.size:=rfl
  rw [h2]
  have h3:sep.size * r.length <= sep.size * (r.length + 1):=Nat.mul_le_mul_left _ (Nat.le_succ _)
  omega
theorem sl5_get:∀ {xs:List ByteArray} {j:Nat} {x:ByteArray},xs[j]? = some x -> (xs.map Value.string)[j]? = some (.string x):=fun h=>by rw [List.getElem?_map,h];rfl
theorem join5_any (xs:List ByteArray) (sep:ByteArray) (v:Value) (w:World) (base:Nat) (ho:w.ownsRow base 9 1 v xs.length (xs.map Value.string)) (h0:xs ≠ []) (hx:∀ x ∈ xs,x.size <= 100000) (hl:xs.length <= 1000) (hs:sep.size <= 10) :
  Calls Tryz.prog 55 #[v,.string sep] w fun e w'=>e = .returned (.string (jn5 xs sep)) /\ Below w.heap.size w w':=by
 have h1:0 < xs.length:=List.length_pos_iff.2 h0
 have hj:=jn5_len 100000 xs sep hx
 have hb:(100000 + sep.size) * xs.length <= 140737488355328:=Nat.le_trans (Nat.mul_le_mul (show 100000 + sep.size <= 100010 by omega) hl) (by decide)
 rcases ho.2 with ⟨-,hn⟩ | ⟨g,cap,cur,rfl, -,hg,hn, -⟩
 ·omega
 ·exact Any.strings_Join Tryz.joinL Tryz.extraJ g 0 cap xs sep w (fun j x hx=>by
   obtain ⟨g',e1, -, -,h2, -⟩:=row7_at ho (sl5_get hx)
   cases e1
   rw [Nat.zero_add]
   exact h2) (Array.getElem?_eq_some_iff.1 hg).1 (by omega) hn (by
   have:(Lib.join (xs.map (·.data.toList)) sep.data.toList).length = (jn5 xs sep).size:=by
    show _ = (Lib.join (xs.map (·.data.toList)) sep.data.toList).toArray.size
    rw [List.size_toArray]
   rw [this]
   omega)
theorem Tryz.infoStr5:(Tryz.prog.info? 9).map (fun i=>(i.zero,i.size,i.bytes)) = some (some (.string ⟨#[]⟩),1,16):=by kernel_rfl
end Go.Proofs.YtcpjiahdaplhlaaGreatDoor
namespace Go.Proofs.YtcpjiahdaplhlaaGreatDoor
open Go.RowKit
attribute [local go_sem ↓] Go.wp_at_zero Go.wp_at_succ
def po5 (a:At):ByteArray:=if a.by_.k = 0 then a.name else (pt5 a.by_ ++ (⟨#[32,115,97,121,115,32]⟩:ByteArray)) ++ a.name
def pa5 (a:At):ByteArray:=if a.err = 0 then (if a.args = [] then po5 a else ((po5 a ++ (⟨#[40]⟩:ByteArray)) ++ jn5 (a.args.map pt5) ⟨#[44,32]⟩) ++ (⟨#[41]⟩:ByteArray)) else ⟨#[]⟩
theorem err5_len {a:At} (h:a.err = 0):a.name.size <= 64 /\ a.args.length <= 8:=by
 unfold At.err at h
 by_cases h1:nameOk a.name = false
 ·rw [if_pos h1] at h;exact absurd h (by decide)
 ·rw [if_neg h1] at h
  by_cases h2:8 < a.args.length
  ·rw [if_pos h2] at h;exact absurd h (by decide)
  ·refine ⟨?_,by omega⟩
   have h3:nameOk a.name = true:=by simpa using h1
   unfold nameOk at h3
   have h4:=(Bool.and_eq_true_iff.1 h3).1
   unfold nameHead at h4
   simp at h4
   omega
theorem po5_len (a:At) (hn:N64 a.by_.n) (hs:a.name.size <= 64):(po5 a).size <= 370:=by
 unfold po5
 have:=pt5_len a.by_ hn
 have e:(⟨#[32,115,97,121,115,32]⟩:ByteArray).size = 6:=rfl
 split
 ·omega
 ·rw [ByteArray.size_append,ByteArray.size_append];omega
theorem pa5_len (a:At) (hn:∀ t ∈ a.pl,N64 t.n):(pa5 a).size <= 4000:=by
 unfold pa5
 by_cases h:a.err = 0
 ·obtain ⟨h1,h2⟩:=err5_len h
  have h3:=po5_len a (hn _ (List.mem_cons_self ..)) h1
  rw [if_pos h]
  split
  ·omega
  ·rw [ByteArray.size_append,ByteArray.size_append,ByteArray.size_append]
   have h4:=jn5_len 300 (a.args.map pt5) ⟨#[44,32]⟩ (fun x hx=>by
    obtain ⟨t,ht,rfl⟩:=List.mem_map.1 hx
    exact pt5_len t (hn t (List.mem_cons_of_mem _ ht)))
   rw [List.length_map] at h4
   have e1:(⟨#[40]⟩:ByteArray).size = 1:=rfl
   have e2:(⟨#[41]⟩:ByteArray).size = 1:=rfl
   have e3:(⟨#[44,32]⟩:ByteArray).size = 2:=rfl
   rw [e3] at h4
   have h5:(300 + 2) * a.args.length <= 302 * 8:=Nat.mul_le_mul_left _ h2
   omega
 ·rw [if_neg h]
  decide
set_option maxRecDepth 20000 in
set_option maxHeartbeats 4000000 in
theorem printAtom_any (a:At) (y:Value) (w:World) (h:Ts w y a.args) (hn:∀ t ∈ a.pl,N64 t.n) (hE:EnvOk w) :
  Calls Tryz.prog 19 #[a.v y] w fun e w'=>e = .returned (.string (pa5 a)) /\ Below w.heap.size w w':=by
 obtain ⟨ya,yc,hyf,hyl,hyr⟩:=h
 have hts:Ts w y a.args:=⟨ya,yc,hyf,hyl,hyr⟩
 obtain ⟨yn,hyn⟩:∃ yn,a.args.length = yn:=⟨_,rfl⟩
 rw [hyn] at hyf
 subst hyf
 have HB0:=hm7 (below1 w (.cells #[.int .i64 a.by_.k,.int .i64 a.by_.n,.string a.by_.s,.string a.name,.slice ya yn yc] 42))
 have HX0:=hm7 (Bk.new w #[.int .i64 a.by_.k,.int .i64 a.by_.n,.string a.by_.s,.string a.name,.slice ya yn yc] 42)
 have HCK:=hm7 (chk_any a (.slice ya yn yc) _ (hts.later HB0.out))
 have HE:=hm7 hE
 have HTS:=hm7 hts
 have HYN:=hm7 hyn
 have HN:=hm7 hn
 obtain ⟨R,hR⟩:∃ R,pa5 a = R:=⟨_,rfl⟩
 rw [hR]
 unfold pa5 at hR
 obtain ⟨er,her⟩:∃ er,a.err = er:=⟨_,rfl⟩
 rw [her] at hR HCK
 show Calls Tryz.prog 19 #[.agg #[.int .i64 a.by_.k,.int .i64 a.by_.n,.string a.by_.s,.string a.name,.slice ya yn yc]] w _
 clear hts hyr hyl hn hE hyn
 have c0:=HX0.out.cell (i:=0) rfl
 have c1:=HX0.out.cell (i:=1) rfl
 have c2:=HX0.out.cell (i:=2) rfl
 have c3:=HX0.out.cell (i:=3) rfl
 have c4:=HX0.out.cell (i:=4) rfl
 by_cases he:er = 0
 ·subst he
  rw [if_pos rfl] at hR
  obtain ⟨hs1,hs2⟩:=err5_len her
  rw [HYN.out] at hs2
  have HPB:Hid (∀ X:World,EnvOk X -> Calls Tryz.prog 17 #[.agg #[.int .i64 a.by_.k,.int .i64 a.by_.n,.string a.by_.s]] X fun e w'=>e = .returned (.string (pt5 a.by_)) /\ Below X.heap.size X w'):=fun X hX=>printTerm_any a.by_ (HN.out _ (List.mem_cons_self ..)) X hX
  have HPO:=hm7 (po5_len a (HN.out _ (List.mem_cons_self ..)) hs1)
  have hpl:=pt5_len a.by_ (HN.out _ (List.mem_cons_self ..))
  obtain ⟨po,hpo⟩:∃ p,po5 a = p:=⟨_,rfl⟩
  rw [hpo] at hR HPO
  unfold po5 at hpo
  go_enter Tryz.func19,Tryz.ntmps19
  go_upto_region 4 with (go_at_call 54;refine HCK.out.mono ?_;rintro e w1 ⟨rfl,hb⟩;have HB1:=hm7 (HB0.out.trans (hb.mono HB0.out.size));have HX1:=hm7 (HX0.out.below hb);clear hb c0 c1 c2 c3 c4;have c0:=HX1.out.cell (i:=0) rfl;have c1:=HX1.out.cell (i:=1) rfl;have c2:=HX1.out.cell (i:=2) rfl;have c3:=HX1.out.cell (i:=3) rfl;have c4:=HX1.out.cell (i:=4) rfl)
  by_cases hk:a.by_.k = 0
  ·rw [if_pos hk] at hpo
   subst hpo
   have HWW:Hid (∃ WW,WW = w1):=⟨w1,rfl⟩
   obtain ⟨WW,hWW⟩:=HWW.out
   rw [hk] at c0
   have hbk0:a.by_.k = 0:=hk
   have HBW:Hid (Below w.heap.size w WW):=by rw [hWW];exact HB1.out
   subst hWW
   clear hk hbk0 HWW
   go_upto_region 6 with fail
   by_cases hz:yn = 0
   ·have hne:a.args = []:=List.eq_nil_of_length_eq_zero (by rw [HYN.out];exact hz)
    rw [if_pos hne] at hR
    subst hR
    subst hz
    go_wp2
    go_ret
    exact ⟨rfl,HBW.out⟩
   ·have hz2:((yn:Int) == 0) = false:=by simp;omega
    have HNE:Hid (a.args ≠ []):=fun e=>hz (by rw [<- HYN.out,e];rfl)
    rw [if_neg HNE.out] at hR
    have HPT:Hid (∀ t ∈ a.args,∀ X:World,EnvOk X -> Calls Tryz.prog 17 #[t.v] X fun e w'=>e = .returned (.string (pt5 t)) /\ Below X.heap.size X w'):=fun t ht X hX=>printTerm_any t (HN.out _ (List.mem_cons_of_mem _ ht)) X hX
    have HTW:=hm7 (HTS.out.later HBW.out)
    have HR:=hm7 hR
    clear hR
    go_upto_region 10 with fail
    go_wp2
    clear c0 c1 c2 c3 c4
    go_loopg [4,6,30] yn (fun gk u _ i wr=>∃ j:Nat,j + gk = yn /\ i = .int .i64 j /\ wr.ownsRow WW.heap.size 9 1 u j (((a.args.take j).map pt5).map Value.string) /\ Below WW.heap.size WW wr)
    case atStart=>exact ⟨0,by omega,rfl,World.ownsRow_nil _ _ _ _,Below.refl _ _⟩
    case round=>
     obtain ⟨j,hj,rfl,ho,hb⟩:=hrel
     have HB:=hm7 hb
     have HO:=hm7 ho
     obtain ⟨ua,uc,huf, -⟩:=row7_form ho
     subst huf
     have hsz:=hb.size
     clear hb ho
     cases gk with
     | succ gk=>
      have hlt:(j:Int) < (yn:Int):=by omega
      have hj8:j <= 8:=by omega
      obtain ⟨t,ht⟩:∃ t,a.args[j]? = some t:=⟨a.args[j]'(by rw [HYN.out];omega),List.getElem?_eq_getElem _⟩
      have HTK:Hid (a.args.take (j + 1) = a.args.take j ++ [t]):=by show _ = _;rw [List.take_add_one,ht];rfl
      have HTM:=hm7 (HPT.out t (List.mem_of_getElem? ht))
      obtain ⟨ya2,yc2,hyf2, -,hyr2⟩:=HTW.out
      rw [HYN.out] at hyf2
      cases hyf2
      rcases hyr2 with e | ⟨tb,toff,rfl,htr⟩
      ·exact absurd e HNE.out
      have d0:=(Fr.of (P:=fun _=>False) HB.out).cell htr.1 (fun z=>z) (htr.2 j t ht).1
      have d1:=(Fr.of (P:=fun _=>False) HB.out).cell htr.1 (fun z=>z) (htr.2 j t ht).2.1
      have d2:=(Fr.of (P:=fun _=>False) HB.out).cell htr.1 (fun z=>z) (htr.2 j t ht).2.2
      have HEW:=hm7 (HE.out.later (HBW.out.trans (HB.out.mono HBW.out.size)))
      clear htr ht
      obtain ⟨tk,tn,ts⟩:=t
      dsimp only at d0 d1 d2
      have HB1x:=hm7 (below1 wr (.cells #[.int .i64 tk,.int .i64 tn,.string ts] 39))
      obtain ⟨px,hpx⟩:∃ px,pt5 ⟨tk,tn,ts⟩ = px:=⟨_,rfl⟩
      rw [hpx] at HTM
      have HPX:=hm7 hpx
      clear hpx
      go_wp2_with (first
       | (go_at_call 17;refine (HTM.out _ (HEW.out.later HB1x.out)).mono ?_;rintro e w5 ⟨rfl,hb⟩;have HB5:=hm7 (HB1x.out.trans (hb.mono HB1x.out.size));clear hb d0 d1 d2;have HO5:=hm7 (row7_below (row7_below HO.out HB5.out) (below1 w5 (.cells #[.string px] 9)));have hsz5:=HB5.out.size)
       | (at_builtin;refine gapp5 Tryz.underlying68 Tryz.infoStr5 rfl (by decide) (by decide) rfl _ _ rfl WW.heap.size (.slice ua j uc) j _ rfl HO5.out w5.heap.size #[.string px] rfl (Bk.new _ _ _) rfl (by simp [Value.oneCell']) (by omega) (by simp;omega) ?_;intro g6 q6 w6 ho6 hg6 hv6 hl6;have HO6:=hm7 ho6;have HG6:=hm7 hg6;clear ho6 hg6 hv6 hl6))
      have HF6:Hid (Fr (fun b=>WW.heap.size <= b) (w5.alloc (.cells #[.string px] 9)) w6):=Fr.grown HG6.out fun b hb=>(World.ownsRow.lt HO5.out b hb).1
      try go_wp2
      go_roundg gk
      case measure=>omega
      case rel=>
       refine ⟨j + 1,by omega,by go_num, ?_, ?_⟩
       ·rw [HTK.out,List.map_append,List.map_append]
        have:=HO6.out
        simpa [HPX.out] using this
       ·exact HB.out.trans (Fr.low (((Fr.of (P:=fun b=>WW.heap.size <= b) HB5.out).then (below1 _ _)).tr HF6.out) hsz)
     | zero=>
      obtain rfl:j = yn:=by omega
      have hlt:¬ (j:Int) < (j:Int):=by omega
      have HO2:Hid (wr.ownsRow WW.heap.size 9 1 (.slice ua j uc) (a.args.map pt5).length ((a.args.map pt5).map Value.string)):=by
       have:=HO.out
       rw [List.take_of_length_le (by rw [HYN.out];exact Nat.le_refl _)] at this
       show World.ownsRow _ _ _ _ _ _ _
       rw [List.length_map,HYN.out]
       exact this
      have HJL:=hm7 (jn5_len 300 (a.args.map pt5) ⟨#[44,32]⟩ (fun x hx=>by
       obtain ⟨t,ht,rfl⟩:=List.mem_map.1 hx
       exact pt5_len t (HN.out t (List.mem_cons_of_mem _ ht))))
      have HJ:=hm7 (join5_any (a.args.map pt5) ⟨#[44,32]⟩ _ wr _ HO2.out (fun e=>HNE.out (List.map_eq_nil_iff.1 e)) (fun x hx=>by
       obtain ⟨t,ht,rfl⟩:=List.mem_map.1 hx
       have:=pt5_len t (HN.out t (List.mem_cons_of_mem _ ht))
       omega) (by rw [List.length_map,HYN.out];omega) (by decide))
      obtain ⟨jn,hjn⟩:∃ jn,jn5 (a.args.map pt5) ⟨#[44,32]⟩ = jn:=⟨_,rfl⟩
      have hjl:jn.size <= 3000:=by
       have:=HJL.out
       rw [hjn,List.length_map,HYN.out,show (⟨#[44,32]⟩:ByteArray).size = 2 from rfl] at this
       have h5:(300 + 2) * j <= 302 * 8:=Nat.mul_le_mul_left _ hs2
       omega
      have hR2:=HR.out
      rw [hjn] at HJ hR2
      have hpl2:=HPO.out
      obtain ⟨A1,hA1⟩:∃ A,a.name ++ (⟨#[40]⟩:ByteArray) = A:=⟨_,rfl⟩
      have s1:A1.size <= 371:=by rw [<- hA1,ByteArray.size_append];have:(⟨#[40]⟩:ByteArray).size = 1:=rfl;omega
      rw [hA1] at hR2
      obtain ⟨A2,hA2⟩:∃ A,A1 ++ jn = A:=⟨_,rfl⟩
      have s2:A2.size <= 3371:=by rw [<- hA2,ByteArray.size_append];omega
      rw [hA2] at hR2
      have g1:¬ 9223372036854775807 < a.name.size + 1:=by omega
      have g2:¬ 9223372036854775807 < A1.size + jn.size:=by omega
      have g3:¬ 9223372036854775807 < A2.size + 1:=by omega
      clear s1 s2 hpl2 hjl hjn
      go_wp2_with (go_at_call 55;refine HJ.out.mono ?_;rintro e w7 ⟨rfl,hb⟩;have HB7:=hm7 ((HBW.out.trans (HB.out.mono HBW.out.size)).trans (hb.mono (Nat.le_trans HBW.out.size hsz)));clear hb)
      go_ret
      exact ⟨rfl,HB7.out⟩
  ·rw [if_neg hk] at hpo
   have hk1:(a.by_.k == 0) = false:=by simp [hk]
   have hk2:(a.by_.k != 0) = true:=by simp [hk]
   obtain ⟨pb,hpb⟩:∃ p,pt5 a.by_ = p:=⟨_,rfl⟩
   rw [hpb] at hpo hpl HPB
   obtain ⟨A0,hA0⟩:∃ A,pb ++ (⟨#[32,115,97,121,115,32]⟩:ByteArray) = A:=⟨_,rfl⟩
   have s0:A0.size <= 306:=by rw [<- hA0,ByteArray.size_append];have:(⟨#[32,115,97,121,115,32]⟩:ByteArray).size = 6:=rfl;omega
   rw [hA0] at hpo
   have g01:¬ 9223372036854775807 < pb.size + 6:=by omega
   have g02:¬ 9223372036854775807 < A0.size + a.name.size:=by omega
   clear s0 hpb
   go_upto_region 6 with (go_at_call 17;refine (HPB.out _ (HE.out.later HB1.out)).mono ?_;rintro e WW ⟨rfl,hb⟩;have HBW:=hm7 (HB1.out.trans (hb.mono HB1.out.size));have HX2:=hm7 (HX1.out.below hb);clear hb c0 c1 c2 c3 c4;have c0:=HX2.out.cell (i:=0) rfl;have c1:=HX2.out.cell (i:=1) rfl;have c2:=HX2.out.cell (i:=2) rfl;have c3:=HX2.out.cell (i:=3) rfl;have c4:=HX2.out.cell (i:=4) rfl)
   clear hpo hA0 g01 g02
   by_cases hz:yn = 0
   ·have hne:a.args = []:=List.eq_nil_of_length_eq_zero (by rw [HYN.out];exact hz)
    rw [if_pos hne] at hR
    subst hR
    subst hz
    go_wp2
    go_ret
    exact ⟨rfl,HBW.out⟩
   ·have hz2:((yn:Int) == 0) = false:=by simp;omega
    have HNE:Hid (a.args ≠ []):=fun e=>hz (by rw [<- HYN.out,e];rfl)
    rw [if_neg HNE.out] at hR
    have HPT:Hid (∀ t ∈ a.args,∀ X:World,EnvOk X -> Calls Tryz.prog 17 #[t.v] X fun e w'=>e = .returned (.string (pt5 t)) /\ Below X.heap.size X w'):=fun t ht X hX=>printTerm_any t (HN.out _ (List.mem_cons_of_mem _ ht)) X hX
    have HTW:=hm7 (HTS.out.later HBW.out)
    have HR:=hm7 hR
    clear hR
    go_upto_region 10 with fail
    go_wp2
    clear c0 c1 c2 c3 c4
    go_loopg [4,6,30] yn (fun gk u _ i wr=>∃ j:Nat,j + gk = yn /\ i = .int .i64 j /\ wr.ownsRow WW.heap.size 9 1 u j (((a.args.take j).map pt5).map Value.string) /\ Below WW.heap.size WW wr)
    case atStart=>exact ⟨0,by omega,rfl,World.ownsRow_nil _ _ _ _,Below.refl _ _⟩
    case round=>
     obtain ⟨j,hj,rfl,ho,hb⟩:=hrel
     have HB:=hm7 hb
     have HO:=hm7 ho
     obtain ⟨ua,uc,huf, -⟩:=row7_form ho
     subst huf
     have hsz:=hb.size
     clear hb ho
     cases gk with
     | succ gk=>
      have hlt:(j:Int) < (yn:Int):=by omega
      have hj8:j <= 8:=by omega
      obtain ⟨t,ht⟩:∃ t,a.args[j]? = some t:=⟨a.args[j]'(by rw [HYN.out];omega),List.getElem?_eq_getElem _⟩
      have HTK:Hid (a.args.take (j + 1) = a.args.take j ++ [t]):=by show _ = _;rw [List.take_add_one,ht];rfl
      have HTM:=hm7 (HPT.out t (List.mem_of_getElem? ht))
      obtain ⟨ya2,yc2,hyf2, -,hyr2⟩:=HTW.out
      rw [HYN.out] at hyf2
      cases hyf2
      rcases hyr2 with e | ⟨tb,toff,rfl,htr⟩
      ·exact absurd e HNE.out
      have d0:=(Fr.of (P:=fun _=>False) HB.out).cell htr.1 (fun z=>z) (htr.2 j t ht).1
      have d1:=(Fr.of (P:=fun _=>False) HB.out).cell htr.1 (fun z=>z) (htr.2 j t ht).2.1
      have d2:=(Fr.of (P:=fun _=>False) HB.out).cell htr.1 (fun z=>z) (htr.2 j t ht).2.2
      have HEW:=hm7 (HE.out.later (HBW.out.trans (HB.out.mono HBW.out.size)))
      clear htr ht
      obtain ⟨tk,tn,ts⟩:=t
      dsimp only at d0 d1 d2
      have HB1x:=hm7 (below1 wr (.cells #[.int .i64 tk,.int .i64 tn,.string ts] 39))
      obtain ⟨px,hpx⟩:∃ px,pt5 ⟨tk,tn,ts⟩ = px:=⟨_,rfl⟩
      rw [hpx] at HTM
      have HPX:=hm7 hpx
      clear hpx
      go_wp2_with (first
       | (go_at_call 17;refine (HTM.out _ (HEW.out.later HB1x.out)).mono ?_;rintro e w5 ⟨rfl,hb⟩;have HB5:=hm7 (HB1x.out.trans (hb.mono HB1x.out.size));clear hb d0 d1 d2;have HO5:=hm7 (row7_below (row7_below HO.out HB5.out) (below1 w5 (.cells #[.string px] 9)));have hsz5:=HB5.out.size)
       | (at_builtin;refine gapp5 Tryz.underlying68 Tryz.infoStr5 rfl (by decide) (by decide) rfl _ _ rfl WW.heap.size (.slice ua j uc) j _ rfl HO5.out w5.heap.size #[.string px] rfl (Bk.new _ _ _) rfl (by simp [Value.oneCell']) (by omega) (by simp;omega) ?_;intro g6 q6 w6 ho6 hg6 hv6 hl6;have HO6:=hm7 ho6;have HG6:=hm7 hg6;clear ho6 hg6 hv6 hl6))
      have HF6:Hid (Fr (fun b=>WW.heap.size <= b) (w5.alloc (.cells #[.string px] 9)) w6):=Fr.grown HG6.out fun b hb=>(World.ownsRow.lt HO5.out b hb).1
      try go_wp2
      go_roundg gk
      case measure=>omega
      case rel=>
       refine ⟨j + 1,by omega,by go_num, ?_, ?_⟩
       ·rw [HTK.out,List.map_append,List.map_append]
        have:=HO6.out
        simpa [HPX.out] using this
       ·exact HB.out.trans (Fr.low (((Fr.of (P:=fun b=>WW.heap.size <= b) HB5.out).then (below1 _ _)).tr HF6.out) hsz)
     | zero=>
      obtain rfl:j = yn:=by omega
      have hlt:¬ (j:Int) < (j:Int):=by omega
      have HO2:Hid (wr.ownsRow WW.heap.size 9 1 (.slice ua j uc) (a.args.map pt5).length ((a.args.map pt5).map Value.string)):=by
       have:=HO.out
       rw [List.take_of_length_le (by rw [HYN.out];exact Nat.le_refl _)] at this
       show World.ownsRow _ _ _ _ _ _ _
       rw [List.length_map,HYN.out]
       exact this
      have HJL:=hm7 (jn5_len 300 (a.args.map pt5) ⟨#[44,32]⟩ (fun x hx=>by
       obtain ⟨t,ht,rfl⟩:=List.mem_map.1 hx
       exact pt5_len t (HN.out t (List.mem_cons_of_mem _ ht))))
      have HJ:=hm7 (join5_any (a.args.map pt5) ⟨#[44,32]⟩ _ wr _ HO2.out (fun e=>HNE.out (List.map_eq_nil_iff.1 e)) (fun x hx=>by
       obtain ⟨t,ht,rfl⟩:=List.mem_map.1 hx
       have:=pt5_len t (HN.out t (List.mem_cons_of_mem _ ht))
       omega) (by rw [List.length_map,HYN.out];omega) (by decide))
      obtain ⟨jn,hjn⟩:∃ jn,jn5 (a.args.map pt5) ⟨#[44,32]⟩ = jn:=⟨_,rfl⟩
      have hjl:jn.size <= 3000:=by
       have:=HJL.out
       rw [hjn,List.length_map,HYN.out,show (⟨#[44,32]⟩:ByteArray).size = 2 from rfl] at this
       have h5:(300 + 2) * j <= 302 * 8:=Nat.mul_le_mul_left _ hs2
       omega
      have hR2:=HR.out
      rw [hjn] at HJ hR2
      have hpl2:=HPO.out
      obtain ⟨A1,hA1⟩:∃ A,po ++ (⟨#[40]⟩:ByteArray) = A:=⟨_,rfl⟩
      have s1:A1.size <= 371:=by rw [<- hA1,ByteArray.size_append];have:(⟨#[40]⟩:ByteArray).size = 1:=rfl;omega
      rw [hA1] at hR2
      obtain ⟨A2,hA2⟩:∃ A,A1 ++ jn = A:=⟨_,rfl⟩
      have s2:A2.size <= 3371:=by rw [<- hA2,ByteArray.size_append];omega
      rw [hA2] at hR2
      have g1:¬ 9223372036854775807 < po.size + 1:=by omega
      have g2:¬ 9223372036854775807 < A1.size + jn.size:=by omega
      have g3:¬ 9223372036854775807 < A2.size + 1:=by omega
      clear s1 s2 hpl2 hjl hjn
      go_wp2_with (go_at_call 55;refine HJ.out.mono ?_;rintro e w7 ⟨rfl,hb⟩;have HB7:=hm7 ((HBW.out.trans (HB.out.mono HBW.out.size)).trans (hb.mono (Nat.le_trans HBW.out.size hsz)));clear hb)
      go_ret
      exact ⟨rfl,HB7.out⟩
 ·have he1:(er == 0) = false:=by simp [he]
  have he2:(er != 0) = true:=by simp [he]
  rw [if_neg he] at hR
  subst hR
  clear her
  go_enter Tryz.func19,Tryz.ntmps19
  go_wp2_with (go_at_call 54;refine HCK.out.mono ?_;rintro e w1 ⟨rfl,hb⟩;have HB1:=hm7 (HB0.out.trans (hb.mono HB0.out.size));clear hb)
  go_ret
  exact ⟨rfl,HB1.out⟩
end Go.Proofs.YtcpjiahdaplhlaaGreatDoor

import Derived.Test.YtcpjiahdaplhlaaGreatDoorJ1
import Derived.Laws.OwnMore
import Derived.Deep.CutRange
import Derived.Deep.DrawnRows
import Derived.WalkMore
import Derived.WalkSmall
import Derived.Test.YtcpjiahdaplhlaaGreatDoorRows
import Derived.Deep.Slices
import Derived.Deep.Strs
import Derived.SizedLaws
import Derived.LaidMore
import Derived.Stop.Joined
import Derived.ProofKit
import Derived.OpenShut
import Derived.ShutString
import Derived.ChangeOld
import Derived.Lib.AtoiAll
import Derived.Lib.ItoaNum
namespace Go.Proofs.YtcpjiahdaplhlaaGreatDoor
open Go.RowKit
theorem toList_injK {a b:ByteArray} (h:a.toList = b.toList):a = b:=by
 rw [ByteArray.toList_eq,ByteArray.toList_eq] at h
 exact ByteArray.ext (Array.toList_inj.1 h)
theorem str_dec (a b:ByteArray):(a.toList == b.toList) = decide (a = b):=by
 by_cases h:a = b
 ·simp [h]
 ·rw [decide_eq_false h]
  exact beq_eq_false_iff_ne.2 fun e=>h (toList_injK e)
theorem emptyL:(⟨#[]⟩:ByteArray).toList = []:=by rw [ByteArray.toList_eq]
theorem saysL:(⟨#[115,97,121,115]⟩:ByteArray).toList = [115,97,121,115]:=by rw [ByteArray.toList_eq]
def saysB:ByteArray:=⟨#[115,97,121,115]⟩
def SaysOk (w:World):Prop:=w.cell? ⟨2,5,none⟩ = some (.string ⟨#[115,97,121,115]⟩)
def wrd (s:ByteArray):Bool:=!decide (s = ⟨#[]⟩) && (sml (atK_ s 0) && (decide (rne s 0 = s.size) && !decide (s = saysB)))
theorem size_posK {s:ByteArray} (h:¬ s = ⟨#[]⟩):0 < s.size:=by
 rcases Nat.eq_zero_or_pos s.size with e | e
 ·exact absurd (ByteArray.ext (Array.eq_empty_of_size_eq_zero e)) h
 ·exact e
theorem int_beq (a b:Nat):((a:Int) == (b:Int)) = decide (a = b):=by
 rw [Bool.eq_iff_iff];simp;omega
theorem word_any (s:ByteArray) (hs:s.size < 4611686018427387904) (w:World) (hW:SaysOk w) :
  Calls Tryz.prog 47 #[.string s] w fun e w'=>e = .returned (.bool (wrd s)) /\ w' = w:=by
 have e2:decide (s = ⟨#[115,97,121,115]⟩) = decide (s.toList = [115,97,121,115]):=by rw [<- str_dec,saysL];exact (Bool.beq_eq_decide_eq _ _)
 have c1:w.cell? ⟨2,5,none⟩ = some (.string ⟨#[115,97,121,115]⟩):=hW
 have ca:=small_anyK (atK_ s 0)
 have cr:=runEnd_any s 0 (Nat.zero_le _) hs
 have cq:=int_beq (rne s 0) s.size
 unfold wrd saysB
 by_cases h1:s = ⟨#[]⟩
 ·have HF:Hid (s = ⟨#[]⟩):=h1
  have z1:s.toList = []:=by rw [h1];exact emptyL
  rw [decide_eq_true h1]
  clear h1 e2 ca cr cq
  go_enter Tryz.func47,Tryz.ntmps47
  go_wp2
  go_ret
  exact ⟨by simp,rfl⟩
 ·have hp:=size_posK h1
  have hidx:=run_index_atK s 0 hp 0 rfl
  have z1:¬ s.toList = []:=fun e=>h1 (toList_injK (e.trans emptyL.symm))
  rw [decide_eq_false h1]
  clear h1
  obtain ⟨c,hc⟩:∃ c,atK_ s 0 = c:=⟨_,rfl⟩
  rw [hc] at hidx ca
  rw [hc]
  obtain ⟨r,hr⟩:∃ r,rne s 0 = r:=⟨_,rfl⟩
  rw [hr] at cr cq
  rw [hr]
  clear hc hr
  cases a:sml c <;> cases b:decide (r = s.size) <;> cases d:decide (s = ⟨#[115,97,121,115]⟩) <;>
   (rw [a] at ca;rw [b] at cq;rw [d] at e2;have z2:=e2.symm;simp only [decide_eq_true_eq,decide_eq_false_iff_not] at z2
    clear a b d e2
    go_enter Tryz.func47,Tryz.ntmps47
    go_wp2_with (first | (go_at_call 70;refine (ca _).mono ?_;rintro e w1 ⟨rfl,rfl⟩) | (go_at_call 71;refine (cr _).mono ?_;rintro e w1 ⟨rfl,rfl⟩))
    go_ret
    exact ⟨by simp [z1,z2],rfl⟩)
theorem qword_any (s:ByteArray) (hs:s.size < 4611686018427387904) (w:World) :
  Calls Tryz.prog 52 #[.string s] w fun e w'=>e = .returned (.bool (wrd s)) /\ w' = w:=by
 have e2:decide (s = ⟨#[115,97,121,115]⟩) = decide (s.toList = [115,97,121,115]):=by rw [<- str_dec,saysL];exact (Bool.beq_eq_decide_eq _ _)
 have ca:=qsmall_any (atK_ s 0)
 have cr:=qrun_any s 0 (Nat.zero_le _) hs
 have cq:=int_beq (rne s 0) s.size
 unfold wrd saysB
 by_cases h1:s = ⟨#[]⟩
 ·have HF:Hid (s = ⟨#[]⟩):=h1
  have z1:s.toList = []:=by rw [h1];exact emptyL
  rw [decide_eq_true h1]
  clear h1 e2 ca cr cq
  go_enter Tryz.func52,Tryz.ntmps52
  go_wp2
  go_ret
  exact ⟨by simp,rfl⟩
 ·have hp:=size_posK h1
  have hidx:=run_index_atK s 0 hp 0 rfl
  have z1:¬ s.toList = []:=fun e=>h1 (toList_injK (e.trans emptyL.symm))
  rw [decide_eq_false h1]
  clear h1
  obtain ⟨c,hc⟩:∃ c,atK_ s 0 = c:=⟨_,rfl⟩
  rw [hc] at hidx ca
  rw [hc]
  obtain ⟨r,hr⟩:∃ r,rne s 0 = r:=⟨_,rfl⟩
  rw [hr] at cr cq
  rw [hr]
  clear hc hr
  cases a:sml c <;> cases b:decide (r = s.size) <;> cases d:decide (s = ⟨#[115,97,121,115]⟩) <;>
   (rw [a] at ca;rw [b] at cq;rw [d] at e2;have z2:=e2.symm;simp only [decide_eq_true_eq,decide_eq_false_iff_not] at z2
    clear a b d e2
    go_enter Tryz.func52,Tryz.ntmps52
    go_wp2_with (first | (go_at_call 90;refine (ca _).mono ?_;rintro e w1 ⟨rfl,rfl⟩) | (go_at_call 91;refine (cr _).mono ?_;rintro e w1 ⟨rfl,rfl⟩))
    go_ret
    exact ⟨by simp [z1,z2],rfl⟩)
end Go.Proofs.YtcpjiahdaplhlaaGreatDoor
namespace Go.Proofs.YtcpjiahdaplhlaaGreatDoor
open Go.RowKit
theorem below1K (w:World) (o:Obj):Below w.heap.size w (w.alloc o):=(Below.refl _ _).alloc (Nat.le_refl _) _
def ibs (l:List Int):List Value:=l.map (Value.int .u8)
def OwnB (w:World) (base:Nat) (v:Value) (l:List Int):Prop:=w.ownsRow base 5 1 v l.length (ibs l)
theorem OwnB.later {w w':World} {base:Nat} {v:Value} {l:List Int} (h:OwnB w base v l) (hb:Below w.heap.size w w'):OwnB w' base v l:=by
 refine ⟨h.1, ?_⟩
 rcases h.2 with hn | ⟨g,cap,cur,hv,hbb,hg,rest⟩
 ·exact Or.inl hn
 ·exact Or.inr ⟨g,cap,cur,hv,hbb,(hb.block g (Array.getElem?_eq_some_iff.1 hg).1).trans hg,rest⟩
theorem OwnB.lit (w:World) (l:List Int) (hl:l.length <= 100000000):OwnB (w.alloc (.cells (ibs l).toArray 5)) w.heap.size (.slice (some ⟨w.heap.size,0,none⟩) l.length l.length) l:=
 World.ownsRow_lit w (ibs l).toArray l.length (Nat.le_refl _) (by unfold maxLen;omega) (by simp [ibs])
theorem Tryz.infoU8:(Tryz.prog.info? 5).map (fun i=>(i.size,i.bytes,i.zero.map (·.cells.size))) = some (1,1,some 1):=by kernel_rfl
theorem infoU8_parts:∃ (i:TypeInfo) (z:Value),Tryz.prog.info? 5 = some i /\ i.zero = some z /\ i.size = 1 /\ i.bytes = 1 /\ z.cells.size = 1:=by
 have h:=Tryz.infoU8
 cases hi:Tryz.prog.info? 5 with
 | none=>rw [hi] at h;simp at h
 | some i=>
  rw [hi] at h
  simp only [Option.map_some,Option.some.injEq,Prod.mk.injEq] at h
  obtain ⟨h1,h2,h3⟩:=h
  cases hz:i.zero with
  | none=>rw [hz] at h3;simp at h3
  | some z=>rw [hz] at h3;simp only [Option.map_some,Option.some.injEq] at h3;exact ⟨i,z,rfl,hz,h1,h2,h3⟩
theorem grown_below {w w':World} {base:Nat} {v:Value} (hg:w.grownBy w' v.ownBlock) (h:∀ k,v.ownBlock = some k -> base <= k) (hb:base <= w.heap.size):Below base w w':=
 ⟨hg.os,hg.tape,hg.output,hg.size,fun k hk=>hg.block k (by omega) (fun e=>by have:=h k e.symm;omega)⟩
theorem app_bytes {ops:Array Oper} {rest:List Oper} {o:Oper} {a:Act} {Q:Exit -> Act -> World -> Prop} {w:World} (hgd:o.guard = none) (s x:Operand)
  (ho:o.op = .call { callee:=.builtin .append,args:=#[s,x],argTypes:=#[67,67] }) (base:Nat) (v:Value) (l:List Int) (hs:a.eval s = v) (hown:OwnB w base v l)
  (b:Nat) (news:List Int) (hx:a.eval x = .slice (some ⟨b,0,none⟩) news.length news.length) (hblk:w.heap[b]? = some (.cells (ibs news).toArray 5 (0,0))) (hm:0 < news.length) (hlen:l.length + news.length <= 100000000) (hbase:base <= w.heap.size)
  (h:∀ v' w',OwnB w' base v' (l ++ news) -> Below base w w' -> wpList Tryz.prog ops Q rest (a.put o.dst v') w'):wpList Tryz.prog ops Q (o :: rest) a w:=by
 obtain ⟨i,z,hi,hz0,hz1,hz2,hz3⟩:=infoU8_parts
 refine wpList_append_lies _ hgd s x 67 ho base 5 i z 1 1 Tryz.underlying67 hi hz0 hz1 hz2 hz3 (by omega) v l.length (ibs l) hs hown ⟨b,0,none⟩ news.length news.length (ibs news) hx (by simp [ibs]) ?_ (by simp [ibs,Value.oneCell']) hm (by unfold maxLen;omega) (by omega) hbase _ rfl ?_
 ·intro j u hj
  have:=World.news_of_block (cs:=(ibs news).toArray) (t:=5) (fr:=(0,0)) hblk j u
  exact this (by simpa using hj)
 ·intro g cap w' h1 h2 h3 h4
  refine h _ w' ?_ (grown_below h2 (fun k hk=>(World.ownsRow.lt hown k hk).1) hbase)
  unfold OwnB
  rw [List.length_append,show ibs (l ++ news) = ibs l ++ ibs news by simp [ibs]]
  exact h1
theorem step_bytes {ops:Array Oper} {o:Oper} {a:Act} {K:Act -> World -> Prop} {Q:Exit -> Act -> World -> Prop} {E:Prop} {w:World} (hgd:o.guard = none) (s x:Operand)
  (ho:o.op = .call { callee:=.builtin .append,args:=#[s,x],argTypes:=#[67,67] }) (base:Nat) (v:Value) (l:List Int) (hs:a.eval s = v) (hown:OwnB w base v l)
  (b:Nat) (news:List Int) (hx:a.eval x = .slice (some ⟨b,0,none⟩) news.length news.length) (hblk:w.heap[b]? = some (.cells (ibs news).toArray 5 (0,0))) (hm:0 < news.length) (hlen:l.length + news.length <= 100000000) (hbase:base <= w.heap.size)
  (h:∀ v' w',OwnB w' base v' (l ++ news) -> Below base w w' -> K (a.put o.dst v') w'):if Region.wanted o (yielded ops a.tmps) = true then Oper.wp Tryz.prog o a w K Q else E:=by
 obtain ⟨i,z,hi,hz0,hz1,hz2,hz3⟩:=infoU8_parts
 refine step_append_lies _ hgd s x 67 ho base 5 i z 1 1 Tryz.underlying67 hi hz0 hz1 hz2 hz3 (by omega) v l.length (ibs l) hs hown ⟨b,0,none⟩ news.length news.length (ibs news) hx (by simp [ibs]) ?_ (by simp [ibs,Value.oneCell']) hm (by unfold maxLen;omega) (by omega) hbase _ rfl ?_
 ·intro j u hj
  have:=World.news_of_block (cs:=(ibs news).toArray) (t:=5) (fr:=(0,0)) hblk j u
  exact this (by simpa using hj)
 ·intro g cap w' h1 h2 h3 h4
  refine h _ w' ?_ (grown_below h2 (fun k hk=>(World.ownsRow.lt hown k hk).1) hbase)
  unfold OwnB
  rw [List.length_append,show ibs (l ++ news) = ibs l ++ ibs news by simp [ibs]]
  exact h1
def i2b (l:List Int):List UInt8:=l.map fun x=>UInt8.ofNat x.toNat
def byt (l:List Int):Prop:=∀ x ∈ l,0 <= x /\ x <= 255
theorem conv_bytes {w:World} {base:Nat} {v:Value} {l:List Int} (h:OwnB w base v l) (hl:0 < l.length) (hb:byt l):(convert 67 9 v).run Tryz.prog w = .ok (.string ⟨(i2b l).toArray⟩) w:=by
 obtain ⟨g,cap,rfl, -, -⟩:=World.ownsRow.form h hl
 have e:=run_convert_bytes_back (P:=Tryz.prog) w 67 9 5 ⟨g,0,none⟩ cap (i2b l) Tryz.underlying67 Tryz.underlying5 Tryz.underlying9 (fun j hj=>by
  have hj':j < l.length:=by simpa [i2b] using hj
  rw [World.ownsRow.cells h (g:=g) rfl j (.int .u8 l[j]) (by simp [ibs,hj'])]
  have:=hb l[j] (List.getElem_mem hj')
  simp [i2b];omega)
 rw [show (i2b l).length = l.length by simp [i2b]] at e
 exact e
def hxd (v:Int):Int:=if v < 10 then 48 + v else 87 + v
theorem hxd_all:∀ m:Nat,(h:m < 16) -> (((⟨#[48,49,50,51,52,53,54,55,56,57,97,98,99,100,101,102]⟩:ByteArray)[m]'h).toNat:Int) = hxd m:=by decide
theorem run_index_hx (w:World) (k:IntKind) (i:Int) (h0:0 <= i) (h1:i <= 15) :
  (Instr.index 9 (.string ⟨#[48,49,50,51,52,53,54,55,56,57,97,98,99,100,101,102]⟩) (.int k i)).run Tryz.prog w = .ok (.int .u8 (hxd i)) w:=by
 obtain ⟨n,rfl⟩:∃ n:Nat,i = n:=⟨i.toNat,by omega⟩
 have hn:n < 16:=by omega
 rw [run_index_string w 9 _ k _ Tryz.underlying9]
 have hs:(⟨#[48,49,50,51,52,53,54,55,56,57,97,98,99,100,101,102]⟩:ByteArray).size = 16:=rfl
 rw [dif_pos (by rw [hs];omega)]
 have:=hxd_all n hn
 simp only [Int.toNat_natCast]
 rw [this]
theorem hxd_rng (v:Int) (h0:0 <= v) (h1:v <= 15):0 <= hxd v /\ hxd v <= 255:=by unfold hxd;split <;> omega
def qb (c:Int):List Int:=if c = 34 ∨ c = 92 then [92,c] else if c = 10 then [92,110] else if c = 9 then [92,116] else if 32 <= c /\ c <= 126 then [c] else [92,120,hxd (c / 16),hxd (c % 16)]
def qtl (s:ByteArray) (j:Nat):List Int:=34 :: (List.range j).flatMap (fun i=>qb (atK_ s i))
theorem qtl_succ (s:ByteArray) (j:Nat):qtl s (j + 1) = qtl s j ++ qb (atK_ s j):=by
 unfold qtl;rw [List.range_succ,List.flatMap_append];simp
theorem qb_len (c:Int):0 < (qb c).length /\ (qb c).length <= 4:=by
 unfold qb;split
 ·simp
 ·split
  ·simp
  ·split
   ·simp
   ·split <;> simp
theorem qtl_len (s:ByteArray) (j:Nat):(qtl s j).length <= 4 * j + 1:=by
 induction j with
 | zero=>simp [qtl]
 | succ j ih=>rw [qtl_succ,List.length_append];have:=(qb_len (atK_ s j)).2;omega
theorem qb_byt (c:Int) (h0:0 <= c) (h1:c <= 255):byt (qb c):=by
 have a:=hxd_rng (c / 16) (by omega) (by omega)
 have b:=hxd_rng (c % 16) (by omega) (by omega)
 intro x hx
 unfold qb at hx
 split at hx
 ·simp at hx;omega
 ·split at hx
  ·simp at hx;omega
  ·split at hx
   ·simp at hx;omega
   ·split at hx
    ·simp at hx;omega
    ·simp at hx;omega
theorem qtl_byt (s:ByteArray) (j:Nat):byt (qtl s j):=by
 induction j with
 | zero=>intro x hx;simp [qtl] at hx;omega
 | succ j ih=>
  intro x hx
  rw [qtl_succ,List.mem_append] at hx
  rcases hx with hx | hx
  ·exact ih x hx
  ·exact qb_byt _ (at_range s j).1 (at_range s j).2 x hx
def qtB (s:ByteArray):ByteArray:=⟨(i2b (qtl s s.size ++ [34])).toArray⟩
set_option maxRecDepth 20000 in
theorem and15:∀ a:Nat,a < 256 -> bits BinOp.and IntKind.u8 (a:Int) 15 = (a:Int) % 16:=by decide
theorem and15' (c:Int) (h0:0 <= c) (h1:c <= 255):bits BinOp.and IntKind.u8 c 15 = c % 16:=by
 obtain ⟨a,rfl⟩:∃ a:Nat,c = a:=⟨c.toNat,by omega⟩
 exact and15 a (by omega)
end Go.Proofs.YtcpjiahdaplhlaaGreatDoor
namespace Go.Proofs.YtcpjiahdaplhlaaGreatDoor
open Go.ChangeShapes Go.WideShapes Go.ChangeAt Go.RowKit
def signL:List ByteArray:=[⟨#[]⟩,⟨#[]⟩,⟨#[]⟩,⟨#[]⟩,⟨#[]⟩,⟨#[115,97,121,115]⟩,⟨#[40]⟩,⟨#[41]⟩,⟨#[44]⟩,⟨#[59]⟩,⟨#[46]⟩,⟨#[58,45]⟩,⟨#[63]⟩,⟨#[61]⟩,⟨#[33,61]⟩,⟨#[60]⟩,⟨#[60,61]⟩]
def signV:Array Value:=(signL.map Value.string).toArray
def SignsOk (w:World):Prop:=(∃ t fr,w.heap[2]? = some (.cells signV t fr)) /\ ∀ (i:Nat) (t:ByteArray),signL[i]? = some t -> w.cell? ⟨2,i,none⟩ = some (.string t)
theorem SignsOk.says {w:World} (h:SignsOk w):SaysOk w:=h.2 5 _ rfl
theorem SignsOk.lt {w:World} (h:SignsOk w):2 < w.heap.size:=World.block_lt_of_cell? w _ (h.2 5 _ rfl)
theorem SignsOk.later {w w':World} (h:SignsOk w) (hb:Below w.heap.size w w'):SignsOk w':=
 ⟨h.1.imp fun _ ⟨fr,e⟩=>⟨fr,(hb.block _ h.lt).trans e⟩,fun i t ht=>by
  rw [hb.cell (p:=⟨2,i,none⟩) h.lt]
  exact h.2 i t ht⟩
theorem Tryz.own:ownKnob Tryz.prog.godebug = none:=by kernel_rfl
theorem Tryz.gSigns:Tryz.prog.globalNamed "hearsay/tokens.signs" = some 2:=by kernel_rfl
theorem Tryz.tSigns:(Tryz.prog.globals[2]?).map (·.type) = some 113:=by kernel_rfl
theorem Tryz.cellsSigns:Tryz.prog.cellsOf 113 = 17:=by kernel_rfl
theorem Tryz.cellsStr:Tryz.prog.cellsOf 9 = 1:=by kernel_rfl
theorem signs_of_trod {H:Type} {enc:TypeId × Value -> H} {W:World} {base f0:Nat} {spare:Nat -> Bool} {held:Bool} {cs0:List Value} {p0:List MemPlace}
  (h:DataW.trod enc Tryz.prog W base spare held f0 113 cs0 = some (Rows.laid_hearsay_tokens_signs,p0)) (i:Nat) (t:ByteArray) (ht:signL[i]? = some t):cs0[i]? = some (.string t) /\ cs0.length = 17:=by
 obtain ⟨xs,m, -,hx,hl,hn,hel⟩:=DataW.trod_array Tryz.underlying113 h
 have hi:i < 17:=by have:=(List.getElem?_eq_some_iff.1 ht).1;simpa [signL] using this
 have he:=hel i hi
 rw [Tryz.cellsStr,Nat.mul_one] at he
 have hxs:xs[i]? = some xs[i]:=List.getElem?_eq_getElem (by omega)
 rw [hxs] at he
 obtain ⟨s,e1,e2, -⟩:=DataW.trod_string Tryz.underlying9 he
 have hx1:xs.map (·.1) = signL.map (fun b=>DataW.lit (.string b.data.toList)):=by
  have:=congrArg Prod.fst hx
  simp only [Rows.laid_hearsay_tokens_signs,DataW.agg.injEq] at this
  rw [<- this];rfl
 have h2:(xs.map (·.1))[i]? = some (DataW.lit (.string t.data.toList)):=by rw [hx1,List.getElem?_map,ht];rfl
 rw [List.getElem?_map,hxs,e2] at h2
 simp only [Option.map_some,Option.some.injEq,DataW.lit.injEq,Lit.string.injEq] at h2
 obtain rfl:s = t:=ByteArray.ext (Array.toList_inj.1 h2)
 have h3:((cs0.drop i).take 1)[0]? = some (.string s):=by rw [e1];rfl
 rw [List.getElem?_take_of_lt (by omega),List.getElem?_drop] at h3
 exact ⟨by simpa using h3,by rw [hl,Tryz.cellsSigns]⟩
end Go.Proofs.YtcpjiahdaplhlaaGreatDoor
namespace Go.Proofs.YtcpjiahdaplhlaaGreatDoor
open Go.RowKit
def blK (s:ByteArray):List Int:=s.data.toList.map fun b=>(b.toNat:Int)
def ofL (l:List Int):ByteArray:=⟨(i2b l).toArray⟩
theorem bl_len (s:ByteArray):(blK s).length = s.size:=by simp [blK]
theorem bl_byt (s:ByteArray):byt (blK s):=fun x hx=>by
 simp only [blK,List.mem_map] at hx
 obtain ⟨b, -,rfl⟩:=hx
 have:=b.toNat_lt;omega
theorem i2b_map (l:List UInt8):i2b (l.map fun b=>(b.toNat:Int)) = l:=by
 induction l with
 | nil=>rfl
 | cons b l ih=>simp only [i2b,List.map_cons] at ih ⊢;rw [ih];simp
theorem ofL_bl (s:ByteArray):ofL (blK s) = s:=by
 unfold ofL blK;rw [i2b_map]
theorem bl_ofL {l:List Int} (h:byt l):blK (ofL l) = l:=by
 unfold blK ofL i2b
 induction l with
 | nil=>rfl
 | cons x l ih=>
  simp only [List.map_cons] at ih ⊢
  have hx:=h x (by simp)
  have e:=ih (fun y hy=>h y (by simp [hy]))
  rw [e]
  congr 1
  simp;omega
theorem bl_drop {s:ByteArray} {j:Nat} (h:j < s.size):(blK s).drop j = atK_ s j :: (blK s).drop (j + 1):=by
 have h':j < (blK s).length:=by rw [bl_len];exact h
 rw [List.drop_eq_getElem_cons h',atK_lt s j h]
 simp only [blK,List.getElem_map,Array.getElem_toList]
 rfl
theorem bl_drop_end {s:ByteArray} {j:Nat} (h:s.size <= j):(blK s).drop j = []:=List.drop_eq_nil_of_le (by rw [bl_len];exact h)
theorem i2b_take (l:List Int) (n:Nat):i2b (l.take n) = (i2b l).take n:=by simp [i2b]
theorem i2b_drop (l:List Int) (n:Nat):i2b (l.drop n) = (i2b l).drop n:=by simp [i2b]
theorem extract_eq (s:ByteArray) (i j:Nat):s.extract i j = ofL (((blK s).drop i).take (j - i)):=by
 apply ByteArray.ext
 unfold ofL
 rw [i2b_take,i2b_drop,show i2b (blK s) = s.data.toList from i2b_map _]
 rw [ByteArray.data_extract]
 apply Array.toList_inj.1
 simp [List.extract_eq_take_drop]
def rl:List Int -> Nat
 | []=>0
 | c :: r=>if rnb c = true then rl r + 1 else 0
theorem rl_le (l:List Int):rl l <= l.length:=by
 induction l with
 | nil=>simp [rl]
 | cons c l ih=>unfold rl;split <;> simp <;> omega
theorem rne_rl (s:ByteArray):∀ (f j:Nat),s.size - j = f -> j <= s.size -> rne s j = j + rl ((blK s).drop j)
 | 0,j,h,hj=>by
  obtain rfl:j = s.size:=by omega
  rw [rne_end,bl_drop_end (Nat.le_refl _)];rfl
 | f + 1,j,h,hj=>by
  have hlt:j < s.size:=by omega
  rw [bl_drop hlt,rl]
  cases hb:rnb (atK_ s j)
  ·rw [rne_no hb];rfl
  ·rw [<- rne_yes hlt hb,rne_rl s f (j + 1) (by omega) (by omega)];simp;omega
theorem rne_eq (s:ByteArray) (j:Nat) (hj:j <= s.size):rne s j = j + rl ((blK s).drop j):=rne_rl s _ j rfl hj
structure Tk where
 k:Int
 x:ByteArray
 n:Int
 a:Int
 e:Int
deriving DecidableEq
abbrev Tk.v (t:Tk):Value:=.agg #[.int .i64 t.k,.string t.x,.int .i64 t.n,.int .i64 t.a,.int .i64 t.e]
inductive TR where
 | ok (k:Int) (x:List Int) (n:Int) (len:Nat)
 | bad (err:Int) (off:Nat)
deriving DecidableEq
def TR.tk (j:Nat):TR -> Tk
 | .ok k x n len=>⟨k,ofL x,n,j,(j + len:Nat)⟩
 | .bad _ _=>⟨0,⟨#[]⟩,0,0,0⟩
def TR.err:TR -> Int
 | .ok _ _ _ _=>0
 | .bad e _=>e
def TR.pl (j:Nat):TR -> Int
 | .ok _ _ _ _=>0
 | .bad _ o=>((j + o:Nat):Int)
abbrev TR.v (j:Nat) (r:TR):Value:=.tuple #[(r.tk j).v,.agg #[.int .i64 r.err,.int .i64 (r.pl j)]]
def hexv (c:Int):Option Int:=if 48 <= c /\ c <= 57 then some (c - 48) else if 97 <= c /\ c <= 102 then some (c - 87) else if 65 <= c /\ c <= 70 then some (c - 55) else none
def hex2:List Int -> Option Int
 | a :: b :: _=>match hexv a,hexv b with
  | some x,some y=>some (x * 16 + y)
  | _,_=>none
 | _=>none
def esc:List Int -> Option (Int × Nat)
 | []=>none
 | c :: r=>if c = 34 ∨ c = 92 then some (c,1) else if c = 110 then some (10,1) else if c = 116 then some (9,1) else if c = 120 then (hex2 r).map (fun b=>(b,3)) else none
def qd:Nat -> List Int -> Nat -> List Int -> TR
 | 0,_,_,_=>.bad 43 0
 | _ + 1,[],_,_=>.bad 43 0
 | f + 1,c :: r,off,acc=>
  if c = 34 then .ok 3 acc 0 (off + 1)
  else if c = 92 then (match esc r with
   | some (b,k)=>qd f (r.drop k) (off + 1 + k) (acc ++ [b])
   | none=>.bad 44 off)
  else if c < 32 ∨ c = 127 then .bad 44 off
  else qd f r (off + 1) (acc ++ [c])
def skG:Nat -> List ByteArray -> ByteArray -> Nat
 | _,[],_=>0
 | i,t :: r,x=>if t = x then i else skG (i + 1) r x
def sk (x:ByteArray):Nat:=skG 0 signL x
def sgF (l:List Int):Nat -> TR
 | 0=>.bad 42 0
 | m + 1=>if sk (ofL (l.take (m + 1))) = 0 then sgF l m else .ok (sk (ofL (l.take (m + 1))):Nat) [] 0 (m + 1)
def sgt (l:List Int):TR:=sgF l (min 2 l.length)
def num (d:List Int):Option Int:=match Lib.atoiAll (i2b d) with
 | .ok v=>if Lib.itoa v = i2b d then some v else none
 | _=>none
def numt (n:Nat) (l:List Int):TR:=match num (l.take n) with
 | some v=>.ok 4 [] v n
 | none=>.bad 45 0
def tok:List Int -> TR
 | []=>.bad 42 0
 | c :: r=>
  if sml c = true then (if ofL ((c :: r).take (rl (c :: r))) = saysB then .ok 5 [] 0 (rl (c :: r)) else .ok 1 ((c :: r).take (rl (c :: r))) 0 (rl (c :: r)))
  else if grt c = true then .ok 2 ((c :: r).take (rl (c :: r))) 0 (rl (c :: r))
  else if c = 45 then numt (1 + rl r) (c :: r)
  else if dig c = true then numt (rl (c :: r)) (c :: r)
  else if c = 34 then qd (r.length + 1) r 1 []
  else sgt (c :: r)
def le_:List Int -> Nat
 | []=>0
 | c :: r=>if c = 10 then 0 else le_ r + 1
theorem le_le (l:List Int):le_ l <= l.length:=by
 induction l with
 | nil=>simp [le_]
 | cons c l ih=>unfold le_;split <;> simp <;> omega
def ct:Nat -> List Int -> Nat -> List Tk -> List Tk × Int × Int
 | 0,_,_,acc=>(acc,0,0)
 | _ + 1,[],_,acc=>(acc,0,0)
 | f + 1,c :: r,off,acc=>
  if c = 32 ∨ c = 9 ∨ c = 10 ∨ c = 13 then ct f r (off + 1) acc
  else if c = 37 then ct f ((c :: r).drop (le_ (c :: r))) (off + le_ (c :: r)) acc
  else match tok (c :: r) with
   | .bad e o=>([],e,((off + o:Nat):Int))
   | .ok k x n len=>ct f ((c :: r).drop len) (off + len) (acc ++ [⟨k,ofL x,n,off,(off + len:Nat)⟩])
def cutL (l:List Int) (most:Int):List Tk × Int × Int:=if most < l.length then ([],41,0) else ct (l.length + 1) l 0 []
end Go.Proofs.YtcpjiahdaplhlaaGreatDoor
namespace Go.Proofs.YtcpjiahdaplhlaaGreatDoor
open Go.RowKit
theorem ret_2 {a a' b b':Value} (h:a = a') (h':b = b'):Ending.returned (.tuple #[a,b]) = .returned (.tuple #[a',b']):=by rw [h,h']
theorem le_yes {l:List Int} {c:Int} (h:c = 10):le_ (c :: l) = 0:=by unfold le_;rw [if_pos h]
theorem le_no {l:List Int} {c:Int} (h:¬ c = 10):le_ (c :: l) = le_ l + 1:=by show (if c = 10 then 0 else le_ l + 1) = _;rw [if_neg h]
theorem lineEnd_any (s:ByteArray) (j0:Nat) (h0:j0 <= s.size) (hs:s.size < 4611686018427387904) (w:World) :
  Calls Tryz.prog 35 #[.string s,.int .i64 j0] w fun e w'=>e = .returned (.int .i64 ((j0 + le_ ((blK s).drop j0):Nat):Int)) /\ w' = w:=by
 obtain ⟨R,hR⟩:∃ R,j0 + le_ ((blK s).drop j0) = R:=⟨_,rfl⟩
 rw [hR]
 go_enter Tryz.func35,Tryz.ntmps35
 go_wp2
 go_loopg [1] (s.size - j0) (fun g i wr=>∃ j:Nat,j + g = s.size /\ i = .int .i64 j /\ j + le_ ((blK s).drop j) = R /\ wr = w)
 case atStart=>exact ⟨j0,by omega,rfl,hR,rfl⟩
 case round=>
  obtain ⟨j,hj,rfl,hr,rfl⟩:=hrel
  have HR:Hid (j + le_ ((blK s).drop j) = R):=hr
  clear hr hR
  cases gk with
  | succ g=>
   have hlt:j < s.size:=by omega
   have i1:(j:Int) < (s.size:Int):=by omega
   have hidx:=run_index_atK s j hlt (j:Int) rfl
   have HD:Hid ((blK s).drop j = atK_ s j :: (blK s).drop (j + 1)):=bl_drop hlt
   obtain ⟨c,hc⟩:∃ c,atK_ s j = c:=⟨_,rfl⟩
   rw [hc] at hidx HD
   clear hc
   by_cases hb:c = 10
   ·have HB:Hid (c = 10):=hb
    have n1:(c == 10) = true:=by simp [hb]
    have n2:(c != 10) = false:=by simp [hb]
    clear hb
    go_wp2
    go_ret
    exact ⟨by rw [<- HR.out,HD.out,le_yes HB.out];rfl,rfl⟩
   ·have HB:Hid (¬ c = 10):=hb
    have n1:(c == 10) = false:=beq_eq_false_iff_ne.2 hb
    have n2:(c != 10) = true:=by simp [hb]
    clear hb
    go_wp2
    go_roundg g
    case measure=>omega
    case rel=>exact ⟨j + 1,by omega,by go_num,by rw [<- HR.out,HD.out,le_no HB.out];omega,rfl⟩
  | zero=>
   obtain rfl:j = s.size:=by omega
   have hz:¬ ((s.size:Int) < (s.size:Int)):=by omega
   go_wp2
   go_ret
   exact ⟨by rw [<- HR.out,bl_drop_end (Nat.le_refl _)];rfl,rfl⟩
set_option maxHeartbeats 400000 in
theorem digitValue_any (c:Int) (h0:0 <= c) (h1:c <= 255) (w:World) :
  Calls Tryz.prog 185 #[.int .u8 c] w fun e w'=>e = .returned (.tuple #[.int .u8 ((hexv c).getD 0),.bool (hexv c).isSome]) /\ w' = w:=by
 have cd:=digit_any c
 by_cases a:48 <= c /\ c <= 57
 ·have e:dig c = true:=by simp [dig,a]
  have E:hexv c = some (c - 48):=by unfold hexv;rw [if_pos a]
  rw [e] at cd
  rw [E]
  obtain ⟨a1,a2⟩:=a
  clear e E
  go_enter Tryz.func185,Tryz.ntmps185
  go_wp2_with (go_at_call 74;refine (cd _).mono ?_;rintro e w1 ⟨rfl,rfl⟩)
  go_ret2
  exact ⟨ret_2 rfl rfl,rfl⟩
 ·have e:dig c = false:=by simp [dig];omega
  rw [e] at cd
  clear e
  by_cases b:97 <= c /\ c <= 102
  ·have E:hexv c = some (c - 87):=by unfold hexv;rw [if_neg a,if_pos b]
   rw [E]
   obtain ⟨b1,b2⟩:=b
   clear a E
   go_enter Tryz.func185,Tryz.ntmps185
   go_wp2_with (go_at_call 74;refine (cd _).mono ?_;rintro e w1 ⟨rfl,rfl⟩)
   go_ret2
   exact ⟨ret_2 (by simp;omega) rfl,rfl⟩
  ·by_cases d:65 <= c /\ c <= 70
   ·have E:hexv c = some (c - 55):=by unfold hexv;rw [if_neg a,if_neg b,if_pos d]
    rw [E]
    obtain ⟨d1,d2⟩:=d
    have b1:¬ 97 <= c:=by omega
    clear a b E
    go_enter Tryz.func185,Tryz.ntmps185
    go_wp2_with (go_at_call 74;refine (cd _).mono ?_;rintro e w1 ⟨rfl,rfl⟩)
    go_ret2
    exact ⟨ret_2 (by simp;omega) rfl,rfl⟩
   ·have E:hexv c = none:=by unfold hexv;rw [if_neg a,if_neg b,if_neg d]
    rw [E]
    clear a E
    have b':c < 97 ∨ (97 <= c /\ 102 < c):=by omega
    have d':c < 65 ∨ (65 <= c /\ 70 < c):=by omega
    clear b d
    rcases b' with b1 | ⟨b1,b2⟩ <;> rcases d' with d1 | ⟨d1,d2⟩ <;> first | (exfalso;omega) | skip
    all_goals
     go_enter Tryz.func185,Tryz.ntmps185
     go_wp2_with (go_at_call 74;refine (cd _).mono ?_;rintro e w1 ⟨rfl,rfl⟩)
     go_ret2
     exact ⟨ret_2 rfl rfl,rfl⟩
theorem hexv_rng {c x:Int} (h:hexv c = some x):0 <= x /\ x <= 15:=by
 unfold hexv at h
 split at h
 ·simp at h;omega
 ·split at h
  ·simp at h;omega
  ·split at h
   ·simp at h;omega
   ·simp at h
theorem or_nat:∀ a:Nat,a < 16 -> ∀ b:Nat,b < 16 -> bits BinOp.or IntKind.u8 ((a:Int) * 16) (b:Int) = (a:Int) * 16 + b:=by decide
theorem or_hl (h l:Int) (h0:0 <= h) (h1:h <= 15) (l0:0 <= l) (l1:l <= 15):bits BinOp.or IntKind.u8 (h * 16) l = h * 16 + l:=by
 obtain ⟨a,rfl⟩:∃ a:Nat,h = a:=⟨h.toNat,by omega⟩
 obtain ⟨b,rfl⟩:∃ b:Nat,l = b:=⟨l.toNat,by omega⟩
 exact or_nat a (by omega) b (by omega)
set_option maxHeartbeats 1000000 in
theorem hexByte_any (s:ByteArray) (j:Nat) (hj:j < 4611686018427387904) (w:World) :
  Calls Tryz.prog 152 #[.string s,.int .i64 j] w fun e w'=>e = .returned (.tuple #[.int .u8 ((hex2 ((blK s).drop j)).getD 0),.bool (hex2 ((blK s).drop j)).isSome]) /\ w' = w:=by
 rcases Nat.lt_or_ge s.size (j + 2) with h | h
 ·have e:hex2 ((blK s).drop j) = none:=by
   have hl:((blK s).drop j).length < 2:=by rw [List.length_drop,bl_len];omega
   match (blK s).drop j,hl with
   | [],_=>rfl
   | [_],_=>rfl
  have i1:(s.size:Int) < (j:Int) + 2:=by omega
  rw [e]
  clear e
  go_enter Tryz.func152,Tryz.ntmps152
  go_wp2
  go_ret2
  exact ⟨ret_2 rfl rfl,rfl⟩
 ·have i1:¬ (s.size:Int) < (j:Int) + 2:=by omega
  have x1:=run_index_atK s j (by omega) (j:Int) rfl
  have x2:=run_index_atK s (j + 1) (by omega) ((j:Int) + 1) (by omega)
  have c1:=digitValue_any (atK_ s j) (at_range s j).1 (at_range s j).2
  have c2:=digitValue_any (atK_ s (j + 1)) (at_range s (j + 1)).1 (at_range s (j + 1)).2
  rw [bl_drop (by omega),bl_drop (by omega)]
  obtain ⟨a,ha⟩:∃ c,atK_ s j = c:=⟨_,rfl⟩
  obtain ⟨b,hb⟩:∃ c,atK_ s (j + 1) = c:=⟨_,rfl⟩
  rw [ha] at x1 c1 ⊢
  rw [hb] at x2 c2 ⊢
  clear ha hb
  cases u:hexv a <;> cases v:hexv b
  all_goals
   rw [u] at c1
   rw [v] at c2
   simp only [Option.getD_some,Option.getD_none,Option.isSome_some,Option.isSome_none] at c1 c2
  case some.some x y=>
   have r1:=hexv_rng u
   have r2:=hexv_rng v
   have ho:=or_hl x y r1.1 r1.2 r2.1 r2.2
   have r3:=r1.1
   have r4:=r1.2
   rw [show hex2 (a :: b :: (blK s).drop (j + 1 + 1)) = some (x * 16 + y) by simp [hex2,u,v]]
   clear r1 r2 u v
   go_enter Tryz.func152,Tryz.ntmps152
   go_upto_region 4 with (go_at_call 185;refine (c1 _).mono ?_;rintro e w1 ⟨rfl,rfl⟩)
   clear c1
   go_wp2_with (go_at_call 185;refine (c2 _).mono ?_;rintro e w1 ⟨rfl,rfl⟩)
   go_ret2
   exact ⟨ret_2 rfl rfl,rfl⟩
  all_goals
   rw [show hex2 (a :: b :: (blK s).drop (j + 1 + 1)) = none by simp [hex2,u,v]]
   clear u v
   go_enter Tryz.func152,Tryz.ntmps152
   go_upto_region 4 with (go_at_call 185;refine (c1 _).mono ?_;rintro e w1 ⟨rfl,rfl⟩)
   clear c1
   go_wp2_with (go_at_call 185;refine (c2 _).mono ?_;rintro e w1 ⟨rfl,rfl⟩)
   go_ret2
   exact ⟨ret_2 rfl rfl,rfl⟩
theorem esc_cons (c:Int) (r:List Int):esc (c :: r) = if c = 34 ∨ c = 92 then some (c,1) else if c = 110 then some (10,1) else if c = 116 then some (9,1) else if c = 120 then (hex2 r).map (fun b=>(b,3)) else none:=rfl
def escV (s:ByteArray) (j:Nat):Int × Nat:=match esc ((blK s).drop (j + 1)) with
 | some (b,k)=>(b,j + 1 + k)
 | none=>(0,j)
set_option maxHeartbeats 1000000 in
theorem escapeAt_any (s:ByteArray) (j:Nat) (hj:j < s.size) (hs:s.size < 4611686018427387000) (w:World) :
  Calls Tryz.prog 117 #[.string s,.int .i64 j] w fun e w'=>e = .returned (.tuple #[.int .u8 (escV s j).1,.int .i64 ((escV s j).2:Int)]) /\ w' = w:=by
 rcases Nat.lt_or_ge (j + 1) s.size with h | h
 ·have i1:¬ (s.size:Int) <= (j:Int) + 1:=by omega
  have x1:=run_index_atK s (j + 1) h ((j:Int) + 1) (by omega)
  have ch:=hexByte_any s (j + 2) (by omega)
  have ec:(((j + 2:Nat)):Int) = (j:Int) + 2:=by omega
  rw [ec] at ch
  have HE:Hid (∀ c,atK_ s (j + 1) = c -> escV s j = (if c = 34 ∨ c = 92 then (c,j + 2) else if c = 110 then (10,j + 2) else if c = 116 then (9,j + 2) else if c = 120 then (if (hex2 ((blK s).drop (j + 2))).isSome = true then ((hex2 ((blK s).drop (j + 2))).getD 0,j + 4) else (0,j)) else (0,j))):=fun c hc=>by
   unfold escV
   rw [bl_drop h,hc,esc_cons]
   by_cases q1:c = 34 ∨ c = 92
   ·rw [if_pos q1,if_pos q1]
   ·rw [if_neg q1,if_neg q1]
    by_cases q2:c = 110
    ·rw [if_pos q2,if_pos q2]
    ·rw [if_neg q2,if_neg q2]
     by_cases q3:c = 116
     ·rw [if_pos q3,if_pos q3]
     ·rw [if_neg q3,if_neg q3]
      by_cases q4:c = 120
      ·rw [if_pos q4,if_pos q4]
       cases hex2 ((blK s).drop (j + 2)) <;> rfl
      ·rw [if_neg q4,if_neg q4]
  obtain ⟨c,hc⟩:∃ c,atK_ s (j + 1) = c:=⟨_,rfl⟩
  rw [HE.out c hc]
  rw [hc] at x1
  clear HE hc ec
  by_cases q1:c = 34 ∨ c = 92
  ·rw [if_pos q1]
   rcases q1 with rfl | rfl <;>
   ·go_enter Tryz.func117,Tryz.ntmps117
    go_wp2
    go_ret2
    exact ⟨ret_2 rfl rfl,rfl⟩
  ·rw [if_neg q1]
   have n1:(c == 34) = false:=beq_eq_false_iff_ne.2 fun e=>q1 (Or.inl e)
   have n2:(c == 92) = false:=beq_eq_false_iff_ne.2 fun e=>q1 (Or.inr e)
   clear q1
   by_cases q2:c = 110
   ·rw [if_pos q2]
    subst q2
    clear n1 n2
    go_enter Tryz.func117,Tryz.ntmps117
    go_wp2
    go_ret2
    exact ⟨ret_2 rfl rfl,rfl⟩
   ·rw [if_neg q2]
    have n3:(c == 110) = false:=beq_eq_false_iff_ne.2 q2
    clear q2
    by_cases q3:c = 116
    ·rw [if_pos q3]
     subst q3
     clear n1 n2 n3
     go_enter Tryz.func117,Tryz.ntmps117
     go_wp2
     go_ret2
     exact ⟨ret_2 rfl rfl,rfl⟩
    ·rw [if_neg q3]
     have n4:(c == 116) = false:=beq_eq_false_iff_ne.2 q3
     clear q3
     by_cases q4:c = 120
     ·rw [if_pos q4]
      subst q4
      clear n1 n2 n3 n4
      obtain ⟨o,ho⟩:∃ o,(hex2 ((blK s).drop (j + 2))).isSome = o:=⟨_,rfl⟩
      obtain ⟨v,hv⟩:∃ v,(hex2 ((blK s).drop (j + 2))).getD 0 = v:=⟨_,rfl⟩
      rw [ho,hv] at ch ⊢
      clear ho hv
      cases o <;>
      ·go_enter Tryz.func117,Tryz.ntmps117
       go_wp2_with (go_at_call 152;refine (ch _).mono ?_;rintro e w1 ⟨rfl,rfl⟩)
       go_ret2
       exact ⟨ret_2 rfl rfl,rfl⟩
     ·rw [if_neg q4]
      have n5:(c == 120) = false:=beq_eq_false_iff_ne.2 q4
      clear q4
      go_enter Tryz.func117,Tryz.ntmps117
      go_wp2
      go_ret2
      exact ⟨ret_2 rfl rfl,rfl⟩
 ·have i1:(s.size:Int) <= (j:Int) + 1:=by omega
  have E:escV s j = (0,j):=by unfold escV;rw [bl_drop_end h];rfl
  rw [E]
  clear E
  go_enter Tryz.func117,Tryz.ntmps117
  go_wp2
  go_ret2
  exact ⟨ret_2 rfl rfl,rfl⟩
end Go.Proofs.YtcpjiahdaplhlaaGreatDoor

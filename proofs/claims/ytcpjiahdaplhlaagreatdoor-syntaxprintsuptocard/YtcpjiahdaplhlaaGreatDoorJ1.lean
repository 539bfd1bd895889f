import Derived.Test.YtcpjiahdaplhlaaGreatDoorOQ1
import Derived.Test.YtcpjiahdaplhlaaGreatDoorL1
import Derived.Deep.DeepHandedRow
import Derived.LaidMore
import Derived.Test.YtcpjiahdaplhlaaGreatDoorProg
import Derived.WalkKit
import Derived.WalkSpells
import Derived.KernelRfl
import Derived.Below
import Derived.Deep.LoopGhost
import Derived.Deep.WholeRow
import Derived.Deep.MidRow
import Derived.Deep.RegionHeld3
import Derived.Deep.AppendLies
import Derived.Laws.IdiomStrings
namespace Go.Proofs.YtcpjiahdaplhlaaGreatDoor
open Go.RowKit
theorem err_vals (a:At):a.err = 0 ∨ a.err = 21 ∨ a.err = 22 ∨ a.err = 23 ∨ a.err = 24:=by
 unfold At.err;split
 ·exact Or.inr (Or.inl rfl)
 ·split
  ·exact Or.inr (Or.inr (Or.inl rfl))
  ·split
   ·exact Or.inr (Or.inr (Or.inr (Or.inl rfl)))
   ·split
    ·exact Or.inl rfl
    ·exact Or.inr (Or.inr (Or.inr (Or.inr rfl)))
theorem aErr_vals:∀ l:List (At × Value),aErr l = 0 ∨ aErr l = 21 ∨ aErr l = 22 ∨ aErr l = 23 ∨ aErr l = 24
 | []=>Or.inl rfl
 | x :: l=>by
  unfold aErr
  split
  ·exact aErr_vals l
  ·exact err_vals x.1
theorem chk_1 {c:Cm} (h:long c = true):c.chk = 31:=by simp [Cm.chk,Cm.rs,chkL,h]
theorem chk_2 {c:Cm} (h:long c = false) (h2:aErr c.atoms ≠ 0):c.chk = aErr c.atoms:=by
 rcases aErr_vals c.atoms with e | e | e | e | e
 ·exact absurd e h2
 all_goals simp [Cm.chk,Cm.rs,chkL,h,e]
theorem chk_3 {c:Cm} (h:long c = false) (h2:aErr c.atoms = 0) (h3:badT c = true):c.chk = 32:=by simp [Cm.chk,Cm.rs,chkL,h,h2,h3]
theorem chk_4 {c:Cm} (h:long c = false) (h2:aErr c.atoms = 0) (h3:badT c = false) (h4:c.head.1.by_.var = true):c.chk = 33:=by simp [Cm.chk,Cm.rs,chkL,h,h2,h3,h4]
theorem chk_5 {c:Cm} (h:long c = false) (h2:aErr c.atoms = 0) (h3:badT c = false) (h4:c.head.1.by_.var = false) (h5:unb c = true):c.chk = 34:=by simp [Cm.chk,Cm.rs,chkL,h,h2,h3,h4,h5]
theorem chk_6 {c:Cm} (h:long c = false) (h2:aErr c.atoms = 0) (h3:badT c = false) (h4:c.head.1.by_.var = false) (h5:unb c = false) (h6:mis 0 c.vars = true):c.chk = 35:=by simp [Cm.chk,Cm.rs,chkL,h,h2,h3,h4,h5,h6]
theorem chk_7 {c:Cm} (h:long c = false) (h2:aErr c.atoms = 0) (h3:badT c = false) (h4:c.head.1.by_.var = false) (h5:unb c = false) (h6:mis 0 c.vars = false):c.chk = 0:=by simp [Cm.chk,Cm.rs,chkL,h,h2,h3,h4,h5,h6]
theorem aErr_all:∀ {l:List (At × Value)},aErr l = 0 -> ∀ x ∈ l,x.1.err = 0
 | [],_,x,hx=>by cases hx
 | y :: l,h,x,hx=>by
  unfold aErr at h
  by_cases e:y.1.err = 0
  ·rw [if_pos e] at h
   rcases List.mem_cons.1 hx with rfl | hx
   ·exact e
   ·exact aErr_all h x hx
  ·rw [if_neg e] at h;exact absurd h e
theorem aErr_drop {l:List (At × Value)} {j:Nat} {x:At × Value} (h:l[j]? = some x) (he:x.1.err = 0):aErr (l.drop j) = aErr (l.drop (j + 1)):=by
 obtain ⟨hj,rfl⟩:=List.getElem?_eq_some_iff.1 h
 rw [List.drop_eq_getElem_cons hj,aErr,if_pos he]
theorem aErr_hit2 {l:List (At × Value)} {j:Nat} {x:At × Value} (h:l[j]? = some x) (he:x.1.err ≠ 0):aErr (l.drop j) = x.1.err:=by
 obtain ⟨hj,rfl⟩:=List.getElem?_eq_some_iff.1 h
 rw [List.drop_eq_getElem_cons hj,aErr,if_neg he]
theorem any_drop {l:List Te} {j:Nat} {x:Te} (h:l[j]? = some x) (he:x.ok = true):(l.drop j).any (fun t=>!t.ok) = (l.drop (j + 1)).any (fun t=>!t.ok):=by
 obtain ⟨hj,rfl⟩:=List.getElem?_eq_some_iff.1 h
 rw [List.drop_eq_getElem_cons hj,List.any_cons,he];rfl
theorem any_hit {l:List Te} {j:Nat} {x:Te} (h:l[j]? = some x) (he:x.ok = false):l.any (fun t=>!t.ok) = true:=by
 rw [List.any_eq_true];exact ⟨x,List.mem_of_getElem? h,by rw [he];rfl⟩
theorem head_kind {a:At} (h:a.err = 0):(a.by_.var = true ↔ a.by_.k = 3):=by
 have hq:=(err_zero' h).2.2.1
 constructor
 ·intro hv;simp only [Tm.var,decide_eq_true_eq] at hv;exact hv.1
 ·intro hk
  cases hv:a.by_.var
  ·exact absurd hk (qual_k hq hv)
  ·rfl
theorem var_in {t:Tm} (hv:t.var = true) (L:List Tm):t.n ∈ vrs L ↔ t ∈ L:=by
 constructor
 ·intro h
  obtain ⟨u,hu,e⟩:=List.mem_map.1 h
  obtain ⟨hu,hvu⟩:=List.mem_filter.1 hu
  rw [var_eqQ hv, <- e, <- var_eqQ hvu];exact hu
 ·intro h;exact List.mem_map.2 ⟨t,List.mem_filter.2 ⟨h,hv⟩,rfl⟩
theorem unb_ref {c:Cm}:unb c = true ↔ ∃ t ∈ disT (c.head.1.pl ++ tls c.tests),¬ t ∈ flt c.body:=by
 have e3:c.key.2.1.flatMap At.pl = flt c.body:=by simp [flt,Cm.key,fsts,List.flatMap_map]
 have e4:c.key.1.pl ++ tls c.key.2.2 = c.head.1.pl ++ tls c.tests:=rfl
 rw [unb_key,e3,e4,List.any_eq_true]
 constructor
 ·rintro ⟨v,hv,hn⟩
  obtain ⟨t,ht,rfl⟩:=List.mem_map.1 hv
  obtain ⟨ht,hvt⟩:=List.mem_filter.1 ht
  refine ⟨t,disT_mem.2 ⟨ht,hvt⟩,fun hm=>?_⟩
  rw [decide_eq_true ((var_in hvt _).2 hm)] at hn;simp at hn
 ·rintro ⟨t,ht,hn⟩
  obtain ⟨ht,hvt⟩:=disT_mem.1 ht
  refine ⟨t.n,List.mem_map.2 ⟨t,List.mem_filter.2 ⟨ht,hvt⟩,rfl⟩, ?_⟩
  rw [decide_eq_false fun hm=>hn ((var_in hvt _).1 hm)];rfl
theorem mis_ref {L:List Tm}:mis 0 (vrs L) = false ↔ ∀ (i:Nat) (t:Tm),(disT L)[i]? = some t -> t.n = i:=by
 constructor
 ·intro hm i t ht
  obtain ⟨m, -,h2, -⟩:=mis_ints (vrs L) 0 (fun v hv=>by
   obtain ⟨u,hu,rfl⟩:=List.mem_map.1 hv
   exact var_nn (List.mem_filter.1 hu).2) hm
  have hn:(disT L).map (·.n) = ints m:=(disT_n L).trans h2
  have h3:=congrArg (fun l=>l[i]?) hn
  simp only [List.getElem?_map,ht,Option.map_some] at h3
  have hlt:i < m:=by
   have:=(List.getElem?_eq_some_iff.1 ht).1
   have h4:=congrArg List.length hn
   rw [List.length_map,ints_len] at h4;omega
  simp [ints,hlt] at h3
  exact h3
 ·intro h
  have e:vrs L = (L.filter Tm.var).map fun t=>((ix ((L.filter Tm.var).foldl dstepT []) t:Nat):Int):=by
   unfold vrs
   refine List.map_congr_left fun t ht=>?_
   have hm:t ∈ disT L:=disT_mem.2 (List.mem_filter.1 ht)
   have:=h _ t (ix_get hm)
   rw [this];rfl
  rw [e]
  exact mis_idx _ []
def AsP (w:World) (v:Value) (l:List (At × Value)):Prop:=(v = .slice none 0 0 /\ l = []) ∨ ∃ ad cap,v = .slice (some ad) l.length cap /\ (l = [] ∨ ∃ b o,ad = ⟨b,o,none⟩ /\ ARow w b o l)
theorem AsP.later {w w':World} {v:Value} {l:List (At × Value)} (h:AsP w v l) (hb:Below w.heap.size w w'):AsP w' v l:=by
 rcases h with h | ⟨ad,cap,h1,h2⟩
 ·exact Or.inl h
 ·refine Or.inr ⟨ad,cap,h1, ?_⟩
  rcases h2 with h2 | ⟨b,o,h2,h3⟩
  ·exact Or.inl h2
  ·exact Or.inr ⟨b,o,h2,h3.later hb⟩
theorem arow_get {w:World} {b o:Nat} {l:List (At × Value)} (h:ARow w b o l):∀ j u,(acs l)[j]? = some u -> w.cell? ((⟨b,o,none⟩:Addr).add j) = some u:=fun j u hu=>by
 have hj:=(List.getElem?_eq_some_iff.1 hu).1
 rw [acs_len] at hj
 have h1:j / 5 < l.length:=by omega
 obtain ⟨d,hd⟩:∃ d,l[j / 5]? = some d:=⟨_,List.getElem?_eq_getElem h1⟩
 have hg:=acs_get l (j / 5) d hd (j % 5) (by omega)
 have e:j / 5 * 5 + j % 5 = j:=by omega
 rw [e,hu] at hg
 have hc:=h.2 _ d hd
 rw [Go.WideShapes.add_plain]
 have ea:o + j = o + j / 5 * 5 + j % 5:=by omega
 rw [ea]
 have h4:j % 5 = 0 ∨ j % 5 = 1 ∨ j % 5 = 2 ∨ j % 5 = 3 ∨ j % 5 = 4:=by omega
 rcases h4 with e | e | e | e | e <;> rw [e] at hg ⊢ <;> simp [acell] at hg <;> subst hg
 ·exact hc.1
 ·exact hc.2.1
 ·exact hc.2.2.1
 ·exact hc.2.2.2.1
 ·exact hc.2.2.2.2
theorem ownA_one {w:World} {b base:Nat} {y:At × Value} (h:CBlk w b (acell y).toArray 42) (hb:base <= b):OwnA w base (.slice (some ⟨b,0,none⟩) 1 1) [y]:=by
 refine ⟨by simp [acs,acell],Or.inr ⟨_,1,(acell y).toArray,rfl,hb,h,Nat.le_refl _,by unfold maxLen;omega,by simp [acell],by simp [acs,acell]⟩⟩
theorem aapp_list {ops:Array Oper} {rest:List Oper} {o:Oper} {a:Act} {Q:Exit -> Act -> World -> Prop} {w:World} (hgd:o.guard = none) (s x:Operand)
  (ho:o.op = .call { callee:=.builtin .append,args:=#[s,x],argTypes:=#[50,50] }) (base:Nat) (v:Value) (l:List (At × Value)) (hs:a.eval s = v) (hown:OwnA w base v l)
  (y:Value) (m:List (At × Value)) (hx:a.eval x = y) (hy:AsP w y m) (h1c:∀ z ∈ m,∀ u ∈ acell z,u.oneCell' = true) (hlen:l.length + m.length <= 1800000000000) (hbase:base <= w.heap.size)
  (h:∀ v' w',OwnA w' base v' (l ++ m) -> Below base w w' -> wpList Tryz.prog ops Q rest (a.put o.dst v') w'):wpList Tryz.prog ops Q (o :: rest) a w:=by
 obtain ⟨i0,hi0,hz0,hz1,hz2⟩:=info_parts Tryz.infoAtom
 rcases hy with ⟨rfl,rfl⟩ | ⟨ad,cap,rfl,hm⟩
 ·refine wpList_append_own_none hgd s x 50 ho base 42 i0 5 Tryz.underlying50 hi0 v l.length (acs l) hs hown hx ?_
  exact h v w (by rw [List.append_nil];exact hown) (Below.refl _ _)
 ·refine wpList_append_own _ hgd s x 50 ho base 42 i0 _ 5 72 Tryz.underlying50 hi0 hz0 hz1 hz2 rfl (by omega) v l.length (acs l) hs hown ad m.length cap (acs m) hx (acs_len m) ?_ (fun u hu=>by obtain ⟨z,hz,hu⟩:=List.mem_flatMap.1 hu;exact h1c z hz u hu) (by unfold maxLen;omega) (by omega) hbase ?_
  ·rcases hm with rfl | ⟨b,o',rfl,hm⟩
   ·intro j u hu;simp [acs] at hu
   ·exact arow_get hm
  ·intro v' w' h1 h2 _
   refine h v' w' ?_ (grown_below3 h2 (fun k hk=>(World.ownsRow.lt hown k hk).1) hbase)
   unfold OwnA
   rw [List.length_append,acs_app]
   exact h1
theorem As.get_ {w:World} {a:Option Addr} {n cap j:Nat} {l:List (At × Value)} (h:As w (.slice a n cap) l) (hj:j < n) :
  ∃ (b o:Nat) (t:At × Value),a = some ⟨b,o,none⟩ /\ l[j]? = some t /\ b < w.heap.size /\ (w.cell? ⟨b,o + j * 5,none⟩ = some (.int .i64 t.1.by_.k) /\ w.cell? ⟨b,o + j * 5 + 1,none⟩ = some (.int .i64 t.1.by_.n) /\ w.cell? ⟨b,o + j * 5 + 2,none⟩ = some (.string t.1.by_.s) /\ w.cell? ⟨b,o + j * 5 + 3,none⟩ = some (.string t.1.name) /\ w.cell? ⟨b,o + j * 5 + 4,none⟩ = some t.2) /\ Ts w t.2 t.1.args:=by
 obtain ⟨a',cap',e,hl,hm,ht⟩:=h
 simp only [Value.slice.injEq] at e
 obtain ⟨rfl,rfl,rfl⟩:=e
 obtain ⟨t,htj⟩:∃ t,l[j]? = some t:=⟨_,List.getElem?_eq_getElem hj⟩
 rcases hm with rfl | ⟨b,o,rfl,hr⟩
 ·simp at hj
 ·exact ⟨b,o,t,rfl,htj,hr.1,hr.2 j t htj,ht t (List.mem_of_getElem? htj)⟩
theorem Es.get_ {w:World} {a:Option Addr} {n cap j:Nat} {l:List Te} (h:Es w (.slice a n cap) l) (hj:j < n) :
  ∃ (b o:Nat) (t:Te),a = some ⟨b,o,none⟩ /\ l[j]? = some t /\ b < w.heap.size /\ w.cell? ⟨b,o + j * 7,none⟩ = some (.int .i64 t.op) /\ w.cell? ⟨b,o + j * 7 + 1,none⟩ = some (.int .i64 t.l.k) /\ w.cell? ⟨b,o + j * 7 + 2,none⟩ = some (.int .i64 t.l.n) /\ w.cell? ⟨b,o + j * 7 + 3,none⟩ = some (.string t.l.s) /\ w.cell? ⟨b,o + j * 7 + 4,none⟩ = some (.int .i64 t.r.k) /\ w.cell? ⟨b,o + j * 7 + 5,none⟩ = some (.int .i64 t.r.n) /\ w.cell? ⟨b,o + j * 7 + 6,none⟩ = some (.string t.r.s):=by
 obtain ⟨a',cap',e,hl,hm⟩:=h
 simp only [Value.slice.injEq] at e
 obtain ⟨rfl,rfl,rfl⟩:=e
 obtain ⟨t,htj⟩:∃ t,l[j]? = some t:=⟨_,List.getElem?_eq_getElem hj⟩
 rcases hm with rfl | ⟨b,o,rfl,hr⟩
 ·simp at hj
 ·exact ⟨b,o,t,rfl,htj,hr.1,hr.2 j t htj⟩
theorem stepT_list {ops:Array Oper} {o:Oper} {a:Act} {K:Act -> World -> Prop} {Q:Exit -> Act -> World -> Prop} {E:Prop} {w:World} (hgd:o.guard = none) (s x:Operand)
  (ho:o.op = .call { callee:=.builtin .append,args:=#[s,x],argTypes:=#[40,40] }) (base:Nat) (v:Value) (l:List Tm) (hs:a.eval s = v) (hown:OwnT w base v l)
  (y:Value) (m:List Tm) (hx:a.eval x = y) (hy:TsP w y m) (hlen:l.length + m.length <= 4000000000000) (hbase:base <= w.heap.size)
  (h:∀ v' w',OwnT w' base v' (l ++ m) -> Below base w w' -> K (a.put o.dst v') w'):if Region.wanted o (yielded ops a.tmps) = true then Oper.wp Tryz.prog o a w K Q else E:=by
 have hw:Region.wanted o (yielded ops a.tmps) = true:=by simp [Region.wanted,hgd]
 rw [if_pos hw]
 obtain ⟨i0,hi0,hz0,hz1,hz2⟩:=info_parts Tryz.infoTerm
 rcases hy with ⟨rfl,rfl⟩ | ⟨ad,cap,rfl,hm⟩
 ·have hrun:=run_append_owned_none (P:=Tryz.prog) (w:=w) base 40 o.type 39 i0 3 Tryz.underlying40 hi0 v l.length (tcs l) hown
  unfold Oper.wp
  simp [execOp,ho,resolve,invoke,builtin,hs,hx,hrun,Result.andThen]
  exact h v w (by rw [List.append_nil];exact hown) (Below.refl _ _)
 ·refine wp_append_own w s x 40 ho base 39 i0 _ 3 32 Tryz.underlying40 hi0 hz0 hz1 hz2 rfl (by omega) v l.length (tcs l) hs hown ad m.length cap (tcs m) hx (tcs_len m) ?_ (fun u hu=>tcs_mem hu) (by unfold maxLen;omega) (by omega) hbase ?_
  ·rcases hm with rfl | ⟨b,o',rfl,hm⟩
   ·intro j u hu;simp [tcs] at hu
   ·exact trow_get hm
  ·intro v' w' h1 h2 _
   refine h v' w' ?_ (grown_below3 h2 (fun k hk=>(World.ownsRow.lt hown k hk).1) hbase)
   unfold OwnT
   rw [List.length_append,tcs_app]
   exact h1
end Go.Proofs.YtcpjiahdaplhlaaGreatDoor
namespace Go.Proofs.YtcpjiahdaplhlaaGreatDoor
open Go.ChangeShapes Go.WideShapes Go.ChangeAt Go.RowKit Go.Joins Go.Deep
theorem terms_lits {H:Type} {enc:TypeId × Value -> H} {W:World} {base:Nat} {spare:Nat -> Bool} {held:Bool} {fuel:Nat} {cs:List Value} {x:DataW H × List MemPlace}
  (h:DataW.trod enc Tryz.prog W base spare held fuel 39 cs = some x) (hl:cs.length = 3):∃ t:Tm,cs = [.int .i64 t.k,.int .i64 t.n,.string t.s] /\ x.1 = .agg [.lit (.int .i64 t.k),.lit (.int .i64 t.n),.lit (.string t.s.data.toList)]:=by
 obtain ⟨c0,c1,c2,rfl⟩:=list3 hl
 obtain ⟨y0,y1,y2,n,hd, -,h0,h1,h2⟩:=trod_struct3 Tryz.underlying39 h
 rw [Tryz.cellsInt] at h0 h1
 rw [Tryz.cellsString] at h2
 obtain ⟨k,e0,f0, -⟩:=DataW.trod_int Tryz.underlying3 h0
 obtain ⟨m,e1,f1, -⟩:=DataW.trod_int Tryz.underlying3 h1
 obtain ⟨s,e2,f2, -⟩:=DataW.trod_string Tryz.underlying9 h2
 simp at e0 e1 e2
 subst e0 e1 e2
 refine ⟨⟨k,m,s⟩,rfl, ?_⟩
 rw [hd,f0,f1,f2]
end Go.Proofs.YtcpjiahdaplhlaaGreatDoor
namespace Go.Proofs.YtcpjiahdaplhlaaGreatDoor
open Go.RowKit
def atK_ (s:ByteArray) (j:Nat):Int:=if h:j < s.size then (s[j].toNat:Int) else 0
theorem atK_lt (s:ByteArray) (j:Nat) (h:j < s.size):atK_ s j = (s[j].toNat:Int):=by unfold atK_;rw [dif_pos h]
theorem at_range (s:ByteArray) (j:Nat):0 <= atK_ s j /\ atK_ s j <= 255:=by
 unfold atK_;split
 ·rename_i h;have:=s[j].toNat_lt;omega
 ·omega
theorem run_index_atK (s:ByteArray) (j:Nat) (hj:j < s.size) (i:Int) (hi:i = j) (w:World) (k:IntKind):(Instr.index 9 (.string s) (.int k i)).run Tryz.prog w = .ok (.int .u8 (atK_ s j)) w:=by
 subst hi
 rw [run_index_string w 9 s k _ Tryz.underlying9,dif_pos (by omega),atK_lt s j hj]
 simp
def sml (c:Int):Bool:=decide (97 <= c) && decide (c <= 122)
def grt (c:Int):Bool:=(decide (65 <= c) && decide (c <= 90)) || decide (c = 95)
def dig (c:Int):Bool:=decide (48 <= c) && decide (c <= 57)
def rnb (c:Int):Bool:=sml c || grt c || dig c
theorem small_anyK (c:Int) (w:World):Calls Tryz.prog 70 #[.int .u8 c] w fun e w'=>e = .returned (.bool (sml c)) /\ w' = w:=by
 unfold sml
 by_cases a:97 <= c <;> by_cases b:c <= 122 <;> (go_enter Tryz.func70,Tryz.ntmps70;go_wp2;go_ret;exact ⟨by simp [a,b],rfl⟩)
theorem qsmall_any (c:Int) (w:World):Calls Tryz.prog 90 #[.int .u8 c] w fun e w'=>e = .returned (.bool (sml c)) /\ w' = w:=by
 unfold sml
 by_cases a:97 <= c <;> by_cases b:c <= 122 <;> (go_enter Tryz.func90,Tryz.ntmps90;go_wp2;go_ret;exact ⟨by simp [a,b],rfl⟩)
theorem digit_any (c:Int) (w:World):Calls Tryz.prog 74 #[.int .u8 c] w fun e w'=>e = .returned (.bool (dig c)) /\ w' = w:=by
 unfold dig
 by_cases a:48 <= c <;> by_cases b:c <= 57 <;> (go_enter Tryz.func74,Tryz.ntmps74;go_wp2;go_ret;exact ⟨by simp [a,b],rfl⟩)
theorem qdigit_any (c:Int) (w:World):Calls Tryz.prog 129 #[.int .u8 c] w fun e w'=>e = .returned (.bool (dig c)) /\ w' = w:=by
 unfold dig
 by_cases a:48 <= c <;> by_cases b:c <= 57 <;> (go_enter Tryz.func129,Tryz.ntmps129;go_wp2;go_ret;exact ⟨by simp [a,b],rfl⟩)
theorem great_any (c:Int) (w:World):Calls Tryz.prog 73 #[.int .u8 c] w fun e w'=>e = .returned (.bool (grt c)) /\ w' = w:=by
 unfold grt
 by_cases a:65 <= c <;> by_cases b:c <= 90 <;> by_cases d:c = 95 <;> (go_enter Tryz.func73,Tryz.ntmps73;go_wp2;go_ret;exact ⟨by (try simp [a,b,d]) <;> (rw [Bool.eq_iff_iff];simp;omega),rfl⟩)
theorem qgreat_any (c:Int) (w:World):Calls Tryz.prog 128 #[.int .u8 c] w fun e w'=>e = .returned (.bool (grt c)) /\ w' = w:=by
 unfold grt
 by_cases a:65 <= c <;> by_cases b:c <= 90 <;> by_cases d:c = 95 <;> (go_enter Tryz.func128,Tryz.ntmps128;go_wp2;go_ret;exact ⟨by (try simp [a,b,d]) <;> (rw [Bool.eq_iff_iff];simp;omega),rfl⟩)
theorem runByte_any (c:Int) (w:World):Calls Tryz.prog 115 #[.int .u8 c] w fun e w'=>e = .returned (.bool (rnb c)) /\ w' = w:=by
 unfold rnb
 cases a:sml c <;> cases b:grt c <;> cases d:dig c <;>
  (have ca:=small_anyK c;have cb:=great_any c;have cd:=digit_any c;rw [a] at ca;rw [b] at cb;rw [d] at cd;
   go_enter Tryz.func115,Tryz.ntmps115
   go_wp2_with (first | (go_at_call 70;refine (ca _).mono ?_;rintro e w1 ⟨rfl,rfl⟩) | (go_at_call 73;refine (cb _).mono ?_;rintro e w1 ⟨rfl,rfl⟩) | (go_at_call 74;refine (cd _).mono ?_;rintro e w1 ⟨rfl,rfl⟩))
   go_ret
   exact ⟨by simp,rfl⟩)
def rneF (s:ByteArray):Nat -> Nat -> Nat
 | 0,j=>j
 | f + 1,j=>if rnb (atK_ s j) = true then rneF s f (j + 1) else j
def rne (s:ByteArray) (j:Nat):Nat:=rneF s (s.size - j) j
theorem rne_yes {s:ByteArray} {j:Nat} (hj:j < s.size) (h:rnb (atK_ s j) = true):rne s (j + 1) = rne s j:=by
 unfold rne
 obtain ⟨f,hf⟩:∃ f,s.size - j = f + 1:=⟨s.size - j - 1,by omega⟩
 rw [hf,show s.size - (j + 1) = f by omega]
 show rneF s f (j + 1) = if rnb (atK_ s j) = true then rneF s f (j + 1) else j
 rw [if_pos h]
theorem rne_no {s:ByteArray} {j:Nat} (h:rnb (atK_ s j) = false):rne s j = j:=by
 unfold rne
 cases hf:s.size - j with
 | zero=>rfl
 | succ f=>show (if rnb (atK_ s j) = true then rneF s f (j + 1) else j) = j;rw [h];rfl
theorem rne_end {s:ByteArray}:rne s s.size = s.size:=by unfold rne;rw [Nat.sub_self];rfl
theorem runEnd_any (s:ByteArray) (j0:Nat) (h0:j0 <= s.size) (hs:s.size < 4611686018427387904) (w:World) :
  Calls Tryz.prog 71 #[.string s,.int .i64 j0] w fun e w'=>e = .returned (.int .i64 (rne s j0)) /\ w' = w:=by
 go_enter Tryz.func71,Tryz.ntmps71
 go_wp2
 go_loopg [1] (s.size - j0) (fun g i wr=>∃ j:Nat,j + g = s.size /\ i = .int .i64 j /\ rne s j = rne s j0 /\ wr = w)
 case atStart=>exact ⟨j0,by omega,rfl,rfl,rfl⟩
 case round=>
  obtain ⟨j,hj,rfl,hr,rfl⟩:=hrel
  have HR:Hid (rne s j = rne s j0):=hr
  clear hr
  cases gk with
  | succ g=>
   have hlt:j < s.size:=by omega
   have i1:(j:Int) < (s.size:Int):=by omega
   have hidx:=run_index_atK s j hlt (j:Int) rfl
   have cr:=runByte_any (atK_ s j)
   obtain ⟨c,hc⟩:∃ c,atK_ s j = c:=⟨_,rfl⟩
   rw [hc] at hidx cr
   have HC:Hid (atK_ s j = c):=hc
   cases hb:rnb c
   ·rw [hb] at cr
    clear hc
    have HB:Hid (rnb c = false):=hb
    clear hb
    go_wp2_with (go_at_call 115;refine (cr _).mono ?_;rintro e w1 ⟨rfl,rfl⟩)
    go_ret
    exact ⟨by rw [<- HR.out,rne_no (by rw [HC.out];exact HB.out)];rfl,rfl⟩
   ·rw [hb] at cr
    have HB:Hid (rnb c = true):=hb
    clear hc hb
    go_wp2_with (go_at_call 115;refine (cr _).mono ?_;rintro e w1 ⟨rfl,rfl⟩)
    go_roundg g
    case measure=>omega
    case rel=>exact ⟨j + 1,by omega,by go_num,by rw [rne_yes hlt (by rw [HC.out];exact HB.out)];exact HR.out,rfl⟩
  | zero=>
   obtain rfl:j = s.size:=by omega
   have hz:¬ ((s.size:Int) < (s.size:Int)):=by omega
   go_wp2
   go_ret
   exact ⟨by rw [<- HR.out,rne_end];rfl,rfl⟩
theorem qrun_any (s:ByteArray) (j0:Nat) (h0:j0 <= s.size) (hs:s.size < 4611686018427387904) (w:World) :
  Calls Tryz.prog 91 #[.string s,.int .i64 j0] w fun e w'=>e = .returned (.int .i64 (rne s j0)) /\ w' = w:=by
 go_enter Tryz.func91,Tryz.ntmps91
 go_wp2
 go_loopg [1] (s.size - j0) (fun g i wr=>∃ j:Nat,j + g = s.size /\ i = .int .i64 j /\ rne s j = rne s j0 /\ wr = w)
 case atStart=>exact ⟨j0,by omega,rfl,rfl,rfl⟩
 case round=>
  obtain ⟨j,hj,rfl,hr,rfl⟩:=hrel
  have HR:Hid (rne s j = rne s j0):=hr
  clear hr
  cases gk with
  | succ g=>
   have hlt:j < s.size:=by omega
   have i1:(j:Int) < (s.size:Int):=by omega
   have hidx:=run_index_atK s j hlt (j:Int) rfl
   have ca:=qsmall_any (atK_ s j)
   have cb:=qgreat_any (atK_ s j)
   have cd:=qdigit_any (atK_ s j)
   obtain ⟨c,hc⟩:∃ c,atK_ s j = c:=⟨_,rfl⟩
   rw [hc] at hidx ca cb cd
   have HC:Hid (atK_ s j = c):=hc
   have HB:Hid (∀ x y z,sml c = x -> grt c = y -> dig c = z -> rnb (atK_ s j) = (x || y || z)):=fun x y z hx hy hz=>by rw [hc,rnb,hx,hy,hz]
   cases a:sml c <;> cases b:grt c <;> cases d:dig c <;>
    (rw [a] at ca;rw [b] at cb;rw [d] at cd
     have HB1:Hid _:=HB.out _ _ _ a b d
     clear HB hc a b d
     go_wp2_with (first | (go_at_call 90;refine (ca _).mono ?_;rintro e w1 ⟨rfl,rfl⟩) | (go_at_call 128;refine (cb _).mono ?_;rintro e w1 ⟨rfl,rfl⟩) | (go_at_call 129;refine (cd _).mono ?_;rintro e w1 ⟨rfl,rfl⟩))
     first
      | (go_ret;exact ⟨by rw [<- HR.out,rne_no HB1.out];rfl,rfl⟩)
      | (
       go_roundg g
       case measure=>omega
       case rel=>exact ⟨j + 1,by omega,by go_num,by rw [rne_yes hlt HB1.out];exact HR.out,rfl⟩))
  | zero=>
   obtain rfl:j = s.size:=by omega
   have hz:¬ ((s.size:Int) < (s.size:Int)):=by omega
   go_wp2
   go_ret
   exact ⟨by rw [<- HR.out,rne_end];rfl,rfl⟩
end Go.Proofs.YtcpjiahdaplhlaaGreatDoor

import Derived.Test.YtcpjiahdaplhlaaGreatDoorOQ1
import Derived.Test.YtcpjiahdaplhlaaGreatDoorMD2
import Derived.Maps.OwnOps
import Derived.Maps.OwnSet
namespace Go.Proofs.YtcpjiahdaplhlaaGreatDoor
open Go.RowKit
theorem dis_lenT (l:List Tm):(dis (vrs l)).length = (disT l).length:=by rw [<- disT_n,List.length_map]
theorem dis_fold_le:∀ (l acc:List Int),(l.foldl dstep acc).length <= acc.length + l.length
 | [],acc=>by simp
 | v :: l,acc=>by
  rw [List.foldl_cons]
  have h1:=dis_fold_le l (dstep acc v)
  have h2:(dstep acc v).length <= acc.length + 1:=by unfold dstep;split <;> simp
  simp only [List.length_cons];omega
theorem dis_le (l:List Int):(dis l).length <= l.length:=by have:=dis_fold_le l [];simpa [dis] using this
end Go.Proofs.YtcpjiahdaplhlaaGreatDoor
namespace Go.Proofs.YtcpjiahdaplhlaaGreatDoor
open Go.RowKit Go.Shelf
attribute [local go_sem ↓] Go.wp_at_zero Go.wp_at_succ
def nvF (D:DataW Unit) (i:Nat):List Int -> DataW Unit
 | []=>D
 | x :: l=>nvF (D.put (.int .i64 x) (.lit (.int .i64 (i:Int)))) (i + 1) l
def nv (vs:List Int):DataW Unit:=nvF (.map []) 0 vs
theorem nvF_snoc (x:Int):∀ (l:List Int) (D:DataW Unit) (i:Nat),nvF D i (l ++ [x]) = (nvF D i l).put (.int .i64 x) (.lit (.int .i64 ((i + l.length:Nat):Int)))
 | [],_,_=>rfl
 | y :: l,D,i=>by
  rw [List.cons_append,nvF,nvF_snoc x l]
  show _ = (nvF (D.put (.int .i64 y) (.lit (.int .i64 (i:Int)))) (i + 1) l).put _ _
  rw [show i + 1 + l.length = i + (y :: l).length by simp;omega]
theorem nv_snoc (vs:List Int) (x:Int):nv (vs ++ [x]) = (nv vs).put (.int .i64 x) (.lit (.int .i64 (vs.length:Int))):=by
 unfold nv;rw [nvF_snoc,Nat.zero_add]
def ixN:List Int -> Int -> Nat
 | [],_=>0
 | x :: l,t=>if x = t then 0 else ixN l t + 1
theorem ixN_app:∀ {p q:List Int} {t:Int},t ∈ p -> ixN (p ++ q) t = ixN p t
 | x :: l,q,t,h=>by
  rw [List.cons_append,ixN,ixN]
  by_cases e:x = t
  ·rw [if_pos e,if_pos e]
  ·rw [if_neg e,if_neg e,ixN_app (by rcases List.mem_cons.1 h with h | h;exact absurd h.symm e;exact h)]
theorem ixN_new:∀ {p:List Int} {t:Int},¬ t ∈ p -> ixN (p ++ [t]) t = p.length
 | [],t,_=>by simp [ixN]
 | x :: l,t,h=>by
  rw [List.cons_append,ixN,if_neg (fun e=>h (by simp [e])),ixN_new (fun e=>h (by simp [e]))];rfl
theorem keyI (x:Int):WideAt.IsKeyLit (Lit.int .i64 x):=by trivial
structure NvOk (vs:List Int):Prop where
 t:Maps.Tidy (nv vs)
 h:∀ x,Maps.has (nv vs) (.int .i64 x) = decide (x ∈ vs)
 a:∀ x ∈ vs,(nv vs).atKey (.int .i64 x) (.lit (.int .i64 0)) = .lit (.int .i64 (ixN vs x:Int))
 s:Maps.size (nv vs) = vs.length
theorem nvOk_nil:NvOk []:=⟨Maps.tidy_empty,fun x=>by simp [nv,nvF,Maps.has],fun x hx=>by simp at hx,rfl⟩
theorem NvOk.snoc {vs:List Int} (H:NvOk vs) {x:Int} (hx:¬ x ∈ vs):NvOk (vs ++ [x]):=by
 refine ⟨by rw [nv_snoc];exact H.t.put (keyI x) _,fun y=>?_,fun y hy=>?_, ?_⟩
 ·rw [nv_snoc]
  by_cases e:y = x
  ·subst e;rw [Maps.has_put_same H.t.isMap (keyI _)];simp
  ·rw [Maps.has_put_other (fun h=>e (by cases h;rfl)),H.h];simp [e]
 ·rw [nv_snoc]
  by_cases e:y = x
  ·subst e;rw [Maps.atKey_put_same H.t.isMap (keyI _),ixN_new hx]
  ·have hy':y ∈ vs:=by rcases List.mem_append.1 hy with h | h;exact h;exact absurd (List.mem_singleton.1 h) e
   rw [Maps.atKey_put_other (fun h=>e (by cases h;rfl)),H.a y hy',ixN_app hy']
 ·rw [nv_snoc,Maps.size_put H.t,H.h,if_neg (by simp [hx]),H.s];simp
structure NM (w:World) (P M:Nat) (vs:List Int):Prop where
 b:CBlk w P #[.map (some M)] 204
 m:w.ownsMap Tryz.prog 3 (plainElem Tryz.prog 3 (H:=Unit)) M vs.length (nv vs)
 o:NvOk vs
 ne:P ≠ M
def nst (vs:List Int) (t:Tm):List Int:=if t.var = true then (if t.n ∈ vs then vs else vs ++ [t.n]) else vs
def nsT (vs:List Int) (t:Tm):Tm:=if t.var = true then ⟨3,(ixN (nst vs t) t.n:Int),⟨#[]⟩⟩ else t
end Go.Proofs.YtcpjiahdaplhlaaGreatDoor
namespace Go.Proofs.YtcpjiahdaplhlaaGreatDoor
open Go.RowKit Go.Shelf
attribute [local go_sem ↓] Go.wp_at_zero Go.wp_at_succ
theorem NM.later {w w':World} {P M:Nat} {vs:List Int} (h:NM w P M vs) (hb:Below w.heap.size w w'):NM w' P M vs:=⟨h.b.later hb,h.m.kept (below_grown hb) (by simp),h.o,h.ne⟩
theorem NM.off {w:World} {P M G i:Nat} {vs:List Int} {c:Value} (h:NM w P M vs) (hP:P ≠ G) (hM:M ≠ G):NM (w.setCell ⟨G,i,none⟩ c) P M vs:=
 ⟨h.b.off hP,h.m.setCell (a:=⟨G,i,none⟩) hM _,h.o,h.ne⟩
theorem NM.lt {w:World} {P M:Nat} {vs:List Int} (h:NM w P M vs):P < w.heap.size /\ M < w.heap.size:=⟨h.b.lt,h.m.lt⟩
theorem grown_far {w X:World} {row:Option Nat} {G i:Nat} (h:w.grownBy X row) (hG:w.heap.size <= G) (c:Value):w.grownBy (X.setCell ⟨G,i,none⟩ c) row:=
 ⟨by simpa [World.setCell] using h.os,by simpa [World.setCell] using h.tape,by simpa [World.setCell] using h.output,by simpa [World.setCell] using h.size,fun k hk hr=>by rw [heap_setCell_other _ _ _ _ (show k ≠ G by omega)];exact h.block k hk hr⟩
theorem below_but {w X:World} (h:Below w.heap.size w X) (row:Option Nat):w.grownBy X row:=World.grownBy.but (below_grown h) row
theorem grown_on {w X Y:World} {M:Nat} (h:Below w.heap.size w X) (hg:X.grownBy Y (some M)):w.grownBy Y (some M):=
 World.grownBy.trans (below_but h (some M)) hg
set_option maxRecDepth 20000 in
set_option maxHeartbeats 2000000 in
theorem normal1_any (vs:List Int) (P M:Nat) (t:Tm) (w:World) (h:NM w P M vs) (hw:t.var = true -> (Lit.int .i64 t.n).wf = true) (hl:vs.length < 4000000000000) :
  Calls Tryz.prog 191 #[t.v,.pointer (some ⟨P,0,none⟩)] w fun e w'=>e = .returned (nsT vs t).v /\ NM w' P M (nst vs t) /\ w.grownBy w' (some M):=by
 have HN:Hid (NM w P M vs):=h
 have hlt:=h.lt
 have zero:∀ X:World,(zeroValue 3).run Tryz.prog X = .ok (.int .i64 0) X:=fun X=>by kernel_rfl
 have hvar:=fun X=>var_any t X
 obtain ⟨b,hb⟩:∃ b,t.var = b:=⟨_,rfl⟩
 have HB:Hid (t.var = b):=hb
 rw [hb] at hvar
 have HVA:Hid (∀ X:World,Calls Tryz.prog 44 #[t.v] X fun e w'=>e = .returned (.bool b) /\ Below X.heap.size X w'):=hvar
 have HT3:Hid (CBlk _ _ _ _ /\ CBlk _ _ _ _):=two3 w t
 have nw:w.heap.size <= w.heap.size + 1:=by omega
 have nP:P ≠ w.heap.size + 1:=by omega
 have nM:M ≠ w.heap.size + 1:=by omega
 cases b
 ·have e1:nsT vs t = t:=by unfold nsT;rw [hb,if_neg (by simp)]
  have e2:nst vs t = vs:=by unfold nst;rw [hb,if_neg (by simp)]
  rw [e1,e2]
  clear hvar hb hw h e1 e2
  obtain ⟨k,n,s⟩:=t
  go_enter Tryz.func191,Tryz.ntmps191
  go_wp2_with (go_at_call 44;refine (HVA.out _).mono ?_;clear HVA;rintro e w1 ⟨rfl,hb⟩;obtain ⟨c0,c1,c2⟩:=cthree (HT3.out.1.later hb);obtain ⟨r0,r1,r2⟩:=cthree (HT3.out.2.later hb);have f0:w1.frozen? ⟨w.heap.size + 1,0,none⟩ = false:=(HT3.out.2.later hb).froz;have f1:w1.frozen? ⟨w.heap.size + 1,1,none⟩ = false:=(HT3.out.2.later hb).froz;have f2:w1.frozen? ⟨w.heap.size + 1,2,none⟩ = false:=(HT3.out.2.later hb).froz;have HW:Hid (Below w.heap.size w w1):=below_step (below2 _ _ _) hb;clear hb HT3;simp only at c0 c1 c2)
  exact bodyPost_ret (v:=Tm.v ⟨k,n,s⟩) (by simp [results,Tryz.results191,go_sem,r0,r1,r2]) rfl ⟨rfl,(((HN.out.later HW.out).off nP nM).off nP nM).off nP nM,below_but (((HW.out.setCell nw _).setCell nw _).setCell nw _) _⟩
 ·have hwf:=hw hb
  have HWF:Hid ((Lit.int .i64 t.n).wf = true):=hwf
  by_cases hm:t.n ∈ vs
  ·have e2:nst vs t = vs:=by unfold nst;rw [hb,if_pos rfl,if_pos hm]
   have e1:nsT vs t = ⟨3,(ixN vs t.n:Int),⟨#[]⟩⟩:=by unfold nsT;rw [e2,hb,if_pos rfl]
   rw [e1,e2]
   have HH:Hid (Maps.has (nv vs) (.int .i64 t.n) = true):=by show _ = _;rw [h.o.h];exact decide_eq_true hm
   have HA:Hid ((nv vs).atKey (.int .i64 t.n) (.lit (.int .i64 0)) = .lit (.int .i64 (ixN vs t.n:Int))):=h.o.a _ hm
   clear hvar hb hw h e1 e2 hm hwf
   obtain ⟨k,n,s⟩:=t
   simp only at HH HA HWF
   obtain ⟨ii,hii⟩:∃ i:Int,(ixN vs n:Int) = i:=⟨_,rfl⟩
   rw [hii] at HA ⊢
   clear hii
   go_enter Tryz.func191,Tryz.ntmps191
   go_wp2_with (first
    | (go_at_call 44;refine (HVA.out _).mono ?_;clear HVA;rintro e w1 ⟨rfl,hb⟩;obtain ⟨c0,c1,c2⟩:=cthree (HT3.out.1.later hb);obtain ⟨r0,r1,r2⟩:=cthree (HT3.out.2.later hb);have f0:w1.frozen? ⟨w.heap.size + 1,0,none⟩ = false:=(HT3.out.2.later hb).froz;have f1:w1.frozen? ⟨w.heap.size + 1,1,none⟩ = false:=(HT3.out.2.later hb).froz;have f2:w1.frozen? ⟨w.heap.size + 1,2,none⟩ = false:=(HT3.out.2.later hb).froz;have HW:Hid (Below w.heap.size w w1):=below_step (below2 _ _ _) hb;have HN1:Hid (NM w1 P M vs):=HN.out.later HW.out;have p0:=cone HN1.out.b;clear hb HT3;simp only at c0 c1 c2)
    | (at_lookup;refine wpList_lookup_own_ok_int _ rfl _ _ 204 rfl 3 3 .i64 (Maps.int_keyed Tryz.underlying3) Tryz.underlying204 Tryz.underlying3 (zero _) M vs.length (nv vs) rfl HN1.out.m _ _ rfl (Maps.keyOf_int_mk Tryz.underlying3 HWF.out) ?_;intro c hat hwc;rw [HH.out];have hc:c = ii:=(by rw [HA.out] at hat;cases hat;rfl);subst hc;clear hat hwc))
   exact bodyPost_ret (v:=Tm.v ⟨3,c,⟨#[]⟩⟩) (by simp [results,Tryz.results191,go_sem,r0,r1,r2]) rfl ⟨rfl,((HN1.out.off nP nM).off nP nM).off nP nM,below_but (((HW.out.setCell nw _).setCell nw _).setCell nw _) _⟩
  ·have e2:nst vs t = vs ++ [t.n]:=by unfold nst;rw [hb,if_pos rfl,if_neg hm]
   have e1:nsT vs t = ⟨3,(vs.length:Int),⟨#[]⟩⟩:=by unfold nsT;rw [e2,hb,if_pos rfl,ixN_new hm]
   rw [e1,e2]
   have HH:Hid (Maps.has (nv vs) (.int .i64 t.n) = false):=by show _ = _;rw [h.o.h];exact decide_eq_false hm
   have HO2:Hid (NvOk (vs ++ [t.n])):=h.o.snoc hm
   have HSN:Hid (nv (vs ++ [t.n]) = (nv vs).put (.int .i64 t.n) (.lit (.int .i64 (vs.length:Int)))):=nv_snoc vs t.n
   have HSZ:Hid (Maps.size (nv vs) = vs.length):=h.o.s
   have HLW:Hid ((Lit.int .i64 (vs.length:Int)).wf = true):=by
    show _ = true
    simp only [Lit.wf,IntKind.min,IntKind.max,IntKind.signed,IntKind.bits,Bool.and_eq_true,decide_eq_true_eq,if_true]
    omega
   clear hvar hb hw h e1 e2 hm hwf
   obtain ⟨k,n,s⟩:=t
   simp only at HH HO2 HSN HWF
   go_enter Tryz.func191,Tryz.ntmps191
   go_wp2_with (first
    | (go_at_call 44;refine (HVA.out _).mono ?_;clear HVA;rintro e w1 ⟨rfl,hb⟩;obtain ⟨c0,c1,c2⟩:=cthree (HT3.out.1.later hb);have HR:Hid (CBlk w1 _ _ _):=HT3.out.2.later hb;have HW:Hid (Below w.heap.size w w1):=below_step (below2 _ _ _) hb;have HN1:Hid (NM w1 P M vs):=HN.out.later HW.out;have p0:=cone HN1.out.b;clear hb HT3;simp only at c0 c1 c2)
    | (at_lookup;refine wpList_lookup_own_ok_int _ rfl _ _ 204 rfl 3 3 .i64 (Maps.int_keyed Tryz.underlying3) Tryz.underlying204 Tryz.underlying3 (zero _) M vs.length (nv vs) rfl HN1.out.m _ _ rfl (Maps.keyOf_int_mk Tryz.underlying3 HWF.out) ?_;intro c hat hwc;rw [HH.out];clear hat hwc)
    | (at_len;refine wpList_len_own _ rfl _ 204 rfl 3 3 Tryz.underlying204 _ M _ _ rfl HN1.out.m ?_;rw [HSZ.out])
    | (at_mapUpdate;refine wpList_mapUpdate_own _ rfl _ _ _ 204 rfl 3 3 (Maps.int_keyed Tryz.underlying3) Tryz.underlying204 _ M vs.length (nv vs) rfl HN1.out.m (by unfold maxLen;omega) _ _ _ rfl rfl (Maps.keyOf_int_mk Tryz.underlying3 HWF.out) _ [] (plainElem_int Tryz.underlying3 HLW.out) ?_;intro w2 hown2 hgrow2;have HN2:Hid (NM w2 P M (vs ++ [n])):=⟨(hgrow2.block _ HN1.out.b.lt (fun e=>HN1.out.ne (Option.some.inj e))).trans HN1.out.b,(by rw [HSN.out,List.length_append];exact hown2),HO2.out,HN1.out.ne⟩;have hr:CBlk w2 (w.heap.size + 1) #[.int .i64 0,.int .i64 0,.string ⟨#[]⟩] 39:=(hgrow2.block _ HR.out.lt (fun e=>nM (Option.some.inj e).symm)).trans HR.out;obtain ⟨r0,r1,r2⟩:=cthree hr;have f0:w2.frozen? ⟨w.heap.size + 1,0,none⟩ = false:=hr.froz;have f1:w2.frozen? ⟨w.heap.size + 1,1,none⟩ = false:=hr.froz;have f2:w2.frozen? ⟨w.heap.size + 1,2,none⟩ = false:=hr.froz;have HG2:Hid (w.grownBy w2 (some M)):=grown_on HW.out hgrow2;clear hr hown2 hgrow2 c0 c1 c2 p0))
   exact bodyPost_ret (v:=Tm.v ⟨3,(vs.length:Int),⟨#[]⟩⟩) (by simp [results,Tryz.results191,go_sem,r0,r1,r2]) rfl ⟨rfl,((HN2.out.off nP nM).off nP nM).off nP nM,grown_far (grown_far (grown_far HG2.out nw _) nw _) nw _⟩
end Go.Proofs.YtcpjiahdaplhlaaGreatDoor
namespace Go.Proofs.YtcpjiahdaplhlaaGreatDoor
open Go.RowKit Go.Shelf
structure Bl (m B:Nat) (w w':World):Prop where
 os:w'.os = w.os
 tape:w'.tape = w.tape
 output:w'.output = w.output
 size:w.heap.size <= w'.heap.size
 block:∀ k,k < B -> k ≠ m -> w'.heap[k]? = w.heap[k]?
theorem Bl.of {m B:Nat} {w w':World} (h:Below B w w'):Bl m B w w':=⟨h.os,h.tape,h.output,h.size,fun k hk _=>h.block k hk⟩
theorem Bl.grown {m:Nat} {w w':World} (h:w.grownBy w' (some m)):Bl m w.heap.size w w':=⟨h.os,h.tape,h.output,h.size,fun k hk hm=>h.block k hk (fun e=>hm (Option.some.inj e))⟩
theorem Bl.refl (m B:Nat) (w:World):Bl m B w w:=Bl.of (Below.refl _ _)
theorem Bl.trans {m B:Nat} {a b c:World} (h:Bl m B a b) (k:Bl m B b c):Bl m B a c:=
 ⟨k.os.trans h.os,k.tape.trans h.tape,k.output.trans h.output,Nat.le_trans h.size k.size,fun i hi hm=>(k.block i hi hm).trans (h.block i hi hm)⟩
theorem Bl.mono {m B B':Nat} {w w':World} (h:Bl m B w w') (hB:B' <= B):Bl m B' w w':=⟨h.os,h.tape,h.output,h.size,fun k hk=>h.block k (Nat.lt_of_lt_of_le hk hB)⟩
theorem Bl.drew {m B:Nat} {a w:World} (h:Bl m B a w):Bl m B a w.drew:=⟨h.os,h.tape,h.output,h.size,h.block⟩
theorem Bl.alloc {m B:Nat} {a w:World} (h:Bl m B a w) (hB:B <= w.heap.size) (o:Obj):Bl m B a (w.alloc o):=h.trans (Bl.of ((Below.refl _ _).alloc hB o))
theorem Bl.setCell {m B:Nat} {a w:World} (h:Bl m B a w) {p:Addr} (hp:B <= p.block) (u:Value):Bl m B a (w.setCell p u):=h.trans (Bl.of ((Below.refl _ _).setCell hp u))
theorem Bl.step {m:Nat} {W w' w3:World} (h:Bl m W.heap.size W w') (h3:Bl m w'.heap.size w' w3):Bl m W.heap.size W w3:=h.trans (h3.mono h.size)
theorem Bl.cell {m B:Nat} {w w':World} (h:Bl m B w w') {p:Addr} (hp:p.block < B) (hm:p.block ≠ m):w'.cell? p = w.cell? p:=World.cell?_of_block (w:=w) (h.block p.block hp hm)
theorem cell_stepM {m B:Nat} {w' w3:World} {b o:Nat} {v:Value} (h3:Bl m B w' w3) (hb:b < B) (hm:b ≠ m) (hc:w'.cell? ⟨b,o,none⟩ = some v):w3.cell? ⟨b,o,none⟩ = some v:=by
 rw [h3.cell (p:=⟨b,o,none⟩) hb hm];exact hc
theorem ballocM {m:Nat} {w W:World} {o:Obj} (h:Bl m w.heap.size w W):Bl m w.heap.size w (W.alloc o):=h.alloc h.size _
theorem bsetM {m:Nat} {w W:World} {G i:Nat} {a:Value} (h:Bl m w.heap.size w W) (hg:w.heap.size <= G):Bl m w.heap.size w (W.setCell ⟨G,i,none⟩ a):=h.setCell hg _
theorem bset3M {m B:Nat} {W V:World} {G i j q:Nat} {a b c:Value} (h:Bl m B W V) (hg:B <= G):Bl m B W (((V.setCell ⟨G,i,none⟩ a).setCell ⟨G,j,none⟩ b).setCell ⟨G,q,none⟩ c):=
 ((h.setCell (p:=⟨G,i,none⟩) hg _).setCell (p:=⟨G,j,none⟩) hg _).setCell (p:=⟨G,q,none⟩) hg _
theorem NM.no {w:World} {P m:Nat} {vs:List Int} (h:NM w P m vs) (i:Nat):w.cell? ⟨m,i,none⟩ = none:=by
 obtain ⟨es,cl,h, -⟩:=h.m
 simp [World.cell?,h]
theorem Ts.bl {w w':World} {v:Value} {l:List Tm} {P m:Nat} {vs:List Int} (h:Ts w v l) (hN:NM w P m vs) (hb:Bl m w.heap.size w w'):Ts w' v l:=by
 obtain ⟨a,cap,rfl,hl,h⟩:=h
 refine ⟨a,cap,rfl,hl, ?_⟩
 rcases h with h | ⟨b,o,rfl,h1,h2⟩
 ·exact Or.inl h
 ·cases l with
  | nil=>exact Or.inl rfl
  | cons t l=>
   have hne:b ≠ m:=by
    rintro rfl
    have:=(h2 0 t rfl).1
    rw [hN.no] at this;cases this
   refine Or.inr ⟨b,o,rfl,Nat.lt_of_lt_of_le h1 hb.size,fun i u hu=>?_⟩
   have:=h2 i u hu
   rw [hb.cell (p:=⟨b,_,none⟩) h1 hne,hb.cell (p:=⟨b,_,none⟩) h1 hne,hb.cell (p:=⟨b,_,none⟩) h1 hne];exact this
def BoxM (m:Nat) (w W:World) (c d:Array Value) (t t':TypeId):Prop:=W.heap[w.heap.size]? = some (.cells c t (0,0)) /\ W.heap[w.heap.size + 1]? = some (.cells d t' (0,0)) /\ Bl m w.heap.size w W
theorem BoxM.start (m:Nat) (w:World) (c d:Array Value) (t t':TypeId):BoxM m w ((w.alloc (.cells c t)).alloc (.cells d t')) c d t t':=⟨heap_alloc2_old _ _ _,heap_alloc2_new _ _ _,Bl.of (below2 _ _ _)⟩
theorem BoxM.later2 {m:Nat} {w W W':World} {c d:Array Value} {t t':TypeId} (h:BoxM m w W c d t t') (hb:Bl m (w.heap.size + 2) W W') (hm:m < w.heap.size):BoxM m w W' c d t t':=
 ⟨(hb.block _ (by omega) (by omega)).trans h.1,(hb.block _ (by omega) (by omega)).trans h.2.1,h.2.2.trans (hb.mono (by omega))⟩
theorem BoxM.lt {m:Nat} {w W:World} {c d:Array Value} {t t':TypeId} (h:BoxM m w W c d t t'):w.heap.size + 1 < W.heap.size:=(Array.getElem?_eq_some_iff.1 h.2.1).1
theorem BoxM.later {m:Nat} {w W W':World} {c d:Array Value} {t t':TypeId} (h:BoxM m w W c d t t') (hb:Bl m W.heap.size W W') (hm:m < w.heap.size):BoxM m w W' c d t t':=
 h.later2 (hb.mono h.lt) hm
theorem TBlk.bl {m:Nat} {w w':World} {g:Nat} {l:List Tm} {k:Nat} (h:TBlk w g l k) (hb:Bl m w.heap.size w w') (hg:g ≠ m):TBlk w' g l k:=by
 obtain ⟨C,h1,h2⟩:=h
 exact ⟨C,(hb.block _ (Array.getElem?_eq_some_iff.1 h1).1 hg).trans h1,h2⟩
def stL:List Int -> List Tm -> List Int
 | vs,[]=>vs
 | vs,t :: l=>stL (nst vs t) l
def nsL:List Int -> List Tm -> List Tm
 | _,[]=>[]
 | vs,t :: l=>nsT vs t :: nsL (nst vs t) l
theorem nsL_len:∀ (l:List Tm) (vs:List Int),(nsL vs l).length = l.length
 | [],_=>rfl
 | t :: l,vs=>by simp [nsL,nsL_len l]
theorem nsL_at:∀ {l:List Tm} {vs:List Int} {j:Nat} {t:Tm},l[j]? = some t -> (nsL vs l)[j]? = some (nsT (stL vs (l.take j)) t)
 | [],_,_,_,h=>by simp at h
 | u :: l,vs,0,t,h=>by
  simp only [List.getElem?_cons_zero,Option.some.injEq] at h
  subst h;rfl
 | u :: l,vs,j + 1,t,h=>by
  simp only [List.getElem?_cons_succ] at h
  simp only [nsL,List.getElem?_cons_succ,List.take_succ_cons,stL]
  exact nsL_at h
theorem stL_take:∀ {l:List Tm} {vs:List Int} {j:Nat} {t:Tm},l[j]? = some t -> stL vs (l.take (j + 1)) = nst (stL vs (l.take j)) t
 | [],_,_,_,h=>by simp at h
 | u :: l,vs,0,t,h=>by
  simp only [List.getElem?_cons_zero,Option.some.injEq] at h
  subst h;simp [stL]
 | u :: l,vs,j + 1,t,h=>by
  simp only [List.getElem?_cons_succ] at h
  rw [List.take_succ_cons,List.take_succ_cons,stL,stL,stL_take h]
theorem nst_len (vs:List Int) (t:Tm):(nst vs t).length <= vs.length + 1:=by
 unfold nst;split
 ·split
  ·omega
  ·simp
 ·omega
theorem stL_len:∀ (l:List Tm) (vs:List Int),(stL vs l).length <= vs.length + l.length
 | [],vs=>by simp [stL]
 | t :: l,vs=>by have:=stL_len l (nst vs t);have:=nst_len vs t;simp only [stL,List.length_cons];omega
end Go.Proofs.YtcpjiahdaplhlaaGreatDoor

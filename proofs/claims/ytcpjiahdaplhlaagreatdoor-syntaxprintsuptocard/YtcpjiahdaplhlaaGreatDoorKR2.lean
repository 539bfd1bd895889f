import Derived.Test.YtcpjiahdaplhlaaGreatDoorKR1
import Derived.Test.YtcpjiahdaplhlaaGreatDoorK24B
import Derived.Lib.AtoiAllCases
import Derived.Test.YtcpjiahdaplhlaaGreatDoorK9
namespace Go.Proofs.YtcpjiahdaplhlaaGreatDoor
open Go.RowKit
set_option maxRecDepth 20000 in
set_option maxHeartbeats 2000000 in
theorem qquoted_any (s:ByteArray) (j:Nat) (hj:j < s.size) (hs:s.size <= 9000000) (w:World) :
  Calls Tryz.prog 147 #[.string s,.int .i64 j] w fun e w'=>e = .returned (TR.v j (qd (((blK s).drop (j + 1)).length + 1) ((blK s).drop (j + 1)) 1 [])) /\ Below w.heap.size w w':=by
 obtain ⟨R,hR⟩:∃ R,qd (((blK s).drop (j + 1)).length + 1) ((blK s).drop (j + 1)) 1 [] = R:=⟨_,rfl⟩
 rw [hR]
 have HR0:Hid (qd (((blK s).drop (j + 1)).length + 1) ((blK s).drop (j + 1)) 1 [] = R):=hR
 clear hR
 go_enter Tryz.func147,Tryz.ntmps147
 go_upto_region 1 with fail
 have bx:=BxK.start w
 revert bx
 generalize (w.alloc (.cells #[.int .i64 0,.string ⟨#[]⟩,.int .i64 0,.int .i64 0,.int .i64 0] 64)).alloc (.cells #[.int .i64 0,.int .i64 0] 26) = W1
 intro bx
 have HX0:Hid (BxK w W1):=bx
 clear bx
 go_wp2
 go_loopg [6,7] (s.size - (j + 1)) (fun g u i wr=>∃ (off f:Nat) (acc:List Int),j + off + g = s.size /\ i = .int .i64 ((j + off:Nat):Int) /\ ((blK s).drop (j + off)).length < f /\ qd f ((blK s).drop (j + off)) off acc = R /\ byt acc /\ acc.length < off /\ OwnB wr (w.heap.size + 2) u acc /\ (acc = [] -> u = .slice none 0 0) /\ BxK w wr)
 case atStart=>exact ⟨1,_,[],by omega,by rw [Int.natCast_add];rfl,Nat.lt_succ_self _,HR0.out,(fun x hx=>by simp at hx),by simp,OwnB.nil _ _,fun _=>rfl,HX0.out⟩
 case round=>
  obtain ⟨off,f,acc,hg,rfl,hf,hr,hby,hlen,ho,hnil,bx⟩:=hrel
  have hbz:=bx.lt
  have HBX:Hid (BxK w wr):=bx
  have HO:Hid (OwnB wr (w.heap.size + 2) u6 acc):=ho
  have HN:Hid (acc = [] -> u6 = .slice none 0 0):=hnil
  have HY:Hid (byt acc):=hby
  have HR:Hid (qd f ((blK s).drop (j + off)) off acc = R):=hr
  have HF:Hid (((blK s).drop (j + off)).length < f):=hf
  obtain ⟨d0,d1,d2,d3,d4⟩:=fiveK bx.t
  obtain ⟨f0,f1,f2,f3,f4⟩:=fiveFK bx.t
  obtain ⟨b0,b1,b2,b3⟩:=two bx.f
  obtain ⟨f,rfl⟩:∃ f',f = f' + 1:=⟨f - 1,by omega⟩
  clear bx ho hnil hby hr hf HR0 HX0
  obtain ⟨E,hE⟩:∃ E:Int,((j + off:Nat):Int) = E:=⟨_,rfl⟩
  have HE:Hid (((j + off:Nat):Int) = E):=hE
  cases gk with
  | succ g=>
   have hlt:j + off < s.size:=by omega
   have hidx:=run_index_atK s (j + off) hlt E hE.symm
   have hrg:=at_range s (j + off)
   have i1:E < (s.size:Int):=by omega
   have i0:0 <= E:=by omega
   have i9:E < 4611686018427387904:=by omega
   have cE:=qescape_any s (j + off) hlt (by omega)
   have HD:Hid ((blK s).drop (j + off) = atK_ s (j + off) :: (blK s).drop (j + off + 1)):=bl_drop hlt
   rw [hE] at cE ⊢
   rw [HD.out] at HR HF
   rw [qd_cons] at HR
   obtain ⟨c,hc⟩:∃ c,atK_ s (j + off) = c:=⟨_,rfl⟩
   rw [hc] at hidx hrg HR HF
   have h0:=hrg.1
   have h1:=hrg.2
   clear hE hc HD hrg
   by_cases q1:c = 34
   ·have hR:=HR.out
    rw [if_pos q1] at hR
    subst q1
    have hcv:=conv_all HO.out HN.out HY.out
    have HRR:Hid (TR.ok 3 acc 0 (off + 1) = R):=hR
    clear hR cE HR
    go_wp2
    refine bodyPost_ret (v:=TR.v j R) ?_ rfl ⟨rfl,HBX.out.bel ⟨3,ofL acc,0,j,E + 1⟩ 0 0⟩
    rw [<- HRR.out]
    have e1:TR.v j (.ok 3 acc 0 (off + 1)) = .tuple #[Tk.v ⟨3,ofL acc,0,j,E + 1⟩,.agg #[.int .i64 0,.int .i64 0]]:=by
     have:=HE.out;subst this;simp only [TR.v,TR.tk,TR.err,TR.pl];congr 1
    rw [e1]
    exact HBX.out.res Tryz.results147 _ ⟨3,ofL acc,0,j,E + 1⟩ 0 0 rfl rfl
   ·have n1:(c == 34) = false:=beq_eq_false_iff_ne.2 q1
    have n1':(c != 34) = true:=by rw [bne,n1];rfl
    have hR:=HR.out
    rw [if_neg q1] at hR
    clear q1 HR
    by_cases q2:c = 92
    ·rw [if_pos q2] at hR
     subst q2
     have HEV:Hid (qes s (j + off) = match esc ((blK s).drop (j + off + 1)) with | some (b,k)=>(b,k + 1) | none=>(0,0)):=rfl
     cases ee:esc ((blK s).drop (j + off + 1)) with
     | none=>
      rw [ee] at hR HEV
      have hv:qes s (j + off) = (0,0):=HEV.out
      rw [hv] at cE
      have HRR:Hid (TR.bad 44 off = R):=hR
      have cE':∀ (X:World),Calls Tryz.prog 177 #[.string s,.int .i64 E] X fun e w'=>e = .returned (.tuple #[.int .u8 0,.int .i64 0]) /\ Below X.heap.size X w':=fun X=>cE X
      clear hR cE HEV ee hv n1 n1'
      go_wp2_with (go_at_call 177;refine (cE' _).mono ?_;rintro e w1 ⟨rfl,hb1⟩;have HB1:Hid (Below _ _ _):=hb1;clear d0 d1 d2 d3 d4 f0 f1 f2 f3 f4 b0 b1 b2 b3;obtain ⟨d0,d1,d2,d3,d4⟩:=fiveK (HBX.out.later hb1).t;obtain ⟨f0,f1,f2,f3,f4⟩:=fiveFK (HBX.out.later hb1).t;obtain ⟨b0,b1,b2,b3⟩:=two (HBX.out.later hb1).f;clear hb1)
      have hbx:=HBX.out.later HB1.out
      refine bodyPost_ret (v:=TR.v j R) ?_ rfl ⟨rfl,hbx.bel ⟨0,⟨#[]⟩,0,0,0⟩ 44 E⟩
      rw [<- HRR.out]
      have e1:TR.v j (.bad 44 off) = .tuple #[Tk.v ⟨0,⟨#[]⟩,0,0,0⟩,.agg #[.int .i64 44,.int .i64 E]]:=by
       have:=HE.out;subst this;rfl
      rw [e1]
      exact hbx.res Tryz.results147 _ ⟨0,⟨#[]⟩,0,0,0⟩ 44 E rfl rfl
     | some bk=>
      obtain ⟨b,k⟩:=bk
      rw [ee] at hR HEV
      have hrg:=esc_rng ee
      have hv:qes s (j + off) = (b,k + 1):=HEV.out
      rw [hv] at cE
      rw [List.length_drop,bl_len] at hrg
      obtain ⟨N,hN⟩:∃ N:Int,((k + 1:Nat):Int) = N:=⟨_,rfl⟩
      have HN2:Hid (((k + 1:Nat):Int) = N):=hN
      have cE':∀ (X:World),Calls Tryz.prog 177 #[.string s,.int .i64 E] X fun e w'=>e = .returned (.tuple #[.int .u8 b,.int .i64 N]) /\ Below X.heap.size X w':=fun X=>by
       have:=cE X;simp only [hN] at this;exact this
      have n2:(N == 0) = false:=beq_eq_false_iff_ne.2 (by omega)
      have hw1:IntKind.i64.wrap (E + N) = E + N:=by rw [IntKind.wrap_i64];omega
      have hR':qd f ((blK s).drop (j + (off + 1 + k))) (off + 1 + k) (acc ++ [b]) = R:=by
       rw [<- hR];simp only [List.drop_drop];congr 2 <;> omega
      have HRR:Hid (qd f ((blK s).drop (j + (off + 1 + k))) (off + 1 + k) (acc ++ [b]) = R):=hR'
      have HF2:Hid (((blK s).drop (j + (off + 1 + k))).length < f):=by
       have h:=HF.out
       show _ < f
       simp only [List.length_cons,List.length_drop,bl_len] at h ⊢
       omega
      have HY2:Hid (byt (acc ++ [b])):=fun x hx=>by
       rcases List.mem_append.1 hx with hx | hx
       ·exact HY.out x hx
       ·simp at hx;omega
      clear hR hR' cE HEV ee hv n1 n1' hN
      go_wp2_with (first | (go_at_call 177;refine (cE' _).mono ?_;rintro e w1 ⟨rfl,hb1⟩;have HO1:Hid (OwnB w1 (w.heap.size + 2) u6 acc):=HO.out.later hb1;have HBX1:Hid (BxK w w1):=HBX.out.later hb1;have hz1:=hb1.size;clear d0 d1 d2 d3 d4 f0 f1 f2 f3 f4 b0 b1 b2 b3;obtain ⟨d0,d1,d2,d3,d4⟩:=fiveK (HBX.out.later hb1).t;obtain ⟨f0,f1,f2,f3,f4⟩:=fiveFK (HBX.out.later hb1).t;obtain ⟨b0,b1,b2,b3⟩:=two (HBX.out.later hb1).f;clear hb1) | (at_builtin;refine app_bytes rfl _ _ rfl (w.heap.size + 2) u6 acc rfl (HO1.out.later (below1K _ _)) w1.heap.size [b] rfl (heap_alloc_new w1 _) (by simp) (by simp;omega) (by simp;omega) ?_;intro v' w2 ho2 hb2))
      go_roundg (s.size - (j + (off + 1 + k)))
      case measure=>omega
      case rel=>exact ⟨off + 1 + k,f,acc ++ [b],by omega,by have h1:=HE.out;have h2:=HN2.out;congr 1;omega,HF2.out,HRR.out,HY2.out,by simp;omega,ho2,fun h=>by simp at h,(HBX1.out.later (below1K _ _)).laterB hb2⟩
    ·have n2:(c == 92) = false:=beq_eq_false_iff_ne.2 q2
     have n2':(c != 92) = true:=by rw [bne,n2];rfl
     rw [if_neg q2] at hR
     clear q2
     by_cases q3:c < 32 ∨ c = 127
     ·rw [if_pos q3] at hR
      have HRR:Hid (TR.bad 44 off = R):=hR
      clear hR cE
      have q4:c < 32 ∨ (32 <= c /\ c = 127):=by omega
      clear q3
      rcases q4 with q3 | ⟨q3,rfl⟩ <;>
      ·go_wp2
       refine bodyPost_ret (v:=TR.v j R) ?_ rfl ⟨rfl,HBX.out.bel ⟨0,⟨#[]⟩,0,0,0⟩ 44 E⟩
       rw [<- HRR.out]
       have e1:TR.v j (.bad 44 off) = .tuple #[Tk.v ⟨0,⟨#[]⟩,0,0,0⟩,.agg #[.int .i64 44,.int .i64 E]]:=by
        have:=HE.out;subst this;rfl
       rw [e1]
       exact HBX.out.res Tryz.results147 _ ⟨0,⟨#[]⟩,0,0,0⟩ 44 E rfl rfl
     ·rw [if_neg q3] at hR
      have m1:¬ c < 32:=by omega
      have m2:(c == 127) = false:=beq_eq_false_iff_ne.2 (by omega)
      have HRR:Hid (qd f ((blK s).drop (j + (off + 1))) (off + 1) (acc ++ [c]) = R):=hR
      have HF2:Hid (((blK s).drop (j + (off + 1))).length < f):=by
       have h:=HF.out
       show _ < f
       simp only [List.length_cons,List.length_drop,bl_len] at h ⊢
       omega
      have HY2:Hid (byt (acc ++ [c])):=fun x hx=>by
       rcases List.mem_append.1 hx with hx | hx
       ·exact HY.out x hx
       ·simp at hx;omega
      clear hR cE q3
      go_wp2_with (at_builtin;refine app_bytes rfl _ _ rfl (w.heap.size + 2) u6 acc rfl (HO.out.later (below1K _ _)) wr.heap.size [c] rfl (heap_alloc_new wr _) (by simp) (by simp;omega) (by simp;omega) ?_;intro v' w2 ho2 hb2)
      go_roundg g
      case measure=>omega
      case rel=>exact ⟨off + 1,f,acc ++ [c],by omega,by have:=HE.out;go_num,HF2.out,HRR.out,HY2.out,by simp;omega,ho2,fun h=>by simp at h,(HBX.out.later (below1K _ _)).laterB hb2⟩
  | zero=>
   have i1:¬ E < (s.size:Int):=by omega
   have hR:=HR.out
   rw [bl_drop_end (by omega),qd_end] at hR
   rw [hE]
   have HRR:Hid (TR.bad 43 0 = R):=hR
   clear hR HR hE
   go_wp2
   refine bodyPost_ret (v:=TR.v j R) ?_ rfl ⟨rfl,HBX.out.bel ⟨0,⟨#[]⟩,0,0,0⟩ 43 j⟩
   rw [<- HRR.out]
   exact HBX.out.res Tryz.results147 _ ⟨0,⟨#[]⟩,0,0,0⟩ 43 j rfl rfl
end Go.Proofs.YtcpjiahdaplhlaaGreatDoor
namespace Go.Proofs.YtcpjiahdaplhlaaGreatDoor
def dv:List Int -> Nat -> Nat
 | [],acc=>acc
 | c :: r,acc=>dv r (acc * 10 + (c - 48).toNat)
theorem dv_app:∀ (l m:List Int) (acc:Nat),dv (l ++ m) acc = dv m (dv l acc)
 | [],_,_=>rfl
 | c :: l,m,acc=>by show dv (l ++ m) _ = dv m (dv l _);exact dv_app l m _
def rnum (d:List Int):Option Int:=
 if d = [48] then some 0
 else if d.head? = some 45 then
  (if d.tail.length < 1 ∨ 19 < d.tail.length ∨ d.tail.head? = some 48 then none
  else if d.tail.all dig = false then none
  else if 9223372036854775808 < dv d.tail 0 then none else some (-(dv d.tail 0:Int)))
 else
  (if d.length < 1 ∨ 19 < d.length ∨ d.head? = some 48 then none
  else if d.all dig = false then none
  else if dv d 0 <= 9223372036854775807 then some (dv d 0:Int) else none)
def dcs (u:Nat):List Int:=(Lib.decDigits u).map fun b=>(b.toNat:Int)
theorem dcs_small {u:Nat} (h:u < 10):dcs u = [48 + (u:Int)]:=by
 unfold dcs
 rw [Lib.decDigits_one h,List.map_cons,dig_toNat u h];simp
theorem dcs_big {u:Nat} (h:¬ u < 10):dcs u = dcs (u / 10) ++ [48 + ((u % 10:Nat):Int)]:=by
 unfold dcs
 conv=>lhs;rw [Lib.decDigits,dif_neg h]
 rw [List.map_append,List.map_cons,dig_toNat _ (by omega)];simp
theorem dcs_ne (u:Nat):¬ dcs u = []:=by
 unfold dcs;simpa using (dec_dig u).2
theorem dv_dcs (u:Nat):dv (dcs u) 0 = u:=by
 induction u using Nat.strongRecOn with
 | _ u ih=>
  by_cases h:u < 10
  ·rw [dcs_small h];simp only [dv];omega
  ·rw [dcs_big h,dv_app,ih (u / 10) (by omega)];simp only [dv];omega
theorem dcs_head (u:Nat) (h1:1 <= u):¬ (dcs u).head? = some 48:=by
 induction u using Nat.strongRecOn with
 | _ u ih=>
  by_cases h:u < 10
  ·rw [dcs_small h];simp;omega
  ·rw [dcs_big h]
   cases e:dcs (u / 10) with
   | nil=>exact absurd e (dcs_ne _)
   | cons c r=>
    have:=ih (u / 10) (by omega) (by omega)
    rw [e] at this
    simpa using this
theorem dcs_dig (u:Nat):(dcs u).all dig = true:=by
 rw [List.all_eq_true]
 exact fun x hx=>(dec_rnb u x hx).2
theorem dcs_len:∀ (k u:Nat),u < 10 ^ (k + 1) -> (dcs u).length <= k + 1
 | 0,u,h=>by rw [dcs_small (by omega)];simp
 | k + 1,u,h=>by
  by_cases q:u < 10
  ·rw [dcs_small q];simp
  ·rw [dcs_big q,List.length_append]
   have:=dcs_len k (u / 10) (by
    rw [Nat.pow_succ] at h
    exact Nat.div_lt_of_lt_mul (by omega))
   simp only [List.length_cons,List.length_nil];omega
theorem canon:∀ (k:Nat) (s:List Int),s.length = k + 1 -> s.all dig = true -> ¬ s.head? = some 48 -> dcs (dv s 0) = s /\ 1 <= dv s 0
 | 0,s,hl,hd,hh=>by
  obtain ⟨c,rfl⟩:∃ c,s = [c]:=by
   match s,hl with
   | [c],_=>exact ⟨c,rfl⟩
  simp only [List.all_cons,List.all_nil,Bool.and_true,dig,Bool.and_eq_true,decide_eq_true_eq,List.head?_cons,Option.some.injEq] at hd hh
  simp only [dv]
  rw [dcs_small (by omega)]
  exact ⟨by congr 1;omega,by omega⟩
 | k + 1,s,hl,hd,hh=>by
  have hne:¬ s = []:=fun h=>by rw [h] at hl;simp at hl
  obtain ⟨t,c,rfl⟩:∃ t c,s = t ++ [c]:=⟨s.dropLast,s.getLast hne,(List.dropLast_concat_getLast hne).symm⟩
  simp only [List.length_append,List.length_cons,List.length_nil] at hl
  rw [List.all_append,Bool.and_eq_true] at hd
  have ht:¬ t = []:=fun h=>by rw [h] at hl;simp at hl
  have hh':¬ t.head? = some 48:=by
   cases t with
   | nil=>exact absurd rfl ht
   | cons x y=>simpa using hh
  obtain ⟨h1,h2⟩:=canon k t (by omega) hd.1 hh'
  have hc:=hd.2
  simp only [List.all_cons,List.all_nil,Bool.and_true,dig,Bool.and_eq_true,decide_eq_true_eq] at hc
  rw [dv_app]
  have e:dv [c] (dv t 0) = dv t 0 * 10 + (c - 48).toNat:=rfl
  rw [e,dcs_big (by omega)]
  have e1:(dv t 0 * 10 + (c - 48).toNat) / 10 = dv t 0:=by omega
  have e2:(((dv t 0 * 10 + (c - 48).toNat) % 10:Nat):Int) = c - 48:=by omega
  rw [e1,e2,h1]
  exact ⟨by congr 2;omega,by omega⟩
theorem bl_pos (u:Nat):blK (itB (u:Int)) = dcs u:=bl_itB_pos u
theorem bl_neg (u:Nat) (h:1 <= u):blK (itB (-(u:Int))) = 45 :: dcs u:=bl_itB_neg u h
theorem rnum_num (d:List Int) (hb:byt d):rnum d = num d:=by
 apply Option.ext
 intro v
 constructor
 ·intro h
  unfold rnum at h
  by_cases q0:d = [48]
  ·rw [if_pos q0] at h
   cases h
   have e0:blK (itB 0) = [48]:=by
    have:=bl_itB_pos 0
    rw [Lib.decDigits_one (by omega)] at this
    exact this
   rw [q0, <- e0]
   exact num_itB 0 (by decide) (by decide)
  ·rw [if_neg q0] at h
   by_cases q1:d.head? = some 45
   ·rw [if_pos q1] at h
    by_cases q2:d.tail.length < 1 ∨ 19 < d.tail.length ∨ d.tail.head? = some 48
    ·rw [if_pos q2] at h;cases h
    ·rw [if_neg q2] at h
     by_cases q3:d.tail.all dig = false
     ·rw [if_pos q3] at h;cases h
     ·rw [if_neg q3] at h
      by_cases q4:9223372036854775808 < dv d.tail 0
      ·rw [if_pos q4] at h;cases h
      ·rw [if_neg q4] at h
       cases h
       obtain ⟨h1,h2⟩:=canon (d.tail.length - 1) d.tail (by omega) (by simpa using q3) (fun h=>q2 (Or.inr (Or.inr h)))
       have e:d = blK (itB (-(dv d.tail 0:Int))):=by
        rw [bl_neg _ h2,h1]
        cases d with
        | nil=>cases q1
        | cons x y=>simp only [List.head?_cons,Option.some.injEq] at q1;rw [q1];rfl
       conv=>lhs;rw [e]
       exact num_itB _ (by omega) (by omega)
   ·rw [if_neg q1] at h
    by_cases q2:d.length < 1 ∨ 19 < d.length ∨ d.head? = some 48
    ·rw [if_pos q2] at h;cases h
    ·rw [if_neg q2] at h
     by_cases q3:d.all dig = false
     ·rw [if_pos q3] at h;cases h
     ·rw [if_neg q3] at h
      by_cases q4:dv d 0 <= 9223372036854775807
      ·rw [if_pos q4] at h
       cases h
       obtain ⟨h1,h2⟩:=canon (d.length - 1) d (by omega) (by simpa using q3) (fun h=>q2 (Or.inr (Or.inr h)))
       have e:d = blK (itB (dv d 0:Int)):=by rw [bl_pos,h1]
       conv=>lhs;rw [e]
       exact num_itB _ (by omega) (by omega)
      ·rw [if_neg q4] at h;cases h
 ·intro h
  unfold num at h
  cases ea:Lib.atoiAll (i2b d) with
  | «syntax» => rw [ea] at h;cases h
  | range=>rw [ea] at h;cases h
  | ok u=>
   rw [ea] at h
   simp only at h
   by_cases q:Lib.itoa u = i2b d
   ·rw [if_pos q] at h
    cases h
    have hbd:=Lib.atoiAll_bounds ea
    have hd:d = blK (itB v):=by
     have:itB v = ofL d:=by unfold itB ofL;rw [q]
     rw [this,bl_ofL hb]
    by_cases hv:v < 0
    ·obtain ⟨m,rfl⟩:∃ m:Nat,v = -(m:Int):=⟨v.natAbs,by omega⟩
     rw [bl_neg m (by omega)] at hd
     subst hd
     have hl:=dcs_len 18 m (by omega)
     have hl0:¬ (dcs m).length < 1:=fun h=>dcs_ne m (List.eq_nil_of_length_eq_zero (by omega))
     unfold rnum
     rw [if_neg (by simp),if_pos (show (45 :: dcs m).head? = some 45 from rfl),List.tail_cons,if_neg (by have:=dcs_head m (by omega);rintro (h | h | h);exact hl0 h;omega;exact this h),if_neg (by rw [dcs_dig];simp),dv_dcs,if_neg (by omega)]
    ·obtain ⟨m,rfl⟩:∃ m:Nat,v = (m:Int):=⟨v.toNat,by omega⟩
     rw [bl_pos m] at hd
     subst hd
     rcases Nat.eq_zero_or_pos m with rfl | hm
     ·have:dcs 0 = [48]:=by rw [dcs_small (by omega)];rfl
      unfold rnum
      rw [if_pos this];rfl
     ·have hl:=dcs_len 18 m (by omega)
      have hl0:¬ (dcs m).length < 1:=fun h=>dcs_ne m (List.eq_nil_of_length_eq_zero (by omega))
      have hh:=dcs_head m (by omega)
      have n0:¬ dcs m = [48]:=fun h=>hh (by rw [h];rfl)
      have n1:¬ (dcs m).head? = some 45:=fun h=>by
       have hd:=dcs_dig m
       cases e:dcs m with
       | nil=>rw [e] at h;cases h
       | cons x y=>
        rw [e] at h hd
        simp only [List.head?_cons,Option.some.injEq] at h
        rw [h] at hd
        simp [dig] at hd
      unfold rnum
      rw [if_neg n0,if_neg n1,if_neg (by rintro (h | h | h);exact hl0 h;omega;exact hh h),if_neg (by rw [dcs_dig];simp),dv_dcs,if_pos (by omega)]
   ·rw [if_neg q] at h;cases h
end Go.Proofs.YtcpjiahdaplhlaaGreatDoor
namespace Go.Proofs.YtcpjiahdaplhlaaGreatDoor
open Go.RowKit
theorem dv_le:∀ (l:List Int) (acc k:Nat),acc < 10 ^ k -> l.all dig = true -> dv l acc < 10 ^ (k + l.length)
 | [],acc,k,h,_=>by simpa [dv] using h
 | c :: l,acc,k,h,hd=>by
  rw [List.all_cons,Bool.and_eq_true] at hd
  have hc:=hd.1
  simp only [dig,Bool.and_eq_true,decide_eq_true_eq] at hc
  have:=dv_le l (acc * 10 + (c - 48).toNat) (k + 1) (by rw [Nat.pow_succ];omega) hd.2
  show dv l (acc * 10 + (c - 48).toNat) < _
  rw [List.length_cons,show k + (l.length + 1) = k + 1 + l.length by omega]
  exact this
theorem dv_small (l:List Int) (h:l.length <= 19) (hd:l.all dig = true):dv l 0 < 10000000000000000000:=by
 have h1:=dv_le l 0 0 (by decide) hd
 have h2:10 ^ (0 + l.length) <= 10 ^ 19:=Nat.pow_le_pow_right (by decide) (by omega)
 exact Nat.lt_of_lt_of_le h1 h2
def mag (mn:Bool) (t:List Int):Option Int:=
 if t.length < 1 ∨ 19 < t.length ∨ t.head? = some 48 then none
 else if t.all dig = false then none
 else if mn = true then (if 9223372036854775808 < dv t 0 then none else some (-(dv t 0:Int)))
 else if dv t 0 <= 9223372036854775807 then some (dv t 0:Int) else none
theorem rnum_mag (d:List Int) (h:¬ d = [48]):rnum d = if d.head? = some 45 then mag true d.tail else mag false d:=by
 unfold rnum mag
 rw [if_neg h]
 simp
set_option maxRecDepth 20000 in
set_option maxHeartbeats 2000000 in
theorem qNumber_any (d:ByteArray) (hs:d.size <= 9000000) (w:World) :
  Calls Tryz.prog 146 #[.string d] w fun e w'=>(∃ x,e = .returned (.tuple #[.int .i64 ((num (blK d)).getD x),.bool (num (blK d)).isSome])) /\ w' = w:=by
 rw [<- rnum_num (blK d) (bl_byt d)]
 have e0:=str_dec d ⟨#[48]⟩
 have e48:(⟨#[48]⟩:ByteArray).toList = [48]:=by rw [ByteArray.toList_eq]
 rw [e48] at e0
 by_cases q0:d = ⟨#[48]⟩
 ·subst q0
  rw [decide_eq_true rfl] at e0
  go_enter Tryz.func146,Tryz.ntmps146
  go_wp2
  go_ret2
  exact ⟨⟨0,ret_2 rfl rfl⟩,rfl⟩
 ·rw [decide_eq_false q0] at e0
  have hn:¬ blK d = [48]:=fun h=>q0 (by rw [<- ofL_bl d,h];rfl)
  rw [rnum_mag _ hn]
  obtain ⟨mn,t,hm⟩:∃ (mn:Bool) (t:ByteArray),(if (blK d).head? = some 45 then mag true (blK d).tail else mag false (blK d)) = mag mn (blK t) /\ t.size <= d.size /\ ((mn = true /\ 0 < d.size /\ atK_ d 0 = 45 /\ t = d.extract 1 d.size) ∨ (mn = false /\ t = d /\ (d.size = 0 ∨ (0 < d.size /\ ¬ atK_ d 0 = 45)))):=by
   rcases Nat.eq_zero_or_pos d.size with hz | hp
   ·have hb:blK d = []:=List.eq_nil_of_length_eq_zero (by rw [bl_len];exact hz)
    exact ⟨false,d,by rw [hb];rfl,Nat.le_refl _,Or.inr ⟨rfl,rfl,Or.inl hz⟩⟩
   ·have hb:=bl_drop hp
    rw [List.drop_zero] at hb
    by_cases q:atK_ d 0 = 45
    ·refine ⟨true,d.extract 1 d.size, ?_,by rw [extract_eq,ofL_size,List.length_take,List.length_drop,bl_len];omega,Or.inl ⟨rfl,hp,q,rfl⟩⟩
     have e1:blK (d.extract 1 d.size) = (blK d).tail:=by
      rw [extract_eq,bl_ofL (byt_take (byt_drop (bl_byt d) 1) _),List.take_of_length_le (by rw [List.length_drop,bl_len];exact Nat.le_refl _),List.drop_one]
     rw [e1,hb,q]
     rfl
    ·refine ⟨false,d, ?_,Nat.le_refl _,Or.inr ⟨rfl,rfl,Or.inr ⟨hp,q⟩⟩⟩
     rw [if_neg (by rw [hb];simpa using q)]
  obtain ⟨hm,hts,hmc⟩:=hm
  rw [hm]
  obtain ⟨O,hO⟩:∃ O,mag mn (blK t) = O:=⟨_,rfl⟩
  have HOO:Hid (mag mn (blK t) = O):=hO
  rw [hO]
  clear hO
  have HMC:Hid ((mn = true /\ 0 < d.size /\ atK_ d 0 = 45 /\ t = d.extract 1 d.size) ∨ (mn = false /\ t = d /\ (d.size = 0 ∨ (0 < d.size /\ ¬ atK_ d 0 = 45)))):=hmc
  clear hm hmc hn q0
  go_enter Tryz.func146,Tryz.ntmps146
  go_upto_region 3 with fail
  go_cut [4] from 10 (fun s4 wx=>s4 = .bool mn /\ wx = w)
  case first=>
   rcases HMC.out with ⟨rfl,hp,h45, -⟩ | ⟨rfl, -,hz | ⟨hp,h45⟩⟩
   ·have hidx:=run_index_atK d 0 hp (0:Int) rfl
    have hpi:(0:Int) < (d.size:Int):=by omega
    rw [h45] at hidx
    go_wp2
    go_meet
    case rel=>exact ⟨rfl,rfl⟩
   ·have hpi:¬ (0:Int) < (d.size:Int):=by omega
    go_wp2
    go_meet
    case rel=>exact ⟨rfl,rfl⟩
   ·have hidx:=run_index_atK d 0 hp (0:Int) rfl
    have hpi:(0:Int) < (d.size:Int):=by omega
    have n1:(atK_ d 0 == 45) = false:=beq_eq_false_iff_ne.2 h45
    go_wp2
    go_meet
    case rel=>exact ⟨rfl,rfl⟩
  case rest=>
   obtain ⟨rfl,rfl⟩:=hcut
   go_upto_if 18 with fail
   go_cut [0] from 19 (fun s0 wx=>s0 = .string t /\ wx = wc)
   case first=>
    rcases HMC.out with ⟨rfl,hp,h45,ht⟩ | ⟨rfl,ht, -⟩
    ·have hpi:(1:Int) <= (d.size:Int):=by omega
     have HT:Hid (t = d.extract 1 d.size):=ht
     clear ht
     go_wp2
     go_meet
     case rel=>exact ⟨by rw [HT.out],rfl⟩
    ·subst ht
     go_wp2
     go_meet
     case rel=>exact ⟨rfl,rfl⟩
   case rest=>
    obtain ⟨rfl,rfl⟩:=hcut
    have hbl:=bl_len t
    clear HMC e0
    rcases Nat.eq_zero_or_pos t.size with hz | hp
    ·have hM:mag mn (blK t) = none:=by unfold mag;rw [if_pos (Or.inl (by omega))]
     obtain rfl:none = O:=hM.symm.trans HOO.out
     have i1:(t.size:Int) < 1:=by omega
     clear hM
     go_wp2
     go_ret2
     exact ⟨⟨0,ret_2 rfl rfl⟩,rfl⟩
    ·have i1:¬ (t.size:Int) < 1:=by omega
     rcases Nat.lt_or_ge 19 t.size with h19 | h19
     ·have hM:mag mn (blK t) = none:=by unfold mag;rw [if_pos (Or.inr (Or.inl (by omega)))]
      obtain rfl:none = O:=hM.symm.trans HOO.out
      have i2:(19:Int) < (t.size:Int):=by omega
      clear hM
      go_wp2
      go_ret2
      exact ⟨⟨0,ret_2 rfl rfl⟩,rfl⟩
     ·have i2:¬ (19:Int) < (t.size:Int):=by omega
      have hidx:=run_index_atK t 0 hp (0:Int) rfl
      have hb:=bl_drop hp
      rw [List.drop_zero] at hb
      have hhd:(blK t).head? = some (atK_ t 0):=by rw [hb];rfl
      by_cases q48:atK_ t 0 = 48
      ·have hM:mag mn (blK t) = none:=by unfold mag;rw [if_pos (Or.inr (Or.inr (by rw [hhd,q48])))]
       obtain rfl:none = O:=hM.symm.trans HOO.out
       rw [q48] at hidx
       clear hM hb hhd
       go_wp2
       go_ret2
       exact ⟨⟨0,ret_2 rfl rfl⟩,rfl⟩
      ·have n48:(atK_ t 0 == 48) = false:=beq_eq_false_iff_ne.2 q48
       have HC:Hid (¬ ((blK t).length < 1 ∨ 19 < (blK t).length ∨ (blK t).head? = some 48)):=by
        show ¬ _
        rintro (h | h | h)
        ·omega
        ·omega
        ·rw [hhd] at h;exact q48 (Option.some.inj h)
       clear hb hhd q48
       go_upto_region 10 with fail
       go_loopg [5,6] t.size (fun g v i wr=>∃ j:Nat,j + g = t.size /\ i = .int .i64 (j:Int) /\ v = .int .u64 ((dv ((blK t).take j) 0:Nat):Int) /\ ((blK t).take j).all dig = true /\ wr = wc)
       case atStart=>exact ⟨0,by omega,rfl,rfl,rfl,rfl⟩
       case round=>
        obtain ⟨j,hj,rfl,rfl,had,rfl⟩:=hrel
        cases gk with
        | succ g=>
         have hlt:j < t.size:=by omega
         have hix:=run_index_atK t j hlt (j:Int) rfl
         have i3:(j:Int) < (t.size:Int):=by omega
         have hrg:=at_range t j
         have htk:(blK t).take (j + 1) = (blK t).take j ++ [atK_ t j]:=by
          have h1:j < (blK t).length:=by omega
          rw [List.take_succ_eq_append_getElem h1]
          congr 2
          have h2:=bl_drop hlt
          rw [List.drop_eq_getElem_cons h1] at h2
          exact (List.cons.inj h2).1
         have cd:=qdigit_any (atK_ t j)
         cases hd:dig (atK_ t j) with
         | false=>
          rw [hd] at cd
          have hM:mag mn (blK t) = none:=by
           unfold mag
           rw [if_neg HC.out,if_pos ?_]
           have h3:blK t = (blK t).take (j + 1) ++ (blK t).drop (j + 1):=(List.take_append_drop _ _).symm
           rw [h3,List.all_append,htk,List.all_append]
           simp [hd]
          obtain rfl:none = O:=hM.symm.trans HOO.out
          clear hM htk had
          go_wp2_with (go_at_call 129;refine (cd _).mono ?_;rintro e w1 ⟨rfl,rfl⟩)
          go_ret2
          exact ⟨⟨0,ret_2 rfl rfl⟩,rfl⟩
         | true=>
          rw [hd] at cd
          have had':((blK t).take (j + 1)).all dig = true:=by rw [htk,List.all_append,had];simp [hd]
          have hdv:dv ((blK t).take (j + 1)) 0 = dv ((blK t).take j) 0 * 10 + (atK_ t j - 48).toNat:=by rw [htk,dv_app];rfl
          have hsm:=dv_small ((blK t).take (j + 1)) (by rw [List.length_take];omega) had'
          have HAD:Hid (((blK t).take (j + 1)).all dig = true):=had'
          have HDV:Hid (dv ((blK t).take (j + 1)) 0 = dv ((blK t).take j) 0 * 10 + (atK_ t j - 48).toNat):=hdv
          rw [hdv] at hsm
          simp only [dig,Bool.and_eq_true,decide_eq_true_eq] at hd
          obtain ⟨V,hV⟩:∃ V,dv ((blK t).take j) 0 = V:=⟨_,rfl⟩
          obtain ⟨c,hc⟩:∃ c,atK_ t j = c:=⟨_,rfl⟩
          rw [hV,hc] at hsm HDV
          rw [hc] at hix cd hd hrg
          rw [hV]
          have hd1:=hd.1
          have hd2:=hd.2
          have hw1:IntKind.u64.wrap (10 * (V:Int)) = 10 * (V:Int):=by rw [IntKind.wrap_u64];omega
          have hw2:IntKind.u8.wrap (c - 48) = c - 48:=by rw [IntKind.wrap_u8];omega
          have hw3:IntKind.u64.wrap (c - 48) = c - 48:=by rw [IntKind.wrap_u64];omega
          have hw4:IntKind.u64.wrap (10 * (V:Int) + (c - 48)) = 10 * (V:Int) + (c - 48):=by rw [IntKind.wrap_u64];omega
          clear had had' hdv htk hd hc
          go_wp2_with (go_at_call 129;refine (cd _).mono ?_;rintro e w1 ⟨rfl,rfl⟩)
          go_roundg g
          case measure=>omega
          case rel=>exact ⟨j + 1,by omega,by go_num,by rw [HDV.out];congr 1;omega,HAD.out,rfl⟩
        | zero=>
         obtain rfl:j = t.size:=by omega
         have hz:¬ ((t.size:Int) < (t.size:Int)):=by omega
         have hsm:=dv_small ((blK t).take t.size) (by rw [List.length_take];omega) had
         rw [List.take_of_length_le (by omega)] at had hsm ⊢
         have hM:mag mn (blK t) = if mn = true then (if 9223372036854775808 < dv (blK t) 0 then none else some (-(dv (blK t) 0:Int))) else if dv (blK t) 0 <= 9223372036854775807 then some (dv (blK t) 0:Int) else none:=by
          unfold mag
          rw [if_neg HC.out,if_neg (by rw [had];simp)]
         have hOM:=HOO.out
         rw [hM] at hOM
         obtain ⟨V,hV⟩:∃ V,dv (blK t) 0 = V:=⟨_,rfl⟩
         rw [hV] at hsm hOM ⊢
         clear hM had hV HC hj
         cases mn with
         | true=>
          rw [if_pos rfl] at hOM
          by_cases q:9223372036854775808 < V
          ·rw [if_pos q] at hOM
           subst hOM
           have qi:(9223372036854775808:Int) < (V:Int):=by omega
           go_wp2
           go_ret2
           exact ⟨⟨0,ret_2 rfl rfl⟩,rfl⟩
          ·rw [if_neg q] at hOM
           subst hOM
           have qi:¬ (9223372036854775808:Int) < (V:Int):=by omega
           have hw:IntKind.i64.wrap (IntKind.u64.wrap (-(V:Int))) = -(V:Int):=by rw [IntKind.wrap_i64,IntKind.wrap_u64];omega
           go_wp2
           go_ret2
           exact ⟨ret_2 (by simp) rfl,rfl⟩
         | false=>
          rw [if_neg (by simp)] at hOM
          by_cases q:V <= 9223372036854775807
          ·rw [if_pos q] at hOM
           subst hOM
           have qi:(V:Int) <= 9223372036854775807:=by omega
           have hw:IntKind.i64.wrap (V:Int) = (V:Int):=by rw [IntKind.wrap_i64];omega
           go_wp2
           go_ret2
           exact ⟨ret_2 rfl rfl,rfl⟩
          ·rw [if_neg q] at hOM
           subst hOM
           have qi:¬ (V:Int) <= 9223372036854775807:=by omega
           go_wp2
           go_ret2
           exact ⟨⟨_,ret_2 rfl rfl⟩,rfl⟩
end Go.Proofs.YtcpjiahdaplhlaaGreatDoor

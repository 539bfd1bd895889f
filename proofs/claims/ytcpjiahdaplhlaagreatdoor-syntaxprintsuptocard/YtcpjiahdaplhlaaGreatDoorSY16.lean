import Derived.Test.YtcpjiahdaplhlaaGreatDoorB2
import Derived.Test.YtcpjiahdaplhlaaGreatDoorSY15
namespace Go.Proofs.YtcpjiahdaplhlaaGreatDoor
open Go.RowKit
attribute [local go_sem ↓] Go.wp_at_zero Go.wp_at_succ
theorem cross5_at {α:Type} {Y:List (List α)} {k:Nat} (hk:Y.length = k) (h0:0 < k):∀ {m:List (List α)} {n:Nat} {x:List α},(m.flatMap fun a=>Y.map fun b=>a ++ b)[n]? = some x -> ∃ a b,m[n / k]? = some a /\ Y[n % k]? = some b /\ x = a ++ b
 | [],n,x,h=>by simp at h
 | a :: m,n,x,h=>by
  rw [List.flatMap_cons] at h
  by_cases hn:n < k
  ·rw [List.getElem?_append_left (by rw [List.length_map,hk];exact hn),List.getElem?_map] at h
   cases hy:Y[n]? with
   | none=>rw [hy] at h;cases h
   | some b=>
    rw [hy] at h
    refine ⟨a,b, ?_, ?_,(Option.some.inj h).symm⟩
    ·rw [Nat.div_eq_of_lt hn];rfl
    ·rw [Nat.mod_eq_of_lt hn];exact hy
  ·rw [List.getElem?_append_right (by rw [List.length_map,hk];omega),List.length_map,hk] at h
   obtain ⟨a',b,h1,h2,h3⟩:=cross5_at hk h0 h
   refine ⟨a',b, ?_, ?_,h3⟩
   ·have e:n / k = (n - k) / k + 1:=Nat.div_eq_sub_div h0 (by omega)
    rw [e,List.getElem?_cons_succ]
    exact h1
   ·rw [Nat.mod_eq_sub_mod (by omega)]
    exact h2
theorem cross5_pos {f:Nat} {F:Nat -> Prop} {w:World} {xs:List (List Value × List (List Lv5))} (h:∀ x ∈ xs,LiM F w f x.1 x.2):0 < (cross5 (xs.map Prod.snd)).length:=
 List.length_pos_iff.2 (cross5_ne fun m hm=>by
  obtain ⟨y,hy,rfl⟩:=List.mem_map.1 hm
  exact (h y hy).ne)
def LayC (f:Nat):Prop:=∀ (B q:Nat) (hd:At × Value) (w:World) (bo:List (At × Value)) (te:List Te) (v:Value) (c:Nat) (m:List (List Lv5)) (n:Nat) (x:List Lv5),CjM (fun b=>b < B) (LiM (fun b=>b < B) w f) w v c m -> m.length <= 64 -> m[n]? = some x -> LY B q hd w bo te -> bo.length + x.length <= 10000000 -> te.length + x.length <= 10000000 →
 Calls Tryz.prog 189 #[.agg #[v,.int .i64 (c:Int)],.int .i64 (n:Int),.pointer (some ⟨q,0,none⟩)] w (LayP B q hd w bo te x)
set_option maxRecDepth 20000 in
set_option maxHeartbeats 4000000 in
theorem layL5_any (f:Nat) (hA:LayA f):LayL (f + 1):=by
 intro B q hd w bo te cs m n x h hm hx hl hb ht
 rcases h with ⟨a,y,rfl,h2,rfl⟩ | ⟨t,rfl,rfl⟩ | ⟨v,c,rfl,h2⟩
 ·obtain ⟨ya,yc,hy, -⟩:=row7_form h2.1
  cases n with
  | zero=>
   obtain rfl:[Lv5.a a y] = x:=Option.some.inj hx
   exact layL5_atom a y B q hd w bo te 0 ⟨ya,_,yc,hy⟩ hl (by omega)
  | succ n=>simp at hx
 ·cases n with
  | zero=>
   obtain rfl:[Lv5.t t] = x:=Option.some.inj hx
   exact layL5_test t B q hd w bo te 0 hl (by omega)
  | succ n=>simp at hx
 ·obtain ⟨va,vn,vc,rfl⟩:=alM_form h2
  have HBX:=hm7 (below1 w (.cells #[.int .i64 2,.int .i64 0,.int .i64 0,.string ⟨#[]⟩,.string ⟨#[]⟩,.slice none 0 0,.int .i64 0,.int .i64 0,.int .i64 0,.string ⟨#[]⟩,.int .i64 0,.int .i64 0,.string ⟨#[]⟩,.slice va vn vc,.int .i64 (c:Int)] 201))
  have HX0:=hm7 (Bk.new w #[.int .i64 2,.int .i64 0,.int .i64 0,.string ⟨#[]⟩,.string ⟨#[]⟩,.slice none 0 0,.int .i64 0,.int .i64 0,.int .i64 0,.string ⟨#[]⟩,.int .i64 0,.int .i64 0,.string ⟨#[]⟩,.slice va vn vc,.int .i64 (c:Int)] 201)
  have HAL:=hm7 (hA B q hd _ bo te (.slice va vn vc) c m n x (alM_below h2 HBX.out) hm hx (hl.below HBX.out) hb ht)
  show Calls Tryz.prog 207 #[.agg #[.int .i64 2,.int .i64 0,.int .i64 0,.string ⟨#[]⟩,.string ⟨#[]⟩,.slice none 0 0,.int .i64 0,.int .i64 0,.int .i64 0,.string ⟨#[]⟩,.int .i64 0,.int .i64 0,.string ⟨#[]⟩,.slice va vn vc,.int .i64 (c:Int)],.int .i64 (n:Int),.pointer (some ⟨q,0,none⟩)] w _
  clear h2 hl hA
  have x0:=HX0.out.cell (i:=0) rfl
  have x13:=HX0.out.cell (i:=13) rfl
  have x14:=HX0.out.cell (i:=14) rfl
  have HRT:Hid (∀ (X W2:World),LayP B q hd X bo te x (.returned (.tuple #[])) W2 -> True):=fun _ _ _=>trivial
  go_enter Tryz.func207,Tryz.ntmps207
  go_wp2_with (go_at_call 156;refine HAL.out.mono ?_;rintro e W2 ⟨rfl,hly,hfr⟩;have HLY:=hm7 hly;have HFR:=hm7 ((Fr.of (P:=fun b=>B <= b) HBX.out).tr hfr);clear hly hfr)
  refine bodyPost_ret (v:=.tuple #[]) (by simp [results,Tryz.results207,go_sem]) rfl ?_
  exact ⟨rfl,HLY.out,HFR.out⟩
set_option maxRecDepth 20000 in
set_option maxHeartbeats 4000000 in
theorem layA5_any (f:Nat) (hC:LayC f):LayA f:=by
 intro B q hd w bo te v c m n x h hm hx hl hb ht
 obtain ⟨xs,h1,h2,h3,h4,h5⟩:=h
 obtain ⟨va,vc,hvf, -⟩:=row7_form h2.1
 obtain ⟨xn,hxn⟩:∃ xn,xs.length = xn:=⟨_,rfl⟩
 have HO:Hid (w.ownsRow 0 170 2 v xn (xs.flatMap fun x=>[x.1.1,.int .i64 (x.1.2:Int)])):=by have:=h2.1;rw [hxn] at this;exact this
 rw [hxn] at hvf
 subst hvf
 have HXN:=hm7 hxn
 have HX:Hid (((xs.drop 0).map Prod.snd).flatten[n]? = some x):=by rw [List.drop_zero, <- h3];exact hx
 have HM:Hid ((xs.map Prod.snd).flatten.length <= 64):=by rw [<- h3];exact hm
 have HI:=hm7 h1
 have HL:=hm7 hl
 have hxn2:xn <= 64:=by
  have h6:∀ l:List ((Value × Nat) × List (List Lv5)),(∀ y ∈ l,y.2 ≠ []) -> l.length <= (l.map Prod.snd).flatten.length:=fun l=>by
   induction l with
   | nil=>intro _;simp
   | cons y l ih=>
    intro hh
    have:=ih fun z hz=>hh z (List.mem_cons_of_mem _ hz)
    have h7:0 < y.2.length:=List.length_pos_iff.2 (hh y (List.mem_cons_self ..))
    rw [List.map_cons,List.flatten_cons,List.length_append,List.length_cons]
    omega
  have:=h6 xs fun y hy=>by obtain ⟨ys, -, -, -, -,e⟩:=h1 y hy;exact e
  have:=HM.out
  omega
 have hn64:n < 64:=by have:=(List.getElem?_eq_some_iff.1 hx).1;omega
 have HBX:=hm7 (below1 w (.cells #[.slice va xn vc,.int .i64 (c:Int)] 139))
 have HX0:=hm7 (Bk.new w #[.slice va xn vc,.int .i64 (c:Int)] 139)
 have b0:=HX0.out.cell (i:=0) rfl
 clear h1 h2 h3 h4 h5 hxn hm hx hl
 go_enter Tryz.func156,Tryz.ntmps156
 go_upto_region 1 with fail
 go_wp2
 clear b0
 go_loopg [1,7,11] xn (fun g nv _ i wr=>∃ j n':Nat,j + g = xn /\ i = .int .i64 j /\ nv = .int .i64 (n':Int) /\ n' < 64 /\ ((xs.drop j).map Prod.snd).flatten[n']? = some x /\ Below w.heap.size w wr)
 case atStart=>exact ⟨0,n,by omega,rfl,rfl,hn64,HX.out,HBX.out⟩
 case round=>
  obtain ⟨j,n',hj,rfl,rfl,hn',hx',hb'⟩:=hrel
  have HX':=hm7 hx'
  have HB':=hm7 hb'
  clear hx' hb'
  cases gk with
  | succ g=>
   have hlt:(j:Int) < (xn:Int):=by omega
   obtain ⟨y,hy⟩:∃ y,xs[j]? = some y:=⟨xs[j]'(by have:=HXN.out;omega),List.getElem?_eq_getElem _⟩
   have hym:=List.mem_of_getElem? hy
   have hci:=HI.out y hym
   have HDR:Hid (((xs.drop j).map Prod.snd).flatten = y.2 ++ ((xs.drop (j + 1)).map Prod.snd).flatten):=by
    show _ = _
    rw [List.drop_eq_getElem_cons (List.getElem?_eq_some_iff.1 hy).1,(List.getElem?_eq_some_iff.1 hy).2]
    rfl
   have hy64:y.2.length <= 64:=by
    have h6:∀ l:List ((Value × Nat) × List (List Lv5)),y ∈ l -> y.2.length <= (l.map Prod.snd).flatten.length:=fun l=>by
     induction l with
     | nil=>intro h;cases h
     | cons z l ih=>
      intro hh
      rw [List.map_cons,List.flatten_cons,List.length_append]
      rcases List.mem_cons.1 hh with rfl | hh
      ·omega
      ·have:=ih hh;omega
    have:=h6 xs hym
    have:=HM.out
    omega
   obtain ⟨⟨yv,yn⟩,ym⟩:=y
   have hyn:yn = ym.length:=by obtain ⟨ys, -, -, -,e, -⟩:=hci;dsimp only at e hy64;omega
   obtain ⟨ya,yl,yc,hyf⟩:=CI.form (f:=f) hci
   dsimp only at hyf hy64
   subst hyf
   obtain ⟨f0,f1⟩:=flat2 hy
   obtain ⟨jb,rfl, -,hjb,p0, -⟩:=row7_at (i:=j * 2) HO.out f0
   obtain ⟨jb1,hjb1, -, -,p1, -⟩:=row7_at (i:=j * 2 + 1) HO.out f1
   simp only [Option.some.injEq,Addr.mk.injEq,and_true] at hjb1
   subst hjb1
   have q0:=(Fr.of (P:=fun _=>False) (HB'.out)).cell hjb (fun z=>z) p0
   have q1:=(Fr.of (P:=fun _=>False) (HB'.out)).cell hjb (fun z=>z) p1
   have hjw:jb < wr.heap.size:=Nat.lt_of_lt_of_le hjb HB'.out.size
   have HCI:=hm7 hci
   have HYN:=hm7 hyn
   have HL1:=hm7 (below1 wr (.cells #[.slice ya yl yc,.int .i64 (yn:Int)] 170))
   have HB2:=hm7 (HB'.out.trans (HL1.out.mono HB'.out.size))
   clear p0 p1 f0 f1 hy hym hci hyn
   by_cases hlt2:n' < yn
   ·have hlt3:(n':Int) < (yn:Int):=by omega
    have HGX:Hid (ym[n']? = some x):=by
     have:=HX'.out
     rw [HDR.out,List.getElem?_append_left (by dsimp only;rw [<- HYN.out];exact hlt2)] at this
     exact this
    have HCL:=hm7 (hC B q hd _ bo te (.slice ya yl yc) yn ym n' x (CI.below (f:=f) HCI.out HB2.out) hy64 HGX.out (HL.out.below HB2.out) hb ht)
    go_wp2_with (go_at_call 189;refine HCL.out.mono ?_;rintro e W2 ⟨rfl,hly,hfr⟩;have HLY:=hm7 hly;have HFR:=hm7 ((Fr.of (P:=fun b=>B <= b) HB2.out).tr hfr);clear hly hfr)
    refine bodyPost_ret (v:=.tuple #[]) (by simp [results,Tryz.results156,go_sem]) rfl ?_
    exact ⟨rfl,HLY.out,HFR.out⟩
   ·have hlt3:¬ (n':Int) < (yn:Int):=by omega
    have hsub:((n' - yn:Nat):Int) = (n':Int) - (yn:Int):=by omega
    have HGX:Hid (((xs.drop (j + 1)).map Prod.snd).flatten[n' - yn]? = some x):=by
     have:=HX'.out
     rw [HDR.out,List.getElem?_append_right (by dsimp only;rw [<- HYN.out];omega)] at this
     dsimp only at this
     rw [<- HYN.out] at this
     exact this
    have hyn64:yn <= 64:=by rw [HYN.out];exact hy64
    go_wp2
    go_roundg g
    case measure=>omega
    case rel=>exact ⟨j + 1,n' - yn,by omega,by go_num,by rw [hsub],by omega,HGX.out,HB2.out⟩
  | zero=>
   obtain rfl:j = xn:=by omega
   have:=HX'.out
   rw [List.drop_eq_nil_of_le (by have:=HXN.out;omega)] at this
   simp at this
set_option maxRecDepth 20000 in
set_option maxHeartbeats 4000000 in
theorem layC5_any (f:Nat) (hL:LayL f):LayC f:=by
 intro B q hd w bo te v c m n x h hm hx hl hb ht
 obtain ⟨xs,h1,h2,h3,h4,h5⟩:=h
 obtain ⟨va,vc,hvf, -⟩:=row7_form h2.1
 obtain ⟨xn,hxn⟩:∃ xn,xs.length = xn:=⟨_,rfl⟩
 have HO:Hid (w.ownsRow 0 201 15 v xn (xs.flatMap Prod.fst)):=by have:=h2.1;rw [hxn] at this;exact this
 have HOB:Hid (∀ g,v.ownBlock = some g -> g < B):=h2.2
 rw [hxn] at hvf
 subst hvf
 have HXN:=hm7 hxn
 have HX:Hid ((cross5 ((xs.drop 0).map Prod.snd))[n]? = some x):=by rw [List.drop_zero, <- h3];exact hx
 have hc64:c = (cross5 ((xs.drop 0).map Prod.snd)).length:=by rw [List.drop_zero, <- h3];omega
 have hc65:c <= 64:=by rw [hc64,List.drop_zero, <- h3];exact hm
 have HC:=hm7 hc64
 have HI:=hm7 h1
 have hxn2:xn <= 9223372036854775807:=by
  rcases HO.out.2 with ⟨-,h⟩ | ⟨g,cap,cur,hv, -, -,h6,h7, -⟩
  ·omega
  ·unfold maxLen at h7;omega
 have hn64:n < 64:=by have:=(List.getElem?_eq_some_iff.1 hx).1;omega
 have HBX:=hm7 (below1 w (.cells #[.slice va xn vc,.int .i64 (c:Int)] 170))
 have HX0:=hm7 (Bk.new w #[.slice va xn vc,.int .i64 (c:Int)] 170)
 have HLB:=hm7 (hl.below HBX.out)
 have b0:=HX0.out.cell (i:=0) rfl
 have b1:=HX0.out.cell (i:=1) rfl
 clear h1 h2 h3 h4 h5 hxn hm hx hl hc64
 go_enter Tryz.func189,Tryz.ntmps189
 go_upto_region 1 with fail
 go_wp2
 clear b0 b1
 go_loopg [1,6,8,14] xn (fun g nv bv _ i wr=>∃ (j n' k:Nat) (pre y:List Lv5),j + g = xn /\ i = .int .i64 j /\ nv = .int .i64 (n':Int) /\ bv = .int .i64 (k:Int) /\ n' < 64 /\ k <= 64 /\ k = (cross5 ((xs.drop j).map Prod.snd)).length /\ (cross5 ((xs.drop j).map Prod.snd))[n']? = some y /\ x = pre ++ y /\ LY B q hd wr (bo ++ la5 pre) (te ++ lt5 pre) /\ Fr (fun b=>B <= b) w wr)
 case atStart=>exact ⟨0,n,c,[],x,by omega,rfl,rfl,rfl,hn64,hc65,HC.out,HX.out,rfl,by simpa [la5,lt5] using HLB.out,Fr.of HBX.out⟩
 case round=>
  obtain ⟨j,n',k,pre,y,hj,rfl,rfl,rfl,hn',hk64,hk,hy,hpre,hly,hfr⟩:=hrel
  have HK:=hm7 hk
  have HY:=hm7 hy
  have HPR:=hm7 hpre
  have HLY:=hm7 hly
  have HFR:=hm7 hfr
  clear hk hy hpre hly hfr HX0 HLB
  cases gk with
  | succ g=>
   have hlt:(j:Int) < (xn:Int):=by omega
   obtain ⟨z,hz⟩:∃ z,xs[j]? = some z:=⟨xs[j]'(by have:=HXN.out;omega),List.getElem?_eq_getElem _⟩
   have hzm:=List.mem_of_getElem? hz
   have hli:=HI.out z hzm
   have hshp:=hli.shape
   have hall:∀ x ∈ xs,x.1.length = 15:=fun x hx=>(HI.out x hx).cells.1
   have hdr:(xs.drop j).map Prod.snd = z.2 :: (xs.drop (j + 1)).map Prod.snd:=by
    rw [List.drop_eq_getElem_cons (List.getElem?_eq_some_iff.1 hz).1,(List.getElem?_eq_some_iff.1 hz).2]
    rfl
   obtain ⟨k2,hk2⟩:∃ k2,(cross5 ((xs.drop (j + 1)).map Prod.snd)).length = k2:=⟨_,rfl⟩
   have hkk:k = z.2.length * k2:=by rw [HK.out,hdr,cross5_len,hk2]
   have hk20:0 < k2:=by rw [<- hk2];exact cross5_pos (f:=f) (F:=fun b=>b < B) (w:=w) fun a ha=>HI.out a (List.mem_of_mem_drop ha)
   have hz0:0 < z.2.length:=List.length_pos_iff.2 hli.ne
   obtain ⟨a,b,ha,hb2,hab⟩:=cross5_at hk2 hk20 (m:=z.2) (n:=n') (x:=y) (by have:=HY.out;rw [hdr,cross5_cons] at this;exact this)
   have hz64:z.2.length <= 64:=Nat.le_trans (by rw [hkk];exact Nat.le_mul_of_pos_right _ hk20) hk64
   have hk264:k2 <= 64:=Nat.le_trans (by rw [hkk];exact Nat.le_mul_of_pos_left _ hz0) hk64
   have HLA:=hm7 ha
   have HLB2:=hm7 hb2
   have HAB:=hm7 hab
   have HCT:Hid (∀ X:World,Calls Tryz.prog 186 #[.agg z.1.toArray] X fun e w'=>e = .returned (.int .i64 (z.2.length:Int)) /\ Below X.heap.size X w'):=fun X=>by
    have:=count5_any hli X
    rw [show lc5 z.2 = z.2.length by unfold lc5;omega] at this
    exact this
   have HLL:Hid (∀ X:World,Fr (fun b=>B <= b) w X -> LY B q hd X (bo ++ la5 pre) (te ++ lt5 pre) -> Calls Tryz.prog 207 #[.agg z.1.toArray,.int .i64 ((n' / k2:Nat):Int),.pointer (some ⟨q,0,none⟩)] X (LayP B q hd X (bo ++ la5 pre) (te ++ lt5 pre) a)):=fun X hX hl=>hL B q hd X _ _ z.1 z.2 _ a (LiM.fr hX (fun b hb hc=>by omega) f _ _ hli) hz64 ha hl (by
     have e1:=HPR.out
     have e2:=congrArg List.length e1
     rw [hab,List.length_append,List.length_append] at e2
     have e3:=la5_len pre
     rw [List.length_append]
     omega) (by
     have e1:=HPR.out
     have e2:=congrArg List.length e1
     rw [hab,List.length_append,List.length_append] at e2
     have e3:=lt5_len pre
     rw [List.length_append]
     omega)
   obtain ⟨cs,zm⟩:=z
   dsimp only at *
   obtain ⟨k0,bk,bn,bs,nm,ya,yn,yc,op,lk,ln,ls,rk,rn,rs,va2,vn,vc2,N0,rfl⟩:=hshp
   obtain ⟨jb,rfl, -,hjb,p0, -⟩:=row7_at (i:=j * 15 + 0) HO.out (flat15 hall hz (i:=0) (by omega) rfl)
   have hjB:jb < B:=HOB.out jb rfl
   have P:∀ (i:Nat) (u:Value),i < 15 -> ([.int .i64 k0,.int .i64 bk,.int .i64 bn,.string bs,.string nm,.slice ya yn yc,.int .i64 op,.int .i64 lk,.int .i64 ln,.string ls,.int .i64 rk,.int .i64 rn,.string rs,.slice va2 vn vc2,.int .i64 N0]:List Value)[i]? = some u -> wr.cell? ⟨jb,j * 15 + i,none⟩ = some u:=fun i u hi hu=>by
    obtain ⟨jb2,e, -, -,p, -⟩:=row7_at (i:=j * 15 + i) HO.out (flat15 hall hz hi hu)
    cases e
    exact HFR.out.cell hjb (fun z=>by omega) p
   have q0:wr.cell? ⟨jb,j * 15,none⟩ = some (.int .i64 k0):=P 0 (.int .i64 k0) (by omega) rfl
   have q1:wr.cell? ⟨jb,j * 15 + 1,none⟩ = some (.int .i64 bk):=P 1 (.int .i64 bk) (by omega) rfl
   have q2:wr.cell? ⟨jb,j * 15 + 2,none⟩ = some (.int .i64 bn):=P 2 (.int .i64 bn) (by omega) rfl
   have q3:wr.cell? ⟨jb,j * 15 + 3,none⟩ = some (.string bs):=P 3 (.string bs) (by omega) rfl
   have q4:wr.cell? ⟨jb,j * 15 + 4,none⟩ = some (.string nm):=P 4 (.string nm) (by omega) rfl
   have q5:wr.cell? ⟨jb,j * 15 + 5,none⟩ = some (.slice ya yn yc):=P 5 (.slice ya yn yc) (by omega) rfl
   have q6:wr.cell? ⟨jb,j * 15 + 6,none⟩ = some (.int .i64 op):=P 6 (.int .i64 op) (by omega) rfl
   have q7:wr.cell? ⟨jb,j * 15 + 7,none⟩ = some (.int .i64 lk):=P 7 (.int .i64 lk) (by omega) rfl
   have q8:wr.cell? ⟨jb,j * 15 + 8,none⟩ = some (.int .i64 ln):=P 8 (.int .i64 ln) (by omega) rfl
   have q9:wr.cell? ⟨jb,j * 15 + 9,none⟩ = some (.string ls):=P 9 (.string ls) (by omega) rfl
   have q10:wr.cell? ⟨jb,j * 15 + 10,none⟩ = some (.int .i64 rk):=P 10 (.int .i64 rk) (by omega) rfl
   have q11:wr.cell? ⟨jb,j * 15 + 11,none⟩ = some (.int .i64 rn):=P 11 (.int .i64 rn) (by omega) rfl
   have q12:wr.cell? ⟨jb,j * 15 + 12,none⟩ = some (.string rs):=P 12 (.string rs) (by omega) rfl
   have q13:wr.cell? ⟨jb,j * 15 + 13,none⟩ = some (.slice va2 vn vc2):=P 13 (.slice va2 vn vc2) (by omega) rfl
   have q14:wr.cell? ⟨jb,j * 15 + 14,none⟩ = some (.int .i64 N0):=P 14 (.int .i64 N0) (by omega) rfl
   have hjw:jb < wr.heap.size:=Nat.lt_of_lt_of_le hjb HFR.out.size
   have HB15:=hm7 (below1 wr (.cells #[.int .i64 k0,.int .i64 bk,.int .i64 bn,.string bs,.string nm,.slice ya yn yc,.int .i64 op,.int .i64 lk,.int .i64 ln,.string ls,.int .i64 rk,.int .i64 rn,.string rs,.slice va2 vn vc2,.int .i64 N0] 201))
   have HX15:=hm7 (Bk.new wr #[.int .i64 k0,.int .i64 bk,.int .i64 bn,.string bs,.string nm,.slice ya yn yc,.int .i64 op,.int .i64 lk,.int .i64 ln,.string ls,.int .i64 rk,.int .i64 rn,.string rs,.slice va2 vn vc2,.int .i64 N0] 201)
   obtain ⟨zl,hzl⟩:∃ zl,zm.length = zl:=⟨_,rfl⟩
   rw [hzl] at hkk hz0 hz64 HCT
   have hqq:Int.tdiv (k:Int) (zl:Int) = (k2:Int):=by
    rw [Int.tdiv_eq_ediv_of_nonneg (by omega),hkk]
    rw [Int.natCast_mul,Int.mul_ediv_cancel_left _ (by omega)]
   have hqn:Int.tdiv (n':Int) (k2:Int) = ((n' / k2:Nat):Int):=by rw [Int.tdiv_eq_ediv_of_nonneg (by omega)];rfl
   have hmn:Int.tmod (n':Int) (k2:Int) = ((n' % k2:Nat):Int):=by rw [Int.tmod_eq_emod_of_nonneg (by omega)];rfl
   obtain ⟨dn,hdn⟩:∃ dn,n' / k2 = dn:=⟨_,rfl⟩
   obtain ⟨rm,hrm⟩:∃ rm,n' % k2 = rm:=⟨_,rfl⟩
   rw [hdn] at hqn HLA HLL
   rw [hrm] at hmn HLB2
   have hdn64:dn < 64:=by rw [<- hdn];exact Nat.lt_of_le_of_lt (Nat.div_le_self _ _) hn'
   have hrm64:rm < 64:=by rw [<- hrm];exact Nat.lt_of_le_of_lt (Nat.mod_le _ _) hn'
   have e1:((zl:Int) == 0) = false:=by simp;omega
   have e2:((k2:Int) == 0) = false:=by simp;omega
   have e1':(zl:Int) ≠ 0:=by omega
   have e3':¬ k2 = 0:=by omega
   have hwd:IntKind.i64.wrap (dn:Int) = (dn:Int):=by rw [IntKind.wrap_i64];omega
   have e2':(k2:Int) ≠ 0:=by omega
   have HK2:=hm7 hk2
   clear P hall hz hzm p0 ha hb2 hab hli hdr hkk hk2 hzl hdn hrm hz0
   go_upto_region 5 with fail
   clear q0 q1 q2 q3 q4 q5 q6 q7 q8 q9 q10 q11 q12 q13 q14 hjw
   revert HX15 HB15
   generalize wr.alloc (.cells #[.int .i64 k0,.int .i64 bk,.int .i64 bn,.string bs,.string nm,.slice ya yn yc,.int .i64 op,.int .i64 lk,.int .i64 ln,.string ls,.int .i64 rk,.int .i64 rn,.string rs,.slice va2 vn vc2,.int .i64 N0] 201) = W1
   obtain ⟨xb,hxb⟩:∃ xb,wr.heap.size = xb:=⟨_,rfl⟩
   intro HB15 HX15
   rw [hxb] at HX15
   rw [hxb]
   have HXB:=hm7 hxb
   clear hxb
   have q0:=HX15.out.cell (i:=0) rfl
   have q1:=HX15.out.cell (i:=1) rfl
   have q2:=HX15.out.cell (i:=2) rfl
   have q3:=HX15.out.cell (i:=3) rfl
   have q4:=HX15.out.cell (i:=4) rfl
   have q5:=HX15.out.cell (i:=5) rfl
   have q6:=HX15.out.cell (i:=6) rfl
   have q7:=HX15.out.cell (i:=7) rfl
   have q8:=HX15.out.cell (i:=8) rfl
   have q9:=HX15.out.cell (i:=9) rfl
   have q10:=HX15.out.cell (i:=10) rfl
   have q11:=HX15.out.cell (i:=11) rfl
   have q12:=HX15.out.cell (i:=12) rfl
   have q13:=HX15.out.cell (i:=13) rfl
   have q14:=HX15.out.cell (i:=14) rfl
   go_upto_region 6 with (go_at_call 186;refine (HCT.out _).mono ?_;rintro e W2 ⟨rfl,hb⟩;have HX2:=hm7 (HX15.out.below hb);have HB2:=hm7 (HB15.out.trans (hb.mono HB15.out.size));clear hb q0 q1 q2 q3 q4 q5 q6 q7 q8 q9 q10 q11 q12 q13 q14)
   have HFR2:=hm7 (HFR.out.then HB2.out)
   have HLY2:=hm7 (HLY.out.below HB2.out)
   refine wp_region_held_drew (S:=fun _=>True) (by kernel_rfl) trivial (fun hH=>?_)
   revert hH
   generalize hV0:W2.drew = V0
   intro hH
   have HX3:Hid (Bk V0 xb #[.int .i64 k0,.int .i64 bk,.int .i64 bn,.string bs,.string nm,.slice ya yn yc,.int .i64 op,.int .i64 lk,.int .i64 ln,.string ls,.int .i64 rk,.int .i64 rn,.string rs,.slice va2 vn vc2,.int .i64 N0] 201):=by show Bk _ _ _ _;rw [<- hV0];exact HX2.out.below (below_drewN (Below.refl _ _) 1)
   have HFV:Hid (Fr (fun b=>B <= b) w V0):=by show Fr _ _ _;rw [<- hV0];exact HFR2.out.then (below_drewN (Below.refl _ _) 1)
   have HLV:Hid (LY B q hd V0 (bo ++ la5 pre) (te ++ lt5 pre)):=by show LY _ _ _ _ _ _;rw [<- hV0];exact HLY2.out.below (below_drewN (Below.refl _ _) 1)
   have HLZ:=hm7 (HLL.out V0 HFV.out HLV.out)
   clear hV0
   have q0:=HX3.out.cell (i:=0) rfl
   have q1:=HX3.out.cell (i:=1) rfl
   have q2:=HX3.out.cell (i:=2) rfl
   have q3:=HX3.out.cell (i:=3) rfl
   have q4:=HX3.out.cell (i:=4) rfl
   have q5:=HX3.out.cell (i:=5) rfl
   have q6:=HX3.out.cell (i:=6) rfl
   have q7:=HX3.out.cell (i:=7) rfl
   have q8:=HX3.out.cell (i:=8) rfl
   have q9:=HX3.out.cell (i:=9) rfl
   have q10:=HX3.out.cell (i:=10) rfl
   have q11:=HX3.out.cell (i:=11) rfl
   have q12:=HX3.out.cell (i:=12) rfl
   have q13:=HX3.out.cell (i:=13) rfl
   have q14:=HX3.out.cell (i:=14) rfl
   refine wTl 1 (.int .i64 (n':Int)) rfl (by kernel_rfl) (fun _ _ _ h=>h) rfl (fun w' h=>by clear h;go_simp) hH ?_
   simp only [wA,wB,wC,wD]
   refine wTl 2 (.int .i64 (k2:Int)) rfl (by kernel_rfl) (fun _ _ _ h=>h) rfl (fun w' h=>by clear h;go_simp) hH ?_
   simp only [wA,wB,wC,wD]
   refine wTl 3 (.int .i64 (dn:Int)) rfl (by kernel_rfl) (fun _ _ _ h=>h) rfl (fun w' h=>by clear h;go_simp) hH ?_
   simp only [wA,wB,wC,wD]
   refine wTl 4 (.pointer (some ⟨q,0,none⟩)) rfl (by kernel_rfl) (fun _ _ _ h=>h) rfl (fun w' h=>by clear h;go_simp) hH ?_
   simp only [wA,wB,wC,wD]
   refine wRd 0 (by kernel_rfl) rfl (fun K hK=>?_)
   go_simp
   refine hK.out _ _ trivial (fun hH=>?_)
   clear hK
   try simp only [wA,wB,wC,wD]
   refine wRd 5 (by kernel_rfl) rfl (fun K hK=>?_)
   go_simp
   refine HLZ.out.mono ?_
   rintro e W3 ⟨rfl,hly3,hfr3⟩
   have HLY3:=hm7 hly3
   have HFR3:=hm7 (HFV.out.tr hfr3)
   clear hly3 hfr3
   refine hK.out _ _ trivial (fun hH=>?_)
   clear hK hH
   try simp only [wA,wB,wC,wD]
   refine wpAnyH_done (by kernel_rfl) ?_ _
   clear q0 q1 q2 q3 q4 q5 q6 q7 q8 q9 q10 q11 q12 q13 q14
   go_upto_region 7 with fail
   go_wp2
   go_roundg g
   case measure=>omega
   case rel=>exact ⟨j + 1,rm,k2,pre ++ a,b,by omega,by go_num,by rw [<- hmn],rfl,hrm64,hk264,HK2.out.symm,HLB2.out,by rw [List.append_assoc, <- HAB.out];exact HPR.out,by rw [la5_app,lt5_app, <- List.append_assoc, <- List.append_assoc];exact HLY3.out,HFR3.out⟩
  | zero=>
   obtain rfl:j = xn:=by omega
   have hlt:¬ (j:Int) < (j:Int):=by omega
   have HYN:Hid (y = []):=by
    have:=HY.out
    rw [List.drop_eq_nil_of_le (by have:=HXN.out;omega),List.map_nil,cross5_nil] at this
    cases n' with
    | zero=>exact (Option.some.inj this).symm
    | succ n'=>simp at this
   have HXE:Hid (x = pre):=by have:=HPR.out;rw [HYN.out,List.append_nil] at this;exact this
   go_wp2
   refine bodyPost_ret (v:=.tuple #[]) (by simp [results,Tryz.results189,go_sem]) rfl ?_
   rw [HXE.out]
   exact ⟨rfl,HLY.out,HFR.out⟩
theorem layL_all:∀ f,LayL f
 | 0=>fun B q hd w bo te cs m n x h=>by cases h
 | f + 1=>layL5_any f (layA5_any f (layC5_any f (layL_all f)))
theorem layA_all (f:Nat):LayA f:=layA5_any f (layC5_any f (layL_all f))
end Go.Proofs.YtcpjiahdaplhlaaGreatDoor

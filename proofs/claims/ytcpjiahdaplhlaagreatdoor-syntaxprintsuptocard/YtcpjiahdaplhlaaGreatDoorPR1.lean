import Derived.Test.YtcpjiahdaplhlaaGreatDoorB2
import Derived.Test.YtcpjiahdaplhlaaGreatDoorSY8
import Derived.Test.YtcpjiahdaplhlaaGreatDoorJ4
namespace Go.Proofs.YtcpjiahdaplhlaaGreatDoor
open Go.RowKit
attribute [local go_sem ↓] Go.wp_at_zero Go.wp_at_succ
def ib5 (n:Int):ByteArray:=⟨(Lib.itoa n).toArray⟩
theorem ib5_len (n:Int) (hn : -9223372036854775808 <= n /\ n <= 9223372036854775807):(ib5 n).size <= 21:=by
 have:=Lib.itoa_length_le n hn.1 hn.2
 show (Lib.itoa n).toArray.size <= 21
 simpa using this
def pt5 (t:Tm):ByteArray:=if t.var = true then (⟨#[86]⟩:ByteArray) ++ ib5 t.n else if t.con = false then ⟨#[]⟩ else if t.k = 1 then ib5 t.n else if wrd t.s = true then t.s else qtB t.s
def N64 (n:Int):Prop:=-9223372036854775808 <= n /\ n <= 9223372036854775807
set_option maxRecDepth 20000 in
set_option maxHeartbeats 2000000 in
theorem printTerm_any (t:Tm) (hn:N64 t.n) (w:World) (hE:EnvOk w) :
  Calls Tryz.prog 17 #[t.v] w fun e w'=>e = .returned (.string (pt5 t)) /\ Below w.heap.size w w':=by
 have HB0:=hm7 (below1 w (.cells #[.int .i64 t.k,.int .i64 t.n,.string t.s] 39))
 have HR0:=hm7 (Bk.new w #[.int .i64 t.k,.int .i64 t.n,.string t.s] 39)
 have HV:Hid (∀ X:World,Calls Tryz.prog 44 #[t.v] X fun e w'=>e = .returned (.bool t.var) /\ Below X.heap.size X w'):=fun X=>var_any t X
 have HC:Hid (∀ X:World,Calls Tryz.prog 46 #[t.v] X fun e w'=>e = .returned (.bool t.con) /\ Below X.heap.size X w'):=fun X=>con_any t X
 have HI:Hid (∀ X:World,EnvOk X -> Calls Tryz.prog 45 #[.int .i64 t.n] X fun e w'=>e = .returned (.string (ib5 t.n)) /\ Below X.heap.size X w'):=fun X hX=>itoa_any t.n hn.1 hn.2 X hX
 have HE:=hm7 hE
 obtain ⟨R,hR⟩:∃ R,pt5 t = R:=⟨_,rfl⟩
 rw [hR]
 unfold pt5 at hR
 have HW:Hid (t.con = true -> ∀ X:World,EnvOk X -> Calls Tryz.prog 47 #[.string t.s] X fun e w'=>e = .returned (.bool (wrd t.s)) /\ w' = X):=fun h X hX=>word_any t.s (by
  unfold Tm.con at h
  rcases of_decide_eq_true h with h | h
  ·rw [h.2];decide
  ·omega) X hX.signs.says
 have HQ:Hid (t.con = true -> ∀ X:World,Calls Tryz.prog 48 #[.string t.s] X fun e w'=>e = .returned (.string (qtB t.s)) /\ Below X.heap.size X w'):=fun h X=>quote_any t.s (by
  unfold Tm.con at h
  rcases of_decide_eq_true h with h | h
  ·rw [h.2];decide
  ·omega) X
 obtain ⟨vr,hvr⟩:∃ b,t.var = b:=⟨_,rfl⟩
 obtain ⟨cn,hcn⟩:∃ b,t.con = b:=⟨_,rfl⟩
 obtain ⟨ib,hib⟩:∃ b,ib5 t.n = b:=⟨_,rfl⟩
 obtain ⟨wd,hwd⟩:∃ b,wrd t.s = b:=⟨_,rfl⟩
 obtain ⟨qt,hqt⟩:∃ b,qtB t.s = b:=⟨_,rfl⟩
 rw [hvr] at HV hR
 rw [hcn] at HC HW HQ hR
 rw [hib] at HI hR
 rw [hwd] at HW hR
 rw [hqt] at HQ hR
 have hibl:¬ 9223372036854775807 < 1 + ib.size:=by
  rw [<- hib]
  have:=ib5_len t.n hn
  omega
 clear hvr hcn hib hwd hqt hn hE
 obtain ⟨k,n,s⟩:=t
 dsimp only at *
 have c0:=HR0.out.cell (i:=0) rfl
 have c1:=HR0.out.cell (i:=1) rfl
 have c2:=HR0.out.cell (i:=2) rfl
 cases vr with
 | true=>
  rw [if_pos rfl] at hR
  go_enter Tryz.func17,Tryz.ntmps17
  go_wp2_with (first
   | (go_at_call 44;refine (HV.out _).mono ?_;rintro e w1 ⟨rfl,hb⟩;have HB1:=hm7 (HB0.out.trans (hb.mono HB0.out.size));have HR1:=hm7 (HR0.out.below hb);have d1:=HR1.out.cell (i:=1) rfl;have HE1:=hm7 (HE.out.later HB1.out);clear hb c0 c1 c2)
   | (go_at_call 45;refine (HI.out _ HE1.out).mono ?_;rintro e w2 ⟨rfl,hb⟩;have HB2:=hm7 (HB1.out.trans (hb.mono HB1.out.size));clear hb))
  go_ret
  exact ⟨rfl,HB2.out⟩
 | false=>
  rw [if_neg (by decide)] at hR
  cases cn with
  | false=>
   rw [if_pos rfl] at hR
   subst hR
   go_enter Tryz.func17,Tryz.ntmps17
   go_wp2_with (first
    | (go_at_call 44;refine (HV.out _).mono ?_;rintro e w1 ⟨rfl,hb⟩;have HB1:=hm7 (HB0.out.trans (hb.mono HB0.out.size));have HR1:=hm7 (HR0.out.below hb);clear c0 c1 c2;have c0:=HR1.out.cell (i:=0) rfl;have c1:=HR1.out.cell (i:=1) rfl;have c2:=HR1.out.cell (i:=2) rfl;clear hb)
    | (go_at_call 46;refine (HC.out _).mono ?_;rintro e w2 ⟨rfl,hb⟩;have HB2:=hm7 (HB1.out.trans (hb.mono HB1.out.size));clear hb))
   go_ret
   exact ⟨rfl,HB2.out⟩
  | true=>
   rw [if_neg (by decide)] at hR
   have HW2:=hm7 (HW.out rfl)
   have HQ2:=hm7 (HQ.out rfl)
   clear HW HQ
   by_cases hk:k = 1
   ·rw [if_pos hk] at hR
    subst hk
    subst hR
    go_enter Tryz.func17,Tryz.ntmps17
    go_wp2_with (first
     | (go_at_call 44;refine (HV.out _).mono ?_;rintro e w1 ⟨rfl,hb⟩;have HB1:=hm7 (HB0.out.trans (hb.mono HB0.out.size));have HR1:=hm7 (HR0.out.below hb);clear c0 c1 c2;have c0:=HR1.out.cell (i:=0) rfl;have c1:=HR1.out.cell (i:=1) rfl;have c2:=HR1.out.cell (i:=2) rfl;clear hb)
     | (go_at_call 46;refine (HC.out _).mono ?_;rintro e w2 ⟨rfl,hb⟩;have HB2:=hm7 (HB1.out.trans (hb.mono HB1.out.size));have HR2:=hm7 (HR1.out.below hb);have d0:=HR2.out.cell (i:=0) rfl;have d1:=HR2.out.cell (i:=1) rfl;have HE2:=hm7 (HE.out.later HB2.out);clear hb c0 c1 c2)
     | (go_at_call 45;refine (HI.out _ HE2.out).mono ?_;rintro e w3 ⟨rfl,hb⟩;have HB3:=hm7 (HB2.out.trans (hb.mono HB2.out.size));clear hb))
    go_ret
    exact ⟨rfl,HB3.out⟩
   ·rw [if_neg hk] at hR
    have hk2:(k == 1) = false:=by simp [hk]
    cases wd with
    | true=>
     rw [if_pos rfl] at hR
     subst hR
     go_enter Tryz.func17,Tryz.ntmps17
     go_wp2_with (first
      | (go_at_call 44;refine (HV.out _).mono ?_;rintro e w1 ⟨rfl,hb⟩;have HB1:=hm7 (HB0.out.trans (hb.mono HB0.out.size));have HR1:=hm7 (HR0.out.below hb);clear c0 c1 c2;have c0:=HR1.out.cell (i:=0) rfl;have c1:=HR1.out.cell (i:=1) rfl;have c2:=HR1.out.cell (i:=2) rfl;clear hb)
      | (go_at_call 46;refine (HC.out _).mono ?_;rintro e w2 ⟨rfl,hb⟩;have HB2:=hm7 (HB1.out.trans (hb.mono HB1.out.size));have HR2:=hm7 (HR1.out.below hb);have d0:=HR2.out.cell (i:=0) rfl;have d2:=HR2.out.cell (i:=2) rfl;have HE2:=hm7 (HE.out.later HB2.out);clear hb c0 c1 c2)
      | (go_at_call 47;refine (HW2.out _ HE2.out).mono ?_;rintro e w3 ⟨rfl,hw3⟩;subst hw3))
     go_ret
     exact ⟨rfl,HB2.out⟩
    | false=>
     rw [if_neg (by decide)] at hR
     subst hR
     go_enter Tryz.func17,Tryz.ntmps17
     go_wp2_with (first
      | (go_at_call 44;refine (HV.out _).mono ?_;rintro e w1 ⟨rfl,hb⟩;have HB1:=hm7 (HB0.out.trans (hb.mono HB0.out.size));have HR1:=hm7 (HR0.out.below hb);clear c0 c1 c2;have c0:=HR1.out.cell (i:=0) rfl;have c1:=HR1.out.cell (i:=1) rfl;have c2:=HR1.out.cell (i:=2) rfl;clear hb)
      | (go_at_call 46;refine (HC.out _).mono ?_;rintro e w2 ⟨rfl,hb⟩;have HB2:=hm7 (HB1.out.trans (hb.mono HB1.out.size));have HR2:=hm7 (HR1.out.below hb);have d0:=HR2.out.cell (i:=0) rfl;have d2:=HR2.out.cell (i:=2) rfl;have HE2:=hm7 (HE.out.later HB2.out);clear hb c0 c1 c2)
      | (go_at_call 47;refine (HW2.out _ HE2.out).mono ?_;rintro e w3 ⟨rfl,hw3⟩;subst hw3)
      | (go_at_call 48;refine (HQ2.out _).mono ?_;rintro e w4 ⟨rfl,hb⟩;have HB4:=hm7 (HB2.out.trans (hb.mono HB2.out.size));clear hb))
     go_ret
     exact ⟨rfl,HB4.out⟩
theorem qtB_len (s:ByteArray):(qtB s).size <= 4 * s.size + 2:=by
 have h1:∀ j,(qtl s j).length <= 1 + 4 * j:=fun j=>by
  induction j with
  | zero=>simp [qtl]
  | succ j ih=>
   rw [qtl_succ,List.length_append]
   have:=(qb_len (atK_ s j)).2
   omega
 have h2:(qtB s).size = (qtl s s.size).length + 1:=by
  show (i2b (qtl s s.size ++ [34])).toArray.size = _
  rw [List.size_toArray]
  unfold i2b
  rw [List.length_map,List.length_append,List.length_singleton]
 have:=h1 s.size
 omega
theorem pt5_len (t:Tm) (hn:N64 t.n):(pt5 t).size <= 300:=by
 have h1:=ib5_len t.n hn
 have h2:=qtB_len t.s
 have hc:t.con = true -> t.s.size <= 64:=fun h=>by
  unfold Tm.con at h
  rcases of_decide_eq_true h with h | h
  ·rw [h.2];decide
  ·exact h.2.2
 unfold pt5
 by_cases e1:t.var = true
 ·rw [if_pos e1,ByteArray.size_append]
  have:(⟨#[86]⟩:ByteArray).size = 1:=rfl
  omega
 ·rw [if_neg e1]
  cases e2:t.con with
  | false=>rw [if_pos rfl];decide
  | true=>
   rw [if_neg (by decide)]
   have:=hc e2
   by_cases e3:t.k = 1
   ·rw [if_pos e3];omega
   ·rw [if_neg e3]
    by_cases e4:wrd t.s = true
    ·rw [if_pos e4];omega
    ·rw [if_neg e4];omega
def sg5 (o:Int):ByteArray:=if o = 1 then ⟨#[61]⟩ else if o = 2 then ⟨#[33,61]⟩ else if o = 3 then ⟨#[60]⟩ else if o = 4 then ⟨#[60,61]⟩ else ⟨#[]⟩
def oy5 (k:Int) (j:Nat):Prop:=(0 < j -> k ≠ 1) /\ (1 < j -> k ≠ 2) /\ (2 < j -> k ≠ 3) /\ (3 < j -> k ≠ 4)
set_option maxRecDepth 20000 in
set_option maxHeartbeats 2000000 in
theorem sign5_any (k:Int) (w:World) (h:OpsOk w) :
  Calls Tryz.prog 99 #[.int .i64 k] w fun e w'=>e = .returned (.string (sg5 k)) /\ Below w.heap.size w w':=by
 have c0:=h.cell (i:=0) (v:=.int .i64 13) rfl
 have c1:=h.cell (i:=1) (v:=.int .i64 1) rfl
 have c2:=h.cell (i:=2) (v:=.string ⟨#[61]⟩) rfl
 have c3:=h.cell (i:=3) (v:=.int .i64 14) rfl
 have c4:=h.cell (i:=4) (v:=.int .i64 2) rfl
 have c5:=h.cell (i:=5) (v:=.string ⟨#[33,61]⟩) rfl
 have c6:=h.cell (i:=6) (v:=.int .i64 15) rfl
 have c7:=h.cell (i:=7) (v:=.int .i64 3) rfl
 have c8:=h.cell (i:=8) (v:=.string ⟨#[60]⟩) rfl
 have c9:=h.cell (i:=9) (v:=.int .i64 16) rfl
 have c10:=h.cell (i:=10) (v:=.int .i64 4) rfl
 have c11:=h.cell (i:=11) (v:=.string ⟨#[60,61]⟩) rfl
 have hg:=h.lt
 obtain ⟨R,hR⟩:∃ R,sg5 k = R:=⟨_,rfl⟩
 rw [hR]
 have HR:=hm7 hR
 clear h hR
 go_enter Tryz.func99,Tryz.ntmps99
 go_wp2
 clear c0 c1 c2 c3 c4 c5 c6 c7 c8 c9 c10 c11
 go_loopg [4,6] 4 (fun g _ i wr=>∃ j:Nat,j + g = 4 /\ i = .int .i64 j /\ oy5 k j /\ Below w.heap.size w wr)
 case atStart=>exact ⟨0,by omega,rfl,⟨by omega,by omega,by omega,by omega⟩,Below.refl _ _⟩
 case round=>
  obtain ⟨j,hj,rfl,ho,hb⟩:=hrel
  have HO:=hm7 ho
  have HB:=hm7 hb
  clear ho hb
  cases gk with
  | succ g=>
   obtain ⟨⟨q0,q1⟩,q2,q3⟩:=ops_at wr
   unfold opsV at q0 q1 q2 q3
   have hz:=HB.out.size
   rcases (show j = 0 ∨ j = 1 ∨ j = 2 ∨ j = 3 by omega) with rfl | rfl | rfl | rfl
   ·by_cases e:k = 1
    ·subst e
     have hR0:R = ⟨#[61]⟩:=by rw [<- HR.out];rfl
     subst hR0
     go_wp2
     go_ret
     exact ⟨rfl,HB.out.alloc hz _⟩
    ·have e1:((1:Int) == k) = false:=by simp;omega
     go_wp2
     go_roundg g
     case measure=>omega
     case rel=>exact ⟨1,by omega,by go_num,⟨by have:=HO.out.1;omega,by have:=HO.out.2.1;omega,by have:=HO.out.2.2.1;omega,by have:=HO.out.2.2.2;omega⟩,HB.out.alloc hz _⟩
   ·by_cases e:k = 2
    ·subst e
     have hR0:R = ⟨#[33,61]⟩:=by rw [<- HR.out];rfl
     subst hR0
     go_wp2
     go_ret
     exact ⟨rfl,HB.out.alloc hz _⟩
    ·have e1:((2:Int) == k) = false:=by simp;omega
     go_wp2
     go_roundg g
     case measure=>omega
     case rel=>exact ⟨2,by omega,by go_num,⟨by have:=HO.out.1;omega,by have:=HO.out.2.1;omega,by have:=HO.out.2.2.1;omega,by have:=HO.out.2.2.2;omega⟩,HB.out.alloc hz _⟩
   ·by_cases e:k = 3
    ·subst e
     have hR0:R = ⟨#[60]⟩:=by rw [<- HR.out];rfl
     subst hR0
     go_wp2
     go_ret
     exact ⟨rfl,HB.out.alloc hz _⟩
    ·have e1:((3:Int) == k) = false:=by simp;omega
     go_wp2
     go_roundg g
     case measure=>omega
     case rel=>exact ⟨3,by omega,by go_num,⟨by have:=HO.out.1;omega,by have:=HO.out.2.1;omega,by have:=HO.out.2.2.1;omega,by have:=HO.out.2.2.2;omega⟩,HB.out.alloc hz _⟩
   ·by_cases e:k = 4
    ·subst e
     have hR0:R = ⟨#[60,61]⟩:=by rw [<- HR.out];rfl
     subst hR0
     go_wp2
     go_ret
     exact ⟨rfl,HB.out.alloc hz _⟩
    ·have e1:((4:Int) == k) = false:=by simp;omega
     go_wp2
     go_roundg g
     case measure=>omega
     case rel=>exact ⟨4,by omega,by go_num,⟨by have:=HO.out.1;omega,by have:=HO.out.2.1;omega,by have:=HO.out.2.2.1;omega,by have:=HO.out.2.2.2;omega⟩,HB.out.alloc hz _⟩
  | zero=>
   obtain rfl:j = 4:=by omega
   have hR0:R = ⟨#[]⟩:=by
    rw [<- HR.out]
    obtain ⟨o1,o2,o3,o4⟩:=HO.out
    unfold sg5
    rw [if_neg (o1 (by omega)),if_neg (o2 (by omega)),if_neg (o3 (by omega)),if_neg (o4 (by omega))]
   subst hR0
   go_wp2
   go_ret
   exact ⟨rfl,HB.out⟩
def pe5 (t:Te):ByteArray:=(((pt5 t.l ++ (⟨#[32]⟩:ByteArray)) ++ sg5 t.op) ++ (⟨#[32]⟩:ByteArray)) ++ pt5 t.r
theorem sg5_len (o:Int):(sg5 o).size <= 2:=by
 unfold sg5
 (repeat' split) <;> decide
set_option maxRecDepth 20000 in
set_option maxHeartbeats 2000000 in
theorem printTest_any (t:Te) (hl:N64 t.l.n) (hr:N64 t.r.n) (w:World) (hE:EnvOk w) (hO:OpsOk w) :
  Calls Tryz.prog 59 #[t.v] w fun e w'=>e = .returned (.string (pe5 t)) /\ Below w.heap.size w w':=by
 have l1:=pt5_len t.l hl
 have l2:=pt5_len t.r hr
 have l3:=sg5_len t.op
 unfold pe5
 obtain ⟨op,⟨lk,ln,ls⟩,⟨rk,rn,rs⟩⟩:=t
 dsimp only at *
 have HB0:=hm7 (below1 w (.cells #[.int .i64 op,.int .i64 lk,.int .i64 ln,.string ls,.int .i64 rk,.int .i64 rn,.string rs] 85))
 have HX0:=hm7 (Bk.new w #[.int .i64 op,.int .i64 lk,.int .i64 ln,.string ls,.int .i64 rk,.int .i64 rn,.string rs] 85)
 have HPL:Hid (∀ X:World,Below (w.alloc (.cells #[.int .i64 op,.int .i64 lk,.int .i64 ln,.string ls,.int .i64 rk,.int .i64 rn,.string rs] 85)).heap.size (w.alloc (.cells #[.int .i64 op,.int .i64 lk,.int .i64 ln,.string ls,.int .i64 rk,.int .i64 rn,.string rs] 85)) X -> Calls Tryz.prog 17 #[.agg #[.int .i64 lk,.int .i64 ln,.string ls]] X fun e w'=>e = .returned (.string (pt5 ⟨lk,ln,ls⟩)) /\ Below X.heap.size X w'):=fun X hX=>printTerm_any ⟨lk,ln,ls⟩ hl X (hE.later (HB0.out.trans (hX.mono HB0.out.size)))
 have HPR:Hid (∀ X:World,Below (w.alloc (.cells #[.int .i64 op,.int .i64 lk,.int .i64 ln,.string ls,.int .i64 rk,.int .i64 rn,.string rs] 85)).heap.size (w.alloc (.cells #[.int .i64 op,.int .i64 lk,.int .i64 ln,.string ls,.int .i64 rk,.int .i64 rn,.string rs] 85)) X -> Calls Tryz.prog 17 #[.agg #[.int .i64 rk,.int .i64 rn,.string rs]] X fun e w'=>e = .returned (.string (pt5 ⟨rk,rn,rs⟩)) /\ Below X.heap.size X w'):=fun X hX=>printTerm_any ⟨rk,rn,rs⟩ hr X (hE.later (HB0.out.trans (hX.mono HB0.out.size)))
 have HSG:Hid (∀ X:World,Below (w.alloc (.cells #[.int .i64 op,.int .i64 lk,.int .i64 ln,.string ls,.int .i64 rk,.int .i64 rn,.string rs] 85)).heap.size (w.alloc (.cells #[.int .i64 op,.int .i64 lk,.int .i64 ln,.string ls,.int .i64 rk,.int .i64 rn,.string rs] 85)) X -> Calls Tryz.prog 99 #[.int .i64 op] X fun e w'=>e = .returned (.string (sg5 op)) /\ Below X.heap.size X w'):=fun X hX=>sign5_any op X (hO.fr (P:=fun _=>False) (Fr.of (HB0.out.trans (hX.mono HB0.out.size))) fun h=>h)
 obtain ⟨pl,hpl⟩:∃ p,pt5 ⟨lk,ln,ls⟩ = p:=⟨_,rfl⟩
 obtain ⟨pr,hpr⟩:∃ p,pt5 ⟨rk,rn,rs⟩ = p:=⟨_,rfl⟩
 obtain ⟨sg,hsg⟩:∃ p,sg5 op = p:=⟨_,rfl⟩
 rw [hpl] at HPL l1 ⊢
 rw [hpr] at HPR l2 ⊢
 rw [hsg] at HSG l3 ⊢
 obtain ⟨A1,hA1⟩:∃ A,pl ++ (⟨#[32]⟩:ByteArray) = A:=⟨_,rfl⟩
 have s1:A1.size <= 301:=by rw [<- hA1,ByteArray.size_append];have:(⟨#[32]⟩:ByteArray).size = 1:=rfl;omega
 rw [hA1]
 obtain ⟨A2,hA2⟩:∃ A,A1 ++ sg = A:=⟨_,rfl⟩
 have s2:A2.size <= 303:=by rw [<- hA2,ByteArray.size_append];omega
 rw [hA2]
 obtain ⟨A3,hA3⟩:∃ A,A2 ++ (⟨#[32]⟩:ByteArray) = A:=⟨_,rfl⟩
 have s3:A3.size <= 304:=by rw [<- hA3,ByteArray.size_append];have:(⟨#[32]⟩:ByteArray).size = 1:=rfl;omega
 rw [hA3]
 obtain ⟨A4,hA4⟩:∃ A,A3 ++ pr = A:=⟨_,rfl⟩
 rw [hA4]
 have g1:¬ 9223372036854775807 < pl.size + 1:=by omega
 have g2:¬ 9223372036854775807 < A1.size + sg.size:=by omega
 have g3:¬ 9223372036854775807 < A2.size + 1:=by omega
 have g4:¬ 9223372036854775807 < A3.size + pr.size:=by omega
 clear hl hr hE hO hpl hpr hsg l1 l2 l3 s1 s2 s3
 revert HB0 HX0 HPL HPR HSG
 generalize hW0:w.alloc (.cells #[.int .i64 op,.int .i64 lk,.int .i64 ln,.string ls,.int .i64 rk,.int .i64 rn,.string rs] 85) = W0
 intro HB0 HX0 HPL HPR HSG
 have HW0:=hm7 hW0
 clear hW0
 show Calls Tryz.prog 59 #[.agg #[.int .i64 op,.int .i64 lk,.int .i64 ln,.string ls,.int .i64 rk,.int .i64 rn,.string rs]] w _
 go_enter Tryz.func59,Tryz.ntmps59
 go_upto_region 1 with fail
 rw [HW0.out]
 clear HW0
 refine wp_region_held_drew (S:=fun w'=>Below W0.heap.size W0 w') (by kernel_rfl) (by exact below_drewN (Below.refl _ _) 1) (fun hH=>?_)
 revert hH
 generalize hV0:W0.drew = V0
 intro hH
 clear hV0
 refine wTl 0 (.pointer (some ⟨w.heap.size,1,none⟩)) rfl (by kernel_rfl) (fun _ _ _ h=>h) rfl (fun w' h=>by clear h;go_simp) hH ?_
 simp only [wA,wB,wC,wD]
 refine wTl 1 (.agg #[.int .i64 lk,.int .i64 ln,.string ls]) rfl (by kernel_rfl) (fun _ _ _ h=>h) rfl (fun w' h=>by have hk:=HX0.out.below h;have x1:=hk.cell (i:=1) rfl;have x2:=hk.cell (i:=2) rfl;have x3:=hk.cell (i:=3) rfl;clear h hk;go_simp) hH ?_
 simp only [wA,wB,wC,wD]
 refine wTl 4 (.pointer (some ⟨w.heap.size,0,none⟩)) rfl (by kernel_rfl) (fun _ _ _ h=>h) rfl (fun w' h=>by clear h;go_simp) hH ?_
 simp only [wA,wB,wC,wD]
 refine wTl 5 (.int .i64 op) rfl (by kernel_rfl) (fun _ _ _ h=>h) rfl (fun w' h=>by have hk:=HX0.out.below h;have x0:=hk.cell (i:=0) rfl;clear h hk;go_simp) hH ?_
 simp only [wA,wB,wC,wD]
 refine wTl 9 (.pointer (some ⟨w.heap.size,4,none⟩)) rfl (by kernel_rfl) (fun _ _ _ h=>h) rfl (fun w' h=>by clear h;go_simp) hH ?_
 simp only [wA,wB,wC,wD]
 refine wTl 10 (.agg #[.int .i64 rk,.int .i64 rn,.string rs]) rfl (by kernel_rfl) (fun _ _ _ h=>h) rfl (fun w' h=>by have hk:=HX0.out.below h;have x4:=hk.cell (i:=4) rfl;have x5:=hk.cell (i:=5) rfl;have x6:=hk.cell (i:=6) rfl;clear h hk;go_simp) hH ?_
 simp only [wA,wB,wC,wD]
 refine wRd 2 (by kernel_rfl) rfl (fun K hK=>?_)
 go_simp
 refine (HPL.out _ hH).mono ?_
 rintro e V1 ⟨rfl,hb1⟩
 refine hK.out _ _ (hH.trans (hb1.mono hH.size)) (fun hH=>?_)
 clear hK hb1
 try simp only [wA,wB,wC,wD]
 refine wTl 3 (.string A1) rfl (by kernel_rfl) (fun _ _ _ h=>h) rfl (fun w' h=>by clear h;go_simp) hH ?_
 simp only [wA,wB,wC,wD]
 refine wRd 6 (by kernel_rfl) rfl (fun K hK=>?_)
 go_simp
 refine (HSG.out _ hH).mono ?_
 rintro e V2 ⟨rfl,hb2⟩
 refine hK.out _ _ (hH.trans (hb2.mono hH.size)) (fun hH=>?_)
 clear hK hb2
 try simp only [wA,wB,wC,wD]
 refine wTl 7 (.string A2) rfl (by kernel_rfl) (fun _ _ _ h=>h) rfl (fun w' h=>by clear h;go_simp) hH ?_
 simp only [wA,wB,wC,wD]
 refine wTl 8 (.string A3) rfl (by kernel_rfl) (fun _ _ _ h=>h) rfl (fun w' h=>by clear h;go_simp) hH ?_
 simp only [wA,wB,wC,wD]
 refine wRd 11 (by kernel_rfl) rfl (fun K hK=>?_)
 go_simp
 refine (HPR.out _ hH).mono ?_
 rintro e V3 ⟨rfl,hb3⟩
 refine hK.out _ _ (hH.trans (hb3.mono hH.size)) (fun hH=>?_)
 clear hK hb3
 try simp only [wA,wB,wC,wD]
 refine wTl 12 (.string A4) rfl (by kernel_rfl) (fun _ _ _ h=>h) rfl (fun w' h=>by clear h;go_simp) hH ?_
 simp only [wA,wB,wC,wD]
 refine wTl 13 (.string A4) rfl (by kernel_rfl) (fun _ _ _ h=>h) rfl (fun w' h=>by clear h;go_simp) hH ?_
 simp only [wA,wB,wC,wD]
 refine wpAnyH_done (by kernel_rfl) ?_ _
 have HBH:=hm7 (HB0.out.trans (hH.mono HB0.out.size))
 clear hH
 try go_wp2
 go_ret
 exact ⟨rfl,HBH.out⟩
end Go.Proofs.YtcpjiahdaplhlaaGreatDoor

import Derived.Test.YtcpjiahdaplhlaaGreatDoorKR4
import Derived.Test.YtcpjiahdaplhlaaGreatDoorB2
import Derived.Test.YtcpjiahdaplhlaaGreatDoorK24B
import Derived.Deep.RegionWith
import Derived.Test.YtcpjiahdaplhlaaGreatDoorK37
import Derived.Laws.AppendOwnNone
import Derived.Laws.AppendOwn
namespace Go.Proofs.YtcpjiahdaplhlaaGreatDoor
open Go.RowKit
theorem qle_lt:∀ (l:List Int) (q:Nat),q < le_ l -> ∃ d y,l.drop q = d :: y /\ ¬ d = 10
 | [],q,h=>by simp [le_] at h
 | c :: l,q,h=>by
  by_cases e:c = 10
  ·rw [le_yes e] at h;omega
  ·rw [le_no e] at h
   cases q with
   | zero=>exact ⟨c,l,rfl,e⟩
   | succ q=>exact qle_lt l q (by omega)
theorem qle_next:∀ (l:List Int),l.drop (le_ l) = [] ∨ ∃ y,l.drop (le_ l) = 10 :: y
 | []=>Or.inl rfl
 | c :: l=>by
  by_cases e:c = 10
  ·rw [le_yes e];exact Or.inr ⟨l,by rw [e];rfl⟩
  ·rw [le_no e];exact qle_next l
set_option maxRecDepth 20000 in
set_option maxHeartbeats 2000000 in
theorem qcut_any (s:ByteArray) (most:Int) (hs:s.size <= 9000000) (w:World) (hE:QOk w) :
  Calls Tryz.prog 65 #[.string s,.int .i64 most] w (KPost w (cutL (blK s) most)):=by
 unfold cutL
 rw [bl_len]
 have HE:Hid (QOk w):=hE
 clear hE
 by_cases hm:most < (s.size:Int)
 ·rw [if_pos hm]
  go_enter Tryz.func65,Tryz.ntmps65
  go_upto_region 1 with fail
  have fx:=Fx.start w
  revert fx
  generalize w.alloc (.cells #[.int .i64 0,.int .i64 0] 26) = W1
  intro fx
  have HFX:Hid (Fx w W1):=fx
  obtain ⟨b0,b1,b2,b3⟩:=two fx.f
  clear fx
  go_wp2
  exact bodyPost_ret (v:=.tuple #[.slice none 0 0,.agg #[.int .i64 41,.int .i64 0]]) (HFX.out.res Tryz.results65 _ _ 41 0 rfl rfl) rfl ⟨_,rfl,OwnK.nil _ _,HFX.out.bel 41 0⟩
 ·rw [if_neg hm]
  obtain ⟨R,hR⟩:∃ R,ct (s.size + 1) (blK s) 0 [] = R:=⟨_,rfl⟩
  have HR0:Hid (ct (s.size + 1) (blK s) 0 [] = R):=hR
  rw [hR]
  clear hR
  go_enter Tryz.func65,Tryz.ntmps65
  go_upto_region 1 with fail
  have fx:=Fx.start w
  revert fx
  generalize w.alloc (.cells #[.int .i64 0,.int .i64 0] 26) = W1
  intro fx
  have HFX0:Hid (Fx w W1):=fx
  clear fx
  go_wp2
  go_loopg [6,7] s.size (fun g u i wr=>∃ (off f:Nat) (acc:List Tk),off + g = s.size /\ i = .int .i64 (off:Int) /\ ((blK s).drop off).length < f /\ ct f ((blK s).drop off) off acc = R /\ acc.length <= off /\ OwnK wr (w.heap.size + 1) u acc /\ Fx w wr)
  case atStart=>exact ⟨0,s.size + 1,[],by omega,rfl,by rw [List.drop_zero,bl_len];omega,by rw [List.drop_zero];exact HR0.out,by simp,OwnK.nil _ _,HFX0.out⟩
  case round=>
   obtain ⟨off,f,acc,hg,rfl,hf,hr,hlen,ho,fx⟩:=hrel
   have hbz:=fx.lt
   have HFX:Hid (Fx w wr):=fx
   have HO:Hid (OwnK wr (w.heap.size + 1) u6 acc):=ho
   have HR:Hid (ct f ((blK s).drop off) off acc = R):=hr
   have HF:Hid (((blK s).drop off).length < f):=hf
   have HEr:Hid (QOk wr):=HE.out.later fx.b
   obtain ⟨b0,b1,b2,b3⟩:=two fx.f
   obtain ⟨f,rfl⟩:∃ f',f = f' + 1:=⟨f - 1,by omega⟩
   clear fx ho hr hf HR0 HFX0 HE
   cases gk with
   | succ g=>
    have hlt:off < s.size:=by omega
    have hidx:=run_index_atK s off hlt (off:Int) rfl
    have i1:(off:Int) < (s.size:Int):=by omega
    have HD:Hid ((blK s).drop off = atK_ s off :: (blK s).drop (off + 1)):=bl_drop hlt
    have HL:Hid (((blK s).drop (off + 1)).length = s.size - (off + 1)):=by show _ = _;rw [List.length_drop,bl_len]
    have ct1:=fun (X:World) (h:QOk X)=>qone_any s off hlt hs X h
    rw [HD.out] at HR HF ct1
    rw [ct_cons] at HR
    obtain ⟨r,hrr⟩:∃ r,(blK s).drop (off + 1) = r:=⟨_,rfl⟩
    have HRd:Hid ((blK s).drop (off + 1) = r):=hrr
    rw [hrr] at HR HF ct1 HL HD
    obtain ⟨c,hc⟩:∃ c,atK_ s off = c:=⟨_,rfl⟩
    rw [hc] at hidx HR HF ct1 HD
    clear hrr hc
    by_cases q1:c = 32 ∨ c = 9 ∨ c = 10 ∨ c = 13
    ·have hR:=HR.out
     rw [if_pos q1] at hR
     have HRR:Hid (ct f ((blK s).drop (off + 1)) (off + 1) acc = R):=by show _ = R;rw [HRd.out];exact hR
     have HF2:Hid (((blK s).drop (off + 1)).length < f):=by
      have h:=HF.out;show _ < f;rw [HRd.out];simp only [List.length_cons] at h;omega
     clear hR HR HF ct1 HD HL HRd
     rcases q1 with rfl | rfl | rfl | rfl <;>
     ·go_wp2
      go_roundg g
      case measure=>omega
      case rel=>exact ⟨off + 1,f,acc,by omega,by go_num,HF2.out,HRR.out,by omega,HO.out,HFX.out⟩
    ·have hR:=HR.out
     rw [if_neg q1] at hR
     have n1:(c == 32) = false:=beq_eq_false_iff_ne.2 (by omega)
     have n2:(c == 9) = false:=beq_eq_false_iff_ne.2 (by omega)
     have n3:(c == 10) = false:=beq_eq_false_iff_ne.2 (by omega)
     have n4:(c == 13) = false:=beq_eq_false_iff_ne.2 (by omega)
     by_cases q2:c = 37
     ·rw [if_pos q2] at hR
      have hle:=le_le (c :: r)
      have hle1:1 <= le_ (c :: r):=by rw [le_no (by omega)];omega
      have n5:(c == 37) = true:=by simp [q2]
      have hlo:∀ q,q < le_ (c :: r) -> ∃ d y,(blK s).drop (off + q) = d :: y /\ ¬ d = 10:=fun q hq=>by
       have:=qle_lt (c :: r) q hq
       rwa [<- HD.out,List.drop_drop] at this
      have hhi:=qle_next (c :: r)
      rw [<- HD.out,List.drop_drop] at hhi
      rw [HD.out] at hhi
      have hll:=HL.out
      simp only [List.length_cons] at hle
      have HLo:Hid (∀ q,q < le_ (c :: r) -> off + q < s.size /\ ¬ atK_ s (off + q) = 10):=fun q hq=>by
       obtain ⟨d,y,e1,e2⟩:=hlo q hq
       have hlt2:off + q < s.size:=by omega
       rw [bl_drop hlt2] at e1
       exact ⟨hlt2,by rw [(List.cons.inj e1).1];exact e2⟩
      have HHi:Hid (off + le_ (c :: r) = s.size ∨ (off + le_ (c :: r) < s.size /\ atK_ s (off + le_ (c :: r)) = 10)):=by
       rcases hhi with e1 | ⟨y,e1⟩
       ·left
        have:=congrArg List.length e1
        rw [List.length_drop,bl_len] at this
        simp at this;omega
       ·right
        have hlt2:off + le_ (c :: r) < s.size:=by
         have:=congrArg List.length e1
         rw [List.length_drop,bl_len] at this
         simp at this;omega
        rw [bl_drop hlt2] at e1
        exact ⟨hlt2,(List.cons.inj e1).1⟩
      obtain ⟨m,hm'⟩:∃ m,le_ (c :: r) = m:=⟨_,rfl⟩
      rw [hm'] at hR hle hle1 HLo HHi
      have HRR:Hid (ct f ((blK s).drop (off + m)) (off + m) acc = R):=by show _ = R;rw [<- hR, <- HD.out,List.drop_drop]
      have HF2:Hid (((blK s).drop (off + m)).length < f):=by
       have h:=HF.out;show _ < f;rw [List.length_drop,bl_len];simp only [List.length_cons] at h;omega
      have hm2:off + m <= s.size:=by omega
      clear hR HR HF ct1 HD HL HRd q1 q2 hm' hll hlo hhi
      go_upto_region 10 with fail
      go_loopg [7] m (fun h i2 wr2=>∃ q:Nat,q + h = m /\ i2 = .int .i64 ((off + q:Nat):Int) /\ wr2 = wr)
      case atStart=>exact ⟨0,by omega,rfl,rfl⟩
      case round=>
       obtain ⟨q,hq,rfl,rfl⟩:=hrel
       obtain ⟨E,hE⟩:∃ E:Int,((off + q:Nat):Int) = E:=⟨_,rfl⟩
       have HE0:Hid (((off + q:Nat):Int) = E):=hE
       rw [hE]
       cases gk with
       | succ h=>
        have hql:=HLo.out q (by omega)
        have hix:=run_index_atK s (off + q) hql.1 E hE.symm
        have j1:E < (s.size:Int):=by omega
        have j0:0 <= E:=by omega
        have j9:E < 4611686018427387904:=by omega
        have n6:(atK_ s (off + q) == 10) = false:=beq_eq_false_iff_ne.2 hql.2
        have n7:(atK_ s (off + q) != 10) = true:=by rw [bne,n6];rfl
        clear hql hE
        go_wp2
        go_roundg h
        case measure=>omega
        case rel=>exact ⟨q + 1,by omega,by have:=HE0.out;go_num,rfl⟩
       | zero=>
        obtain rfl:q = m:=by omega
        rcases HHi.out with h5 | ⟨h5,h6⟩
        ·have j1:¬ E < (s.size:Int):=by omega
         clear h5 hE
         go_wp2
         go_roundg (s.size - (off + q))
         case measure=>omega
         case rel=>exact ⟨off + q,f,acc,by omega,by rw [HE0.out],HF2.out,HRR.out,by omega,HO.out,HFX.out⟩
        ·have hix:=run_index_atK s (off + q) h5 E hE.symm
         rw [h6] at hix
         have j1:E < (s.size:Int):=by omega
         clear h5 h6 hE
         go_wp2
         go_roundg (s.size - (off + q))
         case measure=>omega
         case rel=>exact ⟨off + q,f,acc,by omega,by rw [HE0.out],HF2.out,HRR.out,by omega,HO.out,HFX.out⟩
     ·rw [if_neg q2] at hR
      have n5:(c == 37) = false:=beq_eq_false_iff_ne.2 q2
      have htl:=tok_len c r
      have hll:=HL.out
      clear q1 q2 HR
      cases et:tok (c :: r) with
      | bad e o=>
       rw [et] at hR ct1
       have hne:=htl.2 e o et
       have n6:(e == 0) = false:=beq_eq_false_iff_ne.2 hne
       have n7:(e != 0) = true:=by rw [bne,n6];rfl
       have HRR:Hid (([],e,((off + o:Nat):Int)) = R):=hR
       obtain ⟨p,hp⟩:∃ p:Int,((off + o:Nat):Int) = p:=⟨_,rfl⟩
       have HP:Hid (((off + o:Nat):Int) = p):=hp
       simp only [TR.v,TR.tk,TR.err,TR.pl,hp] at ct1
       clear hR et htl hp hne
       go_wp2_with (go_at_call 109;refine (ct1 _ HEr.out).mono ?_;rintro e w2 ⟨rfl,hb2⟩;have HB2:Hid (Below _ _ _):=hb2;clear b0 b1 b2 b3;obtain ⟨b0,b1,b2,b3⟩:=two (HFX.out.later hb2).f;clear hb2)
       have bY:=below2K w2 (.cells #[.int .i64 0,.string ⟨#[]⟩,.int .i64 0,.int .i64 0,.int .i64 0] 64) (.cells #[.int .i64 e,.int .i64 p] 26)
       have fG:=BlkK.new2 w2 #[.int .i64 e,.int .i64 p] 26 (.cells #[.int .i64 0,.string ⟨#[]⟩,.int .i64 0,.int .i64 0,.int .i64 0] 64)
       have hfy:=(HFX.out.later HB2.out).later bY
       revert bY fG hfy
       generalize (w2.alloc (.cells #[.int .i64 0,.string ⟨#[]⟩,.int .i64 0,.int .i64 0,.int .i64 0] 64)).alloc (.cells #[.int .i64 e,.int .i64 p] 26) = Y
       intro bY fG hfy
       have HFY:Hid (Fx w Y):=hfy
       obtain ⟨g0,g1,g2,g3⟩:=two fG
       clear b0 b1 b2 b3
       obtain ⟨b0,b1,b2,b3⟩:=two hfy.f
       have hrg:R = ([],e,p):=by rw [<- HRR.out,HP.out]
       subst hrg
       clear bY fG hfy hidx ct1 HRR
       go_region
       all_goals
        go_wp2
        exact bodyPost_ret (v:=.tuple #[.slice none 0 0,.agg #[.int .i64 e,.int .i64 p]]) ((HFY.out.later (Below.refl _ _).drew).res Tryz.results65 _ _ e p rfl rfl) rfl ⟨_,rfl,OwnK.nil _ _,(HFY.out.later (Below.refl _ _).drew).bel e p⟩
      | ok k x n len=>
       rw [et] at hR ct1
       have hln:=htl.1 k x n len et
       have hR2:ct f ((blK s).drop (off + len)) (off + len) (acc ++ [⟨k,ofL x,n,off,(off + len:Nat)⟩]) = R:=by
        rw [<- hR];simp only [<- HD.out,List.drop_drop]
       obtain ⟨X,hX⟩:∃ X,ofL x = X:=⟨_,rfl⟩
       obtain ⟨E,hEE⟩:∃ E:Int,((off + len:Nat):Int) = E:=⟨_,rfl⟩
       have HEE:Hid (((off + len:Nat):Int) = E):=hEE
       rw [hX,hEE] at hR2
       have HRR:Hid (ct f ((blK s).drop (off + len)) (off + len) (acc ++ [⟨k,X,n,off,E⟩]) = R):=hR2
       have HF2:Hid (((blK s).drop (off + len)).length < f):=by
        have h:=HF.out;show _ < f;rw [List.length_drop,bl_len];simp only [List.length_cons] at h;omega
       have hm2:off + len <= s.size:=by omega
       simp only [TR.v,TR.tk,TR.err,TR.pl,hX,hEE] at ct1
       clear hR hR2 et htl hX hEE HF HD HL HRd hll
       go_upto_region 15 with (go_at_call 109;refine (ct1 _ HEr.out).mono ?_;rintro e w2 ⟨rfl,hb2⟩;have HB2:Hid (Below _ _ _):=hb2;clear b0 b1 b2 b3;obtain ⟨b0,b1,b2,b3⟩:=two (HFX.out.later hb2).f;clear hb2)
       have bY:=below2K w2 (.cells #[.int .i64 k,.string X,.int .i64 n,.int .i64 off,.int .i64 E] 64) (.cells #[.int .i64 0,.int .i64 0] 26)
       have fG:=BlkK.old w2 #[.int .i64 k,.string X,.int .i64 n,.int .i64 off,.int .i64 E] 64 (.cells #[.int .i64 0,.int .i64 0] 26)
       have hfy:=(HFX.out.later HB2.out).later bY
       have hoy:=(HO.out.later HB2.out).later bY
       revert bY fG hfy hoy
       generalize (w2.alloc (.cells #[.int .i64 k,.string X,.int .i64 n,.int .i64 off,.int .i64 E] 64)).alloc (.cells #[.int .i64 0,.int .i64 0] 26) = Y
       intro bY fG hfy hoy
       have HFY:Hid (Fx w Y):=hfy
       have HOY:Hid (OwnK Y (w.heap.size + 1) u6 acc):=hoy
       have HGY:Hid (BlkK Y w2.heap.size #[.int .i64 k,.string X,.int .i64 n,.int .i64 off,.int .i64 E] 64):=fG
       have hYz:=hfy.lt
       have HNE:Hid (u6.ownBlock ≠ some w2.heap.size):=fun e=>by
        have h1:=(World.ownsRow.lt HO.out _ e).2
        have h2:=HB2.out.size
        omega
       obtain ⟨g0,g1,g2,g3,g4⟩:=fiveK fG
       clear b0 b1 b2 b3 bY fG hfy hoy hidx ct1
       go_wp2_with (at_builtin;refine app_tok rfl _ _ rfl (w.heap.size + 1) u6 acc rfl (HOY.out.later (below1K _ _)) Y.heap.size ⟨k,X,n,off,E⟩ rfl (heap_alloc_new Y _) (by omega) (by simp;omega) ?_;intro v' w3 ho3 hb3 hg3;have HO3:Hid (OwnK w3 (w.heap.size + 1) v' (acc ++ [⟨k,X,n,off,E⟩])):=ho3;have HFX3:Hid (Fx w w3):=((HFY.out.later (below1K _ _)).laterB hb3);have hB3:BlkK w3 w2.heap.size #[.int .i64 k,.string X,.int .i64 n,.int .i64 off,.int .i64 E] 64:=(hg3.block _ (HGY.out.later (below1K _ _)).lt (fun e=>HNE.out e.symm)).trans (HGY.out.later (below1K _ _));clear g0 g1 g2 g3 g4;obtain ⟨g0,g1,g2,g3,g4⟩:=fiveK hB3;clear ho3 hb3 hg3 hB3)
       go_roundg (s.size - (off + len))
       case measure=>omega
       case rel=>exact ⟨off + len,f,_,by omega,by rw [<- HEE.out],HF2.out,HRR.out,by simp;omega,HO3.out,HFX3.out⟩
   | zero=>
    obtain rfl:off = s.size:=by omega
    have hz:¬ ((s.size:Int) < (s.size:Int)):=by omega
    have hR:=HR.out
    rw [bl_drop_end (Nat.le_refl _),ct_end] at hR
    subst hR
    clear HR HF
    go_wp2
    exact bodyPost_ret (v:=.tuple #[u6,.agg #[.int .i64 0,.int .i64 0]]) (HFX.out.res Tryz.results65 _ _ 0 0 rfl rfl) rfl ⟨_,rfl,((HO.out.set rfl).set rfl).low,HFX.out.bel 0 0⟩
end Go.Proofs.YtcpjiahdaplhlaaGreatDoor
namespace Go.Proofs.YtcpjiahdaplhlaaGreatDoor
open Go.RowKit
theorem conv_one (W:World) (c:Int) (h0:0 <= c) (h1:c <= 255):(convert 67 9 (.slice (some ⟨W.heap.size,0,none⟩) 1 1)).run Tryz.prog (W.alloc (.cells #[.int .u8 c] 5)) = .ok (.string (ofL [c])) (W.alloc (.cells #[.int .u8 c] 5)):=
 conv_bytes (OwnB.lit W [c] (by simp)) (by simp) (fun x hx=>by simp at hx;omega)
theorem itB_small (n:Nat) (h:n < 10):itB (n:Int) = ofL [48 + (n:Int)]:=by
 rw [<- ofL_bl (itB (n:Int)),bl_pos,dcs_small h]
theorem itB_big (n:Nat) (h:¬ n < 10):itB ((n / 10:Nat):Int) ++ ofL [48 + ((n % 10:Nat):Int)] = itB (n:Int):=by
 rw [<- ofL_bl (itB (n:Int)),bl_pos,dcs_big h, <- bl_pos, <- ofL_bl (_ ++ _),bl_append,bl_ofL (fun x hx=>by simp at hx;omega)]
theorem itB_neg (n:Nat) (h:1 <= n):(⟨#[45]⟩:ByteArray) ++ itB (n:Int) = itB (-(n:Int)):=by
 rw [<- ofL_bl (itB (-(n:Int))),bl_neg n h, <- bl_pos, <- ofL_bl (_ ++ _),bl_append];rfl
theorem itB_size (n:Int) (h0 : -9223372036854775808 <= n) (h1:n <= 9223372036854775807):(itB n).size <= 21:=by
 have hi:=Lib.itoa_length_le n h0 h1
 have e:(itB n).size = (Lib.itoa n).length:=by show (Lib.itoa n).toArray.size = _;simp
 rw [e];exact hi
theorem itB_min:itB (-9223372036854775808) = ⟨#[45,57,50,50,51,51,55,50,48,51,54,56,53,52,55,55,53,56,48,56]⟩:=by
 have h1:=(canon 18 [57,50,50,51,51,55,50,48,51,54,56,53,52,55,55,53,56,48,56] rfl (by decide) (by decide)).1
 have h2:dv [57,50,50,51,51,55,50,48,51,54,56,53,52,55,55,53,56,48,56] 0 = 9223372036854775808:=by decide
 rw [h2] at h1
 have h3:=bl_neg 9223372036854775808 (by omega)
 rw [h1] at h3
 rw [<- ofL_bl (itB (-9223372036854775808))]
 have h4:blK (itB (-9223372036854775808)) = 45 :: [57,50,50,51,51,55,50,48,51,54,56,53,52,55,55,53,56,48,56]:=h3
 rw [h4];rfl
set_option maxRecDepth 20000 in
set_option maxHeartbeats 2000000 in
theorem qdec_pos:∀ (f n:Nat),n < f -> n < 9223372036854775808 -> ∀ (w:World),Calls Tryz.prog 166 #[.int .i64 (n:Int)] w fun e w'=>e = .returned (.string (itB (n:Int))) /\ Below w.heap.size w w'
 | 0,n,h,_,_=>by omega
 | f + 1,n,h,hb,w=>by
  have c1:=conv_one
  have i0:¬ (n:Int) < 0:=by omega
  by_cases q:n < 10
  ·have i1:(n:Int) < 10:=by omega
   have HI:Hid (itB (n:Int) = ofL [48 + (n:Int)]):=itB_small n q
   have hw1:IntKind.i64.wrap (48 + (n:Int)) = 48 + (n:Int):=by rw [IntKind.wrap_i64];omega
   have hw2:IntKind.u8.wrap (48 + (n:Int)) = 48 + (n:Int):=by rw [IntKind.wrap_u8];omega
   have c2:=fun W=>c1 W (48 + (n:Int)) (by omega) (by omega)
   rw [HI.out]
   clear c1 q
   go_enter Tryz.func166,Tryz.ntmps166
   go_wp2
   go_ret
   exact ⟨rfl,below1K _ _⟩
  ·have i1:¬ (n:Int) < 10:=by omega
   have ih:=qdec_pos f (n / 10) (by omega) (by omega)
   have HI:Hid (itB ((n / 10:Nat):Int) ++ ofL [48 + ((n % 10:Nat):Int)] = itB (n:Int)):=itB_big n q
   have hq:Int.tdiv (n:Int) 10 = ((n / 10:Nat):Int):=by rw [Int.tdiv_eq_ediv_of_nonneg (by omega)];omega
   have hr:Int.tmod (n:Int) 10 = ((n % 10:Nat):Int):=by rw [Int.tmod_eq_emod_of_nonneg (by omega)];omega
   have hw0:IntKind.i64.wrap ((n / 10:Nat):Int) = ((n / 10:Nat):Int):=by rw [IntKind.wrap_i64];omega
   have hw1:IntKind.i64.wrap ((n % 10:Nat):Int) = ((n % 10:Nat):Int):=by rw [IntKind.wrap_i64];omega
   have hw2:IntKind.i64.wrap (48 + ((n % 10:Nat):Int)) = 48 + ((n % 10:Nat):Int):=by rw [IntKind.wrap_i64];omega
   have hw3:IntKind.u8.wrap (48 + ((n % 10:Nat):Int)) = 48 + ((n % 10:Nat):Int):=by rw [IntKind.wrap_u8];omega
   have c2:=fun W=>c1 W (48 + ((n % 10:Nat):Int)) (by omega) (by omega)
   obtain ⟨Q,hQ⟩:∃ Q:Int,((n / 10:Nat):Int) = Q:=⟨_,rfl⟩
   obtain ⟨M,hM⟩:∃ M:Int,((n % 10:Nat):Int) = M:=⟨_,rfl⟩
   obtain ⟨I,hI⟩:∃ I,itB (n:Int) = I:=⟨_,rfl⟩
   rw [hQ] at ih HI hq hw0
   rw [hM] at HI hr hw1 hw2 hw3 c2
   rw [hI] at HI ⊢
   have c3:∀ V V2:World,Below (V.alloc (.cells #[.int .u8 (48 + M)] 5)).heap.size (V.alloc (.cells #[.int .u8 (48 + M)] 5)) V2 -> (convert 67 9 (.slice (some ⟨V.heap.size,0,none⟩) 1 1)).run Tryz.prog V2 = .ok (.string (ofL [48 + M])) V2:=fun V V2 hb=>conv_bytes ((OwnB.lit V [48 + M] (by simp)).later hb) (by simp) (fun x hx=>by simp at hx;omega)
   have hJL:(itB Q).size + (ofL [48 + M]).size <= 9223372036854775807:=by
    have h1:=itB_size Q (by omega) (by omega)
    rw [ofL_size];simp only [List.length_cons,List.length_nil];omega
   obtain ⟨J,hJ⟩:∃ J,itB Q = J:=⟨_,rfl⟩
   obtain ⟨L,hL⟩:∃ L,ofL [48 + M] = L:=⟨_,rfl⟩
   rw [hJ] at HI ih hJL
   rw [hL] at HI hJL
   simp only [hL] at c2 c3
   clear c1 q hQ hM hI hJ hL
   go_enter Tryz.func166,Tryz.ntmps166
   go_upto_region 7 with fail
   refine wp_region_held_drew (S:=fun w'=>Below w.heap.size w w') (by kernel_rfl) (Below.refl _ _).drew (fun hH=>?_)
   revert hH
   generalize w.drew = V
   intro hH
   refine wTl 0 (.int .i64 (n:Int)) rfl (by kernel_rfl) (fun _ _ _ h=>h) rfl (fun w' _=>by go_simp) hH ?_
   simp only [wA,wB,wC,wD]
   refine wTl 1 (.int .i64 Q) rfl (by kernel_rfl) (fun _ _ _ h=>h) rfl (fun w' _=>by go_simp) hH ?_
   simp only [wA,wB,wC,wD]
   refine wTl 3 (.int .i64 (n:Int)) rfl (by kernel_rfl) (fun _ _ _ h=>h) rfl (fun w' _=>by go_simp) hH ?_
   simp only [wA,wB,wC,wD]
   refine wTl 4 (.int .i64 M) rfl (by kernel_rfl) (fun _ _ _ h=>h) rfl (fun w' _=>by go_simp) hH ?_
   simp only [wA,wB,wC,wD]
   refine wTl 5 (.int .i64 (48 + M)) rfl (by kernel_rfl) (fun _ _ _ h=>h) rfl (fun w' _=>by go_simp) hH ?_
   simp only [wA,wB,wC,wD]
   refine wTl 6 (.int .u8 (48 + M)) rfl (by kernel_rfl) (fun _ _ _ h=>h) rfl (fun w' _=>by go_simp) hH ?_
   simp only [wA,wB,wC,wD]
   refine wpAnyH_ready (rs:=[2,7]) (by kernel_rfl) (by simp) ?_
   refine (AllReadyH.cons (o:=⟨_,_,_,_,_,_⟩) rfl (fun K hK=>?_) (AllReadyH.cons (o:=⟨_,_,_,_,_,_⟩) rfl (fun K hK=>?_) AllReadyH.nil))
   ·go_simp
    refine (ih _).mono ?_
    rintro e V1 ⟨rfl,hb⟩
    refine hK.out _ _ (below_stepK hH hb) (fun hH=>?_)
    clear hK K
    clear hb
    refine wRd 7 (by kernel_rfl) rfl (fun K hK=>?_)
    go_simp
    refine hK.out _ _ (hH.alloc hH.size _) (fun hH=>?_)
    clear hK K
    have hcv:=c2 V1
    refine wRd 8 (by kernel_rfl) rfl (fun K hK=>?_)
    go_simp
    refine hK.out _ _ hH (fun hH=>?_)
    clear hK K
    refine wTl 9 (.string (J ++ L)) rfl (by kernel_rfl) (fun _ _ _ h=>h) rfl (fun w' _=>by go_simp) hH ?_
    simp only [wA,wB,wC,wD]
    refine wTl 10 (.string (J ++ L)) rfl (by kernel_rfl) (fun _ _ _ h=>h) rfl (fun w' _=>by go_simp) hH ?_
    simp only [wA,wB,wC,wD]
    refine wpAnyH_done (by kernel_rfl) ?_ _
    go_wp2
    go_ret
    exact ⟨by rw [HI.out];rfl,hH⟩
   ·go_simp
    refine hK.out _ _ (hH.alloc hH.size _) (fun hH=>?_)
    clear hK K
    refine wpAnyH_ready (rs:=[2,8]) (by kernel_rfl) (by simp) ?_
    refine (AllReadyH.cons (o:=⟨_,_,_,_,_,_⟩) rfl (fun K hK=>?_) (AllReadyH.cons (o:=⟨_,_,_,_,_,_⟩) rfl (fun K hK=>?_) AllReadyH.nil))
    ·go_simp
     refine (ih _).mono ?_
     rintro e V2 ⟨rfl,hb⟩
     refine hK.out _ _ (below_stepK hH hb) (fun hH=>?_)
     clear hK K
     have hcv:(convert 67 9 (.slice (some ⟨V.heap.size,0,none⟩) 1 1)).run Tryz.prog V2 = .ok (.string L) V2:=c3 V V2 hb
     clear hb
     refine wRd 8 (by kernel_rfl) rfl (fun K hK=>?_)
     go_simp
     refine hK.out _ _ hH (fun hH=>?_)
     clear hK K
     refine wTl 9 (.string (J ++ L)) rfl (by kernel_rfl) (fun _ _ _ h=>h) rfl (fun w' _=>by go_simp) hH ?_
     simp only [wA,wB,wC,wD]
     refine wTl 10 (.string (J ++ L)) rfl (by kernel_rfl) (fun _ _ _ h=>h) rfl (fun w' _=>by go_simp) hH ?_
     simp only [wA,wB,wC,wD]
     refine wpAnyH_done (by kernel_rfl) ?_ _
     go_wp2
     go_ret
     exact ⟨by rw [HI.out];rfl,hH⟩
    ·have hcv:=c2 V
     go_simp
     refine hK.out _ _ hH (fun hH=>?_)
     clear hK K
     refine wRd 2 (by kernel_rfl) rfl (fun K hK=>?_)
     go_simp
     refine (ih _).mono ?_
     rintro e V2 ⟨rfl,hb⟩
     refine hK.out _ _ (below_stepK hH hb) (fun hH=>?_)
     clear hK K
     clear hb
     refine wTl 9 (.string (J ++ L)) rfl (by kernel_rfl) (fun _ _ _ h=>h) rfl (fun w' _=>by go_simp) hH ?_
     simp only [wA,wB,wC,wD]
     refine wTl 10 (.string (J ++ L)) rfl (by kernel_rfl) (fun _ _ _ h=>h) rfl (fun w' _=>by go_simp) hH ?_
     simp only [wA,wB,wC,wD]
     refine wpAnyH_done (by kernel_rfl) ?_ _
     go_wp2
     go_ret
     exact ⟨by rw [HI.out];rfl,hH⟩
theorem qdecimal_any (n:Int) (h0 : -9223372036854775808 <= n) (h1:n <= 9223372036854775807) (w:World):Calls Tryz.prog 166 #[.int .i64 n] w fun e w'=>e = .returned (.string (itB n)) /\ Below w.heap.size w w':=by
 by_cases q:n < 0
 ·by_cases q2:n = -9223372036854775808
  ·subst q2
   rw [itB_min]
   go_enter Tryz.func166,Tryz.ntmps166
   go_wp2
   go_ret
   exact ⟨rfl,Below.refl _ _⟩
  ·obtain ⟨u,rfl⟩:∃ u:Nat,n = -(u:Int):=⟨n.natAbs,by omega⟩
   have n1:((-(u:Int)) == -9223372036854775808) = false:=beq_eq_false_iff_ne.2 q2
   have ih:=qdec_pos (u + 1) u (by omega) (by omega)
   have HI:Hid ((⟨#[45]⟩:ByteArray) ++ itB (u:Int) = itB (-(u:Int))):=itB_neg u (by omega)
   have hJL:=itB_size (u:Int) (by omega) (by omega)
   have hw:IntKind.i64.wrap (-(-(u:Int))) = (u:Int):=by rw [IntKind.wrap_i64];omega
   obtain ⟨I,hI⟩:∃ I,itB (-(u:Int)) = I:=⟨_,rfl⟩
   obtain ⟨J,hJ⟩:∃ J,itB (u:Int) = J:=⟨_,rfl⟩
   obtain ⟨m,hm⟩:∃ m:Int, -(u:Int) = m:=⟨_,rfl⟩
   rw [hI] at HI ⊢
   rw [hJ] at HI ih hJL
   have hJ1:(⟨#[45]⟩:ByteArray).size + J.size <= 9223372036854775807:=by have:(⟨#[45]⟩:ByteArray).size = 1:=rfl;omega
   have hw2:IntKind.i64.wrap (-m) = (u:Int):=by rw [<- hm];exact hw
   rw [hm] at n1 q ⊢
   clear hw hI hJ hm q2 h0 h1
   go_enter Tryz.func166,Tryz.ntmps166
   go_wp2_with (go_at_call 166;refine (ih _).mono ?_;rintro e w1 ⟨rfl,hb1⟩)
   go_ret
   exact ⟨by rw [HI.out];rfl,hb1⟩
 ·obtain ⟨u,rfl⟩:∃ u:Nat,n = (u:Int):=⟨n.toNat,by omega⟩
  exact qdec_pos (u + 1) u (by omega) (by omega) w
end Go.Proofs.YtcpjiahdaplhlaaGreatDoor
namespace Go.Proofs.YtcpjiahdaplhlaaGreatDoor
open Go.RowKit
def spd (t:Tk):ByteArray:=
 if t.k = 1 ∨ t.k = 2 then t.x else if t.k = 3 then qtB t.x else if t.k = 4 then itB t.n else if t.k = 5 then saysB else sgo t.k
theorem spd_of {t:Tk} {s:ByteArray} (h:spl t = some s):spd t = s:=by
 unfold spl at h
 unfold spd
 by_cases q1:t.k = 1
 ·rw [if_pos q1] at h
  rw [if_pos (Or.inl q1)]
  split at h
  ·exact Option.some.inj h
  ·cases h
 ·rw [if_neg q1] at h
  by_cases q2:t.k = 2
  ·rw [if_pos q2] at h
   rw [if_pos (Or.inr q2)]
   split at h
   ·exact Option.some.inj h
   ·cases h
  ·rw [if_neg q2] at h
   rw [if_neg (by omega)]
   by_cases q3:t.k = 3
   ·rw [if_pos q3] at h ⊢
    split at h
    ·exact Option.some.inj h
    ·cases h
   ·rw [if_neg q3] at h ⊢
    by_cases q4:t.k = 4
    ·rw [if_pos q4] at h ⊢
     split at h
     ·exact Option.some.inj h
     ·cases h
    ·rw [if_neg q4] at h ⊢
     split at h
     ·have e:=Option.some.inj h
      by_cases q5:t.k = 5
      ·rw [if_pos q5]
       rw [q5] at e
       rw [<- e];rfl
      ·rw [if_neg q5];exact e
     ·cases h
theorem cut_spl {t:Tk} {s:ByteArray} (h:spl t = some s) (ho:okt t):cutL (blK s) s.size = ([⟨t.k,t.x,t.n,0,(s.size:Int)⟩],0,0):=by
 obtain ⟨c,y,ec,n1,n2, -, -⟩:=spl_head h
 obtain ⟨ht,hx⟩:=tok_spl (y:=[]) h ho ⟨fun _=>rfl,fun _ r hr=>by cases hr⟩ (fun x hx=>by cases hx)
 rw [List.append_nil] at ht
 have hsz:0 < s.size:=by rw [<- bl_len,ec];simp
 obtain ⟨f,hf⟩:∃ f,s.size = f + 1:=⟨s.size - 1,by omega⟩
 rw [cutL_all]
 have hd:(blK s).drop s.size = []:=List.drop_eq_nil_of_le (by rw [bl_len];exact Nat.le_refl _)
 rw [ec] at ht hd ⊢
 rw [ct_cons,if_neg n1,if_neg n2,ht]
 show ct s.size ((c :: y).drop s.size) (0 + s.size) ([] ++ [⟨t.k,ofL (tbs t),t.n,((0:Nat):Int),((0 + s.size:Nat):Int)⟩]) = _
 rw [hd, <- hx,hf,ct_end];simp
theorem spl_cut {t u:Tk} {s:ByteArray} (h:cutL (blK s) s.size = ([u],0,0)) (hu:u.bar = t.bar) (hsz:s.size <= 9000000):(spl t).isSome = true:=by
 rw [cutL_all] at h
 have hh:=(ct_has (s.size + 1) (blK s) 0 [] 9000000 (bl_byt s) (by rw [bl_len];exact hsz) (fun t ht=>by simp at ht)).1 u (by rw [h];simp)
 rw [<- spl_bar t, <- hu,spl_bar u]
 exact hh.1
theorem spell_ways (t:Tk) (ho:okt t) (hsz:(spd t).size <= 9000000) :
  (∃ T e p,cutL (blK (spd t)) (spd t).size = (T,e,p) /\ spl t = none /\ (¬ e = 0 ∨ (e = 0 /\ ¬ T.length = 1))) ∨
  (∃ u p,cutL (blK (spd t)) (spd t).size = ([u],0,p) /\ ¬ u.bar = t.bar /\ spl t = none) ∨
  ∃ u p,cutL (blK (spd t)) (spd t).size = ([u],0,p) /\ u.bar = t.bar /\ spl t = some (spd t):=by
 obtain ⟨⟨T,e,p⟩,hR⟩:∃ R,cutL (blK (spd t)) (spd t).size = R:=⟨_,rfl⟩
 cases hs:spl t with
 | some s=>
  have e1:=spd_of hs
  rw [e1] at hR ⊢
  have h1:=cut_spl hs ho
  exact Or.inr (Or.inr ⟨_,_,h1,rfl,rfl⟩)
 | none=>
  by_cases he:e = 0
  ·by_cases hl:T.length = 1
   ·obtain ⟨u,rfl⟩:∃ u,T = [u]:=by
     match T,hl with
     | [u],_=>exact ⟨u,rfl⟩
    subst he
    refine Or.inr (Or.inl ⟨u,p,hR,fun hu=>?_,rfl⟩)
    have hp:p = 0:=by
     rw [cutL_all] at hR
     rcases ct_ends ((spd t).size + 1) (blK (spd t)) 0 [] with ⟨e',p',h1,h2⟩ | ⟨T',h1⟩
     ·rw [h1] at hR;simp only [Prod.mk.injEq] at hR;exact absurd hR.2.1 h2
     ·rw [h1] at hR;simp only [Prod.mk.injEq] at hR;exact hR.2.2.symm
    subst hp
    have:=spl_cut hR hu hsz
    rw [hs] at this;cases this
   ·exact Or.inl ⟨T,e,p,hR,rfl,Or.inr ⟨he,hl⟩⟩
  ·exact Or.inl ⟨T,e,p,hR,rfl,Or.inl he⟩
theorem spd_size (t:Tk) (ho:okt t):(spd t).size <= 8000002:=by
 unfold spd
 obtain ⟨h1,h2,h3⟩:=ho
 split
 ·omega
 ·split
  ·have hq:=qtl_len t.x t.x.size
   have e:(qtB t.x).size = (qtl t.x t.x.size).length + 1:=by show (i2b (qtl t.x t.x.size ++ [34])).toArray.size = _;simp [i2b]
   omega
  ·split
   ·have:=itB_size t.n h2 h3;omega
   ·split
    ·decide
    ·have:=sgo_size t.k;omega
theorem qk_sgo (i:Nat) (k:Int) (t:ByteArray) (hk:qkL[i]? = some k) (ht:qsL[i]? = some t):sgo k = t:=by
 have hlt:i < 11:=(List.getElem?_eq_some_iff.1 hk).1
 have hc:i = 0 ∨ i = 1 ∨ i = 2 ∨ i = 3 ∨ i = 4 ∨ i = 5 ∨ i = 6 ∨ i = 7 ∨ i = 8 ∨ i = 9 ∨ i = 10:=by omega
 rcases hc with rfl | rfl | rfl | rfl | rfl | rfl | rfl | rfl | rfl | rfl | rfl <;>
 ·have e1:=Option.some.inj hk
  have e2:=Option.some.inj ht
  rw [<- e1, <- e2];rfl
theorem qk_none (k:Int) (h5:¬ k = 5) (h:∀ i k',i < 11 -> qkL[i]? = some k' -> ¬ k' = k):sgo k = ⟨#[]⟩:=by
 by_cases q:6 <= k /\ k <= 16
 ·exfalso
  have hc:k = 6 ∨ k = 7 ∨ k = 8 ∨ k = 9 ∨ k = 10 ∨ k = 11 ∨ k = 12 ∨ k = 13 ∨ k = 14 ∨ k = 15 ∨ k = 16:=by omega
  rcases hc with rfl | rfl | rfl | rfl | rfl | rfl | rfl | rfl | rfl | rfl | rfl
  ·exact h 3 6 (by omega) rfl rfl
  ·exact h 4 7 (by omega) rfl rfl
  ·exact h 5 8 (by omega) rfl rfl
  ·exact h 6 9 (by omega) rfl rfl
  ·exact h 7 10 (by omega) rfl rfl
  ·exact h 0 11 (by omega) rfl rfl
  ·exact h 8 12 (by omega) rfl rfl
  ·exact h 9 13 (by omega) rfl rfl
  ·exact h 1 14 (by omega) rfl rfl
  ·exact h 10 15 (by omega) rfl rfl
  ·exact h 2 16 (by omega) rfl rfl
 ·by_cases h0:sgo k = ⟨#[]⟩
  ·exact h0
  ·have:=sgo_rng h0;omega
theorem qbare_any (t:Tk) (w:World):Calls Tryz.prog 127 #[t.v] w fun e w'=>e = .returned (Tk.v ⟨t.k,t.x,t.n,0,0⟩) /\ Below w.heap.size w w':=by
 obtain ⟨k,x,n,a,e⟩:=t
 go_enter Tryz.func127,Tryz.ntmps127
 go_wp2
 exact bodyPost_ret (v:=Tk.v ⟨k,x,n,0,0⟩) (by simp [results,Tryz.results127,go_sem]) rfl ⟨rfl,below2K _ _ _⟩
set_option maxRecDepth 20000 in
set_option maxHeartbeats 2000000 in
theorem qspelled_any (t:Tk) (ho:okt t) (w:World) (hQ:QOk w):Calls Tryz.prog 126 #[t.v] w fun e w'=>e = .returned (.string (spd t)) /\ Below w.heap.size w w':=by
 have cq:=qquote_any t.x ho.1
 have cd:=qdecimal_any t.n ho.2.1 ho.2.2
 have HQ:Hid (QOk w):=hQ
 have HS:Hid (spd t = if t.k = 1 ∨ t.k = 2 then t.x else if t.k = 3 then qtB t.x else if t.k = 4 then itB t.n else if t.k = 5 then saysB else sgo t.k):=rfl
 obtain ⟨R,hR⟩:∃ R,spd t = R:=⟨_,rfl⟩
 rw [hR] at HS ⊢
 obtain ⟨k,x,n,a,e⟩:=t
 simp only at cq cd HS
 clear hR ho hQ
 go_enter Tryz.func126,Tryz.ntmps126
 go_upto_region 1 with fail
 have hb1:=below1K w (.cells #[.int .i64 k,.string x,.int .i64 n,.int .i64 a,.int .i64 e] 64)
 have B1:=BlkK.new w #[.int .i64 k,.string x,.int .i64 n,.int .i64 a,.int .i64 e] 64
 revert hb1 B1
 generalize w.alloc (.cells #[.int .i64 k,.string x,.int .i64 n,.int .i64 a,.int .i64 e] 64) = W
 intro hb1 B1
 have HB:Hid (Below w.heap.size w W):=hb1
 have BT:Hid (BlkK W w.heap.size #[.int .i64 k,.string x,.int .i64 n,.int .i64 a,.int .i64 e] 64):=B1
 have HQW:Hid (QOk W):=HQ.out.later hb1
 obtain ⟨c0,c1,c2,c3,c4⟩:=fiveK B1
 clear hb1 B1 HQ
 have hS:=HS.out
 by_cases q1:k = 1
 ·rw [if_pos (Or.inl q1)] at hS
  subst hS
  subst q1
  go_wp2
  go_ret
  exact ⟨rfl,HB.out⟩
 by_cases q2:k = 2
 ·rw [if_pos (Or.inr q2)] at hS
  subst hS
  subst q2
  go_wp2
  go_ret
  exact ⟨rfl,HB.out⟩
 rw [if_neg (by omega)] at hS
 by_cases q3:k = 3
 ·rw [if_pos q3] at hS
  subst hS
  subst q3
  go_wp2_with (go_at_call 53;refine (cq _).mono ?_;rintro e w1 ⟨rfl,hb1⟩)
  go_ret
  exact ⟨rfl,below_stepK HB.out hb1⟩
 rw [if_neg q3] at hS
 by_cases q4:k = 4
 ·rw [if_pos q4] at hS
  subst hS
  subst q4
  go_wp2_with (go_at_call 166;refine (cd _).mono ?_;rintro e w1 ⟨rfl,hb1⟩)
  go_ret
  exact ⟨rfl,below_stepK HB.out hb1⟩
 rw [if_neg q4] at hS
 by_cases q5:k = 5
 ·rw [if_pos q5] at hS
  subst hS
  subst q5
  go_wp2
  go_ret
  exact ⟨rfl,HB.out⟩
 rw [if_neg q5] at hS
 have m1:(k == 1) = false:=beq_eq_false_iff_ne.2 q1
 have m2:(k == 2) = false:=beq_eq_false_iff_ne.2 q2
 have m3:(k == 3) = false:=beq_eq_false_iff_ne.2 q3
 have m4:(k == 4) = false:=beq_eq_false_iff_ne.2 q4
 have m5:(k == 5) = false:=beq_eq_false_iff_ne.2 q5
 have HSR:Hid (R = sgo k):=hS
 have H5:Hid (¬ k = 5):=q5
 clear hS q1 q2 q3 q4 q5 cq cd
 go_upto_region 12 with fail
 clear c0 c1 c2 c3 c4
 go_loopg [3] 11 (fun g i wr=>∃ m:Nat,m + g = 11 /\ i = .int .i64 (m:Int) /\ (∀ i k',i < m -> qkL[i]? = some k' -> ¬ k' = k) /\ Below W.heap.size W wr)
 case atStart=>exact ⟨0,by omega,rfl,fun _ _ h=>by omega,Below.refl _ _⟩
 case round=>
  obtain ⟨m,hmg,rfl,hno,hbr⟩:=hrel
  have HNO:Hid (∀ i k',i < m -> qkL[i]? = some k' -> ¬ k' = k):=hno
  have HBr:Hid (Below W.heap.size W wr):=hbr
  have hqr:=HQW.out.later hbr
  obtain ⟨c0,c1,c2,c3,c4⟩:=fiveK (BT.out.later hbr)
  clear hno
  cases gk with
  | succ g=>
   have hm1:(m:Int) < 11:=by omega
   have hm0:(0:Int) <= (m:Int):=by omega
   have hmlt:m < qsL.length:=by show m < 11;omega
   obtain ⟨t,ht⟩:∃ t,qsL[m]? = some t:=⟨_,List.getElem?_eq_getElem hmlt⟩
   obtain ⟨k',hk⟩:∃ k,qkL[m]? = some k:=⟨_,List.getElem?_eq_getElem (show m < qkL.length from hmlt)⟩
   have cs:=hqr.s m t ht
   have ck:=hqr.k m k' hk
   by_cases q:k' = k
   ·have HT:Hid (sgo k = t):=by show _ = _;rw [<- q];exact qk_sgo m k' t hk ht
    subst q
    clear ht hk hbr
    go_upto_region 14 with fail
    go_quiet (fail)
    have hbx:=below_drewN (Below.refl wr.heap.size wr) nq
    have cs2:=cell_stepK hbx (World.block_lt_of_cell? wr _ cs) cs
    clear c0 c1 c2 c3 c4 cs ck
    go_wp2
    go_ret
    exact ⟨by rw [HSR.out,HT.out];rfl,below_stepK HB.out (below_stepK HBr.out hbx)⟩
   ·have HN2:Hid (∀ i k',i < m + 1 -> qkL[i]? = some k' -> ¬ k' = k):=fun i k2 hi hk2=>by
     rcases Nat.lt_or_ge i m with h2 | h2
     ·exact HNO.out i k2 h2 hk2
     ·obtain rfl:i = m:=by omega
      rw [hk] at hk2;cases hk2;exact q
    have nk:(k' == k) = false:=beq_eq_false_iff_ne.2 q
    clear ht hk hbr q cs
    go_upto_region 14 with fail
    go_quiet (fail)
    go_wp2
    go_roundg g
    case measure=>omega
    case rel=>exact ⟨m + 1,by omega,by go_num,HN2.out,below_drewN HBr.out _⟩
  | zero=>
   obtain rfl:m = 11:=by omega
   have HE:Hid (sgo k = ⟨#[]⟩):=qk_none k H5.out HNO.out
   clear hqr hbr
   go_wp2
   go_ret
   exact ⟨by rw [HSR.out,HE.out];rfl,below_stepK HB.out HBr.out⟩
end Go.Proofs.YtcpjiahdaplhlaaGreatDoor

import Derived.Test.YtcpjiahdaplhlaaGreatDoorSY22
import Derived.Test.YtcpjiahdaplhlaaGreatDoorK9
import Derived.Defers
import Derived.Recover
namespace Go.Proofs.YtcpjiahdaplhlaaGreatDoor
open Go.RowKit
attribute [local go_sem ↓] Go.wp_at_zero Go.wp_at_succ
def pr5 (T:List Tk) (L:Nat):Nat -> List Ck -> Nat -> Except (Int × Int) (List Ck)
 | 0,acc,_=>.ok acc
 | f + 1,acc,nx=>if nx < T.length then match rl5 T L nx with
   | .error e=>.error e
   | .ok (ks,n')=>pr5 T L f (acc ++ ks) n'
  else .ok acc
theorem rl5_nx {T:List Tk} {L nx n':Nat} {ks:List Ck} (hx:nx <= T.length) (h:rl5 T L nx = .ok (ks,n')):nx < n' /\ n' <= T.length:=by
 unfold rl5 at h
 cases hr:rh5 T L (s05 nx) with
 | error e=>rw [hr] at h;cases h
 | ok p=>
  obtain ⟨⟨a,m⟩,s⟩:=p
  rw [hr] at h
  have h1:(if 64 < m.length then (.error (53,pl5 T L (s05 nx)):Except (Int × Int) (List Ck × Nat)) else match cls5 (pl5 T L (s05 nx)) a m [] with
   | .error e=>.error e
   | .ok ks=>.ok (ks,s.nx)) = .ok (ks,n'):=h
  have hs:s.nx = n':=by
   by_cases hm:64 < m.length
   ·rw [if_pos hm] at h1;cases h1
   ·rw [if_neg hm] at h1
    cases hc:cls5 (pl5 T L (s05 nx)) a m [] with
    | error e=>rw [hc] at h1;cases h1
    | ok k=>rw [hc] at h1;exact congrArg Prod.snd (Except.ok.inj h1)
  unfold rh5 at hr
  obtain ⟨b,s1,h2,h3⟩:=and5_inv hr
  obtain ⟨m2,s2,h4,h5⟩:=and5_inv h3
  obtain ⟨t,s3,h6,h7⟩:=and5_inv h5
  obtain ⟨g1,n1,q1⟩:=wg_at T L _ _ _ (gs_05 hx) h2
  obtain ⟨g2,n2,q2⟩:=wg_bd T L _ _ _ g1 h4
  obtain ⟨g3,n3,q3⟩:=wg_tk T L _ _ _ _ g2 h6
  have e2:s3 = s:=congrArg Prod.snd (Except.ok.inj h7)
  have h8:=q1.1
  have h9:(s05 nx).nx = nx:=rfl
  rw [h9] at n1 h8
  have h10:=g3.a
  rw [e2] at n3 h10
  omega
def PrP (g:Nat) (w:World) (R:Except (Int × Int) (List Ck)) (e:Ending) (w':World):Prop:=
 Fr (fun b=>b = g) w w' /\ match R with
  | .error f=>e = .panicked [pF f]
  | .ok ks=>∃ v l,e = .returned v /\ l.map Cm.key = ks /\ RL (fun b=>w.heap.size <= b) w' v l
theorem row5_pos {w:World} {base n m:Nat} {e:TypeId} {v:Value} {xs:List Value} (h:w.ownsRow base e n v m xs) (h0:0 < m):∃ g cap,v = .slice (some ⟨g,0,none⟩) m cap:=by
 rcases h.2 with ⟨-,hn⟩ | ⟨g,cap,cur,hv, -⟩
 ·omega
 ·exact ⟨g,cap,hv⟩
theorem RuP.err {g N:Nat} {tv:Value} {T:List Tk} {L:Nat} {w:World} {R:Except (Int × Int) (List Ck × Nat)} {f:Int × Int} {fn:Nat} {args:Array Value} (h:Calls Tryz.prog fn args w (RuP g N tv T L w R)) (hr:R = .error f):Calls Tryz.prog fn args w fun e w'=>e = .panicked [pF f] /\ Fr (fun b=>b = g) w w':=by
 subst hr
 exact h.mono fun e w' ⟨h1,h2⟩=>⟨h2,h1⟩
theorem RuP.ok {g N:Nat} {tv:Value} {T:List Tk} {L:Nat} {w:World} {R:Except (Int × Int) (List Ck × Nat)} {ks:List Ck} {nx:Nat} {fn:Nat} {args:Array Value} (h:Calls Tryz.prog fn args w (RuP g N tv T L w R)) (hr:R = .ok (ks,nx)):Calls Tryz.prog fn args w fun e w'=>∃ v l,e = .returned v /\ l.map Cm.key = ks /\ l ≠ [] /\ l.length <= 64 /\ RL (fun b=>w.heap.size <= b) w' v l /\ PB g N tv T L w' nx /\ Fr (fun b=>b = g) w w':=by
 subst hr
 exact h.mono fun e w' ⟨h1,v,l,h2,h3,h4,h5,h6,h7⟩=>⟨v,l,h2,h3,h4,h5,h6,h7,h1⟩
set_option maxRecDepth 20000 in
set_option maxHeartbeats 4000000 in
theorem program5_any (g N:Nat) (tv:Value) (T:List Tk) (L:Nat) (w:World) (h:PB g N tv T L w 0) :
  Calls Tryz.prog 40 #[.pointer (some ⟨g,0,none⟩)] w (PrP g w (pr5 T L (T.length + 1) [] 0)):=by
 have HPB:=hm7 h
 have hT:=h.ok.l
 have HGW:Hid (g < w.heap.size):=Nat.lt_of_lt_of_le h.gN h.Nw
 have HNW:=hm7 h.Nw
 have HRU:Hid (∀ (X:World) (nx:Nat),PB g N tv T L X nx -> Calls Tryz.prog 81 #[.pointer (some ⟨g,0,none⟩)] X (RuP g N tv T L X (rl5 T L nx))):=fun X nx hX=>rule5_any g N tv T L nx X hX
 obtain ⟨R,hR⟩:∃ R,pr5 T L (T.length + 1) [] 0 = R:=⟨_,rfl⟩
 rw [hR]
 have HR:=hm7 hR
 obtain ⟨ta,tc,htv, -⟩:=h.t
 subst htv
 obtain ⟨tn,htn⟩:∃ tn,T.length = tn:=⟨_,rfl⟩
 rw [htn] at HPB HRU hT
 have HTN:=hm7 htn
 clear h hR htn
 go_enter Tryz.func40,Tryz.ntmps40
 go_wp2
 go_loopg [3] (tn + 1) (fun f u wr=>∃ (nx:Nat) (l:List Cm),pr5 T L f (l.map Cm.key) nx = R /\ tn < nx + f /\ nx <= tn /\ l.length <= 64 * nx /\ wr.ownsRow w.heap.size 53 7 u l.length (l.flatMap cc5) /\ (∀ d ∈ l,KF (fun b=>w.heap.size <= b /\ u.ownBlock ≠ some b) wr d) /\ PB g N (.slice ta tn tc) T L wr nx /\ Fr (fun b=>b = g) w wr)
 case atStart=>exact ⟨0,[],by have:=HR.out;rw [HTN.out] at this;exact this,by omega,Nat.zero_le _,Nat.zero_le _,World.ownsRow_nil _ _ _ _,(fun d hd=>by cases hd),HPB.out,Fr.refl _ _⟩
 case round=>
  obtain ⟨nx,l,hRj,hfl,hnx,hll,ho,hkf,hpb,hfr⟩:=hrel
  have HRJ:=hm7 hRj
  have HKF:=hm7 hkf
  have HPJ:=hm7 hpb
  have HFJ:=hm7 hfr
  obtain ⟨mv,vs,hb⟩:=hpb.b
  have c0:=hb.cell (i:=0) rfl
  have c1:=hb.cell (i:=1) rfl
  obtain ⟨ua,uc,huf, -⟩:=row7_form ho
  obtain ⟨ln,hln⟩:∃ ln,l.length = ln:=⟨_,rfl⟩
  rw [hln] at huf ho hll
  have HLN:=hm7 hln
  have HO:=hm7 ho
  subst huf
  have hsz:=hfr.size
  clear hRj hkf hpb hfr hb ho hln HR HPB
  cases gk with
  | zero=>omega
  | succ f=>
   by_cases hlt:nx < tn
   ·have hlt2:(nx:Int) < (tn:Int):=by omega
    have HRN:Hid ((match rl5 T L nx with
      | .error e=>.error e
      | .ok (ks,n')=>pr5 T L f (l.map Cm.key ++ ks) n') = R):=by
     have:=HRJ.out
     unfold pr5 at this
     rw [if_pos (by rw [HTN.out];exact hlt)] at this
     exact this
    clear HRJ
    go_wp2
    go_quiet (fail)
    clear c0 c1
    have HDB:Hid (Below wr.heap.size wr (wr.drewN nq)):=below_drewN (Below.refl _ wr) _
    revert HDB
    generalize wr.drewN nq = wd
    intro HDB
    have HPD:=hm7 (HPJ.out.below HDB.out)
    have HRX:=hm7 (HRU.out wd nx HPD.out)
    have hszd:w.heap.size <= wd.heap.size:=Nat.le_trans hsz HDB.out.size
    cases hr:rl5 T L nx with
    | error e0=>
     have HRE:Hid (R = .error e0):=by have:=HRN.out;rw [hr] at this;exact this.symm
     have HE:=hm7 (RuP.err HRX.out hr)
     clear hr HRN HRX
     go_wp2_with (go_at_call 81;refine HE.out.mono ?_;rintro e W1 ⟨rfl,hf⟩;have HF1:=hm7 ((HFJ.out.then HDB.out).tr hf);clear hf)
     refine ⟨rfl, ?_⟩
     rw [HRE.out]
     exact ⟨HF1.out,rfl⟩
    | ok p=>
     obtain ⟨ks,n'⟩:=p
     have HRN2:Hid (pr5 T L f (l.map Cm.key ++ ks) n' = R):=by have:=HRN.out;rw [hr] at this;exact this
     have HE:=hm7 (RuP.ok HRX.out hr)
     obtain ⟨hn1,hn2⟩:=rl5_nx (by rw [HTN.out];exact hnx) hr
     rw [HTN.out] at hn2
     clear hr HRN HRX
     go_wp2_with (first
      | (go_at_call 81;refine HE.out.mono ?_;rintro e W1 ⟨v1,l1,rfl,hk1,hne,hl64,hrl,hpb,hf⟩;have hpos:0 < l1.length:=List.length_pos_iff.2 hne;obtain ⟨vg,vc,hvf⟩:=row5_pos hrl.o hpos;generalize hl1:l1.length = k1 at hvf hl64 hpos;subst hvf;have HL1:=hm7 hl1;have HK1:=hm7 hk1;have HRL:=hm7 hrl;have HP1:=hm7 hpb;have HF1:=hm7 ((HFJ.out.then HDB.out).tr hf);have HO1:=hm7 (row7_fr (row7_below HO.out HDB.out) hf fun b hb e=>by have:=(World.ownsRow.lt HO.out b hb).1;have:=HGW.out;omega);have HKF1:Hid (∀ d ∈ l,KF (fun b=>w.heap.size <= b /\ (Value.slice ua ln uc).ownBlock ≠ some b) W1 d):=(fun d hd=>((HKF.out d hd).below HDB.out).fr hf fun b hb e=>by have:=hb.1;have:=HGW.out;omega);have hsz1:=hf.size;clear hk1 hne hrl hpb hf hl1 HE)
      | (at_builtin;refine gappL5 Tryz.underlying33 Tryz.infoClause5 rfl (by decide) (by decide) rfl _ _ rfl w.heap.size (.slice ua ln uc) ln (l.flatMap cc5) rfl HO1.out vg k1 vc 0 (l1.flatMap cc5) rfl (by have:=HRL.out.o;rw [HL1.out] at this;exact this) hpos (fun u hu=>by obtain ⟨d,hd,hu⟩:=List.mem_flatMap.1 hu;exact cc5_one (HRL.out.k d hd).ok u hu) (by omega) (by omega) ?_;intro g5 q5 w5 ho5 hg5 hv5 hl5;have HO5:=hm7 ho5;have HG5:=hm7 hg5;have HV5:=hm7 hv5;clear ho5 hg5 hv5 hl5))
     have HGF:Hid (Fr (fun b=>w.heap.size <= b) W1 w5):=Fr.grown HG5.out fun b hb=>(World.ownsRow.lt HO1.out b hb).1
     have HGO:Hid (Fr (fun b=>(Value.slice ua ln uc).ownBlock = some b) W1 w5):=Fr.grown HG5.out fun b hb=>hb
     have HI5:Hid (∀ d,KF (fun b=>w.heap.size <= b /\ (Value.slice ua ln uc).ownBlock ≠ some b) W1 d -> KF (fun b=>w.heap.size <= b /\ (Value.slice (some ⟨g5,0,none⟩) (ln + k1) q5).ownBlock ≠ some b) w5 d):=fun d hd=>by
      have h2:=hd.mono (G:=fun b=>(w.heap.size <= b /\ (Value.slice (some ⟨g5,0,none⟩) (ln + k1) q5).ownBlock ≠ some b) /\ (Value.slice ua ln uc).ownBlock ≠ some b) fun b hb hw=>⟨⟨hw.1,fun e=>by
       have e1:g5 = b:=Option.some.inj e
       rcases HV5.out with e2 | e2
       ·exact hw.2 (by rw [<- e1];exact e2)
       ·omega⟩,hw.2⟩
      exact (h2.fr HGO.out fun b hb=>hb.2).mono fun b _ hb=>hb.1
     try go_wp2
     go_roundg f
     case measure=>omega
     case rel=>
      refine ⟨n',l ++ l1, ?_,by omega,by omega, ?_, ?_, ?_, ?_, ?_⟩
      ·rw [List.map_append,HK1.out];exact HRN2.out
      ·rw [List.length_append,HLN.out,HL1.out];omega
      ·rw [List.length_append,HLN.out,HL1.out,List.flatMap_append];exact HO5.out
      ·intro d hd
       rcases List.mem_append.1 hd with hd | hd
       ·exact HI5.out d (HKF1.out d hd)
       ·refine HI5.out d ((HRL.out.k d hd).mono fun b _ hb=>⟨Nat.le_trans hszd hb.1,fun e=>?_⟩)
        have h1:=(World.ownsRow.lt (row7_below HO.out HDB.out) b e).2
        have h2:=hb.1
        omega
      ·exact HP1.out.fr HGF.out fun b hb e=>by have:=HNW.out;omega
      ·exact HF1.out.trans HGF.out fun b hb e=>by omega
   ·have hlt2:¬ (nx:Int) < (tn:Int):=by omega
    have HRE:Hid (R = .ok (l.map Cm.key)):=by
     have:=HRJ.out
     unfold pr5 at this
     rw [if_neg (by rw [HTN.out];exact hlt)] at this
     exact this.symm
    clear HRJ
    go_wp2
    go_quiet (fail)
    clear c0 c1
    have HDB:Hid (Below wr.heap.size wr (wr.drewN nq)):=below_drewN (Below.refl _ wr) _
    revert HDB
    generalize wr.drewN nq = wd
    intro HDB
    go_wp2
    go_ret
    rw [HRE.out]
    refine ⟨HFJ.out.then HDB.out,_,l,rfl,rfl,⟨?_, ?_,fun d hd=>(HKF.out d hd).below HDB.out⟩⟩
    ·rw [HLN.out];exact row5_base (row7_below HO.out HDB.out)
    ·intro b hb
     exact (World.ownsRow.lt HO.out b hb).1
end Go.Proofs.YtcpjiahdaplhlaaGreatDoor
namespace Go.Proofs.YtcpjiahdaplhlaaGreatDoor
open Go.RowKit
def Jx {α:Type} (n La k:Nat) (f g:Ps -> R5 α):Prop:=∀ s,s.op = k -> (∃ c,f s = .error (c,(La:Int))) ∨ (s.nx < n /\ f s = g s)
end Go.Proofs.YtcpjiahdaplhlaaGreatDoor
namespace Go.Proofs.YtcpjiahdaplhlaaGreatDoor
open Go.RowKit
theorem qd_x:∀ (f:Nat) (r:List Int) (off:Nat) (acc:List Int) {k:Int} {x:List Int} {n:Int} {len:Nat},qd f r off acc = .ok k x n len -> x.length <= acc.length + r.length
 | 0,r,off,acc,k,x,n,len,h=>by cases h
 | f + 1,[],off,acc,k,x,n,len,h=>by cases h
 | f + 1,c :: r,off,acc,k,x,n,len,h=>by
  unfold qd at h
  by_cases h1:c = 34
  ·rw [if_pos h1] at h
   cases h
   omega
  ·rw [if_neg h1] at h
   by_cases h2:c = 92
   ·rw [if_pos h2] at h
    cases he:esc r with
    | none=>rw [he] at h;cases h
    | some p=>
     obtain ⟨b,kk⟩:=p
     rw [he] at h
     have h3:=qd_x f (r.drop kk) (off + 1 + kk) (acc ++ [b]) h
     rw [List.length_append,List.length_singleton,List.length_drop] at h3
     rw [List.length_cons]
     omega
   ·rw [if_neg h2] at h
    by_cases h3:c < 32 ∨ c = 127
    ·rw [if_pos h3] at h;cases h
    ·rw [if_neg h3] at h
     have h4:=qd_x f r (off + 1) (acc ++ [c]) h
     rw [List.length_append,List.length_singleton] at h4
     rw [List.length_cons]
     omega
theorem tok_x {l:List Int} {k:Int} {x:List Int} {n:Int} {len:Nat} (h:tok l = .ok k x n len):x.length <= l.length:=by
 cases l with
 | nil=>cases h
 | cons c r=>
  simp only [tok] at h
  have ht:((c :: r).take (rl (c :: r))).length <= (c :: r).length:=by rw [List.length_take];exact Nat.min_le_right _ _
  have hn:∀ (m:Nat) (l':List Int),numt m l' = .ok k x n len -> x.length <= (c :: r).length:=fun m l' h=>by
   unfold numt at h
   cases hv:num (l'.take m) with
   | none=>rw [hv] at h;cases h
   | some v=>rw [hv] at h;cases h;exact Nat.zero_le _
  have hs:∀ m,sgF (c :: r) m = .ok k x n len -> x.length <= (c :: r).length:=fun m=>by
   induction m with
   | zero=>intro h;cases h
   | succ m ih=>
    intro h
    unfold sgF at h
    split at h
    ·exact ih h
    ·cases h;exact Nat.zero_le _
  repeat' split at h
  ·cases h;exact Nat.zero_le _
  ·cases h;exact ht
  ·cases h;exact ht
  ·exact hn _ _ h
  ·exact hn _ _ h
  ·have:=qd_x _ _ _ _ h
   rw [List.length_nil] at this
   rw [List.length_cons]
   omega
  ·exact hs _ h
theorem ofL_sz (x:List Int):(ofL x).size = x.length:=by
 unfold ofL
 simp [ByteArray.size,i2b]
theorem ct_small:∀ (f:Nat) (l:List Int) (off:Nat) (acc:List Tk) (M:Nat),l.length <= M -> (∀ t ∈ acc,t.x.size <= M) -> (ct f l off acc).1.length <= acc.length + l.length /\ ∀ t ∈ (ct f l off acc).1,t.x.size <= M
 | 0,l,off,acc,M,hl,ha=>⟨Nat.le_add_right _ _,ha⟩
 | f + 1,[],off,acc,M,hl,ha=>⟨Nat.le_add_right _ _,ha⟩
 | f + 1,c :: r,off,acc,M,hl,ha=>by
  rw [List.length_cons] at hl
  unfold ct
  by_cases h1:c = 32 ∨ c = 9 ∨ c = 10 ∨ c = 13
  ·rw [if_pos h1]
   have:=ct_small f r (off + 1) acc M (by omega) ha
   exact ⟨by rw [List.length_cons];omega,this.2⟩
  ·rw [if_neg h1]
   by_cases h2:c = 37
   ·rw [if_pos h2]
    have:=ct_small f ((c :: r).drop (le_ (c :: r))) (off + le_ (c :: r)) acc M (by rw [List.length_drop,List.length_cons];omega) ha
    rw [List.length_drop] at this
    exact ⟨by omega,this.2⟩
   ·rw [if_neg h2]
    cases ht:tok (c :: r) with
    | bad e o=>exact ⟨Nat.zero_le _,fun t ht=>by cases ht⟩
    | ok k x n len=>
     have hx:=tok_x ht
     obtain ⟨hlen, -⟩:=(tok_len c r).1 k x n len ht
     have:=ct_small f ((c :: r).drop len) (off + len) (acc ++ [⟨k,ofL x,n,off,(off + len:Nat)⟩]) M (by rw [List.length_drop,List.length_cons];omega) (fun t hm=>by
      rcases List.mem_append.1 hm with hm | hm
      ·exact ha t hm
      ·rw [List.mem_singleton.1 hm]
       show (ofL x).size <= M
       rw [ofL_sz]
       rw [List.length_cons] at hx
       omega)
     rw [List.length_drop,List.length_append,List.length_singleton,List.length_cons] at this
     exact ⟨by rw [List.length_cons];dsimp only;omega,this.2⟩
theorem cut_small {s:ByteArray} {most:Int} (hm:most <= 2000000) (h0:(cutL (blK s) most).2.1 = 0):Tok5 (cutL (blK s) most).1 s.size:=by
 unfold cutL at h0 ⊢
 by_cases hl:most < ((blK s).length:Int)
 ·rw [if_pos hl] at h0
  exact absurd h0 (by decide)
 ·rw [if_neg hl]
  rw [bl_len] at hl ⊢
  have h1:=ct_small (s.size + 1) (blK s) 0 [] 2000000 (by rw [bl_len];omega) (fun t h=>by cases h)
  rw [bl_len,List.length_nil] at h1
  exact ⟨by omega,by omega,h1.2⟩
theorem kcs_get5:∀ {l:List Tk} {j:Nat} {t:Tk},l[j]? = some t -> (kcs l)[j * 5]? = some (.int .i64 t.k) /\ (kcs l)[j * 5 + 1]? = some (.string t.x) /\ (kcs l)[j * 5 + 2]? = some (.int .i64 t.n) /\ (kcs l)[j * 5 + 3]? = some (.int .i64 t.a) /\ (kcs l)[j * 5 + 4]? = some (.int .i64 t.e)
 | [],j,t,h=>by simp at h
 | y :: l,0,t,h=>by
  simp only [List.getElem?_cons_zero,Option.some.injEq] at h
  subst h
  exact ⟨rfl,rfl,rfl,rfl,rfl⟩
 | y :: l,j + 1,t,h=>by
  rw [List.getElem?_cons_succ] at h
  have ih:=kcs_get5 h
  rw [show (j + 1) * 5 = j * 5 + 5 by omega]
  exact ih
theorem tz_of_own {w:World} {base:Nat} {v:Value} {T:List Tk} (h:OwnK w base v T):Tz (fun b=>base <= b) w v T:=by
 obtain ⟨a,cap,rfl, -⟩:=row7_form h
 refine ⟨a,cap,rfl, ?_⟩
 cases T with
 | nil=>exact Or.inl rfl
 | cons t T=>
  obtain ⟨g,rfl,hb,hg, -, -⟩:=row7_at h (kcs_get5 (j:=0) rfl).1
  refine Or.inr ⟨g,rfl,hg,hb,fun i u hu=>?_⟩
  obtain ⟨c0,c1,c2,c3,c4⟩:=kcs_get5 hu
  have e0:=row5_cell h c0
  have e1:=row5_cell h c1
  have e2:=row5_cell h c2
  have e3:=row5_cell h c3
  have e4:=row5_cell h c4
  rw [Nat.zero_add] at e0 e1 e2 e3 e4
  exact ⟨e0,e1,e2,e3,e4⟩
theorem run_assert5 (w:World) (v:Value) (x:TypeId):(Instr.typeAssert (.iface 26 v) x 26 false).run Tryz.prog w = .ok v w:=by
 simp [Instr.typeAssert,run_underlying Tryz.underlying26]
theorem catchC_panic (g:Nat) (c a:Int) (older:List PanicEntry) (w:World) (hb:∃ x y,Bk w g #[x,y] 26) :
  CallsD Tryz.prog 80 #[.pointer (some ⟨g,0,none⟩)] (.panicking (pF (c,a) :: older)) w fun e u' w'=>
   e = .returned (.tuple #[]) /\ u' = .panicking ({ v:=.iface 26 (.agg #[.int .i64 c,.int .i64 a]),recovered:=true } :: older) /\ w' = (w.setCell ⟨g,0,none⟩ (.int .i64 c)).setCell ⟨g,1,none⟩ (.int .i64 a):=by
 obtain ⟨x,y,hb⟩:=hb
 have c0:=hb.cell (i:=0) rfl
 have c1:=hb.cell (i:=1) rfl
 have f0:=hb.froz 0
 have f1:=hb.froz 1
 have hl:=hb.lt
 refine callsD_of_wpS Tryz.func80 rfl fun c₀ cs hu=>?_
 unfold pF at hu
 apply wpS_seq
 apply wpS_region
 simp [wpOpsS,go_sem,recoverD,hu,Tryz.ntmps80,Exit.thenS]
 have hta:=run_assert5
 refine wpS_of_wp ?_
 change Code.wp _ _ _ { tmps:=#[.pointer (some ⟨g,0,none⟩),.iface 26 (.agg #[.int .i64 c,.int .i64 a]),.iface 26 (.agg #[.int .i64 c,.int .i64 a]),undef,undef,undef,undef],defers:=[] } w
 go_wp2
 exact ⟨rfl,_,rfl,_,by simp [results,Tryz.results80],rfl,rfl,rfl⟩
theorem catchC_idle (p:Addr) (w:World) :
  CallsD Tryz.prog 80 #[.pointer (some p)] .returning w fun e u' w'=>e = .returned (.tuple #[]) /\ u' = .returning /\ w' = w:=by
 refine callsD_of_wpS Tryz.func80 rfl fun c₀ cs hu=>?_
 apply wpS_seq
 apply wpS_region
 simp [wpOpsS,go_sem,recoverD,hu,Tryz.ntmps80,Exit.thenS]
 refine wpS_of_wp ?_
 change Code.wp _ _ _ { tmps:=#[.pointer (some p),.nilIface,.nilIface,undef,undef,undef,undef],defers:=[] } w
 go_wp2
 exact ⟨rfl,.returning,by rw [<- hu],_,by simp [results,Tryz.results80],rfl,rfl,rfl⟩
end Go.Proofs.YtcpjiahdaplhlaaGreatDoor
namespace Go.Proofs.YtcpjiahdaplhlaaGreatDoor
open Go.RowKit
attribute [local go_sem ↓] Go.wp_at_zero Go.wp_at_succ
def pg5 (s:ByteArray) (most:Int):Except (Int × Int) (List Ck):=if (cutL (blK s) most).2.1 = 0 then pr5 (cutL (blK s) most).1 s.size ((cutL (blK s) most).1.length + 1) [] 0 else .error ((cutL (blK s) most).2.1,(cutL (blK s) most).2.2)
def ReP (w:World) (R:Except (Int × Int) (List Ck)) (e:Ending) (w':World):Prop:=
 Below w.heap.size w w' /\ ∃ v c a,e = .returned (.tuple #[v,.agg #[.int .i64 c,.int .i64 a]]) /\ match R with
  | .error f=>v = .slice none 0 0 /\ c = f.1 /\ a = f.2
  | .ok ks=>c = 0 /\ a = 0 /\ ∃ l,l.map Cm.key = ks /\ RL (fun b=>w.heap.size <= b) w' v l
theorem PB.new {w:World} {base:Nat} {tv:Value} {T:List Tk} {L:Nat} (h:OwnK w base tv T) (hok:Tok5 T L) (ho:OpsOk w):PB w.heap.size (w.heap.size + 1) tv T L (w.alloc (.cells #[tv,.int .i64 0,.int .i64 (L:Int),.int .i64 0,.map none,.int .i64 0] 109)) 0:=by
 have hz:(w.alloc (.cells #[tv,.int .i64 0,.int .i64 (L:Int),.int .i64 0,.map none,.int .i64 0] 109)).heap.size = w.heap.size + 1:=by simp
 have hb:=below1 w (.cells #[tv,.int .i64 0,.int .i64 (L:Int),.int .i64 0,.map none,.int .i64 0] 109)
 have hl:=ho.lt
 refine ⟨⟨none,0,Bk.new w _ _⟩, ?_,Nat.zero_le _,Nat.lt_succ_self _,by omega,hok,ho.fr (P:=fun _=>False) (Fr.of hb) (fun h=>h),by omega,by omega⟩
 exact ((tz_of_own h).mono (G:=fun b=>b ≠ w.heap.size /\ b < w.heap.size + 1) fun b hb _=>⟨by omega,by omega⟩).fr (P:=fun _=>False) (Fr.of hb) fun _ _ _ h=>h
theorem PrP.err {g:Nat} {w:World} {R:Except (Int × Int) (List Ck)} {f:Int × Int} {fn:Nat} {args:Array Value} (h:Calls Tryz.prog fn args w (PrP g w R)) (hr:R = .error f):Calls Tryz.prog fn args w fun e w'=>e = .panicked [pF f] /\ Fr (fun b=>b = g) w w':=by
 subst hr
 exact h.mono fun e w' ⟨h1,h2⟩=>⟨h2,h1⟩
theorem PrP.ok {g:Nat} {w:World} {R:Except (Int × Int) (List Ck)} {ks:List Ck} {fn:Nat} {args:Array Value} (h:Calls Tryz.prog fn args w (PrP g w R)) (hr:R = .ok ks):Calls Tryz.prog fn args w fun e w'=>∃ v l,e = .returned v /\ l.map Cm.key = ks /\ RL (fun b=>w.heap.size <= b) w' v l /\ Fr (fun b=>b = g) w w':=by
 subst hr
 exact h.mono fun e w' ⟨h1,v,l,h2,h3,h4⟩=>⟨v,l,h2,h3,h4,h1⟩
set_option maxRecDepth 20000 in
set_option maxHeartbeats 4000000 in
theorem readC_any (s:ByteArray) (most:Int) (hs:s.size <= 9000000) (hm:most <= 2000000) (w:World) (hE:EnvOk w) (hO:OpsOk w) :
  Calls Tryz.prog 39 #[.string s,.int .i64 most,.func (.func 40) #[] #[]] w (ReP w (pg5 s most)):=by
 have hmf:∀ (fn:Fn) (first cap:Array Value) (w:World),(Instr.makeFunc fn first cap).run Tryz.prog w = .ok (.func fn first cap) w:=fun _ _ _ _=>rfl
 have HB0:=hm7 (below1 w (.cells #[.int .i64 0,.int .i64 0] 26))
 have HR0:=hm7 (Bk.new w #[.int .i64 0,.int .i64 0] 26)
 have HCU:=hm7 (cut_any s most hs _ (hE.later HB0.out))
 have HO0:=hm7 (hO.fr (P:=fun _=>False) (Fr.of HB0.out) fun h=>h)
 obtain ⟨Y0,hY0⟩:∃ Y0,w.alloc (.cells #[.int .i64 0,.int .i64 0] 26) = Y0:=⟨_,rfl⟩
 rw [hY0] at HB0 HR0 HCU HO0
 have HY0:=hm7 hY0
 obtain ⟨q,hq⟩:∃ q,w.heap.size = q:=⟨_,rfl⟩
 rw [hq] at HR0
 have HQ:=hm7 hq
 have HQW:Hid (w.heap.size <= q):=by show _ <= _;rw [hq];exact Nat.le_refl _
 obtain ⟨R,hR⟩:∃ R,pg5 s most = R:=⟨_,rfl⟩
 rw [hR]
 unfold pg5 at hR
 have HTK:Hid ((cutL (blK s) most).2.1 = 0 -> Tok5 (cutL (blK s) most).1 s.size):=cut_small hm
 obtain ⟨⟨T,c,a⟩,hcl⟩:∃ X,cutL (blK s) most = X:=⟨_,rfl⟩
 rw [hcl] at HCU HTK hR
 dsimp only at HTK hR
 have HGQ:Hid (3 ≠ q):=fun e=>by have:=hO.lt;omega
 clear hY0 hq hcl hE hO
 go_enter_defers Tryz.func39,Tryz.ntmps39
 go_upto_region 1 with fail
 rw [HY0.out,HQ.out]
 clear HY0
 go_upto_region 2 with (go_at_call 7;refine HCU.out.mono ?_;rintro e W1 ⟨tv,rfl,hk,hb⟩;obtain ⟨ta,tc,htf, -⟩:=row7_form hk;generalize htn:List.length _ = tn at htf;subst htf;have HTN:=hm7 htn;have HK1:=hm7 hk;have HR1:=hm7 (HR0.out.below hb);have HB1:=hm7 (HB0.out.trans (hb.mono HB0.out.size));have HO1:=hm7 (HO0.out.fr (P:=fun _=>False) (Fr.of hb) fun h=>h);have r0:=HR1.out.cell (i:=0) rfl;have r1:=HR1.out.cell (i:=1) rfl;have f0:=HR1.out.froz 0;have f1:=HR1.out.froz 1;have hrl:=HR1.out.lt;clear hk hb htn)
 have HR2:Hid (Bk ((W1.setCell ⟨q,0,none⟩ (.int .i64 c)).setCell ⟨q,1,none⟩ (.int .i64 a)) q #[.int .i64 c,.int .i64 a] 26):=by
  have:=(HR1.out.set 0 (.int .i64 c)).set 1 (.int .i64 a)
  show Bk _ _ _ _
  simpa using this
 have HFQ:Hid (Fr (fun b=>b = q) W1 ((W1.setCell ⟨q,0,none⟩ (.int .i64 c)).setCell ⟨q,1,none⟩ (.int .i64 a))):=((Fr.refl (fun b=>b = q) _).set (Or.inl rfl)).set (Or.inl rfl)
 have HB2:Hid (Below w.heap.size w ((W1.setCell ⟨q,0,none⟩ (.int .i64 c)).setCell ⟨q,1,none⟩ (.int .i64 a))):=(HB1.out.setCell (p:=⟨q,0,none⟩) HQW.out _).setCell (p:=⟨q,1,none⟩) HQW.out _
 clear r0 r1 f0 f1 hrl
 have HQY:Hid (q < Y0.heap.size):=HR0.out.lt
 have HK2:Hid (OwnK ((W1.setCell ⟨q,0,none⟩ (.int .i64 c)).setCell ⟨q,1,none⟩ (.int .i64 a)) Y0.heap.size (.slice ta tn tc) T):=row7_fr HK1.out HFQ.out fun b hb e=>by have:=(World.ownsRow.lt HK1.out b hb).1;have:=HQY.out;omega
 have HO2:Hid (OpsOk ((W1.setCell ⟨q,0,none⟩ (.int .i64 c)).setCell ⟨q,1,none⟩ (.int .i64 a))):=HO1.out.fr HFQ.out HGQ.out
 revert HR2 HFQ HB2 HK2 HO2
 generalize (W1.setCell ⟨q,0,none⟩ (.int .i64 c)).setCell ⟨q,1,none⟩ (.int .i64 a) = W2
 intro HR2 HFQ HB2 HK2 HO2
 have c0:=HR2.out.cell (i:=0) rfl
 have c1:=HR2.out.cell (i:=1) rfl
 have f0:=HR2.out.froz 0
 have f1:=HR2.out.froz 1
 have hrl:=HR2.out.lt
 by_cases hc:c = 0
 ·subst hc
  rw [if_pos rfl] at hR
  have hsl:(s.size:Int) = (s.size:Int):=rfl
  have HPB:=hm7 (PB.new HK2.out (HTK.out rfl) HO2.out)
  have HPR:=hm7 (program5_any _ _ _ _ _ _ HPB.out)
  have HQ2:Hid (q < W2.heap.size):=hrl
  have HB3:=hm7 (below1 W2 (.cells #[.slice ta tn tc,.int .i64 0,.int .i64 (s.size:Int),.int .i64 0,.map none,.int .i64 0] 109))
  clear hsl HPB HTK HK1 HR1 HK2 HFQ
  obtain ⟨gp,hgp⟩:∃ gp,W2.heap.size = gp:=⟨_,rfl⟩
  obtain ⟨sl,hsl⟩:∃ sl,s.size = sl:=⟨_,rfl⟩
  have HWG:Hid (w.heap.size <= W2.heap.size):=HB2.out.size
  cases hr:pr5 T s.size (T.length + 1) [] 0 with
  | error f=>
   rw [hr] at hR
   subst hR
   have HE:=hm7 (PrP.err HPR.out hr)
   clear hr HPR hgp hsl
   go_wp2_with (go_at_call 40;refine HE.out.mono ?_;rintro e W4 ⟨rfl,hf⟩;have HR4:=hm7 ((HR2.out.below HB3.out).fr hf fun e=>by have:=HQ2.out;omega);have HB4:=hm7 (Fr.low ((Fr.of (P:=fun b=>w.heap.size <= b) (HB2.out.trans (HB3.out.mono HWG.out))).trans hf fun b _ e=>by have:=HWG.out;omega) (Nat.le_refl _));clear hf c0 c1 f0 f1 hrl)
   refine leaves_cons (f:=80) (args:=#[.pointer (some ⟨q,0,none⟩)]) (by simp) (by simp [go_sem]) ?_
   refine (catchC_panic q f.1 f.2 [] _ ⟨_,_,HR4.out⟩).mono ?_
   rintro e u' w'' ⟨rfl,rfl,rfl⟩
   have HR5:Hid (Bk ((W4.setCell ⟨q,0,none⟩ (.int .i64 f.1)).setCell ⟨q,1,none⟩ (.int .i64 f.2)) q #[.int .i64 f.1,.int .i64 f.2] 26):=by
    have:=(HR4.out.set 0 (.int .i64 f.1)).set 1 (.int .i64 f.2)
    show Bk _ _ _ _
    simpa using this
   have z0:=HR5.out.cell (i:=0) rfl
   have z1:=HR5.out.cell (i:=1) rfl
   have HB5:Hid (Below w.heap.size w ((W4.setCell ⟨q,0,none⟩ (.int .i64 f.1)).setCell ⟨q,1,none⟩ (.int .i64 f.2))):=(HB4.out.setCell (p:=⟨q,0,none⟩) HQW.out _).setCell (p:=⟨q,1,none⟩) HQW.out _
   simp [Leaves,settle,results,Tryz.results39,go_sem,z0,z1]
   exact ⟨HB5.out,_,f.1,f.2,rfl,rfl,rfl,rfl⟩
  | ok ks=>
   rw [hr] at hR
   subst hR
   have HE:=hm7 (PrP.ok HPR.out hr)
   clear hr HPR hgp hsl
   go_wp2_with (go_at_call 40;refine HE.out.mono ?_;rintro e W4 ⟨v4,l,rfl,hk,hrl4,hf⟩;have HKS:=hm7 hk;have HRL:=hm7 hrl4;have HR4:=hm7 ((HR2.out.below HB3.out).fr hf fun e=>by have:=HQ2.out;omega);have HB4:=hm7 (Fr.low ((Fr.of (P:=fun b=>w.heap.size <= b) (HB2.out.trans (HB3.out.mono HWG.out))).trans hf fun b _ e=>by have:=HWG.out;omega) (Nat.le_refl _));clear hf c0 c1 f0 f1 hrl hk hrl4;have r0:=HR4.out.cell (i:=0) rfl;have r1:=HR4.out.cell (i:=1) rfl;have f0:=HR4.out.froz 0;have f1:=HR4.out.froz 1;have hrl:=HR4.out.lt)
   refine leaves_cons (f:=80) (args:=#[.pointer (some ⟨q,0,none⟩)]) (by simp) (by simp [go_sem]) ?_
   refine (catchC_idle ⟨q,0,none⟩ _).mono ?_
   rintro e u' w'' ⟨rfl,rfl,rfl⟩
   have HR5:Hid (Bk ((W4.setCell ⟨q,0,none⟩ (.int .i64 0)).setCell ⟨q,1,none⟩ (.int .i64 0)) q #[.int .i64 0,.int .i64 0] 26):=by
    have:=(HR4.out.set 0 (.int .i64 0)).set 1 (.int .i64 0)
    show Bk _ _ _ _
    simpa using this
   have z0:=HR5.out.cell (i:=0) rfl
   have z1:=HR5.out.cell (i:=1) rfl
   have HB5:Hid (Below w.heap.size w ((W4.setCell ⟨q,0,none⟩ (.int .i64 0)).setCell ⟨q,1,none⟩ (.int .i64 0))):=(HB4.out.setCell (p:=⟨q,0,none⟩) HQW.out _).setCell (p:=⟨q,1,none⟩) HQW.out _
   have HRL5:Hid (RL (fun b=>w.heap.size <= b) ((W4.setCell ⟨q,0,none⟩ (.int .i64 0)).setCell ⟨q,1,none⟩ (.int .i64 0)) v4 l):=((HRL.out.fr (Q:=fun b=>b = q) (((Fr.refl (fun b=>b = q) _).set (Or.inl rfl)).set (Or.inl rfl)) fun b hb e=>by have:=HB3.out.size;have:=HQ2.out;omega)).mono fun b _ hb=>Nat.le_trans HWG.out (Nat.le_trans HB3.out.size hb)
   simp [Leaves,settle,results,Tryz.results39,go_sem,z0,z1]
   exact ⟨HB5.out,_,0,0,rfl,rfl,rfl,l,HKS.out,HRL5.out⟩
 ·have hc1:(c == 0) = false:=by simp [hc]
  have hc2:(c != 0) = true:=by simp [hc]
  rw [if_neg hc] at hR
  subst hR
  have HR5:Hid (Bk ((W2.setCell ⟨q,0,none⟩ (.int .i64 c)).setCell ⟨q,1,none⟩ (.int .i64 a)) q #[.int .i64 c,.int .i64 a] 26):=by
   have:=(HR2.out.set 0 (.int .i64 c)).set 1 (.int .i64 a)
   show Bk _ _ _ _
   simpa using this
  have HR6:=hm7 (HR5.out.below (below_drewN (Below.refl _ _) 1))
  have HB5:Hid (Below w.heap.size w ((W2.setCell ⟨q,0,none⟩ (.int .i64 c)).setCell ⟨q,1,none⟩ (.int .i64 a)).drew):=((HB2.out.setCell (p:=⟨q,0,none⟩) HQW.out _).setCell (p:=⟨q,1,none⟩) HQW.out _).drew
  go_upto_region 3 with fail
  go_region
  go_wp2
  clear c0 c1 f0 f1 hrl
  have z0:=HR6.out.cell (i:=0) rfl
  have z1:=HR6.out.cell (i:=1) rfl
  have z2:((W2.setCell ⟨q,0,none⟩ (.int .i64 c)).setCell ⟨q,1,none⟩ (.int .i64 a)).drew.cell? ⟨q,0,none⟩ = some (.int .i64 c):=z0
  have z3:((W2.setCell ⟨q,0,none⟩ (.int .i64 c)).setCell ⟨q,1,none⟩ (.int .i64 a)).drew.cell? ⟨q,1,none⟩ = some (.int .i64 a):=z1
  show Leaves _ _ _ _ _ _ _
  simp [Leaves,results,Tryz.results39,go_sem,z2,z3]
  exact ⟨HB5.out,_,c,a,rfl,rfl,rfl,rfl⟩
end Go.Proofs.YtcpjiahdaplhlaaGreatDoor

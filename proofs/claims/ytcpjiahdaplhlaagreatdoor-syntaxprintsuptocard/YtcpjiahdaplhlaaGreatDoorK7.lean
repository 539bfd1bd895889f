import Derived.Test.YtcpjiahdaplhlaaGreatDoorJ4
namespace Go.Proofs.YtcpjiahdaplhlaaGreatDoor
open Go.RowKit
theorem cell_stepK {w' w3:World} {b o:Nat} {v:Value} (h3:Below w'.heap.size w' w3) (hb:b < w'.heap.size) (hc:w'.cell? ⟨b,o,none⟩ = some v):w3.cell? ⟨b,o,none⟩ = some v:=by
 rw [h3.cell (p:=⟨b,o,none⟩) hb];exact hc
def itB (n:Int):ByteArray:=⟨(Lib.itoa n).toArray⟩
def spl (t:Tk):Option ByteArray:=
 if t.k = 1 then (if wrd t.x = true /\ t.n = 0 then some t.x else none)
 else if t.k = 2 then (if vrb t.x = true /\ t.n = 0 then some t.x else none)
 else if t.k = 3 then (if t.n = 0 then some (qtB t.x) else none)
 else if t.k = 4 then (if t.x = ⟨#[]⟩ then some (itB t.n) else none)
 else if ¬ sgo t.k = ⟨#[]⟩ /\ t.x = ⟨#[]⟩ /\ t.n = 0 then some (sgo t.k) else none
theorem strE (x:ByteArray):(x.toList == []) = decide (x = ⟨#[]⟩):=by rw [<- str_dec,emptyL]
theorem isEK (x:ByteArray):x.toList.isEmpty = decide (x = ⟨#[]⟩):=by
 rw [<- strE];cases x.toList <;> rfl
end Go.Proofs.YtcpjiahdaplhlaaGreatDoor
namespace Go.Proofs.YtcpjiahdaplhlaaGreatDoor
open Go.RowKit
theorem sgF_no {l:List Int} {m:Nat} (h:sk (ofL (l.take (m + 1))) = 0):sgF l (m + 1) = sgF l m:=by show (if _ then _ else _) = _;rw [if_pos h]
theorem sgF_yes {l:List Int} {m:Nat} (h:¬ sk (ofL (l.take (m + 1))) = 0):sgF l (m + 1) = .ok (sk (ofL (l.take (m + 1))):Nat) [] 0 (m + 1):=by show (if _ then _ else _) = _;rw [if_neg h]
set_option maxRecDepth 20000 in
set_option maxHeartbeats 1000000 in
theorem signAt_any (s:ByteArray) (j:Nat) (hj:j < s.size) (hs:s.size < 4611686018427387000) (w:World) (hS:SignsOk w) :
  Calls Tryz.prog 77 #[.string s,.int .i64 j] w fun e w'=>e = .returned (TR.v j (sgt ((blK s).drop j))) /\ Below w.heap.size w w':=by
 have HX:Hid (∀ m,j + m <= s.size -> s.extract j (j + m) = ofL (((blK s).drop j).take m)):=fun m _=>by rw [extract_eq];congr 2;omega
 have hll:((blK s).drop j).length = s.size - j:=by rw [List.length_drop,bl_len]
 obtain ⟨R,hR⟩:∃ R,sgt ((blK s).drop j) = R:=⟨_,rfl⟩
 have HR0:Hid (sgF ((blK s).drop j) (min 2 (s.size - j)) = R):=by show _ = R;rw [<- hR,sgt,hll]
 rw [hR]
 obtain ⟨l,hl⟩:∃ l,(blK s).drop j = l:=⟨_,rfl⟩
 rw [hl] at HX HR0
 have HS:Hid (SignsOk w):=hS
 clear hR hl hll hS
 go_enter Tryz.func77,Tryz.ntmps77
 go_upto_region 1 with fail
 have B4:=BlkK.old w #[.int .i64 0,.string ⟨#[]⟩,.int .i64 0,.int .i64 0,.int .i64 0] 64 (.cells #[.int .i64 0,.int .i64 0] 26)
 have B5:=BlkK.new2 w #[.int .i64 0,.int .i64 0] 26 (.cells #[.int .i64 0,.string ⟨#[]⟩,.int .i64 0,.int .i64 0,.int .i64 0] 64)
 have hb:=below2K w (.cells #[.int .i64 0,.string ⟨#[]⟩,.int .i64 0,.int .i64 0,.int .i64 0] 64) (.cells #[.int .i64 0,.int .i64 0] 26)
 revert B4 B5 hb
 generalize (w.alloc (.cells #[.int .i64 0,.string ⟨#[]⟩,.int .i64 0,.int .i64 0,.int .i64 0] 64)).alloc (.cells #[.int .i64 0,.int .i64 0] 26) = W1
 intro B4 B5 hb
 have H4:Hid (BlkK W1 w.heap.size (Tk.cs ⟨0,⟨#[]⟩,0,0,0⟩) 64):=B4
 have H5:Hid (BlkK W1 (w.heap.size + 1) (fcs 0 0) 26):=B5
 have HB:Hid (Below w.heap.size w W1):=hb
 have HS1:Hid (SignsOk W1):=HS.out.later hb
 clear B4 B5 hb
 have hm:(∃ m,m = min 2 (s.size - j) /\ j + m <= s.size /\ ((s.size < j + 2 /\ s.size = j + m) ∨ (¬ s.size < j + 2 /\ m = 2))):=⟨_,rfl,by omega,by omega⟩
 obtain ⟨m,hm1,hm2,hm3⟩:=hm
 rw [<- hm1] at HR0
 have HM:Hid (j + m <= s.size):=hm2
 have hend:min ((j:Int) + 2) (s.size:Int) = ((j + m:Nat):Int):=by omega
 clear hm1 hm2 hm3
 go_wp2
 go_loopg [6] m (fun g i wr=>i = .int .i64 ((j + g:Nat):Int) /\ j + g <= s.size /\ sgF l g = R /\ wr = W1)
 case atStart=>exact ⟨by rw [Int.natCast_add],HM.out,HR0.out,rfl⟩
 case round=>
  obtain ⟨rfl,hjs,hr,rfl⟩:=hrel
  have HR:Hid (sgF l gk = R):=hr
  clear hr HR0 hend
  cases gk with
  | succ g=>
   have i1:(j:Int) < ((j + (g + 1):Nat):Int):=by omega
   have i2:((j + (g + 1):Nat):Int) <= (s.size:Int):=by omega
   have i3:(0:Int) <= (j:Int):=by omega
   have i4:(j:Int) <= ((j + (g + 1):Nat):Int):=by omega
   have hx:s.extract j (((j + (g + 1):Nat):Int)).toNat = ofL (l.take (g + 1)):=by
    rw [Int.toNat_natCast];exact HX.out _ hjs
   have ck:=fun (W:World) (h:SignsOk W)=>signKind_any (ofL (l.take (g + 1))) W h
   have HN:Hid (sk (ofL (l.take (g + 1))) = 0 -> sgF l g = R):=fun h=>by rw [<- HR.out,sgF_no h]
   have HY:Hid (¬ sk (ofL (l.take (g + 1))) = 0 -> R = .ok (sk (ofL (l.take (g + 1))):Nat) [] 0 (g + 1)):=fun h=>by rw [<- HR.out,sgF_yes h]
   obtain ⟨E,hE⟩:∃ E:Int,((j + (g + 1):Nat):Int) = E:=⟨_,rfl⟩
   rw [hE] at i1 i2 i4 hx ⊢
   have HE:Hid (((j + (g + 1):Nat):Int) = E):=hE
   generalize sk (ofL (l.take (g + 1))) = K at *
   generalize ofL (l.take (g + 1)) = X at *
   clear HX hE HR
   by_cases hk:K = 0
   ·have HN1:Hid _:=HN.out hk
    have n1:((K:Int) == 0) = true:=by simp [hk]
    have n2:((K:Int) != 0) = false:=by simp [hk]
    clear hk HN HY
    go_wp2_with (go_at_call 118;refine (ck _ HS1.out).mono ?_;rintro e w1 ⟨rfl,rfl⟩)
    go_roundg g
    case measure=>omega
    case rel=>exact ⟨by have:=HE.out;congr 1;omega,by omega,HN1.out,rfl⟩
   ·have HY1:Hid _:=HY.out hk
    have n1:((K:Int) == 0) = false:=beq_eq_false_iff_ne.2 (by omega)
    have n2:((K:Int) != 0) = true:=by rw [bne,n1];rfl
    obtain ⟨d0,d1,d2,d3,d4⟩:=fiveK H4.out
    obtain ⟨f0,f1,f2,f3,f4⟩:=fiveFK H4.out
    obtain ⟨b0,b1,b2,b3⟩:=two H5.out
    clear hk HN HY
    go_wp2_with (go_at_call 118;refine (ck _ HS1.out).mono ?_;rintro e w1 ⟨rfl,rfl⟩)
    obtain ⟨q1,q2⟩:=fw_blk ⟨(K:Nat),⟨#[]⟩,0,j,E⟩ 0 0 H4.out H5.out (by omega)
    refine bodyPost_ret (v:=TR.v j R) ?_ rfl ⟨rfl,fw_below (t:=⟨(K:Nat),⟨#[]⟩,0,j,E⟩) (e:=0) (p:=0) HB.out (Nat.le_refl _) (Nat.le_succ _)⟩
    rw [HY1.out]
    have e1:TR.v j (.ok (K:Nat) [] 0 (g + 1)) = .tuple #[Tk.v ⟨(K:Nat),⟨#[]⟩,0,j,E⟩,.agg #[.int .i64 0,.int .i64 0]]:=by
     have:=HE.out;subst this;rfl
    rw [e1]
    exact ret_tf Tryz.results77 _ _ _ _ ⟨(K:Nat),⟨#[]⟩,0,j,E⟩ 0 0 rfl rfl q1 q2
  | zero=>
   have i1:¬ (j:Int) < ((j + 0:Nat):Int):=by omega
   obtain ⟨d0,d1,d2,d3,d4⟩:=fiveK H4.out
   obtain ⟨f0,f1,f2,f3,f4⟩:=fiveFK H4.out
   obtain ⟨b0,b1,b2,b3⟩:=two H5.out
   have hR:R = .bad 42 0:=HR.out.symm
   subst hR
   clear HX
   go_wp2
   obtain ⟨q1,q2⟩:=fw_blk ⟨0,⟨#[]⟩,0,0,0⟩ 42 j H4.out H5.out (by omega)
   exact bodyPost_ret (v:=TR.v j (.bad 42 0)) (ret_tf Tryz.results77 _ _ _ _ ⟨0,⟨#[]⟩,0,0,0⟩ 42 j rfl rfl q1 q2) rfl ⟨rfl,fw_below (t:=⟨0,⟨#[]⟩,0,0,0⟩) (e:=42) (p:=j) HB.out (Nat.le_refl _) (Nat.le_succ _)⟩
end Go.Proofs.YtcpjiahdaplhlaaGreatDoor
namespace Go.Proofs.YtcpjiahdaplhlaaGreatDoor
open Go.RowKit
theorem BlkK.laterB {W W':World} {B g:Nat} {c:Array Value} {t:TypeId} (h:BlkK W g c t) (hb:Below B W W') (hg:g < B):BlkK W' g c t:=(hb.block _ hg).trans h
theorem OwnB.nil (w:World) (base:Nat):OwnB w base (.slice none 0 0) []:=⟨by simp [ibs],Or.inl ⟨rfl,rfl⟩⟩
theorem conv_nil (w:World):(convert 67 9 (.slice none 0 0)).run Tryz.prog w = .ok (.string ⟨#[]⟩) w:=by
 rw [run_convert_bytes_string w 67 9 5 none 0 0 Tryz.underlying67 Tryz.underlying5 Tryz.underlying9]
 simp [Conv.bytesToString,go_sem]
 rfl
theorem conv_all {w:World} {base:Nat} {v:Value} {l:List Int} (h:OwnB w base v l) (hn:l = [] -> v = .slice none 0 0) (hb:byt l):(convert 67 9 v).run Tryz.prog w = .ok (.string (ofL l)) w:=by
 cases l with
 | nil=>rw [hn rfl,conv_nil];rfl
 | cons x l=>exact conv_bytes h (by simp) hb
theorem hex2_rng {l:List Int} {b:Int} (h:hex2 l = some b):0 <= b /\ b <= 255 /\ 2 <= l.length:=by
 match l,h with
 | [],h=>cases h
 | [_],h=>cases h
 | a :: c :: r,h=>
  simp only [hex2] at h
  cases u:hexv a with
  | none=>rw [u] at h;cases h
  | some x=>
   cases v:hexv c with
   | none=>rw [u,v] at h;cases h
   | some y=>
    rw [u,v] at h
    have h1:=hexv_rng u
    have h2:=hexv_rng v
    have h3:x * 16 + y = b:=by simpa using h
    refine ⟨by omega,by omega,by simp⟩
theorem esc_rng {l:List Int} {b:Int} {k:Nat} (h:esc l = some (b,k)):0 <= b /\ b <= 255 /\ 1 <= k /\ k <= l.length /\ k <= 3:=by
 cases l with
 | nil=>cases h
 | cons c r=>
  rw [esc_cons] at h
  by_cases q1:c = 34 ∨ c = 92
  ·rw [if_pos q1] at h;simp at h;simp;omega
  ·rw [if_neg q1] at h
   by_cases q2:c = 110
   ·rw [if_pos q2] at h;simp at h;simp;omega
   ·rw [if_neg q2] at h
    by_cases q3:c = 116
    ·rw [if_pos q3] at h;simp at h;simp;omega
    ·rw [if_neg q3] at h
     by_cases q4:c = 120
     ·rw [if_pos q4] at h
      cases e:hex2 r with
      | none=>rw [e] at h;cases h
      | some x=>
       rw [e] at h
       have:=hex2_rng e
       simp at h
       obtain ⟨rfl,rfl⟩:=h
       simp;omega
     ·rw [if_neg q4] at h;cases h
theorem qd_end (f off:Nat) (acc:List Int):qd (f + 1) [] off acc = .bad 43 0:=rfl
theorem qd_cons (f:Nat) (c:Int) (r:List Int) (off:Nat) (acc:List Int):qd (f + 1) (c :: r) off acc =
  if c = 34 then .ok 3 acc 0 (off + 1)
  else if c = 92 then (match esc r with
   | some (b,k)=>qd f (r.drop k) (off + 1 + k) (acc ++ [b])
   | none=>.bad 44 off)
  else if c < 32 ∨ c = 127 then .bad 44 off
  else qd f r (off + 1) (acc ++ [c]):=rfl
structure BxK (w W:World):Prop where
 t:BlkK W w.heap.size (Tk.cs ⟨0,⟨#[]⟩,0,0,0⟩) 64
 f:BlkK W (w.heap.size + 1) (fcs 0 0) 26
 b:Below w.heap.size w W
theorem BxK.start (w:World):BxK w ((w.alloc (.cells #[.int .i64 0,.string ⟨#[]⟩,.int .i64 0,.int .i64 0,.int .i64 0] 64)).alloc (.cells #[.int .i64 0,.int .i64 0] 26)):=
 ⟨BlkK.old w _ _ _,BlkK.new2 w _ _ _,below2K w _ _⟩
theorem BxK.later {w W W':World} (h:BxK w W) (hb:Below W.heap.size W W'):BxK w W':=⟨h.t.later hb,h.f.later hb,below_stepK h.b hb⟩
theorem BxK.lt {w W:World} (h:BxK w W):w.heap.size + 2 <= W.heap.size:=h.f.lt
theorem BxK.laterB {w W W':World} (h:BxK w W) (hb:Below (w.heap.size + 2) W W'):BxK w W':=⟨h.t.laterB hb (by omega),h.f.laterB hb (by omega),h.b.trans (hb.mono (by omega))⟩
theorem BxK.res {fn:Func} (hf:fn.results = #[.cell 4 64,.cell 5 26]) {w W:World} (h:BxK w W) (tmps:Array Value) (t:Tk) (e p:Int)
  (h4:tmps[4]?.getD undef = .pointer (some ⟨w.heap.size,0,none⟩)) (h5:tmps[5]?.getD undef = .pointer (some ⟨w.heap.size + 1,0,none⟩)) :
  (results fn tmps).run Tryz.prog (fw W w.heap.size (w.heap.size + 1) t e p) = .ok (.tuple #[t.v,.agg #[.int .i64 e,.int .i64 p]]) (fw W w.heap.size (w.heap.size + 1) t e p):=by
 obtain ⟨q1,q2⟩:=fw_blk t e p h.t h.f (by omega)
 exact ret_tf hf _ _ _ _ t e p h4 h5 q1 q2
theorem BxK.bel {w W:World} (h:BxK w W) (t:Tk) (e p:Int):Below w.heap.size w (fw W w.heap.size (w.heap.size + 1) t e p):=fw_below h.b (Nat.le_refl _) (Nat.le_succ _)
set_option maxRecDepth 20000 in
set_option maxHeartbeats 1000000 in
theorem quotedAt_any (s:ByteArray) (j:Nat) (hj:j < s.size) (hs:s.size <= 9000000) (w:World) :
  Calls Tryz.prog 76 #[.string s,.int .i64 j] w fun e w'=>e = .returned (TR.v j (qd (((blK s).drop (j + 1)).length + 1) ((blK s).drop (j + 1)) 1 [])) /\ Below w.heap.size w w':=by
 obtain ⟨R,hR⟩:∃ R,qd (((blK s).drop (j + 1)).length + 1) ((blK s).drop (j + 1)) 1 [] = R:=⟨_,rfl⟩
 rw [hR]
 have HR0:Hid (qd (((blK s).drop (j + 1)).length + 1) ((blK s).drop (j + 1)) 1 [] = R):=hR
 clear hR
 go_enter Tryz.func76,Tryz.ntmps76
 go_upto_region 1 with fail
 have bx:=BxK.start w
 revert bx
 generalize (w.alloc (.cells #[.int .i64 0,.string ⟨#[]⟩,.int .i64 0,.int .i64 0,.int .i64 0] 64)).alloc (.cells #[.int .i64 0,.int .i64 0] 26) = W1
 intro bx
 have HX0:Hid (BxK w W1):=bx
 clear bx
 go_wp2
 go_loopg [6,7] (s.size - (j + 1)) (fun g u i wr=>∃ (off f:Nat) (acc:List Int),j + off + g = s.size /\ i = .int .i64 ((j + off:Nat):Int) /\ ((blK s).drop (j + off)).length < f /\ qd f ((blK s).drop (j + off)) off acc = R /\ byt acc /\ acc.length < off /\ OwnB wr (w.heap.size + 2) u acc /\ (acc = [] -> u = .slice none 0 0) /\ BxK w wr)
 case atStart=>exact ⟨1,_,[],by omega,by rw [Int.natCast_add];rfl,Nat.lt_succ_self _,HR0.out,(fun x hx=>by simp at hx),by simp,OwnB.nil _ _,fun _=>rfl,HX0.out⟩
 case round=>
  obtain ⟨off,f,acc,hg,rfl,hf,hr,hby,hlen,ho,hnil,bx⟩:=hrel
  have hbz:=bx.lt
  have HBX:Hid (BxK w wr):=bx
  have HO:Hid (OwnB wr (w.heap.size + 2) u6 acc):=ho
  have HN:Hid (acc = [] -> u6 = .slice none 0 0):=hnil
  have HY:Hid (byt acc):=hby
  have HR:Hid (qd f ((blK s).drop (j + off)) off acc = R):=hr
  have HF:Hid (((blK s).drop (j + off)).length < f):=hf
  obtain ⟨d0,d1,d2,d3,d4⟩:=fiveK bx.t
  obtain ⟨f0,f1,f2,f3,f4⟩:=fiveFK bx.t
  obtain ⟨b0,b1,b2,b3⟩:=two bx.f
  obtain ⟨f,rfl⟩:∃ f',f = f' + 1:=⟨f - 1,by omega⟩
  clear bx ho hnil hby hr hf HR0 HX0
  obtain ⟨E,hE⟩:∃ E:Int,((j + off:Nat):Int) = E:=⟨_,rfl⟩
  have HE:Hid (((j + off:Nat):Int) = E):=hE
  cases gk with
  | succ g=>
   have hlt:j + off < s.size:=by omega
   have hidx:=run_index_atK s (j + off) hlt E hE.symm
   have hrg:=at_range s (j + off)
   have i1:E < (s.size:Int):=by omega
   have i0:0 <= E:=by omega
   have i9:E < 4611686018427387904:=by omega
   have cE:=escapeAt_any s (j + off) hlt (by omega)
   have HD:Hid ((blK s).drop (j + off) = atK_ s (j + off) :: (blK s).drop (j + off + 1)):=bl_drop hlt
   rw [hE] at cE ⊢
   rw [HD.out] at HR HF
   rw [qd_cons] at HR
   obtain ⟨c,hc⟩:∃ c,atK_ s (j + off) = c:=⟨_,rfl⟩
   rw [hc] at hidx hrg HR HF
   have h0:=hrg.1
   have h1:=hrg.2
   clear hE hc HD hrg
   by_cases q1:c = 34
   ·have hR:=HR.out
    rw [if_pos q1] at hR
    subst q1
    have hcv:=conv_all HO.out HN.out HY.out
    have HRR:Hid (TR.ok 3 acc 0 (off + 1) = R):=hR
    clear hR cE HR
    go_wp2
    refine bodyPost_ret (v:=TR.v j R) ?_ rfl ⟨rfl,HBX.out.bel ⟨3,ofL acc,0,j,E + 1⟩ 0 0⟩
    rw [<- HRR.out]
    have e1:TR.v j (.ok 3 acc 0 (off + 1)) = .tuple #[Tk.v ⟨3,ofL acc,0,j,E + 1⟩,.agg #[.int .i64 0,.int .i64 0]]:=by
     have:=HE.out;subst this;simp only [TR.v,TR.tk,TR.err,TR.pl];congr 1
    rw [e1]
    exact HBX.out.res Tryz.results76 _ ⟨3,ofL acc,0,j,E + 1⟩ 0 0 rfl rfl
   ·have n1:(c == 34) = false:=beq_eq_false_iff_ne.2 q1
    have hR:=HR.out
    rw [if_neg q1] at hR
    clear q1 HR
    by_cases q2:c = 92
    ·rw [if_pos q2] at hR
     subst q2
     have HEV:Hid (escV s (j + off) = match esc ((blK s).drop (j + off + 1)) with | some (b,k)=>(b,j + off + 1 + k) | none=>(0,j + off)):=rfl
     cases ee:esc ((blK s).drop (j + off + 1)) with
     | none=>
      rw [ee] at hR HEV
      have hv:escV s (j + off) = (0,j + off):=HEV.out
      rw [hv] at cE
      have HRR:Hid (TR.bad 44 off = R):=hR
      have n2:(((j + off:Nat):Int) == E) = true:=by rw [HE.out];simp
      have cE':∀ (X:World),Calls Tryz.prog 117 #[.string s,.int .i64 E] X fun e w'=>e = .returned (.tuple #[.int .u8 0,.int .i64 E]) /\ w' = X:=fun X=>by
       have:=cE X;simp only [HE.out] at this;exact this
      clear hR cE HEV ee n2 hv n1
      go_wp2_with (go_at_call 117;refine (cE' _).mono ?_;rintro e w1 ⟨rfl,rfl⟩)
      refine bodyPost_ret (v:=TR.v j R) ?_ rfl ⟨rfl,HBX.out.bel ⟨0,⟨#[]⟩,0,0,0⟩ 44 E⟩
      rw [<- HRR.out]
      have e1:TR.v j (.bad 44 off) = .tuple #[Tk.v ⟨0,⟨#[]⟩,0,0,0⟩,.agg #[.int .i64 44,.int .i64 E]]:=by
       have:=HE.out;subst this;rfl
      rw [e1]
      exact HBX.out.res Tryz.results76 _ ⟨0,⟨#[]⟩,0,0,0⟩ 44 E rfl rfl
     | some bk=>
      obtain ⟨b,k⟩:=bk
      rw [ee] at hR HEV
      have hrg:=esc_rng ee
      have hv:escV s (j + off) = (b,j + off + 1 + k):=HEV.out
      rw [hv] at cE
      rw [List.length_drop,bl_len] at hrg
      obtain ⟨E2,hE2⟩:∃ E:Int,((j + off + 1 + k:Nat):Int) = E:=⟨_,rfl⟩
      have HE2:Hid (((j + off + 1 + k:Nat):Int) = E2):=hE2
      have cE':∀ (X:World),Calls Tryz.prog 117 #[.string s,.int .i64 E] X fun e w'=>e = .returned (.tuple #[.int .u8 b,.int .i64 E2]) /\ w' = X:=fun X=>by
       have:=cE X;simp only [hE2] at this;exact this
      have n2:(E2 == E) = false:=beq_eq_false_iff_ne.2 (by have:=HE.out;omega)
      have hR':qd f ((blK s).drop (j + (off + 1 + k))) (off + 1 + k) (acc ++ [b]) = R:=by
       rw [<- hR];simp only [List.drop_drop];congr 2 <;> omega
      have HRR:Hid (qd f ((blK s).drop (j + (off + 1 + k))) (off + 1 + k) (acc ++ [b]) = R):=hR'
      have HF2:Hid (((blK s).drop (j + (off + 1 + k))).length < f):=by
       have h:=HF.out
       show _ < f
       simp only [List.length_cons,List.length_drop,bl_len] at h ⊢
       omega
      have HY2:Hid (byt (acc ++ [b])):=fun x hx=>by
       rcases List.mem_append.1 hx with hx | hx
       ·exact HY.out x hx
       ·simp at hx;omega
      clear hR hR' cE HEV ee hv n1 hE2
      go_wp2_with (first | (go_at_call 117;refine (cE' _).mono ?_;rintro e w1 ⟨rfl,rfl⟩) | (at_builtin;refine app_bytes rfl _ _ rfl (w.heap.size + 2) u6 acc rfl (HO.out.later (below1K _ _)) w1.heap.size [b] rfl (heap_alloc_new w1 _) (by simp) (by simp;omega) (by simp;omega) ?_;intro v' w2 ho2 hb2))
      go_roundg (s.size - (j + (off + 1 + k)))
      case measure=>omega
      case rel=>exact ⟨off + 1 + k,f,acc ++ [b],by omega,by rw [<- HE2.out];congr 1;omega,HF2.out,HRR.out,HY2.out,by simp;omega,ho2,fun h=>by simp at h,(HBX.out.later (below1K _ _)).laterB hb2⟩
    ·have n2:(c == 92) = false:=beq_eq_false_iff_ne.2 q2
     rw [if_neg q2] at hR
     clear q2
     by_cases q3:c < 32 ∨ c = 127
     ·rw [if_pos q3] at hR
      have HRR:Hid (TR.bad 44 off = R):=hR
      clear hR cE
      have q4:c < 32 ∨ (32 <= c /\ c = 127):=by omega
      clear q3
      rcases q4 with q3 | ⟨q3,rfl⟩ <;>
      ·go_wp2
       refine bodyPost_ret (v:=TR.v j R) ?_ rfl ⟨rfl,HBX.out.bel ⟨0,⟨#[]⟩,0,0,0⟩ 44 E⟩
       rw [<- HRR.out]
       have e1:TR.v j (.bad 44 off) = .tuple #[Tk.v ⟨0,⟨#[]⟩,0,0,0⟩,.agg #[.int .i64 44,.int .i64 E]]:=by
        have:=HE.out;subst this;rfl
       rw [e1]
       exact HBX.out.res Tryz.results76 _ ⟨0,⟨#[]⟩,0,0,0⟩ 44 E rfl rfl
     ·rw [if_neg q3] at hR
      have m1:¬ c < 32:=by omega
      have m2:(c == 127) = false:=beq_eq_false_iff_ne.2 (by omega)
      have HRR:Hid (qd f ((blK s).drop (j + (off + 1))) (off + 1) (acc ++ [c]) = R):=hR
      have HF2:Hid (((blK s).drop (j + (off + 1))).length < f):=by
       have h:=HF.out
       show _ < f
       simp only [List.length_cons,List.length_drop,bl_len] at h ⊢
       omega
      have HY2:Hid (byt (acc ++ [c])):=fun x hx=>by
       rcases List.mem_append.1 hx with hx | hx
       ·exact HY.out x hx
       ·simp at hx;omega
      clear hR cE q3
      go_wp2_with (at_builtin;refine app_bytes rfl _ _ rfl (w.heap.size + 2) u6 acc rfl (HO.out.later (below1K _ _)) wr.heap.size [c] rfl (heap_alloc_new wr _) (by simp) (by simp;omega) (by simp;omega) ?_;intro v' w2 ho2 hb2)
      go_roundg g
      case measure=>omega
      case rel=>exact ⟨off + 1,f,acc ++ [c],by omega,by have:=HE.out;go_num,HF2.out,HRR.out,HY2.out,by simp;omega,ho2,fun h=>by simp at h,(HBX.out.later (below1K _ _)).laterB hb2⟩
  | zero=>
   have i1:¬ E < (s.size:Int):=by omega
   have hR:=HR.out
   rw [bl_drop_end (by omega),qd_end] at hR
   rw [hE]
   have HRR:Hid (TR.bad 43 0 = R):=hR
   clear hR HR hE
   go_wp2
   refine bodyPost_ret (v:=TR.v j R) ?_ rfl ⟨rfl,HBX.out.bel ⟨0,⟨#[]⟩,0,0,0⟩ 43 j⟩
   rw [<- HRR.out]
   exact HBX.out.res Tryz.results76 _ ⟨0,⟨#[]⟩,0,0,0⟩ 43 j rfl rfl
end Go.Proofs.YtcpjiahdaplhlaaGreatDoor
namespace Go.Proofs.YtcpjiahdaplhlaaGreatDoor
open Go.RowKit
theorem ofL_size (l:List Int):(ofL l).size = l.length:=by simp [ofL,i2b,ByteArray.size]
theorem byt_take {l:List Int} (h:byt l) (n:Nat):byt (l.take n):=fun x hx=>h x (List.mem_of_mem_take hx)
theorem byt_drop {l:List Int} (h:byt l) (n:Nat):byt (l.drop n):=fun x hx=>h x (List.mem_of_mem_drop hx)
theorem tok_cons (c:Int) (r:List Int):tok (c :: r) =
  if sml c = true then (if ofL ((c :: r).take (rl (c :: r))) = saysB then .ok 5 [] 0 (rl (c :: r)) else .ok 1 ((c :: r).take (rl (c :: r))) 0 (rl (c :: r)))
  else if grt c = true then .ok 2 ((c :: r).take (rl (c :: r))) 0 (rl (c :: r))
  else if c = 45 then numt (1 + rl r) (c :: r)
  else if dig c = true then numt (rl (c :: r)) (c :: r)
  else if c = 34 then qd (r.length + 1) r 1 []
  else sgt (c :: r):=rfl
theorem tok_small {c:Int} {r:List Int} (h:sml c = true):tok (c :: r) = if ofL ((c :: r).take (rl (c :: r))) = saysB then .ok 5 [] 0 (rl (c :: r)) else .ok 1 ((c :: r).take (rl (c :: r))) 0 (rl (c :: r)):=by
 rw [tok_cons,if_pos h]
theorem tok_great {c:Int} {r:List Int} (h1:sml c = false) (h:grt c = true):tok (c :: r) = .ok 2 ((c :: r).take (rl (c :: r))) 0 (rl (c :: r)):=by
 rw [tok_cons,if_neg (by rw [h1];simp),if_pos h]
theorem tok_minus {c:Int} {r:List Int} (h1:sml c = false) (h2:grt c = false) (h:c = 45):tok (c :: r) = numt (1 + rl r) (c :: r):=by
 rw [tok_cons,if_neg (by rw [h1];simp),if_neg (by rw [h2];simp),if_pos h]
theorem tok_dig {c:Int} {r:List Int} (h1:sml c = false) (h2:grt c = false) (h3:¬ c = 45) (h:dig c = true):tok (c :: r) = numt (rl (c :: r)) (c :: r):=by
 rw [tok_cons,if_neg (by rw [h1];simp),if_neg (by rw [h2];simp),if_neg h3,if_pos h]
theorem tok_quote {c:Int} {r:List Int} (h1:sml c = false) (h2:grt c = false) (h3:¬ c = 45) (h4:dig c = false) (h:c = 34):tok (c :: r) = qd (r.length + 1) r 1 []:=by
 rw [tok_cons,if_neg (by rw [h1];simp),if_neg (by rw [h2];simp),if_neg h3,if_neg (by rw [h4];simp),if_pos h]
theorem tok_sign {c:Int} {r:List Int} (h1:sml c = false) (h2:grt c = false) (h3:¬ c = 45) (h4:dig c = false) (h:¬ c = 34):tok (c :: r) = sgt (c :: r):=by
 rw [tok_cons,if_neg (by rw [h1];simp),if_neg (by rw [h2];simp),if_neg h3,if_neg (by rw [h4];simp),if_neg h]
theorem wos_eq (l:List Int) (n j:Nat) (hn:n <= l.length):wos (ofL (l.take n)) j = TR.tk j (if ofL (l.take n) = saysB then .ok 5 [] 0 n else .ok 1 (l.take n) 0 n):=by
 have e:(ofL (l.take n)).size = n:=by rw [ofL_size,List.length_take];omega
 unfold wos
 rw [e]
 by_cases h:ofL (l.take n) = saysB
 ·rw [if_pos h,if_pos h];rfl
 ·rw [if_neg h,if_neg h];rfl
theorem numt_some {n:Nat} {l:List Int} {v:Int} (h:num (l.take n) = some v):numt n l = .ok 4 [] v n:=by unfold numt;rw [h]
theorem numt_none {n:Nat} {l:List Int} (h:num (l.take n) = none):numt n l = .bad 45 0:=by unfold numt;rw [h]
set_option maxRecDepth 20000 in
set_option maxHeartbeats 2000000 in
theorem tokenAt_any (s:ByteArray) (j:Nat) (hj:j < s.size) (hs:s.size <= 9000000) (w:World) (hE:EnvOk w) :
  Calls Tryz.prog 36 #[.string s,.int .i64 j] w fun e w'=>e = .returned (TR.v j (tok ((blK s).drop j))) /\ Below w.heap.size w w':=by
 have hidx:=run_index_atK s j hj (j:Int) rfl
 have cq:=fun X=>quotedAt_any s j hj hs X
 have cg:=fun X h=>signAt_any s j hj (by omega) X h
 have cr:=runEnd_any s j (by omega) (by omega)
 have cr1:=runEnd_any s (j + 1) (by omega) (by omega)
 rw [rne_eq s j (by omega)] at cr
 rw [rne_eq s (j + 1) (by omega)] at cr1
 have HL:Hid (((blK s).drop j).length = s.size - j):=by show _ = _;rw [List.length_drop,bl_len]
 have HX:Hid (∀ m,s.extract j (j + m) = ofL (((blK s).drop j).take m)):=fun m=>by rw [extract_eq];congr 2;omega
 have HBy:Hid (byt ((blK s).drop j)):=byt_drop (bl_byt s) j
 rw [bl_drop hj] at cr cg HL HX HBy ⊢
 obtain ⟨r,hr⟩:∃ r,(blK s).drop (j + 1) = r:=⟨_,rfl⟩
 rw [hr] at cr cr1 cq cg HL HX HBy ⊢
 have hc0:=at_range s j
 obtain ⟨c,hc⟩:∃ c,atK_ s j = c:=⟨_,rfl⟩
 rw [hc] at hidx cr cg HL HX HBy hc0 ⊢
 have h0:=hc0.1
 have h1:=hc0.2
 have HE:Hid (EnvOk w):=hE
 clear hr hc hc0 hE
 have ca:=small_anyK c
 have cb:=great_any c
 have cd:=digit_any c
 obtain ⟨R,hR⟩:∃ R,tok (c :: r) = R:=⟨_,rfl⟩
 have HR:Hid (tok (c :: r) = R):=hR
 rw [hR]
 clear hR
 go_enter Tryz.func36,Tryz.ntmps36
 go_upto_region 1 with fail
 have bx:=BxK.start w
 revert bx
 generalize (w.alloc (.cells #[.int .i64 0,.string ⟨#[]⟩,.int .i64 0,.int .i64 0,.int .i64 0] 64)).alloc (.cells #[.int .i64 0,.int .i64 0] 26) = W1
 intro bx
 have HBX:Hid (BxK w W1):=bx
 have HE1:Hid (EnvOk W1):=HE.out.later bx.b
 obtain ⟨d0,d1,d2,d3,d4⟩:=fiveK bx.t
 obtain ⟨f0,f1,f2,f3,f4⟩:=fiveFK bx.t
 obtain ⟨b0,b1,b2,b3⟩:=two bx.f
 clear bx HE
 cases a:sml c
 ·cases b:grt c
  ·by_cases m:c = 45
   ·-- a minus sign
    rw [a] at ca
    rw [b] at cb
    have n1:(c == 45) = true:=by simp [m]
    have hn:1 + rl r <= (c :: r).length:=by have:=rl_le r;simp;omega
    have hRR:=HR.out
    rw [tok_minus a b m] at hRR
    obtain ⟨n,hnn⟩:∃ n,1 + rl r = n:=⟨_,rfl⟩
    rw [hnn] at hRR hn
    have hln:=HL.out
    have hE1:((j + n:Nat):Int) <= (s.size:Int):=by omega
    have hx:s.extract j (((j + n:Nat):Int)).toNat = ofL ((c :: r).take n):=by rw [Int.toNat_natCast];exact HX.out n
    have cn:=fun (W:World) (h:EnvOk W)=>number_any (ofL ((c :: r).take n)) (by rw [ofL_size,List.length_take];omega) W h
    have hbl:blK (ofL ((c :: r).take n)) = (c :: r).take n:=bl_ofL (byt_take HBy.out n)
    simp only [hbl] at cn
    have hj1:(j:Int) <= ((j + n:Nat):Int):=by omega
    obtain ⟨E,hE⟩:∃ E:Int,((j + n:Nat):Int) = E:=⟨_,rfl⟩
    have HEE:Hid (((j + n:Nat):Int) = E):=hE
    rw [show j + 1 + rl r = j + n by omega] at cr1
    rw [hE] at hE1 hx hj1 cr1
    rw [show ((j + 1:Nat):Int) = (j:Int) + 1 by omega] at cr1
    generalize ofL ((c :: r).take n) = X at *
    clear hln hn hE hnn hbl cq cg HX HL HBy m cr
    cases o:num ((c :: r).take n) with
    | some v=>
     rw [numt_some o] at hRR
     have HRR:Hid (TR.ok 4 [] v n = R):=hRR
     have cn2:∀ (W:World),EnvOk W -> Calls Tryz.prog 75 #[.string X] W fun e w'=>e = .returned (.tuple #[.int .i64 v,.bool true]) /\ Below W.heap.size W w':=fun W h=>by have:=cn W h;rw [o] at this;exact this
     clear hRR o cn HR
     go_wp2_with (first | (go_at_call 70;refine (ca _).mono ?_;rintro e w1 ⟨rfl,rfl⟩) | (go_at_call 73;refine (cb _).mono ?_;rintro e w1 ⟨rfl,rfl⟩) | (go_at_call 71;refine (cr1 _).mono ?_;rintro e w1 ⟨rfl,rfl⟩) | (go_at_call 75;refine (cn2 _ HE1.out).mono ?_;rintro e w2 ⟨rfl,hb2⟩;have HB2:Hid (Below _ _ _):=hb2;clear d0 d1 d2 d3 d4 f0 f1 f2 f3 f4 b0 b1 b2 b3;obtain ⟨d0,d1,d2,d3,d4⟩:=fiveK (HBX.out.later hb2).t;obtain ⟨f0,f1,f2,f3,f4⟩:=fiveFK (HBX.out.later hb2).t;obtain ⟨b0,b1,b2,b3⟩:=two (HBX.out.later hb2).f;clear hb2))
     have e1:R = TR.ok 4 [] v n:=HRR.out.symm
     have hbx:=HBX.out.later HB2.out
     have hEE:=HEE.out
     subst hEE
     refine bodyPost_ret (v:=TR.v j R) ?_ rfl ⟨rfl,hbx.bel ⟨4,⟨#[]⟩,v,j,_⟩ 0 0⟩
     rw [e1]
     exact hbx.res Tryz.results36 _ ⟨4,⟨#[]⟩,v,j,_⟩ 0 0 rfl rfl
    | none=>
     rw [numt_none o] at hRR
     have HRR:Hid (TR.bad 45 0 = R):=hRR
     have cn2:∀ (W:World),EnvOk W -> Calls Tryz.prog 75 #[.string X] W fun e w'=>e = .returned (.tuple #[.int .i64 0,.bool false]) /\ Below W.heap.size W w':=fun W h=>by have:=cn W h;rw [o] at this;exact this
     clear hRR o cn HR
     go_wp2_with (first | (go_at_call 70;refine (ca _).mono ?_;rintro e w1 ⟨rfl,rfl⟩) | (go_at_call 73;refine (cb _).mono ?_;rintro e w1 ⟨rfl,rfl⟩) | (go_at_call 71;refine (cr1 _).mono ?_;rintro e w1 ⟨rfl,rfl⟩) | (go_at_call 75;refine (cn2 _ HE1.out).mono ?_;rintro e w2 ⟨rfl,hb2⟩;have HB2:Hid (Below _ _ _):=hb2;clear d0 d1 d2 d3 d4 f0 f1 f2 f3 f4 b0 b1 b2 b3;obtain ⟨d0,d1,d2,d3,d4⟩:=fiveK (HBX.out.later hb2).t;obtain ⟨f0,f1,f2,f3,f4⟩:=fiveFK (HBX.out.later hb2).t;obtain ⟨b0,b1,b2,b3⟩:=two (HBX.out.later hb2).f;clear hb2))
     have e1:R = TR.bad 45 0:=HRR.out.symm
     have hbx:=HBX.out.later HB2.out
     refine bodyPost_ret (v:=TR.v j R) ?_ rfl ⟨rfl,hbx.bel ⟨0,⟨#[]⟩,0,0,0⟩ 45 j⟩
     rw [e1]
     exact hbx.res Tryz.results36 _ ⟨0,⟨#[]⟩,0,0,0⟩ 45 j rfl rfl
   ·have n1:(c == 45) = false:=beq_eq_false_iff_ne.2 m
    cases d:dig c
    ·by_cases q:c = 34
     ·-- a quoted text
      rw [a] at ca
      rw [b] at cb
      rw [d] at cd
      have hRR:=HR.out
      rw [tok_quote a b m d q] at hRR
      have n2:(c == 34) = true:=by simp [q]
      obtain ⟨t,e,p,he⟩:∃ (t:Tk) (e p:Int),TR.v j R = .tuple #[t.v,.agg #[.int .i64 e,.int .i64 p]]:=⟨R.tk j,R.err,R.pl j,rfl⟩
      rw [hRR] at cq
      simp only [he] at cq
      have HHe:Hid (TR.v j R = .tuple #[t.v,.agg #[.int .i64 e,.int .i64 p]]):=he
      obtain ⟨tk,tx,tn,ta,te⟩:=t
      clear hRR he HR HX HL HBy cr cr1 cg m q
      go_wp2_with (first | (go_at_call 70;refine (ca _).mono ?_;rintro e w1 ⟨rfl,rfl⟩) | (go_at_call 73;refine (cb _).mono ?_;rintro e w1 ⟨rfl,rfl⟩) | (go_at_call 74;refine (cd _).mono ?_;rintro e w1 ⟨rfl,rfl⟩) | (go_at_call 76;refine (cq _).mono ?_;rintro e w2 ⟨rfl,hb2⟩;have HB2:Hid (Below _ _ _):=hb2;clear d0 d1 d2 d3 d4 f0 f1 f2 f3 f4 b0 b1 b2 b3;obtain ⟨d0,d1,d2,d3,d4⟩:=fiveK (HBX.out.later hb2).t;obtain ⟨f0,f1,f2,f3,f4⟩:=fiveFK (HBX.out.later hb2).t;obtain ⟨b0,b1,b2,b3⟩:=two (HBX.out.later hb2).f;clear hb2))
      have hbx:=HBX.out.later HB2.out
      refine bodyPost_ret (v:=TR.v j R) ?_ rfl ⟨rfl,hbx.bel ⟨tk,tx,tn,ta,te⟩ e p⟩
      rw [HHe.out]
      exact hbx.res Tryz.results36 _ ⟨tk,tx,tn,ta,te⟩ e p rfl rfl
     ·-- a sign
      rw [a] at ca
      rw [b] at cb
      rw [d] at cd
      have hRR:=HR.out
      rw [tok_sign a b m d q] at hRR
      have n2:(c == 34) = false:=beq_eq_false_iff_ne.2 q
      obtain ⟨t,e,p,he⟩:∃ (t:Tk) (e p:Int),TR.v j R = .tuple #[t.v,.agg #[.int .i64 e,.int .i64 p]]:=⟨R.tk j,R.err,R.pl j,rfl⟩
      rw [hRR] at cg
      simp only [he] at cg
      have HHe:Hid (TR.v j R = .tuple #[t.v,.agg #[.int .i64 e,.int .i64 p]]):=he
      obtain ⟨tk,tx,tn,ta,te⟩:=t
      clear hRR he HR HX HL HBy cr cr1 cq m q
      go_wp2_with (first | (go_at_call 70;refine (ca _).mono ?_;rintro e w1 ⟨rfl,rfl⟩) | (go_at_call 73;refine (cb _).mono ?_;rintro e w1 ⟨rfl,rfl⟩) | (go_at_call 74;refine (cd _).mono ?_;rintro e w1 ⟨rfl,rfl⟩) | (go_at_call 77;refine (cg _ HE1.out.signs).mono ?_;rintro e w2 ⟨rfl,hb2⟩;have HB2:Hid (Below _ _ _):=hb2;clear d0 d1 d2 d3 d4 f0 f1 f2 f3 f4 b0 b1 b2 b3;obtain ⟨d0,d1,d2,d3,d4⟩:=fiveK (HBX.out.later hb2).t;obtain ⟨f0,f1,f2,f3,f4⟩:=fiveFK (HBX.out.later hb2).t;obtain ⟨b0,b1,b2,b3⟩:=two (HBX.out.later hb2).f;clear hb2))
      have hbx:=HBX.out.later HB2.out
      refine bodyPost_ret (v:=TR.v j R) ?_ rfl ⟨rfl,hbx.bel ⟨tk,tx,tn,ta,te⟩ e p⟩
      rw [HHe.out]
      exact hbx.res Tryz.results36 _ ⟨tk,tx,tn,ta,te⟩ e p rfl rfl
    ·-- a number
     rw [a] at ca
     rw [b] at cb
     rw [d] at cd
     have hn:rl (c :: r) <= (c :: r).length:=rl_le _
     have hRR:=HR.out
     rw [tok_dig a b m d] at hRR
     obtain ⟨n,hnn⟩:∃ n,rl (c :: r) = n:=⟨_,rfl⟩
     rw [hnn] at hRR hn cr
     have hln:=HL.out
     have hE1:((j + n:Nat):Int) <= (s.size:Int):=by omega
     have hx:s.extract j (((j + n:Nat):Int)).toNat = ofL ((c :: r).take n):=by rw [Int.toNat_natCast];exact HX.out n
     have cn:=fun (W:World) (h:EnvOk W)=>number_any (ofL ((c :: r).take n)) (by rw [ofL_size,List.length_take];omega) W h
     have hbl:blK (ofL ((c :: r).take n)) = (c :: r).take n:=bl_ofL (byt_take HBy.out n)
     simp only [hbl] at cn
     have hj1:(j:Int) <= ((j + n:Nat):Int):=by omega
     obtain ⟨E,hE⟩:∃ E:Int,((j + n:Nat):Int) = E:=⟨_,rfl⟩
     have HEE:Hid (((j + n:Nat):Int) = E):=hE
     rw [hE] at hE1 hx hj1 cr
     skip
     skip
     generalize ofL ((c :: r).take n) = X at *
     clear hln hn hE hnn hbl cq cg HX HL HBy m cr1
     cases o:num ((c :: r).take n) with
     | some v=>
      rw [numt_some o] at hRR
      have HRR:Hid (TR.ok 4 [] v n = R):=hRR
      have cn2:∀ (W:World),EnvOk W -> Calls Tryz.prog 75 #[.string X] W fun e w'=>e = .returned (.tuple #[.int .i64 v,.bool true]) /\ Below W.heap.size W w':=fun W h=>by have:=cn W h;rw [o] at this;exact this
      clear hRR o cn HR
      go_wp2_with (first | (go_at_call 70;refine (ca _).mono ?_;rintro e w1 ⟨rfl,rfl⟩) | (go_at_call 73;refine (cb _).mono ?_;rintro e w1 ⟨rfl,rfl⟩) | (go_at_call 74;refine (cd _).mono ?_;rintro e w1 ⟨rfl,rfl⟩) | (go_at_call 71;refine (cr _).mono ?_;rintro e w1 ⟨rfl,rfl⟩) | (go_at_call 75;refine (cn2 _ HE1.out).mono ?_;rintro e w2 ⟨rfl,hb2⟩;have HB2:Hid (Below _ _ _):=hb2;clear d0 d1 d2 d3 d4 f0 f1 f2 f3 f4 b0 b1 b2 b3;obtain ⟨d0,d1,d2,d3,d4⟩:=fiveK (HBX.out.later hb2).t;obtain ⟨f0,f1,f2,f3,f4⟩:=fiveFK (HBX.out.later hb2).t;obtain ⟨b0,b1,b2,b3⟩:=two (HBX.out.later hb2).f;clear hb2))
      have e1:R = TR.ok 4 [] v n:=HRR.out.symm
      have hbx:=HBX.out.later HB2.out
      have hEE:=HEE.out
      subst hEE
      refine bodyPost_ret (v:=TR.v j R) ?_ rfl ⟨rfl,hbx.bel ⟨4,⟨#[]⟩,v,j,_⟩ 0 0⟩
      rw [e1]
      exact hbx.res Tryz.results36 _ ⟨4,⟨#[]⟩,v,j,_⟩ 0 0 rfl rfl
     | none=>
      rw [numt_none o] at hRR
      have HRR:Hid (TR.bad 45 0 = R):=hRR
      have cn2:∀ (W:World),EnvOk W -> Calls Tryz.prog 75 #[.string X] W fun e w'=>e = .returned (.tuple #[.int .i64 0,.bool false]) /\ Below W.heap.size W w':=fun W h=>by have:=cn W h;rw [o] at this;exact this
      clear hRR o cn HR
      go_wp2_with (first | (go_at_call 70;refine (ca _).mono ?_;rintro e w1 ⟨rfl,rfl⟩) | (go_at_call 73;refine (cb _).mono ?_;rintro e w1 ⟨rfl,rfl⟩) | (go_at_call 74;refine (cd _).mono ?_;rintro e w1 ⟨rfl,rfl⟩) | (go_at_call 71;refine (cr _).mono ?_;rintro e w1 ⟨rfl,rfl⟩) | (go_at_call 75;refine (cn2 _ HE1.out).mono ?_;rintro e w2 ⟨rfl,hb2⟩;have HB2:Hid (Below _ _ _):=hb2;clear d0 d1 d2 d3 d4 f0 f1 f2 f3 f4 b0 b1 b2 b3;obtain ⟨d0,d1,d2,d3,d4⟩:=fiveK (HBX.out.later hb2).t;obtain ⟨f0,f1,f2,f3,f4⟩:=fiveFK (HBX.out.later hb2).t;obtain ⟨b0,b1,b2,b3⟩:=two (HBX.out.later hb2).f;clear hb2))
      have e1:R = TR.bad 45 0:=HRR.out.symm
      have hbx:=HBX.out.later HB2.out
      refine bodyPost_ret (v:=TR.v j R) ?_ rfl ⟨rfl,hbx.bel ⟨0,⟨#[]⟩,0,0,0⟩ 45 j⟩
      rw [e1]
      exact hbx.res Tryz.results36 _ ⟨0,⟨#[]⟩,0,0,0⟩ 45 j rfl rfl
  ·-- a variable
   rw [a] at ca
   rw [b] at cb
   have hRR:=HR.out
   rw [tok_great a b] at hRR
   have hn:=rl_le (c :: r)
   skip
   skip
   obtain ⟨n,hnn⟩:∃ n,rl (c :: r) = n:=⟨_,rfl⟩
   rw [hnn] at hRR hn cr
   have hln:=HL.out
   have hE1:((j + n:Nat):Int) <= (s.size:Int):=by omega
   have hj1:(j:Int) <= ((j + n:Nat):Int):=by omega
   have hx:s.extract j (((j + n:Nat):Int)).toNat = ofL ((c :: r).take n):=by rw [Int.toNat_natCast];exact HX.out n
   have hxs:(ofL ((c :: r).take n)).size <= 9000000:=by rw [ofL_size,List.length_take];omega
   obtain ⟨E,hE⟩:∃ E:Int,((j + n:Nat):Int) = E:=⟨_,rfl⟩
   have HEE:Hid (((j + n:Nat):Int) = E):=hE
   rw [hE] at hE1 hx hj1 cr
   have HRR:Hid (TR.ok 2 ((c :: r).take n) 0 n = R):=hRR
   obtain ⟨X,hX⟩:∃ X,ofL ((c :: r).take n) = X:=⟨_,rfl⟩
   have HXX:Hid (ofL ((c :: r).take n) = X):=hX
   rw [hX] at hx hxs
   clear hRR hX hln hn hE hnn cq cg cr1 HX HL HBy HR cd
   go_wp2_with (first | (go_at_call 70;refine (ca _).mono ?_;rintro e w1 ⟨rfl,rfl⟩) | (go_at_call 73;refine (cb _).mono ?_;rintro e w1 ⟨rfl,rfl⟩) | (go_at_call 71;refine (cr _).mono ?_;rintro e w1 ⟨rfl,rfl⟩))
   refine bodyPost_ret (v:=TR.v j R) ?_ rfl ⟨rfl,HBX.out.bel ⟨2,X,0,j,E⟩ 0 0⟩
   rw [<- HRR.out]
   have hv:TR.v j (.ok 2 ((c :: r).take n) 0 n) = .tuple #[Tk.v ⟨2,X,0,j,E⟩,.agg #[.int .i64 0,.int .i64 0]]:=by
    have h1:=HEE.out
    have h2:=HXX.out
    subst h1
    subst h2
    rfl
   rw [hv]
   exact HBX.out.res Tryz.results36 _ ⟨2,X,0,j,E⟩ 0 0 rfl rfl
 ·-- a word
  rw [a] at ca
  have hRR:=HR.out
  rw [tok_small a] at hRR
  have hn:=rl_le (c :: r)
  have hW:=wos_eq (c :: r) (rl (c :: r)) j hn
  rw [hRR] at hW
  obtain ⟨n,hnn⟩:∃ n,rl (c :: r) = n:=⟨_,rfl⟩
  rw [hnn] at hRR hn cr hW
  have hln:=HL.out
  have hE1:((j + n:Nat):Int) <= (s.size:Int):=by omega
  have hj1:(j:Int) <= ((j + n:Nat):Int):=by omega
  have hx:s.extract j (((j + n:Nat):Int)).toNat = ofL ((c :: r).take n):=by rw [Int.toNat_natCast];exact HX.out n
  have hxs:(ofL ((c :: r).take n)).size <= 9000000:=by rw [ofL_size,List.length_take];omega
  obtain ⟨E,hE⟩:∃ E:Int,((j + n:Nat):Int) = E:=⟨_,rfl⟩
  have HEE:Hid (((j + n:Nat):Int) = E):=hE
  rw [hE] at hE1 hx hj1 cr
  have hv:TR.v j R = .tuple #[(R.tk j).v,.agg #[.int .i64 0,.int .i64 0]]:=by
   rw [<- hRR]
   split <;> rfl
  rw [<- hW] at hv
  have HHe:Hid (TR.v j R = .tuple #[(wos (ofL ((c :: r).take n)) j).v,.agg #[.int .i64 0,.int .i64 0]]):=hv
  have cw:=fun (W:World) (h:SaysOk W)=>wordOrSays_any (ofL ((c :: r).take n)) j (by omega) (by omega) W h
  generalize ofL ((c :: r).take n) = X at *
  generalize wos X j = t at *
  obtain ⟨tk,tx,tn,ta,te⟩:=t
  clear hRR hW hv hln hn hE hnn cq cg cr1 HX HL HBy HR cb cd
  go_wp2_with (first | (go_at_call 70;refine (ca _).mono ?_;rintro e w1 ⟨rfl,rfl⟩) | (go_at_call 71;refine (cr _).mono ?_;rintro e w1 ⟨rfl,rfl⟩) | (go_at_call 72;refine (cw _ HE1.out.signs.says).mono ?_;rintro e w2 ⟨rfl,hb2⟩;have HB2:Hid (Below _ _ _):=hb2;clear d0 d1 d2 d3 d4 f0 f1 f2 f3 f4 b0 b1 b2 b3;obtain ⟨d0,d1,d2,d3,d4⟩:=fiveK (HBX.out.later hb2).t;obtain ⟨f0,f1,f2,f3,f4⟩:=fiveFK (HBX.out.later hb2).t;obtain ⟨b0,b1,b2,b3⟩:=two (HBX.out.later hb2).f;clear hb2))
  have hbx:=HBX.out.later HB2.out
  refine bodyPost_ret (v:=TR.v j R) ?_ rfl ⟨rfl,hbx.bel ⟨tk,tx,tn,ta,te⟩ 0 0⟩
  rw [HHe.out]
  exact hbx.res Tryz.results36 _ ⟨tk,tx,tn,ta,te⟩ 0 0 rfl rfl
end Go.Proofs.YtcpjiahdaplhlaaGreatDoor

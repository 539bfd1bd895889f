import Derived.Test.YtcpjiahdaplhlaaGreatDoorCL11
import Derived.Laws.EntriesVeiled
namespace Go.Proofs.YtcpjiahdaplhlaaGreatDoor
open Go.RowKit Go.Shelf
def chkL:List (Bool × Int) -> Int
 | []=>0
 | x :: r=>if x.1 = true then x.2 else chkL r
def Cm.rs (c:Cm):List (Bool × Int):=[(long c,31),(decide (aErr c.atoms = 21),21),(decide (aErr c.atoms = 22),22),(decide (aErr c.atoms = 23),23),(decide (aErr c.atoms = 24),24),(badT c,32),(c.head.1.by_.var,33),(unb c,34),(mis 0 c.vars,35)]
def Cm.chk (c:Cm):Int:=chkL c.rs
structure Cm.wf (c:Cm):Prop where
 n:∀ t ∈ c.terms,t.var = true -> (Lit.int .i64 t.n).wf = true
 l:c.terms.length < 4000000000000000000
theorem mem_vrs {l:List Tm} {v:Int} (h:v ∈ vrs l):∃ t ∈ l,t.var = true /\ t.n = v:=by
 unfold vrs at h
 obtain ⟨t,ht,rfl⟩:=List.mem_map.1 h
 obtain ⟨h1,h2⟩:=List.mem_filter.1 ht
 exact ⟨t,h1,h2,rfl⟩
theorem vrs_len (l:List Tm):(vrs l).length <= l.length:=by
 unfold vrs;rw [List.length_map];exact List.length_filter_le _ _
theorem bodyC_terms (c:Cm):c.bodyC.terms = ⟨0,0,⟨#[]⟩⟩ :: flt c.body:=by
 simp [Cm.terms,Cm.bodyC,Cm.atoms,At.pl,flt]
theorem restC_terms (c:Cm):c.restC.terms = c.head.1.pl ++ tls c.tests:=by
 simp [Cm.terms,Cm.restC,Cm.atoms,At.pl,tls]
theorem Cm.terms_eq (c:Cm):c.terms = c.head.1.pl ++ flt c.body ++ tls c.tests:=by
 simp [Cm.terms,Cm.atoms,flt,tls]
theorem zt_var:(Tm.mk 0 0 ⟨#[]⟩).var = false:=by simp [Tm.var]
theorem Cm.wf.vars {c:Cm} (h:c.wf):(∀ v ∈ c.vars,(Lit.int .i64 v).wf = true) /\ c.vars.length < 4000000000000000000:=
 ⟨fun v hv=>by obtain ⟨t,ht,hvt,rfl⟩:=mem_vrs (l:=c.terms) hv;exact h.n t ht hvt,Nat.lt_of_le_of_lt (vrs_len c.terms) h.l⟩
theorem Cm.wf.bodyV {c:Cm} (h:c.wf):(∀ v ∈ c.bodyC.vars,(Lit.int .i64 v).wf = true) /\ c.bodyC.vars.length < 4000000000000000000:=by
 refine ⟨fun v hv=>?_, ?_⟩
 ·obtain ⟨t,ht,hvt,rfl⟩:=mem_vrs (l:=c.bodyC.terms) hv
  rw [bodyC_terms] at ht
  rcases List.mem_cons.1 ht with rfl | ht
  ·rw [zt_var] at hvt;cases hvt
  ·exact h.n t (by rw [Cm.terms_eq];simp [ht]) hvt
 ·have e:c.bodyC.vars = vrs (flt c.body):=by
   show vrs c.bodyC.terms = _
   rw [bodyC_terms];simp [vrs,zt_var]
  rw [e]
  have h1:=vrs_len (flt c.body)
  have h2:=h.l
  rw [Cm.terms_eq] at h2
  simp only [List.length_append] at h2
  omega
theorem Cm.wf.restV {c:Cm} (h:c.wf):∀ v ∈ c.restC.vars,(Lit.int .i64 v).wf = true:=by
 intro v hv
 obtain ⟨t,ht,hvt,rfl⟩:=mem_vrs (l:=c.restC.terms) hv
 rw [restC_terms] at ht
 refine h.n t ?_ hvt
 rw [Cm.terms_eq]
 rcases List.mem_append.1 ht with ht | ht <;> simp [ht]
theorem two_at {w:World} {T:Nat} {c:Array Value} {t:TypeId} (h:CBlk w T c t) (i:Nat) (x y:Value) (hx:c[i]? = some x) (hy:c[i + 1]? = some y):w.cell? ⟨T,i,none⟩ = some x /\ w.cell? ⟨T,i + 1,none⟩ = some y:=by
 constructor
 ·rw [cell_of_row _ _ _ _ _ _ h];exact hx
 ·rw [cell_of_row _ _ _ _ _ _ h];exact hy
set_option maxRecDepth 20000 in
set_option maxHeartbeats 8000000 in
theorem check9_any (c:Cm) (w:World) (h:c.ok w) (hwf:c.wf):Calls Tryz.prog 58 #[c.v] w fun e w'=>e = .returned (.int .i64 c.chk) /\ Below w.heap.size w w':=by
 obtain ⟨⟨a,hn,cap,h1⟩,⟨a',cap',h2⟩,⟨a'',cap'',h3⟩,hbl,htl⟩:=h.shape
 obtain ⟨hwv,hlv⟩:=hwf.vars
 obtain ⟨hwb,hlb⟩:=hwf.bodyV
 have hwr:=hwf.restV
 have hok:=fun (X:World) (hX:Below w.heap.size w X)=>h.later hX
 have b0:=CBlk.new w c.cs 53
 have z0:(w.alloc (.cells c.cs 53)).heap.size = w.heap.size + 1:=by simp
 have hb0:=below1 w (.cells c.cs 53)
 obtain ⟨W0,hW0⟩:∃ W0,w.alloc (.cells c.cs 53) = W0:=⟨_,rfl⟩
 rw [hW0] at b0 z0 hb0
 have hch:=checks_any W0
 -- the boxes of the four errors,and the table
 have g0:CBlk (chW W0) W0.heap.size #[.int .i64 21] 24:=((((CBlk.new W0 _ _).later (below1 _ _)).later (below1 _ _)).later (below1 _ _)).later (below1 _ _)
 have g1:CBlk (chW W0) (W0.heap.size + 1) #[.int .i64 22] 24:=by
  have:=(((CBlk.new (W0.alloc (.cells #[.int .i64 21] 24)) #[.int .i64 22] 24).later (below1 _ (.cells #[.int .i64 23] 24))).later (below1 _ (.cells #[.int .i64 24] 24))).later (below1 _ (.cells (tbl W0.heap.size) 120))
  simpa using this
 have g2:CBlk (chW W0) (W0.heap.size + 1 + 1) #[.int .i64 23] 24:=by
  have:=((CBlk.new ((W0.alloc (.cells #[.int .i64 21] 24)).alloc (.cells #[.int .i64 22] 24)) #[.int .i64 23] 24).later (below1 _ (.cells #[.int .i64 24] 24))).later (below1 _ (.cells (tbl W0.heap.size) 120))
  simpa using this
 have g3:CBlk (chW W0) (W0.heap.size + 1 + 1 + 1) #[.int .i64 24] 24:=by
  have:=(CBlk.new (((W0.alloc (.cells #[.int .i64 21] 24)).alloc (.cells #[.int .i64 22] 24)).alloc (.cells #[.int .i64 23] 24)) #[.int .i64 24] 24).later (below1 _ (.cells (tbl W0.heap.size) 120))
  simpa using this
 have g4:CBlk (chW W0) (W0.heap.size + 1 + 1 + 1 + 1) (tbl W0.heap.size) 120:=by
  have:=CBlk.new ((((W0.alloc (.cells #[.int .i64 21] 24)).alloc (.cells #[.int .i64 22] 24)).alloc (.cells #[.int .i64 23] 24)).alloc (.cells #[.int .i64 24] 24)) (tbl W0.heap.size) 120
  simpa using this
 have hbC:Below W0.heap.size W0 (chW W0):=by
  refine ⟨rfl,rfl,rfl,by simp;omega,fun q hq=>?_⟩
  exact (((Below.heap_alloc _ _ _ (by simp;omega)).trans (Below.heap_alloc _ _ _ (by simp;omega))).trans (Below.heap_alloc _ _ _ (by simp;omega))).trans ((Below.heap_alloc _ _ _ (by simp;omega)).trans (Below.heap_alloc _ _ _ (by omega)))
 have b1:=b0.later hbC
 have hbw:=below_step hb0 hbC
 obtain ⟨W1,hW1⟩:∃ W1,chW W0 = W1:=⟨_,rfl⟩
 rw [hW1] at hch g0 g1 g2 g3 g4 b1 hbw
 obtain ⟨N,hN⟩:∃ N,W0.heap.size = N:=⟨_,rfl⟩
 rw [hN] at hch g0 g1 g2 g3 g4
 have HE0:Hid (CBlk W1 N #[.int .i64 21] 24):=g0
 have HE1:Hid (CBlk W1 (N + 1) #[.int .i64 22] 24):=g1
 have HE2:Hid (CBlk W1 (N + 1 + 1) #[.int .i64 23] 24):=g2
 have HE3:Hid (CBlk W1 (N + 1 + 1 + 1) #[.int .i64 24] 24):=g3
 have HTb:Hid (CBlk W1 (N + 1 + 1 + 1 + 1) (tbl N) 120):=g4
 have HC:Hid (CBlk W1 w.heap.size c.cs 53):=b1
 have HBW:Hid (Below w.heap.size w W1):=hbw
 have hok1:=fun (X:World) (hX:Below W1.heap.size W1 X)=>hok X (below_step hbw hX)
 clear hok
 have hok:=hok1
 have k0:=fun (X:World) (hX:Below W1.heap.size W1 X)=>tooLong_any _ X (hok X hX)
 have k1:=fun (X:World) (hX:Below W1.heap.size W1 X)=>wrongAtom1_any _ _ _ X (hok X hX) (HE0.out.later hX)
 have k2:=fun (X:World) (hX:Below W1.heap.size W1 X)=>wrongAtom1_any _ _ _ X (hok X hX) (HE1.out.later hX)
 have k3:=fun (X:World) (hX:Below W1.heap.size W1 X)=>wrongAtom1_any _ _ _ X (hok X hX) (HE2.out.later hX)
 have k4:=fun (X:World) (hX:Below W1.heap.size W1 X)=>wrongAtom1_any _ _ _ X (hok X hX) (HE3.out.later hX)
 have k5:=fun (X:World) (hX:Below W1.heap.size W1 X)=>wrongTest_any _ X (hok X hX)
 have k6:=fun (X:World) (hX:Below W1.heap.size W1 X)=>speaks_any _ X (hok X hX)
 have k7:=fun (X:World) (hX:Below W1.heap.size W1 X)=>unbound_any _ X (hok X hX) hwb hwr hlb
 have k8:=fun (X:World) (hX:Below W1.heap.size W1 X)=>misnumbered_any _ X (hok X hX) hlv
 unfold Cm.chk Cm.rs
 obtain ⟨r0,hr0⟩:∃ r,long c = r:=⟨_,rfl⟩
 simp only [hr0] at k0 ⊢
 clear hr0
 obtain ⟨r1,hr1⟩:∃ r,decide (aErr c.atoms = 21) = r:=⟨_,rfl⟩
 simp only [hr1] at k1 ⊢
 clear hr1
 obtain ⟨r2,hr2⟩:∃ r,decide (aErr c.atoms = 22) = r:=⟨_,rfl⟩
 simp only [hr2] at k2 ⊢
 clear hr2
 obtain ⟨r3,hr3⟩:∃ r,decide (aErr c.atoms = 23) = r:=⟨_,rfl⟩
 simp only [hr3] at k3 ⊢
 clear hr3
 obtain ⟨r4,hr4⟩:∃ r,decide (aErr c.atoms = 24) = r:=⟨_,rfl⟩
 simp only [hr4] at k4 ⊢
 clear hr4
 obtain ⟨r5,hr5⟩:∃ r,badT c = r:=⟨_,rfl⟩
 simp only [hr5] at k5 ⊢
 clear hr5
 obtain ⟨r6,hr6⟩:∃ r,c.head.1.by_.var = r:=⟨_,rfl⟩
 simp only [hr6] at k6 ⊢
 clear hr6
 obtain ⟨r7,hr7⟩:∃ r,unb c = r:=⟨_,rfl⟩
 simp only [hr7] at k7 ⊢
 clear hr7
 obtain ⟨r8,hr8⟩:∃ r,mis 0 c.vars = r:=⟨_,rfl⟩
 simp only [hr8] at k8 ⊢
 clear hr8
 obtain ⟨R,hR⟩:∃ R,chkL [(r0,31),(r1,21),(r2,22),(r3,23),(r4,24),(r5,32),(r6,33),(r7,34),(r8,35)] = R:=⟨_,rfl⟩
 have HR:Hid (chkL [(r0,31),(r1,21),(r2,22),(r3,23),(r4,24),(r5,32),(r6,33),(r7,34),(r8,35)] = R):=hR
 rw [hR]
 clear hR hok hok1 hwv hwb hwr hlv hlb g0 g1 g2 g3 g4 b0 b1 hb0 hbC hbw hwf h hW1 hN z0
 obtain ⟨⟨⟨⟨k,m,s⟩,nm,ls⟩,hx⟩,body,bv,tests,tv⟩:=c
 simp only at h1 h2 h3 hbl htl
 subst h1 h2 h3
 go_enter Tryz.func58,Tryz.ntmps58
 go_wp2_with (go_at_call 98;refine hch.mono ?_;clear hch;rintro e w1 ⟨rfl,h⟩;have h':=h.symm;clear h;subst h')
 clear hW0
 go_loopg [7,4] 9 (fun g i _ wr=>∃ j:Nat,j + g = 9 /\ i = .int .i64 (j:Int) /\ chkL (List.drop j [(r0,31),(r1,21),(r2,22),(r3,23),(r4,24),(r5,32),(r6,33),(r7,34),(r8,35)]) = R /\ Below W1.heap.size W1 wr)
 case atStart=>exact ⟨0,by omega,rfl,HR.out,Below.refl _ _⟩
 case round=>
  obtain ⟨j,hj,rfl,hr,hbr⟩:=hrel
  have HBr:Hid (Below W1.heap.size W1 wr):=hbr
  obtain ⟨c0,c1,c2,c3,c4,c5,c6⟩:=cseven (HC.out.later hbr)
  simp only at c0 c1 c2 c3 c4 c5 c6
  have hcb:=HTb.out.later hbr
  have hzw:w.heap.size < wr.heap.size:=(HC.out.later hbr).lt
  clear HR
  rcases (show j = 0 ∨ j = 1 ∨ j = 2 ∨ j = 3 ∨ j = 4 ∨ j = 5 ∨ j = 6 ∨ j = 7 ∨ j = 8 ∨ j = 9 by omega) with rfl | rfl | rfl | rfl | rfl | rfl | rfl | rfl | rfl | rfl
  ·obtain ⟨gk,rfl⟩:∃ g,gk = g + 1:=⟨gk - 1,by omega⟩
   obtain ⟨d0,d1⟩:=two_at hcb 0 (.func (.func 135) #[] #[]) (.int .i64 31) rfl rfl
   have hk:=k0
   clear hcb hbr
   cases r0 with
   | true=>
    have HR:Hid (31 = R):=hr
    clear hr
    go_wp2_with (go_at_call 135;refine (hk _ (below_step HBr.out (below1 _ _))).mono ?_;clear hk;rintro e w3 ⟨rfl,hb3⟩;obtain ⟨q0,q1⟩:=two_at ((CBlk.new wr #[.func (.func 135) #[] #[],.int .i64 31] 120).later hb3) 0 _ _ rfl rfl;have HB3:Hid (Below _ _ _):=hb3;clear hb3)
    go_ret
    exact ⟨ret_i HR.out,below_step (below_step (below_step HBW.out HBr.out) (below1 _ _)) HB3.out⟩
   | false=>
    have HR:Hid (chkL (List.drop 1 [(false,31),(r1,21),(r2,22),(r3,23),(r4,24),(r5,32),(r6,33),(r7,34),(r8,35)]) = R):=hr
    clear hr
    go_wp2_with (go_at_call 135;refine (hk _ (below_step HBr.out (below1 _ _))).mono ?_;clear hk;rintro e w3 ⟨rfl,hb3⟩;have HB3:Hid (Below _ _ _):=hb3;clear hb3)
    go_roundg gk
    case measure=>omega
    case rel=>exact ⟨1,by omega,rfl,HR.out,below_step (below_step HBr.out (below1 _ _)) HB3.out⟩
  ·obtain ⟨gk,rfl⟩:∃ g,gk = g + 1:=⟨gk - 1,by omega⟩
   obtain ⟨d0,d1⟩:=two_at hcb 2 (.func (.func 168) #[] #[.pointer (some ⟨N,0,none⟩)]) (.int .i64 21) rfl rfl
   have hk:=k1
   clear hcb hbr
   cases r1 with
   | true=>
    have HR:Hid (21 = R):=hr
    clear hr
    go_wp2_with (go_at_call 168;refine (hk _ (below_step HBr.out (below1 _ _))).mono ?_;clear hk;rintro e w3 ⟨rfl,hb3⟩;obtain ⟨q0,q1⟩:=two_at ((CBlk.new wr #[.func (.func 168) #[] #[.pointer (some ⟨N,0,none⟩)],.int .i64 21] 120).later hb3) 0 _ _ rfl rfl;have HB3:Hid (Below _ _ _):=hb3;clear hb3)
    go_ret
    exact ⟨ret_i HR.out,below_step (below_step (below_step HBW.out HBr.out) (below1 _ _)) HB3.out⟩
   | false=>
    have HR:Hid (chkL (List.drop 2 [(r0,31),(false,21),(r2,22),(r3,23),(r4,24),(r5,32),(r6,33),(r7,34),(r8,35)]) = R):=hr
    clear hr
    go_wp2_with (go_at_call 168;refine (hk _ (below_step HBr.out (below1 _ _))).mono ?_;clear hk;rintro e w3 ⟨rfl,hb3⟩;have HB3:Hid (Below _ _ _):=hb3;clear hb3)
    go_roundg gk
    case measure=>omega
    case rel=>exact ⟨2,by omega,rfl,HR.out,below_step (below_step HBr.out (below1 _ _)) HB3.out⟩
  ·obtain ⟨gk,rfl⟩:∃ g,gk = g + 1:=⟨gk - 1,by omega⟩
   obtain ⟨d0,d1⟩:=two_at hcb 4 (.func (.func 168) #[] #[.pointer (some ⟨N + 1,0,none⟩)]) (.int .i64 22) rfl rfl
   have hk:=k2
   clear hcb hbr
   cases r2 with
   | true=>
    have HR:Hid (22 = R):=hr
    clear hr
    go_wp2_with (go_at_call 168;refine (hk _ (below_step HBr.out (below1 _ _))).mono ?_;clear hk;rintro e w3 ⟨rfl,hb3⟩;obtain ⟨q0,q1⟩:=two_at ((CBlk.new wr #[.func (.func 168) #[] #[.pointer (some ⟨N + 1,0,none⟩)],.int .i64 22] 120).later hb3) 0 _ _ rfl rfl;have HB3:Hid (Below _ _ _):=hb3;clear hb3)
    go_ret
    exact ⟨ret_i HR.out,below_step (below_step (below_step HBW.out HBr.out) (below1 _ _)) HB3.out⟩
   | false=>
    have HR:Hid (chkL (List.drop 3 [(r0,31),(r1,21),(false,22),(r3,23),(r4,24),(r5,32),(r6,33),(r7,34),(r8,35)]) = R):=hr
    clear hr
    go_wp2_with (go_at_call 168;refine (hk _ (below_step HBr.out (below1 _ _))).mono ?_;clear hk;rintro e w3 ⟨rfl,hb3⟩;have HB3:Hid (Below _ _ _):=hb3;clear hb3)
    go_roundg gk
    case measure=>omega
    case rel=>exact ⟨3,by omega,rfl,HR.out,below_step (below_step HBr.out (below1 _ _)) HB3.out⟩
  ·obtain ⟨gk,rfl⟩:∃ g,gk = g + 1:=⟨gk - 1,by omega⟩
   obtain ⟨d0,d1⟩:=two_at hcb 6 (.func (.func 168) #[] #[.pointer (some ⟨N + 1 + 1,0,none⟩)]) (.int .i64 23) rfl rfl
   have hk:=k3
   clear hcb hbr
   cases r3 with
   | true=>
    have HR:Hid (23 = R):=hr
    clear hr
    go_wp2_with (go_at_call 168;refine (hk _ (below_step HBr.out (below1 _ _))).mono ?_;clear hk;rintro e w3 ⟨rfl,hb3⟩;obtain ⟨q0,q1⟩:=two_at ((CBlk.new wr #[.func (.func 168) #[] #[.pointer (some ⟨N + 1 + 1,0,none⟩)],.int .i64 23] 120).later hb3) 0 _ _ rfl rfl;have HB3:Hid (Below _ _ _):=hb3;clear hb3)
    go_ret
    exact ⟨ret_i HR.out,below_step (below_step (below_step HBW.out HBr.out) (below1 _ _)) HB3.out⟩
   | false=>
    have HR:Hid (chkL (List.drop 4 [(r0,31),(r1,21),(r2,22),(false,23),(r4,24),(r5,32),(r6,33),(r7,34),(r8,35)]) = R):=hr
    clear hr
    go_wp2_with (go_at_call 168;refine (hk _ (below_step HBr.out (below1 _ _))).mono ?_;clear hk;rintro e w3 ⟨rfl,hb3⟩;have HB3:Hid (Below _ _ _):=hb3;clear hb3)
    go_roundg gk
    case measure=>omega
    case rel=>exact ⟨4,by omega,rfl,HR.out,below_step (below_step HBr.out (below1 _ _)) HB3.out⟩
  ·obtain ⟨gk,rfl⟩:∃ g,gk = g + 1:=⟨gk - 1,by omega⟩
   obtain ⟨d0,d1⟩:=two_at hcb 8 (.func (.func 168) #[] #[.pointer (some ⟨N + 1 + 1 + 1,0,none⟩)]) (.int .i64 24) rfl rfl
   have hk:=k4
   clear hcb hbr
   cases r4 with
   | true=>
    have HR:Hid (24 = R):=hr
    clear hr
    go_wp2_with (go_at_call 168;refine (hk _ (below_step HBr.out (below1 _ _))).mono ?_;clear hk;rintro e w3 ⟨rfl,hb3⟩;obtain ⟨q0,q1⟩:=two_at ((CBlk.new wr #[.func (.func 168) #[] #[.pointer (some ⟨N + 1 + 1 + 1,0,none⟩)],.int .i64 24] 120).later hb3) 0 _ _ rfl rfl;have HB3:Hid (Below _ _ _):=hb3;clear hb3)
    go_ret
    exact ⟨ret_i HR.out,below_step (below_step (below_step HBW.out HBr.out) (below1 _ _)) HB3.out⟩
   | false=>
    have HR:Hid (chkL (List.drop 5 [(r0,31),(r1,21),(r2,22),(r3,23),(false,24),(r5,32),(r6,33),(r7,34),(r8,35)]) = R):=hr
    clear hr
    go_wp2_with (go_at_call 168;refine (hk _ (below_step HBr.out (below1 _ _))).mono ?_;clear hk;rintro e w3 ⟨rfl,hb3⟩;have HB3:Hid (Below _ _ _):=hb3;clear hb3)
    go_roundg gk
    case measure=>omega
    case rel=>exact ⟨5,by omega,rfl,HR.out,below_step (below_step HBr.out (below1 _ _)) HB3.out⟩
  ·obtain ⟨gk,rfl⟩:∃ g,gk = g + 1:=⟨gk - 1,by omega⟩
   obtain ⟨d0,d1⟩:=two_at hcb 10 (.func (.func 137) #[] #[]) (.int .i64 32) rfl rfl
   have hk:=k5
   clear hcb hbr
   cases r5 with
   | true=>
    have HR:Hid (32 = R):=hr
    clear hr
    go_wp2_with (go_at_call 137;refine (hk _ (below_step HBr.out (below1 _ _))).mono ?_;clear hk;rintro e w3 ⟨rfl,hb3⟩;obtain ⟨q0,q1⟩:=two_at ((CBlk.new wr #[.func (.func 137) #[] #[],.int .i64 32] 120).later hb3) 0 _ _ rfl rfl;have HB3:Hid (Below _ _ _):=hb3;clear hb3)
    go_ret
    exact ⟨ret_i HR.out,below_step (below_step (below_step HBW.out HBr.out) (below1 _ _)) HB3.out⟩
   | false=>
    have HR:Hid (chkL (List.drop 6 [(r0,31),(r1,21),(r2,22),(r3,23),(r4,24),(false,32),(r6,33),(r7,34),(r8,35)]) = R):=hr
    clear hr
    go_wp2_with (go_at_call 137;refine (hk _ (below_step HBr.out (below1 _ _))).mono ?_;clear hk;rintro e w3 ⟨rfl,hb3⟩;have HB3:Hid (Below _ _ _):=hb3;clear hb3)
    go_roundg gk
    case measure=>omega
    case rel=>exact ⟨6,by omega,rfl,HR.out,below_step (below_step HBr.out (below1 _ _)) HB3.out⟩
  ·obtain ⟨gk,rfl⟩:∃ g,gk = g + 1:=⟨gk - 1,by omega⟩
   obtain ⟨d0,d1⟩:=two_at hcb 12 (.func (.func 138) #[] #[]) (.int .i64 33) rfl rfl
   have hk:=k6
   clear hcb hbr
   cases r6 with
   | true=>
    have HR:Hid (33 = R):=hr
    clear hr
    go_wp2_with (go_at_call 138;refine (hk _ (below_step HBr.out (below1 _ _))).mono ?_;clear hk;rintro e w3 ⟨rfl,hb3⟩;obtain ⟨q0,q1⟩:=two_at ((CBlk.new wr #[.func (.func 138) #[] #[],.int .i64 33] 120).later hb3) 0 _ _ rfl rfl;have HB3:Hid (Below _ _ _):=hb3;clear hb3)
    go_ret
    exact ⟨ret_i HR.out,below_step (below_step (below_step HBW.out HBr.out) (below1 _ _)) HB3.out⟩
   | false=>
    have HR:Hid (chkL (List.drop 7 [(r0,31),(r1,21),(r2,22),(r3,23),(r4,24),(r5,32),(false,33),(r7,34),(r8,35)]) = R):=hr
    clear hr
    go_wp2_with (go_at_call 138;refine (hk _ (below_step HBr.out (below1 _ _))).mono ?_;clear hk;rintro e w3 ⟨rfl,hb3⟩;have HB3:Hid (Below _ _ _):=hb3;clear hb3)
    go_roundg gk
    case measure=>omega
    case rel=>exact ⟨7,by omega,rfl,HR.out,below_step (below_step HBr.out (below1 _ _)) HB3.out⟩
  ·obtain ⟨gk,rfl⟩:∃ g,gk = g + 1:=⟨gk - 1,by omega⟩
   obtain ⟨d0,d1⟩:=two_at hcb 14 (.func (.func 139) #[] #[]) (.int .i64 34) rfl rfl
   have hk:=k7
   clear hcb hbr
   cases r7 with
   | true=>
    have HR:Hid (34 = R):=hr
    clear hr
    go_wp2_with (go_at_call 139;refine (hk _ (below_step HBr.out (below1 _ _))).mono ?_;clear hk;rintro e w3 ⟨rfl,hb3⟩;obtain ⟨q0,q1⟩:=two_at ((CBlk.new wr #[.func (.func 139) #[] #[],.int .i64 34] 120).later hb3) 0 _ _ rfl rfl;have HB3:Hid (Below _ _ _):=hb3;clear hb3)
    go_ret
    exact ⟨ret_i HR.out,below_step (below_step (below_step HBW.out HBr.out) (below1 _ _)) HB3.out⟩
   | false=>
    have HR:Hid (chkL (List.drop 8 [(r0,31),(r1,21),(r2,22),(r3,23),(r4,24),(r5,32),(r6,33),(false,34),(r8,35)]) = R):=hr
    clear hr
    go_wp2_with (go_at_call 139;refine (hk _ (below_step HBr.out (below1 _ _))).mono ?_;clear hk;rintro e w3 ⟨rfl,hb3⟩;have HB3:Hid (Below _ _ _):=hb3;clear hb3)
    go_roundg gk
    case measure=>omega
    case rel=>exact ⟨8,by omega,rfl,HR.out,below_step (below_step HBr.out (below1 _ _)) HB3.out⟩
  ·obtain ⟨gk,rfl⟩:∃ g,gk = g + 1:=⟨gk - 1,by omega⟩
   obtain ⟨d0,d1⟩:=two_at hcb 16 (.func (.func 140) #[] #[]) (.int .i64 35) rfl rfl
   have hk:=k8
   clear hcb hbr
   cases r8 with
   | true=>
    have HR:Hid (35 = R):=hr
    clear hr
    go_wp2_with (go_at_call 140;refine (hk _ (below_step HBr.out (below1 _ _))).mono ?_;clear hk;rintro e w3 ⟨rfl,hb3⟩;obtain ⟨q0,q1⟩:=two_at ((CBlk.new wr #[.func (.func 140) #[] #[],.int .i64 35] 120).later hb3) 0 _ _ rfl rfl;have HB3:Hid (Below _ _ _):=hb3;clear hb3)
    go_ret
    exact ⟨ret_i HR.out,below_step (below_step (below_step HBW.out HBr.out) (below1 _ _)) HB3.out⟩
   | false=>
    have HR:Hid (chkL (List.drop 9 [(r0,31),(r1,21),(r2,22),(r3,23),(r4,24),(r5,32),(r6,33),(r7,34),(false,35)]) = R):=hr
    clear hr
    go_wp2_with (go_at_call 140;refine (hk _ (below_step HBr.out (below1 _ _))).mono ?_;clear hk;rintro e w3 ⟨rfl,hb3⟩;have HB3:Hid (Below _ _ _):=hb3;clear hb3)
    go_roundg gk
    case measure=>omega
    case rel=>exact ⟨9,by omega,rfl,HR.out,below_step (below_step HBr.out (below1 _ _)) HB3.out⟩
  ·obtain rfl:gk = 0:=by omega
   have HR:Hid (0 = R):=hr
   clear hr hbr hcb c0 c1 c2 c3 c4 c5 c6
   go_wp2
   go_ret
   exact ⟨ret_i HR.out,below_step HBW.out HBr.out⟩
end Go.Proofs.YtcpjiahdaplhlaaGreatDoor

import Derived.Test.YtcpjiahdaplhlaaGreatDoorB2
import Derived.Test.YtcpjiahdaplhlaaGreatDoorKR10
import Derived.Test.YtcpjiahdaplhlaaGreatDoorPR3
import Derived.Test.YtcpjiahdaplhlaaGreatDoorCL5
import Derived.Test.YtcpjiahdaplhlaaGreatDoorSY19
import Derived.Test.YtcpjiahdaplhlaaGreatDoorSY25
import Derived.Test.YtcpjiahdaplhlaaGreatDoorShelf3
import Derived.Test.YtcpjiahdaplhlaaGreatDoorSY22
import Derived.Test.YtcpjiahdaplhlaaGreatDoorK24B
import Derived.Test.YtcpjiahdaplhlaaGreatDoorKR1
namespace Go.Proofs.YtcpjiahdaplhlaaGreatDoor
open Go.RowKit
set_option maxRecDepth 20000 in
set_option maxHeartbeats 2000000 in
theorem qspell_any (t:Tk) (ho:okt t) (w:World) (hQ:QOk w):Calls Tryz.prog 89 #[t.v] w fun e w'=>e = .returned (.tuple #[.string ((spl t).getD ⟨#[]⟩),.bool (spl t).isSome]) /\ Below w.heap.size w w':=by
 have hsz:=spd_size t ho
 have ways:=spell_ways t ho (by omega)
 have cs:=fun (X:World) (h:QOk X)=>qspelled_any t ho X h
 have cc:=fun (X:World) (h:QOk X)=>qcut_any (spd t) (spd t).size (by omega) X h
 have HQ:Hid (QOk w):=hQ
 obtain ⟨O,hO⟩:∃ O,spl t = O:=⟨_,rfl⟩
 rw [hO] at ways ⊢
 obtain ⟨S,hS⟩:∃ S,spd t = S:=⟨_,rfl⟩
 rw [hS] at ways cs cc hsz
 have HW:Hid _:=ways
 obtain ⟨k,x,n,a,e⟩:=t
 clear ho hQ ways hO hS
 go_enter Tryz.func89,Tryz.ntmps89
 go_upto_region 1 with fail
 have hb1:=below1K w (.cells #[.int .i64 k,.string x,.int .i64 n,.int .i64 a,.int .i64 e] 64)
 have B1:=BlkK.new w #[.int .i64 k,.string x,.int .i64 n,.int .i64 a,.int .i64 e] 64
 revert hb1 B1
 generalize w.alloc (.cells #[.int .i64 k,.string x,.int .i64 n,.int .i64 a,.int .i64 e] 64) = W
 intro hb1 B1
 have HB:Hid (Below w.heap.size w W):=hb1
 have BT:Hid (BlkK W w.heap.size #[.int .i64 k,.string x,.int .i64 n,.int .i64 a,.int .i64 e] 64):=B1
 have HQW:Hid (QOk W):=HQ.out.later hb1
 obtain ⟨c0,c1,c2,c3,c4⟩:=fiveK B1
 clear hb1 B1 HQ
 go_upto_region 2 with (go_at_call 126;refine (cs _ HQW.out).mono ?_;rintro y w1 ⟨rfl,hb1⟩)
 have HB1:Hid (Below w.heap.size w w1):=below_stepK HB.out hb1
 have BT1:Hid (BlkK w1 w.heap.size #[.int .i64 k,.string x,.int .i64 n,.int .i64 a,.int .i64 e] 64):=BT.out.later hb1
 have HQ1:Hid (QOk w1):=HQW.out.later hb1
 clear c0 c1 c2 c3 c4 hb1 cs BT HQW HB
 rcases HW.out with ⟨T,er,p,hR,rfl,hbad⟩ | ⟨u,p,hR,hne,rfl⟩ | ⟨u,p,hR,heq,rfl⟩
 ·rw [hR] at cc
  clear hR HW
  go_upto_region 3 with (go_at_call 65;refine (cc _ HQ1.out).mono ?_;rintro y w2 ⟨v2,rfl,ho2,hb2⟩)
  have bx:=below1K w2 (.cells #[.int .i64 er,.int .i64 p] 26)
  have fx:=BlkK.new w2 #[.int .i64 er,.int .i64 p] 26
  obtain ⟨va,vc,rfl, -⟩:=ho2.ks
  revert bx fx
  generalize w2.alloc (.cells #[.int .i64 er,.int .i64 p] 26) = Y
  intro bx fx
  have HBY:Hid (Below w.heap.size w Y):=below_stepK (below_stepK HB1.out hb2) bx
  obtain ⟨b0,b1, -, -⟩:=two fx
  clear bx fx ho2 hb2 cc
  rcases hbad with he | ⟨rfl,hl⟩
  ·have n1:(er == 0) = false:=beq_eq_false_iff_ne.2 he
   have n2:(er != 0) = true:=by rw [bne,n1];rfl
   clear he
   go_quiet (fail)
   go_wp2
   go_ret2
   exact ⟨ret_2 rfl rfl,below_drewN HBY.out _⟩
  ·obtain ⟨L,hL⟩:∃ L:Int,(T.length:Int) = L:=⟨_,rfl⟩
   have n1:(L == 1) = false:=beq_eq_false_iff_ne.2 (by omega)
   have n2:(L != 1) = true:=by rw [bne,n1];rfl
   have n3:((T.length:Int) == 1) = false:=by rw [hL];exact n1
   have n4:((T.length:Int) != 1) = true:=by rw [hL];exact n2
   clear hl
   go_quiet (fail)
   go_wp2
   go_ret2
   exact ⟨ret_2 rfl rfl,below_drewN HBY.out _⟩
 all_goals
  rw [hR] at cc
  clear hR HW
  go_upto_region 3 with (go_at_call 65;refine (cc _ HQ1.out).mono ?_;rintro y w2 ⟨v2,rfl,ho2,hb2⟩)
  have bx:=below1K w2 (.cells #[.int .i64 0,.int .i64 p] 26)
  have fx:=BlkK.new w2 #[.int .i64 0,.int .i64 p] 26
  have hks:=(ho2.later bx).ks
  obtain ⟨F,hF⟩:∃ F,w2.heap.size = F:=⟨_,rfl⟩
  rw [hF] at fx ⊢
  revert bx hks fx
  generalize w2.alloc (.cells #[.int .i64 0,.int .i64 p] 26) = Y
  intro bx hks fx
  have h2Y:=below_stepK hb2 bx
  have HBY:Hid (Below w.heap.size w Y):=below_stepK HB1.out h2Y
  have BTY:=BT1.out.later h2Y
  obtain ⟨va,cap,hva,hm⟩:=hks
  simp only [List.length_cons,List.length_nil,Nat.zero_add] at hva
  subst hva
  rcases hm with hm | ⟨g,o,rfl,hg,hm⟩
  ·cases hm
  have hu0:=hm 0 u rfl
  simp only [Nat.zero_mul,Nat.add_zero] at hu0
  obtain ⟨uk,ux,un,ua,ue⟩:=u
  simp only at hu0
  have HUc:Hid (Y.cell? ⟨g,o,none⟩ = some (.int .i64 uk) /\ Y.cell? ⟨g,o + 1,none⟩ = some (.string ux) /\ Y.cell? ⟨g,o + 2,none⟩ = some (.int .i64 un) /\ Y.cell? ⟨g,o + 3,none⟩ = some (.int .i64 ua) /\ Y.cell? ⟨g,o + 4,none⟩ = some (.int .i64 ue)):=hu0
  have HUz:Hid (g < Y.heap.size):=hg
  have HTc:Hid (Y.cell? ⟨w.heap.size,0,none⟩ = some (.int .i64 k) /\ Y.cell? ⟨w.heap.size,1,none⟩ = some (.string x) /\ Y.cell? ⟨w.heap.size,2,none⟩ = some (.int .i64 n) /\ Y.cell? ⟨w.heap.size,3,none⟩ = some (.int .i64 a) /\ Y.cell? ⟨w.heap.size,4,none⟩ = some (.int .i64 e)):=fiveK BTY
  have HTz:Hid (w.heap.size < Y.heap.size):=BTY.lt
  have HFc:Hid (Y.cell? ⟨F,0,none⟩ = some (.int .i64 0)):=(two fx).1
  have HFz:Hid (F < Y.heap.size):=fx.lt
  clear hu0 hg hm BTY fx bx h2Y hb2 ho2 hF cc
 ·have HNE:Hid (uk = k -> ux.toList = x.toList -> ¬ un = n):=fun h1 h2 h3=>hne (by subst h1;subst h3;rw [toList_injK h2];rfl)
  clear hne
  refine wp_region_held_drew (S:=fun w'=>Below Y.heap.size Y w') (by kernel_rfl) (Below.refl _ _).drew (fun hH=>?_)
  revert hH
  generalize Y.drew = V
  intro hH
  refine wTl 0 (.pointer (some ⟨F,0,none⟩)) rfl (by kernel_rfl) (fun _ _ _ h=>h) rfl (fun w' _=>by go_simp) hH ?_
  simp only [wA,wB,wC,wD]
  refine wTl 1 (.int .i64 0) rfl (by kernel_rfl) (fun _ _ _ h=>h) rfl (fun w' h=>by have a0:=cell_stepK h HFz.out HFc.out;go_simp) hH ?_
  simp only [wA,wB,wC,wD]
  refine wTl 2 (.bool false) rfl (by kernel_rfl) (fun _ _ _ h=>h) rfl (fun w' _=>by go_simp) hH ?_
  simp only [wA,wB,wC,wD]
  refine wTl 3 (.bool false) rfl (by kernel_rfl) (fun _ _ _ h=>h) rfl (fun w' _=>by go_simp) hH ?_
  simp only [wA,wB,wC,wD]
  refine wTl 4 (.slice (some ⟨g,o,none⟩) 1 cap) rfl (by kernel_rfl) (fun _ _ _ h=>h) rfl (fun w' _=>by go_simp) hH ?_
  simp only [wA,wB,wC,wD]
  refine wTl 5 (.int .i64 1) rfl (by kernel_rfl) (fun _ _ _ h=>h) rfl (fun w' _=>by go_simp) hH ?_
  simp only [wA,wB,wC,wD]
  refine wTl 6 (.bool false) rfl (by kernel_rfl) (fun _ _ _ h=>h) rfl (fun w' _=>by go_simp) hH ?_
  simp only [wA,wB,wC,wD]
  refine wTl 7 (.bool false) rfl (by kernel_rfl) (fun _ _ _ h=>h) rfl (fun w' _=>by go_simp) hH ?_
  simp only [wA,wB,wC,wD]
  refine wTl 8 (.bool false) rfl (by kernel_rfl) (fun _ _ _ h=>h) rfl (fun w' _=>by go_simp) hH ?_
  simp only [wA,wB,wC,wD]
  refine wTl 9 (.slice (some ⟨g,o,none⟩) 1 cap) rfl (by kernel_rfl) (fun _ _ _ h=>h) rfl (fun w' _=>by go_simp) hH ?_
  simp only [wA,wB,wC,wD]
  refine wTl 10 (.pointer (some ⟨g,o,none⟩)) rfl (by kernel_rfl) (fun _ _ _ h=>h) rfl (fun w' _=>by go_simp) hH ?_
  simp only [wA,wB,wC,wD]
  refine wTl 11 (Tk.v ⟨uk,ux,un,ua,ue⟩) rfl (by kernel_rfl) (fun _ _ _ h=>h) rfl (fun w' h=>by obtain ⟨p0,p1,p2,p3,p4⟩:=HUc.out;have z:=HUz.out;have a0:=cell_stepK h z p0;have a1:=cell_stepK h z p1;have a2:=cell_stepK h z p2;have a3:=cell_stepK h z p3;have a4:=cell_stepK h z p4;clear p0 p1 p2 p3 p4;go_simp) hH ?_
  simp only [wA,wB,wC,wD]
  refine wTl 13 (Tk.v ⟨k,x,n,a,e⟩) rfl (by kernel_rfl) (fun _ _ _ h=>h) rfl (fun w' h=>by obtain ⟨p0,p1,p2,p3,p4⟩:=HTc.out;have z:=HTz.out;have a0:=cell_stepK h z p0;have a1:=cell_stepK h z p1;have a2:=cell_stepK h z p2;have a3:=cell_stepK h z p3;have a4:=cell_stepK h z p4;clear p0 p1 p2 p3 p4;go_simp) hH ?_
  simp only [wA,wB,wC,wD]
  refine wRd 12 (by kernel_rfl) rfl (fun K hK=>?_)
  go_simp
  refine (qbare_any ⟨uk,ux,un,ua,ue⟩ _).mono ?_
  rintro x1 V1 ⟨rfl,hb⟩
  refine hK.out _ _ (below_stepK hH hb) (fun hH=>?_)
  clear hK K
  refine wRd 14 (by kernel_rfl) rfl (fun K hK=>?_)
  go_simp
  refine (qbare_any ⟨k,x,n,a,e⟩ _).mono ?_
  rintro x1 V2 ⟨rfl,hb⟩
  refine hK.out _ _ (below_stepK hH hb) (fun hH=>?_)
  clear hK K
  refine wTl 15 (.bool true) rfl (by kernel_rfl) (fun _ _ _ h=>h) rfl (fun w' _=>by go_simp;exact HNE.out) hH ?_
  simp only [wA,wB,wC,wD]
  refine wTl 16 (.bool true) rfl (by kernel_rfl) (fun _ _ _ h=>h) rfl (fun w' _=>by go_simp) hH ?_
  simp only [wA,wB,wC,wD]
  refine wpAnyH_done (by kernel_rfl) ?_ _
  have HV:Hid (Below Y.heap.size Y V2):=hH
  clear hH hb
  go_wp2
  go_ret2
  exact ⟨ret_2 rfl rfl,below_stepK HBY.out HV.out⟩
 ·simp only [Tk.bar,Tk.mk.injEq,and_true] at heq
  obtain ⟨rfl,rfl,rfl⟩:=heq
  refine wp_region_held_drew (S:=fun w'=>Below Y.heap.size Y w') (by kernel_rfl) (Below.refl _ _).drew (fun hH=>?_)
  revert hH
  generalize Y.drew = V
  intro hH
  refine wTl 0 (.pointer (some ⟨F,0,none⟩)) rfl (by kernel_rfl) (fun _ _ _ h=>h) rfl (fun w' _=>by go_simp) hH ?_
  simp only [wA,wB,wC,wD]
  refine wTl 1 (.int .i64 0) rfl (by kernel_rfl) (fun _ _ _ h=>h) rfl (fun w' h=>by have a0:=cell_stepK h HFz.out HFc.out;go_simp) hH ?_
  simp only [wA,wB,wC,wD]
  refine wTl 2 (.bool false) rfl (by kernel_rfl) (fun _ _ _ h=>h) rfl (fun w' _=>by go_simp) hH ?_
  simp only [wA,wB,wC,wD]
  refine wTl 3 (.bool false) rfl (by kernel_rfl) (fun _ _ _ h=>h) rfl (fun w' _=>by go_simp) hH ?_
  simp only [wA,wB,wC,wD]
  refine wTl 4 (.slice (some ⟨g,o,none⟩) 1 cap) rfl (by kernel_rfl) (fun _ _ _ h=>h) rfl (fun w' _=>by go_simp) hH ?_
  simp only [wA,wB,wC,wD]
  refine wTl 5 (.int .i64 1) rfl (by kernel_rfl) (fun _ _ _ h=>h) rfl (fun w' _=>by go_simp) hH ?_
  simp only [wA,wB,wC,wD]
  refine wTl 6 (.bool false) rfl (by kernel_rfl) (fun _ _ _ h=>h) rfl (fun w' _=>by go_simp) hH ?_
  simp only [wA,wB,wC,wD]
  refine wTl 7 (.bool false) rfl (by kernel_rfl) (fun _ _ _ h=>h) rfl (fun w' _=>by go_simp) hH ?_
  simp only [wA,wB,wC,wD]
  refine wTl 8 (.bool false) rfl (by kernel_rfl) (fun _ _ _ h=>h) rfl (fun w' _=>by go_simp) hH ?_
  simp only [wA,wB,wC,wD]
  refine wTl 9 (.slice (some ⟨g,o,none⟩) 1 cap) rfl (by kernel_rfl) (fun _ _ _ h=>h) rfl (fun w' _=>by go_simp) hH ?_
  simp only [wA,wB,wC,wD]
  refine wTl 10 (.pointer (some ⟨g,o,none⟩)) rfl (by kernel_rfl) (fun _ _ _ h=>h) rfl (fun w' _=>by go_simp) hH ?_
  simp only [wA,wB,wC,wD]
  refine wTl 11 (Tk.v ⟨uk,ux,un,ua,ue⟩) rfl (by kernel_rfl) (fun _ _ _ h=>h) rfl (fun w' h=>by obtain ⟨p0,p1,p2,p3,p4⟩:=HUc.out;have z:=HUz.out;have a0:=cell_stepK h z p0;have a1:=cell_stepK h z p1;have a2:=cell_stepK h z p2;have a3:=cell_stepK h z p3;have a4:=cell_stepK h z p4;clear p0 p1 p2 p3 p4;go_simp) hH ?_
  simp only [wA,wB,wC,wD]
  refine wTl 13 (Tk.v ⟨uk,ux,un,a,e⟩) rfl (by kernel_rfl) (fun _ _ _ h=>h) rfl (fun w' h=>by obtain ⟨p0,p1,p2,p3,p4⟩:=HTc.out;have z:=HTz.out;have a0:=cell_stepK h z p0;have a1:=cell_stepK h z p1;have a2:=cell_stepK h z p2;have a3:=cell_stepK h z p3;have a4:=cell_stepK h z p4;clear p0 p1 p2 p3 p4;go_simp) hH ?_
  simp only [wA,wB,wC,wD]
  refine wRd 12 (by kernel_rfl) rfl (fun K hK=>?_)
  go_simp
  refine (qbare_any ⟨uk,ux,un,ua,ue⟩ _).mono ?_
  rintro x1 V1 ⟨rfl,hb⟩
  refine hK.out _ _ (below_stepK hH hb) (fun hH=>?_)
  clear hK K
  refine wRd 14 (by kernel_rfl) rfl (fun K hK=>?_)
  go_simp
  refine (qbare_any ⟨uk,ux,un,a,e⟩ _).mono ?_
  rintro x1 V2 ⟨rfl,hb⟩
  refine hK.out _ _ (below_stepK hH hb) (fun hH=>?_)
  clear hK K
  refine wTl 15 (.bool false) rfl (by kernel_rfl) (fun _ _ _ h=>h) rfl (fun w' _=>by go_simp) hH ?_
  simp only [wA,wB,wC,wD]
  refine wTl 16 (.bool false) rfl (by kernel_rfl) (fun _ _ _ h=>h) rfl (fun w' _=>by go_simp) hH ?_
  simp only [wA,wB,wC,wD]
  refine wpAnyH_done (by kernel_rfl) ?_ _
  have HV:Hid (Below Y.heap.size Y V2):=hH
  clear hH hb
  go_wp2
  go_ret2
  exact ⟨ret_2 rfl rfl,below_stepK HBY.out HV.out⟩
end Go.Proofs.YtcpjiahdaplhlaaGreatDoor
namespace Go.Proofs.YtcpjiahdaplhlaaGreatDoor
open Go.RowKit
attribute [local go_sem ↓] Go.wp_at_zero Go.wp_at_succ
set_option maxRecDepth 20000 in
theorem digits_any (n:Int) (hn:N64 n) (w:World) (hQ:QOk w) :
  Calls Tryz.prog 50 #[.int .i64 n] w fun e w'=>e = .returned (.string (ib5 n)) /\ Below w.heap.size w w':=by
 have HS:Hid (Calls Tryz.prog 89 #[.agg #[.int .i64 4,.string ⟨#[]⟩,.int .i64 n,.int .i64 0,.int .i64 0]] w fun e w'=>e = .returned (.tuple #[.string (ib5 n),.bool true]) /\ Below w.heap.size w w'):=
  qspell_any ⟨4,⟨#[]⟩,n,0,0⟩ ⟨Nat.zero_le _,hn.1,hn.2⟩ w hQ
 clear hQ
 go_enter Tryz.func50,Tryz.ntmps50
 go_wp2_with (go_at_call 89;refine HS.out.mono ?_;rintro e w1 ⟨rfl,hb⟩;have HB:=hm7 hb;clear hb)
 go_ret
 exact ⟨rfl,HB.out⟩
set_option maxRecDepth 20000 in
set_option maxHeartbeats 2000000 in
theorem rprintTerm_any (t:Tm) (hn:N64 t.n) (w:World) (hE:QOk w) :
  Calls Tryz.prog 18 #[t.v] w fun e w'=>e = .returned (.string (pt5 t)) /\ Below w.heap.size w w':=by
 have HB0:=hm7 (below1 w (.cells #[.int .i64 t.k,.int .i64 t.n,.string t.s] 39))
 have HR0:=hm7 (Bk.new w #[.int .i64 t.k,.int .i64 t.n,.string t.s] 39)
 have HV:Hid (∀ X:World,Calls Tryz.prog 49 #[t.v] X fun e w'=>e = .returned (.bool t.var) /\ Below X.heap.size X w'):=fun X=>rvar_any t X
 have HC:Hid (∀ X:World,Calls Tryz.prog 51 #[t.v] X fun e w'=>e = .returned (.bool t.con) /\ Below X.heap.size X w'):=fun X=>rcon_any t X
 have HI:Hid (∀ X:World,QOk X -> Calls Tryz.prog 50 #[.int .i64 t.n] X fun e w'=>e = .returned (.string (ib5 t.n)) /\ Below X.heap.size X w'):=fun X hX=>digits_any t.n hn X hX
 have HE:=hm7 hE
 obtain ⟨R,hR⟩:∃ R,pt5 t = R:=⟨_,rfl⟩
 rw [hR]
 unfold pt5 at hR
 have HW:Hid (t.con = true -> ∀ X:World,QOk X -> Calls Tryz.prog 52 #[.string t.s] X fun e w'=>e = .returned (.bool (wrd t.s)) /\ w' = X):=fun h X hX=>qword_any t.s (by
  unfold Tm.con at h
  rcases of_decide_eq_true h with h | h
  ·rw [h.2];decide
  ·omega) X
 have HQ:Hid (t.con = true -> ∀ X:World,Calls Tryz.prog 53 #[.string t.s] X fun e w'=>e = .returned (.string (qtB t.s)) /\ Below X.heap.size X w'):=fun h X=>qquote_any t.s (by
  unfold Tm.con at h
  rcases of_decide_eq_true h with h | h
  ·rw [h.2];decide
  ·omega) X
 obtain ⟨vr,hvr⟩:∃ b,t.var = b:=⟨_,rfl⟩
 obtain ⟨cn,hcn⟩:∃ b,t.con = b:=⟨_,rfl⟩
 obtain ⟨ib,hib⟩:∃ b,ib5 t.n = b:=⟨_,rfl⟩
 obtain ⟨wd,hwd⟩:∃ b,wrd t.s = b:=⟨_,rfl⟩
 obtain ⟨qt,hqt⟩:∃ b,qtB t.s = b:=⟨_,rfl⟩
 rw [hvr] at HV hR
 rw [hcn] at HC HW HQ hR
 rw [hib] at HI hR
 rw [hwd] at HW hR
 rw [hqt] at HQ hR
 have hibl:¬ 9223372036854775807 < 1 + ib.size:=by
  rw [<- hib]
  have:=ib5_len t.n hn
  omega
 clear hvr hcn hib hwd hqt hn hE
 obtain ⟨k,n,s⟩:=t
 dsimp only at *
 have c0:=HR0.out.cell (i:=0) rfl
 have c1:=HR0.out.cell (i:=1) rfl
 have c2:=HR0.out.cell (i:=2) rfl
 cases vr with
 | true=>
  rw [if_pos rfl] at hR
  go_enter Tryz.func18,Tryz.ntmps18
  go_wp2_with (first
   | (go_at_call 49;refine (HV.out _).mono ?_;rintro e w1 ⟨rfl,hb⟩;have HB1:=hm7 (HB0.out.trans (hb.mono HB0.out.size));have HR1:=hm7 (HR0.out.below hb);have d1:=HR1.out.cell (i:=1) rfl;have HE1:=hm7 (HE.out.later HB1.out);clear hb c0 c1 c2)
   | (go_at_call 50;refine (HI.out _ HE1.out).mono ?_;rintro e w2 ⟨rfl,hb⟩;have HB2:=hm7 (HB1.out.trans (hb.mono HB1.out.size));clear hb))
  go_ret
  exact ⟨rfl,HB2.out⟩
 | false=>
  rw [if_neg (by decide)] at hR
  cases cn with
  | false=>
   rw [if_pos rfl] at hR
   subst hR
   go_enter Tryz.func18,Tryz.ntmps18
   go_wp2_with (first
    | (go_at_call 49;refine (HV.out _).mono ?_;rintro e w1 ⟨rfl,hb⟩;have HB1:=hm7 (HB0.out.trans (hb.mono HB0.out.size));have HR1:=hm7 (HR0.out.below hb);clear c0 c1 c2;have c0:=HR1.out.cell (i:=0) rfl;have c1:=HR1.out.cell (i:=1) rfl;have c2:=HR1.out.cell (i:=2) rfl;clear hb)
    | (go_at_call 51;refine (HC.out _).mono ?_;rintro e w2 ⟨rfl,hb⟩;have HB2:=hm7 (HB1.out.trans (hb.mono HB1.out.size));clear hb))
   go_ret
   exact ⟨rfl,HB2.out⟩
  | true=>
   rw [if_neg (by decide)] at hR
   have HW2:=hm7 (HW.out rfl)
   have HQ2:=hm7 (HQ.out rfl)
   clear HW HQ
   by_cases hk:k = 1
   ·rw [if_pos hk] at hR
    subst hk
    subst hR
    go_enter Tryz.func18,Tryz.ntmps18
    go_wp2_with (first
     | (go_at_call 49;refine (HV.out _).mono ?_;rintro e w1 ⟨rfl,hb⟩;have HB1:=hm7 (HB0.out.trans (hb.mono HB0.out.size));have HR1:=hm7 (HR0.out.below hb);clear c0 c1 c2;have c0:=HR1.out.cell (i:=0) rfl;have c1:=HR1.out.cell (i:=1) rfl;have c2:=HR1.out.cell (i:=2) rfl;clear hb)
     | (go_at_call 51;refine (HC.out _).mono ?_;rintro e w2 ⟨rfl,hb⟩;have HB2:=hm7 (HB1.out.trans (hb.mono HB1.out.size));have HR2:=hm7 (HR1.out.below hb);have d0:=HR2.out.cell (i:=0) rfl;have d1:=HR2.out.cell (i:=1) rfl;have HE2:=hm7 (HE.out.later HB2.out);clear hb c0 c1 c2)
     | (go_at_call 50;refine (HI.out _ HE2.out).mono ?_;rintro e w3 ⟨rfl,hb⟩;have HB3:=hm7 (HB2.out.trans (hb.mono HB2.out.size));clear hb))
    go_ret
    exact ⟨rfl,HB3.out⟩
   ·rw [if_neg hk] at hR
    have hk2:(k == 1) = false:=by simp [hk]
    cases wd with
    | true=>
     rw [if_pos rfl] at hR
     subst hR
     go_enter Tryz.func18,Tryz.ntmps18
     go_wp2_with (first
      | (go_at_call 49;refine (HV.out _).mono ?_;rintro e w1 ⟨rfl,hb⟩;have HB1:=hm7 (HB0.out.trans (hb.mono HB0.out.size));have HR1:=hm7 (HR0.out.below hb);clear c0 c1 c2;have c0:=HR1.out.cell (i:=0) rfl;have c1:=HR1.out.cell (i:=1) rfl;have c2:=HR1.out.cell (i:=2) rfl;clear hb)
      | (go_at_call 51;refine (HC.out _).mono ?_;rintro e w2 ⟨rfl,hb⟩;have HB2:=hm7 (HB1.out.trans (hb.mono HB1.out.size));have HR2:=hm7 (HR1.out.below hb);have d0:=HR2.out.cell (i:=0) rfl;have d2:=HR2.out.cell (i:=2) rfl;have HE2:=hm7 (HE.out.later HB2.out);clear hb c0 c1 c2)
      | (go_at_call 52;refine (HW2.out _ HE2.out).mono ?_;rintro e w3 ⟨rfl,hw3⟩;subst hw3))
     go_ret
     exact ⟨rfl,HB2.out⟩
    | false=>
     rw [if_neg (by decide)] at hR
     subst hR
     go_enter Tryz.func18,Tryz.ntmps18
     go_wp2_with (first
      | (go_at_call 49;refine (HV.out _).mono ?_;rintro e w1 ⟨rfl,hb⟩;have HB1:=hm7 (HB0.out.trans (hb.mono HB0.out.size));have HR1:=hm7 (HR0.out.below hb);clear c0 c1 c2;have c0:=HR1.out.cell (i:=0) rfl;have c1:=HR1.out.cell (i:=1) rfl;have c2:=HR1.out.cell (i:=2) rfl;clear hb)
      | (go_at_call 51;refine (HC.out _).mono ?_;rintro e w2 ⟨rfl,hb⟩;have HB2:=hm7 (HB1.out.trans (hb.mono HB1.out.size));have HR2:=hm7 (HR1.out.below hb);have d0:=HR2.out.cell (i:=0) rfl;have d2:=HR2.out.cell (i:=2) rfl;have HE2:=hm7 (HE.out.later HB2.out);clear hb c0 c1 c2)
      | (go_at_call 52;refine (HW2.out _ HE2.out).mono ?_;rintro e w3 ⟨rfl,hw3⟩;subst hw3)
      | (go_at_call 53;refine (HQ2.out _).mono ?_;rintro e w4 ⟨rfl,hb⟩;have HB4:=hm7 (HB2.out.trans (hb.mono HB2.out.size));clear hb))
     go_ret
     exact ⟨rfl,HB4.out⟩
theorem jn5_one (x sep:ByteArray):jn5 [x] sep = x:=by
 unfold jn5
 rw [List.map_cons,List.map_nil,Lib.join_one]
theorem jn5_snoc {xs:List ByteArray} (h:xs ≠ []) (x sep:ByteArray):jn5 (xs ++ [x]) sep = (jn5 xs sep ++ sep) ++ x:=by
 cases xs with
 | nil=>exact absurd rfl h
 | cons y r=>
  apply ByteArray.ext
  rw [ByteArray.data_append,ByteArray.data_append]
  unfold jn5
  rw [List.cons_append,List.map_cons,List.map_cons,List.map_append,Lib.join_cons,Lib.join_cons]
  unfold Lib.joinTail
  simp
set_option maxRecDepth 20000 in
set_option maxHeartbeats 2000000 in
theorem joined_any (xs:List ByteArray) (sep:ByteArray) (v:Value) (w:World) (base:Nat) (ho:w.ownsRow base 9 1 v xs.length (xs.map Value.string)) (hx:∀ x ∈ xs,x.size <= 100000) (hl:xs.length <= 1000) (hs:sep.size <= 10) :
  Calls Tryz.prog 57 #[v,.string sep] w fun e w'=>e = .returned (.string (jn5 xs sep)) /\ Below w.heap.size w w':=by
 obtain ⟨va,vc,hvf, -⟩:=row7_form ho
 obtain ⟨n,hn⟩:∃ n,xs.length = n:=⟨_,rfl⟩
 rw [hn] at hvf hl
 subst hvf
 have HN:=hm7 hn
 have HO:=hm7 ho
 have HX:=hm7 hx
 have HJL:Hid (∀ j,(jn5 (xs.take j) sep).size <= 100010000):=fun j=>by
  have h1:=jn5_len 100000 (xs.take j) sep (fun x h=>hx x (List.mem_of_mem_take h))
  have h2:(xs.take j).length <= 1000:=by rw [List.length_take];omega
  exact Nat.le_trans h1 (Nat.le_trans (Nat.mul_le_mul (show 100000 + sep.size <= 100010 by omega) h2) (by decide))
 clear hn ho hx
 go_enter Tryz.func57,Tryz.ntmps57
 go_wp2
 go_loopg [5,6] n (fun g s i wr=>∃ j:Nat,j + g = n /\ i = .int .i64 (j:Int) /\ s = .string (jn5 (xs.take j) sep) /\ Below w.heap.size w wr)
 case atStart=>exact ⟨0,by omega,rfl,rfl,Below.refl _ _⟩
 case round=>
  obtain ⟨j,hg,rfl,rfl,hb⟩:=hrel
  have HB:=hm7 hb
  clear hb
  have hjl:=HJL.out j
  cases gk with
  | succ g=>
   have i0:(0:Int) <= (j:Int):=by omega
   have i1:(j:Int) < (n:Int):=by omega
   obtain ⟨x,hxj⟩:∃ x,xs[j]? = some x:=⟨_,List.getElem?_eq_getElem (by have:=HN.out;omega)⟩
   obtain ⟨g0,c0,hvf, -,hg0⟩:=World.ownsRow.form HO.out (by have:=HN.out;omega)
   rw [HN.out] at hvf
   obtain ⟨rfl,rfl⟩:va = some ⟨g0,0,none⟩ /\ vc = c0:=by
    injection hvf with h1 h2 h3
    exact ⟨h1,h3⟩
   have c1:w.cell? ⟨g0,0 + j,none⟩ = some (.string x):=row5_cell (by have:=HO.out;rw [HN.out] at this;exact this) (by rw [List.getElem?_map,hxj];rfl)
   rw [Nat.zero_add] at c1
   have d1:=cell_step HB.out hg0 c1
   have hxs:=HX.out x (List.mem_of_getElem? hxj)
   have HTK:Hid (xs.take (j + 1) = xs.take j ++ [x]):=by show _ = _;rw [List.take_add_one,hxj];rfl
   have HJ2:=HJL.out (j + 1)
   clear hxj hvf hg0 c1
   by_cases hj:j = 0
   ·subst hj
    have HR:Hid (jn5 (xs.take 1) sep = x):=by show _ = _;rw [HTK.out,List.take_zero,List.nil_append,jn5_one]
    have e0:jn5 (xs.take 0) sep = ⟨#[]⟩:=rfl
    rw [e0]
    have e1:(⟨#[]⟩:ByteArray) ++ x = x:=by apply ByteArray.ext;rw [ByteArray.data_append];simp
    have e2:(⟨#[]⟩:ByteArray).size = 0:=rfl
    have g1:¬ 9223372036854775807 < (⟨#[]⟩:ByteArray).size + x.size:=by omega
    clear hjl
    go_wp2
    go_roundg g
    case measure=>omega
    case rel=>exact ⟨1,by omega,by go_num,by rw [HR.out],HB.out⟩
   ·have hj2:(0:Int) < (j:Int):=by omega
    have HR:Hid (jn5 (xs.take (j + 1)) sep = (jn5 (xs.take j) sep ++ sep) ++ x):=by
     show _ = _
     rw [HTK.out,jn5_snoc]
     intro e
     have h1:=congrArg List.length e
     rw [List.length_take,List.length_nil] at h1
     have:=HN.out
     omega
    obtain ⟨A,hA⟩:∃ A,jn5 (xs.take j) sep = A:=⟨_,rfl⟩
    rw [hA] at hjl HR ⊢
    obtain ⟨B,hB⟩:∃ B,A ++ sep = B:=⟨_,rfl⟩
    have hBs:B.size = A.size + sep.size:=by rw [<- hB,ByteArray.size_append]
    have g1:¬ 9223372036854775807 < A.size + sep.size:=by omega
    have g2:¬ 9223372036854775807 < B.size + x.size:=by omega
    clear hA hBs hjl HJ2
    go_wp2
    go_roundg g
    case measure=>omega
    case rel=>exact ⟨j + 1,by omega,by go_num,by rw [HR.out,hB],HB.out⟩
  | zero=>
   obtain rfl:j = n:=by omega
   have i1:¬ (j:Int) < (j:Int):=by omega
   have HR:Hid (jn5 (xs.take j) sep = jn5 xs sep):=by show _ = _;rw [<- HN.out,List.take_length]
   go_wp2
   go_ret
   exact ⟨by rw [HR.out];rfl,HB.out⟩
end Go.Proofs.YtcpjiahdaplhlaaGreatDoor
namespace Go.Proofs.YtcpjiahdaplhlaaGreatDoor
open Go.RowKit
attribute [local go_sem ↓] Go.wp_at_zero Go.wp_at_succ
theorem pair_put {w:World} {g:Nat} {t:TypeId} {x y a b:Value} (h:Bk w g #[x,y] t):Bk ((w.setCell ⟨g,0,none⟩ a).setCell ⟨g,1,none⟩ b) g #[a,b] t:=by
 have:=(h.set 0 a).set 1 b
 simpa using this
set_option maxRecDepth 20000 in
set_option maxHeartbeats 2000000 in
theorem program_any (s:ByteArray) (hs:s.size <= 9000000) (w:World) (hE:EnvOk w) (hO:OpsOk w) :
  Calls Tryz.prog 11 #[.string s] w (ReP w (pg5 s 1048576)):=by
 have HB0:=hm7 (below1 w (.cells #[.int .i64 0,.int .i64 0] 26))
 have HR0:=hm7 (Bk.new w #[.int .i64 0,.int .i64 0] 26)
 have HRD:=hm7 (readC_any s 1048576 hs (by decide) _ (hE.later HB0.out) (hO.fr (P:=fun _=>False) (Fr.of HB0.out) fun h=>h))
 obtain ⟨R,hR⟩:∃ R,pg5 s 1048576 = R:=⟨_,rfl⟩
 rw [hR] at HRD ⊢
 clear hE hO hR
 have HWZ:Hid ((w.alloc (.cells #[.int .i64 0,.int .i64 0] 26)).heap.size = w.heap.size + 1):=by show _ = _;simp
 go_enter Tryz.func11,Tryz.ntmps11
 go_wp2_with (go_at_call 39;refine HRD.out.mono ?_;rintro e W1 ⟨hb,v,c,a,rfl,hm⟩;have HM:=hm7 hm;have HR1:=hm7 (HR0.out.below hb);have HB1:=hm7 (HB0.out.trans (hb.mono HB0.out.size));have r0:=HR1.out.cell (i:=0) rfl;have r1:=HR1.out.cell (i:=1) rfl;have f0:=HR1.out.froz 0;have f1:=HR1.out.froz 1;have hrl:=HR1.out.lt;clear hb hm)
 have HR2:=hm7 (pair_put (a:=.int .i64 c) (b:=.int .i64 a) HR1.out)
 have z0:=HR2.out.cell (i:=0) rfl
 have z1:=HR2.out.cell (i:=1) rfl
 refine bodyPost_ret (v:=.tuple #[v,.agg #[.int .i64 c,.int .i64 a]]) (by simp [results,Tryz.results11,go_sem,z0,z1]) rfl ?_
 have hfq:Fr (fun b=>b = w.heap.size) W1 ((W1.setCell ⟨w.heap.size,0,none⟩ (.int .i64 c)).setCell ⟨w.heap.size,1,none⟩ (.int .i64 a)):=((Fr.refl (fun b=>b = w.heap.size) _).set (Or.inl rfl)).set (Or.inl rfl)
 refine ⟨(HB1.out.setCell (p:=⟨w.heap.size,0,none⟩) (Nat.le_refl _) _).setCell (p:=⟨w.heap.size,1,none⟩) (Nat.le_refl _) _,v,c,a,rfl, ?_⟩
 have hm:=HM.out
 cases R with
 | error f=>exact hm
 | ok ks=>
  obtain ⟨h1,h2,l,h3,h4⟩:=hm
  refine ⟨h1,h2,l,h3,(h4.fr hfq fun b hb e=>?_).mono fun b _ hb=>?_⟩
  ·have:=HWZ.out;omega
  ·have:=HWZ.out;omega
def fT1:ByteArray:=⟨#[112,40,88,41,32,58,45,32,40,113,40,88,44,32,95,41,59,32,88,32,33,61,32,51,44,32,97,110,110,32,115,97,121,115,32,114,40,88,41,41,46]⟩
def fT2:ByteArray:=⟨#[112,40,86,48,41,32,58,45,32,97,110,110,32,115,97,121,115,32,114,40,86,48,41,44,32,86,48,32,33,61,32,51,46]⟩
def okF:Bool:=match pg5 fT1 1048576 with
 | .ok [a,b]=>decide (a.2.1.length = 1 /\ b.2.2.length = 1 /\ pc5 b = fT2 /\ (∀ t ∈ Ck.terms b,(-9223372036854775808 <= t.n /\ t.n <= 9223372036854775807)) /\ (Ck.terms b).length <= 100)
 | _=>false
set_option maxRecDepth 100000 in
theorem okF_yes:okF = true:=by kernel_rfl
end Go.Proofs.YtcpjiahdaplhlaaGreatDoor
namespace Go.Proofs.YtcpjiahdaplhlaaGreatDoor
open Go.RowKit
attribute [local go_sem ↓] Go.wp_at_zero Go.wp_at_succ
theorem store5a {w:World} {g:Nat} {t:TypeId} {z0 z1 z2 z3 z4 a b c d e:Value} (h:Bk w g #[z0,z1,z2,z3,z4] t):Bk (((((w.setCell ⟨g,0,none⟩ a).setCell ⟨g,1,none⟩ b).setCell ⟨g,2,none⟩ c).setCell ⟨g,3,none⟩ d).setCell ⟨g,4,none⟩ e) g #[a,b,c,d,e] t:=store5y h
end Go.Proofs.YtcpjiahdaplhlaaGreatDoor
namespace Go.Proofs.YtcpjiahdaplhlaaGreatDoor
open Go.RowKit
variable {Q:Int × Int -> Prop}
structure HQ (T:List Tk) (L:Nat) (Q:Int × Int -> Prop):Prop where
 t:∀ (c:Int) (t:Tk),c ≠ 0 -> t ∈ T -> Q (c,t.a)
 l:∀ c:Int,c ≠ 0 -> Q (c,(L:Int))
end Go.Proofs.YtcpjiahdaplhlaaGreatDoor
namespace Go.Proofs.YtcpjiahdaplhlaaGreatDoor
open Go.RowKit
attribute [local go_sem ↓] Go.wp_at_zero Go.wp_at_succ
def pq5 (a:At):ByteArray:=if a.err = 0 then pa5 a ++ (⟨#[63]⟩:ByteArray) else ⟨#[]⟩
set_option maxRecDepth 20000 in
set_option maxHeartbeats 2000000 in
theorem printQuery_any (a:At) (y:Value) (w:World) (h:Ts w y a.args) (hn:∀ t ∈ a.pl,N64 t.n) (hE:EnvOk w) :
  Calls Tryz.prog 21 #[a.v y] w fun e w'=>e = .returned (.string (pq5 a)) /\ Below w.heap.size w w':=by
 have HB0:=hm7 (below1 w (.cells #[.int .i64 a.by_.k,.int .i64 a.by_.n,.string a.by_.s,.string a.name,y] 42))
 have HX0:=hm7 (Bk.new w #[.int .i64 a.by_.k,.int .i64 a.by_.n,.string a.by_.s,.string a.name,y] 42)
 have HCK:=hm7 (chk_any a y _ (h.later HB0.out))
 have HPA:Hid (∀ X:World,Below w.heap.size w X -> Calls Tryz.prog 19 #[a.v y] X fun e w'=>e = .returned (.string (pa5 a)) /\ Below X.heap.size X w'):=fun X hX=>printAtom_any a y X (h.later hX) hn (hE.later hX)
 have hpl:=pa5_len a hn
 obtain ⟨ya,yc,hyf, -⟩:=h
 obtain ⟨yn,hyn⟩:∃ yn,a.args.length = yn:=⟨_,rfl⟩
 rw [hyn] at hyf
 subst hyf
 obtain ⟨R,hR⟩:∃ R,pq5 a = R:=⟨_,rfl⟩
 rw [hR]
 unfold pq5 at hR
 obtain ⟨er,her⟩:∃ er,a.err = er:=⟨_,rfl⟩
 rw [her] at hR HCK
 obtain ⟨pa,hpa⟩:∃ p,pa5 a = p:=⟨_,rfl⟩
 rw [hpa] at HPA hpl hR
 have c0:=HX0.out.cell (i:=0) rfl
 have c1:=HX0.out.cell (i:=1) rfl
 have c2:=HX0.out.cell (i:=2) rfl
 have c3:=HX0.out.cell (i:=3) rfl
 have c4:=HX0.out.cell (i:=4) rfl
 clear hn hE hyn her hpa
 by_cases he:er = 0
 ·subst he
  rw [if_pos rfl] at hR
  subst hR
  have g1:¬ 9223372036854775807 < pa.size + 1:=by omega
  go_enter Tryz.func21,Tryz.ntmps21
  go_wp2_with (first
   | (go_at_call 54;refine HCK.out.mono ?_;rintro e w1 ⟨rfl,hb⟩;have HB1:=hm7 (HB0.out.trans (hb.mono HB0.out.size));have HX1:=hm7 (HX0.out.below hb);clear hb c0 c1 c2 c3 c4;have c0:=HX1.out.cell (i:=0) rfl;have c1:=HX1.out.cell (i:=1) rfl;have c2:=HX1.out.cell (i:=2) rfl;have c3:=HX1.out.cell (i:=3) rfl;have c4:=HX1.out.cell (i:=4) rfl)
   | (go_at_call 19;refine (HPA.out _ HB1.out).mono ?_;rintro e w2 ⟨rfl,hb⟩;have HB2:=hm7 (HB1.out.trans (hb.mono HB1.out.size));clear hb))
  go_ret
  exact ⟨rfl,HB2.out⟩
 ·rw [if_neg he] at hR
  subst hR
  have he1:(er == 0) = false:=by simp [he]
  have he2:(er != 0) = true:=by simp [he]
  go_enter Tryz.func21,Tryz.ntmps21
  go_wp2_with (go_at_call 54;refine HCK.out.mono ?_;rintro e w1 ⟨rfl,hb⟩;have HB1:=hm7 (HB0.out.trans (hb.mono HB0.out.size));clear hb c0 c1 c2 c3 c4)
  go_ret
  exact ⟨rfl,HB1.out⟩
end Go.Proofs.YtcpjiahdaplhlaaGreatDoor

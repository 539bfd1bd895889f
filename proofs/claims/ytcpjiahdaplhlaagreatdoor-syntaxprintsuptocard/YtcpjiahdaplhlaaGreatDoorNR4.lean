import Derived.Test.YtcpjiahdaplhlaaGreatDoorB2
import Derived.Test.YtcpjiahdaplhlaaGreatDoorNR3
namespace Go.Proofs.YtcpjiahdaplhlaaGreatDoor
open Go.RowKit Go.Shelf
attribute [local go_sem ↓] Go.wp_at_zero Go.wp_at_succ
set_option maxRecDepth 20000 in
set_option maxHeartbeats 20000000 in
theorem repIn_normal (vs:List Int) (P m:Nat) (a:At) (x:Value) (w:World) (hN:NM w P m vs) (hwf:∀ t:Tm,t = a.by_ ∨ t ∈ a.args -> t.var = true -> (Lit.int .i64 t.n).wf = true) (hn:vs.length + a.args.length + 1 < 4000000000000) (hx:Ts w x a.args) :
  Calls Tryz.prog 208 #[a.v x,(.func (.func 191) #[] #[.pointer (some ⟨P,0,none⟩)])] w fun e w'=>∃ M,e = .returned ((At.mk (nsT vs a.by_) a.name (nsL (nst vs a.by_) a.args)).v (.slice (some ⟨M,0,none⟩) a.args.length a.args.length)) /\ Ts w' (.slice (some ⟨M,0,none⟩) a.args.length a.args.length) (nsL (nst vs a.by_) a.args) /\ w.heap.size <= M /\ M < w'.heap.size /\ NM w' P m (stL (nst vs a.by_) a.args) /\ Bl m w.heap.size w w':=by
 obtain ⟨⟨k,n,ss⟩,nm,l⟩:=a
 simp only at hx hn hwf ⊢
 have hl:l.length <= 4398046511104:=by omega
 have HX:Hid (Ts w x l):=hx
 obtain ⟨ad,cap,rfl, -, -⟩:=hx
 have HW0:Hid (NM w P m vs):=hN
 have hP:P < w.heap.size:=hN.lt.1
 have hm:m < w.heap.size:=hN.lt.2
 obtain ⟨v1,hv⟩:∃ v,nst vs ⟨k,n,ss⟩ = v:=⟨_,rfl⟩
 have hv1:v1.length <= vs.length + 1:=by rw [<- hv];exact nst_len _ _
 obtain ⟨⟨bk,bn,bz⟩,hb⟩:∃ b,nsT vs ⟨k,n,ss⟩ = b:=⟨_,rfl⟩
 have hc:=fun (X:World) (h:NM X P m vs)=>normal1_any vs P m ⟨k,n,ss⟩ X h (hwf _ (Or.inl rfl)) (by omega)
 rw [hb,hv] at hc
 rw [hb,hv]
 have HC:Hid (∀ X,NM X P m vs -> Calls Tryz.prog 191 #[Tm.v ⟨k,n,ss⟩,.pointer (some ⟨P,0,none⟩)] X fun e w'=>e = .returned (Tm.v ⟨bk,bn,bz⟩) /\ NM w' P m v1 /\ X.grownBy w' (some m)):=hc
 have HWF:Hid (∀ t:Tm,t ∈ l -> t.var = true -> (Lit.int .i64 t.n).wf = true):=fun t ht=>hwf t (Or.inr ht)
 have hmk:=mk_terms l.length hl
 clear hb hv hc hwf hN
 go_enter Tryz.func208,Tryz.ntmps208
 go_wp2
 have C:=BoxM.start m w #[.int .i64 k,.int .i64 n,.string ss,.string nm,.slice ad l.length cap] #[.int .i64 0,.int .i64 0,.string ⟨#[]⟩,.string ⟨#[]⟩,.slice none 0 0] 42 42
 have C2:=HW0.out.later (below2 w (.cells #[.int .i64 k,.int .i64 n,.string ss,.string nm,.slice ad l.length cap] 42) (.cells #[.int .i64 0,.int .i64 0,.string ⟨#[]⟩,.string ⟨#[]⟩,.slice none 0 0] 42))
 revert C C2
 generalize (w.alloc (.cells #[.int .i64 k,.int .i64 n,.string ss,.string nm,.slice ad l.length cap] 42)).alloc _ = W
 intro C C2
 have HW:Hid (BoxM m w W _ _ _ _):=C
 have HN:Hid (NM W P m vs):=C2
 clear C C2
 go_cut [5] from 5 (fun s5 wx=>∃ G M:Nat,s5 = .pointer (some ⟨G,0,none⟩) /\ wx.heap[G]? = some (.cells #[.int .i64 bk,.int .i64 bn,.string bz,.string nm,.slice (some ⟨M,0,none⟩) l.length l.length] 42 (0,0)) /\ wx.heap[M]? = some (.cells (MC l.length) 39 (0,0)) /\ G ≠ M /\ W.heap.size <= G /\ W.heap.size <= M /\ NM wx P m v1 /\ Bl m W.heap.size W wx)
 case first=>
  obtain ⟨p0,p1,p2,p3,p4⟩:=five (Hid.out HW).1
  have zz:=(Hid.out HW).lt
  have zz0:w.heap.size < W.heap.size:=Nat.lt_of_succ_lt zz
  have zm:w.heap.size ≠ m:=by omega
  refine wp_region_held_drew (S:=fun w'=>Bl m W.heap.size W w') (by kernel_rfl) (Bl.refl _ _ _).drew (fun hH=>?_)
  have hN:Hid (NM W.drew P m vs):=HN.out.later (Below.refl _ _).drew
  revert hH hN
  generalize W.drew = V
  intro hH hN
  refine wTl 0 ((.func (.func 191) #[] #[.pointer (some ⟨P,0,none⟩)])) rfl (by kernel_rfl) (fun _ _ _ h=>h) rfl (fun w' _=>by go_simp) hH ?_
  simp only [wA,wB,wC,wD]
  refine wTl 1 (.pointer (some ⟨w.heap.size,0,none⟩)) rfl (by kernel_rfl) (fun _ _ _ h=>h) rfl (fun w' _=>by go_simp) hH ?_
  simp only [wA,wB,wC,wD]
  refine wTl 2 (Tm.v ⟨k,n,ss⟩) rfl (by kernel_rfl) (fun _ _ _ h=>h) rfl (fun w' h=>by have a0:=cell_stepM h zz0 zm p0;have a1:=cell_stepM h zz0 zm p1;have a2:=cell_stepM h zz0 zm p2;clear p0 p1 p2 p3 p4;go_simp) hH ?_
  simp only [wA,wB,wC,wD]
  refine wTl 4 (.pointer (some ⟨w.heap.size,3,none⟩)) rfl (by kernel_rfl) (fun _ _ _ h=>h) rfl (fun w' _=>by go_simp) hH ?_
  simp only [wA,wB,wC,wD]
  refine wTl 5 (.string nm) rfl (by kernel_rfl) (fun _ _ _ h=>h) rfl (fun w' h=>by have a3:=cell_stepM h zz0 zm p3;clear p0 p1 p2 p3 p4;go_simp) hH ?_
  simp only [wA,wB,wC,wD]
  refine wTl 6 (.pointer (some ⟨w.heap.size,4,none⟩)) rfl (by kernel_rfl) (fun _ _ _ h=>h) rfl (fun w' _=>by go_simp) hH ?_
  simp only [wA,wB,wC,wD]
  refine wTl 7 (.slice ad l.length cap) rfl (by kernel_rfl) (fun _ _ _ h=>h) rfl (fun w' h=>by have a4:=cell_stepM h zz0 zm p4;clear p0 p1 p2 p3 p4;go_simp) hH ?_
  simp only [wA,wB,wC,wD]
  refine wTl 8 (.int .i64 l.length) rfl (by kernel_rfl) (fun _ _ _ h=>h) rfl (fun w' _=>by go_simp) hH ?_
  simp only [wA,wB,wC,wD]
  clear p0 p1 p2 p3 p4
  refine wpAnyH_ready (rs:=[3,9,11]) (by kernel_rfl) (by simp) ?_
  refine (AllReadyH.cons (o:=⟨_,_,_,_,_,_⟩) rfl (fun K hK=>?_) (AllReadyH.cons (o:=⟨_,_,_,_,_,_⟩) rfl (fun K hK=>?_) (AllReadyH.cons (o:=⟨_,_,_,_,_,_⟩) rfl (fun K hK=>?_) AllReadyH.nil)))
  ·go_simp
   refine (HC.out _ hN.out).mono ?_
   rintro e Vc ⟨rfl,hN2,hg⟩
   have hb:=Bl.grown hg
   refine hK.out _ _ (Bl.step hH hb) (fun hH=>?_)
   clear hb hg hK K hN
   have hN:Hid (NM Vc P m v1):=hN2
   clear hN2
   refine wpAnyH_ready (rs:=[9,11]) (by kernel_rfl) (by simp) ?_
   refine (AllReadyH.cons (o:=⟨_,_,_,_,_,_⟩) rfl (fun K hK=>?_) (AllReadyH.cons (o:=⟨_,_,_,_,_,_⟩) rfl (fun K hK=>?_) AllReadyH.nil))
   ·go_simp
    have gM:=hH.size
    refine hK.out _ _ (ballocM hH) (fun hH=>?_)
    clear hK K
    have fM:=heap_alloc_new Vc (.cells (MC l.length) 39)
    have lM:Vc.heap.size < (Vc.alloc (.cells (MC l.length) 39)).heap.size:=by simp
    have hN:Hid (NM (Vc.alloc (.cells (MC l.length) 39)) P m v1):=hN.out.later (below1 _ _)
    revert hH fM lM hN
    generalize Vc.alloc (.cells (MC l.length) 39) = Vcm
    intro hH fM lM hN
    refine wTl 10 (.agg #[.int .i64 bk,.int .i64 bn,.string bz,.string nm,.slice (some ⟨Vc.heap.size,0,none⟩) l.length l.length]) rfl (by kernel_rfl) (fun _ _ _ h=>h) rfl (fun w' _=>by go_simp) hH ?_
    simp only [wA,wB,wC,wD]
    refine wRd 11 (by kernel_rfl) rfl (fun K hK=>?_)
    ·go_simp
     have gG:=hH.size
     refine hK.out _ _ (ballocM hH) (fun hH=>?_)
     clear hK K
     have hne:=Nat.ne_of_lt lM
     have fM:=(Below.heap_alloc _ (.cells #[.int .i64 0,.int .i64 0,.string ⟨#[]⟩,.string ⟨#[]⟩,.slice none 0 0] 42) _ lM).trans fM
     have lM:=lt_step (below1 Vcm (.cells #[.int .i64 0,.int .i64 0,.string ⟨#[]⟩,.string ⟨#[]⟩,.slice none 0 0] 42)) lM
     have fG:=heap_alloc_new Vcm (.cells #[.int .i64 0,.int .i64 0,.string ⟨#[]⟩,.string ⟨#[]⟩,.slice none 0 0] 42)
     have lG:Vcm.heap.size < (Vcm.alloc (.cells #[.int .i64 0,.int .i64 0,.string ⟨#[]⟩,.string ⟨#[]⟩,.slice none 0 0] 42)).heap.size:=by simp
     have hN:Hid (NM (Vcm.alloc (.cells #[.int .i64 0,.int .i64 0,.string ⟨#[]⟩,.string ⟨#[]⟩,.slice none 0 0] 42)) P m v1):=hN.out.later (below1 _ _)
     revert hH fM lM fG lG hN
     generalize Vcm.alloc (.cells #[.int .i64 0,.int .i64 0,.string ⟨#[]⟩,.string ⟨#[]⟩,.slice none 0 0] 42) = Vcmg
     intro hH fM lM fG lG hN
     refine wRd 12 (by kernel_rfl) rfl (fun K hK=>?_)
     obtain ⟨⟨c0,c1,c2,c3,c4⟩,f0,f1,f2,f3,f4⟩:=fiveF fG
     go_simp
     clear c0 c1 c2 c3 c4 f0 f1 f2 f3 f4
     refine hK.out _ _ (bsetM (bsetM (bsetM (bsetM (bsetM hH gG) gG) gG) gG) gG) (fun hH=>?_)
     clear hK K
     have fG:=store5 (a':=.int .i64 bk) (b':=.int .i64 bn) (c':=.string bz) (d':=.string nm) (e':=.slice (some ⟨Vc.heap.size,0,none⟩) l.length l.length) fG
     have fM:=store5_other (.int .i64 bk) (.int .i64 bn) (.string bz) (.string nm) (.slice (some ⟨Vc.heap.size,0,none⟩) l.length l.length) (G:=Vcm.heap.size) (k:=Vc.heap.size) (by omega) fM
     have nP:P ≠ Vcm.heap.size:=by omega
     have nq:m ≠ Vcm.heap.size:=by omega
     refine wpAnyH_done (by kernel_rfl) ?_ _
     go_wp2_with fail
     go_meet
     case rel=>exact ⟨Vcm.heap.size,Vc.heap.size,rfl,fG,fM,by omega,gG,gM,((((hN.out.off nP nq).off nP nq).off nP nq).off nP nq).off nP nq,hH⟩
   ·go_simp
    have gG:=hH.size
    refine hK.out _ _ (ballocM hH) (fun hH=>?_)
    clear hK K
    have fG:=heap_alloc_new Vc (.cells #[.int .i64 0,.int .i64 0,.string ⟨#[]⟩,.string ⟨#[]⟩,.slice none 0 0] 42)
    have lG:Vc.heap.size < (Vc.alloc (.cells #[.int .i64 0,.int .i64 0,.string ⟨#[]⟩,.string ⟨#[]⟩,.slice none 0 0] 42)).heap.size:=by simp
    have hN:Hid (NM (Vc.alloc (.cells #[.int .i64 0,.int .i64 0,.string ⟨#[]⟩,.string ⟨#[]⟩,.slice none 0 0] 42)) P m v1):=hN.out.later (below1 _ _)
    revert hH fG lG hN
    generalize Vc.alloc (.cells #[.int .i64 0,.int .i64 0,.string ⟨#[]⟩,.string ⟨#[]⟩,.slice none 0 0] 42) = Vcg
    intro hH fG lG hN
    refine wRd 9 (by kernel_rfl) rfl (fun K hK=>?_)
    ·go_simp
     have gM:=hH.size
     refine hK.out _ _ (ballocM hH) (fun hH=>?_)
     clear hK K
     have hne:=Nat.ne_of_lt lG
     have fG:=(Below.heap_alloc _ (.cells (MC l.length) 39) _ lG).trans fG
     have lG:=lt_step (below1 Vcg (.cells (MC l.length) 39)) lG
     have fM:=heap_alloc_new Vcg (.cells (MC l.length) 39)
     have lM:Vcg.heap.size < (Vcg.alloc (.cells (MC l.length) 39)).heap.size:=by simp
     have hN:Hid (NM (Vcg.alloc (.cells (MC l.length) 39)) P m v1):=hN.out.later (below1 _ _)
     revert hH fG lG fM lM hN
     generalize Vcg.alloc (.cells (MC l.length) 39) = Vcgm
     intro hH fG lG fM lM hN
     refine wTl 10 (.agg #[.int .i64 bk,.int .i64 bn,.string bz,.string nm,.slice (some ⟨Vcg.heap.size,0,none⟩) l.length l.length]) rfl (by kernel_rfl) (fun _ _ _ h=>h) rfl (fun w' _=>by go_simp) hH ?_
     simp only [wA,wB,wC,wD]
     refine wRd 12 (by kernel_rfl) rfl (fun K hK=>?_)
     obtain ⟨⟨c0,c1,c2,c3,c4⟩,f0,f1,f2,f3,f4⟩:=fiveF fG
     go_simp
     clear c0 c1 c2 c3 c4 f0 f1 f2 f3 f4
     refine hK.out _ _ (bsetM (bsetM (bsetM (bsetM (bsetM hH gG) gG) gG) gG) gG) (fun hH=>?_)
     clear hK K
     have fG:=store5 (a':=.int .i64 bk) (b':=.int .i64 bn) (c':=.string bz) (d':=.string nm) (e':=.slice (some ⟨Vcg.heap.size,0,none⟩) l.length l.length) fG
     have fM:=store5_other (.int .i64 bk) (.int .i64 bn) (.string bz) (.string nm) (.slice (some ⟨Vcg.heap.size,0,none⟩) l.length l.length) (G:=Vc.heap.size) (k:=Vcg.heap.size) (by omega) fM
     have nP:P ≠ Vc.heap.size:=by omega
     have nq:m ≠ Vc.heap.size:=by omega
     refine wpAnyH_done (by kernel_rfl) ?_ _
     go_wp2_with fail
     go_meet
     case rel=>exact ⟨Vc.heap.size,Vcg.heap.size,rfl,fG,fM,by omega,gG,gM,((((hN.out.off nP nq).off nP nq).off nP nq).off nP nq).off nP nq,hH⟩
  ·go_simp
   have gM:=hH.size
   refine hK.out _ _ (ballocM hH) (fun hH=>?_)
   clear hK K
   have fM:=heap_alloc_new V (.cells (MC l.length) 39)
   have lM:V.heap.size < (V.alloc (.cells (MC l.length) 39)).heap.size:=by simp
   have hN:Hid (NM (V.alloc (.cells (MC l.length) 39)) P m vs):=hN.out.later (below1 _ _)
   revert hH fM lM hN
   generalize V.alloc (.cells (MC l.length) 39) = Vm
   intro hH fM lM hN
   refine wpAnyH_ready (rs:=[3,11]) (by kernel_rfl) (by simp) ?_
   refine (AllReadyH.cons (o:=⟨_,_,_,_,_,_⟩) rfl (fun K hK=>?_) (AllReadyH.cons (o:=⟨_,_,_,_,_,_⟩) rfl (fun K hK=>?_) AllReadyH.nil))
   ·go_simp
    refine (HC.out _ hN.out).mono ?_
    rintro e Vmc ⟨rfl,hN2,hg⟩
    have hb:=Bl.grown hg
    refine hK.out _ _ (Bl.step hH hb) (fun hH=>?_)
    have fM:=(hb.block _ lM (by omega)).trans fM
    have lM:=Nat.lt_of_lt_of_le lM hb.size
    clear hb hg hK K hN
    have hN:Hid (NM Vmc P m v1):=hN2
    clear hN2
    refine wTl 10 (.agg #[.int .i64 bk,.int .i64 bn,.string bz,.string nm,.slice (some ⟨V.heap.size,0,none⟩) l.length l.length]) rfl (by kernel_rfl) (fun _ _ _ h=>h) rfl (fun w' _=>by go_simp) hH ?_
    simp only [wA,wB,wC,wD]
    refine wRd 11 (by kernel_rfl) rfl (fun K hK=>?_)
    ·go_simp
     have gG:=hH.size
     refine hK.out _ _ (ballocM hH) (fun hH=>?_)
     clear hK K
     have hne:=Nat.ne_of_lt lM
     have fM:=(Below.heap_alloc _ (.cells #[.int .i64 0,.int .i64 0,.string ⟨#[]⟩,.string ⟨#[]⟩,.slice none 0 0] 42) _ lM).trans fM
     have lM:=lt_step (below1 Vmc (.cells #[.int .i64 0,.int .i64 0,.string ⟨#[]⟩,.string ⟨#[]⟩,.slice none 0 0] 42)) lM
     have fG:=heap_alloc_new Vmc (.cells #[.int .i64 0,.int .i64 0,.string ⟨#[]⟩,.string ⟨#[]⟩,.slice none 0 0] 42)
     have lG:Vmc.heap.size < (Vmc.alloc (.cells #[.int .i64 0,.int .i64 0,.string ⟨#[]⟩,.string ⟨#[]⟩,.slice none 0 0] 42)).heap.size:=by simp
     have hN:Hid (NM (Vmc.alloc (.cells #[.int .i64 0,.int .i64 0,.string ⟨#[]⟩,.string ⟨#[]⟩,.slice none 0 0] 42)) P m v1):=hN.out.later (below1 _ _)
     revert hH fM lM fG lG hN
     generalize Vmc.alloc (.cells #[.int .i64 0,.int .i64 0,.string ⟨#[]⟩,.string ⟨#[]⟩,.slice none 0 0] 42) = Vmcg
     intro hH fM lM fG lG hN
     refine wRd 12 (by kernel_rfl) rfl (fun K hK=>?_)
     obtain ⟨⟨c0,c1,c2,c3,c4⟩,f0,f1,f2,f3,f4⟩:=fiveF fG
     go_simp
     clear c0 c1 c2 c3 c4 f0 f1 f2 f3 f4
     refine hK.out _ _ (bsetM (bsetM (bsetM (bsetM (bsetM hH gG) gG) gG) gG) gG) (fun hH=>?_)
     clear hK K
     have fG:=store5 (a':=.int .i64 bk) (b':=.int .i64 bn) (c':=.string bz) (d':=.string nm) (e':=.slice (some ⟨V.heap.size,0,none⟩) l.length l.length) fG
     have fM:=store5_other (.int .i64 bk) (.int .i64 bn) (.string bz) (.string nm) (.slice (some ⟨V.heap.size,0,none⟩) l.length l.length) (G:=Vmc.heap.size) (k:=V.heap.size) (by omega) fM
     have nP:P ≠ Vmc.heap.size:=by omega
     have nq:m ≠ Vmc.heap.size:=by omega
     refine wpAnyH_done (by kernel_rfl) ?_ _
     go_wp2_with fail
     go_meet
     case rel=>exact ⟨Vmc.heap.size,V.heap.size,rfl,fG,fM,by omega,gG,gM,((((hN.out.off nP nq).off nP nq).off nP nq).off nP nq).off nP nq,hH⟩
   ·go_simp
    have gG:=hH.size
    refine hK.out _ _ (ballocM hH) (fun hH=>?_)
    clear hK K
    have hne:=Nat.ne_of_lt lM
    have fM:=(Below.heap_alloc _ (.cells #[.int .i64 0,.int .i64 0,.string ⟨#[]⟩,.string ⟨#[]⟩,.slice none 0 0] 42) _ lM).trans fM
    have lM:=lt_step (below1 Vm (.cells #[.int .i64 0,.int .i64 0,.string ⟨#[]⟩,.string ⟨#[]⟩,.slice none 0 0] 42)) lM
    have fG:=heap_alloc_new Vm (.cells #[.int .i64 0,.int .i64 0,.string ⟨#[]⟩,.string ⟨#[]⟩,.slice none 0 0] 42)
    have lG:Vm.heap.size < (Vm.alloc (.cells #[.int .i64 0,.int .i64 0,.string ⟨#[]⟩,.string ⟨#[]⟩,.slice none 0 0] 42)).heap.size:=by simp
    have hN:Hid (NM (Vm.alloc (.cells #[.int .i64 0,.int .i64 0,.string ⟨#[]⟩,.string ⟨#[]⟩,.slice none 0 0] 42)) P m vs):=hN.out.later (below1 _ _)
    revert hH fM lM fG lG hN
    generalize Vm.alloc (.cells #[.int .i64 0,.int .i64 0,.string ⟨#[]⟩,.string ⟨#[]⟩,.slice none 0 0] 42) = Vmg
    intro hH fM lM fG lG hN
    refine wRd 3 (by kernel_rfl) rfl (fun K hK=>?_)
    ·go_simp
     refine (HC.out _ hN.out).mono ?_
     rintro e Vmgc ⟨rfl,hN2,hg⟩
     have hb:=Bl.grown hg
     refine hK.out _ _ (Bl.step hH hb) (fun hH=>?_)
     have fM:=(hb.block _ lM (by omega)).trans fM
     have lM:=Nat.lt_of_lt_of_le lM hb.size
     have fG:=(hb.block _ lG (by omega)).trans fG
     have lG:=Nat.lt_of_lt_of_le lG hb.size
     clear hb hg hK K hN
     have hN:Hid (NM Vmgc P m v1):=hN2
     clear hN2
     refine wTl 10 (.agg #[.int .i64 bk,.int .i64 bn,.string bz,.string nm,.slice (some ⟨V.heap.size,0,none⟩) l.length l.length]) rfl (by kernel_rfl) (fun _ _ _ h=>h) rfl (fun w' _=>by go_simp) hH ?_
     simp only [wA,wB,wC,wD]
     refine wRd 12 (by kernel_rfl) rfl (fun K hK=>?_)
     obtain ⟨⟨c0,c1,c2,c3,c4⟩,f0,f1,f2,f3,f4⟩:=fiveF fG
     go_simp
     clear c0 c1 c2 c3 c4 f0 f1 f2 f3 f4
     refine hK.out _ _ (bsetM (bsetM (bsetM (bsetM (bsetM hH gG) gG) gG) gG) gG) (fun hH=>?_)
     clear hK K
     have fG:=store5 (a':=.int .i64 bk) (b':=.int .i64 bn) (c':=.string bz) (d':=.string nm) (e':=.slice (some ⟨V.heap.size,0,none⟩) l.length l.length) fG
     have fM:=store5_other (.int .i64 bk) (.int .i64 bn) (.string bz) (.string nm) (.slice (some ⟨V.heap.size,0,none⟩) l.length l.length) (G:=Vm.heap.size) (k:=V.heap.size) (by omega) fM
     have nP:P ≠ Vm.heap.size:=by omega
     have nq:m ≠ Vm.heap.size:=by omega
     refine wpAnyH_done (by kernel_rfl) ?_ _
     go_wp2_with fail
     go_meet
     case rel=>exact ⟨Vm.heap.size,V.heap.size,rfl,fG,fM,by omega,gG,gM,((((hN.out.off nP nq).off nP nq).off nP nq).off nP nq).off nP nq,hH⟩
  ·go_simp
   have gG:=hH.size
   refine hK.out _ _ (ballocM hH) (fun hH=>?_)
   clear hK K
   have fG:=heap_alloc_new V (.cells #[.int .i64 0,.int .i64 0,.string ⟨#[]⟩,.string ⟨#[]⟩,.slice none 0 0] 42)
   have lG:V.heap.size < (V.alloc (.cells #[.int .i64 0,.int .i64 0,.string ⟨#[]⟩,.string ⟨#[]⟩,.slice none 0 0] 42)).heap.size:=by simp
   have hN:Hid (NM (V.alloc (.cells #[.int .i64 0,.int .i64 0,.string ⟨#[]⟩,.string ⟨#[]⟩,.slice none 0 0] 42)) P m vs):=hN.out.later (below1 _ _)
   revert hH fG lG hN
   generalize V.alloc (.cells #[.int .i64 0,.int .i64 0,.string ⟨#[]⟩,.string ⟨#[]⟩,.slice none 0 0] 42) = Vg
   intro hH fG lG hN
   refine wpAnyH_ready (rs:=[3,9]) (by kernel_rfl) (by simp) ?_
   refine (AllReadyH.cons (o:=⟨_,_,_,_,_,_⟩) rfl (fun K hK=>?_) (AllReadyH.cons (o:=⟨_,_,_,_,_,_⟩) rfl (fun K hK=>?_) AllReadyH.nil))
   ·go_simp
    refine (HC.out _ hN.out).mono ?_
    rintro e Vgc ⟨rfl,hN2,hg⟩
    have hb:=Bl.grown hg
    refine hK.out _ _ (Bl.step hH hb) (fun hH=>?_)
    have fG:=(hb.block _ lG (by omega)).trans fG
    have lG:=Nat.lt_of_lt_of_le lG hb.size
    clear hb hg hK K hN
    have hN:Hid (NM Vgc P m v1):=hN2
    clear hN2
    refine wRd 9 (by kernel_rfl) rfl (fun K hK=>?_)
    ·go_simp
     have gM:=hH.size
     refine hK.out _ _ (ballocM hH) (fun hH=>?_)
     clear hK K
     have hne:=Nat.ne_of_lt lG
     have fG:=(Below.heap_alloc _ (.cells (MC l.length) 39) _ lG).trans fG
     have lG:=lt_step (below1 Vgc (.cells (MC l.length) 39)) lG
     have fM:=heap_alloc_new Vgc (.cells (MC l.length) 39)
     have lM:Vgc.heap.size < (Vgc.alloc (.cells (MC l.length) 39)).heap.size:=by simp
     have hN:Hid (NM (Vgc.alloc (.cells (MC l.length) 39)) P m v1):=hN.out.later (below1 _ _)
     revert hH fG lG fM lM hN
     generalize Vgc.alloc (.cells (MC l.length) 39) = Vgcm
     intro hH fG lG fM lM hN
     refine wTl 10 (.agg #[.int .i64 bk,.int .i64 bn,.string bz,.string nm,.slice (some ⟨Vgc.heap.size,0,none⟩) l.length l.length]) rfl (by kernel_rfl) (fun _ _ _ h=>h) rfl (fun w' _=>by go_simp) hH ?_
     simp only [wA,wB,wC,wD]
     refine wRd 12 (by kernel_rfl) rfl (fun K hK=>?_)
     obtain ⟨⟨c0,c1,c2,c3,c4⟩,f0,f1,f2,f3,f4⟩:=fiveF fG
     go_simp
     clear c0 c1 c2 c3 c4 f0 f1 f2 f3 f4
     refine hK.out _ _ (bsetM (bsetM (bsetM (bsetM (bsetM hH gG) gG) gG) gG) gG) (fun hH=>?_)
     clear hK K
     have fG:=store5 (a':=.int .i64 bk) (b':=.int .i64 bn) (c':=.string bz) (d':=.string nm) (e':=.slice (some ⟨Vgc.heap.size,0,none⟩) l.length l.length) fG
     have fM:=store5_other (.int .i64 bk) (.int .i64 bn) (.string bz) (.string nm) (.slice (some ⟨Vgc.heap.size,0,none⟩) l.length l.length) (G:=V.heap.size) (k:=Vgc.heap.size) (by omega) fM
     have nP:P ≠ V.heap.size:=by omega
     have nq:m ≠ V.heap.size:=by omega
     refine wpAnyH_done (by kernel_rfl) ?_ _
     go_wp2_with fail
     go_meet
     case rel=>exact ⟨V.heap.size,Vgc.heap.size,rfl,fG,fM,by omega,gG,gM,((((hN.out.off nP nq).off nP nq).off nP nq).off nP nq).off nP nq,hH⟩
   ·go_simp
    have gM:=hH.size
    refine hK.out _ _ (ballocM hH) (fun hH=>?_)
    clear hK K
    have hne:=Nat.ne_of_lt lG
    have fG:=(Below.heap_alloc _ (.cells (MC l.length) 39) _ lG).trans fG
    have lG:=lt_step (below1 Vg (.cells (MC l.length) 39)) lG
    have fM:=heap_alloc_new Vg (.cells (MC l.length) 39)
    have lM:Vg.heap.size < (Vg.alloc (.cells (MC l.length) 39)).heap.size:=by simp
    have hN:Hid (NM (Vg.alloc (.cells (MC l.length) 39)) P m vs):=hN.out.later (below1 _ _)
    revert hH fG lG fM lM hN
    generalize Vg.alloc (.cells (MC l.length) 39) = Vgm
    intro hH fG lG fM lM hN
    refine wRd 3 (by kernel_rfl) rfl (fun K hK=>?_)
    ·go_simp
     refine (HC.out _ hN.out).mono ?_
     rintro e Vgmc ⟨rfl,hN2,hg⟩
     have hb:=Bl.grown hg
     refine hK.out _ _ (Bl.step hH hb) (fun hH=>?_)
     have fM:=(hb.block _ lM (by omega)).trans fM
     have lM:=Nat.lt_of_lt_of_le lM hb.size
     have fG:=(hb.block _ lG (by omega)).trans fG
     have lG:=Nat.lt_of_lt_of_le lG hb.size
     clear hb hg hK K hN
     have hN:Hid (NM Vgmc P m v1):=hN2
     clear hN2
     refine wTl 10 (.agg #[.int .i64 bk,.int .i64 bn,.string bz,.string nm,.slice (some ⟨Vg.heap.size,0,none⟩) l.length l.length]) rfl (by kernel_rfl) (fun _ _ _ h=>h) rfl (fun w' _=>by go_simp) hH ?_
     simp only [wA,wB,wC,wD]
     refine wRd 12 (by kernel_rfl) rfl (fun K hK=>?_)
     obtain ⟨⟨c0,c1,c2,c3,c4⟩,f0,f1,f2,f3,f4⟩:=fiveF fG
     go_simp
     clear c0 c1 c2 c3 c4 f0 f1 f2 f3 f4
     refine hK.out _ _ (bsetM (bsetM (bsetM (bsetM (bsetM hH gG) gG) gG) gG) gG) (fun hH=>?_)
     clear hK K
     have fG:=store5 (a':=.int .i64 bk) (b':=.int .i64 bn) (c':=.string bz) (d':=.string nm) (e':=.slice (some ⟨Vg.heap.size,0,none⟩) l.length l.length) fG
     have fM:=store5_other (.int .i64 bk) (.int .i64 bn) (.string bz) (.string nm) (.slice (some ⟨Vg.heap.size,0,none⟩) l.length l.length) (G:=V.heap.size) (k:=Vg.heap.size) (by omega) fM
     have nP:P ≠ V.heap.size:=by omega
     have nq:m ≠ V.heap.size:=by omega
     refine wpAnyH_done (by kernel_rfl) ?_ _
     go_wp2_with fail
     go_meet
     case rel=>exact ⟨V.heap.size,Vg.heap.size,rfl,fG,fM,by omega,gG,gM,((((hN.out.off nP nq).off nP nq).off nP nq).off nP nq).off nP nq,hH⟩
 case rest=>
  obtain ⟨G,M,rfl,hG,hM,hne,hgG,hgM,hNc,hbW⟩:=hcut
  clear hmk HN HC
  have zz:=(Hid.out HW).lt
  have B0:=(Hid.out HW).later hbW hm
  have lM:M < wc.heap.size:=(Array.getElem?_eq_some_iff.1 hM).1
  have lG:G < wc.heap.size:=(Array.getElem?_eq_some_iff.1 hG).1
  obtain ⟨L,hL⟩:∃ L,L = nsL v1 l:=⟨_,rfl⟩
  have HL:Hid (L = nsL v1 l):=hL
  have hLl:l.length = L.length:=by rw [hL,nsL_len]
  have hT:=TBlk.start hLl hM
  have HLL:Hid (l.length = L.length):=hLl
  clear hLl
  obtain ⟨p0,p1,p2,p3,p4⟩:=five B0.1
  have g1:w.heap.size + 1 < G:=by omega
  have g2:w.heap.size + 1 < M:=by omega
  have zw:w.heap.size + 1 < wc.heap.size:=by omega
  clear hM hL HW hbW hgG hgM
  have HNc:Hid (NM wc P m v1):=hNc
  clear hNc
  go_wp2
  clear p0 p1 p2 p3 p4
  go_loopg [22] l.length (fun g i wr=>∃ j:Nat,j + g = l.length /\ i = .int .i64 j /\ BoxM m w wr #[.int .i64 k,.int .i64 n,.string ss,.string nm,.slice ad l.length cap] #[.int .i64 0,.int .i64 0,.string ⟨#[]⟩,.string ⟨#[]⟩,.slice none 0 0] 42 42 /\ TBlk wr M L j /\ wr.heap[G]? = some (.cells #[.int .i64 bk,.int .i64 bn,.string bz,.string nm,.slice (some ⟨M,0,none⟩) l.length l.length] 42 (0,0)) /\ NM wr P m (stL v1 (l.take j)))
  case atStart=>exact ⟨0,by omega,rfl,B0,hT,hG,HNc.out⟩
  case round=>
   clear B0 hT hG lM lG zw HNc
   obtain ⟨j,hj,rfl,hB,hT,hG,hNr⟩:=hrel
   have lG:G < wr.heap.size:=(Array.getElem?_eq_some_iff.1 hG).1
   have lM:M < wr.heap.size:=by obtain ⟨_,h,_⟩:=hT;exact (Array.getElem?_eq_some_iff.1 h).1
   have HBX:Hid (BoxM m w wr #[.int .i64 k,.int .i64 n,.string ss,.string nm,.slice ad l.length cap] #[.int .i64 0,.int .i64 0,.string ⟨#[]⟩,.string ⟨#[]⟩,.slice none 0 0] 42 42):=hB
   have HT:Hid (TBlk wr M L j):=hT
   have HG:Hid (wr.heap[G]? = some (.cells #[.int .i64 bk,.int .i64 bn,.string bz,.string nm,.slice (some ⟨M,0,none⟩) l.length l.length] 42 (0,0))):=hG
   have HNr:Hid (NM wr P m (stL v1 (l.take j))):=hNr
   clear hB hT hG hNr
   cases gk with
   | succ g=>
    have hlt:j < l.length:=by omega
    obtain ⟨t,ht⟩:∃ t,l[j]? = some t:=⟨_,List.getElem?_eq_getElem hlt⟩
    have hvl:(stL v1 (l.take j)).length < 4000000000000:=by have:=stL_len (l.take j) v1;rw [List.length_take] at this;omega
    have HS0:Hid (stL v1 (l.take (j + 1)) = nst (stL v1 (l.take j)) t):=stL_take ht
    have hat:=nsL_at (vs:=v1) ht
    obtain ⟨vj,hvj⟩:∃ v,stL v1 (l.take j) = v:=⟨_,rfl⟩
    rw [hvj] at HNr HS0 hvl hat
    clear hvj
    obtain ⟨⟨uk,un,us⟩,hu⟩:∃ u,nsT vj t = u:=⟨_,rfl⟩
    have HU:Hid (nsT vj t = ⟨uk,un,us⟩):=hu
    have HLu:Hid (L[j]? = some ⟨uk,un,us⟩):=by show L[j]? = _;rw [HL.out,hat,hu]
    have HWt:Hid (t.var = true -> (Lit.int .i64 t.n).wf = true):=HWF.out t (List.mem_of_getElem? ht)
    obtain ⟨tk,tn,ts⟩:=t
    obtain ⟨ad',cap',hx, -,hxx⟩:=HX.out.bl HW0.out (Hid.out HBX).2.2
    simp only [Value.slice.injEq] at hx
    obtain ⟨rfl, -,rfl⟩:=hx
    rcases hxx with hxx | ⟨b,o,rfl,hbs,hxx⟩
    ·subst hxx;simp at hlt
    ·obtain ⟨c0,c1,c2⟩:=hxx j _ ht
     simp only at c0 c1 c2
     clear hxx ht hu hat
     have i1:(0:Int) <= (j:Int):=by omega
     have i2:(j:Int) < (l.length:Int):=by omega
     go_wp2
     clear c0 c1 c2
     have hbX:Below wr.heap.size wr (wr.alloc (.cells #[.int .i64 tk,.int .i64 tn,.string ts] 39)):=below1 _ _
     have g6:=heap_alloc_new wr (.cells #[.int .i64 tk,.int .i64 tn,.string ts] 39)
     have l6:wr.heap.size < (wr.alloc (.cells #[.int .i64 tk,.int .i64 tn,.string ts] 39)).heap.size:=by simp
     revert hbX g6 l6
     generalize wr.alloc (.cells #[.int .i64 tk,.int .i64 tn,.string ts] 39) = X
     intro hbX g6 l6
     have hGX:=(hbX.block _ lG).trans HG.out
     have hTX:=HT.out.later hbX
     have hNX:=HNr.out.later hbX
     have zX:w.heap.size + 2 <= wr.heap.size:=(Hid.out HBX).lt
     have zX2:wr.heap.size <= X.heap.size:=hbX.size
     obtain ⟨T,hTe⟩:∃ T,T = wr.heap.size:=⟨_,rfl⟩
     rw [<- hTe] at g6 l6 zX ⊢
     have hMT:M < T:=by rw [hTe];exact lM
     have hGT:G < T:=by rw [hTe];exact lG
     have HBX2:Hid (Below T wr X):=by rw [hTe];exact hbX
     clear hbX hTe
     refine wp_region_held_drew (S:=fun w'=>Bl m (w.heap.size + 2) X w' /\ w'.heap[G]? = some (.cells #[.int .i64 bk,.int .i64 bn,.string bz,.string nm,.slice (some ⟨M,0,none⟩) l.length l.length] 42 (0,0)) /\ w'.heap[T]? = some (.cells #[.int .i64 tk,.int .i64 tn,.string ts] 39 (0,0))) (by kernel_rfl) ⟨(Bl.refl _ _ _).drew,hGX,g6⟩ (fun hH=>?_)
     have hTV:TBlk X.drew M L j:=hTX
     have hNV:NM X.drew P m vj:=hNX.later (Below.refl _ _).drew
     have lV:T < X.drew.heap.size:=l6
     revert hH hTV hNV lV
     generalize X.drew = V
     intro hH hTV hNV lV
     clear hGX hTX hNX g6 l6
     have HTV:Hid (TBlk V M L j):=hTV
     have HNV:Hid (NM V P m vj):=hNV
     clear hTV hNV
     refine wTl 0 (.pointer (some ⟨G,4,none⟩)) rfl (by kernel_rfl) (fun _ _ _ h=>h) rfl (fun w' h=>by clear h;go_simp) hH ?_
     simp only [wA,wB,wC,wD]
     refine wTl 1 (.slice (some ⟨M,0,none⟩) l.length l.length) rfl (by kernel_rfl) (fun _ _ _ h=>h) rfl (fun w' h=>by have a4:=(five h.2.1).2.2.2.2;clear h;go_simp) hH ?_
     simp only [wA,wB,wC,wD]
     refine wTl 2 (.int .i64 j) rfl (by kernel_rfl) (fun _ _ _ h=>h) rfl (fun w' h=>by clear h;go_simp) hH ?_
     simp only [wA,wB,wC,wD]
     refine wTl 3 ((.func (.func 191) #[] #[.pointer (some ⟨P,0,none⟩)])) rfl (by kernel_rfl) (fun _ _ _ h=>h) rfl (fun w' h=>by clear h;go_simp) hH ?_
     simp only [wA,wB,wC,wD]
     refine wTl 4 (Tm.v ⟨tk,tn,ts⟩) rfl (by kernel_rfl) (fun _ _ _ h=>h) rfl (fun w' h=>by obtain ⟨a0,a1,a2, -, -, -⟩:=three h.2.2;clear h;go_simp) hH ?_
     simp only [wA,wB,wC,wD]
     refine wRd 5 (by kernel_rfl) rfl (fun K hK=>?_)
     go_simp
     refine (normal1_any vj P m ⟨tk,tn,ts⟩ _ HNV.out HWt.out hvl).mono ?_
     rw [HU.out]
     rintro e w3 ⟨rfl,hN3,hg3⟩
     have hb3:=Bl.grown hg3
     have hT3:=HTV.out.bl hb3 (by omega)
     refine hK.out _ _ ⟨hH.1.trans (hb3.mono (by omega)),(hb3.block _ (by omega) (by omega)).trans hH.2.1,(hb3.block _ lV (by omega)).trans hH.2.2⟩ (fun hH=>?_)
     have l3:=Nat.lt_of_lt_of_le lV hb3.size
     have HN3:Hid (NM w3 P m _):=hN3
     clear hK K hb3 hg3 lV HTV HNV hN3
     refine wTl 6 (.pointer (some ⟨M,j * 3,none⟩)) rfl (by kernel_rfl) (fun _ _ _ h=>h) rfl (fun w' h=>by clear h hT3;go_simp) hH ?_
     simp only [wA,wB,wC,wD]
     obtain ⟨⟨d0,e0⟩,f0⟩:=hT3.cells (j:=j * 3) (by have:=HLL.out;omega)
     obtain ⟨⟨d1,e1⟩,f1⟩:=hT3.cells (j:=j * 3 + 1) (by have:=HLL.out;omega)
     obtain ⟨⟨d2,e2⟩,f2⟩:=hT3.cells (j:=j * 3 + 2) (by have:=HLL.out;omega)
     have HT3:Hid (TBlk w3 M L j):=hT3
     clear hT3
     refine wRd 7 (by kernel_rfl) rfl (fun K hK=>?_)
     go_simp
     clear e0 e1 e2 f0 f1 f2
     have hput:=TBlk.put HT3.out HLu.out
     have hPut:Hid (TBlk _ M L (j + 1)):=hput
     clear hput HT3
     refine hK.out _ _ ⟨bset3M hH.1 g2,putO _ _ _ (by omega) hH.2.1,putO _ _ _ (by omega) hH.2.2⟩ (fun hH=>?_)
     clear hK K
     refine wpAnyH_done (by kernel_rfl) ?_ _
     have RB:=BoxM.later2 (Hid.out HBX) ((Bl.of (HBX2.out.mono (by omega))).trans hH.1) hm
     have RG:=hH.2.1
     have nPM:P ≠ M:=by omega
     have nmM:m ≠ M:=by omega
     clear hH
     go_wp2
     go_roundg g
     case measure=>omega
     case rel=>exact ⟨j + 1,by omega,by go_num,RB,Hid.out hPut,RG,by rw [HS0.out];exact ((HN3.out.off nPM nmM).off nPM nmM).off nPM nmM⟩
   | zero=>
    have hjl:j = l.length:=by omega
    subst hjl
    rw [List.take_length] at HNr
    obtain ⟨⟨q0,q1,q2,q3,q4⟩,f0,f1,f2,f3,f4⟩:=fiveF (Hid.out HBX).2.1
    obtain ⟨r0,r1,r2,r3,r4⟩:=five HG.out
    have hz:¬ ((l.length:Int) < (l.length:Int)):=by omega
    have lz:=(Hid.out HBX).lt
    have n1:P ≠ w.heap.size + 1:=by omega
    have n2:m ≠ w.heap.size + 1:=by omega
    go_wp2
    refine bodyPost_ret (v:=(At.mk ⟨bk,bn,bz⟩ nm L).v (.slice (some ⟨M,0,none⟩) l.length l.length)) (by simp [results,Tryz.results208,go_sem,q0,q1,q2,q3,q4]) rfl ⟨M, ?_, ?_,by omega,by simpa [World.setCell] using lM, ?_, ?_⟩
    ·rw [<- HL.out]
    ·rw [<- HL.out]
     exact TBlk.ts HLL.out hl (TBlk.other (TBlk.other (TBlk.other (TBlk.other (TBlk.other HT.out (by omega)) (by omega)) (by omega)) (by omega)) (by omega))
    ·exact ((((HNr.out.off n1 n2).off n1 n2).off n1 n2).off n1 n2).off n1 n2
    ·exact bsetM (bsetM (bsetM (bsetM (bsetM (Hid.out HBX).2.2 (by omega)) (by omega)) (by omega)) (by omega)) (by omega)
end Go.Proofs.YtcpjiahdaplhlaaGreatDoor

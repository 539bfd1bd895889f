import Derived.Test.YtcpjiahdaplhlaaGreatDoorCL2
import Derived.Test.YtcpjiahdaplhlaaGreatDoorW1
import Derived.Deep.CutRange
import Derived.Deep.RegionHeld3
import Derived.BigQuiet
import Derived.Test.YtcpjiahdaplhlaaGreatDoorCL12
import Derived.Test.YtcpjiahdaplhlaaGreatDoorRows
import Derived.Test.YtcpjiahdaplhlaaGreatDoorCL5
import Derived.Laws.AppendOwnNone
import Derived.Laws.AppendOwn
/-
  hearsaylaw02.TermDecides, for every two terms.
-/
namespace Go.Proofs.YtcpjiahdaplhlaaGreatDoor
open Go.RowKit
attribute [local go_sem ↓] Go.wp_at_zero Go.wp_at_succ

def x4 : Tm := ⟨3, 4, ⟨#[]⟩⟩
end Go.Proofs.YtcpjiahdaplhlaaGreatDoor
namespace Go.Proofs.YtcpjiahdaplhlaaGreatDoor
open Go.RowKit
theorem two_boxes {w w1:World} {c d:Array Value} {t u:TypeId} (hb:Below ((w.alloc (.cells c t)).alloc (.cells d u)).heap.size ((w.alloc (.cells c t)).alloc (.cells d u)) w1):CBlk w1 w.heap.size c t /\ CBlk w1 (w.heap.size + 1) d u:=by
 have h1:=((CBlk.new w c t).later (below1 _ (.cells d u))).later hb
 have h2:=(CBlk.new (w.alloc (.cells c t)) d u).later hb
 rw [show (w.alloc (.cells c t)).heap.size = w.heap.size + 1 by simp] at h2
 exact ⟨h1,h2⟩
end Go.Proofs.YtcpjiahdaplhlaaGreatDoor
namespace Go.Proofs.YtcpjiahdaplhlaaGreatDoor
open Go.RowKit
attribute [local go_sem ↓] Go.wp_at_zero Go.wp_at_succ
theorem drop_eq_step (a b:List Tm) (i:Nat) (t u:Tm) (ht:a[i]? = some t) (hu:b[i]? = some u):(a.drop i = b.drop i) ↔ (t = u /\ a.drop (i + 1) = b.drop (i + 1)):=by
 obtain ⟨h1,rfl⟩:=List.getElem?_eq_some_iff.1 ht
 obtain ⟨h2,rfl⟩:=List.getElem?_eq_some_iff.1 hu
 rw [List.drop_eq_getElem_cons h1,List.drop_eq_getElem_cons h2,List.cons.injEq]
instance:DecidableEq At:=fun a b=>decidable_of_iff (a.by_ = b.by_ /\ a.name = b.name /\ a.args = b.args) (by cases a;cases b;simp)
end Go.Proofs.YtcpjiahdaplhlaaGreatDoor
namespace Go.Proofs.YtcpjiahdaplhlaaGreatDoor
open Go.RowKit
attribute [local go_sem ↓] Go.wp_at_zero Go.wp_at_succ
theorem run_neq_te (t u:Te) (w:World):(binOp .neq 85 t.v u.v).run Tryz.prog w = .ok (.bool (!decide (t = u))) w:=by
 obtain ⟨op,⟨kl,ml,sl⟩,⟨kr,mr,sr⟩⟩:=t
 obtain ⟨oq,⟨kp,mp,sp⟩,⟨kq,mq,sq⟩⟩:=u
 by_cases h0:op = oq
 ·subst h0
  by_cases h1:kl = kp
  ·subst h1
   by_cases h2:ml = mp
   ·subst h2
    by_cases h3:sl = sp
    ·subst h3
     by_cases h4:kr = kq
     ·subst h4
      by_cases h5:mr = mq
      ·subst h5
       by_cases h6:sr = sq
       ·subst h6;go_simp
       ·have h7:¬ sr.toList = sq.toList:=fun e=>h6 (toList_inj e)
        go_simp
      ·go_simp
     ·go_simp
    ·have h7:¬ sl.toList = sp.toList:=fun e=>h3 (toList_inj e)
     go_simp
   ·go_simp
  ·go_simp
 ·go_simp
def fsts (l:List (At × Value)):List At:=l.map (·.1)
end Go.Proofs.YtcpjiahdaplhlaaGreatDoor
namespace Go.Proofs.YtcpjiahdaplhlaaGreatDoor
def Cm.key (c:Cm):At × List At × List Te:=(c.head.1,fsts c.body,c.tests)
end Go.Proofs.YtcpjiahdaplhlaaGreatDoor
namespace Go.Proofs.YtcpjiahdaplhlaaGreatDoor
open Go.RowKit
abbrev Ck:=At × List At × List Te
def Ck.terms (x:Ck):List Tm:=x.1.pl ++ (x.2.1.flatMap At.pl ++ tls x.2.2)
theorem key_terms (c:Cm):c.terms = Ck.terms c.key:=by
 rw [Cm.terms_eq,Ck.terms,Cm.key,flt,fsts,List.flatMap_map];simp
def mapA (f:Tm -> Tm) (a:At):At:=⟨f a.by_,a.name,a.args.map f⟩
def mapE (f:Tm -> Tm) (t:Te):Te:=⟨t.op,f t.l,f t.r⟩
def mapC (f:Tm -> Tm) (x:Ck):Ck:=(mapA f x.1,x.2.1.map (mapA f),x.2.2.map (mapE f))
theorem mapA_pl (f:Tm -> Tm) (a:At):(mapA f a).pl = a.pl.map f:=rfl
theorem flat_mapA (f:Tm -> Tm) (l:List At):(l.map (mapA f)).flatMap At.pl = (l.flatMap At.pl).map f:=by
 rw [List.flatMap_map,List.map_flatMap];rfl
theorem tls_mapE (f:Tm -> Tm) (l:List Te):tls (l.map (mapE f)) = (tls l).map f:=by
 unfold tls;rw [List.flatMap_map,List.map_flatMap];rfl
theorem mapC_terms (f:Tm -> Tm) (x:Ck):Ck.terms (mapC f x) = (Ck.terms x).map f:=by
 unfold Ck.terms mapC;simp only [mapA_pl,flat_mapA,tls_mapE,List.map_append]
theorem mapA_congr {f g:Tm -> Tm} {a:At} (h:∀ t ∈ a.pl,f t = g t):mapA f a = mapA g a:=by
 unfold mapA
 rw [h a.by_ (by simp [At.pl]),List.map_congr_left fun t ht=>h t (by simp [At.pl,ht])]
theorem mapC_congr {f g:Tm -> Tm} {x:Ck} (h:∀ t ∈ Ck.terms x,f t = g t):mapC f x = mapC g x:=by
 unfold mapC
 have e1:mapA f x.1 = mapA g x.1:=mapA_congr fun t ht=>h t (by simp [Ck.terms,ht])
 have e2:x.2.1.map (mapA f) = x.2.1.map (mapA g):=List.map_congr_left fun a ha=>mapA_congr fun t ht=>h t (List.mem_append_right _ (List.mem_append_left _ (List.mem_flatMap.2 ⟨a,ha,ht⟩)))
 have e3:x.2.2.map (mapE f) = x.2.2.map (mapE g):=List.map_congr_left fun e he=>by
  unfold mapE
  rw [h e.l,h e.r]
  ·exact List.mem_append_right _ (List.mem_append_right _ (List.mem_flatMap.2 ⟨e,he,by simp⟩))
  ·exact List.mem_append_right _ (List.mem_append_right _ (List.mem_flatMap.2 ⟨e,he,by simp⟩))
 rw [e1,e2,e3]
theorem err_zero' {a:At} (h:a.err = 0):nameOk a.name = true /\ a.args.length <= 8 /\ qualOk a.by_ = true /\ ∀ t ∈ a.args,t.cov = true:=by
 unfold At.err at h
 split at h
 ·cases h
 split at h
 ·cases h
 split at h
 ·cases h
 split at h
 ·rename_i a1 a2 a3 a4
  exact ⟨by simpa using a1,by omega,by simpa using a3,by rwa [List.all_eq_true] at a4⟩
 ·cases h
def dstepT (acc:List Tm) (x:Tm):List Tm:=if x ∈ acc then acc else acc ++ [x]
def disT (l:List Tm):List Tm:=(l.filter Tm.var).foldl dstepT []
theorem dstepT_mem {acc:List Tm} {x y:Tm}:y ∈ dstepT acc x ↔ y ∈ acc ∨ y = x:=by
 unfold dstepT
 by_cases h:x ∈ acc
 ·rw [if_pos h]
  exact ⟨Or.inl,fun e=>e.elim id fun e=>e ▸ h⟩
 ·rw [if_neg h];simp
theorem foldT_mem:∀ {l acc:List Tm} {y:Tm},y ∈ l.foldl dstepT acc ↔ y ∈ acc ∨ y ∈ l
 | [],acc,y=>by simp
 | x :: l,acc,y=>by rw [List.foldl_cons,foldT_mem,dstepT_mem,List.mem_cons,or_assoc]
theorem disT_mem {l:List Tm} {y:Tm}:y ∈ disT l ↔ y ∈ l /\ y.var = true:=by
 unfold disT;rw [foldT_mem,List.mem_filter];simp
theorem foldT_pre:∀ (l acc:List Tm),acc <+: l.foldl dstepT acc
 | [],acc=>List.prefix_rfl
 | x :: l,acc=>by
  rw [List.foldl_cons]
  refine List.IsPrefix.trans ?_ (foldT_pre l _)
  unfold dstepT
  split
  ·exact List.prefix_rfl
  ·exact List.prefix_append _ _
def ix:List Tm -> Tm -> Nat
 | [],_=>0
 | x :: l,t=>if x = t then 0 else ix l t + 1
theorem ix_lt:∀ {l:List Tm} {t:Tm},t ∈ l -> ix l t < l.length
 | x :: l,t,h=>by
  rw [ix]
  by_cases e:x = t
  ·rw [if_pos e];simp
  ·rw [if_neg e]
   have:=ix_lt (l:=l) (t:=t) (by rcases List.mem_cons.1 h with h | h;exact absurd h.symm e;exact h)
   simp only [List.length_cons];omega
theorem ix_app:∀ {p q:List Tm} {t:Tm},t ∈ p -> ix (p ++ q) t = ix p t
 | x :: l,q,t,h=>by
  rw [List.cons_append,ix,ix]
  by_cases e:x = t
  ·rw [if_pos e,if_pos e]
  ·rw [if_neg e,if_neg e,ix_app (by rcases List.mem_cons.1 h with h | h;exact absurd h.symm e;exact h)]
theorem ix_new:∀ {p:List Tm} {t:Tm},¬ t ∈ p -> ix (p ++ [t]) t = p.length
 | [],t,_=>by simp [ix]
 | x :: l,t,h=>by
  rw [List.cons_append,ix,if_neg (fun e=>h (by simp [e])),ix_new (fun e=>h (by simp [e]))];rfl
theorem ix_get:∀ {l:List Tm} {t:Tm},t ∈ l -> l[ix l t]? = some t
 | x :: l,t,h=>by
  rw [ix]
  by_cases e:x = t
  ·rw [if_pos e];simp [e]
  ·rw [if_neg e,List.getElem?_cons_succ];exact ix_get (by rcases List.mem_cons.1 h with h | h;exact absurd h.symm e;exact h)
def nmT (vs:List Tm) (t:Tm):Tm:=if t ∈ vs then ⟨3,(ix vs t:Nat),⟨#[]⟩⟩ else t
def normC (x:Ck):Ck:=mapC (nmT (disT (Ck.terms x))) x
theorem idxOf_pre {p q:List Tm} {t:Tm} (h:p <+: q) (ht:t ∈ p):ix q t = ix p t:=by
 obtain ⟨r,rfl⟩:=h
 exact ix_app ht
theorem mis_idx:∀ (l acc:List Tm),mis acc.length (l.map fun t=>((ix (l.foldl dstepT acc) t:Nat):Int)) = false
 | [],_=>rfl
 | t :: r,acc=>by
  rw [List.map_cons,List.foldl_cons]
  have hpre:=foldT_pre r (dstepT acc t)
  have ih:=mis_idx r (dstepT acc t)
  by_cases h:t ∈ acc
  ·have e:dstepT acc t = acc:=if_pos h
   rw [e] at hpre ih ⊢
   have e2:=idxOf_pre hpre h
   have e3:=ix_lt h
   rw [mis,if_neg (by rw [e2];omega),if_neg (by rw [e2];omega)]
   exact ih
  ·have e:dstepT acc t = acc ++ [t]:=if_neg h
   rw [e] at hpre ih ⊢
   have e2:=idxOf_pre hpre (t:=t) (by simp)
   have e3:ix (acc ++ [t]) t = acc.length:=ix_new h
   rw [mis,if_neg (by rw [e2,e3];omega),if_pos (by rw [e2,e3])]
   rw [List.length_append,List.length_singleton] at ih
   exact_mod_cast ih
theorem nmT_var (vs:List Tm) (t:Tm) (h:∀ u ∈ vs,u.var = true):(nmT vs t).var = t.var:=by
 unfold nmT
 by_cases hm:t ∈ vs
 ·rw [if_pos hm,h t hm];simp [Tm.var]
 ·rw [if_neg hm]
structure Val0 (x:Ck):Prop where
 e:∀ a ∈ x.1 :: x.2.1,a.err = 0
 t:∀ a ∈ x.2.2,a.ok = true
 bl:x.2.1.length <= 8
 tl:x.2.2.length <= 8
 h:x.1.by_.var = false
 s:∀ t ∈ x.1.pl ++ tls x.2.2,t.var = true -> t ∈ x.2.1.flatMap At.pl
end Go.Proofs.YtcpjiahdaplhlaaGreatDoor
namespace Go.Proofs.YtcpjiahdaplhlaaGreatDoor
open Go.ChangeShapes Go.WideShapes Go.ChangeAt Go.RowKit Go.Joins Go.Deep
def WfT (t:Tm):Prop:=(Lit.int .i64 t.n).wf = true
theorem bulkN_pos {H:Type} (d:DataW H):1 <= Rows.uptoBulk d:=by
 cases d with
 | lit l=>cases l <;> simp [Rows.uptoBulk]
 | _=>simp [Rows.uptoBulk]
theorem bulkN_len {H:Type} (l:List (DataW H)):l.length <= Rows.uptoBulkAll l:=by
 induction l with
 | nil=>simp
 | cons d r ih=>have:=bulkN_pos d;simp only [Rows.uptoBulkAll,List.length_cons];omega
theorem bulkN_slice {H:Type} (l r:List (DataW H)):l.length <= Rows.uptoBulk (.slice l r):=by
 have:=bulkN_len l;simp only [Rows.uptoBulk];omega
theorem bulkN_sum {H α:Type} (g:Nat -> List α) (D:Nat -> DataW H):∀ l:List Nat,(∀ i ∈ l,(g i).length <= Rows.uptoBulk (D i)) -> (l.flatMap g).length <= Rows.uptoBulkAll (l.map D)
 | [],_=>by simp
 | i :: l,h=>by
  have h1:=h i (by simp)
  have h2:=bulkN_sum g D l fun j hj=>h j (by simp [hj])
  rw [List.flatMap_cons,List.length_append,List.map_cons]
  simp only [Rows.uptoBulkAll]
  omega
end Go.Proofs.YtcpjiahdaplhlaaGreatDoor
namespace Go.Proofs.YtcpjiahdaplhlaaGreatDoor
open Go.RowKit
attribute [local go_sem ↓] Go.wp_at_zero Go.wp_at_succ
set_option maxHeartbeats 1000000 in
theorem within_any (l:List Tm) (v:Value) (t:Tm) (w:World) (h:Ts w v l) :
  Calls Tryz.prog 105 #[v,t.v] w fun e w'=>e = .returned (.bool (decide (t ∈ l))) /\ Below w.heap.size w w':=by
 obtain ⟨ad,cap,rfl,hl,h⟩:=h
 obtain ⟨r,hr⟩:∃ r,decide (t ∈ l) = r:=⟨_,rfl⟩
 rw [hr]
 obtain ⟨k,n,s⟩:=t
 have HR:Hid (decide (Tm.mk k n s ∈ l) = r):=hr
 clear hr
 go_enter Tryz.func105,Tryz.ntmps105
 go_wp2
 have bx:=Blk.new w #[.int .i64 k,.int .i64 n,.string s] 39
 have hbx:=below1 w (.cells #[.int .i64 k,.int .i64 n,.string s] 39)
 have h':l = [] ∨ ∃ b o,ad = some ⟨b,o,none⟩ /\ TRow (w.alloc (.cells #[.int .i64 k,.int .i64 n,.string s] 39)) b o l:=by
  rcases h with h | ⟨b,o,h1,h2⟩
  ·exact Or.inl h
  ·exact Or.inr ⟨b,o,h1,h2.later hbx⟩
 revert bx hbx h'
 generalize w.alloc (.cells #[.int .i64 k,.int .i64 n,.string s] 39) = X
 intro bx hbx h'
 clear h
 have HBX:Hid (Below w.heap.size w X):=hbx
 have BX:Hid (Blk X w.heap.size #[.int .i64 k,.int .i64 n,.string s] 39):=bx
 clear hbx bx
 go_loopg [5] l.length (fun g i wr=>∃ j:Nat,j + g = l.length /\ i = .int .i64 j /\ (¬ Tm.mk k n s ∈ l.take j) /\ Below X.heap.size X wr)
 case atStart=>exact ⟨0,by omega,rfl,by simp,Below.refl _ _⟩
 case round=>
  obtain ⟨j,hj,rfl,hno,hb⟩:=hrel
  have HN:Hid (¬ Tm.mk k n s ∈ l.take j):=hno
  clear hno
  cases gk with
  | succ g=>
   have hlt:(j:Int) < (l.length:Int):=by omega
   have j0:(0:Int) <= (j:Int):=by omega
   obtain ⟨u,hu⟩:∃ u,l[j]? = some u:=⟨_,List.getElem?_eq_getElem (by omega)⟩
   rcases h' with h | ⟨b1,o1,rfl,hb1,h⟩
   ·subst h;simp at hj
   obtain ⟨p0,p1,p2⟩:=h j u hu
   rw [<- hb.cell (p:=⟨b1,_,none⟩) hb1] at p0 p1 p2
   obtain ⟨q0,q1,q2, -, -, -⟩:=three (Blk.later (Hid.out BX) hb)
   have he:=run_eql_tm u ⟨k,n,s⟩
   have HU:Hid (l[j]? = some u):=hu
   by_cases htu:u = ⟨k,n,s⟩
   ·have HY:Hid (decide (Tm.mk k n s ∈ l) = true):=decide_eq_true (by rw [<- htu];exact List.mem_of_getElem? hu)
    rw [decide_eq_true htu] at he
    clear htu hu h
    obtain ⟨uk,un,us⟩:=u
    simp only at p0 p1 p2
    go_wp2
    go_quiet (fail)
    go_wp2
    go_ret
    exact ⟨ret_b (HY.out.symm.trans HR.out),below_step (Hid.out HBX) (below_drewN hb _)⟩
   ·have HY:Hid (¬ Tm.mk k n s ∈ l.take (j + 1)):=by
     show ¬ _
     rw [List.take_add_one,hu]
     simp only [Option.toList_some,List.mem_append,List.mem_singleton,not_or]
     exact ⟨HN.out,fun e=>htu e.symm⟩
    rw [decide_eq_false htu] at he
    clear htu hu h
    obtain ⟨uk,un,us⟩:=u
    simp only at p0 p1 p2
    go_wp2
    go_quiet (fail)
    go_wp2
    go_roundg g
    case measure=>omega
    case rel=>exact ⟨j + 1,by omega,by go_num,HY.out,below_drewN hb _⟩
  | zero=>
   obtain rfl:j = l.length:=by omega
   have HY:Hid (decide (Tm.mk k n s ∈ l) = false):=decide_eq_false (by have:=HN.out;rwa [List.take_length] at this)
   have hz:¬ ((l.length:Int) < (l.length:Int)):=by omega
   clear h'
   go_wp2
   go_ret
   exact ⟨ret_b (HY.out.symm.trans HR.out),below_step (Hid.out HBX) hb⟩
end Go.Proofs.YtcpjiahdaplhlaaGreatDoor
namespace Go.Proofs.YtcpjiahdaplhlaaGreatDoor
open Go.RowKit
attribute [local go_sem ↓] Go.wp_at_zero Go.wp_at_succ
theorem Tryz.infoTerm:(Tryz.prog.info? 39).map (fun i=>(i.zero,i.size,i.bytes)) = some (some (.agg #[.int .i64 0,.int .i64 0,.string ⟨#[]⟩]),3,32):=by kernel_rfl
def MC (n:Nat):Array Value:=madeCells #[.int .i64 0,.int .i64 0,.string ⟨#[]⟩] (n * 3)
theorem mk_terms (n:Nat) (hn:n <= 4398046511104) (w:World):(Instr.makeSlice 40 (.int .i64 (n:Int)) (.int .i64 (n:Int))).run Tryz.prog w = .ok (.slice (some ⟨w.heap.size,0,none⟩) n n) (w.alloc (.cells (MC n) 39)):=by
 obtain ⟨i,hi,h0,h1,h2⟩:=info_parts Tryz.infoTerm
 have h:=run_make (P:=Tryz.prog) w 40 39 i _ Tryz.underlying40 hi h0 .i64 .i64 n n (by omega) (Int.le_refl _) (by rw [h2];omega) (by omega)
 rw [h1,Int.toNat_natCast] at h
 exact h
theorem fiveF {w:World} {g:Nat} {a b c d f:Value} {t:TypeId} (h:w.heap[g]? = some (.cells #[a,b,c,d,f] t (0,0))) :
  (w.cell? ⟨g,0,none⟩ = some a /\ w.cell? ⟨g,1,none⟩ = some b /\ w.cell? ⟨g,2,none⟩ = some c /\ w.cell? ⟨g,3,none⟩ = some d /\ w.cell? ⟨g,4,none⟩ = some f) ∧
  w.frozen? ⟨g,0,none⟩ = false /\ w.frozen? ⟨g,1,none⟩ = false /\ w.frozen? ⟨g,2,none⟩ = false /\ w.frozen? ⟨g,3,none⟩ = false /\ w.frozen? ⟨g,4,none⟩ = false:=
 ⟨five h,frozen_of_row _ _ _ _ _ h,frozen_of_row _ _ _ _ _ h,frozen_of_row _ _ _ _ _ h,frozen_of_row _ _ _ _ _ h,frozen_of_row _ _ _ _ _ h⟩
theorem store5 {W:World} {G:Nat} {a b c d e a' b' c' d' e':Value} {t:TypeId} (h:W.heap[G]? = some (.cells #[a,b,c,d,e] t (0,0))) :
  (((((W.setCell ⟨G,0,none⟩ a').setCell ⟨G,1,none⟩ b').setCell ⟨G,2,none⟩ c').setCell ⟨G,3,none⟩ d').setCell ⟨G,4,none⟩ e').heap[G]? = some (.cells #[a',b',c',d',e'] t (0,0)):=by
 have h1:=heap_setCell_same _ _ 0 _ _ a' h
 have h2:=heap_setCell_same _ _ 1 _ _ b' h1
 have h3:=heap_setCell_same _ _ 2 _ _ c' h2
 have h4:=heap_setCell_same _ _ 3 _ _ d' h3
 exact heap_setCell_same _ _ 4 _ _ e' h4
theorem store5_other {W:World} {G k:Nat} {o:Obj} (a' b' c' d' e':Value) (hk:k ≠ G) (h:W.heap[k]? = some o) :
  (((((W.setCell ⟨G,0,none⟩ a').setCell ⟨G,1,none⟩ b').setCell ⟨G,2,none⟩ c').setCell ⟨G,3,none⟩ d').setCell ⟨G,4,none⟩ e').heap[k]? = some o:=by
 rw [heap_setCell_other _ _ _ _ hk,heap_setCell_other _ _ _ _ hk,heap_setCell_other _ _ _ _ hk,heap_setCell_other _ _ _ _ hk,heap_setCell_other _ _ _ _ hk];exact h
def TBlk (w:World) (g:Nat) (l:List Tm) (k:Nat):Prop:=∃ C:Array Value,w.heap[g]? = some (.cells C 39 (0,0)) /\ C.size = l.length * 3 ∧
 ∀ i t,i < k -> l[i]? = some t -> C[i * 3]? = some (.int .i64 t.k) /\ C[i * 3 + 1]? = some (.int .i64 t.n) /\ C[i * 3 + 2]? = some (.string t.s)
theorem TBlk.start {w:World} {g:Nat} {l:List Tm} {n:Nat} (hn:n = l.length) (h:w.heap[g]? = some (.cells (MC n) 39 (0,0))):TBlk w g l 0:=
 ⟨_,h,by rw [MC,size_madeCells,hn],fun i t hi=>absurd hi (Nat.not_lt_zero _)⟩
theorem TBlk.later {w w':World} {g:Nat} {l:List Tm} {k:Nat} (h:TBlk w g l k) (hb:Below w.heap.size w w'):TBlk w' g l k:=by
 obtain ⟨C,h1,h2⟩:=h
 exact ⟨C,(hb.block _ (Array.getElem?_eq_some_iff.1 h1).1).trans h1,h2⟩
theorem TBlk.other {w:World} {g G i:Nat} {a:Value} {l:List Tm} {k:Nat} (h:TBlk w g l k) (hk:g ≠ G):TBlk (w.setCell ⟨G,i,none⟩ a) g l k:=by
 obtain ⟨C,h1,h2⟩:=h
 exact ⟨C,by rw [heap_setCell_other _ _ _ _ hk];exact h1,h2⟩
theorem TBlk.cells {w:World} {g:Nat} {l:List Tm} {k j:Nat} (h:TBlk w g l k) (hj:j < l.length * 3):(∃ c,w.cell? ⟨g,j,none⟩ = some c) /\ w.frozen? ⟨g,j,none⟩ = false:=by
 obtain ⟨C,h1,h2, -⟩:=h
 refine ⟨⟨C[j], ?_⟩,frozen_of_row _ _ _ _ _ h1⟩
 rw [cell_of_row _ _ _ _ _ _ h1];simp
theorem TBlk.put {w:World} {g:Nat} {l:List Tm} {k:Nat} {t:Tm} (h:TBlk w g l k) (ht:l[k]? = some t) :
  TBlk (((w.setCell ⟨g,k * 3,none⟩ (.int .i64 t.k)).setCell ⟨g,k * 3 + 1,none⟩ (.int .i64 t.n)).setCell ⟨g,k * 3 + 2,none⟩ (.string t.s)) g l (k + 1):=by
 obtain ⟨C,h1,h2,h3⟩:=h
 have hk:=(List.getElem?_eq_some_iff.1 ht).1
 have e1:=heap_setCell_same _ _ (k * 3) _ _ (.int .i64 t.k) h1
 have e2:=heap_setCell_same _ _ (k * 3 + 1) _ _ (.int .i64 t.n) e1
 have e3:=heap_setCell_same _ _ (k * 3 + 2) _ _ (.string t.s) e2
 refine ⟨_,e3,by simp [h2],fun i u hi hu=>?_⟩
 by_cases hik:i = k
 ·subst hik
  rw [ht] at hu
  obtain rfl:=Option.some.inj hu
  refine ⟨?_, ?_, ?_⟩ <;> simp [Array.getElem?_setIfInBounds,h2] <;> omega
 ·obtain ⟨a,b,c⟩:=h3 i u (by omega) hu
  refine ⟨?_, ?_, ?_⟩
  ·rw [Array.getElem?_setIfInBounds_ne (by omega),Array.getElem?_setIfInBounds_ne (by omega),Array.getElem?_setIfInBounds_ne (by omega)];exact a
  ·rw [Array.getElem?_setIfInBounds_ne (by omega),Array.getElem?_setIfInBounds_ne (by omega),Array.getElem?_setIfInBounds_ne (by omega)];exact b
  ·rw [Array.getElem?_setIfInBounds_ne (by omega),Array.getElem?_setIfInBounds_ne (by omega),Array.getElem?_setIfInBounds_ne (by omega)];exact c
theorem TBlk.ts {w:World} {g:Nat} {l:List Tm} {n cap:Nat} (hn:n = l.length) (hl:n <= 4398046511104) (h:TBlk w g l n):Ts w (.slice (some ⟨g,0,none⟩) n cap) l:=by
 subst hn
 obtain ⟨C,h1,h2,h3⟩:=h
 refine ⟨_,cap,rfl,by omega,Or.inr ⟨g,0,rfl,(Array.getElem?_eq_some_iff.1 h1).1,fun i t ht=>?_⟩⟩
 obtain ⟨a,b,c⟩:=h3 i t (List.getElem?_eq_some_iff.1 ht).1 ht
 rw [cell_of_row _ _ _ _ _ _ h1,cell_of_row _ _ _ _ _ _ h1,cell_of_row _ _ _ _ _ _ h1]
 simp only [Nat.zero_add]
 exact ⟨a,b,c⟩
theorem putO {W:World} {G k i j m:Nat} {o:Obj} (a' b' c':Value) (hk:k ≠ G) (h:W.heap[k]? = some o) :
  (((W.setCell ⟨G,i,none⟩ a').setCell ⟨G,j,none⟩ b').setCell ⟨G,m,none⟩ c').heap[k]? = some o:=by
 rw [heap_setCell_other _ _ _ _ hk,heap_setCell_other _ _ _ _ hk,heap_setCell_other _ _ _ _ hk];exact h
end Go.Proofs.YtcpjiahdaplhlaaGreatDoor
namespace Go.Proofs.YtcpjiahdaplhlaaGreatDoor
open Go.RowKit
def Tm.cs (t:Tm):List Value:=[.int .i64 t.k,.int .i64 t.n,.string t.s]
def tcs (l:List Tm):List Value:=l.flatMap Tm.cs
theorem tcs_len (l:List Tm):(tcs l).length = l.length * 3:=by
 induction l with
 | nil=>rfl
 | cons d l ih=>simp only [tcs,List.flatMap_cons,List.length_append,List.length_cons] at *;rw [ih];simp [Tm.cs];omega
theorem tcs_get (l:List Tm) (j:Nat) (d:Tm) (h:l[j]? = some d) (i:Nat) (hi:i < 3):(tcs l)[j * 3 + i]? = d.cs[i]? := by
 induction l generalizing j with
 | nil=>simp at h
 | cons e l ih=>
  rw [tcs,List.flatMap_cons]
  cases j with
  | zero=>
   simp only [List.getElem?_cons_zero,Option.some.injEq] at h
   subst h
   rw [List.getElem?_append_left (by simp [Tm.cs];omega)]
   simp
  | succ j=>
   simp only [List.getElem?_cons_succ] at h
   rw [List.getElem?_append_right (by simp [Tm.cs];omega)]
   have e1:(j + 1) * 3 + i - (Tm.cs e).length = j * 3 + i:=by simp [Tm.cs];omega
   rw [e1]
   exact ih j h
def OwnT (w:World) (base:Nat) (v:Value) (l:List Tm):Prop:=w.ownsRow base 39 3 v l.length (tcs l)
theorem ownT_cells {w:World} {base g cap n:Nat} {l:List Tm} (h:OwnT w base (.slice (some ⟨g,0,none⟩) n cap) l) (j:Nat) (d:Tm) (hd:l[j]? = some d) :
  w.cell? ⟨g,j * 3,none⟩ = some (.int .i64 d.k) /\ w.cell? ⟨g,j * 3 + 1,none⟩ = some (.int .i64 d.n) /\ w.cell? ⟨g,j * 3 + 2,none⟩ = some (.string d.s):=by
 rcases h.2 with ⟨h,_⟩ | ⟨g',cap',cur,hv,hb,hg,hn,hc,hs,ht⟩
 ·cases h
 ·simp only [Value.slice.injEq,Option.some.injEq,Addr.mk.injEq] at hv
  obtain ⟨⟨rfl, -⟩, -,rfl⟩:=hv
  have hj:=(List.getElem?_eq_some_iff.1 hd).1
  have key:∀ i,i < 3 -> w.cell? ⟨g,j * 3 + i,none⟩ = d.cs[i]? := fun i hi=>by
   rw [cell_of_row _ _ _ _ _ _ hg, <- tcs_get l j d hd i hi, <- ht,List.getElem?_take_of_lt (by omega)]
   simp
  exact ⟨key 0 (by omega),key 1 (by omega),key 2 (by omega)⟩
theorem OwnT.lt {w:World} {base:Nat} {v:Value} {l:List Tm} (h:OwnT w base v l):∀ k,v.ownBlock = some k -> base <= k /\ k < w.heap.size:=World.ownsRow.lt h
theorem OwnT.mono {w:World} {b b':Nat} {v:Value} {l:List Tm} (h:OwnT w b v l) (hb:b' <= b):OwnT w b' v l:=by
 refine ⟨h.1, ?_⟩
 rcases h.2 with hn | ⟨g,cap,cur,hv,hbb,rest⟩
 ·exact Or.inl hn
 ·exact Or.inr ⟨g,cap,cur,hv,Nat.le_trans hb hbb,rest⟩
theorem OwnT.later {w w':World} {base:Nat} {v:Value} {l:List Tm} (h:OwnT w base v l) (hb:Below w.heap.size w w'):OwnT w' base v l:=by
 refine ⟨h.1, ?_⟩
 rcases h.2 with hn | ⟨g,cap,cur,hv,hbb,hg,rest⟩
 ·exact Or.inl hn
 ·exact Or.inr ⟨g,cap,cur,hv,hbb,(hb.block _ (Array.getElem?_eq_some_iff.1 hg).1).trans hg,rest⟩
def mark:Tm:=⟨3,901,⟨#[109,97,114,107]⟩⟩
theorem tcs_mem {l:List Tm} {u:Value} (h:u ∈ tcs l):u.oneCell' = true:=by
 simp only [tcs,List.mem_flatMap] at h
 obtain ⟨d, -,hu⟩:=h
 simp [Tm.cs] at hu
 rcases hu with rfl | rfl | rfl <;> rfl
theorem trow_get {w:World} {b o:Nat} {l:List Tm} (h:TRow w b o l):∀ j u,(tcs l)[j]? = some u -> w.cell? ((⟨b,o,none⟩:Addr).add j) = some u:=fun j u hu=>by
 have hj:j < l.length * 3:=by rw [<- tcs_len];exact (List.getElem?_eq_some_iff.1 hu).1
 have hq:j / 3 < l.length:=by omega
 obtain ⟨d,hd⟩:∃ d,l[j / 3]? = some d:=⟨_,List.getElem?_eq_getElem hq⟩
 have hg:=tcs_get l (j / 3) d hd (j % 3) (by omega)
 rw [show j / 3 * 3 + j % 3 = j by omega,hu] at hg
 have hc:=h.2 _ _ hd
 have ha:(⟨b,o,none⟩:Addr).add j = ⟨b,o + j / 3 * 3 + j % 3,none⟩:=by
  rw [Go.WideShapes.add_plain];congr 1;omega
 rw [ha]
 have h4:j % 3 = 0 ∨ j % 3 = 1 ∨ j % 3 = 2:=by omega
 rcases h4 with e | e | e <;> rw [e] at hg ⊢ <;> simp [Tm.cs] at hg <;> subst hg
 ·exact hc.1
 ·exact hc.2.1
 ·exact hc.2.2
theorem ownT_pre {w:World} {base g cap:Nat} {s:List Tm} {d:Tm} (h:OwnT w base (.slice (some ⟨g,0,none⟩) (s.length + 1) cap) (s ++ [d])) (hs:s.length < 1000000000000000000):Ts w (.slice (some ⟨g,0,none⟩) s.length cap) s:=by
 have hlt:g < w.heap.size:=(h.lt g rfl).2
 refine ⟨_,cap,rfl,hs,Or.inr ⟨g,0,rfl,hlt,fun i t ht=>?_⟩⟩
 have hi:=(List.getElem?_eq_some_iff.1 ht).1
 have:=ownT_cells h i t (by rw [List.getElem?_append_left hi];exact ht)
 simpa using this
theorem ownT_cap {w:World} {base g cap n:Nat} {l:List Tm} (h:OwnT w base (.slice (some ⟨g,0,none⟩) n cap) l):n <= cap:=by
 rcases h.2 with ⟨h,_⟩ | ⟨g',c,cur,hv,_,_,hn,_⟩
 ·cases h
 ·simp only [Value.slice.injEq] at hv;omega
end Go.Proofs.YtcpjiahdaplhlaaGreatDoor

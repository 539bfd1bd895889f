import Derived.Test.YtcpjiahdaplhlaaGreatDoorB2
import Derived.Test.YtcpjiahdaplhlaaGreatDoorSY14
import Derived.Deep.AppendLies
namespace Go.Proofs.YtcpjiahdaplhlaaGreatDoor
open Go.RowKit
attribute [local go_sem ↓] Go.wp_at_zero Go.wp_at_succ
theorem gstep5 {T e:TypeId} {z:Value} {by_ size:Nat} (hT:Tryz.prog.underlying T = some (.slice e)) (hI:(Tryz.prog.info? e).map (fun i=>(i.zero,i.size,i.bytes)) = some (some z,size,by_)) (hz:z.cells.size = size) (hsz:0 < size) (hby:by_ <= 1000)
  {ops:Array Oper} {o:Oper} {a:Act} {K:Act -> World -> Prop} {Q:Exit -> Act -> World -> Prop} {E:Prop} {w:World} (hgd:o.guard = none) (s x:Operand)
  (ho:o.op = .call { callee:=.builtin .append,args:=#[s,x],argTypes:=#[T,T] }) (base:Nat) (v:Value) (n:Nat) (l:List Value) (hs:a.eval s = v) (hown:w.ownsRow base e size v n l)
  (b:Nat) (y:Array Value) (hx:a.eval x = .slice (some ⟨b,0,none⟩) 1 1) (hblk:Bk w b y e) (hy:y.size = size) (hone:∀ u ∈ y.toList,u.oneCell' = true) (hlen:n <= 100000000) (hbase:base <= w.heap.size)
  (h:∀ g cap w',w'.ownsRow base e size (.slice (some ⟨g,0,none⟩) (n + 1) cap) (n + 1) (l ++ y.toList) -> w.grownBy w' v.ownBlock -> (v.ownBlock = some g ∨ g = w.heap.size) -> g < w'.heap.size -> K (a.put o.dst (.slice (some ⟨g,0,none⟩) (n + 1) cap)) w'):if Region.wanted o (yielded ops a.tmps) = true then Oper.wp Tryz.prog o a w K Q else E:=by
 obtain ⟨i,hi,h0,h1,h2⟩:=info5 hI
 refine step_append_lies _ hgd s x T ho base e i z size by_ hT hi h0 h1 h2 hz hsz v n l hs hown ⟨b,0,none⟩ 1 1 y.toList hx (by simp [hy]) ?_ hone (by omega) (by unfold maxLen;omega) (Nat.le_trans (Nat.mul_le_mul (show n + 1 <= 100000001 by omega) hby) (by decide)) hbase _ rfl h
 intro j u hj
 exact World.news_of_block (cs:=y) (t:=e) (fr:=(0,0)) hblk j u (by simpa using hj)
theorem Tryz.infoAtom5:(Tryz.prog.info? 42).map (fun i=>(i.zero,i.size,i.bytes)) = some (some (.agg #[.int .i64 0,.int .i64 0,.string ⟨#[]⟩,.string ⟨#[]⟩,.slice none 0 0]),5,72):=by kernel_rfl
theorem Tryz.infoTest5:(Tryz.prog.info? 85).map (fun i=>(i.zero,i.size,i.bytes)) = some (some (.agg #[.int .i64 0,.int .i64 0,.int .i64 0,.string ⟨#[]⟩,.int .i64 0,.int .i64 0,.string ⟨#[]⟩]),7,72):=by kernel_rfl
def ac5 (x:At × Value):List Value:=[.int .i64 x.1.by_.k,.int .i64 x.1.by_.n,.string x.1.by_.s,.string x.1.name,x.2]
def ec5 (t:Te):List Value:=[.int .i64 t.op,.int .i64 t.l.k,.int .i64 t.l.n,.string t.l.s,.int .i64 t.r.k,.int .i64 t.r.n,.string t.r.s]
def la5:List Lv5 -> List (At × Value)
 | []=>[]
 | .a x y :: r=>(x,y) :: la5 r
 | .t _ :: r=>la5 r
def lt5:List Lv5 -> List Te
 | []=>[]
 | .a _ _ :: r=>lt5 r
 | .t x :: r=>x :: lt5 r
theorem la5_app:∀ a b:List Lv5,la5 (a ++ b) = la5 a ++ la5 b
 | [],b=>rfl
 | .a x y :: r,b=>by rw [List.cons_append,la5,la5,la5_app r b];rfl
 | .t x :: r,b=>by rw [List.cons_append,la5,la5,la5_app r b]
theorem lt5_app:∀ a b:List Lv5,lt5 (a ++ b) = lt5 a ++ lt5 b
 | [],b=>rfl
 | .a x y :: r,b=>by rw [List.cons_append,lt5,lt5,lt5_app r b]
 | .t x :: r,b=>by rw [List.cons_append,lt5,lt5,lt5_app r b];rfl
theorem la5_len:∀ a:List Lv5,(la5 a).length <= a.length
 | []=>Nat.le_refl _
 | .a x y :: r=>by rw [la5];exact Nat.succ_le_succ (la5_len r)
 | .t x :: r=>by rw [la5];exact Nat.le_trans (la5_len r) (Nat.le_succ _)
theorem lt5_len:∀ a:List Lv5,(lt5 a).length <= a.length
 | []=>Nat.le_refl _
 | .a x y :: r=>by rw [lt5];exact Nat.le_trans (lt5_len r) (Nat.le_succ _)
 | .t x :: r=>by rw [lt5];exact Nat.succ_le_succ (lt5_len r)
def LY (B q:Nat) (hd:At × Value) (w:World) (bo:List (At × Value)) (te:List Te):Prop:=
 B <= q /\ B <= w.heap.size /\ ∃ bv tv,Bk w q #[.int .i64 hd.1.by_.k,.int .i64 hd.1.by_.n,.string hd.1.by_.s,.string hd.1.name,hd.2,bv,tv] 53 /\ w.ownsRow B 42 5 bv bo.length (bo.flatMap ac5) /\ w.ownsRow B 85 7 tv te.length (te.flatMap ec5)
theorem LY.below {B q:Nat} {hd:At × Value} {w w':World} {bo:List (At × Value)} {te:List Te} (h:LY B q hd w bo te) (hb:Below w.heap.size w w'):LY B q hd w' bo te:=by
 obtain ⟨h1,h2,bv,tv,h3,h4,h5⟩:=h
 exact ⟨h1,Nat.le_trans h2 hb.size,bv,tv,h3.below hb,row7_below h4 hb,row7_below h5 hb⟩
theorem own_ty5 {w:World} {base n m:Nat} {e t:TypeId} {v:Value} {xs:List Value} (h:w.ownsRow base e n v m xs) {b:Nat} {cs:Array Value} (hb:Bk w b cs t) (hne:e ≠ t):v.ownBlock ≠ some b:=fun e1=>by
 rcases h.2 with ⟨rfl, -⟩ | ⟨g,cap,cur,rfl, -,hg, -⟩
 ·cases e1
 ·have e2:g = b:=Option.some.inj e1
  have h1:Bk w b cur e:=by rw [<- e2];exact hg
  unfold Bk at h1 hb
  rw [h1] at hb
  simp at hb
  exact hne hb.2
theorem LY.atom {B q:Nat} {hd:At × Value} {w w1:World} {bo:List (At × Value)} {te:List Te} {bv tv:Value} {x:At × Value} {g cap:Nat} (hB:B <= q) (hw:B <= w.heap.size) (hk:Bk w q #[.int .i64 hd.1.by_.k,.int .i64 hd.1.by_.n,.string hd.1.by_.s,.string hd.1.name,hd.2,bv,tv] 53) (h4:w.ownsRow B 42 5 bv bo.length (bo.flatMap ac5)) (h5:w.ownsRow B 85 7 tv te.length (te.flatMap ec5))
  (ho:w1.ownsRow B 42 5 (.slice (some ⟨g,0,none⟩) (bo.length + 1) cap) (bo.length + 1) (bo.flatMap ac5 ++ ac5 x)) (hg:w.grownBy w1 bv.ownBlock) (hv:bv.ownBlock = some g ∨ g = w.heap.size) :
  (Bk w1 q #[.int .i64 hd.1.by_.k,.int .i64 hd.1.by_.n,.string hd.1.by_.s,.string hd.1.name,hd.2,bv,tv] 53) /\ LY B q hd (w1.setCell ⟨q,5,none⟩ (.slice (some ⟨g,0,none⟩) (bo.length + 1) cap)) (bo ++ [x]) te /\ Fr (fun b=>B <= b) w (w1.setCell ⟨q,5,none⟩ (.slice (some ⟨g,0,none⟩) (bo.length + 1) cap)):=by
 have fg:Fr (fun b=>bv.ownBlock = some b) w w1:=Fr.grown hg fun k e=>e
 have nq:bv.ownBlock ≠ some q:=own_ty5 h4 hk (by decide)
 have hk1:=hk.fr fg nq
 have ht1:=row7_fr h5 fg fun b hb=>fun e=>by
  rcases h4.2 with ⟨rfl, -⟩ | ⟨g4,cap4,cur4,rfl, -,hg4, -⟩
  ·cases e
  ·have e2:g4 = b:=Option.some.inj e
   exact own_ty5 h5 (show Bk w g4 cur4 42 from hg4) (by decide) (by rw [e2];exact hb)
 have gq:g ≠ q:=fun e=>by
  rcases hv with h1 | h1
  ·exact nq (by rw [h1,e])
  ·have:=hk.lt;omega
 have fq:Fr (fun b=>b = q) w1 (w1.setCell ⟨q,5,none⟩ (.slice (some ⟨g,0,none⟩) (bo.length + 1) cap)):=(Fr.refl (fun b=>b = q) _).set (Or.inl rfl)
 refine ⟨hk1,⟨hB, ?_,.slice (some ⟨g,0,none⟩) (bo.length + 1) cap,tv, ?_, ?_, ?_⟩, ?_⟩
 ·exact Nat.le_trans hw (Nat.le_trans fg.size fq.size)
 ·have:=hk1.set 5 (.slice (some ⟨g,0,none⟩) (bo.length + 1) cap)
  simpa using this
 ·rw [List.length_append,List.length_singleton,List.flatMap_append]
  have:=row7_fr ho fq fun b hb e=>gq (by cases hb;exact e)
  simpa using this
 ·exact row7_fr ht1 fq fun b hb e=>own_ty5 ht1 hk1 (by decide) (by rw [<- e];exact hb)
 ·exact (fg.mono (Q:=fun b=>B <= b) fun b _ e=>(World.ownsRow.lt h4 b e).1).trans fq fun b _ e=>by rw [e];exact hB
theorem LY.test {B q:Nat} {hd:At × Value} {w w1:World} {bo:List (At × Value)} {te:List Te} {bv tv:Value} {x:Te} {g cap:Nat} (hB:B <= q) (hw:B <= w.heap.size) (hk:Bk w q #[.int .i64 hd.1.by_.k,.int .i64 hd.1.by_.n,.string hd.1.by_.s,.string hd.1.name,hd.2,bv,tv] 53) (h4:w.ownsRow B 42 5 bv bo.length (bo.flatMap ac5)) (h5:w.ownsRow B 85 7 tv te.length (te.flatMap ec5))
  (ho:w1.ownsRow B 85 7 (.slice (some ⟨g,0,none⟩) (te.length + 1) cap) (te.length + 1) (te.flatMap ec5 ++ ec5 x)) (hg:w.grownBy w1 tv.ownBlock) (hv:tv.ownBlock = some g ∨ g = w.heap.size) :
  (Bk w1 q #[.int .i64 hd.1.by_.k,.int .i64 hd.1.by_.n,.string hd.1.by_.s,.string hd.1.name,hd.2,bv,tv] 53) /\ LY B q hd (w1.setCell ⟨q,6,none⟩ (.slice (some ⟨g,0,none⟩) (te.length + 1) cap)) bo (te ++ [x]) /\ Fr (fun b=>B <= b) w (w1.setCell ⟨q,6,none⟩ (.slice (some ⟨g,0,none⟩) (te.length + 1) cap)):=by
 have fg:Fr (fun b=>tv.ownBlock = some b) w w1:=Fr.grown hg fun k e=>e
 have nq:tv.ownBlock ≠ some q:=own_ty5 h5 hk (by decide)
 have hk1:=hk.fr fg nq
 have hb1:=row7_fr h4 fg fun b hb=>fun e=>by
  rcases h5.2 with ⟨rfl, -⟩ | ⟨g4,cap4,cur4,rfl, -,hg4, -⟩
  ·cases e
  ·have e2:g4 = b:=Option.some.inj e
   exact own_ty5 h4 (show Bk w g4 cur4 85 from hg4) (by decide) (by rw [e2];exact hb)
 have gq:g ≠ q:=fun e=>by
  rcases hv with h1 | h1
  ·exact nq (by rw [h1,e])
  ·have:=hk.lt;omega
 have fq:Fr (fun b=>b = q) w1 (w1.setCell ⟨q,6,none⟩ (.slice (some ⟨g,0,none⟩) (te.length + 1) cap)):=(Fr.refl (fun b=>b = q) _).set (Or.inl rfl)
 refine ⟨hk1,⟨hB, ?_,bv,.slice (some ⟨g,0,none⟩) (te.length + 1) cap, ?_, ?_, ?_⟩, ?_⟩
 ·exact Nat.le_trans hw (Nat.le_trans fg.size fq.size)
 ·have:=hk1.set 6 (.slice (some ⟨g,0,none⟩) (te.length + 1) cap)
  simpa using this
 ·exact row7_fr hb1 fq fun b hb e=>own_ty5 hb1 hk1 (by decide) (by rw [<- e];exact hb)
 ·rw [List.length_append,List.length_singleton,List.flatMap_append]
  have:=row7_fr ho fq fun b hb e=>gq (by cases hb;exact e)
  simpa using this
 ·exact (fg.mono (Q:=fun b=>B <= b) fun b _ e=>(World.ownsRow.lt h5 b e).1).trans fq fun b _ e=>by rw [e];exact hB
def LayP (B q:Nat) (hd:At × Value) (w:World) (bo:List (At × Value)) (te:List Te) (x:List Lv5) (e:Ending) (w':World):Prop:=e = .returned (.tuple #[]) /\ LY B q hd w' (bo ++ la5 x) (te ++ lt5 x) /\ Fr (fun b=>B <= b) w w'
def LayL (f:Nat):Prop:=∀ (B q:Nat) (hd:At × Value) (w:World) (bo:List (At × Value)) (te:List Te) (cs:List Value) (m:List (List Lv5)) (n:Nat) (x:List Lv5),LiM (fun b=>b < B) w f cs m -> m.length <= 64 -> m[n]? = some x -> LY B q hd w bo te -> bo.length + x.length <= 10000000 -> te.length + x.length <= 10000000 →
 Calls Tryz.prog 207 #[.agg cs.toArray,.int .i64 (n:Int),.pointer (some ⟨q,0,none⟩)] w (LayP B q hd w bo te x)
def LayA (f:Nat):Prop:=∀ (B q:Nat) (hd:At × Value) (w:World) (bo:List (At × Value)) (te:List Te) (v:Value) (c:Nat) (m:List (List Lv5)) (n:Nat) (x:List Lv5),AlM (fun b=>b < B) (LiM (fun b=>b < B) w f) w v c m -> m.length <= 64 -> m[n]? = some x -> LY B q hd w bo te -> bo.length + x.length <= 10000000 -> te.length + x.length <= 10000000 →
 Calls Tryz.prog 156 #[.agg #[v,.int .i64 (c:Int)],.int .i64 (n:Int),.pointer (some ⟨q,0,none⟩)] w (LayP B q hd w bo te x)
set_option maxRecDepth 20000 in
set_option maxHeartbeats 4000000 in
theorem layL5_atom (a:At) (y:Value) (B q:Nat) (hd:At × Value) (w:World) (bo:List (At × Value)) (te:List Te) (n:Nat) (hy:∃ ya yn yc,y = .slice ya yn yc) (h:LY B q hd w bo te) (hb:bo.length <= 10000000) :
  Calls Tryz.prog 207 #[.agg (atCs a y).toArray,.int .i64 (n:Int),.pointer (some ⟨q,0,none⟩)] w (LayP B q hd w bo te [.a a y]):=by
 obtain ⟨ya,yn,yc,rfl⟩:=hy
 obtain ⟨⟨bk,bn,bs⟩,nm,al⟩:=a
 obtain ⟨hB,hw,bv,tv,hk,ho,ht⟩:=h
 obtain ⟨ba,bc,hbf, -⟩:=row7_form ho
 obtain ⟨ta,tc,htf, -⟩:=row7_form ht
 generalize hbl:bo.length = bl at hbf ho hb
 generalize htl:te.length = tl at htf ht
 subst hbf
 subst htf
 have HBL:=hm7 hbl
 have HTL:=hm7 htl
 have HBQ:=hm7 hB
 have HBW:=hm7 hw
 have HQX:Hid (w.heap.size ≠ q):=fun e=>by have:=hk.lt;omega
 have HX0:=hm7 (Bk.new w #[.int .i64 0,.int .i64 bk,.int .i64 bn,.string bs,.string nm,.slice ya yn yc,.int .i64 0,.int .i64 0,.int .i64 0,.string ⟨#[]⟩,.int .i64 0,.int .i64 0,.string ⟨#[]⟩,.slice none 0 0,.int .i64 0] 201)
 have HBX:=hm7 (below1 w (.cells #[.int .i64 0,.int .i64 bk,.int .i64 bn,.string bs,.string nm,.slice ya yn yc,.int .i64 0,.int .i64 0,.int .i64 0,.string ⟨#[]⟩,.int .i64 0,.int .i64 0,.string ⟨#[]⟩,.slice none 0 0,.int .i64 0] 201))
 have HKQ:=hm7 (hk.below HBX.out)
 have HOB:=hm7 (row7_below ho HBX.out)
 have HOT:=hm7 (row7_below ht HBX.out)
 clear hk ho ht hB hw hbl htl
 revert HX0 HBX HKQ HOB HOT
 generalize hW0:w.alloc (.cells #[.int .i64 0,.int .i64 bk,.int .i64 bn,.string bs,.string nm,.slice ya yn yc,.int .i64 0,.int .i64 0,.int .i64 0,.string ⟨#[]⟩,.int .i64 0,.int .i64 0,.string ⟨#[]⟩,.slice none 0 0,.int .i64 0] 201) = W0
 intro HX0 HBX HKQ HOB HOT
 have HW0:=hm7 hW0
 clear hW0
 have x0:=HX0.out.cell (i:=0) rfl
 show Calls Tryz.prog 207 #[.agg #[.int .i64 0,.int .i64 bk,.int .i64 bn,.string bs,.string nm,.slice ya yn yc,.int .i64 0,.int .i64 0,.int .i64 0,.string ⟨#[]⟩,.int .i64 0,.int .i64 0,.string ⟨#[]⟩,.slice none 0 0,.int .i64 0],.int .i64 (n:Int),.pointer (some ⟨q,0,none⟩)] w _
 go_enter Tryz.func207,Tryz.ntmps207
 go_upto_region 1 with fail
 rw [HW0.out]
 clear HW0
 go_upto_region 3 with fail
 refine wp_region_held_drew (S:=fun w'=>Bk w' w.heap.size #[.int .i64 0,.int .i64 bk,.int .i64 bn,.string bs,.string nm,.slice ya yn yc,.int .i64 0,.int .i64 0,.int .i64 0,.string ⟨#[]⟩,.int .i64 0,.int .i64 0,.string ⟨#[]⟩,.slice none 0 0,.int .i64 0] 201) (by kernel_rfl) (by exact HX0.out.below (below_drewN (Below.refl _ _) 1)) (fun hH=>?_)
 revert hH
 generalize hV0:W0.drew = V0
 intro hH
 have HV0:=hm7 hV0
 have HK0:Hid (Bk V0 q #[.int .i64 hd.1.by_.k,.int .i64 hd.1.by_.n,.string hd.1.by_.s,.string hd.1.name,hd.2,.slice ba bl bc,.slice ta tl tc] 53):=by show Bk _ _ _ _;rw [<- hV0];exact HKQ.out.below (below_drewN (Below.refl _ _) 1)
 have HX1:=hm7 (hH.below (below1 V0 (.cells #[.int .i64 bk,.int .i64 bn,.string bs,.string nm,.slice ya yn yc] 42)))
 have HK1:=hm7 (HK0.out.below (below1 V0 (.cells #[.int .i64 bk,.int .i64 bn,.string bs,.string nm,.slice ya yn yc] 42)))
 have HO1:Hid ((V0.alloc (.cells #[.int .i64 bk,.int .i64 bn,.string bs,.string nm,.slice ya yn yc] 42)).ownsRow B 42 5 (.slice ba bl bc) bl (bo.flatMap ac5)):=by show World.ownsRow _ _ _ _ _ _ _;refine row7_below ?_ (below1 _ _);rw [<- hV0];exact row7_below HOB.out (below_drewN (Below.refl _ _) 1)
 have HA1:Hid ((V0.alloc (.cells #[.int .i64 bk,.int .i64 bn,.string bs,.string nm,.slice ya yn yc] 42)).ownsRow B 85 7 (.slice ta tl tc) te.length (te.flatMap ec5)):=by show World.ownsRow _ _ _ _ _ _ _;refine row7_below ?_ (below1 _ _);rw [<- hV0];exact row7_below (by rw [HTL.out];exact HOT.out) (below_drewN (Below.refl _ _) 1)
 have HB1:Hid (B <= (V0.alloc (.cells #[.int .i64 bk,.int .i64 bn,.string bs,.string nm,.slice ya yn yc] 42)).heap.size):=by show _ <= _;rw [<- hV0];exact Nat.le_trans HBW.out (Nat.le_trans HBX.out.size (Nat.le_trans (below_drewN (Below.refl W0.heap.size W0) 1).size (below1 _ _).size))
 clear hV0
 have c5:=HK0.out.cell (i:=5) rfl
 refine wTl 0 (.pointer (some ⟨q,0,none⟩)) rfl (by kernel_rfl) (fun _ _ _ h=>h) rfl (fun w' h=>by clear h;go_simp) hH ?_
 simp only [wA,wB,wC,wD]
 refine wTl 1 (.pointer (some ⟨q,0,none⟩)) rfl (by kernel_rfl) (fun _ _ _ h=>h) rfl (fun w' h=>by clear h;go_simp) hH ?_
 simp only [wA,wB,wC,wD]
 refine wTl 2 (.pointer (some ⟨q,0,none⟩)) rfl (by kernel_rfl) (fun _ _ _ h=>h) rfl (fun w' h=>by clear h;go_simp) hH ?_
 simp only [wA,wB,wC,wD]
 refine wTl 3 (.pointer (some ⟨q,5,none⟩)) rfl (by kernel_rfl) (fun _ _ _ h=>h) rfl (fun w' h=>by clear h;go_simp) hH ?_
 simp only [wA,wB,wC,wD]
 refine wTl 5 (.pointer (some ⟨w.heap.size,1,none⟩)) rfl (by kernel_rfl) (fun _ _ _ h=>h) rfl (fun w' h=>by clear h;go_simp) hH ?_
 simp only [wA,wB,wC,wD]
 refine wTl 6 (.agg #[.int .i64 bk,.int .i64 bn,.string bs,.string nm,.slice ya yn yc]) rfl (by kernel_rfl) (fun _ _ _ h=>h) rfl (fun w' h=>by have x0:=h.cell (i:=1) rfl;have x1:=h.cell (i:=2) rfl;have x2:=h.cell (i:=3) rfl;have x3:=h.cell (i:=4) rfl;have x4:=h.cell (i:=5) rfl;clear h;go_simp) hH ?_
 simp only [wA,wB,wC,wD]
 refine wpAnyH_ready (rs:=[4,7]) (by kernel_rfl) (by simp) ?_
 refine (AllReadyH.cons (o:=⟨_,_,_,_,_,_⟩) rfl (fun K hK=>?_) (AllReadyH.cons (o:=⟨_,_,_,_,_,_⟩) rfl (fun K hK=>?_) AllReadyH.nil))
 ·go_simp
  refine hK.out _ _ hH (fun hH=>?_)
  clear hK
  try simp only [wA,wB,wC,wD]
  refine wRd 7 (by kernel_rfl) rfl (fun K hK=>?_)
  go_simp
  refine hK.out _ _ (hH.below (below1 _ _)) (fun hH=>?_)
  clear hK
  try simp only [wA,wB,wC,wD]
  refine wRd 8 (by kernel_rfl) rfl (fun K hK=>?_)
  refine gstep5 Tryz.underlying50 Tryz.infoAtom5 rfl (by decide) (by decide) rfl _ _ rfl B (.slice ba bl bc) bl (bo.flatMap ac5) rfl HO1.out V0.heap.size #[.int .i64 bk,.int .i64 bn,.string bs,.string nm,.slice ya yn yc] rfl (Bk.new _ _ _) rfl (by simp [Value.oneCell']) (by omega) HB1.out ?_
  intro g5 q5 w5 ho5 hg5 hv5 hl5
  obtain ⟨hk5,hly,hfr⟩:=LY.atom (x:=(⟨⟨bk,bn,bs⟩,nm,al⟩,.slice ya yn yc)) HBQ.out HB1.out HK1.out (by rw [HBL.out];exact HO1.out) HA1.out (by rw [HBL.out];exact ho5) hg5 hv5
  have HLY:=hm7 hly
  have HFR:=hm7 hfr
  rw [HBL.out] at HLY HFR
  have HX5:=hm7 (HX1.out.fr (Fr.grown (P:=fun b=>(Value.slice ba bl bc).ownBlock = some b) hg5 fun k e=>e) (own_ty5 HO1.out HX1.out (by decide)))
  have k0:=hk5.froz 5
  have k1:=hk5.lt
  have k2:=hk5.cell (i:=5) rfl
  have HXQ:Hid (w.heap.size ≠ q):=HQX.out
  clear ho5 hg5 hv5 hl5 hk5 hly hfr
  refine hK.out _ _ HX5.out (fun hH=>?_)
  clear hK
  try simp only [wA,wB,wC,wD]
  refine wTl 9 (.pointer (some ⟨q,0,none⟩)) rfl (by kernel_rfl) (fun _ _ _ h=>h) rfl (fun w' h=>by clear h;go_simp) hH ?_
  simp only [wA,wB,wC,wD]
  refine wTl 10 (.pointer (some ⟨q,5,none⟩)) rfl (by kernel_rfl) (fun _ _ _ h=>h) rfl (fun w' h=>by clear h;go_simp) hH ?_
  simp only [wA,wB,wC,wD]
  refine wRd 11 (by kernel_rfl) rfl (fun K hK=>?_)
  go_simp
  refine hK.out _ _ (HX5.out.off HXQ.out) (fun hH=>?_)
  clear hK hH
  try simp only [wA,wB,wC,wD]
  refine wpAnyH_done (by kernel_rfl) ?_ _
  clear k0 k1 k2
  try go_wp2
  refine bodyPost_ret (v:=.tuple #[]) (by simp [results,Tryz.results207,go_sem]) rfl ?_
  exact ⟨rfl,(by simpa [la5,lt5] using HLY.out),((Fr.of HBX.out).then (HV0.out ▸ below_drewN (Below.refl _ _) 1)).then (below1 _ _) |>.tr HFR.out⟩
 ·go_simp
  refine hK.out _ _ (hH.below (below1 _ _)) (fun hH=>?_)
  clear hK
  try simp only [wA,wB,wC,wD]
  have e5:=(HK0.out.below (below1 V0 (.cells #[.int .i64 bk,.int .i64 bn,.string bs,.string nm,.slice ya yn yc] 42))).cell (i:=5) rfl
  refine wRd 4 (by kernel_rfl) rfl (fun K hK=>?_)
  go_simp
  refine hK.out _ _ hH (fun hH=>?_)
  clear hK
  try simp only [wA,wB,wC,wD]
  refine wRd 8 (by kernel_rfl) rfl (fun K hK=>?_)
  refine gstep5 Tryz.underlying50 Tryz.infoAtom5 rfl (by decide) (by decide) rfl _ _ rfl B (.slice ba bl bc) bl (bo.flatMap ac5) rfl HO1.out V0.heap.size #[.int .i64 bk,.int .i64 bn,.string bs,.string nm,.slice ya yn yc] rfl (Bk.new _ _ _) rfl (by simp [Value.oneCell']) (by omega) HB1.out ?_
  intro g5 q5 w5 ho5 hg5 hv5 hl5
  obtain ⟨hk5,hly,hfr⟩:=LY.atom (x:=(⟨⟨bk,bn,bs⟩,nm,al⟩,.slice ya yn yc)) HBQ.out HB1.out HK1.out (by rw [HBL.out];exact HO1.out) HA1.out (by rw [HBL.out];exact ho5) hg5 hv5
  have HLY:=hm7 hly
  have HFR:=hm7 hfr
  rw [HBL.out] at HLY HFR
  have HX5:=hm7 (HX1.out.fr (Fr.grown (P:=fun b=>(Value.slice ba bl bc).ownBlock = some b) hg5 fun k e=>e) (own_ty5 HO1.out HX1.out (by decide)))
  have k0:=hk5.froz 5
  have k1:=hk5.lt
  have k2:=hk5.cell (i:=5) rfl
  have HXQ:Hid (w.heap.size ≠ q):=HQX.out
  clear ho5 hg5 hv5 hl5 hk5 hly hfr
  refine hK.out _ _ HX5.out (fun hH=>?_)
  clear hK
  try simp only [wA,wB,wC,wD]
  refine wTl 9 (.pointer (some ⟨q,0,none⟩)) rfl (by kernel_rfl) (fun _ _ _ h=>h) rfl (fun w' h=>by clear h;go_simp) hH ?_
  simp only [wA,wB,wC,wD]
  refine wTl 10 (.pointer (some ⟨q,5,none⟩)) rfl (by kernel_rfl) (fun _ _ _ h=>h) rfl (fun w' h=>by clear h;go_simp) hH ?_
  simp only [wA,wB,wC,wD]
  refine wRd 11 (by kernel_rfl) rfl (fun K hK=>?_)
  go_simp
  refine hK.out _ _ (HX5.out.off HXQ.out) (fun hH=>?_)
  clear hK hH
  try simp only [wA,wB,wC,wD]
  refine wpAnyH_done (by kernel_rfl) ?_ _
  clear k0 k1 k2
  try go_wp2
  refine bodyPost_ret (v:=.tuple #[]) (by simp [results,Tryz.results207,go_sem]) rfl ?_
  exact ⟨rfl,(by simpa [la5,lt5] using HLY.out),((Fr.of HBX.out).then (HV0.out ▸ below_drewN (Below.refl _ _) 1)).then (below1 _ _) |>.tr HFR.out⟩
set_option maxRecDepth 20000 in
set_option maxHeartbeats 4000000 in
theorem layL5_test (t:Te) (B q:Nat) (hd:At × Value) (w:World) (bo:List (At × Value)) (te:List Te) (n:Nat) (h:LY B q hd w bo te) (hb:te.length <= 10000000) :
  Calls Tryz.prog 207 #[.agg (teCs t).toArray,.int .i64 (n:Int),.pointer (some ⟨q,0,none⟩)] w (LayP B q hd w bo te [.t t]):=by
 obtain ⟨op,⟨lk,ln,ls⟩,⟨rk,rn,rs⟩⟩:=t
 obtain ⟨hB,hw,bv,tv,hk,ho,ht⟩:=h
 obtain ⟨ba,bc,hbf, -⟩:=row7_form ho
 obtain ⟨ta,tc,htf, -⟩:=row7_form ht
 generalize hbl:bo.length = bl at hbf ho
 generalize htl:te.length = tl at htf ht hb
 subst hbf
 subst htf
 have HBL:=hm7 hbl
 have HTL:=hm7 htl
 have HBQ:=hm7 hB
 have HBW:=hm7 hw
 have HQX:Hid (w.heap.size ≠ q):=fun e=>by have:=hk.lt;omega
 have HX0:=hm7 (Bk.new w #[.int .i64 1,.int .i64 0,.int .i64 0,.string ⟨#[]⟩,.string ⟨#[]⟩,.slice none 0 0,.int .i64 op,.int .i64 lk,.int .i64 ln,.string ls,.int .i64 rk,.int .i64 rn,.string rs,.slice none 0 0,.int .i64 0] 201)
 have HBX:=hm7 (below1 w (.cells #[.int .i64 1,.int .i64 0,.int .i64 0,.string ⟨#[]⟩,.string ⟨#[]⟩,.slice none 0 0,.int .i64 op,.int .i64 lk,.int .i64 ln,.string ls,.int .i64 rk,.int .i64 rn,.string rs,.slice none 0 0,.int .i64 0] 201))
 have HKQ:=hm7 (hk.below HBX.out)
 have HOB:=hm7 (row7_below ho HBX.out)
 have HOT:=hm7 (row7_below ht HBX.out)
 clear hk ho ht hB hw hbl htl
 revert HX0 HBX HKQ HOB HOT
 generalize hW0:w.alloc (.cells #[.int .i64 1,.int .i64 0,.int .i64 0,.string ⟨#[]⟩,.string ⟨#[]⟩,.slice none 0 0,.int .i64 op,.int .i64 lk,.int .i64 ln,.string ls,.int .i64 rk,.int .i64 rn,.string rs,.slice none 0 0,.int .i64 0] 201) = W0
 intro HX0 HBX HKQ HOB HOT
 have HW0:=hm7 hW0
 clear hW0
 have x0:=HX0.out.cell (i:=0) rfl
 show Calls Tryz.prog 207 #[.agg #[.int .i64 1,.int .i64 0,.int .i64 0,.string ⟨#[]⟩,.string ⟨#[]⟩,.slice none 0 0,.int .i64 op,.int .i64 lk,.int .i64 ln,.string ls,.int .i64 rk,.int .i64 rn,.string rs,.slice none 0 0,.int .i64 0],.int .i64 (n:Int),.pointer (some ⟨q,0,none⟩)] w _
 go_enter Tryz.func207,Tryz.ntmps207
 go_upto_region 1 with fail
 rw [HW0.out]
 clear HW0
 go_upto_region 5 with fail
 refine wp_region_held_drew (S:=fun w'=>Bk w' w.heap.size #[.int .i64 1,.int .i64 0,.int .i64 0,.string ⟨#[]⟩,.string ⟨#[]⟩,.slice none 0 0,.int .i64 op,.int .i64 lk,.int .i64 ln,.string ls,.int .i64 rk,.int .i64 rn,.string rs,.slice none 0 0,.int .i64 0] 201) (by kernel_rfl) (by exact HX0.out.below (below_drewN (Below.refl _ _) 1)) (fun hH=>?_)
 revert hH
 generalize hV0:W0.drew = V0
 intro hH
 have HV0:=hm7 hV0
 have HK0:Hid (Bk V0 q #[.int .i64 hd.1.by_.k,.int .i64 hd.1.by_.n,.string hd.1.by_.s,.string hd.1.name,hd.2,.slice ba bl bc,.slice ta tl tc] 53):=by show Bk _ _ _ _;rw [<- hV0];exact HKQ.out.below (below_drewN (Below.refl _ _) 1)
 have HX1:=hm7 (hH.below (below1 V0 (.cells #[.int .i64 op,.int .i64 lk,.int .i64 ln,.string ls,.int .i64 rk,.int .i64 rn,.string rs] 85)))
 have HK1:=hm7 (HK0.out.below (below1 V0 (.cells #[.int .i64 op,.int .i64 lk,.int .i64 ln,.string ls,.int .i64 rk,.int .i64 rn,.string rs] 85)))
 have HO1:Hid ((V0.alloc (.cells #[.int .i64 op,.int .i64 lk,.int .i64 ln,.string ls,.int .i64 rk,.int .i64 rn,.string rs] 85)).ownsRow B 85 7 (.slice ta tl tc) tl (te.flatMap ec5)):=by show World.ownsRow _ _ _ _ _ _ _;refine row7_below ?_ (below1 _ _);rw [<- hV0];exact row7_below HOT.out (below_drewN (Below.refl _ _) 1)
 have HA1:Hid ((V0.alloc (.cells #[.int .i64 op,.int .i64 lk,.int .i64 ln,.string ls,.int .i64 rk,.int .i64 rn,.string rs] 85)).ownsRow B 42 5 (.slice ba bl bc) bo.length (bo.flatMap ac5)):=by show World.ownsRow _ _ _ _ _ _ _;refine row7_below ?_ (below1 _ _);rw [<- hV0];exact row7_below (by rw [HBL.out];exact HOB.out) (below_drewN (Below.refl _ _) 1)
 have HB1:Hid (B <= (V0.alloc (.cells #[.int .i64 op,.int .i64 lk,.int .i64 ln,.string ls,.int .i64 rk,.int .i64 rn,.string rs] 85)).heap.size):=by show _ <= _;rw [<- hV0];exact Nat.le_trans HBW.out (Nat.le_trans HBX.out.size (Nat.le_trans (below_drewN (Below.refl W0.heap.size W0) 1).size (below1 _ _).size))
 clear hV0
 have c5:=HK0.out.cell (i:=6) rfl
 refine wTl 0 (.pointer (some ⟨q,0,none⟩)) rfl (by kernel_rfl) (fun _ _ _ h=>h) rfl (fun w' h=>by clear h;go_simp) hH ?_
 simp only [wA,wB,wC,wD]
 refine wTl 1 (.pointer (some ⟨q,0,none⟩)) rfl (by kernel_rfl) (fun _ _ _ h=>h) rfl (fun w' h=>by clear h;go_simp) hH ?_
 simp only [wA,wB,wC,wD]
 refine wTl 2 (.pointer (some ⟨q,0,none⟩)) rfl (by kernel_rfl) (fun _ _ _ h=>h) rfl (fun w' h=>by clear h;go_simp) hH ?_
 simp only [wA,wB,wC,wD]
 refine wTl 3 (.pointer (some ⟨q,6,none⟩)) rfl (by kernel_rfl) (fun _ _ _ h=>h) rfl (fun w' h=>by clear h;go_simp) hH ?_
 simp only [wA,wB,wC,wD]
 refine wTl 5 (.pointer (some ⟨w.heap.size,6,none⟩)) rfl (by kernel_rfl) (fun _ _ _ h=>h) rfl (fun w' h=>by clear h;go_simp) hH ?_
 simp only [wA,wB,wC,wD]
 refine wTl 6 (.agg #[.int .i64 op,.int .i64 lk,.int .i64 ln,.string ls,.int .i64 rk,.int .i64 rn,.string rs]) rfl (by kernel_rfl) (fun _ _ _ h=>h) rfl (fun w' h=>by have x0:=h.cell (i:=6) rfl;have x1:=h.cell (i:=7) rfl;have x2:=h.cell (i:=8) rfl;have x3:=h.cell (i:=9) rfl;have x4:=h.cell (i:=10) rfl;have x5:=h.cell (i:=11) rfl;have x6:=h.cell (i:=12) rfl;clear h;go_simp) hH ?_
 simp only [wA,wB,wC,wD]
 refine wpAnyH_ready (rs:=[4,7]) (by kernel_rfl) (by simp) ?_
 refine (AllReadyH.cons (o:=⟨_,_,_,_,_,_⟩) rfl (fun K hK=>?_) (AllReadyH.cons (o:=⟨_,_,_,_,_,_⟩) rfl (fun K hK=>?_) AllReadyH.nil))
 ·go_simp
  refine hK.out _ _ hH (fun hH=>?_)
  clear hK
  try simp only [wA,wB,wC,wD]
  refine wRd 7 (by kernel_rfl) rfl (fun K hK=>?_)
  go_simp
  refine hK.out _ _ (hH.below (below1 _ _)) (fun hH=>?_)
  clear hK
  try simp only [wA,wB,wC,wD]
  refine wRd 8 (by kernel_rfl) rfl (fun K hK=>?_)
  refine gstep5 Tryz.underlying51 Tryz.infoTest5 rfl (by decide) (by decide) rfl _ _ rfl B (.slice ta tl tc) tl (te.flatMap ec5) rfl HO1.out V0.heap.size #[.int .i64 op,.int .i64 lk,.int .i64 ln,.string ls,.int .i64 rk,.int .i64 rn,.string rs] rfl (Bk.new _ _ _) rfl (by simp [Value.oneCell']) (by omega) HB1.out ?_
  intro g5 q5 w5 ho5 hg5 hv5 hl5
  obtain ⟨hk5,hly,hfr⟩:=LY.test (x:=⟨op,⟨lk,ln,ls⟩,⟨rk,rn,rs⟩⟩) HBQ.out HB1.out HK1.out HA1.out (by rw [HTL.out];exact HO1.out) (by rw [HTL.out];exact ho5) hg5 hv5
  have HLY:=hm7 hly
  have HFR:=hm7 hfr
  rw [HTL.out] at HLY HFR
  have HX5:=hm7 (HX1.out.fr (Fr.grown (P:=fun b=>(Value.slice ta tl tc).ownBlock = some b) hg5 fun k e=>e) (own_ty5 HO1.out HX1.out (by decide)))
  have k0:=hk5.froz 6
  have k1:=hk5.lt
  have k2:=hk5.cell (i:=6) rfl
  have HXQ:Hid (w.heap.size ≠ q):=HQX.out
  clear ho5 hg5 hv5 hl5 hk5 hly hfr
  refine hK.out _ _ HX5.out (fun hH=>?_)
  clear hK
  try simp only [wA,wB,wC,wD]
  refine wTl 9 (.pointer (some ⟨q,0,none⟩)) rfl (by kernel_rfl) (fun _ _ _ h=>h) rfl (fun w' h=>by clear h;go_simp) hH ?_
  simp only [wA,wB,wC,wD]
  refine wTl 10 (.pointer (some ⟨q,6,none⟩)) rfl (by kernel_rfl) (fun _ _ _ h=>h) rfl (fun w' h=>by clear h;go_simp) hH ?_
  simp only [wA,wB,wC,wD]
  refine wRd 11 (by kernel_rfl) rfl (fun K hK=>?_)
  go_simp
  refine hK.out _ _ (HX5.out.off HXQ.out) (fun hH=>?_)
  clear hK hH
  try simp only [wA,wB,wC,wD]
  refine wpAnyH_done (by kernel_rfl) ?_ _
  clear k0 k1 k2
  try go_wp2
  refine bodyPost_ret (v:=.tuple #[]) (by simp [results,Tryz.results207,go_sem]) rfl ?_
  exact ⟨rfl,(by simpa [la5,lt5] using HLY.out),((Fr.of HBX.out).then (HV0.out ▸ below_drewN (Below.refl _ _) 1)).then (below1 _ _) |>.tr HFR.out⟩
 ·go_simp
  refine hK.out _ _ (hH.below (below1 _ _)) (fun hH=>?_)
  clear hK
  try simp only [wA,wB,wC,wD]
  have e5:=(HK0.out.below (below1 V0 (.cells #[.int .i64 op,.int .i64 lk,.int .i64 ln,.string ls,.int .i64 rk,.int .i64 rn,.string rs] 85))).cell (i:=6) rfl
  refine wRd 4 (by kernel_rfl) rfl (fun K hK=>?_)
  go_simp
  refine hK.out _ _ hH (fun hH=>?_)
  clear hK
  try simp only [wA,wB,wC,wD]
  refine wRd 8 (by kernel_rfl) rfl (fun K hK=>?_)
  refine gstep5 Tryz.underlying51 Tryz.infoTest5 rfl (by decide) (by decide) rfl _ _ rfl B (.slice ta tl tc) tl (te.flatMap ec5) rfl HO1.out V0.heap.size #[.int .i64 op,.int .i64 lk,.int .i64 ln,.string ls,.int .i64 rk,.int .i64 rn,.string rs] rfl (Bk.new _ _ _) rfl (by simp [Value.oneCell']) (by omega) HB1.out ?_
  intro g5 q5 w5 ho5 hg5 hv5 hl5
  obtain ⟨hk5,hly,hfr⟩:=LY.test (x:=⟨op,⟨lk,ln,ls⟩,⟨rk,rn,rs⟩⟩) HBQ.out HB1.out HK1.out HA1.out (by rw [HTL.out];exact HO1.out) (by rw [HTL.out];exact ho5) hg5 hv5
  have HLY:=hm7 hly
  have HFR:=hm7 hfr
  rw [HTL.out] at HLY HFR
  have HX5:=hm7 (HX1.out.fr (Fr.grown (P:=fun b=>(Value.slice ta tl tc).ownBlock = some b) hg5 fun k e=>e) (own_ty5 HO1.out HX1.out (by decide)))
  have k0:=hk5.froz 6
  have k1:=hk5.lt
  have k2:=hk5.cell (i:=6) rfl
  have HXQ:Hid (w.heap.size ≠ q):=HQX.out
  clear ho5 hg5 hv5 hl5 hk5 hly hfr
  refine hK.out _ _ HX5.out (fun hH=>?_)
  clear hK
  try simp only [wA,wB,wC,wD]
  refine wTl 9 (.pointer (some ⟨q,0,none⟩)) rfl (by kernel_rfl) (fun _ _ _ h=>h) rfl (fun w' h=>by clear h;go_simp) hH ?_
  simp only [wA,wB,wC,wD]
  refine wTl 10 (.pointer (some ⟨q,6,none⟩)) rfl (by kernel_rfl) (fun _ _ _ h=>h) rfl (fun w' h=>by clear h;go_simp) hH ?_
  simp only [wA,wB,wC,wD]
  refine wRd 11 (by kernel_rfl) rfl (fun K hK=>?_)
  go_simp
  refine hK.out _ _ (HX5.out.off HXQ.out) (fun hH=>?_)
  clear hK hH
  try simp only [wA,wB,wC,wD]
  refine wpAnyH_done (by kernel_rfl) ?_ _
  clear k0 k1 k2
  try go_wp2
  refine bodyPost_ret (v:=.tuple #[]) (by simp [results,Tryz.results207,go_sem]) rfl ?_
  exact ⟨rfl,(by simpa [la5,lt5] using HLY.out),((Fr.of HBX.out).then (HV0.out ▸ below_drewN (Below.refl _ _) 1)).then (below1 _ _) |>.tr HFR.out⟩
end Go.Proofs.YtcpjiahdaplhlaaGreatDoor

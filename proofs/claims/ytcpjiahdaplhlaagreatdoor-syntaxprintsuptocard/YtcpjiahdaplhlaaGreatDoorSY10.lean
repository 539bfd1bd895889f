import Derived.Test.YtcpjiahdaplhlaaGreatDoorSY8
namespace Go.Proofs.YtcpjiahdaplhlaaGreatDoor
open Go.RowKit
inductive Lf5 where
 | a (x:At)
 | t (x:Te)
def cross5 {α:Type}:List (List (List α)) -> List (List α)
 | []=>[[]]
 | m :: r=>m.flatMap fun a=>(cross5 r).map fun b=>a ++ b
theorem cross5_nil {α:Type}:cross5 ([]:List (List (List α))) = [[]]:=rfl
theorem cross5_cons {α:Type} (m:List (List α)) (r:List (List (List α))):cross5 (m :: r) = m.flatMap fun a=>(cross5 r).map fun b=>a ++ b:=rfl
theorem cross5_len {α:Type} (m:List (List α)) (r:List (List (List α))):(cross5 (m :: r)).length = m.length * (cross5 r).length:=by
 rw [cross5_cons]
 generalize cross5 r = X
 induction m with
 | nil=>simp
 | cons a m ih=>rw [List.flatMap_cons,List.length_append,ih,List.length_map,List.length_cons,Nat.add_mul,Nat.one_mul,Nat.add_comm]
theorem cross5_ne {α:Type}:∀ {l:List (List (List α))},(∀ m ∈ l,m ≠ []) -> cross5 l ≠ []
 | [],_=>by rw [cross5_nil];simp
 | m :: r,h=>by
  have h1:=h m (List.mem_cons_self ..)
  have h2:=cross5_ne (l:=r) fun x hx=>h x (List.mem_cons_of_mem _ hx)
  have e1:0 < m.length:=List.length_pos_iff.2 h1
  have e2:0 < (cross5 r).length:=List.length_pos_iff.2 h2
  intro e
  have:=cross5_len m r
  rw [e] at this
  have h3:=Nat.mul_pos e1 e2
  rw [<- this] at h3
  exact absurd h3 (by simp)
theorem cross5_map {α β:Type} (f : α -> β):∀ l:List (List (List α)),(cross5 l).map (List.map f) = cross5 (l.map (List.map (List.map f)))
 | []=>rfl
 | m :: r=>by
  have ih:=cross5_map f r
  rw [List.map_cons,cross5_cons,cross5_cons, <- ih,List.map_flatMap,List.flatMap_map]
  congr 1
  funext a
  simp [List.map_map,Function.comp_def,List.map_append]
def On5 (s s':Ps):Prop:=s'.op = s.op /\ s.nx <= s'.nx
theorem On5.refl (s:Ps):On5 s s:=⟨rfl,Nat.le_refl _⟩
theorem On5.trans {a b c:Ps} (h:On5 a b) (k:On5 b c):On5 a c:=⟨k.1.trans h.1,Nat.le_trans h.2 k.2⟩
def Goes {α:Type} (f:Ps -> R5 α):Prop:=∀ s a s',f s = .ok (a,s') -> On5 s s'
theorem and5_inv {α β:Type} {r:R5 α} {f : α -> Ps -> R5 β} {b : β} {s':Ps} (h:r.and f = .ok (b,s')):∃ a s1,r = .ok (a,s1) /\ f a s1 = .ok (b,s'):=by
 cases r with
 | error e=>cases h
 | ok p=>obtain ⟨a,s1⟩:=p;exact ⟨a,s1,rfl,h⟩
theorem Goes.and {α β:Type} {f:Ps -> R5 α} {k : α -> Ps -> R5 β} (h:Goes f) (hk:∀ a,Goes (k a)):Goes fun s=>(f s).and k:=fun s b s' e=>by
 obtain ⟨a,s1,h1,h2⟩:=and5_inv e
 exact (h s a s1 h1).trans (hk a s1 b s' h2)
theorem goes_ok {α:Type} (a : α):Goes fun s=>(.ok (a,s):R5 α):=fun s b s' e=>by
 have:s = s':=congrArg Prod.snd (Except.ok.inj e)
 rw [<- this]
 exact On5.refl s
theorem goes_tk (T:List Tk) (L:Nat) (ks:List Int):Goes (tk5 T L ks):=fun s a s' e=>by
 obtain ⟨-, -,rfl⟩:=tk5_some e
 exact ⟨rfl,Nat.le_succ _⟩
theorem goes_mean (t:Tk):Goes fun s=>(.ok (mean5 t s):R5 Tm):=fun s a s' e=>by
 have h1:mean5 t s = (a,s'):=Except.ok.inj e
 have h2:=mean5_nx t s
 have h3:(mean5 t s).2.op = s.op:=by unfold mean5 va5;(repeat' split) <;> rfl
 rw [h1] at h2 h3
 exact ⟨h3,Nat.le_of_eq h2.symm⟩
theorem goes_tm (T:List Tk) (L:Nat):Goes (tm5 T L):=(goes_tk T L _).and goes_mean
theorem goes_who (T:List Tk) (L:Nat):Goes (who5 T L):=(goes_tk T L _).and goes_mean
theorem goes_ls {α:Type} {one:Ps -> R5 α} (T:List Tk) (L:Nat) (b:Int) (h:Goes one):∀ (f:Nat) (acc:List α),Goes (ls5 one T L b f acc)
 | 0,acc=>fun s a s' e=>by
  unfold ls5 at e
  have:s = s':=congrArg Prod.snd (Except.ok.inj e)
  rw [<- this]
  exact On5.refl s
 | f + 1,acc=>fun s a s' e=>by
  unfold ls5 at e
  by_cases hk:kd5 T s 0 = b
  ·rw [if_pos hk] at e
   obtain ⟨t,s1,h1,h2⟩:=and5_inv e
   obtain ⟨x,s2,h3,h4⟩:=and5_inv h2
   exact ((goes_tk T L _ _ _ _ h1).trans (h _ _ _ h3)).trans (goes_ls T L b h f _ _ _ _ h4)
  ·rw [if_neg hk] at e
   have:s = s':=congrArg Prod.snd (Except.ok.inj e)
   rw [<- this]
   exact On5.refl s
theorem goes_list {α:Type} {one:Ps -> R5 α} (T:List Tk) (L:Nat) (b:Int) (h:Goes one):Goes (list5 one T L b):=h.and fun _=>goes_ls T L b h _ _
theorem goes_if {α:Type} {p:Ps -> Prop} [∀ s,Decidable (p s)] {f g:Ps -> R5 α} (hf:Goes f) (hg:Goes g):Goes fun s=>if p s then f s else g s:=fun s a s' e=>by
 by_cases hp:p s
 ·simp only [if_pos hp] at e;exact hf s a s' e
 ·simp only [if_neg hp] at e;exact hg s a s' e
theorem goes_args (T:List Tk) (L:Nat):Goes (args5 T L):=goes_if ((goes_tk T L _).and fun _=>(goes_list T L 8 (goes_tm T L)).and fun l=>(goes_tk T L _).and fun _=>goes_ok l) (goes_ok [])
theorem goes_by (T:List Tk) (L:Nat):Goes (by5 T L):=goes_if (goes_ok _) ((goes_who T L).and fun t=>(goes_tk T L _).and fun _=>goes_ok t)
theorem goes_at (T:List Tk) (L:Nat):Goes (at5 T L):=(goes_by T L).and fun _=>(goes_tk T L _).and fun _=>(goes_args T L).and fun _=>goes_ok _
theorem goes_te (T:List Tk) (L:Nat):Goes (te5 T L):=(goes_tm T L).and fun _=>(goes_tk T L _).and fun _=>(goes_tm T L).and fun _=>goes_ok _
def conjOf5 (one:Ps -> R5 (List (List Lf5))) (T:List Tk) (L:Nat) (s:Ps):R5 (List (List Lf5)):=(list5 one T L 8 s).and fun ms s=>.ok (cross5 ms,s)
def altOf5 (one:Ps -> R5 (List (List Lf5))) (T:List Tk) (L:Nat) (s:Ps):R5 (List (List Lf5)):=(list5 (conjOf5 one T L) T L 9 s).and fun ms s=>.ok (ms.flatten,s)
def brOf5 (one:Ps -> R5 (List (List Lf5))) (T:List Tk) (L:Nat) (s:Ps):R5 (List (List Lf5)):=
 if s.op = 16 then .error (52,pl5 T L s) else (tk5 T L [6] s).and fun _ s=>(altOf5 one T L ⟨s.nx,s.op + 1,s.vs,s.nm⟩).and fun m s=>(tk5 T L [7] s).and fun _ s=>.ok (m,⟨s.nx,s.op - 1,s.vs,s.nm⟩)
def lit5 (T:List Tk) (L:Nat):Nat -> Ps -> R5 (List (List Lf5))
 | 0,_=>.error (0,0)
 | f + 1,s=>if kd5 T s 0 = 6 then brOf5 (lit5 T L f) T L s else if ba5 T s = true then (at5 T L s).and fun a s=>.ok ([[.a a]],s) else (te5 T L s).and fun t s=>.ok ([[.t t]],s)
theorem goes_conj {one:Ps -> R5 (List (List Lf5))} (T:List Tk) (L:Nat) (h:Goes one):Goes (conjOf5 one T L):=(goes_list T L 8 h).and fun _=>goes_ok _
theorem goes_alt {one:Ps -> R5 (List (List Lf5))} (T:List Tk) (L:Nat) (h:Goes one):Goes (altOf5 one T L):=(goes_list T L 9 (goes_conj T L h)).and fun _=>goes_ok _
theorem goes_br {one:Ps -> R5 (List (List Lf5))} (T:List Tk) (L:Nat) (h:Goes one):Goes (brOf5 one T L):=fun s a s' e=>by
 unfold brOf5 at e
 by_cases ho:s.op = 16
 ·rw [if_pos ho] at e;cases e
 ·rw [if_neg ho] at e
  obtain ⟨t,s1,h1,h2⟩:=and5_inv e
  obtain ⟨m,s2,h3,h4⟩:=and5_inv h2
  obtain ⟨u,s3,h5,h6⟩:=and5_inv h4
  have g1:=goes_tk T L _ _ _ _ h1
  have g2:=goes_alt T L h _ _ _ h3
  have g3:=goes_tk T L _ _ _ _ h5
  have h7:s' = ⟨s3.nx,s3.op - 1,s3.vs,s3.nm⟩:=(congrArg Prod.snd (Except.ok.inj h6)).symm
  have e1:=g1.1
  have e2:s2.op = s1.op + 1:=g2.1
  have e3:=g3.1
  have n1:=g1.2
  have n2:s1.nx <= s2.nx:=g2.2
  have n3:=g3.2
  rw [h7]
  exact ⟨by show s3.op - 1 = s.op;omega,by show s.nx <= s3.nx;omega⟩
theorem goes_lit (T:List Tk) (L:Nat):∀ f,Goes (lit5 T L f)
 | 0=>fun s a s' e=>by cases e
 | f + 1=>goes_if (goes_br T L (goes_lit T L f)) (goes_if ((goes_at T L).and fun _=>goes_ok _) ((goes_te T L).and fun _=>goes_ok _))
inductive Lv5 where
 | a (x:At) (y:Value)
 | t (x:Te)
def Lv5.er:Lv5 -> Lf5
 | .a x _=>.a x
 | .t x=>.t x
def er5 (m:List (List Lv5)):List (List Lf5):=m.map (List.map Lv5.er)
def atCs (a:At) (y:Value):List Value:=[.int .i64 0,.int .i64 a.by_.k,.int .i64 a.by_.n,.string a.by_.s,.string a.name,y,.int .i64 0,.int .i64 0,.int .i64 0,.string ⟨#[]⟩,.int .i64 0,.int .i64 0,.string ⟨#[]⟩,.slice none 0 0,.int .i64 0]
def teCs (t:Te):List Value:=[.int .i64 1,.int .i64 0,.int .i64 0,.string ⟨#[]⟩,.string ⟨#[]⟩,.slice none 0 0,.int .i64 t.op,.int .i64 t.l.k,.int .i64 t.l.n,.string t.l.s,.int .i64 t.r.k,.int .i64 t.r.n,.string t.r.s,.slice none 0 0,.int .i64 0]
def brCs (v:Value) (n:Nat):List Value:=[.int .i64 2,.int .i64 0,.int .i64 0,.string ⟨#[]⟩,.string ⟨#[]⟩,.slice none 0 0,.int .i64 0,.int .i64 0,.int .i64 0,.string ⟨#[]⟩,.int .i64 0,.int .i64 0,.string ⟨#[]⟩,v,.int .i64 (n:Int)]
def Rw5 (F:Nat -> Prop) (w:World) (e:TypeId) (n:Nat) (v:Value) (m:Nat) (xs:List Value):Prop:=w.ownsRow 0 e n v m xs /\ ∀ g,v.ownBlock = some g -> F g
theorem Rw5.fr {F Q:Nat -> Prop} {w w':World} {e:TypeId} {n m:Nat} {v:Value} {xs:List Value} (h:Rw5 F w e n v m xs) (hf:Fr Q w w') (hQ:∀ b,F b -> ¬ Q b):Rw5 F w' e n v m xs:=⟨row7_fr h.1 hf fun g hg=>hQ g (h.2 g hg),h.2⟩
theorem Rw5.mono {F G:Nat -> Prop} {w:World} {e:TypeId} {n m:Nat} {v:Value} {xs:List Value} (h:Rw5 F w e n v m xs) (hg:∀ b,b < w.heap.size -> F b -> G b):Rw5 G w e n v m xs:=⟨h.1,fun g hv=>hg g (World.ownsRow.lt h.1 g hv).2 (h.2 g hv)⟩
def CjM (F:Nat -> Prop) (P:List Value -> List (List Lv5) -> Prop) (w:World) (v:Value) (n:Nat) (m:List (List Lv5)):Prop:=
 ∃ xs:List (List Value × List (List Lv5)),(∀ x ∈ xs,P x.1 x.2) /\ Rw5 F w 201 15 v xs.length (xs.flatMap Prod.fst) /\ m = cross5 (xs.map Prod.snd) /\ n = min m.length 65 /\ m ≠ []
def AlM (F:Nat -> Prop) (P:List Value -> List (List Lv5) -> Prop) (w:World) (v:Value) (n:Nat) (m:List (List Lv5)):Prop:=
 ∃ xs:List ((Value × Nat) × List (List Lv5)),(∀ x ∈ xs,CjM F P w x.1.1 x.1.2 x.2) /\ Rw5 F w 170 2 v xs.length (xs.flatMap fun x=>[x.1.1,.int .i64 (x.1.2:Int)]) /\ m = (xs.map Prod.snd).flatten /\ n = min m.length 65 /\ m ≠ []
def LiM (F:Nat -> Prop) (w:World):Nat -> List Value -> List (List Lv5) -> Prop
 | 0,_,_=>False
 | f + 1,cs,m=>(∃ a y,cs = atCs a y /\ Rw5 F w 39 3 y a.args.length (tc5 a.args) /\ m = [[.a a y]]) ∨ (∃ t,cs = teCs t /\ m = [[.t t]]) ∨ ∃ v n,cs = brCs v n /\ AlM F (LiM F w f) w v n m
theorem CjM.fr {F Q:Nat -> Prop} {P P':List Value -> List (List Lv5) -> Prop} {w w':World} {v:Value} {n:Nat} {m:List (List Lv5)} (h:CjM F P w v n m) (hf:Fr Q w w') (hQ:∀ b,F b -> ¬ Q b) (hP:∀ cs m,P cs m -> P' cs m):CjM F P' w' v n m:=by
 obtain ⟨xs,h1,h2,h3⟩:=h
 exact ⟨xs,fun x hx=>hP _ _ (h1 x hx),h2.fr hf hQ,h3⟩
theorem AlM.fr {F Q:Nat -> Prop} {P P':List Value -> List (List Lv5) -> Prop} {w w':World} {v:Value} {n:Nat} {m:List (List Lv5)} (h:AlM F P w v n m) (hf:Fr Q w w') (hQ:∀ b,F b -> ¬ Q b) (hP:∀ cs m,P cs m -> P' cs m):AlM F P' w' v n m:=by
 obtain ⟨xs,h1,h2,h3⟩:=h
 exact ⟨xs,fun x hx=>(h1 x hx).fr hf hQ hP,h2.fr hf hQ,h3⟩
theorem LiM.fr {F Q:Nat -> Prop} {w w':World} (hf:Fr Q w w') (hQ:∀ b,F b -> ¬ Q b):∀ (f:Nat) (cs:List Value) (m:List (List Lv5)),LiM F w f cs m -> LiM F w' f cs m
 | 0,_,_,h=>h
 | f + 1,cs,m,h=>by
  rcases h with ⟨a,y,h1,h2,h3⟩ | h | ⟨v,n,h1,h2⟩
  ·exact Or.inl ⟨a,y,h1,h2.fr hf hQ,h3⟩
  ·exact Or.inr (Or.inl h)
  ·exact Or.inr (Or.inr ⟨v,n,h1,h2.fr hf hQ fun cs m h=>LiM.fr hf hQ f cs m h⟩)
theorem CjM.mono {F G:Nat -> Prop} {P P':List Value -> List (List Lv5) -> Prop} {w:World} {v:Value} {n:Nat} {m:List (List Lv5)} (h:CjM F P w v n m) (hG:∀ b,b < w.heap.size -> F b -> G b) (hP:∀ cs m,P cs m -> P' cs m):CjM G P' w v n m:=by
 obtain ⟨xs,h1,h2,h3⟩:=h
 exact ⟨xs,fun x hx=>hP _ _ (h1 x hx),h2.mono hG,h3⟩
theorem AlM.mono {F G:Nat -> Prop} {P P':List Value -> List (List Lv5) -> Prop} {w:World} {v:Value} {n:Nat} {m:List (List Lv5)} (h:AlM F P w v n m) (hG:∀ b,b < w.heap.size -> F b -> G b) (hP:∀ cs m,P cs m -> P' cs m):AlM G P' w v n m:=by
 obtain ⟨xs,h1,h2,h3⟩:=h
 exact ⟨xs,fun x hx=>(h1 x hx).mono hG hP,h2.mono hG,h3⟩
theorem LiM.mono {F G:Nat -> Prop} {w:World} (hG:∀ b,b < w.heap.size -> F b -> G b):∀ (f:Nat) (cs:List Value) (m:List (List Lv5)),LiM F w f cs m -> LiM G w f cs m
 | 0,_,_,h=>h
 | f + 1,cs,m,h=>by
  rcases h with ⟨a,y,h1,h2,h3⟩ | h | ⟨v,n,h1,h2⟩
  ·exact Or.inl ⟨a,y,h1,h2.mono hG,h3⟩
  ·exact Or.inr (Or.inl h)
  ·exact Or.inr (Or.inr ⟨v,n,h1,h2.mono hG fun cs m h=>LiM.mono hG f cs m h⟩)
theorem LiM.ne {F:Nat -> Prop} {w:World}:∀ {f:Nat} {cs:List Value} {m:List (List Lv5)},LiM F w f cs m -> m ≠ []
 | f + 1,cs,m,h=>by
  rcases h with ⟨a,y,h1,h2,h3⟩ | ⟨t,h1,h3⟩ | ⟨v,n,h1,xs,h2,h3,h4,h5,h6⟩
  ·rw [h3];simp
  ·rw [h3];simp
  ·exact h6
def lc5 (m:List (List Lv5)):Nat:=min m.length 65
theorem LiM.cells {F:Nat -> Prop} {w:World}:∀ {f:Nat} {cs:List Value} {m:List (List Lv5)},LiM F w f cs m -> cs.length = 15 /\ (∀ u ∈ cs,u.oneCell' = true) /\ ((cs[0]? = some (.int .i64 2) /\ cs[14]? = some (.int .i64 (lc5 m:Int))) ∨ (∃ k:Int,cs[0]? = some (.int .i64 k) /\ k ≠ 2 /\ lc5 m = 1 /\ cs[14]? = some (.int .i64 0)))
 | f + 1,cs,m,h=>by
  rcases h with ⟨a,y,rfl,h2,rfl⟩ | ⟨t,rfl,rfl⟩ | ⟨v,n,rfl,xs,h2,h3,h4,h5,h6⟩
  ·obtain ⟨ya,yc,rfl, -⟩:=row7_form h2.1
   exact ⟨rfl,by simp [atCs,Value.oneCell'],Or.inr ⟨0,rfl,by decide,rfl,rfl⟩⟩
  ·exact ⟨rfl,by simp [teCs,Value.oneCell'],Or.inr ⟨1,rfl,by decide,rfl,rfl⟩⟩
  ·obtain ⟨ya,yc,rfl, -⟩:=row7_form h3.1
   refine ⟨rfl,by simp [brCs,Value.oneCell'],Or.inl ⟨rfl, ?_⟩⟩
   rw [h5];rfl
theorem LiM.shape {F:Nat -> Prop} {w:World}:∀ {f:Nat} {cs:List Value} {m:List (List Lv5)},LiM F w f cs m -> ∃ (k bk bn:Int) (bs nm:ByteArray) (ya:Option Addr) (yn yc:Nat) (op lk ln:Int) (ls:ByteArray) (rk rn:Int) (rs:ByteArray) (va:Option Addr) (vn vc:Nat) (N:Int),cs = [.int .i64 k,.int .i64 bk,.int .i64 bn,.string bs,.string nm,.slice ya yn yc,.int .i64 op,.int .i64 lk,.int .i64 ln,.string ls,.int .i64 rk,.int .i64 rn,.string rs,.slice va vn vc,.int .i64 N]
 | f + 1,cs,m,h=>by
  rcases h with ⟨a,y,rfl,h2,rfl⟩ | ⟨t,rfl,rfl⟩ | ⟨v,n,rfl,xs,h2,h3,h4,h5,h6⟩
  ·obtain ⟨ya,yc,rfl, -⟩:=row7_form h2.1
   exact ⟨_,_,_,_,_,_,_,_,_,_,_,_,_,_,_,_,_,_,_,rfl⟩
  ·exact ⟨_,_,_,_,_,_,_,_,_,_,_,_,_,_,_,_,_,_,_,rfl⟩
  ·obtain ⟨ya,yc,rfl, -⟩:=row7_form h3.1
   exact ⟨_,_,_,_,_,_,_,_,_,_,_,_,_,_,_,_,_,_,_,rfl⟩
end Go.Proofs.YtcpjiahdaplhlaaGreatDoor
namespace Go.Proofs.YtcpjiahdaplhlaaGreatDoor
open Go.RowKit
attribute [local go_sem ↓] Go.wp_at_zero Go.wp_at_succ
theorem list15 {l:List Value} (h:l.length = 15):∃ a b c d e f g i j k m n o p q,l = [a,b,c,d,e,f,g,i,j,k,m,n,o,p,q]:=by
 match l,h with
 | [a,b,c,d,e,f,g,i,j,k,m,n,o,p,q],_=>exact ⟨a,b,c,d,e,f,g,i,j,k,m,n,o,p,q,rfl⟩
set_option maxRecDepth 20000 in
set_option maxHeartbeats 1000000 in
theorem count5_any {F:Nat -> Prop} {f:Nat} {w0:World} {cs:List Value} {m:List (List Lv5)} (h:LiM F w0 f cs m) (w:World) :
  Calls Tryz.prog 186 #[.agg cs.toArray] w fun e w'=>e = .returned (.int .i64 (lc5 m:Int)) /\ Below w.heap.size w w':=by
 obtain ⟨h1, -,h2⟩:=h.cells
 obtain ⟨a,b,c,d,e,f',g,i,j,k,l,n,o,p,q,rfl⟩:=list15 h1
 have HB:=hm7 (Bk.new w #[a,b,c,d,e,f',g,i,j,k,l,n,o,p,q] 201)
 have HW:=hm7 (below1 w (.cells #[a,b,c,d,e,f',g,i,j,k,l,n,o,p,q] 201))
 clear h h1
 rcases h2 with ⟨e1,e2⟩ | ⟨kk,e1,e2,e3, -⟩
 ·obtain rfl:a = .int .i64 2:=Option.some.inj e1
  obtain rfl:q = .int .i64 (lc5 m:Int):=Option.some.inj e2
  have c0:=HB.out.cell (i:=0) rfl
  have c14:=HB.out.cell (i:=14) rfl
  clear e1 e2
  generalize (lc5 m:Int) = N at *
  go_enter Tryz.func186,Tryz.ntmps186
  go_wp2
  go_ret
  exact ⟨rfl,HW.out⟩
 ·obtain rfl:a = .int .i64 kk:=Option.some.inj e1
  rw [e3]
  have c0:=HB.out.cell (i:=0) rfl
  have e4:(kk == 2) = false:=by simp [e2]
  clear e1 e3
  go_enter Tryz.func186,Tryz.ntmps186
  go_wp2
  go_ret
  exact ⟨rfl,HW.out⟩
theorem min_mul5 {a b:Nat} (ha:0 < a) (hb:0 < b):min (min a 65 * min b 65) 65 = min (a * b) 65:=by
 by_cases h1:a <= 65
 ·by_cases h2:b <= 65
  ·rw [Nat.min_eq_left h1,Nat.min_eq_left h2]
  ·rw [Nat.min_eq_left h1,Nat.min_eq_right (show 65 <= b by omega)]
   have e1:65 <= a * 65:=Nat.le_mul_of_pos_left 65 ha
   have e2:a * 65 <= a * b:=Nat.mul_le_mul_left a (by omega)
   rw [Nat.min_eq_right e1,Nat.min_eq_right (Nat.le_trans e1 e2)]
 ·rw [Nat.min_eq_right (show 65 <= a by omega)]
  have e0:1 <= min b 65:=by omega
  have e1:65 <= 65 * min b 65:=Nat.le_mul_of_pos_right 65 (by omega)
  have e2:65 <= a * b:=Nat.le_trans (show 65 <= a by omega) (Nat.le_mul_of_pos_right a hb)
  rw [Nat.min_eq_right e1,Nat.min_eq_right e2]
theorem cross5_snoc_len (l:List (List (List Lv5))) (m:List (List Lv5)):(cross5 (l ++ [m])).length = (cross5 l).length * m.length:=by
 induction l with
 | nil=>rw [List.nil_append,cross5_len,cross5_nil];simp
 | cons x l ih=>rw [List.cons_append,cross5_len,cross5_len,ih,Nat.mul_assoc]
theorem flat15 {xs:List (List Value × List (List Lv5))} (h:∀ x ∈ xs,x.1.length = 15) {j:Nat} {x:List Value × List (List Lv5)} (hx:xs[j]? = some x) {i:Nat} (hi:i < 15) {v:Value} (hv:x.1[i]? = some v):(xs.flatMap Prod.fst)[j * 15 + i]? = some v:=by
 induction xs generalizing j with
 | nil=>simp at hx
 | cons y ys ih=>
  rw [List.flatMap_cons]
  have hy:=h y (List.mem_cons_self ..)
  cases j with
  | zero=>
   simp only [List.getElem?_cons_zero,Option.some.injEq] at hx
   subst hx
   rw [Nat.zero_mul,Nat.zero_add,List.getElem?_append_left (by omega)]
   exact hv
  | succ j=>
   rw [List.getElem?_cons_succ] at hx
   rw [List.getElem?_append_right (by rw [hy,Nat.succ_mul];omega),hy,show (j + 1) * 15 + i - 15 = j * 15 + i by rw [Nat.succ_mul];omega]
   exact ih (fun z hz=>h z (List.mem_cons_of_mem _ hz)) hx
set_option maxRecDepth 20000 in
set_option maxHeartbeats 4000000 in
theorem conjOf5_any (F:Nat -> Prop) (B f:Nat) (v:Value) (xs:List (List Value × List (List Lv5))) (w:World) (hx:∀ x ∈ xs,LiM F w f x.1 x.2) (ho:w.ownsRow B 201 15 v xs.length (xs.flatMap Prod.fst)) (hl:xs.length <= 3000000) :
  Calls Tryz.prog 154 #[v] w fun e w'=>e = .returned (.agg #[v,.int .i64 (min (cross5 (xs.map Prod.snd)).length 65:Nat)]) /\ Below w.heap.size w w':=by
 obtain ⟨a,cap,rfl, -⟩:=row7_form ho
 have HX:=hm7 hx
 obtain ⟨n,hn⟩:∃ n,xs.length = n:=⟨_,rfl⟩
 have HO:Hid (w.ownsRow B 201 15 (.slice a n cap) n (xs.flatMap Prod.fst)):=by rw [hn] at ho;exact ho
 rw [hn] at hl ⊢
 have HN:=hm7 hn
 have HR0:=hm7 (Bk.new w #[.slice none 0 0,.int .i64 0] 170)
 have HB0:=hm7 (below1 w (.cells #[.slice none 0 0,.int .i64 0] 170))
 have HCT:Hid (∀ x ∈ xs,∀ X:World,Calls Tryz.prog 186 #[.agg x.1.toArray] X fun e w'=>e = .returned (.int .i64 (lc5 x.2:Int)) /\ Below X.heap.size X w'):=fun x hx' X=>count5_any (hx x hx') X
 obtain ⟨R,hR⟩:∃ R:Nat,(min (cross5 (xs.map Prod.snd)).length 65:Nat) = R:=⟨_,rfl⟩
 rw [hR]
 have HR:=hm7 hR
 clear hx ho hn hR
 go_enter Tryz.func154,Tryz.ntmps154
 go_upto_region 1 with fail
 revert HR0 HB0
 generalize w.alloc (.cells #[.slice none 0 0,.int .i64 0] 170) = Y0
 obtain ⟨q,hq⟩:∃ q,w.heap.size = q:=⟨_,rfl⟩
 intro HR0 HB0
 rw [hq] at HR0
 rw [hq]
 have HQ:=hm7 hq
 clear hq
 go_wp2
 go_loopg [3,5,8] n (fun g ct _ i wr=>∃ j:Nat,j + g = n /\ i = .int .i64 j /\ ct = .int .i64 ((min (cross5 ((xs.take j).map Prod.snd)).length 65:Nat):Int) /\ Below Y0.heap.size Y0 wr)
 case atStart=>exact ⟨0,by omega,rfl,by simp [cross5_nil],Below.refl _ _⟩
 case round=>
  obtain ⟨j,hj,rfl,rfl,hb⟩:=hrel
  have HB:=hm7 hb
  have HWr:=hm7 (HB0.out.trans (hb.mono HB0.out.size))
  clear hb
  obtain ⟨ct,hct⟩:∃ ct:Nat,min (cross5 ((xs.take j).map Prod.snd)).length 65 = ct:=⟨_,rfl⟩
  rw [hct]
  have HCT2:=hm7 hct
  have hct65:ct <= 65:=by omega
  clear hct
  cases gk with
  | succ g=>
   have hlt:(j:Int) < (n:Int):=by omega
   obtain ⟨x,hx⟩:∃ x,xs[j]? = some x:=⟨xs[j]'(by have:=HN.out;omega),List.getElem?_eq_getElem _⟩
   have hxm:=List.mem_of_getElem? hx
   have hshp:=(HX.out x hxm).shape
   have hall:∀ x ∈ xs,x.1.length = 15:=fun x hx=>(HX.out x hx).cells.1
   have HC1:=hm7 (HCT.out x hxm)
   have HNE:Hid (0 < x.2.length):=List.length_pos_iff.2 (HX.out x hxm).ne
   have HTK:Hid ((xs.take (j + 1)).map Prod.snd = (xs.take j).map Prod.snd ++ [x.2]):=by show _ = _;rw [List.take_add_one,hx];simp
   have HPN:Hid (0 < (cross5 ((xs.take j).map Prod.snd)).length):=List.length_pos_iff.2 (cross5_ne fun m hm=>by
    obtain ⟨y,hy,rfl⟩:=List.mem_map.1 hm
    exact (HX.out y (List.mem_of_mem_take hy)).ne)
   obtain ⟨cs,m⟩:=x
   obtain ⟨k0,bk,bn,bs,nm,ya,yn,yc,op,lk,ln,ls,rk,rn,rs,va,vn,vc,N0,rfl⟩:=hshp
   obtain ⟨jb,rfl, -,hjb,p0, -⟩:=row7_at (i:=j * 15 + 0) HO.out (flat15 hall hx (i:=0) (by omega) rfl)
   have P:∀ (i:Nat) (u:Value),i < 15 -> ([.int .i64 k0,.int .i64 bk,.int .i64 bn,.string bs,.string nm,.slice ya yn yc,.int .i64 op,.int .i64 lk,.int .i64 ln,.string ls,.int .i64 rk,.int .i64 rn,.string rs,.slice va vn vc,.int .i64 N0]:List Value)[i]? = some u -> wr.cell? ⟨jb,j * 15 + i,none⟩ = some u:=fun i u hi hu=>by
    obtain ⟨jb2,e, -, -,p, -⟩:=row7_at (i:=j * 15 + i) HO.out (flat15 hall hx hi hu)
    cases e
    exact (Fr.of (P:=fun _=>False) (HWr.out)).cell hjb (fun z=>z) p
   have q0:wr.cell? ⟨jb,j * 15,none⟩ = some (.int .i64 k0):=P 0 (.int .i64 k0) (by omega) rfl
   have q1:=P 1 (.int .i64 bk) (by omega) rfl
   have q2:=P 2 (.int .i64 bn) (by omega) rfl
   have q3:=P 3 (.string bs) (by omega) rfl
   have q4:=P 4 (.string nm) (by omega) rfl
   have q5:=P 5 (.slice ya yn yc) (by omega) rfl
   have q6:=P 6 (.int .i64 op) (by omega) rfl
   have q7:=P 7 (.int .i64 lk) (by omega) rfl
   have q8:=P 8 (.int .i64 ln) (by omega) rfl
   have q9:=P 9 (.string ls) (by omega) rfl
   have q10:=P 10 (.int .i64 rk) (by omega) rfl
   have q11:=P 11 (.int .i64 rn) (by omega) rfl
   have q12:=P 12 (.string rs) (by omega) rfl
   have q13:=P 13 (.slice va vn vc) (by omega) rfl
   have q14:=P 14 (.int .i64 N0) (by omega) rfl
   have hjw:jb < wr.heap.size:=Nat.lt_of_lt_of_le hjb HWr.out.size
   clear P hall hx hxm p0
   have HX1:=hm7 (Bk.new wr #[.int .i64 k0,.int .i64 bk,.int .i64 bn,.string bs,.string nm,.slice ya yn yc,.int .i64 op,.int .i64 lk,.int .i64 ln,.string ls,.int .i64 rk,.int .i64 rn,.string rs,.slice va vn vc,.int .i64 N0] 201)
   have HL1:=hm7 (below1 wr (.cells #[.int .i64 k0,.int .i64 bk,.int .i64 bn,.string bs,.string nm,.slice ya yn yc,.int .i64 op,.int .i64 lk,.int .i64 ln,.string ls,.int .i64 rk,.int .i64 rn,.string rs,.slice va vn vc,.int .i64 N0] 201))
   go_upto_region 5 with fail
   clear q0 q1 q2 q3 q4 q5 q6 q7 q8 q9 q10 q11 q12 q13 q14 hjw
   revert HX1 HL1
   generalize wr.alloc (.cells #[.int .i64 k0,.int .i64 bk,.int .i64 bn,.string bs,.string nm,.slice ya yn yc,.int .i64 op,.int .i64 lk,.int .i64 ln,.string ls,.int .i64 rk,.int .i64 rn,.string rs,.slice va vn vc,.int .i64 N0] 201) = W1
   obtain ⟨xb,hxb⟩:∃ xb,wr.heap.size = xb:=⟨_,rfl⟩
   intro HX1 HL1
   rw [hxb] at HX1
   rw [hxb]
   clear hxb
   have q0:=HX1.out.cell (i:=0) rfl
   have q1:=HX1.out.cell (i:=1) rfl
   have q2:=HX1.out.cell (i:=2) rfl
   have q3:=HX1.out.cell (i:=3) rfl
   have q4:=HX1.out.cell (i:=4) rfl
   have q5:=HX1.out.cell (i:=5) rfl
   have q6:=HX1.out.cell (i:=6) rfl
   have q7:=HX1.out.cell (i:=7) rfl
   have q8:=HX1.out.cell (i:=8) rfl
   have q9:=HX1.out.cell (i:=9) rfl
   have q10:=HX1.out.cell (i:=10) rfl
   have q11:=HX1.out.cell (i:=11) rfl
   have q12:=HX1.out.cell (i:=12) rfl
   have q13:=HX1.out.cell (i:=13) rfl
   have q14:=HX1.out.cell (i:=14) rfl
   obtain ⟨lm,hlm⟩:∃ lm,lc5 m = lm:=⟨_,rfl⟩
   have HC2:Hid (∀ X:World,Calls Tryz.prog 186 #[.agg #[.int .i64 k0,.int .i64 bk,.int .i64 bn,.string bs,.string nm,.slice ya yn yc,.int .i64 op,.int .i64 lk,.int .i64 ln,.string ls,.int .i64 rk,.int .i64 rn,.string rs,.slice va vn vc,.int .i64 N0]] X fun e w'=>e = .returned (.int .i64 (lm:Int)) /\ Below X.heap.size X w'):=fun X=>by rw [<- hlm];exact HC1.out X
   have hlm65:lm <= 65:=by rw [<- hlm];unfold lc5;omega
   have HLM:=hm7 hlm
   have hml:ct * lm <= 65 * 65:=Nat.mul_le_mul hct65 hlm65
   have hpr:(ct:Int) * (lm:Int) = ((ct * lm:Nat):Int):=by simp
   have HMN:Hid (min (ct * lm) 65 = min (cross5 ((xs.take (j + 1)).map Prod.snd)).length 65):=by
    show _ = _
    rw [HTK.out,cross5_snoc_len, <- HCT2.out, <- HLM.out]
    exact min_mul5 HPN.out HNE.out
   obtain ⟨pr,hpe⟩:∃ pr,ct * lm = pr:=⟨_,rfl⟩
   rw [hpe] at hpr hml HMN
   clear hlm HC1 hpe
   go_wp2_with (go_at_call 186;refine (HC2.out _).mono ?_;rintro e W2 ⟨rfl,hb⟩;have HB2:=hm7 (HL1.out.trans (hb.mono HL1.out.size));clear hb q0 q1 q2 q3 q4 q5 q6 q7 q8 q9 q10 q11 q12 q13 q14)
   all_goals
    go_roundg g
    case measure=>omega
    case rel=>
     refine ⟨j + 1,by omega,by go_num, ?_,HB.out.trans (HB2.out.mono HB.out.size)⟩
     rw [<- HMN.out]
     congr 1
     omega
  | zero=>
   obtain rfl:j = n:=by omega
   have hlt:¬ (j:Int) < (j:Int):=by omega
   have hRc:ct = R:=by rw [<- HR.out, <- HCT2.out,List.take_of_length_le (by rw [HN.out];exact Nat.le_refl _)]
   subst hRc
   have HRr:=hm7 (HR0.out.below HB.out)
   have r0:=HRr.out.cell (i:=0) rfl
   have r1:=HRr.out.cell (i:=1) rfl
   have f0:=HRr.out.froz 0
   have f1:=HRr.out.froz 1
   have hrl:=HRr.out.lt
   have HZ:=hm7 ((HRr.out.set 0 (.slice a j cap)).set 1 (.int .i64 (ct:Int)))
   have z0:=HZ.out.cell (i:=0) rfl
   have z1:=HZ.out.cell (i:=1) rfl
   have HBZ:Hid (Below w.heap.size w ((wr.setCell ⟨q,0,none⟩ (.slice a j cap)).setCell ⟨q,1,none⟩ (.int .i64 (ct:Int)))):=(HWr.out.setCell (p:=⟨q,0,none⟩) (Nat.le_of_eq HQ.out) _).setCell (p:=⟨q,1,none⟩) (Nat.le_of_eq HQ.out) _
   go_wp2
   refine bodyPost_ret (v:=.agg #[.slice a j cap,.int .i64 (ct:Int)]) (by simp [results,Tryz.results154,go_sem,z0,z1]) rfl ?_
   exact ⟨rfl,HBZ.out⟩
theorem flat2 {xs:List ((Value × Nat) × List (List Lv5))} {j:Nat} {x:(Value × Nat) × List (List Lv5)} (hx:xs[j]? = some x):(xs.flatMap fun x=>[x.1.1,Value.int .i64 (x.1.2:Int)])[j * 2]? = some x.1.1 /\ (xs.flatMap fun x=>[x.1.1,Value.int .i64 (x.1.2:Int)])[j * 2 + 1]? = some (.int .i64 (x.1.2:Int)):=by
 induction xs generalizing j with
 | nil=>simp at hx
 | cons y ys ih=>
  rw [List.flatMap_cons]
  cases j with
  | zero=>
   simp only [List.getElem?_cons_zero,Option.some.injEq] at hx
   subst hx
   exact ⟨rfl,rfl⟩
  | succ j=>
   rw [List.getElem?_cons_succ] at hx
   rw [show (j + 1) * 2 = j * 2 + 2 by omega]
   exact ih hx
set_option maxRecDepth 20000 in
set_option maxHeartbeats 4000000 in
theorem altOf5_any (F:Nat -> Prop) (B:Nat) (P:List Value -> List (List Lv5) -> Prop) (v:Value) (xs:List ((Value × Nat) × List (List Lv5))) (w:World) (hx:∀ x ∈ xs,CjM F P w x.1.1 x.1.2 x.2) (ho:w.ownsRow B 170 2 v xs.length (xs.flatMap fun x=>[x.1.1,.int .i64 (x.1.2:Int)])) (hl:xs.length <= 3000000) :
  Calls Tryz.prog 153 #[v] w fun e w'=>e = .returned (.agg #[v,.int .i64 (min ((xs.map Prod.snd).flatten).length 65:Nat)]) /\ Below w.heap.size w w':=by
 obtain ⟨a,cap,rfl, -⟩:=row7_form ho
 have HX:=hm7 hx
 obtain ⟨n,hn⟩:∃ n,xs.length = n:=⟨_,rfl⟩
 have HO:Hid (w.ownsRow B 170 2 (.slice a n cap) n (xs.flatMap fun x=>[x.1.1,.int .i64 (x.1.2:Int)])):=by rw [hn] at ho;exact ho
 rw [hn] at hl ⊢
 have HN:=hm7 hn
 have HR0:=hm7 (Bk.new w #[.slice none 0 0,.int .i64 0] 139)
 have HB0:=hm7 (below1 w (.cells #[.slice none 0 0,.int .i64 0] 139))
 obtain ⟨R,hR⟩:∃ R:Nat,(min ((xs.map Prod.snd).flatten).length 65:Nat) = R:=⟨_,rfl⟩
 rw [hR]
 have HR:=hm7 hR
 clear hx ho hn hR
 go_enter Tryz.func153,Tryz.ntmps153
 go_upto_region 1 with fail
 revert HR0 HB0
 generalize w.alloc (.cells #[.slice none 0 0,.int .i64 0] 139) = Y0
 obtain ⟨q,hq⟩:∃ q,w.heap.size = q:=⟨_,rfl⟩
 intro HR0 HB0
 rw [hq] at HR0
 rw [hq]
 have HQ:=hm7 hq
 clear hq
 go_wp2
 go_loopg [3,5,8] n (fun g ct _ i wr=>∃ j:Nat,j + g = n /\ i = .int .i64 j /\ ct = .int .i64 ((min (((xs.take j).map Prod.snd).flatten).length 65:Nat):Int) /\ Below Y0.heap.size Y0 wr)
 case atStart=>exact ⟨0,by omega,rfl,by simp,Below.refl _ _⟩
 case round=>
  obtain ⟨j,hj,rfl,rfl,hb⟩:=hrel
  have HB:=hm7 hb
  have HWr:=hm7 (HB0.out.trans (hb.mono HB0.out.size))
  clear hb
  obtain ⟨ct,hct⟩:∃ ct:Nat,min (((xs.take j).map Prod.snd).flatten).length 65 = ct:=⟨_,rfl⟩
  rw [hct]
  have HCT2:=hm7 hct
  have hct65:ct <= 65:=by omega
  clear hct
  cases gk with
  | succ g=>
   have hlt:(j:Int) < (n:Int):=by omega
   obtain ⟨x,hx⟩:∃ x,xs[j]? = some x:=⟨xs[j]'(by have:=HN.out;omega),List.getElem?_eq_getElem _⟩
   have hxm:=List.mem_of_getElem? hx
   obtain ⟨ys,hy1,hy2,hy3,hy4,hy5⟩:=HX.out x hxm
   obtain ⟨ya,yc,hyf, -⟩:=row7_form hy2.1
   have HTK:Hid (((xs.take (j + 1)).map Prod.snd).flatten.length = ((xs.take j).map Prod.snd).flatten.length + x.2.length):=by show _ = _;rw [List.take_add_one,hx];simp
   have HY4:=hm7 hy4
   obtain ⟨f0,f1⟩:=flat2 hx
   obtain ⟨jb,rfl, -,hjb,p0, -⟩:=row7_at (i:=j * 2) HO.out f0
   obtain ⟨jb1,hjb1, -, -,p1, -⟩:=row7_at (i:=j * 2 + 1) HO.out f1
   simp only [Option.some.injEq,Addr.mk.injEq,and_true] at hjb1
   subst hjb1
   have q0:=(Fr.of (P:=fun _=>False) (HWr.out)).cell hjb (fun z=>z) p0
   have q1:=(Fr.of (P:=fun _=>False) (HWr.out)).cell hjb (fun z=>z) p1
   have hjw:jb < wr.heap.size:=Nat.lt_of_lt_of_le hjb HWr.out.size
   obtain ⟨⟨xv,xn⟩,m⟩:=x
   dsimp only at q0 q1 hyf HY4 HTK
   generalize ys.length = yn at hyf
   subst hyf
   clear hx hxm hy1 hy2 hy3 hy4 hy5 p0 p1 f0 f1
   have hxn:xn <= 65:=by rw [HY4.out];omega
   have HMN:Hid (min (ct + xn) 65 = min (((xs.take (j + 1)).map Prod.snd).flatten).length 65):=by
    show _ = _
    rw [HTK.out, <- HCT2.out,HY4.out]
    omega
   have HL1:=hm7 (below1 wr (.cells #[.slice ya yn yc,.int .i64 (xn:Int)] 170))
   go_wp2
   all_goals
    go_roundg g
    case measure=>omega
    case rel=>
     refine ⟨j + 1,by omega,by go_num, ?_,HB.out.trans (HL1.out.mono HB.out.size)⟩
     rw [<- HMN.out]
     congr 1
     omega
  | zero=>
   obtain rfl:j = n:=by omega
   have hlt:¬ (j:Int) < (j:Int):=by omega
   have hRc:ct = R:=by rw [<- HR.out, <- HCT2.out,List.take_of_length_le (by rw [HN.out];exact Nat.le_refl _)]
   subst hRc
   have HRr:=hm7 (HR0.out.below HB.out)
   have r0:=HRr.out.cell (i:=0) rfl
   have r1:=HRr.out.cell (i:=1) rfl
   have f0:=HRr.out.froz 0
   have f1:=HRr.out.froz 1
   have hrl:=HRr.out.lt
   have HZ:=hm7 ((HRr.out.set 0 (.slice a j cap)).set 1 (.int .i64 (ct:Int)))
   have z0:=HZ.out.cell (i:=0) rfl
   have z1:=HZ.out.cell (i:=1) rfl
   have HBZ:Hid (Below w.heap.size w ((wr.setCell ⟨q,0,none⟩ (.slice a j cap)).setCell ⟨q,1,none⟩ (.int .i64 (ct:Int)))):=(HWr.out.setCell (p:=⟨q,0,none⟩) (Nat.le_of_eq HQ.out) _).setCell (p:=⟨q,1,none⟩) (Nat.le_of_eq HQ.out) _
   go_wp2
   refine bodyPost_ret (v:=.agg #[.slice a j cap,.int .i64 (ct:Int)]) (by simp [results,Tryz.results153,go_sem,z0,z1]) rfl ?_
   exact ⟨rfl,HBZ.out⟩
end Go.Proofs.YtcpjiahdaplhlaaGreatDoor

import Derived.Test.YtcpjiahdaplhlaaGreatDoorNR4
import Derived.Test.YtcpjiahdaplhlaaGreatDoorOQ1
import Derived.Test.YtcpjiahdaplhlaaGreatDoorB2
namespace Go.Proofs.YtcpjiahdaplhlaaGreatDoor
open Go.RowKit Go.Shelf
theorem CBlk.bl {m g:Nat} {W W':World} {c:Array Value} {t:TypeId} (h:CBlk W g c t) (hb:Bl m W.heap.size W W') (hg:g ≠ m):CBlk W' g c t:=(hb.block _ h.lt hg).trans h
theorem ABlk.bl {m:Nat} {w w':World} {g n:Nat} {l:List (At × Value)} (h:ABlk w g n l) (hb:Bl m w.heap.size w w') (hg:g ≠ m):ABlk w' g n l:=by
 obtain ⟨C,h1,h2⟩:=h
 exact ⟨C,(hb.block _ (Array.getElem?_eq_some_iff.1 h1).1 hg).trans h1,h2⟩
theorem EBlk.bl {m:Nat} {w w':World} {g n:Nat} {l:List Te} (h:EBlk w g n l) (hb:Bl m w.heap.size w w') (hg:g ≠ m):EBlk w' g n l:=by
 obtain ⟨C,h1,h2⟩:=h
 exact ⟨C,(hb.block _ (Array.getElem?_eq_some_iff.1 h1).1 hg).trans h1,h2⟩
theorem TsN.bl {m P:Nat} {vs:List Int} {w w':World} {g:Nat} {v:Value} {l:List Tm} (h:TsN w g v l) (hN:NM w P m vs) (hb:Bl m w.heap.size w w'):TsN w' g v l:=⟨h.1.bl hN hb,h.2⟩
theorem As.bl {m P:Nat} {vs:List Int} {w w':World} {v:Value} {l:List (At × Value)} (h:As w v l) (hN:NM w P m vs) (hb:Bl m w.heap.size w w'):As w' v l:=by
 obtain ⟨a,cap,rfl,hl,h,ht⟩:=h
 refine ⟨a,cap,rfl,hl, ?_,fun x hx=>(ht x hx).bl hN hb⟩
 rcases h with h | ⟨b,o,rfl,h1,h2⟩
 ·exact Or.inl h
 ·cases l with
  | nil=>exact Or.inl rfl
  | cons t l=>
   have hne:b ≠ m:=by
    rintro rfl
    have:=(h2 0 t rfl).1
    rw [hN.no] at this;cases this
   refine Or.inr ⟨b,o,rfl,Nat.lt_of_lt_of_le h1 hb.size,fun i u hu=>?_⟩
   have:=h2 i u hu
   rw [hb.cell (p:=⟨b,_,none⟩) h1 hne,hb.cell (p:=⟨b,_,none⟩) h1 hne,hb.cell (p:=⟨b,_,none⟩) h1 hne,hb.cell (p:=⟨b,_,none⟩) h1 hne,hb.cell (p:=⟨b,_,none⟩) h1 hne];exact this
theorem Es.bl {m P:Nat} {vs:List Int} {w w':World} {v:Value} {l:List Te} (h:Es w v l) (hN:NM w P m vs) (hb:Bl m w.heap.size w w'):Es w' v l:=by
 obtain ⟨a,cap,rfl,hl,h⟩:=h
 refine ⟨a,cap,rfl,hl, ?_⟩
 rcases h with h | ⟨b,o,rfl,h1,h2⟩
 ·exact Or.inl h
 ·cases l with
  | nil=>exact Or.inl rfl
  | cons t l=>
   have hne:b ≠ m:=by
    rintro rfl
    have:=(h2 0 t rfl).1
    rw [hN.no] at this;cases this
   refine Or.inr ⟨b,o,rfl,Nat.lt_of_lt_of_le h1 hb.size,fun i u hu=>?_⟩
   have:=h2 i u hu
   rw [hb.cell (p:=⟨b,_,none⟩) h1 hne,hb.cell (p:=⟨b,_,none⟩) h1 hne,hb.cell (p:=⟨b,_,none⟩) h1 hne,hb.cell (p:=⟨b,_,none⟩) h1 hne,hb.cell (p:=⟨b,_,none⟩) h1 hne,hb.cell (p:=⟨b,_,none⟩) h1 hne,hb.cell (p:=⟨b,_,none⟩) h1 hne];exact this
theorem Cm.ok.bl {m P:Nat} {vs:List Int} {w w':World} {c:Cm} (h:c.ok w) (hN:NM w P m vs) (hb:Bl m w.heap.size w w'):c.ok w':=⟨h.h.bl hN hb,h.b.bl hN hb,h.t.bl hN hb⟩
def mapS {α β:Type} (f:List Int -> α -> β) (g:List Int -> α -> List Int):List Int -> List α -> List β
 | _,[]=>[]
 | vs,x :: l=>f vs x :: mapS f g (g vs x) l
def foldS {α:Type} (g:List Int -> α -> List Int):List Int -> List α -> List Int
 | vs,[]=>vs
 | vs,x :: l=>foldS g (g vs x) l
theorem mapS_len {α β:Type} (f:List Int -> α -> β) (g:List Int -> α -> List Int):∀ (l:List α) (vs:List Int),(mapS f g vs l).length = l.length
 | [],_=>rfl
 | x :: l,vs=>by simp [mapS,mapS_len f g l]
theorem mapS_at {α β:Type} {f:List Int -> α -> β} {g:List Int -> α -> List Int}:∀ {l:List α} {vs:List Int} {j:Nat} {t : α},l[j]? = some t -> (mapS f g vs l)[j]? = some (f (foldS g vs (l.take j)) t)
 | [],_,_,_,h=>by simp at h
 | u :: l,vs,0,t,h=>by
  simp only [List.getElem?_cons_zero,Option.some.injEq] at h
  subst h;rfl
 | u :: l,vs,j + 1,t,h=>by
  simp only [List.getElem?_cons_succ] at h
  simp only [mapS,List.getElem?_cons_succ,List.take_succ_cons,foldS]
  exact mapS_at h
theorem foldS_take {α:Type} {g:List Int -> α -> List Int}:∀ {l:List α} {vs:List Int} {j:Nat} {t : α},l[j]? = some t -> foldS g vs (l.take (j + 1)) = g (foldS g vs (l.take j)) t
 | [],_,_,_,h=>by simp at h
 | u :: l,vs,0,t,h=>by
  simp only [List.getElem?_cons_zero,Option.some.injEq] at h
  subst h;simp [foldS]
 | u :: l,vs,j + 1,t,h=>by
  simp only [List.getElem?_cons_succ] at h
  rw [List.take_succ_cons,List.take_succ_cons,foldS,foldS,foldS_take h]
def atN (vs:List Int) (a:At):At:=⟨nsT vs a.by_,a.name,nsL (nst vs a.by_) a.args⟩
def atS (vs:List Int) (a:At):List Int:=stL (nst vs a.by_) a.args
def teN (vs:List Int) (x:Te):Te:=⟨x.op,nsT vs x.l,nsT (nst vs x.l) x.r⟩
def teS (vs:List Int) (x:Te):List Int:=nst (nst vs x.l) x.r
def totA:List At -> Nat
 | []=>0
 | a :: l=>a.args.length + 1 + totA l
theorem atS_len (vs:List Int) (a:At):(atS vs a).length <= vs.length + (a.args.length + 1):=by
 have:=stL_len a.args (nst vs a.by_);have:=nst_len vs a.by_;unfold atS;omega
theorem teS_len (vs:List Int) (x:Te):(teS vs x).length <= vs.length + 2:=by
 have:=nst_len (nst vs x.l) x.r;have:=nst_len vs x.l;unfold teS;omega
theorem foldA_len:∀ (l:List At) (vs:List Int) (j:Nat),(foldS atS vs (l.take j)).length <= vs.length + totA l
 | [],vs,j=>by simp [foldS]
 | a :: l,vs,0=>by simp [foldS]
 | a :: l,vs,j + 1=>by
  have:=foldA_len l (atS vs a) j;have:=atS_len vs a
  simp only [List.take_succ_cons,foldS,totA];omega
theorem totA_mem:∀ {l:List At} {j:Nat} {a:At} (vs:List Int),l[j]? = some a -> (foldS atS vs (l.take j)).length + (a.args.length + 1) <= vs.length + totA l
 | [],_,_,_,h=>by simp at h
 | u :: l,0,a,vs,h=>by
  simp only [List.getElem?_cons_zero,Option.some.injEq] at h
  subst h;simp only [List.take_zero,foldS,totA];omega
 | u :: l,j + 1,a,vs,h=>by
  simp only [List.getElem?_cons_succ] at h
  have:=totA_mem (atS vs u) h;have:=atS_len vs u
  simp only [List.take_succ_cons,foldS,totA];omega
theorem foldE_len:∀ (l:List Te) (vs:List Int) (j:Nat),(foldS teS vs (l.take j)).length <= vs.length + 2 * j
 | [],vs,j=>by simp [foldS]
 | a :: l,vs,0=>by simp [foldS]
 | a :: l,vs,j + 1=>by
  have:=foldE_len l (teS vs a) j;have:=teS_len vs a
  simp only [List.take_succ_cons,foldS];omega
structure RN (q P:Nat) (st:List Int) (w X:World) (o:Array Value) (k1 kb:Nat) (hd:Tm) (nm:ByteArray) (L1:List Tm) (M1 Bh M2:Nat) (l:List (At × Value)):Prop where
 bc:CBlk X w.heap.size o 53
 br:CBlk X (w.heap.size + 1) zcs 53
 bh:CBlk X Bh #[.int .i64 hd.k,.int .i64 hd.n,.string hd.s,.string nm,.slice (some ⟨M1,0,none⟩) k1 k1] 42
 a:ABlk X M2 kb l
 t1:TsN X M2 (.slice (some ⟨M1,0,none⟩) k1 k1) L1
 ts:∀ x ∈ l,TsN X M2 x.2 x.1.args /\ ∀ b,x.2.ownBlock = some b -> b < X.heap.size /\ w.heap.size + 2 <= b
 bw:Bl q w.heap.size w X
 o1:w.heap.size + 1 < Bh
 o2:Bh < M2
 m1:w.heap.size + 2 <= M1
 m2:M1 < Bh
 n:NM X P q st
 hq:q < w.heap.size
 hP:P < w.heap.size
structure QN (q P:Nat) (st:List Int) (w X:World) (o:Array Value) (k1 kb kt:Nat) (hd:Tm) (nm:ByteArray) (L1:List Tm) (M1 Bh M2:Nat) (lb:List (At × Value)) (M3:Nat) (lt:List Te):Prop where
 bc:CBlk X w.heap.size o 53
 br:CBlk X (w.heap.size + 1) zcs 53
 bh:CBlk X Bh #[.int .i64 hd.k,.int .i64 hd.n,.string hd.s,.string nm,.slice (some ⟨M1,0,none⟩) k1 k1] 42
 a:ABlk X M2 kb lb
 t1:TsN X M3 (.slice (some ⟨M1,0,none⟩) k1 k1) L1
 t2:M1 ≠ M2
 ts:∀ x ∈ lb,TsN X M3 x.2 x.1.args /\ x.2.ownBlock ≠ some M2 /\ ∀ b,x.2.ownBlock = some b -> w.heap.size + 2 <= b
 e:EBlk X M3 kt lt
 bw:Bl q w.heap.size w X
 o1:w.heap.size + 1 < Bh
 o2:Bh < M2
 o3:M2 < M3
 m1:w.heap.size + 2 <= M1
 n:NM X P q st
 hq:q < w.heap.size
 hP:P < w.heap.size
theorem RN.later {q P:Nat} {st:List Int} {w X X':World} {o:Array Value} {k1 kb:Nat} {hd:Tm} {nm:ByteArray} {L1:List Tm} {M1 Bh M2:Nat} {l:List (At × Value)} (h:RN q P st w X o k1 kb hd nm L1 M1 Bh M2 l) (hb:Below X.heap.size X X'):RN q P st w X' o k1 kb hd nm L1 M1 Bh M2 l:=
 ⟨h.bc.later hb,h.br.later hb,h.bh.later hb,h.a.later hb,h.t1.later hb,fun x hx=>⟨(h.ts x hx).1.later hb,fun b e=>⟨Nat.lt_of_lt_of_le ((h.ts x hx).2 b e).1 hb.size,((h.ts x hx).2 b e).2⟩⟩,Bl.step h.bw (Bl.of hb),h.o1,h.o2,h.m1,h.m2,h.n.later hb,h.hq,h.hP⟩
theorem RN.put {q P:Nat} {st:List Int} {w X:World} {o:Array Value} {k1 kb:Nat} {hd:Tm} {nm:ByteArray} {L1:List Tm} {M1 Bh M2:Nat} {l:List (At × Value)} (h:RN q P st w X o k1 kb hd nm L1 M1 Bh M2 l) (hl:l.length < kb) (x:At × Value) (hx:TsN X M2 x.2 x.1.args) (hx':∀ b,x.2.ownBlock = some b -> b < X.heap.size /\ w.heap.size + 2 <= b):RN q P st w (Aput X M2 l.length x) o k1 kb hd nm L1 M1 Bh M2 (l ++ [x]):=by
 have o1:=h.o1
 have o2:=h.o2
 have n1:w.heap.size ≠ M2:=by omega
 have n2:w.heap.size + 1 ≠ M2:=by omega
 have n3:Bh ≠ M2:=by omega
 have n4:w.heap.size <= M2:=by omega
 have hq:=h.hq
 have hP:=h.hP
 have n6:P ≠ M2:=by omega
 have n7:q ≠ M2:=by omega
 refine ⟨((((h.bc.off n1).off n1).off n1).off n1).off n1,((((h.br.off n2).off n2).off n2).off n2).off n2,((((h.bh.off n3).off n3).off n3).off n3).off n3,h.a.put hl x,((((h.t1.off).off).off).off).off,fun y hy=>?_,((((h.bw.setCell n4 _).setCell n4 _).setCell n4 _).setCell n4 _).setCell n4 _,o1,o2,h.m1,h.m2,((((h.n.off n6 n7).off n6 n7).off n6 n7).off n6 n7).off n6 n7,h.hq,h.hP⟩
 rcases List.mem_append.1 hy with hy | hy
 ·exact ⟨((((((h.ts y hy).1).off).off).off).off).off,fun b e=>⟨by simpa [World.setCell] using ((h.ts y hy).2 b e).1,((h.ts y hy).2 b e).2⟩⟩
 ·rw [List.mem_singleton] at hy;subst hy;exact ⟨((((hx.off).off).off).off).off,fun b e=>⟨by simpa [World.setCell] using (hx' b e).1,(hx' b e).2⟩⟩
theorem QN.later {q P:Nat} {st:List Int} {w X X':World} {o:Array Value} {k1 kb kt:Nat} {hd:Tm} {nm:ByteArray} {L1:List Tm} {M1 Bh M2 M3:Nat} {l:List (At × Value)} {lt:List Te} (h:QN q P st w X o k1 kb kt hd nm L1 M1 Bh M2 l M3 lt) (hb:Below X.heap.size X X'):QN q P st w X' o k1 kb kt hd nm L1 M1 Bh M2 l M3 lt:=
 ⟨h.bc.later hb,h.br.later hb,h.bh.later hb,h.a.later hb,h.t1.later hb,h.t2,fun x hx=>⟨(h.ts x hx).1.later hb,(h.ts x hx).2⟩,h.e.later hb,Bl.step h.bw (Bl.of hb),h.o1,h.o2,h.o3,h.m1,h.n.later hb,h.hq,h.hP⟩
theorem QN.put {q P:Nat} {st:List Int} {w X:World} {o:Array Value} {k1 kb kt:Nat} {hd:Tm} {nm:ByteArray} {L1:List Tm} {M1 Bh M2 M3:Nat} {l:List (At × Value)} {lt:List Te} (h:QN q P st w X o k1 kb kt hd nm L1 M1 Bh M2 l M3 lt) (hl:lt.length < kt) (x:Te):QN q P st w (Eput X M3 lt.length x) o k1 kb kt hd nm L1 M1 Bh M2 l M3 (lt ++ [x]):=by
 have o1:=h.o1
 have o2:=h.o2
 have o3:=h.o3
 have n1:w.heap.size ≠ M3:=by omega
 have n2:w.heap.size + 1 ≠ M3:=by omega
 have n3:Bh ≠ M3:=by omega
 have n5:M2 ≠ M3:=by omega
 have n4:w.heap.size <= M3:=by omega
 have hq:=h.hq
 have hP:=h.hP
 have n6:P ≠ M3:=by omega
 have n7:q ≠ M3:=by omega
 exact ⟨((((((h.bc.off n1).off n1).off n1).off n1).off n1).off n1).off n1,((((((h.br.off n2).off n2).off n2).off n2).off n2).off n2).off n2,((((((h.bh.off n3).off n3).off n3).off n3).off n3).off n3).off n3,((((((h.a.other n5).other n5).other n5).other n5).other n5).other n5).other n5,((((((h.t1.off).off).off).off).off).off).off,h.t2,fun y hy=>⟨(((((((h.ts y hy).1.off).off).off).off).off).off).off,(h.ts y hy).2⟩,h.e.put hl x,((((((h.bw.setCell n4 _).setCell n4 _).setCell n4 _).setCell n4 _).setCell n4 _).setCell n4 _).setCell n4 _,o1,o2,o3,h.m1,((((((h.n.off n6 n7).off n6 n7).off n6 n7).off n6 n7).off n6 n7).off n6 n7).off n6 n7,h.hq,h.hP⟩
theorem RN.bl {q P:Nat} {st st':List Int} {w X X':World} {o:Array Value} {k1 kb:Nat} {hd:Tm} {nm:ByteArray} {L1:List Tm} {M1 Bh M2:Nat} {l:List (At × Value)} (h:RN q P st w X o k1 kb hd nm L1 M1 Bh M2 l) (hb:Bl q X.heap.size X X') (hn:NM X' P q st'):RN q P st' w X' o k1 kb hd nm L1 M1 Bh M2 l:=by
 have o1:=h.o1
 have o2:=h.o2
 have hq:=h.hq
 exact ⟨h.bc.bl hb (by omega),h.br.bl hb (by omega),h.bh.bl hb (by omega),h.a.bl hb (by omega),h.t1.bl h.n hb,fun x hx=>⟨(h.ts x hx).1.bl h.n hb,fun b e=>⟨Nat.lt_of_lt_of_le ((h.ts x hx).2 b e).1 hb.size,((h.ts x hx).2 b e).2⟩⟩,Bl.step h.bw hb,h.o1,h.o2,h.m1,h.m2,hn,h.hq,h.hP⟩
theorem QN.bl {q P:Nat} {st st':List Int} {w X X':World} {o:Array Value} {k1 kb kt:Nat} {hd:Tm} {nm:ByteArray} {L1:List Tm} {M1 Bh M2 M3:Nat} {l:List (At × Value)} {lt:List Te} (h:QN q P st w X o k1 kb kt hd nm L1 M1 Bh M2 l M3 lt) (hb:Bl q X.heap.size X X') (hn:NM X' P q st'):QN q P st' w X' o k1 kb kt hd nm L1 M1 Bh M2 l M3 lt:=by
 have o1:=h.o1
 have o2:=h.o2
 have o3:=h.o3
 have hq:=h.hq
 exact ⟨h.bc.bl hb (by omega),h.br.bl hb (by omega),h.bh.bl hb (by omega),h.a.bl hb (by omega),h.t1.bl h.n hb,h.t2,fun x hx=>⟨(h.ts x hx).1.bl h.n hb,(h.ts x hx).2⟩,h.e.bl hb (by omega),Bl.step h.bw hb,h.o1,h.o2,h.o3,h.m1,hn,h.hq,h.hP⟩
end Go.Proofs.YtcpjiahdaplhlaaGreatDoor
namespace Go.Proofs.YtcpjiahdaplhlaaGreatDoor
open Go.RowKit Go.Shelf
attribute [local go_sem ↓] Go.wp_at_zero Go.wp_at_succ
theorem two_boxesM {q:Nat} {w w1:World} {c d:Array Value} {t u:TypeId} (hb:Bl q ((w.alloc (.cells c t)).alloc (.cells d u)).heap.size ((w.alloc (.cells c t)).alloc (.cells d u)) w1) (hq:q < w.heap.size):CBlk w1 w.heap.size c t /\ CBlk w1 (w.heap.size + 1) d u:=
 ⟨CBlk.bl (heap_alloc2_old _ _ _) hb (by omega),CBlk.bl (heap_alloc2_new _ _ _) hb (by omega)⟩
def Cm.cpN (c:Cm) (vs:List Int) (M1 M2 M3:Nat) (lb:List (At × Value)):Cm:=⟨(atN vs c.head.1,.slice (some ⟨M1,0,none⟩) c.head.1.args.length c.head.1.args.length),lb,.slice (some ⟨M2,0,none⟩) c.body.length c.body.length,mapS teN teS (foldS atS (atS vs c.head.1) (fsts c.body)) c.tests,.slice (some ⟨M3,0,none⟩) c.tests.length c.tests.length⟩
def NPost (w:World) (c:Cm) (vs:List Int) (P q:Nat) (e:Ending) (w':World):Prop:=
 ∃ (M1 M2 M3:Nat) (lb:List (At × Value)),e = .returned (c.cpN vs M1 M2 M3 lb).v /\ RJ w.heap.size w' c.head.1.args.length c.body.length c.tests.length (nsL (nst vs c.head.1.by_) c.head.1.args) (mapS atN atS (atS vs c.head.1) (fsts c.body)) (mapS teN teS (foldS atS (atS vs c.head.1) (fsts c.body)) c.tests) M1 M2 M3 lb /\ NM w' P q (foldS teS (foldS atS (atS vs c.head.1) (fsts c.body)) c.tests) /\ Bl q w.heap.size w w'
set_option maxRecDepth 20000 in
set_option maxHeartbeats 8000000 in
theorem rep_normal (vs:List Int) (P q:Nat) (c:Cm) (w:World) (hP:NM w P q vs) (hw1:∀ t:Tm,t = c.head.1.by_ ∨ t ∈ c.head.1.args -> t.var = true -> (Lit.int .i64 t.n).wf = true) (hw2:∀ x ∈ c.body,∀ t:Tm,t = x.1.by_ ∨ t ∈ x.1.args -> t.var = true -> (Lit.int .i64 t.n).wf = true) (hw3:∀ x ∈ c.tests,(x.l.var = true -> (Lit.int .i64 x.l.n).wf = true) /\ (x.r.var = true -> (Lit.int .i64 x.r.n).wf = true)) (hS:vs.length + (c.head.1.args.length + 1) + totA (fsts c.body) + 2 * c.tests.length < 4000000000000) (h:c.ok w) (hl1:c.head.1.args.length <= 1900000000000) (hl2:c.body.length <= 1900000000000) (hl3:c.tests.length <= 1900000000000) (hl4:∀ x ∈ c.body,x.1.args.length <= 1900000000000) :
  Calls Tryz.prog 190 #[c.v,(.func (.func 191) #[] #[.pointer (some ⟨P,0,none⟩)])] w (NPost w c vs P q):=by
 obtain ⟨⟨a,hn,cap,h1⟩,⟨a',cap',h2⟩,⟨a'',cap'',h3⟩,hbl,htl⟩:=h.shape
 have HOK:Hid (c.ok w):=h
 have HL4:Hid (∀ x ∈ c.body,x.1.args.length <= 1900000000000):=hl4
 have hb2:=below2 w (.cells c.cs 53) (.cells zcs 53)
 have K1:=repIn_normal vs P q c.head.1 c.head.2 ((w.alloc (.cells c.cs 53)).alloc (.cells zcs 53)) (hP.later hb2) hw1 (by omega) (h.h.later hb2)
 have HNM:Hid (NM w P q vs):=hP
 have hPw:P < w.heap.size:=hP.lt.1
 have hq:q < w.heap.size:=hP.lt.2
 have HW2:Hid (∀ x ∈ c.body,∀ t:Tm,t = x.1.by_ ∨ t ∈ x.1.args -> t.var = true -> (Lit.int .i64 t.n).wf = true):=hw2
 have HW3:Hid (∀ x ∈ c.tests,(x.l.var = true -> (Lit.int .i64 x.l.n).wf = true) /\ (x.r.var = true -> (Lit.int .i64 x.r.n).wf = true)):=hw3
 have z2:((w.alloc (.cells c.cs 53)).alloc (.cells zcs 53)).heap.size = w.heap.size + 2:=by simp
 have hmk2:=mk_atoms c.body.length hl2
 have hmk3:=mk_tests c.tests.length hl3
 clear h hl4 hP hw1 hw2 hw3
 obtain ⟨⟨⟨⟨k,m,s⟩,nm,ls⟩,hx⟩,body,bv,tests,tv⟩:=c
 simp only at h1 h2 h3 hbl htl K1 hS hl1 hl2 hl3 hmk2 hmk3 hb2 z2
 subst h1 h2 h3
 obtain ⟨⟨bk,bn,bz⟩,hbk⟩:∃ b,nsT vs ⟨k,m,s⟩ = b:=⟨_,rfl⟩
 obtain ⟨L1,hL1⟩:∃ L,nsL (nst vs ⟨k,m,s⟩) ls = L:=⟨_,rfl⟩
 obtain ⟨st1,hs1⟩:∃ L,stL (nst vs ⟨k,m,s⟩) ls = L:=⟨_,rfl⟩
 have hst1:st1.length <= vs.length + (ls.length + 1):=by rw [<- hs1];exact atS_len vs ⟨⟨k,m,s⟩,nm,ls⟩
 have HL1:Hid (nsL (nst vs ⟨k,m,s⟩) ls = L1):=hL1
 have HS1:Hid (stL (nst vs ⟨k,m,s⟩) ls = st1):=hs1
 rw [hbk,hL1,hs1] at K1
 clear hL1 hs1
 have HBK:Hid (nsT vs ⟨k,m,s⟩ = ⟨bk,bn,bz⟩):=hbk
 clear hbk
 go_enter Tryz.func190,Tryz.ntmps190
 go_upto_region 2 with (go_at_call 208;refine K1.mono ?_;clear K1;rintro e w1 ⟨M1,rfl,ht1,hm1,hm1',hn1,hb1⟩)
 have hbx:=two_boxesM hb1 hq
 rw [z2] at hm1
 have z1:=hb1.size
 rw [z2] at z1
 have HW1:Hid (Bl q w.heap.size w w1):=Bl.step (Bl.of hb2) hb1
 have g1:=hbx.1.later (below1 w1 (.cells (#[.int .i64 bk,.int .i64 bn,.string bz,.string nm,.slice (some ⟨M1,0,none⟩) ls.length ls.length]) 42))
 have g2:=hbx.2.later (below1 w1 (.cells (#[.int .i64 bk,.int .i64 bn,.string bz,.string nm,.slice (some ⟨M1,0,none⟩) ls.length ls.length]) 42))
 have g3:=CBlk.new w1 (#[.int .i64 bk,.int .i64 bn,.string bz,.string nm,.slice (some ⟨M1,0,none⟩) ls.length ls.length]) 42
 have g4:=ht1.later (below1 w1 (.cells (#[.int .i64 bk,.int .i64 bn,.string bz,.string nm,.slice (some ⟨M1,0,none⟩) ls.length ls.length]) 42))
 have g5:=Bl.step HW1.out (Bl.of (below1 w1 (.cells (#[.int .i64 bk,.int .i64 bn,.string bz,.string nm,.slice (some ⟨M1,0,none⟩) ls.length ls.length]) 42)))
 have g7:=hn1.later (below1 w1 (.cells (#[.int .i64 bk,.int .i64 bn,.string bz,.string nm,.slice (some ⟨M1,0,none⟩) ls.length ls.length]) 42))
 obtain ⟨c0,c1,c2,c3,c4,c5,c6⟩:=cseven g1
 simp only at c0 c1 c2 c3 c4 c5 c6
 go_upto_region 3 with fail
 clear c0 c1 c2 c3 c4 c5 c6
 have f1:=g1.later (below1 (w1.alloc (.cells #[.int .i64 bk,.int .i64 bn,.string bz,.string nm,.slice (some ⟨M1,0,none⟩) ls.length ls.length] 42)) (.cells (MA body.length) 42))
 have f2:=g2.later (below1 (w1.alloc (.cells #[.int .i64 bk,.int .i64 bn,.string bz,.string nm,.slice (some ⟨M1,0,none⟩) ls.length ls.length] 42)) (.cells (MA body.length) 42))
 have f3:=g3.later (below1 (w1.alloc (.cells #[.int .i64 bk,.int .i64 bn,.string bz,.string nm,.slice (some ⟨M1,0,none⟩) ls.length ls.length] 42)) (.cells (MA body.length) 42))
 have f4:=g4.later (below1 (w1.alloc (.cells #[.int .i64 bk,.int .i64 bn,.string bz,.string nm,.slice (some ⟨M1,0,none⟩) ls.length ls.length] 42)) (.cells (MA body.length) 42))
 have f5:=Bl.step g5 (Bl.of (below1 (w1.alloc (.cells #[.int .i64 bk,.int .i64 bn,.string bz,.string nm,.slice (some ⟨M1,0,none⟩) ls.length ls.length] 42)) (.cells (MA body.length) 42)))
 have f7:=g7.later (below1 (w1.alloc (.cells #[.int .i64 bk,.int .i64 bn,.string bz,.string nm,.slice (some ⟨M1,0,none⟩) ls.length ls.length] 42)) (.cells (MA body.length) 42))
 have f6:=ABlk.start (heap_alloc_new (w1.alloc (.cells #[.int .i64 bk,.int .i64 bn,.string bz,.string nm,.slice (some ⟨M1,0,none⟩) ls.length ls.length] 42)) (.cells (MA body.length) 42))
 rw [show (w1.alloc (.cells #[.int .i64 bk,.int .i64 bn,.string bz,.string nm,.slice (some ⟨M1,0,none⟩) ls.length ls.length] 42)).heap.size = w1.heap.size + 1 by simp] at f6
 obtain ⟨Bh,hBh⟩:∃ B,w1.heap.size = B:=⟨_,rfl⟩
 rw [hBh] at f3 f6 hm1' z1
 have hRS:RN q P st1 w ((w1.alloc (.cells #[.int .i64 bk,.int .i64 bn,.string bz,.string nm,.slice (some ⟨M1,0,none⟩) ls.length ls.length] 42)).alloc (.cells (MA body.length) 42)) #[.int .i64 k,.int .i64 m,.string s,.string nm,.slice a hn cap,.slice a' body.length cap',.slice a'' tests.length cap''] ls.length body.length ⟨bk,bn,bz⟩ nm L1 M1 Bh (Bh + 1) []:=
  ⟨f1,f2,f3,f6,⟨f4,fun e=>by have:M1 = Bh + 1:=Option.some.inj e;omega⟩,fun x hx=>by simp at hx,f5,by omega,by omega,by omega,by omega,f7,hq,hPw⟩
 obtain ⟨c0,c1,c2,c3,c4,c5,c6⟩:=cseven f1
 simp only at c0 c1 c2 c3 c4 c5 c6
 have HRS0:Hid (RN q P st1 w ((w1.alloc (.cells #[.int .i64 bk,.int .i64 bn,.string bz,.string nm,.slice (some ⟨M1,0,none⟩) ls.length ls.length] 42)).alloc (.cells (MA body.length) 42)) #[.int .i64 k,.int .i64 m,.string s,.string nm,.slice a hn cap,.slice a' body.length cap',.slice a'' tests.length cap''] ls.length body.length ⟨bk,bn,bz⟩ nm L1 M1 Bh (Bh + 1) []):=hRS
 clear f1 f2 f3 f4 f5 f6 f7 g1 g2 g3 g4 g5 g7 hbx ht1 hRS hb1 hb2 hn1
 go_wp2
 revert HRS0 c0 c1 c2 c3 c4 c5 c6
 rw [hBh]
 generalize (w1.alloc (.cells #[.int .i64 bk,.int .i64 bn,.string bz,.string nm,.slice (some ⟨M1,0,none⟩) ls.length ls.length] 42)).alloc (.cells (MA body.length) 42) = X1
 intro c0 c1 c2 c3 c4 c5 c6 HRS0
 clear c0 c1 c2 c3 c4 c5 c6 hBh
 go_loopg [23] body.length (fun g i wr=>∃ (j:Nat) (l:List (At × Value)),j + g = body.length /\ i = .int .i64 (j:Int) /\ l.length = j /\ fsts l = (mapS atN atS st1 (fsts body)).take j /\ RN q P (foldS atS st1 ((fsts body).take j)) w wr #[.int .i64 k,.int .i64 m,.string s,.string nm,.slice a hn cap,.slice a' body.length cap',.slice a'' tests.length cap''] ls.length body.length ⟨bk,bn,bz⟩ nm L1 M1 Bh (Bh + 1) l)
 case atStart=>exact ⟨0,[],by omega,rfl,rfl,rfl,HRS0.out⟩
 case round=>
  obtain ⟨j,l,hj,rfl,hlj,hfl,hrs⟩:=hrel
  obtain ⟨sj,hsj⟩:∃ s,foldS atS st1 ((fsts body).take j) = s:=⟨_,rfl⟩
  rw [hsj] at hrs
  have HSJ:Hid (foldS atS st1 ((fsts body).take j) = sj):=hsj
  clear hsj
  have HR:Hid (RN q P sj w wr #[.int .i64 k,.int .i64 m,.string s,.string nm,.slice a hn cap,.slice a' body.length cap',.slice a'' tests.length cap''] ls.length body.length ⟨bk,bn,bz⟩ nm L1 M1 Bh (Bh + 1) l):=hrs
  have HFL:Hid (fsts l = (mapS atN atS st1 (fsts body)).take j):=hfl
  have HO1:=hrs.o1
  have HM2:=hrs.m2
  clear hfl HRS0
  cases gk with
  | succ g=>
   have hlt:j < body.length:=by omega
   have i0:(0:Int) <= (j:Int):=by omega
   have i1:(j:Int) < (body.length:Int):=by omega
   obtain ⟨x,hx⟩:∃ x,body[j]? = some x:=⟨_,List.getElem?_eq_getElem hlt⟩
   have hcl4:=HL4.out x (List.mem_of_getElem? hx)
   obtain ⟨a1,cap1,hv, -,hm,hts⟩:=(HOK.out.bl HNM.out hrs.bw).b
   simp only [Value.slice.injEq,true_and] at hv
   obtain ⟨rfl,rfl⟩:=hv
   rcases hm with hm | ⟨b,o,rfl,hm⟩
   ·simp only at hm;rw [hm] at hlt;simp at hlt
   obtain ⟨e0,e1,e2,e3,e4⟩:=hm.2 j x hx
   have tsx:=hts x (List.mem_of_getElem? hx)
   have hK:=repIn_normal sj P q x.1 x.2 (wr.alloc (.cells #[.int .i64 x.1.by_.k,.int .i64 x.1.by_.n,.string x.1.by_.s,.string x.1.name,x.2] 42)) (hrs.n.later (below1 _ _)) (HW2.out x (List.mem_of_getElem? hx)) (by have:=totA_mem st1 (fsts_get hx);rw [HSJ.out] at this;omega) (tsx.later (below1 _ _))
   have zY:(wr.alloc (.cells #[.int .i64 x.1.by_.k,.int .i64 x.1.by_.n,.string x.1.by_.s,.string x.1.name,x.2] 42)).heap.size = wr.heap.size + 1:=by simp
   have hzm:=hrs.a.lt
   have HX:Hid (body[j]? = some x):=hx
   obtain ⟨ax,cx,hax, -⟩:=tsx
   clear hm hts hx hrs hcl4
   obtain ⟨⟨⟨kx,mx,sx⟩,nx,lx⟩,vx⟩:=x
   simp only at e0 e1 e2 e3 e4 hax hK zY
   subst hax
   obtain ⟨⟨ck,cn,cz⟩,hck⟩:∃ b,nsT sj ⟨kx,mx,sx⟩ = b:=⟨_,rfl⟩
   obtain ⟨LX,hLX⟩:∃ L,nsL (nst sj ⟨kx,mx,sx⟩) lx = L:=⟨_,rfl⟩
   obtain ⟨sy,hsy⟩:∃ L,stL (nst sj ⟨kx,mx,sx⟩) lx = L:=⟨_,rfl⟩
   have HLX:Hid (nsL (nst sj ⟨kx,mx,sx⟩) lx = LX):=hLX
   have HF:Hid (foldS atS st1 ((fsts body).take (j + 1)) = sy):=by show _ = sy;rw [foldS_take (fsts_get HX.out),HSJ.out];exact hsy
   rw [hck,hLX,hsy] at hK
   clear hLX hsy
   have HCX:Hid (nsT sj ⟨kx,mx,sx⟩ = ⟨ck,cn,cz⟩):=hck
   clear hck
   go_wp2_with (go_at_call 208;refine hK.mono ?_;clear hK;rintro e w2 ⟨M,rfl,ht,hm,hm',hn2,hb⟩;rw [zY] at hm;have HR2:Hid (RN q P sy w w2 #[.int .i64 k,.int .i64 m,.string s,.string nm,.slice a hn cap,.slice (some ⟨b,o,none⟩) body.length cap',.slice a'' tests.length cap''] ls.length body.length ⟨bk,bn,bz⟩ nm L1 M1 Bh (Bh + 1) l):=(HR.out.later (below1 _ _)).bl hb hn2;have hcl:=fun i (hi:i < 5)=>HR2.out.a.cells (j:=j * 5 + i) (by show j * 5 + i < body.length * 5;omega);obtain ⟨⟨dd0,ue0⟩,ve0⟩:=hcl 0 (by omega);obtain ⟨⟨dd1,ue1⟩,ve1⟩:=hcl 1 (by omega);obtain ⟨⟨dd2,ue2⟩,ve2⟩:=hcl 2 (by omega);obtain ⟨⟨dd3,ue3⟩,ve3⟩:=hcl 3 (by omega);obtain ⟨⟨dd4,ue4⟩,ve4⟩:=hcl 4 (by omega);have uz0:w2.cell? ⟨Bh + 1,j * 5,none⟩ = some dd0:=ue0;have vz0:w2.frozen? ⟨Bh + 1,j * 5,none⟩ = false:=ve0;clear hcl ue0 ve0;have hput:=HR2.out.put (by rw [hlj];exact hlt) (At.mk ⟨ck,cn,cz⟩ nx LX,.slice (some ⟨M,0,none⟩) lx.length lx.length) ⟨ht,fun e=>by have:M = Bh + 1:=Option.some.inj e;omega⟩ (fun q e=>by have:M = q:=Option.some.inj e;constructor <;> omega);rw [hlj] at hput;have HP:Hid (RN q P sy w (Aput w2 (Bh + 1) j (At.mk ⟨ck,cn,cz⟩ nx LX,.slice (some ⟨M,0,none⟩) lx.length lx.length)) #[.int .i64 k,.int .i64 m,.string s,.string nm,.slice a hn cap,.slice (some ⟨b,o,none⟩) body.length cap',.slice a'' tests.length cap''] ls.length body.length ⟨bk,bn,bz⟩ nm L1 M1 Bh (Bh + 1) (l ++ [(At.mk ⟨ck,cn,cz⟩ nx LX,.slice (some ⟨M,0,none⟩) lx.length lx.length)])):=hput;clear hput ht hb hn2)
   go_roundg g
   case measure=>omega
   case rel=>exact ⟨j + 1,l ++ [(At.mk ⟨ck,cn,cz⟩ nx LX,.slice (some ⟨M,0,none⟩) lx.length lx.length)],by omega,by go_num,by rw [List.length_append,hlj];rfl,by rw [fsts_app,HFL.out,take_next (l:=mapS atN atS st1 (fsts body)) (mapS_at (fsts_get HX.out)),HSJ.out];simp only [atN,HCX.out,HLX.out];rfl,by rw [HF.out];exact HP.out⟩
  | zero=>
   obtain rfl:j = body.length:=by omega
   have hz:¬ ((body.length:Int) < (body.length:Int)):=by omega
   obtain ⟨c0,c1,c2,c3,c4,c5,c6⟩:=cseven hrs.bc
   have hfl:fsts l = mapS atN atS st1 (fsts body):=by have:=HFL.out;rw [List.take_of_length_le (by rw [mapS_len];simp [fsts])] at this;exact this
   have HS2:Hid (foldS atS st1 (fsts body) = sj):=by have:=HSJ.out;rw [List.take_of_length_le (by simp [fsts])] at this;exact this
   have hsjl:sj.length <= st1.length + totA (fsts body):=by have:=foldA_len (fsts body) st1 body.length;rw [HSJ.out] at this;exact this
   have hzm:=hrs.a.lt
   have hzc:=hrs.bc.lt
   have hb3:=below1 wr (.cells (ME tests.length) 85)
   have hQS:QN q P sj w (wr.alloc (.cells (ME tests.length) 85)) #[.int .i64 k,.int .i64 m,.string s,.string nm,.slice a hn cap,.slice a' body.length cap',.slice a'' tests.length cap''] ls.length body.length tests.length ⟨bk,bn,bz⟩ nm L1 M1 Bh (Bh + 1) l wr.heap.size []:=
    ⟨hrs.bc.later hb3,hrs.br.later hb3,hrs.bh.later hb3,hrs.a.later hb3,⟨hrs.t1.1.later hb3,fun e=>by have:M1 = wr.heap.size:=Option.some.inj e;omega⟩,by omega,
     fun x hx=>⟨⟨(hrs.ts x hx).1.1.later hb3,fun e=>by have:=(hrs.ts x hx).2 _ e;omega⟩,(hrs.ts x hx).1.2,fun b e=>((hrs.ts x hx).2 b e).2⟩,EBlk.start (heap_alloc_new wr _),Bl.step hrs.bw (Bl.of hb3),hrs.o1,by omega,by omega,hrs.m1,hrs.n.later hb3,hq,hPw⟩
   have HQ0:Hid (QN q P sj w (wr.alloc (.cells (ME tests.length) 85)) #[.int .i64 k,.int .i64 m,.string s,.string nm,.slice a hn cap,.slice a' body.length cap',.slice a'' tests.length cap''] ls.length body.length tests.length ⟨bk,bn,bz⟩ nm L1 M1 Bh (Bh + 1) l wr.heap.size []):=hQS
   have HFB:Hid (fsts l = mapS atN atS st1 (fsts body)):=hfl
   have HLJ:Hid (l.length = body.length):=hlj
   clear hQS hrs HFL hfl hlj
   go_wp2
   clear c0 c1 c2 c3 c4 c5 c6
   obtain ⟨M3,hM3⟩:∃ M,wr.heap.size = M:=⟨_,rfl⟩
   revert HQ0
   rw [hM3]
   generalize wr.alloc (.cells (ME tests.length) 85) = X2
   intro HQ0
   have hM31:=HQ0.out.o3
   clear hM3 hzm hzc
   go_loopg [42] tests.length (fun g i wr=>∃ (j:Nat) (lt:List Te),j + g = tests.length /\ i = .int .i64 (j:Int) /\ lt.length = j /\ lt = (mapS teN teS sj tests).take j /\ QN q P (foldS teS sj (tests.take j)) w wr #[.int .i64 k,.int .i64 m,.string s,.string nm,.slice a hn cap,.slice a' body.length cap',.slice a'' tests.length cap''] ls.length body.length tests.length ⟨bk,bn,bz⟩ nm L1 M1 Bh (Bh + 1) l M3 lt)
   case atStart=>exact ⟨0,[],by omega,rfl,rfl,rfl,HQ0.out⟩
   case round=>
    obtain ⟨j,lt,hj,rfl,hlj,hfl,hqs⟩:=hrel
    obtain ⟨sk,hsk⟩:∃ s,foldS teS sj (tests.take j) = s:=⟨_,rfl⟩
    have hskl:sk.length <= sj.length + 2 * j:=by rw [<- hsk];exact foldE_len tests sj j
    rw [hsk] at hqs
    have HSK:Hid (foldS teS sj (tests.take j) = sk):=hsk
    clear hsk
    have HQ:Hid (QN q P sk w wr #[.int .i64 k,.int .i64 m,.string s,.string nm,.slice a hn cap,.slice a' body.length cap',.slice a'' tests.length cap''] ls.length body.length tests.length ⟨bk,bn,bz⟩ nm L1 M1 Bh (Bh + 1) l M3 lt):=hqs
    have HL:Hid (lt = (mapS teN teS sj tests).take j):=hfl
    clear hfl HQ0
    cases gk with
    | succ g=>
     have hlt:j < tests.length:=by omega
     have i0:(0:Int) <= (j:Int):=by omega
     have i1:(j:Int) < (tests.length:Int):=by omega
     obtain ⟨x,hx⟩:∃ x,tests[j]? = some x:=⟨_,List.getElem?_eq_getElem hlt⟩
     obtain ⟨a1,cap1,hv, -,hm⟩:=(HOK.out.bl HNM.out hqs.bw).t
     simp only [Value.slice.injEq,true_and] at hv
     obtain ⟨rfl,rfl⟩:=hv
     rcases hm with hm | ⟨b,o,rfl,hm⟩
     ·simp only at hm;rw [hm] at hlt;simp at hlt
     obtain ⟨e0,e1,e2,e3,e4,e5,e6⟩:=hm.2 j x hx
     have HT:Hid (tests[j]? = some x):=hx
     have hM3lt:=hqs.e.lt
     clear hm hx hqs
     obtain ⟨op,⟨kl,ml,sl⟩,⟨kr,mr,sr⟩⟩:=x
     simp only at e0 e1 e2 e3 e4 e5 e6
     obtain ⟨⟨pk,pn,pz⟩,hpl⟩:∃ b,nsT sk ⟨kl,ml,sl⟩ = b:=⟨_,rfl⟩
     obtain ⟨s2,hs2⟩:∃ b,nst sk ⟨kl,ml,sl⟩ = b:=⟨_,rfl⟩
     obtain ⟨⟨rk,rn,rz⟩,hpr⟩:∃ b,nsT s2 ⟨kr,mr,sr⟩ = b:=⟨_,rfl⟩
     obtain ⟨s3,hs3⟩:∃ b,nst s2 ⟨kr,mr,sr⟩ = b:=⟨_,rfl⟩
     have hs2l:s2.length <= sk.length + 1:=by rw [<- hs2];exact nst_len _ _
     have HPL:Hid (nsT sk ⟨kl,ml,sl⟩ = ⟨pk,pn,pz⟩):=hpl
     have HPR:Hid (nsT s2 ⟨kr,mr,sr⟩ = ⟨rk,rn,rz⟩):=hpr
     have HQ2:Hid (nst sk ⟨kl,ml,sl⟩ = s2):=hs2
     have HQ3:Hid (nst s2 ⟨kr,mr,sr⟩ = s3):=hs3
     have HF:Hid (foldS teS sj (tests.take (j + 1)) = s3):=by show _ = s3;rw [foldS_take HT.out,HSK.out];show nst (nst sk ⟨kl,ml,sl⟩) ⟨kr,mr,sr⟩ = s3;rw [hs2,hs3]
     clear hs2 hs3
     clear hpl hpr
     go_upto_region 12 with fail
     clear e0 e1 e2 e3 e4 e5 e6
     have hBx:=CBlk.new wr #[.int .i64 op,.int .i64 kl,.int .i64 ml,.string sl,.int .i64 kr,.int .i64 mr,.string sr] 85
     have HSY:Hid (QN q P sk w (wr.alloc (.cells #[.int .i64 op,.int .i64 kl,.int .i64 ml,.string sl,.int .i64 kr,.int .i64 mr,.string sr] 85)) #[.int .i64 k,.int .i64 m,.string s,.string nm,.slice a hn cap,.slice a' body.length cap',.slice (some ⟨b,o,none⟩) tests.length cap''] ls.length body.length tests.length ⟨bk,bn,bz⟩ nm L1 M1 Bh (Bh + 1) l M3 lt):=HQ.out.later (below1 _ _)
     obtain ⟨Bx,hBxe⟩:∃ B,wr.heap.size = B:=⟨_,rfl⟩
     revert hBx HSY
     rw [hBxe] at hM3lt ⊢
     generalize wr.alloc (.cells #[.int .i64 op,.int .i64 kl,.int .i64 ml,.string sl,.int .i64 kr,.int .i64 mr,.string sr] 85) = Y
     intro hBx HSY
     clear hBxe
     refine wp_region_held_drew (S:=fun w'=>CBlk w' Bx #[.int .i64 op,.int .i64 kl,.int .i64 ml,.string sl,.int .i64 kr,.int .i64 mr,.string sr] 85) (by kernel_rfl) hBx (fun hH=>?_)
     have HSV0:Hid (QN q P sk w Y.drew #[.int .i64 k,.int .i64 m,.string s,.string nm,.slice a hn cap,.slice a' body.length cap',.slice (some ⟨b,o,none⟩) tests.length cap''] ls.length body.length tests.length ⟨bk,bn,bz⟩ nm L1 M1 Bh (Bh + 1) l M3 lt):=HSY.out.later (Below.refl _ _).drew
     revert hH HSV0
     generalize Y.drew = V0
     intro hH HSV0
     clear HSY hBx
     refine wTl 0 (.slice (some ⟨M3,0,none⟩) tests.length tests.length) rfl (by kernel_rfl) (fun _ _ _ h=>h) rfl (fun w' h=>by clear h;go_simp) hH ?_
     simp only [wA,wB,wC,wD]
     refine wTl 1 (.int .i64 (j:Int)) rfl (by kernel_rfl) (fun _ _ _ h=>h) rfl (fun w' h=>by clear h;go_simp) hH ?_
     simp only [wA,wB,wC,wD]
     refine wTl 2 (.pointer (some ⟨Bx,0,none⟩)) rfl (by kernel_rfl) (fun _ _ _ h=>h) rfl (fun w' h=>by clear h;go_simp) hH ?_
     simp only [wA,wB,wC,wD]
     refine wTl 3 (.int .i64 op) rfl (by kernel_rfl) (fun _ _ _ h=>h) rfl (fun w' h=>by obtain ⟨a0,a1,a2,a3,a4,a5,a6⟩:=cseven h;clear h;go_simp) hH ?_
     simp only [wA,wB,wC,wD]
     refine wTl 4 ((.func (.func 191) #[] #[.pointer (some ⟨P,0,none⟩)])) rfl (by kernel_rfl) (fun _ _ _ h=>h) rfl (fun w' h=>by clear h;go_simp) hH ?_
     simp only [wA,wB,wC,wD]
     refine wTl 5 (.pointer (some ⟨Bx,1,none⟩)) rfl (by kernel_rfl) (fun _ _ _ h=>h) rfl (fun w' h=>by clear h;go_simp) hH ?_
     simp only [wA,wB,wC,wD]
     refine wTl 6 (Tm.v ⟨kl,ml,sl⟩) rfl (by kernel_rfl) (fun _ _ _ h=>h) rfl (fun w' h=>by obtain ⟨a0,a1,a2,a3,a4,a5,a6⟩:=cseven h;clear h;go_simp) hH ?_
     simp only [wA,wB,wC,wD]
     refine wTl 8 ((.func (.func 191) #[] #[.pointer (some ⟨P,0,none⟩)])) rfl (by kernel_rfl) (fun _ _ _ h=>h) rfl (fun w' h=>by clear h;go_simp) hH ?_
     simp only [wA,wB,wC,wD]
     refine wTl 9 (.pointer (some ⟨Bx,4,none⟩)) rfl (by kernel_rfl) (fun _ _ _ h=>h) rfl (fun w' h=>by clear h;go_simp) hH ?_
     simp only [wA,wB,wC,wD]
     refine wTl 10 (Tm.v ⟨kr,mr,sr⟩) rfl (by kernel_rfl) (fun _ _ _ h=>h) rfl (fun w' h=>by obtain ⟨a0,a1,a2,a3,a4,a5,a6⟩:=cseven h;clear h;go_simp) hH ?_
     simp only [wA,wB,wC,wD]
     refine wRd 7 (by kernel_rfl) rfl (fun K hK=>?_)
     go_simp
     refine (normal1_any sk P q ⟨kl,ml,sl⟩ _ HSV0.out.n (HW3.out _ (List.mem_of_getElem? HT.out)).1 (by omega)).mono ?_
     rw [HPL.out,HQ2.out]
     rintro x1 V1 ⟨rfl,hnv,hg⟩
     have hb:=Bl.grown hg
     have HSV1:Hid (QN _ _ s2 _ V1 _ _ _ _ _ _ _ _ _ _ _ _ _):=HSV0.out.bl hb hnv
     refine hK.out _ _ (CBlk.bl hH hb (by omega)) (fun hH=>?_)
     clear hK K hb hg hnv
     refine wRd 11 (by kernel_rfl) rfl (fun K hK=>?_)
     go_simp
     refine (normal1_any s2 P q ⟨kr,mr,sr⟩ _ HSV1.out.n (HW3.out _ (List.mem_of_getElem? HT.out)).2 (by omega)).mono ?_
     rw [HPR.out,HQ3.out]
     rintro x1 V2 ⟨rfl,hnv,hg⟩
     have hb:=Bl.grown hg
     have HSV2:Hid (QN _ _ s3 _ V2 _ _ _ _ _ _ _ _ _ _ _ _ _):=HSV1.out.bl hb hnv
     refine hK.out _ _ (CBlk.bl hH hb (by omega)) (fun hH=>?_)
     clear hK K hb hg hnv
     refine wTl 12 (.agg #[.int .i64 op,.int .i64 pk,.int .i64 pn,.string pz,.int .i64 rk,.int .i64 rn,.string rz]) rfl (by kernel_rfl) (fun _ _ _ h=>h) rfl (fun w' h=>by clear h;go_simp) hH ?_
     simp only [wA,wB,wC,wD]
     refine wTl 13 (.pointer (some ⟨M3,j * 7,none⟩)) rfl (by kernel_rfl) (fun _ _ _ h=>h) rfl (fun w' h=>by clear h;go_simp) hH ?_
     simp only [wA,wB,wC,wD]
     have hcl:=fun i (hi:i < 7)=>HSV2.out.e.cells (j:=j * 7 + i) (by show j * 7 + i < tests.length * 7;omega)
     obtain ⟨⟨d0,e0⟩,f0⟩:=hcl 0 (by omega)
     obtain ⟨⟨d1,e1⟩,f1⟩:=hcl 1 (by omega)
     obtain ⟨⟨d2,e2⟩,f2⟩:=hcl 2 (by omega)
     obtain ⟨⟨d3,e3⟩,f3⟩:=hcl 3 (by omega)
     obtain ⟨⟨d4,e4⟩,f4⟩:=hcl 4 (by omega)
     obtain ⟨⟨d5,e5⟩,f5⟩:=hcl 5 (by omega)
     obtain ⟨⟨d6,e6⟩,f6⟩:=hcl 6 (by omega)
     have ez0:V2.cell? ⟨M3,j * 7,none⟩ = some d0:=e0
     have fz0:V2.frozen? ⟨M3,j * 7,none⟩ = false:=f0
     clear hcl e0 f0
     refine wRd 14 (by kernel_rfl) rfl (fun K hK=>?_)
     go_simp
     clear ez0 fz0 e1 f1 e2 f2 e3 f3 e4 f4 e5 f5 e6 f6
     have hput:=HSV2.out.put (by rw [hlj];exact hlt) (Te.mk op ⟨pk,pn,pz⟩ ⟨rk,rn,rz⟩)
     rw [hlj] at hput
     have HP:Hid (QN q P s3 w (Eput V2 M3 j (Te.mk op ⟨pk,pn,pz⟩ ⟨rk,rn,rz⟩)) #[.int .i64 k,.int .i64 m,.string s,.string nm,.slice a hn cap,.slice a' body.length cap',.slice (some ⟨b,o,none⟩) tests.length cap''] ls.length body.length tests.length ⟨bk,bn,bz⟩ nm L1 M1 Bh (Bh + 1) l M3 (lt ++ [Te.mk op ⟨pk,pn,pz⟩ ⟨rk,rn,rz⟩])):=hput
     clear hput
     refine hK.out _ _ (((((((CBlk.off hH (by omega)).off (by omega)).off (by omega)).off (by omega)).off (by omega)).off (by omega)).off (by omega)) (fun hH=>?_)
     clear hK K
     refine wpAnyH_done (by kernel_rfl) ?_ _
     clear hH
     go_wp2
     go_roundg g
     case measure=>omega
     case rel=>exact ⟨j + 1,lt ++ [Te.mk op ⟨pk,pn,pz⟩ ⟨rk,rn,rz⟩],by omega,by go_num,by rw [List.length_append,hlj];rfl,by rw [HL.out,take_next (l:=mapS teN teS sj tests) (mapS_at HT.out),HSK.out];simp only [teN,HPL.out,HQ2.out,HPR.out],by rw [HF.out];exact HP.out⟩
    | zero=>
     obtain rfl:j = tests.length:=by omega
     have hz:¬ ((tests.length:Int) < (tests.length:Int)):=by omega
     have hlt':lt = mapS teN teS sj tests:=by have:=HL.out;rw [List.take_of_length_le (by rw [mapS_len];exact Nat.le_refl _)] at this;exact this
     subst hlt'
     obtain ⟨⟨q0,q1,q2,q3,q4⟩, -⟩:=fiveF hqs.bh
     obtain ⟨r0,r1,r2,r3,r4,r5,r6⟩:=cseven hqs.br
     have hfr:∀ i,wr.frozen? ⟨w.heap.size + 1,i,none⟩ = false:=fun i=>frozen_of_row _ _ _ _ _ hqs.br
     have s0:=hfr 0
     have s1:=hfr 1
     have s2:=hfr 2
     have s3:=hfr 3
     have s4:=hfr 4
     have s5:=hfr 5
     have s6:=hfr 6
     simp only at q0 q1 q2 q3 q4 r0 r1 r2 r3 r4 r5 r6
     clear hfr hqs
     go_wp2
     have hQ:=HQ.out
     have o1:=hQ.o1
     have o2:=hQ.o2
     have o3:=hQ.o3
     have m1:=hQ.m1
     have n3:M3 ≠ w.heap.size + 1:=by omega
     have n2:Bh + 1 ≠ w.heap.size + 1:=by omega
     have nw:w.heap.size <= w.heap.size + 1:=by omega
     have hrp:RJ (w.heap.size + 2) wr ls.length body.length tests.length L1 (mapS atN atS st1 (fsts body)) (mapS teN teS sj tests) M1 (Bh + 1) M3 l:=
      ⟨HFB.out,hQ.a,hQ.t1.1,hQ.t2,fun x hx=>⟨⟨(hQ.ts x hx).1.1,(hQ.ts x hx).2.1⟩,(hQ.ts x hx).2.2⟩,hQ.e,hQ.m1,by omega,o3⟩
     have ng:w.heap.size + 1 < w.heap.size + 2:=by omega
     have n6:P ≠ w.heap.size + 1:=by omega
     have n7:q ≠ w.heap.size + 1:=by omega
     refine bodyPost_ret (v:=Cm.v ⟨(⟨⟨bk,bn,bz⟩,nm,L1⟩,.slice (some ⟨M1,0,none⟩) ls.length ls.length),l,.slice (some ⟨Bh + 1,0,none⟩) body.length body.length,mapS teN teS sj tests,.slice (some ⟨M3,0,none⟩) tests.length tests.length⟩) (by simp [results,Tryz.results190,go_sem,Cm.v,r0,r1,r2,r3,r4,r5,r6]) rfl
      ⟨M1,Bh + 1,M3,l,by simp only [Cm.cpN,atN,HBK.out], ?_, ?_,((((((hQ.bw.setCell nw _).setCell nw _).setCell nw _).setCell nw _).setCell nw _).setCell nw _).setCell nw _⟩
     ·have e1:atS vs ⟨⟨k,m,s⟩,nm,ls⟩ = st1:=HS1.out
      show RJ _ _ _ _ _ (nsL (nst vs ⟨k,m,s⟩) ls) (mapS atN atS (atS vs ⟨⟨k,m,s⟩,nm,ls⟩) (fsts body)) (mapS teN teS (foldS atS (atS vs ⟨⟨k,m,s⟩,nm,ls⟩) (fsts body)) tests) _ _ _ _
      rw [e1,HS2.out,HL1.out]
      exact (((((((hrp.off ng).off ng).off ng).off ng).off ng).off ng).off ng).mono (by omega)
     ·have e1:atS vs ⟨⟨k,m,s⟩,nm,ls⟩ = st1:=HS1.out
      have e3:foldS teS sj tests = sk:=by have:=HSK.out;rw [List.take_length] at this;exact this
      show NM _ P q (foldS teS (foldS atS (atS vs ⟨⟨k,m,s⟩,nm,ls⟩) (fsts body)) tests)
      rw [e1,HS2.out,e3]
      exact ((((((hQ.n.off n6 n7).off n6 n7).off n6 n7).off n6 n7).off n6 n7).off n6 n7).off n6 n7
end Go.Proofs.YtcpjiahdaplhlaaGreatDoor

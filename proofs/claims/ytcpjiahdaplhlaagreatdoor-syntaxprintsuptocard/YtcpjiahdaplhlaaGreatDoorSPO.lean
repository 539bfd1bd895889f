import Derived.Test.YtcpjiahdaplhlaaGreatDoorJ1
import Derived.Test.YtcpjiahdaplhlaaGreatDoorKR1
import Derived.Test.YtcpjiahdaplhlaaGreatDoorSP8
namespace Go.Proofs.YtcpjiahdaplhlaaGreatDoor
open Go.ChangeShapes Go.WideShapes Go.ChangeAt Go.RowKit Go.Joins Go.Deep
def SzT (t:Tm):Prop:=t.s.size <= maxLen /\ (Lit.int .i64 t.n).wf = true
structure COpen (W:World) (c:Cm):Prop where
 ok:c.ok W
 hh:TsP W c.head.2 c.head.1.args
 hp:∀ x ∈ c.body,TsP W x.2 x.1.args
 bp:AsP W c.bv c.body
 ht:EsP W c.tv c.tests
 wf:∀ t ∈ Ck.terms c.key,(Lit.int .i64 t.n).wf = true
theorem term_of_cellsZ {H:Type} {enc:TypeId × Value -> H} {W:World} {base:Nat} {spare:Nat -> Bool} {held:Bool} {fuel:Nat} {cs:List Value} {x:DataW H × List MemPlace}
  (h:DataW.trod enc Tryz.prog W base spare held fuel 39 cs = some x) (hl:cs.length = 3):∃ t:Tm,cs = [.int .i64 t.k,.int .i64 t.n,.string t.s] /\ SzT t:=by
 obtain ⟨c0,c1,c2,rfl⟩:=list3 hl
 obtain ⟨y0,y1,y2,n, -, -,h0,h1,h2⟩:=trod_struct3 Tryz.underlying39 h
 rw [Tryz.cellsInt] at h0 h1
 rw [Tryz.cellsString] at h2
 obtain ⟨k,e0, -, -⟩:=DataW.trod_int Tryz.underlying3 h0
 obtain ⟨m,e1, -,hmw⟩:=DataW.trod_int Tryz.underlying3 h1
 obtain ⟨s,e2, -,hwf⟩:=DataW.trod_string Tryz.underlying9 h2
 simp at e0 e1 e2
 subst e0 e1 e2
 exact ⟨⟨k,m,s⟩,rfl,hwf,hmw⟩
theorem test_of_cellsZ {H:Type} {enc:TypeId × Value -> H} {W:World} {base:Nat} {spare:Nat -> Bool} {held:Bool} {fuel:Nat} {cs:List Value} {x:DataW H × List MemPlace}
  (hf:DataW.trod enc Tryz.prog W base spare held fuel 85 cs = some x) (hl:cs.length = 7):∃ t:Te,cs = [.int .i64 t.op,.int .i64 t.l.k,.int .i64 t.l.n,.string t.l.s,.int .i64 t.r.k,.int .i64 t.r.n,.string t.r.s] /\ 2 <= Rows.uptoBulk x.1 /\ SzT t.l /\ SzT t.r:=by
 obtain ⟨c0,c1,c2,c3,c4,c5,c6,rfl⟩:=clist7 hl
 obtain ⟨y0,y1,y2,n,hd, -,h0,h1,h2⟩:=trod_struct3 Tryz.underlying85 hf
 rw [Tryz.cellsInt] at h0
 rw [Tryz.cellsTerm] at h1 h2
 obtain ⟨k,e0, -, -⟩:=DataW.trod_int Tryz.underlying3 h0
 obtain ⟨t,e1,w1⟩:=term_of_cellsZ h1 (by simp)
 obtain ⟨u,e2,w2⟩:=term_of_cellsZ h2 (by simp)
 simp at e0 e1 e2
 subst e0
 obtain ⟨rfl,rfl,rfl⟩:=e1
 obtain ⟨rfl,rfl,rfl⟩:=e2
 refine ⟨⟨k,t,u⟩,rfl, ?_,w1,w2⟩
 rw [hd]
 have:=bulkN_pos y1.1
 have:=bulkN_pos y2.1
 simp only [Rows.uptoBulk,Rows.uptoBulkAll]
 omega
set_option maxRecDepth 100000 in
theorem open_termsZ {H:Type} {enc:TypeId × Value -> H} {W:World} {base:Nat} {spare:Nat -> Bool} {held:Bool} {fuel:Nat} {cs:List Value} {x:DataW H × List MemPlace}
  (h:DataW.trod enc Tryz.prog W base spare held fuel 40 cs = some x) (hw:∀ n ∈ x.1.weights Tryz.prog 40,n <= reachBytes):∃ v l,cs = [v] /\ (Ts W v l /\ TsP W v l) /\ l.length <= Rows.uptoBulk x.1 /\ ∀ t ∈ l,SzT t:=by
 rcases open_slice Tryz.underlying40 h with ⟨rfl, -⟩ | ⟨a,len,cap,m,n,D,Pl,rfl,hba,hlc,hcm,hm,hx,hel⟩
 ·exact ⟨_,[],rfl,⟨⟨none,0,rfl,by simp,Or.inl rfl⟩,Or.inl ⟨rfl,rfl⟩⟩,by simp,fun t ht=>by cases ht⟩
 ·have hlen:len < 1000000000000000000:=by
   have:=hw ((((List.range len).map D).length + ((List.range (m - len)).map fun j=>D (len + j)).length) * Tryz.prog.bytesOf 39) (by rw [hx];simp [DataW.weights,Tryz.underlying40])
   rw [Tryz.bytesTerm] at this
   simp only [List.length_map,List.length_range,reachBytes] at this
   omega
  rw [Tryz.cellsTerm] at hel
  have hlm:len <= m:=by rw [hm];split <;> omega
  have key:∀ i:Nat,∃ t:Tm,i < len -> SzT t /\ W.cell? (a.add (i * 3)) = some (.int .i64 t.k) /\ W.cell? ((a.add (i * 3)).add 1) = some (.int .i64 t.n) /\ W.cell? ((a.add (i * 3)).add 2) = some (.string t.s):=fun i=>by
   by_cases hi:i < len
   ·obtain ⟨cs',h1,h2⟩:=hel i (by omega)
    obtain ⟨-,hl,hc⟩:=World.cells?_some h1
    obtain ⟨t,rfl,hwf⟩:=term_of_cellsZ h2 hl
    exact ⟨t,fun _=>⟨hwf,hc 0 (by omega),hc 1 (by omega),hc 2 (by omega)⟩⟩
   ·exact ⟨zt,fun h=>absurd h hi⟩
  obtain ⟨f,hf⟩:=Classical.axiomOfChoice key
  have hgo:(List.range len).map f = [] ∨ ∃ b o,a = ⟨b,o,none⟩ /\ TRow W b o ((List.range len).map f):=by
   rcases Nat.eq_zero_or_pos len with h0 | h0
   ·left;subst h0;rfl
   ·right
    obtain ⟨b,off,spot⟩:=a
    have hspot:spot = none:=by simpa [Addr.add] using World.cell?_spot (hf 0 h0).2.1
    subst hspot
    refine ⟨b,off,rfl, ?_,fun i t ht=>?_⟩
    ·exact World.block_lt_of_cell? W _ (by have:=(hf 0 h0).2.1;simpa [Addr.add] using this)
    ·have hi:i < len:=by have:=(List.getElem?_eq_some_iff.1 ht).1;simpa using this
     have e:t = f i:=by
      rw [List.getElem?_map,List.getElem?_range hi] at ht;simpa using ht.symm
     subst e
     have:=(hf i hi).2
     rw [add_plain,add_plain,add_plain] at this
     exact this
  refine ⟨_,(List.range len).map f,rfl,⟨⟨some a,cap,by simp,by simpa using hlen, ?_⟩,Or.inr ⟨a,cap,by simp,hgo⟩⟩,by rw [hx];simpa using bulkN_slice ((List.range len).map D) _,fun t ht=>by obtain ⟨i,hi,rfl⟩:=List.mem_map.1 ht;exact (hf i (List.mem_range.1 hi)).1⟩
  rcases hgo with hq | ⟨b,o,rfl,hq⟩
  ·exact Or.inl hq
  ·exact Or.inr ⟨b,o,rfl,hq⟩
set_option maxRecDepth 100000 in
theorem atom_of_cellsZ {H:Type} {enc:TypeId × Value -> H} {W:World} {base:Nat} {spare:Nat -> Bool} {held:Bool} {fuel:Nat} {cs:List Value} {x:DataW H × List MemPlace}
  (hf:DataW.trod enc Tryz.prog W base spare held fuel 42 cs = some x) (hl:cs.length = 5) (hw:∀ n ∈ x.1.weights Tryz.prog 42,n <= reachBytes):∃ a:At × Value,cs = [.int .i64 a.1.by_.k,.int .i64 a.1.by_.n,.string a.1.by_.s,.string a.1.name,a.2] /\ (Ts W a.2 a.1.args /\ TsP W a.2 a.1.args) /\ a.1.pl.length <= Rows.uptoBulk x.1 /\ (∀ t ∈ a.1.pl,SzT t) /\ a.1.name.size <= maxLen:=by
 obtain ⟨c0,c1,c2,c3,c4,rfl⟩:=lst5z hl
 obtain ⟨y0,y1,y2,n,hd, -,h0,h1,h2⟩:=trod_struct3 Tryz.underlying42 hf
 rw [Tryz.cellsTerm] at h0
 rw [Tryz.cellsString] at h1
 rw [Tryz.cellsTerms] at h2
 obtain ⟨t,e0,ht⟩:=term_of_cellsZ h0 (by simp)
 obtain ⟨s,e1, -,hs⟩:=DataW.trod_string Tryz.underlying9 h1
 obtain ⟨v,l,e2,hx,hbk,hwl⟩:=open_termsZ h2 (fun m hm=>by
  refine hw m ?_
  rw [hd,DataW.weights,Tryz.underlying42]
  exact DataW.weights_mem_each (j:=2) rfl rfl m hm)
 simp at e0 e1 e2
 obtain ⟨rfl,rfl,rfl⟩:=e0
 subst e1 e2
 refine ⟨(⟨t,s,l⟩,c4),rfl,hx, ?_,fun u hu=>?_,hs⟩
 ·rw [hd]
  have:=bulkN_pos y0.1
  simp only [Rows.uptoBulk,Rows.uptoBulkAll,At.pl,List.length_cons]
  omega
 ·rcases List.mem_cons.1 hu with rfl | hu
  ·exact ht
  ·exact hwl u hu
set_option maxRecDepth 100000 in
theorem open_atomsZ {H:Type} {enc:TypeId × Value -> H} {W:World} {base:Nat} {spare:Nat -> Bool} {held:Bool} {fuel:Nat} {cs:List Value} {x:DataW H × List MemPlace}
  (h:DataW.trod enc Tryz.prog W base spare held fuel 50 cs = some x) (hw:∀ n ∈ x.1.weights Tryz.prog 50,n <= reachBytes):∃ v l,cs = [v] /\ (As W v l /\ AsP W v l /\ ∀ x ∈ l,TsP W x.2 x.1.args) /\ ((fsts l).flatMap At.pl).length <= Rows.uptoBulk x.1 /\ (∀ t ∈ (fsts l).flatMap At.pl,SzT t) /\ ∀ x ∈ l,x.1.name.size <= maxLen:=by
 rcases open_slice Tryz.underlying50 h with ⟨rfl, -⟩ | ⟨a,len,cap,m,n,D,Pl,rfl,hba,hlc,hcm,hm,hx,hel⟩
 ·exact ⟨_,[],rfl,⟨⟨none,0,rfl,by simp,Or.inl rfl,fun x hx=>by cases hx⟩,Or.inl ⟨rfl,rfl⟩,fun x hx=>by cases hx⟩,by simp [fsts],fun t ht=>by simp [fsts] at ht,fun x hx=>by cases hx⟩
 ·have hlen:len < 1000000000000000000:=by
   have:=hw ((((List.range len).map D).length + ((List.range (m - len)).map fun j=>D (len + j)).length) * Tryz.prog.bytesOf 42) (by rw [hx];simp [DataW.weights,Tryz.underlying50])
   rw [Tryz.bytesAtom] at this
   simp only [List.length_map,List.length_range,reachBytes] at this
   omega
  rw [Tryz.cellsAtom] at hel
  have hlm:len <= m:=by rw [hm];split <;> omega
  have key:∀ i:Nat,∃ t:At × Value,i < len -> (W.cell? (a.add (i * 5)) = some (.int .i64 t.1.by_.k) /\ W.cell? ((a.add (i * 5)).add 1) = some (.int .i64 t.1.by_.n) /\ W.cell? ((a.add (i * 5)).add 2) = some (.string t.1.by_.s) /\ W.cell? ((a.add (i * 5)).add 3) = some (.string t.1.name) /\ W.cell? ((a.add (i * 5)).add 4) = some t.2) /\ (Ts W t.2 t.1.args /\ TsP W t.2 t.1.args) /\ t.1.pl.length <= Rows.uptoBulk (D i) /\ (∀ u ∈ t.1.pl,SzT u) /\ t.1.name.size <= maxLen:=fun i=>by
   by_cases hi:i < len
   ·obtain ⟨cs',h1,h2⟩:=hel i (by omega)
    obtain ⟨-,hl,hc⟩:=World.cells?_some h1
    obtain ⟨t,rfl,hts,hbk,hwf⟩:=atom_of_cellsZ h2 hl (fun n hn=>hw n (by
     rw [hx,DataW.weights,Tryz.underlying50]
     exact List.mem_cons_of_mem _ (List.mem_append.2 (Or.inl (weights_mem_all hn (List.mem_map.2 ⟨i,List.mem_range.2 hi,rfl⟩))))))
    exact ⟨t,fun _=>⟨⟨hc 0 (by omega),hc 1 (by omega),hc 2 (by omega),hc 3 (by omega),hc 4 (by omega)⟩,hts,hbk,hwf⟩⟩
   ·exact ⟨(⟨zt,⟨#[]⟩,[]⟩,.slice none 0 0),fun h=>absurd h hi⟩
  obtain ⟨f,hf⟩:=Classical.axiomOfChoice key
  have efl:(fsts ((List.range len).map f)).flatMap At.pl = (List.range len).flatMap fun i=>(f i).1.pl:=by simp [fsts,List.flatMap_map]
  have hgo:(List.range len).map f = [] ∨ ∃ b o,a = ⟨b,o,none⟩ /\ ARow W b o ((List.range len).map f):=by
   rcases Nat.eq_zero_or_pos len with h0 | h0
   ·left;subst h0;rfl
   ·right
    obtain ⟨b,off,spot⟩:=a
    have hspot:spot = none:=by simpa [Addr.add] using World.cell?_spot (hf 0 h0).1.1
    subst hspot
    refine ⟨b,off,rfl, ?_,fun i t ht=>?_⟩
    ·exact World.block_lt_of_cell? W _ (by have:=(hf 0 h0).1.1;simpa [Addr.add] using this)
    ·have hi:i < len:=by have:=(List.getElem?_eq_some_iff.1 ht).1;simpa using this
     have e:t = f i:=by
      rw [List.getElem?_map,List.getElem?_range hi] at ht;simpa using ht.symm
     subst e
     have:=(hf i hi).1
     rw [add_plain,add_plain,add_plain,add_plain,add_plain] at this
     exact this
  refine ⟨_,(List.range len).map f,rfl,⟨⟨some a,cap,by simp,by simpa using hlen, ?_,fun x hx=>?_⟩,Or.inr ⟨a,cap,by simp,hgo⟩,fun x hx=>?_⟩, ?_,fun t ht=>?_,fun x hx=>?_⟩
  rotate_left 3
  ·rw [hx,efl]
   have:=bulkN_sum (fun i=>(f i).1.pl) D (List.range len) fun i hi=>(hf i (List.mem_range.1 hi)).2.2.1
   simp only [Rows.uptoBulk]
   omega
  ·rw [efl] at ht
   obtain ⟨i,hi,ht⟩:=List.mem_flatMap.1 ht
   exact (hf i (List.mem_range.1 hi)).2.2.2.1 t ht
  ·obtain ⟨i,hi,rfl⟩:=List.mem_map.1 hx
   exact (hf i (List.mem_range.1 hi)).2.2.2.2
  ·rcases hgo with hq | ⟨b,o,rfl,hq⟩
   ·exact Or.inl hq
   ·exact Or.inr ⟨b,o,rfl,hq⟩
  ·obtain ⟨i,hi,rfl⟩:=List.mem_map.1 hx
   exact (hf i (List.mem_range.1 hi)).2.1.1
  ·obtain ⟨i,hi,rfl⟩:=List.mem_map.1 hx
   exact (hf i (List.mem_range.1 hi)).2.1.2
set_option maxRecDepth 100000 in
theorem open_testsZ {H:Type} {enc:TypeId × Value -> H} {W:World} {base:Nat} {spare:Nat -> Bool} {held:Bool} {fuel:Nat} {cs:List Value} {x:DataW H × List MemPlace}
  (h:DataW.trod enc Tryz.prog W base spare held fuel 51 cs = some x) (hw:∀ n ∈ x.1.weights Tryz.prog 51,n <= reachBytes):∃ v l,cs = [v] /\ (Es W v l /\ EsP W v l) /\ (tls l).length <= Rows.uptoBulk x.1 /\ ∀ t ∈ tls l,SzT t:=by
 rcases open_slice Tryz.underlying51 h with ⟨rfl, -⟩ | ⟨a,len,cap,m,n,D,Pl,rfl,hba,hlc,hcm,hm,hx,hel⟩
 ·exact ⟨_,[],rfl,⟨⟨none,0,rfl,by simp,Or.inl rfl⟩,Or.inl ⟨rfl,rfl⟩⟩,by simp [tls],fun t ht=>by simp [tls] at ht⟩
 ·have hlen:len < 1000000000000000000:=by
   have:=hw ((((List.range len).map D).length + ((List.range (m - len)).map fun j=>D (len + j)).length) * Tryz.prog.bytesOf 85) (by rw [hx];simp [DataW.weights,Tryz.underlying51])
   rw [Tryz.bytesTest] at this
   simp only [List.length_map,List.length_range,reachBytes] at this
   omega
  rw [Tryz.cellsTest3] at hel
  have hlm:len <= m:=by rw [hm];split <;> omega
  have key:∀ i:Nat,∃ t:Te,i < len -> (2 <= Rows.uptoBulk (D i) /\ SzT t.l /\ SzT t.r) /\ W.cell? (a.add (i * 7)) = some (.int .i64 t.op) /\ W.cell? ((a.add (i * 7)).add 1) = some (.int .i64 t.l.k) /\ W.cell? ((a.add (i * 7)).add 2) = some (.int .i64 t.l.n) /\ W.cell? ((a.add (i * 7)).add 3) = some (.string t.l.s) /\ W.cell? ((a.add (i * 7)).add 4) = some (.int .i64 t.r.k) /\ W.cell? ((a.add (i * 7)).add 5) = some (.int .i64 t.r.n) /\ W.cell? ((a.add (i * 7)).add 6) = some (.string t.r.s):=fun i=>by
   by_cases hi:i < len
   ·obtain ⟨cs',h1,h2⟩:=hel i (by omega)
    obtain ⟨-,hl,hc⟩:=World.cells?_some h1
    obtain ⟨t,rfl,hbk⟩:=test_of_cellsZ h2 hl
    exact ⟨t,fun _=>⟨hbk,hc 0 (by omega),hc 1 (by omega),hc 2 (by omega),hc 3 (by omega),hc 4 (by omega),hc 5 (by omega),hc 6 (by omega)⟩⟩
   ·exact ⟨⟨0,zt,zt⟩,fun h=>absurd h hi⟩
  obtain ⟨f,hf⟩:=Classical.axiomOfChoice key
  have efl:tls ((List.range len).map f) = (List.range len).flatMap fun i=>[(f i).l,(f i).r]:=by simp [tls,List.flatMap_map]
  have hgo:(List.range len).map f = [] ∨ ∃ b o,a = ⟨b,o,none⟩ /\ ERow W b o ((List.range len).map f):=by
   rcases Nat.eq_zero_or_pos len with h0 | h0
   ·left;subst h0;rfl
   ·right
    obtain ⟨b,off,spot⟩:=a
    have hspot:spot = none:=by simpa [Addr.add] using World.cell?_spot (hf 0 h0).2.1
    subst hspot
    refine ⟨b,off,rfl, ?_,fun i t ht=>?_⟩
    ·exact World.block_lt_of_cell? W _ (by have:=(hf 0 h0).2.1;simpa [Addr.add] using this)
    ·have hi:i < len:=by have:=(List.getElem?_eq_some_iff.1 ht).1;simpa using this
     have e:t = f i:=by
      rw [List.getElem?_map,List.getElem?_range hi] at ht;simpa using ht.symm
     subst e
     have:=(hf i hi).2
     rw [add_plain,add_plain,add_plain,add_plain,add_plain,add_plain,add_plain] at this
     exact this
  refine ⟨_,(List.range len).map f,rfl,⟨⟨some a,cap,by simp,by simpa using hlen, ?_⟩,Or.inr ⟨a,cap,by simp,hgo⟩⟩, ?_,fun t ht=>?_⟩
  rotate_left 1
  ·rw [hx,efl]
   have:=bulkN_sum (fun i=>[(f i).l,(f i).r]) D (List.range len) fun i hi=>(hf i (List.mem_range.1 hi)).1.1
   simp only [Rows.uptoBulk]
   omega
  ·rw [efl] at ht
   obtain ⟨i,hi,ht⟩:=List.mem_flatMap.1 ht
   simp only [List.mem_cons,List.not_mem_nil,or_false] at ht
   rcases ht with rfl | rfl
   ·exact (hf i (List.mem_range.1 hi)).1.2.1
   ·exact (hf i (List.mem_range.1 hi)).1.2.2
  rcases hgo with hq | ⟨b,o,rfl,hq⟩
  ·exact Or.inl hq
  ·exact Or.inr ⟨b,o,rfl,hq⟩
set_option maxRecDepth 100000 in
theorem clause_of_cellsZ {H:Type} {enc:TypeId × Value -> H} {W:World} {base:Nat} {spare:Nat -> Bool} {held:Bool} {fuel:Nat} {cs:List Value} {x:DataW H × List MemPlace}
  (hf:DataW.trod enc Tryz.prog W base spare held fuel 53 cs = some x) (hl:cs.length = 7) (hw:∀ n ∈ x.1.weights Tryz.prog 53,n <= reachBytes):∃ c:Cm,cs = cc5 c /\ COpen W c /\ (Ck.terms c.key).length <= Rows.uptoBulk x.1:=by
 obtain ⟨c0,c1,c2,c3,c4,c5,c6,rfl⟩:=clist7 hl
 obtain ⟨y0,y1,y2,n,hd, -,h0,h1,h2⟩:=trod_struct3 Tryz.underlying53 hf
 rw [Tryz.cellsAtom] at h0
 rw [Tryz.cellsAtoms] at h1
 rw [Tryz.cellsTests] at h2
 have hwe:∀ (j:Nat) (t:TypeId) (y:DataW H),[42,50,51][j]? = some t -> [y0.1,y1.1,y2.1][j]? = some y -> ∀ m ∈ y.weights Tryz.prog t,m <= reachBytes:=fun j t y ht hy m hm=>by
  refine hw m ?_
  rw [hd,DataW.weights,Tryz.underlying53]
  exact DataW.weights_mem_each (j:=j) ht hy m hm
 obtain ⟨x,e0,hx,b0,w0, -⟩:=atom_of_cellsZ h0 (by simp) (hwe 0 _ _ rfl rfl)
 obtain ⟨vb,lb,e1,hb,b1,w1, -⟩:=open_atomsZ h1 (hwe 1 _ _ rfl rfl)
 obtain ⟨vt,lt,e2,ht,b2,w2⟩:=open_testsZ h2 (hwe 2 _ _ rfl rfl)
 simp at e0 e1 e2
 obtain ⟨rfl,rfl,rfl,rfl,rfl⟩:=e0
 subst e1 e2
 have ek:Ck.terms (Cm.key ⟨x,lb,c5,lt,c6⟩) = x.1.pl ++ ((fsts lb).flatMap At.pl ++ tls lt):=rfl
 refine ⟨⟨x,lb,_,lt,_⟩,rfl,⟨⟨hx.1,hb.1,ht.1⟩,hx.2,hb.2.2,hb.2.1,ht.2,fun t ht=>by rw [ek] at ht;rcases List.mem_append.1 ht with ht | ht;exact (w0 t ht).2;rcases List.mem_append.1 ht with ht | ht;exact (w1 t ht).2;exact (w2 t ht).2⟩, ?_⟩
 rw [ek,List.length_append,List.length_append,hd]
 simp only [Rows.uptoBulk,Rows.uptoBulkAll]
 omega
set_option maxRecDepth 100000 in
theorem open_clausesZ {H:Type} {enc:TypeId × Value -> H} {W:World} {base:Nat} {spare:Nat -> Bool} {held:Bool} {fuel:Nat} {cs:List Value} {x:DataW H × List MemPlace}
  (h:DataW.trod enc Tryz.prog W base spare held fuel 33 cs = some x) (hw:∀ n ∈ x.1.weights Tryz.prog 33,n <= reachBytes):∃ v l,cs = [v] /\ Cx5 W v l /\ (∀ c ∈ l,COpen W c) /\ l.length <= Rows.uptoBulk x.1 /\ ∀ c ∈ l,(Ck.terms c.key).length <= Rows.uptoBulk x.1:=by
 rcases open_slice Tryz.underlying33 h with ⟨rfl, -⟩ | ⟨a,len,cap,m,n,D,Pl,rfl,hba,hlc,hcm,hm,hx,hel⟩
 ·exact ⟨_,[],rfl,⟨⟨none,0,rfl,Or.inl rfl⟩,fun c hc=>by cases hc⟩,(fun c hc=>by cases hc),by simp,fun c hc=>by cases hc⟩
 ·rw [Tryz.cellsClause] at hel
  have hlm:len <= m:=by rw [hm];split <;> omega
  have key:∀ i:Nat,∃ c:Cm,i < len -> (∀ k u,(cc5 c)[k]? = some u -> W.cell? ((a.add (i * 7)).add k) = some u) /\ COpen W c /\ (Ck.terms c.key).length <= Rows.uptoBulk (D i):=fun i=>by
   by_cases hi:i < len
   ·obtain ⟨cs',h1,h2⟩:=hel i (by omega)
    obtain ⟨-,hl,hc⟩:=World.cells?_some h1
    obtain ⟨c,rfl,hok,hbk⟩:=clause_of_cellsZ h2 hl (fun n hn=>hw n (by
     rw [hx,DataW.weights,Tryz.underlying33]
     exact List.mem_cons_of_mem _ (List.mem_append.2 (Or.inl (weights_mem_all hn (List.mem_map.2 ⟨i,List.mem_range.2 hi,rfl⟩))))))
    refine ⟨c,fun _=>⟨fun k u hu=>?_,hok,hbk⟩⟩
    rw [<- hu]
    exact hc k (List.getElem?_eq_some_iff.1 hu).1
   ·exact ⟨⟨(⟨zt,⟨#[]⟩,[]⟩,.slice none 0 0),[],.slice none 0 0,[],.slice none 0 0⟩,fun h=>absurd h hi⟩
  obtain ⟨f,hf⟩:=Classical.axiomOfChoice key
  refine ⟨_,(List.range len).map f,rfl,⟨⟨some a,cap,by simp, ?_⟩,fun c hc=>?_⟩,fun c hc=>?_,by rw [hx];simpa using bulkN_slice ((List.range len).map D) _,fun c hc=>?_⟩
  ·rcases Nat.eq_zero_or_pos len with h0 | h0
   ·left;subst h0;rfl
   ·right
    obtain ⟨b,off,spot⟩:=a
    have h00:=(hf 0 h0).1 0 _ rfl
    have hspot:spot = none:=by simpa [Addr.add] using World.cell?_spot h00
    subst hspot
    refine ⟨b,off,rfl,World.block_lt_of_cell? W _ (by simpa [Addr.add] using h00),fun i c hc=>?_⟩
    have hi:i < len:=by have:=(List.getElem?_eq_some_iff.1 hc).1;simpa using this
    have e:c = f i:=by
     rw [List.getElem?_map,List.getElem?_range hi] at hc;simpa using hc.symm
    subst e
    have hk:∀ k u,(cc5 (f i))[k]? = some u -> W.cell? ⟨b,off + i * 7 + k,none⟩ = some u:=fun k u hu=>by
     have:=(hf i hi).1 k u hu
     rw [add_plain,add_plain] at this
     exact this
    exact ⟨hk 0 _ rfl,hk 1 _ rfl,hk 2 _ rfl,hk 3 _ rfl,hk 4 _ rfl,hk 5 _ rfl,hk 6 _ rfl⟩
  ·obtain ⟨i,hi,rfl⟩:=List.mem_map.1 hc
   exact (hf i (List.mem_range.1 hi)).2.1.ok
  ·obtain ⟨i,hi,rfl⟩:=List.mem_map.1 hc
   exact (hf i (List.mem_range.1 hi)).2.1
  ·obtain ⟨i,hi,rfl⟩:=List.mem_map.1 hc
   have h1:=(hf i (List.mem_range.1 hi)).2.2
   have h2:Rows.uptoBulk (D i) <= Rows.uptoBulkAll ((List.range len).map D):=bulkW_mem (List.mem_map.2 ⟨i,hi,rfl⟩)
   rw [hx]
   simp only [Rows.uptoBulk]
   omega
set_option maxRecDepth 100000 in
theorem open_atomZ5 {H:Type} {enc:TypeId × Value -> H} {W:World} {r:Reach} {b0 base:Nat} {spare:Nat -> Bool} {held:Bool} {v:Value} {d:DataW H} {p:List MemPlace}
  (hv:Value.okWide Tryz.prog W r b0 42 v) (h:DataW.Trod enc Tryz.prog W base spare held 42 v d p) (hw:∀ n ∈ d.weights Tryz.prog 42,n <= reachBytes):∃ (a:At) (x:Value),v = a.v x /\ TsP W x a.args /\ a.pl.length <= Rows.uptoBulk d /\ ∀ t ∈ a.pl,SzT t:=by
 obtain ⟨cs,rfl,hsz⟩:=okWide_struct Tryz.underlying42 hv
 rw [Tryz.cellsAtom] at hsz
 obtain ⟨fuel,hf⟩:=h
 obtain ⟨l⟩:=cs
 obtain ⟨a,e,ho,hb,hw, -⟩:=atom_of_cellsZ hf (by simpa [Value.cells] using hsz) hw
 refine ⟨a.1,a.2, ?_,ho.2,hb,hw⟩
 have e':l = _:=e
 rw [e']
set_option maxRecDepth 100000 in
theorem open_termZ5 {H:Type} {enc:TypeId × Value -> H} {W:World} {r:Reach} {b0 base:Nat} {spare:Nat -> Bool} {held:Bool} {v:Value} {d:DataW H} {p:List MemPlace}
  (hv:Value.okWide Tryz.prog W r b0 39 v) (h:DataW.Trod enc Tryz.prog W base spare held 39 v d p):∃ t:Tm,v = t.v /\ SzT t:=by
 obtain ⟨cs,rfl,hsz⟩:=okWide_struct Tryz.underlying39 hv
 rw [Tryz.cellsTerm] at hsz
 obtain ⟨fuel,hf⟩:=h
 obtain ⟨l⟩:=cs
 obtain ⟨t,e,ht⟩:=term_of_cellsZ hf (by simpa [Value.cells] using hsz)
 refine ⟨t, ?_,ht⟩
 have e':l = _:=e
 rw [e']
theorem sz_n64 {t:Tm} (h:SzT t):N64 t.n:=wf_n64 h.2
theorem COpen.op {W:World} {c:Cm} (h:COpen W c) (hs:(Ck.terms c.key).length <= 4000000):Op5 W c:=⟨⟨h.ok,h.hh,h.hp,h.bp,fun t ht=>wf_n64 (h.wf t (by rw [key_terms] at ht;exact ht))⟩,h.ht,hs⟩
end Go.Proofs.YtcpjiahdaplhlaaGreatDoor

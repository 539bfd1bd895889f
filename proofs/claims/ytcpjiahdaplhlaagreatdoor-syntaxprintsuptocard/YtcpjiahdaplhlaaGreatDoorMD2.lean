import Derived.Test.YtcpjiahdaplhlaaGreatDoorL1
import Derived.Test.YtcpjiahdaplhlaaGreatDoorCL5
import Derived.Test.YtcpjiahdaplhlaaGreatDoorCL12
namespace Go.Proofs.YtcpjiahdaplhlaaGreatDoor
open Go.RowKit
def ABlk (w:World) (g n:Nat) (l:List (At × Value)):Prop:=∃ C:Array Value,w.heap[g]? = some (.cells C 42 (0,0)) /\ C.size = n * 5 ∧
 ∀ i x,l[i]? = some x -> C[i * 5]? = some (.int .i64 x.1.by_.k) /\ C[i * 5 + 1]? = some (.int .i64 x.1.by_.n) /\ C[i * 5 + 2]? = some (.string x.1.by_.s) /\ C[i * 5 + 3]? = some (.string x.1.name) /\ C[i * 5 + 4]? = some (x.2)
theorem ABlk.lt {w:World} {g n:Nat} {l:List (At × Value)} (h:ABlk w g n l):g < w.heap.size:=by obtain ⟨C,h1, -⟩:=h;exact (Array.getElem?_eq_some_iff.1 h1).1
theorem ABlk.later {w w':World} {g n:Nat} {l:List (At × Value)} (h:ABlk w g n l) (hb:Below w.heap.size w w'):ABlk w' g n l:=by
 obtain ⟨C,h1,h2⟩:=h
 exact ⟨C,(hb.block _ (Array.getElem?_eq_some_iff.1 h1).1).trans h1,h2⟩
theorem ABlk.other {w:World} {g n G i:Nat} {a:Value} {l:List (At × Value)} (h:ABlk w g n l) (hk:g ≠ G):ABlk (w.setCell ⟨G,i,none⟩ a) g n l:=by
 obtain ⟨C,h1,h2⟩:=h
 exact ⟨C,by rw [heap_setCell_other _ _ _ _ hk];exact h1,h2⟩
theorem ABlk.cells {w:World} {g n j:Nat} {l:List (At × Value)} (h:ABlk w g n l) (hj:j < n * 5):(∃ c,w.cell? ⟨g,j,none⟩ = some c) /\ w.frozen? ⟨g,j,none⟩ = false:=by
 obtain ⟨C,h1,h2, -⟩:=h
 refine ⟨⟨C[j], ?_⟩,frozen_of_row _ _ _ _ _ h1⟩
 rw [cell_of_row _ _ _ _ _ _ h1];simp
abbrev Aput (w:World) (g k:Nat) (x:At × Value):World:=(((((w.setCell ⟨g,k * 5,none⟩ (.int .i64 x.1.by_.k)).setCell ⟨g,k * 5 + 1,none⟩ (.int .i64 x.1.by_.n)).setCell ⟨g,k * 5 + 2,none⟩ (.string x.1.by_.s)).setCell ⟨g,k * 5 + 3,none⟩ (.string x.1.name)).setCell ⟨g,k * 5 + 4,none⟩ (x.2))
theorem ABlk.put {w:World} {g n:Nat} {l:List (At × Value)} (h:ABlk w g n l) (hk:l.length < n) (x:At × Value):ABlk (Aput w g l.length x) g n (l ++ [x]):=by
 obtain ⟨C,h1,h2,h3⟩:=h
 have e0:=heap_setCell_same _ _ (l.length * 5) _ _ (.int .i64 x.1.by_.k) h1
 have e1:=heap_setCell_same _ _ (l.length * 5 + 1) _ _ (.int .i64 x.1.by_.n) e0
 have e2:=heap_setCell_same _ _ (l.length * 5 + 2) _ _ (.string x.1.by_.s) e1
 have e3:=heap_setCell_same _ _ (l.length * 5 + 3) _ _ (.string x.1.name) e2
 have e4:=heap_setCell_same _ _ (l.length * 5 + 4) _ _ (x.2) e3
 refine ⟨_,e4,by simp [h2],fun i u hu=>?_⟩
 by_cases hik:i < l.length
 ·rw [List.getElem?_append_left hik] at hu
  obtain ⟨q0,q1,q2,q3,q4⟩:=h3 i u hu
  refine ⟨?_, ?_, ?_, ?_, ?_⟩
  ·rw [Array.getElem?_setIfInBounds_ne (by omega),Array.getElem?_setIfInBounds_ne (by omega),Array.getElem?_setIfInBounds_ne (by omega),Array.getElem?_setIfInBounds_ne (by omega),Array.getElem?_setIfInBounds_ne (by omega)];exact q0
  ·rw [Array.getElem?_setIfInBounds_ne (by omega),Array.getElem?_setIfInBounds_ne (by omega),Array.getElem?_setIfInBounds_ne (by omega),Array.getElem?_setIfInBounds_ne (by omega),Array.getElem?_setIfInBounds_ne (by omega)];exact q1
  ·rw [Array.getElem?_setIfInBounds_ne (by omega),Array.getElem?_setIfInBounds_ne (by omega),Array.getElem?_setIfInBounds_ne (by omega),Array.getElem?_setIfInBounds_ne (by omega),Array.getElem?_setIfInBounds_ne (by omega)];exact q2
  ·rw [Array.getElem?_setIfInBounds_ne (by omega),Array.getElem?_setIfInBounds_ne (by omega),Array.getElem?_setIfInBounds_ne (by omega),Array.getElem?_setIfInBounds_ne (by omega),Array.getElem?_setIfInBounds_ne (by omega)];exact q3
  ·rw [Array.getElem?_setIfInBounds_ne (by omega),Array.getElem?_setIfInBounds_ne (by omega),Array.getElem?_setIfInBounds_ne (by omega),Array.getElem?_setIfInBounds_ne (by omega),Array.getElem?_setIfInBounds_ne (by omega)];exact q4
 ·have hil:i = l.length:=by
   have:=(List.getElem?_eq_some_iff.1 hu).1
   simp at this;omega
  subst hil
  simp at hu
  subst hu
  refine ⟨?_, ?_, ?_, ?_, ?_⟩ <;> simp [Array.getElem?_setIfInBounds,h2] <;> omega
def EBlk (w:World) (g n:Nat) (l:List (Te)):Prop:=∃ C:Array Value,w.heap[g]? = some (.cells C 85 (0,0)) /\ C.size = n * 7 ∧
 ∀ i x,l[i]? = some x -> C[i * 7]? = some (.int .i64 x.op) /\ C[i * 7 + 1]? = some (.int .i64 x.l.k) /\ C[i * 7 + 2]? = some (.int .i64 x.l.n) /\ C[i * 7 + 3]? = some (.string x.l.s) /\ C[i * 7 + 4]? = some (.int .i64 x.r.k) /\ C[i * 7 + 5]? = some (.int .i64 x.r.n) /\ C[i * 7 + 6]? = some (.string x.r.s)
theorem EBlk.lt {w:World} {g n:Nat} {l:List (Te)} (h:EBlk w g n l):g < w.heap.size:=by obtain ⟨C,h1, -⟩:=h;exact (Array.getElem?_eq_some_iff.1 h1).1
theorem EBlk.later {w w':World} {g n:Nat} {l:List (Te)} (h:EBlk w g n l) (hb:Below w.heap.size w w'):EBlk w' g n l:=by
 obtain ⟨C,h1,h2⟩:=h
 exact ⟨C,(hb.block _ (Array.getElem?_eq_some_iff.1 h1).1).trans h1,h2⟩
theorem EBlk.other {w:World} {g n G i:Nat} {a:Value} {l:List (Te)} (h:EBlk w g n l) (hk:g ≠ G):EBlk (w.setCell ⟨G,i,none⟩ a) g n l:=by
 obtain ⟨C,h1,h2⟩:=h
 exact ⟨C,by rw [heap_setCell_other _ _ _ _ hk];exact h1,h2⟩
theorem EBlk.cells {w:World} {g n j:Nat} {l:List (Te)} (h:EBlk w g n l) (hj:j < n * 7):(∃ c,w.cell? ⟨g,j,none⟩ = some c) /\ w.frozen? ⟨g,j,none⟩ = false:=by
 obtain ⟨C,h1,h2, -⟩:=h
 refine ⟨⟨C[j], ?_⟩,frozen_of_row _ _ _ _ _ h1⟩
 rw [cell_of_row _ _ _ _ _ _ h1];simp
abbrev Eput (w:World) (g k:Nat) (x:Te):World:=(((((((w.setCell ⟨g,k * 7,none⟩ (.int .i64 x.op)).setCell ⟨g,k * 7 + 1,none⟩ (.int .i64 x.l.k)).setCell ⟨g,k * 7 + 2,none⟩ (.int .i64 x.l.n)).setCell ⟨g,k * 7 + 3,none⟩ (.string x.l.s)).setCell ⟨g,k * 7 + 4,none⟩ (.int .i64 x.r.k)).setCell ⟨g,k * 7 + 5,none⟩ (.int .i64 x.r.n)).setCell ⟨g,k * 7 + 6,none⟩ (.string x.r.s))
theorem EBlk.put {w:World} {g n:Nat} {l:List (Te)} (h:EBlk w g n l) (hk:l.length < n) (x:Te):EBlk (Eput w g l.length x) g n (l ++ [x]):=by
 obtain ⟨C,h1,h2,h3⟩:=h
 have e0:=heap_setCell_same _ _ (l.length * 7) _ _ (.int .i64 x.op) h1
 have e1:=heap_setCell_same _ _ (l.length * 7 + 1) _ _ (.int .i64 x.l.k) e0
 have e2:=heap_setCell_same _ _ (l.length * 7 + 2) _ _ (.int .i64 x.l.n) e1
 have e3:=heap_setCell_same _ _ (l.length * 7 + 3) _ _ (.string x.l.s) e2
 have e4:=heap_setCell_same _ _ (l.length * 7 + 4) _ _ (.int .i64 x.r.k) e3
 have e5:=heap_setCell_same _ _ (l.length * 7 + 5) _ _ (.int .i64 x.r.n) e4
 have e6:=heap_setCell_same _ _ (l.length * 7 + 6) _ _ (.string x.r.s) e5
 refine ⟨_,e6,by simp [h2],fun i u hu=>?_⟩
 by_cases hik:i < l.length
 ·rw [List.getElem?_append_left hik] at hu
  obtain ⟨q0,q1,q2,q3,q4,q5,q6⟩:=h3 i u hu
  refine ⟨?_, ?_, ?_, ?_, ?_, ?_, ?_⟩
  ·rw [Array.getElem?_setIfInBounds_ne (by omega),Array.getElem?_setIfInBounds_ne (by omega),Array.getElem?_setIfInBounds_ne (by omega),Array.getElem?_setIfInBounds_ne (by omega),Array.getElem?_setIfInBounds_ne (by omega),Array.getElem?_setIfInBounds_ne (by omega),Array.getElem?_setIfInBounds_ne (by omega)];exact q0
  ·rw [Array.getElem?_setIfInBounds_ne (by omega),Array.getElem?_setIfInBounds_ne (by omega),Array.getElem?_setIfInBounds_ne (by omega),Array.getElem?_setIfInBounds_ne (by omega),Array.getElem?_setIfInBounds_ne (by omega),Array.getElem?_setIfInBounds_ne (by omega),Array.getElem?_setIfInBounds_ne (by omega)];exact q1
  ·rw [Array.getElem?_setIfInBounds_ne (by omega),Array.getElem?_setIfInBounds_ne (by omega),Array.getElem?_setIfInBounds_ne (by omega),Array.getElem?_setIfInBounds_ne (by omega),Array.getElem?_setIfInBounds_ne (by omega),Array.getElem?_setIfInBounds_ne (by omega),Array.getElem?_setIfInBounds_ne (by omega)];exact q2
  ·rw [Array.getElem?_setIfInBounds_ne (by omega),Array.getElem?_setIfInBounds_ne (by omega),Array.getElem?_setIfInBounds_ne (by omega),Array.getElem?_setIfInBounds_ne (by omega),Array.getElem?_setIfInBounds_ne (by omega),Array.getElem?_setIfInBounds_ne (by omega),Array.getElem?_setIfInBounds_ne (by omega)];exact q3
  ·rw [Array.getElem?_setIfInBounds_ne (by omega),Array.getElem?_setIfInBounds_ne (by omega),Array.getElem?_setIfInBounds_ne (by omega),Array.getElem?_setIfInBounds_ne (by omega),Array.getElem?_setIfInBounds_ne (by omega),Array.getElem?_setIfInBounds_ne (by omega),Array.getElem?_setIfInBounds_ne (by omega)];exact q4
  ·rw [Array.getElem?_setIfInBounds_ne (by omega),Array.getElem?_setIfInBounds_ne (by omega),Array.getElem?_setIfInBounds_ne (by omega),Array.getElem?_setIfInBounds_ne (by omega),Array.getElem?_setIfInBounds_ne (by omega),Array.getElem?_setIfInBounds_ne (by omega),Array.getElem?_setIfInBounds_ne (by omega)];exact q5
  ·rw [Array.getElem?_setIfInBounds_ne (by omega),Array.getElem?_setIfInBounds_ne (by omega),Array.getElem?_setIfInBounds_ne (by omega),Array.getElem?_setIfInBounds_ne (by omega),Array.getElem?_setIfInBounds_ne (by omega),Array.getElem?_setIfInBounds_ne (by omega),Array.getElem?_setIfInBounds_ne (by omega)];exact q6
 ·have hil:i = l.length:=by
   have:=(List.getElem?_eq_some_iff.1 hu).1
   simp at this;omega
  subst hil
  simp at hu
  subst hu
  refine ⟨?_, ?_, ?_, ?_, ?_, ?_, ?_⟩ <;> simp [Array.getElem?_setIfInBounds,h2] <;> omega
theorem ABlk.as {w:World} {g n:Nat} {l:List (At × Value)} (h:ABlk w g n l) (hn:l.length = n) (hl:n < 1000000000000000000) (ht:∀ x ∈ l,Ts w x.2 x.1.args):As w (.slice (some ⟨g,0,none⟩) n n) l:=by
 obtain ⟨C,h1,h2,h3⟩:=h
 refine ⟨some ⟨g,0,none⟩,n,by rw [hn],by omega,Or.inr ⟨g,0,rfl,(Array.getElem?_eq_some_iff.1 h1).1,fun i x hx=>?_⟩,ht⟩
 rw [cell_of_row _ _ _ _ _ _ h1,cell_of_row _ _ _ _ _ _ h1,cell_of_row _ _ _ _ _ _ h1,cell_of_row _ _ _ _ _ _ h1,cell_of_row _ _ _ _ _ _ h1]
 simp only [Nat.zero_add]
 exact h3 i x hx
theorem EBlk.es {w:World} {g n:Nat} {l:List Te} (h:EBlk w g n l) (hn:l.length = n) (hl:n < 1000000000000000000):Es w (.slice (some ⟨g,0,none⟩) n n) l:=by
 obtain ⟨C,h1,h2,h3⟩:=h
 refine ⟨some ⟨g,0,none⟩,n,by rw [hn],by omega,Or.inr ⟨g,0,rfl,(Array.getElem?_eq_some_iff.1 h1).1,fun i x hx=>?_⟩⟩
 rw [cell_of_row _ _ _ _ _ _ h1,cell_of_row _ _ _ _ _ _ h1,cell_of_row _ _ _ _ _ _ h1,cell_of_row _ _ _ _ _ _ h1,cell_of_row _ _ _ _ _ _ h1,cell_of_row _ _ _ _ _ _ h1,cell_of_row _ _ _ _ _ _ h1]
 simp only [Nat.zero_add]
 exact h3 i x hx
theorem Tryz.infoAtom:(Tryz.prog.info? 42).map (fun i=>(i.zero,i.size,i.bytes)) = some (some (.agg #[.int .i64 0,.int .i64 0,.string ⟨#[]⟩,.string ⟨#[]⟩,.slice none 0 0]),5,72):=by kernel_rfl
def MA (n:Nat):Array Value:=madeCells #[.int .i64 0,.int .i64 0,.string ⟨#[]⟩,.string ⟨#[]⟩,.slice none 0 0] (n * 5)
theorem mk_atoms (n:Nat) (hn:n <= 1900000000000) (w:World):(Instr.makeSlice 50 (.int .i64 (n:Int)) (.int .i64 (n:Int))).run Tryz.prog w = .ok (.slice (some ⟨w.heap.size,0,none⟩) n n) (w.alloc (.cells (MA n) 42)):=by
 obtain ⟨i,hi,h0,h1,h2⟩:=info_parts Tryz.infoAtom
 have h:=run_make (P:=Tryz.prog) w 50 42 i _ Tryz.underlying50 hi h0 .i64 .i64 n n (by omega) (Int.le_refl _) (by rw [h2];omega) (by omega)
 rw [h1,Int.toNat_natCast] at h
 exact h
theorem Tryz.infoTest:(Tryz.prog.info? 85).map (fun i=>(i.zero,i.size,i.bytes)) = some (some (.agg #[.int .i64 0,.int .i64 0,.int .i64 0,.string ⟨#[]⟩,.int .i64 0,.int .i64 0,.string ⟨#[]⟩]),7,72):=by kernel_rfl
def ME (n:Nat):Array Value:=madeCells #[.int .i64 0,.int .i64 0,.int .i64 0,.string ⟨#[]⟩,.int .i64 0,.int .i64 0,.string ⟨#[]⟩] (n * 7)
theorem mk_tests (n:Nat) (hn:n <= 1900000000000) (w:World):(Instr.makeSlice 51 (.int .i64 (n:Int)) (.int .i64 (n:Int))).run Tryz.prog w = .ok (.slice (some ⟨w.heap.size,0,none⟩) n n) (w.alloc (.cells (ME n) 85)):=by
 obtain ⟨i,hi,h0,h1,h2⟩:=info_parts Tryz.infoTest
 have h:=run_make (P:=Tryz.prog) w 51 85 i _ Tryz.underlying51 hi h0 .i64 .i64 n n (by omega) (Int.le_refl _) (by rw [h2];omega) (by omega)
 rw [h1,Int.toNat_natCast] at h
 exact h
theorem ABlk.start {w:World} {g n:Nat} (h:w.heap[g]? = some (.cells (MA n) 42 (0,0))):ABlk w g n []:=⟨_,h,by rw [MA,size_madeCells],fun i x hx=>by simp at hx⟩
theorem EBlk.start {w:World} {g n:Nat} (h:w.heap[g]? = some (.cells (ME n) 85 (0,0))):EBlk w g n []:=⟨_,h,by rw [ME,size_madeCells],fun i x hx=>by simp at hx⟩
def TsN (w:World) (g:Nat) (v:Value) (l:List Tm):Prop:=Ts w v l /\ v.ownBlock ≠ some g
theorem TsN.later {w w':World} {g:Nat} {v:Value} {l:List Tm} (h:TsN w g v l) (hb:Below w.heap.size w w'):TsN w' g v l:=⟨h.1.later hb,h.2⟩
theorem Ts.off {w:World} {g i:Nat} {u v:Value} {l:List Tm} (h:Ts w v l) (hne:v.ownBlock ≠ some g):Ts (w.setCell ⟨g,i,none⟩ u) v l:=by
 obtain ⟨a,cap,rfl,hl,hm⟩:=h
 refine ⟨a,cap,rfl,hl, ?_⟩
 rcases hm with hm | ⟨b,o,rfl,hb,hm⟩
 ·exact Or.inl hm
 ·have hbg:b ≠ g:=fun e=>hne (by rw [e];rfl)
  have hc:∀ j,(w.setCell ⟨g,i,none⟩ u).cell? ⟨b,j,none⟩ = w.cell? ⟨b,j,none⟩:=fun j=>World.cell?_of_block (w:=w) (a:=⟨b,j,none⟩) (heap_setCell_other _ _ _ _ hbg)
  refine Or.inr ⟨b,o,rfl,by simpa [World.setCell] using hb,fun q t ht=>?_⟩
  simp only [hc]
  exact hm q t ht
theorem TsN.off {w:World} {g i:Nat} {u v:Value} {l:List Tm} (h:TsN w g v l):TsN (w.setCell ⟨g,i,none⟩ u) g v l:=⟨h.1.off h.2,h.2⟩
end Go.Proofs.YtcpjiahdaplhlaaGreatDoor
namespace Go.Proofs.YtcpjiahdaplhlaaGreatDoor
open Go.RowKit
attribute [local go_sem ↓] Go.wp_at_zero Go.wp_at_succ
def zcs:Array Value:=#[.int .i64 0,.int .i64 0,.string ⟨#[]⟩,.string ⟨#[]⟩,.slice none 0 0,.slice none 0 0,.slice none 0 0]
theorem fsts_get {l:List (At × Value)} {j:Nat} {x:At × Value} (h:l[j]? = some x):(fsts l)[j]? = some x.1:=by unfold fsts;rw [List.getElem?_map,h];rfl
theorem fsts_app (l m:List (At × Value)):fsts (l ++ m) = fsts l ++ fsts m:=by simp [fsts]
theorem fsts_len (l:List (At × Value)):(fsts l).length = l.length:=by simp [fsts]
end Go.Proofs.YtcpjiahdaplhlaaGreatDoor
namespace Go.Proofs.YtcpjiahdaplhlaaGreatDoor
open Go.RowKit
attribute [local go_sem ↓] Go.wp_at_zero Go.wp_at_succ
theorem CBlk.froz {w:World} {g i:Nat} {c:Array Value} {t:TypeId} (h:CBlk w g c t):w.frozen? ⟨g,i,none⟩ = false:=frozen_of_row _ _ _ _ _ h
end Go.Proofs.YtcpjiahdaplhlaaGreatDoor
namespace Go.Proofs.YtcpjiahdaplhlaaGreatDoor
open Go.RowKit
attribute [local go_sem ↓] Go.wp_at_zero Go.wp_at_succ
theorem cone {w:World} {g:Nat} {a:Value} {t:TypeId} (h:CBlk w g #[a] t):w.cell? ⟨g,0,none⟩ = some a:=cell_of_row _ _ _ _ _ _ h
theorem two3 (w:World) (t:Tm):CBlk ((w.alloc (.cells #[.int .i64 t.k,.int .i64 t.n,.string t.s] 39)).alloc (.cells #[.int .i64 0,.int .i64 0,.string ⟨#[]⟩] 39)) w.heap.size #[.int .i64 t.k,.int .i64 t.n,.string t.s] 39 ∧
  CBlk ((w.alloc (.cells #[.int .i64 t.k,.int .i64 t.n,.string t.s] 39)).alloc (.cells #[.int .i64 0,.int .i64 0,.string ⟨#[]⟩] 39)) (w.heap.size + 1) #[.int .i64 0,.int .i64 0,.string ⟨#[]⟩] 39:=by
 have x2:=CBlk.new (w.alloc (.cells #[.int .i64 t.k,.int .i64 t.n,.string t.s] 39)) #[.int .i64 0,.int .i64 0,.string ⟨#[]⟩] 39
 rw [show (w.alloc (.cells #[.int .i64 t.k,.int .i64 t.n,.string t.s] 39)).heap.size = w.heap.size + 1 by simp] at x2
 exact ⟨(CBlk.new w _ _).later (below1 _ _),x2⟩
end Go.Proofs.YtcpjiahdaplhlaaGreatDoor
namespace Go.Proofs.YtcpjiahdaplhlaaGreatDoor
open Go.RowKit
attribute [local go_sem ↓] Go.wp_at_zero Go.wp_at_succ
def TsP (w:World) (v:Value) (l:List Tm):Prop:=(v = .slice none 0 0 /\ l = []) ∨ ∃ ad cap,v = .slice (some ad) l.length cap /\ (l = [] ∨ ∃ b o,ad = ⟨b,o,none⟩ /\ TRow w b o l)
theorem TsP.later {w w':World} {v:Value} {l:List Tm} (h:TsP w v l) (hb:Below w.heap.size w w'):TsP w' v l:=by
 rcases h with h | ⟨ad,cap,h1,h2⟩
 ·exact Or.inl h
 ·refine Or.inr ⟨ad,cap,h1, ?_⟩
  rcases h2 with h2 | ⟨b,o,h2,h3⟩
  ·exact Or.inl h2
  ·exact Or.inr ⟨b,o,h2,h3.later hb⟩
theorem TsP.ts {w:World} {v:Value} {l:List Tm} (h:TsP w v l) (hl:l.length < 1000000000000000000):Ts w v l:=by
 rcases h with ⟨rfl,rfl⟩ | ⟨ad,cap,rfl,h2⟩
 ·exact ⟨none,0,rfl,by simp,Or.inl rfl⟩
 ·refine ⟨some ad,cap,rfl,hl, ?_⟩
  rcases h2 with h2 | ⟨b,o,rfl,h3⟩
  ·exact Or.inl h2
  ·exact Or.inr ⟨b,o,rfl,h3⟩
theorem OwnT.tsP {w:World} {base:Nat} {v:Value} {l:List Tm} (h:OwnT w base v l):TsP w v l:=by
 have hh:=h
 rcases h.2 with ⟨rfl,hn⟩ | ⟨g,cap,cur,rfl,hb,hg, -⟩
 ·exact Or.inl ⟨rfl,List.length_eq_zero_iff.1 hn⟩
 ·refine Or.inr ⟨_,cap,rfl,Or.inr ⟨g,0,rfl,(Array.getElem?_eq_some_iff.1 hg).1,fun i t ht=>?_⟩⟩
  simpa using ownT_cells hh i t ht
theorem tcs_app (l m:List Tm):tcs (l ++ m) = tcs l ++ tcs m:=by simp [tcs]
theorem ownT_nil (w:World) (base:Nat):OwnT w base (.slice none 0 0) []:=World.ownsRow_nil _ _ _ _
theorem grown_below3 {w w':World} {base:Nat} {v:Value} (hg:w.grownBy w' v.ownBlock) (h:∀ k,v.ownBlock = some k -> base <= k) (hb:base <= w.heap.size):Below base w w':=
 (Below.refl _ _).grown hg hb h
theorem app_terms {ops:Array Oper} {rest:List Oper} {o:Oper} {a:Act} {Q:Exit -> Act -> World -> Prop} {w:World} (hgd:o.guard = none) (s x:Operand)
  (ho:o.op = .call { callee:=.builtin .append,args:=#[s,x],argTypes:=#[40,40] }) (base:Nat) (v:Value) (l:List Tm) (hs:a.eval s = v) (hown:OwnT w base v l)
  (y:Value) (m:List Tm) (hx:a.eval x = y) (hy:TsP w y m) (hlen:l.length + m.length <= 4000000000000) (hbase:base <= w.heap.size)
  (h:∀ v' w',OwnT w' base v' (l ++ m) -> Below base w w' -> w.grownBy w' v.ownBlock -> wpList Tryz.prog ops Q rest (a.put o.dst v') w'):wpList Tryz.prog ops Q (o :: rest) a w:=by
 obtain ⟨i0,hi0,hz0,hz1,hz2⟩:=info_parts Tryz.infoTerm
 rcases hy with ⟨rfl,rfl⟩ | ⟨ad,cap,rfl,hm⟩
 ·refine wpList_append_own_none hgd s x 40 ho base 39 i0 3 Tryz.underlying40 hi0 v l.length (tcs l) hs hown hx ?_
  refine h v w (by rw [List.append_nil];exact hown) (Below.refl _ _) ?_
  exact World.grownBy.refl _ _
 ·refine wpList_append_own _ hgd s x 40 ho base 39 i0 _ 3 32 Tryz.underlying40 hi0 hz0 hz1 hz2 rfl (by omega) v l.length (tcs l) hs hown ad m.length cap (tcs m) hx (tcs_len m) ?_ (fun u hu=>tcs_mem hu) (by unfold maxLen;omega) (by omega) hbase ?_
  ·rcases hm with rfl | ⟨b,o',rfl,hm⟩
   ·intro j u hu;simp [tcs] at hu
   ·exact trow_get hm
  ·intro v' w' h1 h2 _
   refine h v' w' ?_ (grown_below3 h2 (fun k hk=>(World.ownsRow.lt hown k hk).1) hbase) h2
   unfold OwnT
   rw [List.length_append,tcs_app]
   exact h1
theorem TsP.one {w:World} {b:Nat} {t:Tm} (h:CBlk w b #[.int .i64 t.k,.int .i64 t.n,.string t.s] 39):TsP w (.slice (some ⟨b,0,none⟩) 1 1) [t]:=by
 refine Or.inr ⟨_,1,rfl,Or.inr ⟨b,0,rfl,h.lt,fun i u hu=>?_⟩⟩
 obtain ⟨c0,c1,c2⟩:=cthree h
 cases i with
 | zero=>simp at hu;subst hu;exact ⟨c0,c1,c2⟩
 | succ i=>simp at hu
theorem TsP.two {w:World} {b:Nat} {t u:Tm} (h:CBlk w b #[.int .i64 t.k,.int .i64 t.n,.string t.s,.int .i64 u.k,.int .i64 u.n,.string u.s] 39):TsP w (.slice (some ⟨b,0,none⟩) 2 2) [t,u]:=by
 refine Or.inr ⟨_,2,rfl,Or.inr ⟨b,0,rfl,h.lt,fun i x hx=>?_⟩⟩
 match i,hx with
 | 0,hx=>simp at hx;subst hx;exact ⟨cell_of_row _ _ _ _ _ _ h,cell_of_row _ _ _ _ _ _ h,cell_of_row _ _ _ _ _ _ h⟩
 | 1,hx=>simp at hx;subst hx;exact ⟨cell_of_row _ _ _ _ _ _ h,cell_of_row _ _ _ _ _ _ h,cell_of_row _ _ _ _ _ _ h⟩
 | i + 2,hx=>simp at hx
theorem OwnT.one {w:World} {b base:Nat} {t:Tm} (h:CBlk w b #[.int .i64 t.k,.int .i64 t.n,.string t.s] 39) (hb:base <= b):OwnT w base (.slice (some ⟨b,0,none⟩) 1 1) [t]:=by
 refine ⟨by simp [tcs,Tm.cs],Or.inr ⟨_,1, #[.int .i64 t.k,.int .i64 t.n,.string t.s],rfl,hb,h,Nat.le_refl _,by unfold maxLen;omega,by simp,by simp [tcs,Tm.cs]⟩⟩
set_option maxHeartbeats 2000000 in
theorem atomTerms_any (x:At) (v:Value) (w:World) (h:TsP w v x.args) (hl:x.args.length <= 3900000000000) :
  Calls Tryz.prog 102 #[x.v v] w fun e w'=>∃ v',e = .returned v' /\ OwnT w' w.heap.size v' x.pl /\ Below w.heap.size w w':=by
 have hb2:=below2 w (.cells (At.cs x v) 42) (.cells #[.int .i64 x.by_.k,.int .i64 x.by_.n,.string x.by_.s] 39)
 have g1:=CBlk.new (w.alloc (.cells (At.cs x v) 42)) #[.int .i64 x.by_.k,.int .i64 x.by_.n,.string x.by_.s] 39
 rw [show (w.alloc (.cells (At.cs x v) 42)).heap.size = w.heap.size + 1 by simp] at g1
 have H1:Hid _:=OwnT.one g1 (show w.heap.size <= w.heap.size + 1 by omega)
 have H2:Hid _:=h.later hb2
 have HB:Hid _:=hb2
 clear hb2 g1 h
 obtain ⟨⟨k,n,ss⟩,nm,l⟩:=x
 simp only [At.cs] at H1 H2 HB hl
 simp only [At.pl]
 go_enter Tryz.func102,Tryz.ntmps102
 go_wp2_with (at_builtin;refine app_terms rfl _ _ rfl w.heap.size (.slice (some ⟨w.heap.size + 1,0,none⟩) 1 1) [⟨k,n,ss⟩] (by rfl) H1.out v l (by rfl) H2.out (by simp;omega) (by simp;omega) ?_;intro v' w1 hown hb hg)
 go_ret
 exact ⟨_,rfl,hown,HB.out.trans hb⟩
end Go.Proofs.YtcpjiahdaplhlaaGreatDoor

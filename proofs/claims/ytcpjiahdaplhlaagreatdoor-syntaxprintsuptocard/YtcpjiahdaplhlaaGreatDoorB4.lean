import Derived.Test.YtcpjiahdaplhlaaGreatDoorB2
namespace Go.Proofs.YtcpjiahdaplhlaaGreatDoor
open Go.RowKit
def TRow (w:World) (b o:Nat) (l:List Tm):Prop:=
 b < w.heap.size /\ ∀ i t,l[i]? = some t -> w.cell? ⟨b,o + i * 3,none⟩ = some (.int .i64 t.k) /\ w.cell? ⟨b,o + i * 3 + 1,none⟩ = some (.int .i64 t.n) /\ w.cell? ⟨b,o + i * 3 + 2,none⟩ = some (.string t.s)
def Ts (w:World) (v:Value) (l:List Tm):Prop:=
 ∃ a cap,v = .slice a l.length cap /\ l.length < 1000000000000000000 /\ (l = [] ∨ ∃ b o,a = some ⟨b,o,none⟩ /\ TRow w b o l)
theorem TRow.later {w w':World} {b o l} (h:TRow w b o l) (hb:Below w.heap.size w w'):TRow w' b o l:=
 ⟨Nat.lt_of_lt_of_le h.1 hb.size,fun i t ht=>by
  have:=h.2 i t ht
  rw [hb.cell (p:=⟨b,_,none⟩) h.1,hb.cell (p:=⟨b,_,none⟩) h.1,hb.cell (p:=⟨b,_,none⟩) h.1];exact this⟩
theorem Ts.later {w w':World} {v l} (h:Ts w v l) (hb:Below w.heap.size w w'):Ts w' v l:=by
 obtain ⟨a,cap,rfl,hl,h⟩:=h
 refine ⟨a,cap,rfl,hl, ?_⟩
 rcases h with h | ⟨b,o,rfl,h⟩
 ·exact Or.inl h
 ·exact Or.inr ⟨b,o,rfl,h.later hb⟩
structure At where
 by_:Tm
 name:ByteArray
 args:List Tm
abbrev At.v (a:At) (x:Value):Value:=.agg #[.int .i64 a.by_.k,.int .i64 a.by_.n,.string a.by_.s,.string a.name,x]
def At.pl (a:At):List Tm:=a.by_ :: a.args
theorem three {w:World} {g:Nat} {a b c:Value} {t:TypeId} (h:w.heap[g]? = some (.cells #[a,b,c] t (0,0))) :
  w.cell? ⟨g,0,none⟩ = some a /\ w.cell? ⟨g,1,none⟩ = some b /\ w.cell? ⟨g,2,none⟩ = some c /\ w.frozen? ⟨g,0,none⟩ = false /\ w.frozen? ⟨g,1,none⟩ = false /\ w.frozen? ⟨g,2,none⟩ = false:=
 ⟨cell_of_row _ _ _ _ _ _ h,cell_of_row _ _ _ _ _ _ h,cell_of_row _ _ _ _ _ _ h,frozen_of_row _ _ _ _ _ h,frozen_of_row _ _ _ _ _ h,frozen_of_row _ _ _ _ _ h⟩
def zt:Tm:=⟨0,0,⟨#[]⟩⟩
end Go.Proofs.YtcpjiahdaplhlaaGreatDoor

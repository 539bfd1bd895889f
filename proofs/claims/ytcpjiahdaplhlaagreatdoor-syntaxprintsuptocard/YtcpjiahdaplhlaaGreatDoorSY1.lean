import Derived.Test.YtcpjiahdaplhlaaGreatDoorB2
import Derived.WalkMore
import Derived.Laws.AppendOwn
import Derived.Laws.OwnMore
import Derived.Deep.AppendLies
import Derived.Deep.CutRange
import Derived.Deep.DrawnRows
import Derived.Deep.RegionHeld3
import Derived.Laws.IdiomStrings
import Derived.Laws.BytesArg
import Derived.BigQuiet
import Derived.Maps.OwnSet
import Derived.Maps.OwnOps
import Derived.Test.YtcpjiahdaplhlaaGreatDoorK2
import Derived.Laws.Cover1
import Derived.Deep.QuietTactic
namespace Go.Proofs.YtcpjiahdaplhlaaGreatDoor
open Go.RowKit
theorem hm7 {p:Prop} (h:p):Hid p:=h
def Bk (w:World) (g:Nat) (c:Array Value) (t:TypeId):Prop:=w.heap[g]? = some (.cells c t (0,0))
theorem Bk.lt {w:World} {g:Nat} {c:Array Value} {t:TypeId} (h:Bk w g c t):g < w.heap.size:=(Array.getElem?_eq_some_iff.1 h).1
theorem Bk.new (w:World) (c:Array Value) (t:TypeId):Bk (w.alloc (.cells c t)) w.heap.size c t:=heap_alloc_new _ _
theorem Bk.cell {w:World} {g:Nat} {c:Array Value} {t:TypeId} (h:Bk w g c t) {i:Nat} {v:Value} (hv:c[i]? = some v):w.cell? ⟨g,i,none⟩ = some v:=by
 unfold Bk at h
 simp [World.cell?,h,hv]
theorem Bk.froz {w:World} {g:Nat} {c:Array Value} {t:TypeId} (h:Bk w g c t) (i:Nat):w.frozen? ⟨g,i,none⟩ = false:=by
 unfold Bk at h
 simp [World.frozen?,h]
theorem Bk.set {w:World} {g:Nat} {c:Array Value} {t:TypeId} (h:Bk w g c t) (i:Nat) (v:Value):Bk (w.setCell ⟨g,i,none⟩ v) g (c.setIfInBounds i v) t:=heap_setCell_same _ _ _ _ _ _ h
structure Fr (P:Nat -> Prop) (w w':World):Prop where
 os:w'.os = w.os
 tape:w'.tape = w.tape
 output:w'.output = w.output
 size:w.heap.size <= w'.heap.size
 block:∀ k,k < w.heap.size -> ¬ P k -> w'.heap[k]? = w.heap[k]?
theorem Fr.of {P:Nat -> Prop} {w w':World} (h:Below w.heap.size w w'):Fr P w w':=⟨h.os,h.tape,h.output,h.size,fun k hk _=>h.block k hk⟩
theorem Fr.refl (P:Nat -> Prop) (w:World):Fr P w w:=Fr.of (Below.refl _ _)
theorem Fr.drew {P:Nat -> Prop} {w w':World} (h:Fr P w w'):Fr P w w'.drew:=⟨h.os,h.tape,h.output,h.size,h.block⟩
theorem Fr.trans {P Q:Nat -> Prop} {a b c:World} (h:Fr P a b) (k:Fr Q b c) (hq:∀ x,x < a.heap.size -> Q x -> P x):Fr P a c:=
 ⟨k.os.trans h.os,k.tape.trans h.tape,k.output.trans h.output,Nat.le_trans h.size k.size,fun i hi hp=>(k.block i (Nat.lt_of_lt_of_le hi h.size) (fun hc=>hp (hq i hi hc))).trans (h.block i hi hp)⟩
theorem Fr.tr {P:Nat -> Prop} {a b c:World} (h:Fr P a b) (k:Fr P b c):Fr P a c:=h.trans k fun _ _ hc=>hc
theorem Fr.then {P:Nat -> Prop} {a b c:World} (h:Fr P a b) (k:Below b.heap.size b c):Fr P a c:=h.tr (Fr.of k)
theorem Fr.mono {P Q:Nat -> Prop} {w w':World} (h:Fr P w w') (hq:∀ x,x < w.heap.size -> P x -> Q x):Fr Q w w':=⟨h.os,h.tape,h.output,h.size,fun k hk hp=>h.block k hk fun hc=>hp (hq k hk hc)⟩
theorem Fr.grown {P:Nat -> Prop} {w w':World} {g:Option Nat} (h:w.grownBy w' g) (hp:∀ k,g = some k -> P k):Fr P w w':=
 ⟨h.os,h.tape,h.output,h.size,fun k hk hn=>h.block k hk fun e=>hn (hp k e.symm)⟩
theorem Fr.low {B:Nat} {w w':World} (h:Fr (fun b=>B <= b) w w') (hB:B <= w.heap.size):Below B w w':=⟨h.os,h.tape,h.output,h.size,fun k hk=>h.block k (Nat.lt_of_lt_of_le hk hB) (by omega)⟩
theorem Fr.set {P:Nat -> Prop} {w w':World} (h:Fr P w w') {g i:Nat} {v:Value} (hg:P g ∨ w.heap.size <= g):Fr P w (w'.setCell ⟨g,i,none⟩ v):=by
 have hb:=Below.setCell (Below.refl g w') (p:=⟨g,i,none⟩) (Nat.le_refl _) v
 refine ⟨hb.os.trans h.os,hb.tape.trans h.tape,hb.output.trans h.output,Nat.le_trans h.size hb.size,fun k hk hn=>?_⟩
 rw [heap_setCell_other _ _ _ _ (show k ≠ g from fun e=>by subst e;rcases hg with hg | hg;exact hn hg;omega)]
 exact h.block k hk hn
theorem Fr.cell {P:Nat -> Prop} {w w':World} (h:Fr P w w') {b o:Nat} {v:Value} (hb:b < w.heap.size) (hn:¬ P b) (hc:w.cell? ⟨b,o,none⟩ = some v):w'.cell? ⟨b,o,none⟩ = some v:=by
 rw [World.cell?_of_block (w:=w) (a:=⟨b,o,none⟩) (h.block b hb hn)];exact hc
theorem Bk.fr {P:Nat -> Prop} {w w':World} {g:Nat} {c:Array Value} {t:TypeId} (h:Bk w g c t) (hf:Fr P w w') (hn:¬ P g):Bk w' g c t:=(hf.block _ h.lt hn).trans h
theorem Bk.off {w:World} {g G i:Nat} {c:Array Value} {t:TypeId} {v:Value} (h:Bk w g c t) (hn:g ≠ G):Bk (w.setCell ⟨G,i,none⟩ v) g c t:=(heap_setCell_other _ _ _ _ hn).trans h
theorem Bk.below {w w':World} {g:Nat} {c:Array Value} {t:TypeId} (h:Bk w g c t) (hb:Below w.heap.size w w'):Bk w' g c t:=(hb.block _ h.lt).trans h
def Any (_:Nat):Prop:=True
theorem row7 {w w':World} {base n m:Nat} {e:TypeId} {v:Value} {xs:List Value} (h:w.ownsRow base e n v m xs) (hs:∀ g,v.ownBlock = some g -> w'.heap[g]? = w.heap[g]?):w'.ownsRow base e n v m xs:=by
 refine ⟨h.1, ?_⟩
 rcases h.2 with hn | ⟨g,cap,cur,rfl,hbb,hg,rest⟩
 ·exact Or.inl hn
 ·exact Or.inr ⟨g,cap,cur,rfl,hbb,(hs g rfl).trans hg,rest⟩
theorem row7_fr {P:Nat -> Prop} {w w':World} {base n m:Nat} {e:TypeId} {v:Value} {xs:List Value} (h:w.ownsRow base e n v m xs) (hf:Fr P w w') (hn:∀ g,v.ownBlock = some g -> ¬ P g):w'.ownsRow base e n v m xs:=
 row7 h fun g hg=>hf.block g (h.lt g hg).2 (hn g hg)
theorem row7_below {w w':World} {base n m:Nat} {e:TypeId} {v:Value} {xs:List Value} (h:w.ownsRow base e n v m xs) (hb:Below w.heap.size w w'):w'.ownsRow base e n v m xs:=
 row7 h fun g hg=>hb.block g (h.lt g hg).2
theorem row7_form {w:World} {base n m:Nat} {e:TypeId} {v:Value} {xs:List Value} (h:w.ownsRow base e n v m xs):∃ a cap,v = .slice a m cap /\ m <= cap:=by
 rcases h.2 with ⟨rfl,hn⟩ | ⟨g,cap,cur,hv,_,_,hc,_⟩
 ·exact ⟨none,0,by rw [hn],by omega⟩
 ·exact ⟨_,cap,hv,hc⟩
theorem row7_at {w:World} {base n m cap i:Nat} {a:Option Addr} {e:TypeId} {xs:List Value} {u:Value} (h:w.ownsRow base e n (.slice a m cap) m xs) (hu:xs[i]? = some u):∃ g,a = some ⟨g,0,none⟩ /\ base <= g /\ g < w.heap.size /\ w.cell? ⟨g,i,none⟩ = some u /\ w.frozen? ⟨g,i,none⟩ = false:=by
 rcases h.2 with ⟨hv,hn⟩ | ⟨g,cap',cur,hv,hb,hg,hn,hc,hs,ht⟩
 ·have h1:xs.length = 0:=by rw [h.1,hn,Nat.zero_mul]
  have:=(List.getElem?_eq_some_iff.1 hu).1
  omega
 ·simp only [Value.slice.injEq] at hv
  obtain ⟨rfl, -,rfl⟩:=hv
  refine ⟨g,rfl,hb,(Array.getElem?_eq_some_iff.1 hg).1, ?_,by simp [World.frozen?,hg]⟩
  rw [cell_of_row _ _ _ _ _ _ hg, <- Array.getElem?_toList]
  have h1:(cur.toList.take (m * n))[i]? = xs[i]? := by rw [ht]
  rw [List.getElem?_take_of_lt (by have:=(List.getElem?_eq_some_iff.1 hu).1;have:=h.1;omega)] at h1
  rw [h1,hu]
end Go.Proofs.YtcpjiahdaplhlaaGreatDoor
namespace Go.Proofs.YtcpjiahdaplhlaaGreatDoor
open Go.RowKit
def rawE (v:Value):Option (DataW Value × List MemPlace):=some (.held v,[])
def kS (s:ByteArray):Lit:=.string s.data.toList
theorem kS_inj {s t:ByteArray} (h:kS s = kS t):s = t:=by
 unfold kS at h
 injection h with h
 obtain ⟨⟨a⟩⟩:=s
 obtain ⟨⟨b⟩⟩:=t
 simp at h
 rw [h]
theorem kS_key (s:ByteArray):WideAt.IsKeyLit (kS s):=by trivial
theorem owns_tight {w:World} {b n:Nat} {D:DataW Value} {P:Program} {k:TypeId} (h:w.ownsMap P k rawE b n D):w.ownsMap P k rawE b (Maps.size D) D:=by
 obtain ⟨es,clock,hb,F,hs,hD⟩:=h
 exact ⟨es,clock,hb,F,by rw [hD];simp [Maps.size,length_sorted],hD⟩
structure Mp (P:Program) (k:TypeId) (w:World) (b n:Nat) (f:ByteArray -> Option Value):Prop where
 ex:∃ D:DataW Value,w.ownsMap P k rawE b n D /\ Maps.Tidy D /\ Maps.size D = n /\ ∀ s,Maps.has D (kS s) = (f s).isSome /\ ∀ v,f s = some v -> ∀ z,D.atKey (kS s) z = .held v
theorem Mp.lt {P:Program} {k:TypeId} {w:World} {b n:Nat} {f:ByteArray -> Option Value} (h:Mp P k w b n f):b < w.heap.size:=by
 obtain ⟨D,h1, -⟩:=h.ex
 exact h1.lt
theorem Mp.made (P:Program) (k:TypeId) (w:World):Mp P k (w.alloc (.map #[] 0)) w.heap.size 0 fun _=>none:=
 ⟨.map [],World.ownsMap_made w P k rawE,Maps.tidy_empty,rfl,fun s=>⟨rfl,fun v hv=>by cases hv⟩⟩
theorem Mp.same {P:Program} {k:TypeId} {w w':World} {b n:Nat} {f:ByteArray -> Option Value} (h:Mp P k w b n f) (hb:w'.heap[b]? = w.heap[b]?):Mp P k w' b n f:=by
 obtain ⟨D,⟨es,clock,h1,r⟩,h2⟩:=h.ex
 exact ⟨D,⟨es,clock,hb.trans h1,r⟩,h2⟩
theorem Mp.fr {P:Program} {k:TypeId} {Q:Nat -> Prop} {w w':World} {b n:Nat} {f:ByteArray -> Option Value} (h:Mp P k w b n f) (hf:Fr Q w w') (hn:¬ Q b):Mp P k w' b n f:=h.same (hf.block b h.lt hn)
theorem Mp.has {P:Program} {k T E:TypeId} {w:World} {b n:Nat} {f:ByteArray -> Option Value} (h:Mp P k w b n f) (hk:P.underlying k = some .string) (hT:P.underlying T = some (.map k E)) {z:Value} (hz:(zeroValue E).run P w = .ok z w) {s:ByteArray} (hs:s.size <= maxLen) :
  (Instr.lookup T (.map (some b)) (.string s) true).run P w = .ok (.tuple #[(f s).getD z,.bool (f s).isSome]) w:=by
 obtain ⟨D,h1,h2,h3,h4⟩:=h.ex
 obtain ⟨v,ps,hr,hv⟩:=h1.look_ok (Maps.string_keyed hk) hT hz (show rawE z = some (.held z,[]) from rfl) (key:=.string s) (kl:=kS s) (WideMaps.keyOf_string_mk hk hs)
 rw [hr,(h4 s).1]
 have e:DataW.held v = D.atKey (kS s) (.held z):=by
  have:=congrArg (Option.map Prod.fst) hv
  simpa [rawE] using this
 have e2:v = (f s).getD z:=by
  cases hf:f s with
  | some u=>rw [(h4 s).2 u hf] at e;injection e
  | none=>
   have hh:=(h4 s).1
   rw [hf] at hh
   rw [Maps.atKey_of_not_has hh] at e
   injection e
 rw [e2]
def mput (f:ByteArray -> Option Value) (s:ByteArray) (v:Value):ByteArray -> Option Value:=fun x=>if x = s then some v else f x
theorem Mp.store {P:Program} {k T E:TypeId} {w:World} {b n:Nat} {f:ByteArray -> Option Value} (h:Mp P k w b n f) (hk:P.underlying k = some .string) (hT:P.underlying T = some (.map k E)) (hn:n < maxLen) {s:ByteArray} (hs:s.size <= maxLen) (v:Value) :
  ∃ w',(Instr.mapUpdate T (.map (some b)) (.string s) v).run P w = .ok () w' /\ Mp P k w' b (if (f s).isSome then n else n + 1) (mput f s v) /\ w.grownBy w' (some b):=by
 obtain ⟨D,h1,h2,h3,h4⟩:=h.ex
 obtain ⟨w',hr,ho,ht⟩:=h1.store (Maps.string_keyed hk) hT hn (key:=.string s) (kl:=kS s) (WideMaps.keyOf_string_mk hk hs) (show rawE v = some (.held v,[]) from rfl)
 have hsz:Maps.size (D.put (kS s) (.held v)) = if (f s).isSome then n else n + 1:=by rw [Maps.size_put h2,(h4 s).1,h3]
 have ho':=owns_tight ho
 rw [hsz] at ho'
 refine ⟨w',hr,⟨_,ho',h2.put (kS_key s) _,hsz,fun x=>?_⟩,ht.grown⟩
 by_cases e:x = s
 ·subst e
  refine ⟨by rw [Maps.has_put_same h2.isMap (kS_key _)];simp [mput],fun u hu z=>?_⟩
  have hu:some v = some u:=by simpa [mput] using hu
  cases hu
  exact Maps.atKey_put_same h2.isMap (kS_key _) _ _
 ·have hne:kS x ≠ kS s:=fun h=>e (kS_inj h)
  refine ⟨by rw [Maps.has_put_other hne,(h4 x).1];simp [mput,e],fun u hu z=>?_⟩
  simp only [mput,if_neg e] at hu
  rw [Maps.atKey_put_other hne]
  exact (h4 x).2 u hu z
end Go.Proofs.YtcpjiahdaplhlaaGreatDoor
namespace Go.Proofs.YtcpjiahdaplhlaaGreatDoor
open Go.RowKit
attribute [local go_sem ↓] Go.wp_at_zero Go.wp_at_succ
def Nm5 (w:World) (v:Value) (cs:List Int):Prop:=∃ b cap,v = .slice (some ⟨b,0,none⟩) cs.length cap /\ cs.length <= 100 /\ ∀ (i:Nat) (x:Int),cs[i]? = some x -> w.cell? ⟨b,i,none⟩ = some (.int .i64 x)
set_option maxRecDepth 20000 in
set_option maxHeartbeats 1000000 in
theorem index5_any (cs:List Int) (v:Value) (n:Int) (w:World) (h:Nm5 w v cs) :
  Calls Tryz.prog 161 #[v,.int .i64 n] w fun e w'=>w' = w /\ ∃ k:Int,e = .returned (.int .i64 k) /\ (0 <= k ↔ n ∈ cs):=by
 obtain ⟨b,cap,rfl,h100,hc⟩:=h
 have HC:Hid (∀ (i:Nat) (x:Int),cs[i]? = some x -> w.cell? ⟨b,i,none⟩ = some (.int .i64 x)):=hc
 clear hc
 go_enter Tryz.func161,Tryz.ntmps161
 go_wp2
 go_loopg [8] cs.length (fun j' i wr=>wr = w /\ ∃ j:Nat,j + j' = cs.length /\ i = .int .i64 j /\ n ∉ cs.take j)
 case atStart=>exact ⟨rfl,0,by omega,rfl,by simp⟩
 case round=>
  obtain ⟨rfl,j,hj,rfl,hno⟩:=hrel
  have HN:Hid (n ∉ cs.take j):=hno
  clear hno
  cases gk with
  | succ g'=>
   have hlt:j < cs.length:=by omega
   obtain ⟨x,hx⟩:∃ x,cs[j]? = some x:=⟨_,List.getElem?_eq_getElem hlt⟩
   have c0:=HC.out j x hx
   have i1:(0:Int) <= (j:Int):=by omega
   have i2:(j:Int) < (cs.length:Int):=by omega
   have HX:Hid (cs[j]? = some x):=hx
   clear hx
   by_cases he:n = x
   ·subst he
    go_wp2
    go_ret
    exact ⟨rfl,_,rfl,⟨fun _=>List.mem_of_getElem? HX.out,fun _=>by omega⟩⟩
   ·have he':(n == x) = false:=beq_eq_false_iff_ne.2 he
    have HE:Hid (n ≠ x):=he
    clear he
    go_wp2
    go_roundg g'
    case measure=>omega
    case rel=>
     refine ⟨rfl,j + 1,by omega,by go_num, ?_⟩
     rw [List.take_add_one,HX.out]
     intro hm
     rcases List.mem_append.1 hm with hm | hm
     ·exact HN.out hm
     ·simp at hm;exact HE.out hm
  | zero=>
   obtain rfl:j = cs.length:=by omega
   have hz:¬ ((cs.length:Int) < (cs.length:Int)):=by omega
   go_wp2
   go_ret
   refine ⟨rfl,_,rfl,⟨fun h=>by omega,fun h=>?_⟩⟩
   have:=HN.out
   rw [List.take_length] at this
   exact absurd h this
set_option maxRecDepth 20000 in
set_option maxHeartbeats 1000000 in
theorem cont5_any (cs:List Int) (v:Value) (n:Int) (w:World) (h:Nm5 w v cs) :
  Calls Tryz.prog 123 #[v,.int .i64 n] w fun e w'=>e = .returned (.bool (decide (n ∈ cs))) /\ w' = w:=by
 have HI:Hid (Calls Tryz.prog 161 #[v,.int .i64 n] w fun e w'=>w' = w /\ ∃ k:Int,e = .returned (.int .i64 k) /\ (0 <= k ↔ n ∈ cs)):=index5_any cs v n w h
 clear h
 by_cases hm:n ∈ cs
 ·rw [decide_eq_true hm]
  go_enter Tryz.func123,Tryz.ntmps123
  go_wp2_with (go_at_call 161;refine HI.out.mono ?_;rintro e w1 ⟨rfl,k,rfl,hk⟩;have hk':=hk.2 hm;clear hk)
  go_ret
  exact ⟨rfl,rfl⟩
 ·rw [decide_eq_false hm]
  go_enter Tryz.func123,Tryz.ntmps123
  go_wp2_with (go_at_call 161;refine HI.out.mono ?_;rintro e w1 ⟨rfl,k,rfl,hk⟩;have hk':¬ 0 <= k:=fun h=>hm (hk.1 h);clear hk)
  go_ret
  exact ⟨ret_b (decide_eq_false (by omega)),rfl⟩
end Go.Proofs.YtcpjiahdaplhlaaGreatDoor
namespace Go.Proofs.YtcpjiahdaplhlaaGreatDoor
open Go.RowKit
attribute [local go_sem ↓] Go.wp_at_zero Go.wp_at_succ
structure Ps where
 nx:Nat
 op:Nat
 vs:Nat
 nm:ByteArray -> Option Nat
abbrev R5 (α:Type):=Except (Int × Int) (α × Ps)
def R5.and {α β:Type} (r:R5 α) (f : α -> Ps -> R5 β):R5 β:=match r with
 | .error e=>.error e
 | .ok (a,s)=>f a s
def kd5 (T:List Tk) (s:Ps) (k:Nat):Int:=((T[s.nx + k]?).map Tk.k).getD 0
def pl5 (T:List Tk) (L:Nat) (s:Ps):Int:=((T[s.nx]?).map Tk.a).getD (L:Int)
def tk5 (T:List Tk) (L:Nat) (ks:List Int) (s:Ps):R5 Tk:=match T[s.nx]? with
 | some t=>if t.k ∈ ks then .ok (t,⟨s.nx + 1,s.op,s.vs,s.nm⟩) else .error (51,t.a)
 | none=>.error (51,(L:Int))
def Tz (F:Nat -> Prop) (w:World) (v:Value) (T:List Tk):Prop:=
 ∃ a cap,v = .slice a T.length cap /\ (T = [] ∨ ∃ b,a = some ⟨b,0,none⟩ /\ b < w.heap.size /\ F b /\ ∀ (i:Nat) (t:Tk),T[i]? = some t -> w.cell? ⟨b,i * 5,none⟩ = some (.int .i64 t.k) /\ w.cell? ⟨b,i * 5 + 1,none⟩ = some (.string t.x) /\ w.cell? ⟨b,i * 5 + 2,none⟩ = some (.int .i64 t.n) /\ w.cell? ⟨b,i * 5 + 3,none⟩ = some (.int .i64 t.a) /\ w.cell? ⟨b,i * 5 + 4,none⟩ = some (.int .i64 t.e))
theorem Tz.fr {F P:Nat -> Prop} {w w':World} {v:Value} {T:List Tk} (h:Tz F w v T) (hf:Fr P w w') (hn:∀ b,b < w.heap.size -> F b -> ¬ P b):Tz F w' v T:=by
 obtain ⟨a,cap,rfl,h⟩:=h
 refine ⟨a,cap,rfl,h.imp id ?_⟩
 rintro ⟨b,rfl,h1,h2,h3⟩
 refine ⟨b,rfl,Nat.lt_of_lt_of_le h1 hf.size,h2,fun i t ht=>?_⟩
 obtain ⟨c0,c1,c2,c3,c4⟩:=h3 i t ht
 exact ⟨hf.cell h1 (hn b h1 h2) c0,hf.cell h1 (hn b h1 h2) c1,hf.cell h1 (hn b h1 h2) c2,hf.cell h1 (hn b h1 h2) c3,hf.cell h1 (hn b h1 h2) c4⟩
theorem Tz.mono {F G:Nat -> Prop} {w:World} {v:Value} {T:List Tk} (h:Tz F w v T) (hg:∀ b,b < w.heap.size -> F b -> G b):Tz G w v T:=by
 obtain ⟨a,cap,rfl,h⟩:=h
 exact ⟨a,cap,rfl,h.imp id fun ⟨b,h0,h1,h2,h3⟩=>⟨b,h0,h1,hg b h1 h2,h3⟩⟩
structure Tok5 (T:List Tk) (L:Nat):Prop where
 l:T.length <= 2000000
 L:L <= 2000000
 x:∀ t ∈ T,t.x.size <= 2000000
def opsV:Array Value:=#[.int .i64 13,.int .i64 1,.string ⟨#[61]⟩,.int .i64 14,.int .i64 2,.string ⟨#[33,61]⟩,.int .i64 15,.int .i64 3,.string ⟨#[60]⟩,.int .i64 16,.int .i64 4,.string ⟨#[60,61]⟩]
def OpsOk (w:World):Prop:=∃ t fr,w.heap[3]? = some (.cells opsV t fr)
theorem OpsOk.lt {w:World} (h:OpsOk w):3 < w.heap.size:=by
 obtain ⟨t,fr,h⟩:=h
 exact (Array.getElem?_eq_some_iff.1 h).1
theorem OpsOk.fr {P:Nat -> Prop} {w w':World} (h:OpsOk w) (hf:Fr P w w') (hn:¬ P 3):OpsOk w':=by
 have hl:=h.lt
 obtain ⟨t,fr,h⟩:=h
 exact ⟨t,fr,(hf.block _ hl hn).trans h⟩
theorem OpsOk.cell {w:World} (h:OpsOk w) {i:Nat} {v:Value} (hv:opsV[i]? = some v):w.cell? ⟨3,i,none⟩ = some v:=by
 obtain ⟨t,fr,h⟩:=h
 simp [World.cell?,h,hv]
structure Pk where
 g:Nat
 mb:Nat
 N:Nat
 tv:Value
 T:List Tk
 L:Nat
structure PZ (c:Pk) (w:World) (s:Ps):Prop where
 b:Bk w c.g #[c.tv,.int .i64 (s.nx:Int),.int .i64 (c.L:Int),.int .i64 (s.op:Int),.map (some c.mb),.int .i64 (s.vs:Int)] 109
 t:Tz (fun b=>b ≠ c.g /\ b ≠ c.mb /\ b < c.N) w c.tv c.T
 m:∃ n,n <= s.vs /\ Mp Tryz.prog 9 w c.mb n fun x=>(s.nm x).map fun k=>.int .i64 (k:Int)
 le:s.nx <= c.T.length
 vb:s.vs <= s.nx
 ob:s.op <= 16
 ne:c.g ≠ c.mb
 gN:c.g < c.N
 mN:c.mb < c.N
 Nw:c.N <= w.heap.size
 ok:Tok5 c.T c.L
 o:OpsOk w
 og:c.g ≠ 3 /\ c.mb ≠ 3 /\ 3 < c.N
theorem PZ.fr {P:Nat -> Prop} {c:Pk} {w w':World} {s:Ps} (h:PZ c w s) (hf:Fr P w w') (hn:∀ b,b < c.N -> ¬ P b):PZ c w' s:=by
 obtain ⟨n,hn1,hm⟩:=h.m
 exact ⟨h.b.fr hf (hn _ h.gN),h.t.fr hf fun b _ hF=>hn b hF.2.2,⟨n,hn1,hm.fr hf (hn _ h.mN)⟩,h.le,h.vb,h.ob,h.ne,h.gN,h.mN,Nat.le_trans h.Nw hf.size,h.ok,h.o.fr hf (hn _ h.og.2.2),h.og⟩
theorem PZ.below {c:Pk} {w w':World} {s:Ps} (h:PZ c w s) (hb:Below w.heap.size w w'):PZ c w' s:=
 h.fr (P:=fun _=>False) (Fr.of hb) fun _ _ h=>h
theorem PZ.off {c:Pk} {w:World} {s:Ps} {r i:Nat} {v:Value} (h:PZ c w s) (hr:c.N <= r):PZ c (w.setCell ⟨r,i,none⟩ v) s:=
 h.fr (P:=fun b=>b = r) ((Fr.refl _ w).set (Or.inl rfl)) fun b hb e=>by omega
def W5 (c:Pk) (b:Nat):Prop:=b = c.g ∨ b = c.mb
theorem PZ.put {c:Pk} {w w':World} {nx op vs:Nat} {s:Ps} (h:PZ c w s) (hf:Fr (fun b=>b = c.g) w w') (hb:Bk w' c.g #[c.tv,.int .i64 (nx:Int),.int .i64 (c.L:Int),.int .i64 (op:Int),.map (some c.mb),.int .i64 (vs:Int)] 109) (h1:nx <= c.T.length) (h2:vs <= nx) (h3:op <= 16) (h4:s.vs <= vs):PZ c w' ⟨nx,op,vs,s.nm⟩:=by
 obtain ⟨n,hn1,hm⟩:=h.m
 exact ⟨hb,h.t.fr hf fun b _ hF e=>hF.1 e,⟨n,Nat.le_trans hn1 h4,hm.fr hf fun e=>h.ne e.symm⟩,h1,h2,h3,h.ne,h.gN,h.mN,Nat.le_trans h.Nw hf.size,h.ok,h.o.fr hf fun e=>h.og.1 e.symm,h.og⟩
def pF (e:Int × Int):PanicEntry:={ v:=.iface 26 (.agg #[.int .i64 e.1,.int .i64 e.2]),recovered:=false }
theorem giveUp5_any (c a:Int) (w:World):Calls Tryz.prog 86 #[.int .i64 c,.int .i64 a] w fun e w'=>e = .panicked [pF (c,a)] /\ w' = w:=by
 go_enter Tryz.func86,Tryz.ntmps86
 go_wp2
 exact ⟨rfl,rfl,rfl⟩
def P5P {α:Type} (c:Pk) (w:World) (V : α -> Value -> World -> Prop) (r:R5 α) (e:Ending) (w':World):Prop:=
 Fr (W5 c) w w' /\ match r with
  | .error f=>e = .panicked [pF f]
  | .ok (a,s)=>∃ v,e = .returned v /\ V a v w' /\ PZ c w' s
theorem P5P.err {α:Type} {c:Pk} {w:World} {V : α -> Value -> World -> Prop} {r:R5 α} {f:Int × Int} {fn:Nat} {args:Array Value} (h:Calls Tryz.prog fn args w (P5P c w V r)) (hr:r = .error f):Calls Tryz.prog fn args w fun e w'=>e = .panicked [pF f] /\ Fr (W5 c) w w':=by
 subst hr
 exact h.mono fun e w' ⟨h1,h2⟩=>⟨h2,h1⟩
theorem P5P.ok {α:Type} {c:Pk} {w:World} {V : α -> Value -> World -> Prop} {r:R5 α} {a : α} {s:Ps} {fn:Nat} {args:Array Value} (h:Calls Tryz.prog fn args w (P5P c w V r)) (hr:r = .ok (a,s)):Calls Tryz.prog fn args w fun e w'=>∃ v,e = .returned v /\ V a v w' /\ PZ c w' s /\ Fr (W5 c) w w':=by
 subst hr
 exact h.mono fun e w' ⟨h1,v,h2,h3,h4⟩=>⟨v,h2,h3,h4,h1⟩
set_option maxRecDepth 20000 in
set_option maxHeartbeats 1000000 in
theorem kind5_any (k:Nat) (hk:k <= 1) (c:Pk) (s:Ps) (w:World) (h:PZ c w s) :
  Calls Tryz.prog 124 #[.pointer (some ⟨c.g,0,none⟩),.int .i64 (k:Int)] w fun e w'=>e = .returned (.int .i64 (kd5 c.T s k)) /\ Below w.heap.size w w':=by
 have hT:=h.ok
 obtain ⟨g,mb,N,tv,T,L⟩:=c
 dsimp only at hT ⊢
 have hl:=hT.l
 have hle:=h.le
 have c0:=h.b.cell (i:=0) rfl
 have c1:=h.b.cell (i:=1) rfl
 obtain ⟨a,cap,htv,ht⟩:=h.t
 dsimp only at htv ht c0 c1 hle
 subst htv
 obtain ⟨R,hR⟩:∃ R,kd5 T s k = R:=⟨_,rfl⟩
 rw [hR]
 have HR:=hm7 hR
 have HT:=hm7 ht
 obtain ⟨tn,htn⟩:∃ tn,T.length = tn:=⟨_,rfl⟩
 rw [htn] at hl hle c0
 have HN:=hm7 htn
 obtain ⟨nx,hnx⟩:∃ nx,s.nx = nx:=⟨_,rfl⟩
 rw [hnx] at hle c1
 have HX:=hm7 hnx
 clear h hR ht htn hnx hT
 obtain ⟨q,hq⟩:∃ q,nx + k = q:=⟨_,rfl⟩
 have hqk:(nx:Int) + (k:Int) = (q:Int):=by omega
 by_cases hlt:q < tn
 ·obtain ⟨t,htt⟩:∃ t,T[q]? = some t:=⟨T[q]'(by rw [HN.out];exact hlt),List.getElem?_eq_getElem _⟩
  have hRk:t.k = R:=by rw [<- HR.out];unfold kd5;rw [HX.out,hq,htt];rfl
  subst hRk
  rcases HT.out with e | ⟨b,rfl,hb, -,hc⟩
  ·rw [e] at htt;simp at htt
  have q0:=(hc q t htt).1
  have i1:(q:Int) < (tn:Int):=by omega
  have i2:¬ (tn:Int) <= (q:Int):=by omega
  have i3:(0:Int) <= (q:Int):=by omega
  clear hc htt HT HR hq
  go_enter Tryz.func124,Tryz.ntmps124
  go_wp2
  go_quiet (fail)
  go_wp2
  go_quiet (fail)
  go_wp2
  go_ret
  exact ⟨rfl,below_drewN (below_drewN (Below.refl _ _) _) _⟩
 ·have hRk:R = 0:=by rw [<- HR.out];unfold kd5;rw [HX.out,hq,List.getElem?_eq_none (by rw [HN.out];omega)];rfl
  subst hRk
  have i1:¬ (q:Int) < (tn:Int):=by omega
  have i2:(tn:Int) <= (q:Int):=by omega
  clear HT HR hq
  go_enter Tryz.func124,Tryz.ntmps124
  go_wp2
  go_quiet (fail)
  go_wp2
  go_ret
  exact ⟨rfl,below_drewN (Below.refl _ _) _⟩
set_option maxRecDepth 20000 in
set_option maxHeartbeats 1000000 in
theorem place5_any (c:Pk) (s:Ps) (w:World) (h:PZ c w s) :
  Calls Tryz.prog 87 #[.pointer (some ⟨c.g,0,none⟩)] w fun e w'=>e = .returned (.int .i64 (pl5 c.T c.L s)) /\ Below w.heap.size w w':=by
 have hT:=h.ok
 obtain ⟨g,mb,N,tv,T,L⟩:=c
 dsimp only at hT ⊢
 have hl:=hT.l
 have hle:=h.le
 have c0:=h.b.cell (i:=0) rfl
 have c1:=h.b.cell (i:=1) rfl
 have c2:=h.b.cell (i:=2) rfl
 obtain ⟨a,cap,htv,ht⟩:=h.t
 dsimp only at htv ht c0 c1 c2 hle
 subst htv
 obtain ⟨R,hR⟩:∃ R,pl5 T L s = R:=⟨_,rfl⟩
 rw [hR]
 have HR:=hm7 hR
 have HT:=hm7 ht
 obtain ⟨tn,htn⟩:∃ tn,T.length = tn:=⟨_,rfl⟩
 rw [htn] at hl hle c0
 have HN:=hm7 htn
 obtain ⟨nx,hnx⟩:∃ nx,s.nx = nx:=⟨_,rfl⟩
 rw [hnx] at hle c1
 have HX:=hm7 hnx
 clear h hR ht htn hnx hT
 by_cases hlt:nx < tn
 ·obtain ⟨t,htt⟩:∃ t,T[nx]? = some t:=⟨T[nx]'(by rw [HN.out];exact hlt),List.getElem?_eq_getElem _⟩
  have hRk:t.a = R:=by rw [<- HR.out];unfold pl5;rw [HX.out,htt];rfl
  subst hRk
  rcases HT.out with e | ⟨b,rfl,hb, -,hc⟩
  ·rw [e] at htt;simp at htt
  have q3:=(hc nx t htt).2.2.2.1
  have i1:(nx:Int) < (tn:Int):=by omega
  have i2:((nx:Int) == (tn:Int)) = false:=by simp;omega
  have i3:(0:Int) <= (nx:Int):=by omega
  clear hc htt HT HR
  go_enter Tryz.func87,Tryz.ntmps87
  go_wp2
  go_quiet (fail)
  go_wp2
  go_quiet (fail)
  go_wp2
  go_ret
  exact ⟨rfl,below_drewN (below_drewN (Below.refl _ _) _) _⟩
 ·obtain rfl:nx = tn:=by omega
  have hRk:(L:Int) = R:=by rw [<- HR.out];unfold pl5;rw [HX.out,List.getElem?_eq_none (by rw [HN.out];omega)];rfl
  subst hRk
  clear HT HR
  go_enter Tryz.func87,Tryz.ntmps87
  go_wp2
  go_quiet (fail)
  go_wp2
  go_ret
  exact ⟨rfl,below_drewN (Below.refl _ _) _⟩
end Go.Proofs.YtcpjiahdaplhlaaGreatDoor

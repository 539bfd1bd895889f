import Derived.Test.YtcpjiahdaplhlaaGreatDoorK7
import Derived.Test.YtcpjiahdaplhlaaGreatDoorK9
import Derived.Lib.AppendStr
import Derived.Lib.ItoaMem
namespace Go.Proofs.YtcpjiahdaplhlaaGreatDoor
open Go.RowKit
def Ks (w:World) (v:Value) (l:List Tk):Prop:=
 ∃ a cap,v = .slice a l.length cap /\ (l = [] ∨ ∃ b o,a = some ⟨b,o,none⟩ /\ b < w.heap.size /\ ∀ (i:Nat) (t:Tk),l[i]? = some t -> w.cell? ⟨b,o + i * 5,none⟩ = some (.int .i64 t.k) /\ w.cell? ⟨b,o + i * 5 + 1,none⟩ = some (.string t.x) /\ w.cell? ⟨b,o + i * 5 + 2,none⟩ = some (.int .i64 t.n) /\ w.cell? ⟨b,o + i * 5 + 3,none⟩ = some (.int .i64 t.a) /\ w.cell? ⟨b,o + i * 5 + 4,none⟩ = some (.int .i64 t.e))
theorem kcs_get (l:List Tk) (i:Nat) (t:Tk) (h:l[i]? = some t):(kcs l)[i * 5]? = some (.int .i64 t.k) /\ (kcs l)[i * 5 + 1]? = some (.string t.x) /\ (kcs l)[i * 5 + 2]? = some (.int .i64 t.n) /\ (kcs l)[i * 5 + 3]? = some (.int .i64 t.a) /\ (kcs l)[i * 5 + 4]? = some (.int .i64 t.e):=by
 have hi:=(List.getElem?_eq_some_iff.1 h).1
 have e:l = l.take i ++ t :: l.drop (i + 1):=by
  have:=(List.getElem?_eq_some_iff.1 h).2
  rw [<- this, <- List.drop_eq_getElem_cons hi,List.take_append_drop]
 have hl:(kcs (l.take i)).length = i * 5:=by rw [kcs_len,List.length_take];omega
 have e2:kcs l = kcs (l.take i) ++ ([.int .i64 t.k,.string t.x,.int .i64 t.n,.int .i64 t.a,.int .i64 t.e] ++ kcs (l.drop (i + 1))):=by
  conv=>lhs;rw [e]
  rw [kcs_app];rfl
 rw [e2]
 refine ⟨?_, ?_, ?_, ?_, ?_⟩
 all_goals
  rw [List.getElem?_append_right (by omega),hl]
  simp
theorem OwnK.ks {w:World} {base:Nat} {v:Value} {l:List Tk} (h:OwnK w base v l):Ks w v l:=by
 rcases h.2 with ⟨hv,hn⟩ | ⟨g,cap,cur,hv, -,hg, -, -, -,ht⟩
 ·have:l = []:=List.eq_nil_of_length_eq_zero hn
  subst this
  exact ⟨none,0,hv,Or.inl rfl⟩
 ·refine ⟨some ⟨g,0,none⟩,cap,hv,Or.inr ⟨g,0,rfl,(Array.getElem?_eq_some_iff.1 hg).1,fun i t hi=>?_⟩⟩
  have hc:∀ (j:Nat) (u:Value),(kcs l)[j]? = some u -> w.cell? ⟨g,0 + j,none⟩ = some u:=fun j u hj=>by
   have:=World.ownsRow.cells h (g:=g) (by rw [hv];rfl) j u hj
   rw [Addr.add_mid] at this
   exact this
  obtain ⟨h0,h1,h2,h3,h4⟩:=kcs_get l i t hi
  exact ⟨hc _ _ h0,hc _ _ h1,hc _ _ h2,hc _ _ h3,hc _ _ h4⟩
def gp (p:Option Tk) (t:Tk):List Int:=match p with
 | some q=>if grw q t = true then [32] else []
 | none=>[]
def jnA:Option Tk -> List Tk -> List Int -> Option (List Int)
 | _,[],acc=>some acc
 | p,t :: r,acc=>match spl t with
  | none=>none
  | some s=>jnA (some t) r (acc ++ gp p t ++ blK s)
def jn (l:List Tk):Option (List Int):=jnA none l []
def pv (l:List Tk) (i:Nat):Option Tk:=if i = 0 then none else l[i - 1]?
def wt (t:Tk):Nat:=4 * t.x.size + 32
def wts (l:List Tk):Nat:=(l.map wt).sum
theorem sgo_size (k:Int):(sgo k).size <= 4:=by
 unfold sgo
 split
 ·have:∀ n:Nat,((signL[n]?).getD (⟨#[]⟩:ByteArray)).size <= 4:=fun n=>by
   rcases Nat.lt_or_ge n 17 with h | h
   ·have:∀ m:Fin 17,((signL[m.1]?).getD (⟨#[]⟩:ByteArray)).size <= 4:=by decide
    exact this ⟨n,h⟩
   ·rw [List.getElem?_eq_none (by rw [signL_len];exact h)];exact Nat.zero_le _
  exact this _
 ·exact Nat.zero_le _
def okt (t:Tk):Prop:=t.x.size <= 2000000 /\ -9223372036854775808 <= t.n /\ t.n <= 9223372036854775807
end Go.Proofs.YtcpjiahdaplhlaaGreatDoor
namespace Go.Proofs.YtcpjiahdaplhlaaGreatDoor
open Go.RowKit
def hB:ByteArray:=⟨#[112,40,88,41,58,45,34,97,34,32,115,97,121,115,32,113,44,32,88,60,61,45,55,46]⟩
def hT:List Tk:=[⟨1,⟨#[112]⟩,0,0,1⟩,⟨6,⟨#[]⟩,0,1,2⟩,⟨2,⟨#[88]⟩,0,2,3⟩,⟨7,⟨#[]⟩,0,3,4⟩,⟨11,⟨#[]⟩,0,4,6⟩,⟨3,⟨#[97]⟩,0,6,9⟩,⟨5,⟨#[]⟩,0,10,14⟩,⟨1,⟨#[113]⟩,0,15,16⟩,⟨8,⟨#[]⟩,0,16,17⟩,⟨2,⟨#[88]⟩,0,18,19⟩,⟨16,⟨#[]⟩,0,19,21⟩,⟨4,⟨#[]⟩, -7,21,23⟩,⟨10,⟨#[]⟩,0,23,24⟩]
end Go.Proofs.YtcpjiahdaplhlaaGreatDoor
namespace Go.Proofs.YtcpjiahdaplhlaaGreatDoor
theorem rl_cons (c:Int) (r:List Int):rl (c :: r) = if rnb c = true then rl r + 1 else 0:=rfl
theorem take_app_le (l y:List Int) (n:Nat) (h:n <= l.length):(l ++ y).take n = l.take n:=List.take_append_of_le_length h
theorem esc_take {l:List Int} {b:Int} {k:Nat} (h:esc l = some (b,k)) (y:List Int) (hy:l.take k = y.take k):esc y = some (b,k):=by
 have hr:=esc_rng h
 cases l with
 | nil=>cases h
 | cons c r=>
  obtain ⟨k,rfl⟩:∃ k',k = k' + 1:=⟨k - 1,by omega⟩
  cases y with
  | nil=>simp at hy
  | cons d z=>
   simp only [List.take_succ_cons,List.cons.injEq] at hy
   obtain ⟨rfl,hy⟩:=hy
   rw [esc_cons] at h ⊢
   by_cases q1:c = 34 ∨ c = 92
   ·rw [if_pos q1] at h ⊢;exact h
   ·rw [if_neg q1] at h ⊢
    by_cases q2:c = 110
    ·rw [if_pos q2] at h ⊢;exact h
    ·rw [if_neg q2] at h ⊢
     by_cases q3:c = 116
     ·rw [if_pos q3] at h ⊢;exact h
     ·rw [if_neg q3] at h ⊢
      by_cases q4:c = 120
      ·rw [if_pos q4] at h ⊢
       cases e:hex2 r with
       | none=>rw [e] at h;cases h
       | some x=>
        rw [e] at h
        simp only [Option.map_some,Option.some.injEq,Prod.mk.injEq] at h
        obtain ⟨rfl,hk⟩:=h
        obtain rfl:k = 2:=by omega
        match r,z,e,hy with
        | a :: a2 :: r',z,e,hy=>
         match z,hy with
         | [],hy=>simp at hy
         | [_],hy=>simp at hy
         | z1 :: z2 :: z',hy=>
          simp at hy
          obtain ⟨rfl,rfl⟩:=hy
          have e2:hex2 (a :: a2 :: z') = some x:=e
          rw [e2];rfl
      ·rw [if_neg q4] at h;cases h
theorem qd_ok:∀ (f:Nat) (r:List Int) (off:Nat) (acc:List Int) (k:Int) (x:List Int) (n:Int) (len:Nat),qd f r off acc = .ok k x n len →
  ∀ (f':Nat) (y:List Int),y.length < f' -> y.take (len - off) = r.take (len - off) -> qd f' y off acc = .ok k x n len
 | 0,_,_,_,_,_,_,_,h,_,_,_,_=>by cases h
 | _ + 1,[],_,_,_,_,_,_,h,_,_,_,_=>by cases h
 | f + 1,c :: r,off,acc,k,x,n,len,h,f',y,hf,hy=>by
  have hl:=(qd_len (f + 1) (c :: r) off acc).1 k x n len h
  obtain ⟨m,hm⟩:∃ m,len - off = m + 1:=⟨len - off - 1,by omega⟩
  rw [hm] at hy
  cases y with
  | nil=>simp at hy
  | cons d z=>
   simp only [List.take_succ_cons,List.cons.injEq] at hy
   obtain ⟨rfl,hy⟩:=hy
   obtain ⟨f',rfl⟩:∃ g,f' = g + 1:=⟨f' - 1,by omega⟩
   simp only [List.length_cons] at hf
   rw [qd_cons] at h ⊢
   by_cases q1:d = 34
   ·rw [if_pos q1] at h ⊢;exact h
   ·rw [if_neg q1] at h ⊢
    by_cases q2:d = 92
    ·rw [if_pos q2] at h ⊢
     cases ee:esc r with
     | none=>rw [ee] at h;cases h
     | some bk=>
      obtain ⟨b,kk⟩:=bk
      rw [ee] at h
      have hr:=esc_rng ee
      have hl2:=(qd_len f (r.drop kk) (off + 1 + kk) (acc ++ [b])).1 k x n len h
      have ez:esc z = some (b,kk):=esc_take ee z (by
       have:=congrArg (List.take kk) hy
       rw [List.take_take,List.take_take,Nat.min_eq_left (by omega)] at this
       exact this.symm)
      rw [ez]
      refine qd_ok f (r.drop kk) (off + 1 + kk) (acc ++ [b]) k x n len h f' (z.drop kk) (by rw [List.length_drop];omega) ?_
      have:=congrArg (List.drop kk) hy
      rw [List.drop_take,List.drop_take] at this
      rw [show len - (off + 1 + kk) = m - kk by omega]
      exact this
    ·rw [if_neg q2] at h ⊢
     by_cases q3:d < 32 ∨ d = 127
     ·rw [if_pos q3] at h;cases h
     ·rw [if_neg q3] at h ⊢
      exact qd_ok f r (off + 1) (acc ++ [d]) k x n len h f' z (by omega) (by rw [show len - (off + 1) = m by omega];exact hy)
end Go.Proofs.YtcpjiahdaplhlaaGreatDoor
namespace Go.Proofs.YtcpjiahdaplhlaaGreatDoor
theorem skG_none (x:ByteArray):∀ (l:List ByteArray) (i:Nat),(∀ t ∈ l,¬ t = x) -> skG i l x = 0
 | [],_,_=>rfl
 | t :: l,i,h=>by
  show (if t = x then i else skG (i + 1) l x) = 0
  rw [if_neg (h t (by simp)),skG_none x l (i + 1) (fun u hu=>h u (by simp [hu]))]
end Go.Proofs.YtcpjiahdaplhlaaGreatDoor
namespace Go.Proofs.YtcpjiahdaplhlaaGreatDoor
open Go.RowKit
theorem cutL_all (s:ByteArray):cutL (blK s) (s.size:Int) = ct (s.size + 1) (blK s) 0 []:=by
 unfold cutL;rw [bl_len,if_neg (by omega)]
theorem bl_append (s t:ByteArray):blK (s ++ t) = blK s ++ blK t:=by
 unfold blK
 rw [<- List.map_append]
 have:(s ++ t).data = s.data ++ t.data:=ByteArray.data_append
 rw [this,Array.toList_append]
end Go.Proofs.YtcpjiahdaplhlaaGreatDoor
namespace Go.Proofs.YtcpjiahdaplhlaaGreatDoor
open Go.RowKit
def gpS:Bool -> List Int -> Option Bool
 | b,[]=>some b
 | true,c :: r=>gpS (!decide (c = 10)) r
 | false,c :: r=>if c = 37 then gpS true r else if c = 32 ∨ c = 9 ∨ c = 10 ∨ c = 13 then gpS false r else none
def gpB (l:List Int) (e:Bool):Bool:=match gpS false l with
 | none=>false
 | some b=>!b || e
def Pl (l:List Int):Nat -> List Tk -> Prop
 | off,[]=>off <= l.length /\ gpB (l.drop off) true = true
 | off,t :: T=>∃ a len:Nat,t.a = (a:Int) /\ t.e = ((a + len:Nat):Int) /\ off <= a /\ 1 <= len /\ a + len <= l.length /\ gpB ((l.drop off).take (a - off)) false = true ∧
   (∀ f,len < f -> ct f ((l.drop a).take len) 0 [] = ([⟨t.k,t.x,t.n,0,(len:Int)⟩],0,0)) /\ Pl l (a + len) T
end Go.Proofs.YtcpjiahdaplhlaaGreatDoor
namespace Go.Proofs.YtcpjiahdaplhlaaGreatDoor
open Go.RowKit
def hxD (v:Int):Int:=if v < 10 then 48 + v else 55 + v
theorem hexv_hxd (v:Int) (h0:0 <= v) (h1:v <= 15):hexv (hxd v) = some v:=by
 unfold hexv hxd
 by_cases q:v < 10
 ·rw [if_pos q,if_pos (by omega)];congr 1;omega
 ·rw [if_neg q,if_neg (by omega),if_pos (by omega)];congr 1;omega
theorem hexv_hxD (v:Int) (h0:0 <= v) (h1:v <= 15):hexv (hxD v) = some v:=by
 unfold hexv hxD
 by_cases q:v < 10
 ·rw [if_pos q,if_pos (by omega)];congr 1;omega
 ·rw [if_neg q,if_neg (by omega),if_neg (by omega),if_pos (by omega)];congr 1;omega
def rep (c K:Int):List Int:=
 if K < 2 /\ (32 <= c /\ ¬ c = 127 /\ ¬ c = 34 /\ ¬ c = 92) then [c]
 else if K < 2 /\ (c = 34 ∨ c = 92) then [92,c]
 else if K < 2 /\ c = 10 then [92,110]
 else if K < 2 /\ c = 9 then [92,116]
 else if K = 3 then [92,120,hxD (c / 16),hxD (c % 16)]
 else [92,120,hxd (c / 16),hxd (c % 16)]
theorem qd_hex {f:Nat} {a b x y:Int} {r:List Int} {off:Nat} {acc:List Int} (ha:hexv a = some x) (hb:hexv b = some y):qd (f + 1) (92 :: 120 :: a :: b :: r) off acc = qd f r (off + 4) (acc ++ [x * 16 + y]):=by
 rw [qd_cons,if_neg (by decide),if_pos rfl]
 have e:esc (120 :: a :: b :: r) = some (x * 16 + y,3):=by
  rw [esc_cons,if_neg (by decide),if_neg (by decide),if_neg (by decide),if_pos rfl]
  simp [hex2,ha,hb]
 rw [e]
 rfl
theorem rep_step (c K:Int) (h0:0 <= c) (h1:c <= 255) (f:Nat) (r:List Int) (off:Nat) (acc:List Int):qd (f + 1) (rep c K ++ r) off acc = qd f r (off + (rep c K).length) (acc ++ [c]):=by
 unfold rep
 by_cases q1:K < 2 /\ (32 <= c /\ ¬ c = 127 /\ ¬ c = 34 /\ ¬ c = 92)
 ·rw [if_pos q1]
  show qd (f + 1) (c :: r) off acc = _
  rw [qd_cons,if_neg (by omega),if_neg (by omega),if_neg (by omega)];rfl
 ·rw [if_neg q1]
  by_cases q2:K < 2 /\ (c = 34 ∨ c = 92)
  ·rw [if_pos q2]
   show qd (f + 1) (92 :: c :: r) off acc = _
   rw [qd_cons,if_neg (by decide),if_pos rfl,esc_cons,if_pos q2.2];rfl
  ·rw [if_neg q2]
   by_cases q3:K < 2 /\ c = 10
   ·rw [if_pos q3]
    show qd (f + 1) (92 :: 110 :: r) off acc = _
    rw [qd_cons,if_neg (by decide),if_pos rfl,esc_cons,if_neg (by decide),if_pos rfl,q3.2];rfl
   ·rw [if_neg q3]
    by_cases q4:K < 2 /\ c = 9
    ·rw [if_pos q4]
     show qd (f + 1) (92 :: 116 :: r) off acc = _
     rw [qd_cons,if_neg (by decide),if_pos rfl,esc_cons,if_neg (by decide),if_neg (by decide),if_pos rfl,q4.2];rfl
    ·rw [if_neg q4]
     have e:c / 16 * 16 + c % 16 = c:=by omega
     by_cases q5:K = 3
     ·rw [if_pos q5]
      show qd (f + 1) (92 :: 120 :: hxD (c / 16) :: hxD (c % 16) :: r) off acc = _
      rw [qd_hex (hexv_hxD _ (by omega) (by omega)) (hexv_hxD _ (by omega) (by omega)),e];rfl
     ·rw [if_neg q5]
      show qd (f + 1) (92 :: 120 :: hxd (c / 16) :: hxd (c % 16) :: r) off acc = _
      rw [qd_hex (hexv_hxd _ (by omega) (by omega)) (hexv_hxd _ (by omega) (by omega)),e];rfl
theorem rep_len (c K:Int):0 < (rep c K).length /\ (rep c K).length <= 4:=by
 unfold rep
 repeat' split
 all_goals simp
def rpl (K:Nat -> Int):Nat -> List Int -> List Int
 | _,[]=>[]
 | i,c :: r=>rep c (K i) ++ rpl K (i + 1) r
theorem rpl_snoc (K:Nat -> Int):∀ (l:List Int) (i:Nat) (c:Int),rpl K i (l ++ [c]) = rpl K i l ++ rep c (K (i + l.length))
 | [],i,c=>by simp [rpl]
 | d :: l,i,c=>by
  show rep d (K i) ++ rpl K (i + 1) (l ++ [c]) = (rep d (K i) ++ rpl K (i + 1) l) ++ _
  rw [rpl_snoc K l (i + 1) c,List.append_assoc,List.length_cons,show i + 1 + l.length = i + (l.length + 1) by omega]
theorem rpl_len (K:Nat -> Int):∀ (l:List Int) (i:Nat),l.length <= (rpl K i l).length /\ (rpl K i l).length <= 4 * l.length
 | [],_=>by simp [rpl]
 | c :: l,i=>by
  have:=rpl_len K l (i + 1)
  have:=rep_len c (K i)
  simp only [rpl,List.length_append,List.length_cons];omega
theorem qd_rpl (K:Nat -> Int):∀ (l:List Int) (i f off:Nat) (acc:List Int),l.length < f -> byt l -> qd f (rpl K i l ++ [34]) off acc = .ok 3 (acc ++ l) 0 (off + (rpl K i l).length + 1)
 | [],i,f,off,acc,h,_=>by
  obtain ⟨f,rfl⟩:∃ g,f = g + 1:=⟨f - 1,by simp at h;omega⟩
  show qd (f + 1) [34] off acc = _
  rw [qd_cons,if_pos rfl];simp [rpl]
 | c :: l,i,f,off,acc,h,hb=>by
  simp only [List.length_cons] at h
  obtain ⟨f,rfl⟩:∃ g,f = g + 1:=⟨f - 1,by omega⟩
  have hc:=hb c (by simp)
  show qd (f + 1) ((rep c (K i) ++ rpl K (i + 1) l) ++ [34]) off acc = _
  rw [List.append_assoc,rep_step c (K i) hc.1 hc.2,qd_rpl K l (i + 1) f _ _ (by omega) (fun y hy=>hb y (by simp [hy]))]
  simp only [rpl,List.append_assoc,List.length_append,List.cons_append,List.nil_append]
  congr 1;omega
def kq (c:Int):Int:=if (c < 32 /\ ¬ c = 10 /\ ¬ c = 9) ∨ 126 < c then 2 else 0
theorem qb_rep (c:Int):qb c = rep c (kq c):=by
 unfold qb rep kq
 by_cases q:(c < 32 /\ ¬ c = 10 /\ ¬ c = 9) ∨ 126 < c
 ·rw [if_pos q,if_neg (by omega),if_neg (by omega),if_neg (by omega),if_neg (by omega),if_neg (by omega),if_neg (by omega),if_neg (by omega),if_neg (by omega),if_neg (by omega)]
 ·rw [if_neg q]
  by_cases q1:c = 34 ∨ c = 92
  ·rw [if_pos q1,if_neg (by omega),if_pos ⟨by omega,q1⟩]
  ·rw [if_neg q1]
   by_cases q2:c = 10
   ·rw [if_pos q2,if_neg (by omega),if_neg (by omega),if_pos ⟨by omega,q2⟩]
   ·rw [if_neg q2]
    by_cases q3:c = 9
    ·rw [if_pos q3,if_neg (by omega),if_neg (by omega),if_neg (by omega),if_pos ⟨by omega,q3⟩]
    ·rw [if_neg q3,if_pos (by omega),if_pos (by omega)]
theorem take_snoc (s:ByteArray) (j:Nat) (h:j < s.size):(blK s).take (j + 1) = (blK s).take j ++ [atK_ s j]:=by
 have hl:j < (blK s).length:=by rw [bl_len];exact h
 have e:=bl_drop h
 rw [List.drop_eq_getElem_cons hl] at e
 rw [List.take_succ_eq_append_getElem hl,(List.cons.inj e).1]
theorem qtl_rpl (s:ByteArray):∀ j,j <= s.size -> qtl s j = 34 :: rpl (fun i=>kq (atK_ s i)) 0 ((blK s).take j)
 | 0,_=>by simp [qtl,rpl]
 | j + 1,h=>by
  rw [qtl_succ,qtl_rpl s j (by omega),take_snoc s j (by omega),rpl_snoc,qb_rep]
  have:((blK s).take j).length = j:=by rw [List.length_take,bl_len];omega
  rw [this,Nat.zero_add];rfl
end Go.Proofs.YtcpjiahdaplhlaaGreatDoor
namespace Go.Proofs.YtcpjiahdaplhlaaGreatDoor
theorem pu_app:∀ (l m:List UInt8) (acc:Nat),Lib.parseUint10 acc (l ++ m) = match Lib.parseUint10 acc l with
  | .ok a=>Lib.parseUint10 a m
  | .«syntax» => .«syntax»
  | .range=>.range
 | [],m,acc=>rfl
 | c :: l,m,acc=>by
  simp only [List.cons_append,Lib.parseUint10]
  split
  ·split
   ·rfl
   ·split
    ·rfl
    ·exact pu_app l m _
  ·rfl
theorem dig_toNat (d:Nat) (h:d < 10):(UInt8.ofNat (48 + d)).toNat = 48 + d:=by simp;omega
theorem pu_one (acc d:Nat) (hd:d < 10) (h:acc * 10 + d < 18446744073709551616):Lib.parseUint10 acc [UInt8.ofNat (48 + d)] = .ok (acc * 10 + d):=by
 simp only [Lib.parseUint10]
 rw [dig_toNat d hd,if_pos (by omega),if_neg (by omega),if_neg (by omega)]
 congr 1;omega
theorem pu_dec (u:Nat) (hu:u < 18446744073709551616):Lib.parseUint10 0 (Lib.decDigits u) = .ok u:=by
 induction u using Nat.strongRecOn with
 | _ u ih=>
  rw [Lib.decDigits]
  by_cases h:u < 10
  ·rw [dif_pos h,pu_one 0 u h (by omega)];congr 1;omega
  ·rw [dif_neg h,pu_app,ih (u / 10) (by omega) (by omega)]
   show Lib.parseUint10 (u / 10) [UInt8.ofNat (48 + u % 10)] = _
   rw [pu_one _ _ (by omega) (by omega)];congr 1;omega
theorem dec_dig (u:Nat):(∀ b ∈ Lib.decDigits u,48 <= b.toNat /\ b.toNat <= 57) /\ ¬ Lib.decDigits u = []:=by
 induction u using Nat.strongRecOn with
 | _ u ih=>
  rw [Lib.decDigits]
  by_cases h:u < 10
  ·rw [dif_pos h]
   refine ⟨fun b hb=>?_,by simp⟩
   simp only [List.mem_singleton] at hb
   rw [hb,dig_toNat u h];omega
  ·rw [dif_neg h]
   refine ⟨fun b hb=>?_,by simp⟩
   rcases List.mem_append.1 hb with hb | hb
   ·exact (ih (u / 10) (by omega)).1 b hb
   ·simp only [List.mem_singleton] at hb
    rw [hb,dig_toNat _ (by omega)];omega
theorem atoi_itoa (n:Int) (h0 : -9223372036854775808 <= n) (h1:n <= 9223372036854775807):Lib.atoiAll (Lib.itoa n) = .ok n:=by
 by_cases hn:n < 0
 ·obtain ⟨u,rfl⟩:∃ u:Nat,n = -(u:Int):=⟨n.natAbs,by omega⟩
  rw [Lib.itoa_neg u (by omega)]
  have hd:=(dec_dig u).2
  have hm:Lib.parseMag (Lib.decDigits u) = .ok u:=by unfold Lib.parseMag;rw [if_neg hd];exact pu_dec u (by omega)
  have e45:(45:UInt8).toNat = 45:=rfl
  simp only [Lib.atoiAll,e45,or_true,if_true,hm,not_true,false_and,if_false,true_and]
  rw [if_neg (by omega)]
 ·obtain ⟨u,rfl⟩:∃ u:Nat,n = (u:Int):=⟨n.toNat,by omega⟩
  rw [Lib.itoa_nonneg u]
  have hm:Lib.parseMag (Lib.decDigits u) = .ok u:=by unfold Lib.parseMag;rw [if_neg (dec_dig u).2];exact pu_dec u (by omega)
  have hdg:=(dec_dig u).1
  have hne:=(dec_dig u).2
  cases e:Lib.decDigits u with
  | nil=>exact absurd e hne
  | cons c r=>
   have hc:=hdg c (by rw [e];simp)
   rw [e] at hm
   have n1:¬ c.toNat = 43:=by omega
   have n2:¬ c.toNat = 45:=by omega
   simp only [Lib.atoiAll,n1,n2,or_self,if_false,hm,not_false_eq_true,true_and,false_and]
   rw [if_neg (by omega)]
theorem num_itB (n:Int) (h0 : -9223372036854775808 <= n) (h1:n <= 9223372036854775807):num (blK (itB n)) = some n:=by
 unfold num
 have e:i2b (blK (itB n)) = Lib.itoa n:=by rw [i2b_bl];simp [itB]
 rw [e,atoi_itoa n h0 h1]
 exact if_pos rfl
theorem rl_all:∀ (l y:List Int),(∀ x ∈ l,rnb x = true) -> rl (l ++ y) = l.length + rl y
 | [],y,_=>by simp
 | c :: l,y,h=>by
  rw [List.cons_append,rl_cons,if_pos (h c (by simp)),rl_all l y (fun x hx=>h x (by simp [hx]))]
  simp only [List.length_cons];omega
theorem rl_full:∀ (l:List Int),rl l = l.length -> ∀ x ∈ l,rnb x = true
 | [],_,x,hx=>by simp at hx
 | c :: l,h,x,hx=>by
  rw [rl_cons] at h
  by_cases q:rnb c = true
  ·rw [if_pos q] at h
   simp only [List.length_cons] at h
   rcases List.mem_cons.1 hx with rfl | hx
   ·exact q
   ·exact rl_full l (by omega) x hx
  ·rw [if_neg q] at h;simp at h
theorem wrd_run {x:ByteArray} (h:wrd x = true):∃ c r,blK x = c :: r /\ sml c = true /\ (∀ z ∈ blK x,rnb z = true) /\ ¬ x = saysB:=by
 unfold wrd at h
 simp only [Bool.and_eq_true,Bool.not_eq_true',decide_eq_false_iff_not,decide_eq_true_eq] at h
 obtain ⟨h1,h2,h3,h4⟩:=h
 have hp:=size_posK h1
 have e:=bl_drop hp
 rw [List.drop_zero] at e
 refine ⟨_,_,e,h2, ?_,h4⟩
 rw [rne_eq x 0 (Nat.zero_le _),List.drop_zero,Nat.zero_add, <- bl_len] at h3
 exact rl_full _ h3
theorem vrb_run {x:ByteArray} (h:vrb x = true):∃ c r,blK x = c :: r /\ grt c = true /\ (∀ z ∈ blK x,rnb z = true):=by
 unfold vrb at h
 simp only [Bool.and_eq_true,Bool.not_eq_true',decide_eq_false_iff_not,decide_eq_true_eq] at h
 obtain ⟨h1,h2,h3⟩:=h
 have hp:=size_posK h1
 have e:=bl_drop hp
 rw [List.drop_zero] at e
 refine ⟨_,_,e,h2, ?_⟩
 rw [rne_eq x 0 (Nat.zero_le _),List.drop_zero,Nat.zero_add, <- bl_len] at h3
 exact rl_full _ h3
theorem tok_word {x:ByteArray} {y:List Int} (h:wrd x = true) (hy:rl y = 0):tok (blK x ++ y) = .ok 1 (blK x) 0 x.size:=by
 obtain ⟨c,r,e,h1,h2,h3⟩:=wrd_run h
 have hr:rl (blK x ++ y) = x.size:=by rw [rl_all _ _ h2,hy,bl_len];rfl
 have ht:(blK x ++ y).take x.size = blK x:=by rw [<- bl_len];exact List.take_left
 rw [e] at hr ht ⊢
 rw [List.cons_append] at hr ht ⊢
 rw [tok_small h1,hr,ht, <- e,ofL_bl,if_neg h3]
theorem tok_var {x:ByteArray} {y:List Int} (h:vrb x = true) (hy:rl y = 0):tok (blK x ++ y) = .ok 2 (blK x) 0 x.size:=by
 obtain ⟨c,r,e,h1,h2⟩:=vrb_run h
 have hr:rl (blK x ++ y) = x.size:=by rw [rl_all _ _ h2,hy,bl_len];rfl
 have ht:(blK x ++ y).take x.size = blK x:=by rw [<- bl_len];exact List.take_left
 have hs:sml c = false:=by
  simp only [grt,Bool.or_eq_true,Bool.and_eq_true,decide_eq_true_eq] at h1
  simp only [sml,Bool.and_eq_false_iff,decide_eq_false_iff_not];omega
 rw [e] at hr ht ⊢
 rw [List.cons_append] at hr ht ⊢
 rw [tok_great hs h1,hr,ht, <- e]
theorem tok_quoted (K:Nat -> Int) (s:ByteArray) (y:List Int):tok (34 :: (rpl K 0 (blK s) ++ [34]) ++ y) = .ok 3 (blK s) 0 ((rpl K 0 (blK s)).length + 2):=by
 have hl:=(rpl_len K (blK s) 0).1
 rw [List.cons_append,tok_quote (by decide) (by decide) (by decide) (by decide) rfl]
 refine qd_ok (rpl K 0 (blK s) ++ [34]).length.succ (rpl K 0 (blK s) ++ [34]) 1 [] 3 (blK s) 0 ((rpl K 0 (blK s)).length + 2) ?_ _ _ (by simp) ?_
 ·rw [qd_rpl K (blK s) 0 _ 1 [] (by simp only [List.length_append,List.length_cons,List.length_nil];omega) (bl_byt s),List.nil_append];congr 1;omega
 ·exact take_app_le _ _ _ (by simp only [List.length_append,List.length_cons,List.length_nil];omega)
end Go.Proofs.YtcpjiahdaplhlaaGreatDoor
namespace Go.Proofs.YtcpjiahdaplhlaaGreatDoor
theorem bl_itB_pos (u:Nat):blK (itB (u:Int)) = (Lib.decDigits u).map fun b=>(b.toNat:Int):=by
 unfold itB blK;rw [Lib.itoa_nonneg]
theorem bl_itB_neg (u:Nat) (h:1 <= u):blK (itB (-(u:Int))) = 45 :: (Lib.decDigits u).map fun b=>(b.toNat:Int):=by
 unfold itB blK;rw [Lib.itoa_neg u h];rfl
theorem dec_rnb (u:Nat):∀ x ∈ (Lib.decDigits u).map (fun b=>(b.toNat:Int)),rnb x = true /\ dig x = true:=by
 intro x hx
 simp only [List.mem_map] at hx
 obtain ⟨b,hb,rfl⟩:=hx
 have:=(dec_dig u).1 b hb
 have hd:dig (b.toNat:Int) = true:=by simp only [dig,Bool.and_eq_true,decide_eq_true_eq];omega
 exact ⟨by simp [rnb,hd],hd⟩
theorem dig_not {c:Int} (h:dig c = true):sml c = false /\ grt c = false /\ ¬ c = 45:=by
 simp only [dig,Bool.and_eq_true,decide_eq_true_eq] at h
 refine ⟨?_, ?_,by omega⟩
 ·simp only [sml,Bool.and_eq_false_iff,decide_eq_false_iff_not];omega
 ·simp only [grt,Bool.or_eq_false_iff,Bool.and_eq_false_iff,decide_eq_false_iff_not];omega
theorem tok_num {n:Int} {y:List Int} (h0 : -9223372036854775808 <= n) (h1:n <= 9223372036854775807) (hy:rl y = 0):tok (blK (itB n) ++ y) = .ok 4 [] n (itB n).size:=by
 have hnum:=num_itB n h0 h1
 have hlen:(blK (itB n)).length = (itB n).size:=bl_len _
 have ht:(blK (itB n) ++ y).take (itB n).size = blK (itB n):=by rw [<- hlen];exact List.take_left
 by_cases hn:n < 0
 ·obtain ⟨u,rfl⟩:∃ u:Nat,n = -(u:Int):=⟨n.natAbs,by omega⟩
  have e:=bl_itB_neg u (by omega)
  have hrl:=rl_all ((Lib.decDigits u).map fun b=>(b.toNat:Int)) y (fun x hx=>(dec_rnb u x hx).1)
  rw [e] at hlen ht hnum ⊢
  simp only [List.length_cons] at hlen
  rw [List.cons_append] at ht ⊢
  rw [tok_minus (by decide) (by decide) rfl,hrl,hy,Nat.add_zero,show 1 + ((Lib.decDigits u).map fun b=>(b.toNat:Int)).length = (itB (-(u:Int))).size by omega]
  exact numt_some (by rw [ht];exact hnum)
 ·obtain ⟨u,rfl⟩:∃ u:Nat,n = (u:Int):=⟨n.toNat,by omega⟩
  have e:=bl_itB_pos u
  have hall:=dec_rnb u
  have hrl:=rl_all ((Lib.decDigits u).map fun b=>(b.toNat:Int)) y (fun x hx=>(hall x hx).1)
  rw [<- e] at hrl hall
  have hne:¬ blK (itB (u:Int)) = []:=by rw [e];simpa using (dec_dig u).2
  cases ec:blK (itB (u:Int)) with
  | nil=>exact absurd ec hne
  | cons c r=>
   have hc:=(hall c (by rw [ec];simp)).2
   obtain ⟨d1,d2,d3⟩:=dig_not hc
   rw [ec] at hlen ht hnum hrl
   rw [List.cons_append] at ht hrl ⊢
   rw [tok_dig d1 d2 d3 hc,hrl,hy,Nat.add_zero,hlen]
   exact numt_some (by rw [ht];exact hnum)
theorem sk_two (a b:Int) (ha:0 <= a /\ a <= 255) (hb:0 <= b /\ b <= 255):sk (ofL [a,b]) = 0 ∨ (a = 58 /\ b = 45) ∨ (a = 33 /\ b = 61) ∨ (a = 60 /\ b = 61):=by
 by_cases h:∀ t ∈ signL,¬ t = ofL [a,b]
 ·exact Or.inl (skG_none _ _ _ h)
 ·right
  simp only [Classical.not_forall,Decidable.not_not] at h
  obtain ⟨t,ht,e⟩:=h
  have e2:blK t = [a,b]:=by rw [e,bl_ofL (by intro x hx;simp at hx;omega)]
  have hl:(blK t).length = 2:=by rw [e2];rfl
  simp only [signL,List.mem_cons,List.not_mem_nil,or_false] at ht
  rcases ht with rfl | rfl | rfl | rfl | rfl | rfl | rfl | rfl | rfl | rfl | rfl | rfl | rfl | rfl | rfl | rfl | rfl
  all_goals first
   | (exact absurd hl (by decide))
   | (have e3:([58,45]:List Int) = [a,b]:=e2;simp at e3;omega)
   | (have e3:([33,61]:List Int) = [a,b]:=e2;simp at e3;omega)
   | (have e3:([60,61]:List Int) = [a,b]:=e2;simp at e3;omega)
theorem tok_one {a:Int} {k:Nat} {y:List Int} (ha:0 <= a /\ a <= 255) (h1:sml a = false) (h2:grt a = false) (h3:¬ a = 45) (h4:dig a = false) (h5:¬ a = 34) (hk:sk (ofL [a]) = k) (hk0:¬ k = 0)
  (hy:byt y) (hn:∀ d r,y = d :: r -> ¬ ((a = 58 /\ d = 45) ∨ (a = 33 /\ d = 61) ∨ (a = 60 /\ d = 61))):tok ([a] ++ y) = .ok (k:Int) [] 0 1:=by
 rw [List.singleton_append,tok_sign h1 h2 h3 h4 h5]
 unfold sgt
 have hone:sgF (a :: y) 1 = .ok (k:Int) [] 0 1:=by
  have e:ofL ((a :: y).take (0 + 1)) = ofL [a]:=rfl
  rw [sgF_yes (m:=0) (by rw [e,hk];exact hk0),e,hk]
 cases y with
 | nil=>exact hone
 | cons d r=>
  have e:min 2 (a :: d :: r).length = 2:=by simp
  have hz:sk (ofL ((a :: d :: r).take (1 + 1))) = 0:=by
   rcases sk_two a d ha (hy d (by simp)) with h | h
   ·exact h
   ·exact absurd h (hn d r rfl)
  rw [e,sgF_no hz];exact hone
theorem tok_two {a b:Int} {k:Nat} {y:List Int} (h1:sml a = false) (h2:grt a = false) (h3:¬ a = 45) (h4:dig a = false) (h5:¬ a = 34) (hk:sk (ofL [a,b]) = k) (hk0:¬ k = 0):tok ([a,b] ++ y) = .ok (k:Int) [] 0 2:=by
 show tok (a :: b :: y) = _
 rw [tok_sign h1 h2 h3 h4 h5]
 unfold sgt
 have e:min 2 (a :: b :: y).length = 2:=by simp
 have e2:ofL ((a :: b :: y).take (1 + 1)) = ofL [a,b]:=rfl
 rw [e,sgF_yes (m:=1) (by rw [e2,hk];exact hk0),e2,hk]
end Go.Proofs.YtcpjiahdaplhlaaGreatDoor
namespace Go.Proofs.YtcpjiahdaplhlaaGreatDoor
theorem bl_qtB (s:ByteArray):blK (qtB s) = 34 :: (rpl (fun i=>kq (atK_ s i)) 0 (blK s) ++ [34]):=by
 have e:qtB s = ofL (qtl s s.size ++ [34]):=rfl
 rw [e,bl_ofL (fun x hx=>?_),qtl_rpl s s.size (Nat.le_refl _),List.take_of_length_le (by rw [bl_len];exact Nat.le_refl _)]
 ·rfl
 ·rcases List.mem_append.1 hx with hx | hx
  ·exact qtl_byt s _ x hx
  ·simp at hx;omega
end Go.Proofs.YtcpjiahdaplhlaaGreatDoor

import Derived.Test.YtelcoihmiglceaaGreatCP4
import Derived.Test.YtelcoihmiglceaaGreatCD1
import Derived.Test.YtelcoihmiglceaaGreatCJ7
import Derived.Deep.RegionHeld3
namespace Go.Proofs.YtelcoihmiglceaaGreat
open Go.RowKit

def YesNo (e : Ending) : Prop := ∃ b, e = .returned (.bool b)
set_option maxRecDepth 20000 in
set_option maxHeartbeats 1000000 in
theorem beyond_any (C R : List Cm) (S : List St) (cv rv sv : Value) (ba : Option Addr) (bn bc : Nat) (w : World) (hC : CsP w cv C) (hR : CsP w rv R) (hS : SsP w sv S) (hl0 : C.length <= 1000000000000) (hl1 : R.length <= 1000000000000) (hl2 : S.length <= 1000000000000) :
  Calls Tryz.prog 6 #[cv, .agg #[rv, sv], .slice ba bn bc] w fun e w' => YesNo e /\ Below w.heap.size w w' := by
 have HPC : Hid (∀ (n : Int) (X : World), Below w.heap.size w X -> Calls Tryz.prog 25 #[.int .i64 n, cv] X fun e w' => (∃ m, e = .returned (.int .i64 m)) /\ Below X.heap.size X w') := fun n X hX => pclauses_any n C cv X (hC.later hX) hl0
 have HPR : Hid (∀ (n : Int) (X : World), Below w.heap.size w X -> Calls Tryz.prog 25 #[.int .i64 n, rv] X fun e w' => (∃ m, e = .returned (.int .i64 m)) /\ Below X.heap.size X w') := fun n X hX => pclauses_any n R rv X (hR.later hX) hl1
 have HS : Hid (SsP w sv S) := hS
 obtain ⟨ca, cc, rfl⟩ := hC.form
 obtain ⟨ra, rc, rfl⟩ := hR.form
 obtain ⟨sa, sc, rfl⟩ := hS.form
 have HX : Hid (CBlk (w.alloc (.cells #[.slice ra R.length rc, .slice sa S.length sc] 35)) w.heap.size #[.slice ra R.length rc, .slice sa S.length sc] 35) := CBlk.new _ _ _
 have HW0 : Hid (Below w.heap.size w (w.alloc (.cells #[.slice ra R.length rc, .slice sa S.length sc] 35))) := below1 _ _
 clear hC hR hS
 go_enter Tryz.func6, Tryz.ntmps6
 go_wp2_with (first
  | (go_at_call 25; refine (HPC.out _ _ (below1 _ _)).mono ?_; clear HPC; rintro e w1 ⟨⟨n1, rfl⟩, hb⟩; have HX1 : Hid (CBlk w1 w.heap.size _ 35) := HX.out.later hb; have HW1 : Hid (Below w.heap.size w w1) := below_step HW0.out hb; obtain ⟨c0, c1⟩ := ctwo HX1.out; clear hb HX HW0)
  | (go_at_call 25; refine (HPR.out _ _ HW1.out).mono ?_; clear HPR; rintro e w2 ⟨⟨n2, rfl⟩, hb⟩; have HX2 : Hid (CBlk w2 w.heap.size _ 35) := HX1.out.later hb; have HW2 : Hid (Below w.heap.size w w2) := below_step HW1.out hb; clear c0 c1; obtain ⟨c0, c1⟩ := ctwo HX2.out; clear hb HX1 HW1))
 clear c0 c1
 go_loopg [7, 8] S.length (fun g u i wr => ∃ (j : Nat) (m : Int), j + g = S.length /\ i = .int .i64 j /\ u = .int .i64 m /\ Below w2.heap.size w2 wr)
 case atStart => exact ⟨0, _, by omega, rfl, rfl, Below.refl _ _⟩
 case round =>
  obtain ⟨j, m, hj, rfl, rfl, hb⟩ := hrel
  have HB : Hid (Below w2.heap.size w2 wr) := hb
  have HX3 : Hid (CBlk wr w.heap.size _ 35) := HX2.out.later hb
  obtain ⟨c0, c1⟩ := ctwo HX3.out
  clear hb
  cases gk with
  | succ g =>
   have hlt : (j : Int) < (S.length : Int) := by omega
   have j0 : (0 : Int) <= (j : Int) := by omega
   by_cases hm : m <= 2147483647
   ·obtain ⟨t, ht⟩ : ∃ t, S[j]? = some t := ⟨_, List.getElem?_eq_getElem (by omega)⟩
    obtain ⟨b, o, rfl, hbs, hr, hok⟩ := ((HS.out.later HW2.out).later HB.out).at_ ht
    obtain ⟨d0, d1, d2⟩ := hr.three ht
    obtain ⟨⟨a1, cap1, x1⟩, ⟨a2, cap2, x2⟩, l1, l2⟩ := hok.shape
    have HPT : Hid (∀ (k : Int) (X : World), Below wr.heap.size wr X -> Calls Tryz.prog 26 #[.int .i64 k, t.vv] X fun e w' => e = .returned (.int .i64 (ptF k t.vals)) /\ w' = X) := fun k X hX => pterms_any k _ _ X (hok.t.later hX)
    obtain ⟨tr, tt, tv, tu, tw⟩ := t
    simp only at d0 d1 d2 x1 x2 HPT l1 l2
    subst x1 x2
    clear hr hok ht
    go_wp2
    go_quiet (first | (go_at_call 26; refine Calls.quiet_of_same (HPT.out _ _ (below_drewN (Below.refl _ _) _))))
    go_wp2
    go_roundg g
    case measure => omega
    case rel => exact ⟨j + 1, _, by omega, by go_num, rfl, below_drewN HB.out _⟩
   ·go_wp2
    go_ret
    exact ⟨⟨_, rfl⟩, below_step HW2.out HB.out⟩
  | zero =>
   obtain rfl : j = S.length := by omega
   have hz : ¬ ((S.length : Int) < (S.length : Int)) := by omega
   go_wp2
   go_ret
   exact ⟨⟨_, rfl⟩, below_step HW2.out HB.out⟩
def nat8 (n : Int) : Int := if n < 0 then -(n + 1) else n
theorem natural9_any (n : Int) (h0 : -9223372036854775808 <= n) (w : World) : Calls Tryz.prog 39 #[.int .i64 n] w fun e w' => e = .returned (.int .i64 (nat8 n)) /\ w' = w := by
 by_cases hn : n < 0
 ·have e1 : wrap64 (n + 1) = n + 1 := by unfold wrap64; omega
  have e2 : wrap64 (-(n + 1)) = -(n + 1) := by unfold wrap64; omega
  have e3 : nat8 n = -(n + 1) := if_pos hn
  rw [e3]
  clear e3
  go_enter Tryz.func39, Tryz.ntmps39
  go_wp2
  go_ret
  first
   | exact ⟨rfl, rfl⟩
   | exact ⟨by rw [e1, e2], rfl⟩
   | trace_state
 ·have e3 : nat8 n = n := if_neg hn
  rw [e3]
  clear e3
  go_enter Tryz.func39, Tryz.ntmps39
  go_wp2
  go_ret
  exact ⟨rfl, rfl⟩
theorem nat8_nn (n : Int) : 0 <= nat8 n := by unfold nat8; split <;> omega
structure OM (B : Nat) (X : World) (v : Value) (l : List Cm) : Prop where
 o : OwnC X B v l
 m : ∀ c ∈ l, MCl B X c
theorem MCl.kt {t : TypeId} {B : Nat} {X X' : World} {d : Cm} (h : MCl B X d) (hk : Kt t X X') (h1 : 23 ≠ t) (h2 : 26 ≠ t) (h3 : 70 ≠ t) : MCl B X' d :=
 ⟨row_kt h.h hk h1, row_kt h.b hk h2, fun y hy => row_kt (h.x y hy) hk h1, row_kt h.t hk h3, h.s⟩
theorem OM.nil (B : Nat) (X : World) : OM B X (.slice none 0 0) [] := ⟨OwnC.nil _ _, fun c hc => by cases hc⟩
theorem OM.later {B : Nat} {X X' : World} {v : Value} {l : List Cm} (h : OM B X v l) (hb : Below X.heap.size X X') : OM B X' v l := ⟨h.o.later hb, fun c hc => (h.m c hc).later hb⟩
theorem OM.kt {t : TypeId} {B : Nat} {X X' : World} {v : Value} {l : List Cm} (h : OM B X v l) (hk : Kt t X X') (h0 : 30 ≠ t) (h1 : 23 ≠ t) (h2 : 26 ≠ t) (h3 : 70 ≠ t) : OM B X' v l := ⟨row_kt h.o hk h0, fun c hc => (h.m c hc).kt hk h1 h2 h3⟩
theorem row_mono {e : TypeId} {w : World} {b b' n m : Nat} {v : Value} {xs : List Value} (h : w.ownsRow b e n v m xs) (hb : b' <= b) : w.ownsRow b' e n v m xs := by
 refine ⟨h.1, ?_⟩
 rcases h.2 with hn | ⟨g, cap, cur, hv, hbb, hg, rest⟩
 ·exact Or.inl hn
 ·exact Or.inr ⟨g, cap, cur, hv, Nat.le_trans hb hbb, hg, rest⟩
def MAP (w : World) (l : List Cm) (e : Ending) (w' : World) : Prop := ∃ (v' : Value) (m : List Cm), e = .returned v' /\ m.map Cm.key = l.map (fun c => madeK c.key) /\ OM w.heap.size w' v' m /\ Below w.heap.size w w'
set_option maxRecDepth 20000 in
set_option maxHeartbeats 1000000 in
theorem madeAll_any (l : List Cm) (v : Value) (w : World) (h : CsP w v l) (hl : l.length <= 900000000000) :
  Calls Tryz.prog 11 #[v] w (MAP w l) := by
 have HC : Hid (CsP w v l) := h
 obtain ⟨ad, cap, rfl⟩ := h.form
 clear h
 go_enter Tryz.func11, Tryz.ntmps11
 go_wp2
 go_loopg [3, 4] l.length (fun g u i wr => ∃ (j : Nat) (m : List Cm), j + g = l.length /\ i = .int .i64 j /\ m.length = j /\ m.map Cm.key = (l.take j).map (fun c => madeK c.key) /\ OM w.heap.size wr u m /\ Below w.heap.size w wr)
 case atStart => exact ⟨0, [], by omega, rfl, rfl, rfl, OM.nil _ _, Below.refl _ _⟩
 case round =>
  obtain ⟨j, m, hj, rfl, hml, hmk, ho, hb⟩ := hrel
  have HB : Hid (Below w.heap.size w wr) := hb
  have HO : Hid (OM w.heap.size wr u3 m) := ho
  have HMK : Hid (m.map Cm.key = (l.take j).map (fun c => madeK c.key)) := hmk
  have HML : Hid (m.length = j) := hml
  have hsz := hb.size
  clear hb hmk hml
  cases gk with
  | succ g =>
   have hlt : (j : Int) < (l.length : Int) := by omega
   have j0 : (0 : Int) <= (j : Int) := by omega
   obtain ⟨t, ht⟩ : ∃ t, l[j]? = some t := ⟨_, List.getElem?_eq_getElem (by omega)⟩
   obtain ⟨b, o, rfl, hbs, hr, hok⟩ := (HC.out.later HB.out).at_ ht
   have HS : Hid ((l.take (j + 1)).map (fun c => madeK c.key) = (l.take j).map (fun c => madeK c.key) ++ [madeK t.key]) := by show _ = _; rw [List.take_add_one, ht]; simp
   have HMD : Hid (∀ X : World, Below wr.heap.size wr X -> Calls Tryz.prog 7 #[t.v] X fun e w' => ∃ d : Cm, e = .returned d.v /\ d.key = madeK t.key /\ MCl X.heap.size w' d /\ Below X.heap.size X w') := fun X hX => made_any t X (hok.later hX)
   have hks : KS (madeK t.key) := (made_val nmP_ok t.key).ks
   obtain ⟨c0, c1, c2, c3, c4, c5, c6⟩ := hr.seven ht
   obtain ⟨⟨a1, n1, cap1, x1⟩, ⟨a2, cap2, x2⟩, ⟨a3, cap3, x3⟩, -, -⟩ := hok.shape
   generalize madeK t.key = K at *
   obtain ⟨⟨⟨⟨tk, tn, ts⟩, tm, tl⟩, tv⟩, tb, tbv, tt, ttv⟩ := t
   simp only at c0 c1 c2 c3 c4 c5 c6 x1 x2 x3
   subst x1 x2 x3
   obtain ⟨u1, u2, rfl⟩ := ho.o.form
   clear hr hok ht ho
   go_wp2_with (first
    | (go_at_call 7; refine (HMD.out _ (Below.refl _ _)).mono ?_; clear HMD; rintro e w1 ⟨d, rfl, hdk, hdm, hb⟩; have HD : Hid (d.key = K /\ MCl wr.heap.size w1 d /\ d.ok w1) := ⟨hdk, hdm, hdm.ok8 (by rw [hdk]; exact hks)⟩; have HO1 : Hid (OM w.heap.size w1 (.slice u1 m.length u2) m) := HO.out.later hb; have HB1 : Hid (Below w.heap.size w w1) := below_step HB.out hb; have hz1 := HB1.out.size; obtain ⟨⟨y1, y2, y3, z1⟩, ⟨y4, y5, z2⟩, ⟨y6, y7, z3⟩, -, -⟩ := HD.out.2.2.shape; obtain ⟨⟨⟨⟨dk, dn, ds⟩, dm, dl⟩, dv⟩, db, dbv, dt, dtv⟩ := d; simp only at z1 z2 z3; subst z1 z2 z3; clear hdk hdm hb c0 c1 c2 c3 c4 c5 c6)
    | (at_builtin; refine capp_one rfl _ _ rfl w.heap.size (.slice u1 m.length u2) m rfl (HO1.out.o.later (below1 _ _)) w1.heap.size ⟨(⟨⟨dk, dn, ds⟩, dm, dl⟩, .slice y1 y2 y3), db, .slice y4 db.length y5, dt, .slice y6 dt.length y7⟩ rfl (CBlk.new _ _ _) HD.out.2.2 (by have := HML.out; omega) (by simp; omega) ?_; intro v2 w2 hown hb2 hg hv; have HG : Hid (Kt 30 w1 w2) := (Kt.of (below1 _ _)).trans (row_grown (HO1.out.o.later (below1 _ _)) hg); have HW2 : Hid (OwnC w2 w.heap.size v2 (m ++ [_])) := hown; have HB2 : Hid (Below w.heap.size w w2) := (below_step HB1.out (below1 _ _)).trans hb2; clear hown hb2 hg hv))
   go_roundg g
   case measure => omega
   case rel =>
    refine ⟨j + 1, m ++ [_], by omega, by go_num, by rw [List.length_append, HML.out]; rfl, ?_, ⟨HW2.out, fun c hc => ?_⟩, HB2.out⟩
    ·rw [List.map_append, HMK.out, HS.out, List.map_cons, List.map_nil, HD.out.1]
    ·rcases List.mem_append.1 hc with hc | hc
     ·exact (HO1.out.m c hc).kt HG.out (by decide) (by decide) (by decide)
     ·rw [List.mem_singleton] at hc; subst hc
      exact (HD.out.2.1.mono hsz).kt HG.out (by decide) (by decide) (by decide)
  | zero =>
   obtain rfl : j = l.length := by omega
   have hz : ¬ ((l.length : Int) < (l.length : Int)) := by omega
   clear ho
   go_wp2
   go_ret
   exact ⟨_, m, rfl, by rw [HMK.out, List.take_length], HO.out, HB.out⟩
end Go.Proofs.YtelcoihmiglceaaGreat
namespace Go.Proofs.YtelcoihmiglceaaGreat
open Go.RowKit

structure Kw (k : Ck) : Prop where
 c : chkK k = 0
 r : Rng k
def sBy (K : List Ck) : List Int := be 4 (K.length : Int) ++ K.flatMap cB
theorem flatC_le9 {l : List Cm} (h : ∀ c ∈ l, c.chk = 0) : (l.flatMap cBm).length <= l.length * 20000 := by
 induction l with
 | nil => simp
 | cons a l ih =>
  have h1 : (cBm a).length <= 20000 := cB_len (h a (by simp))
  have h2 := ih fun c hc => h c (by simp [hc])
  simp only [List.flatMap_cons, List.length_append, List.length_cons]; omega
theorem fErr_all9 {l : List Cm} (h : ∀ c ∈ l, c.chk = 0) : fErr l = 0 := by
 induction l with
 | nil => rfl
 | cons a l ih => unfold fErr; rw [if_pos (h a (by simp))]; exact ih fun c hc => h c (by simp [hc])
theorem flat_key (l : List Cm) : l.flatMap cBm = (l.map Cm.key).flatMap cB := by rw [List.flatMap_map]; rfl
set_option maxRecDepth 20000 in
set_option maxHeartbeats 600000 in
theorem setW_any (l : List Cm) (v : Value) (w : World) (h : CsP w v l) (hl : l.length <= 4000000) (hz : ∀ c ∈ l, c.sml) (hk : ∀ c ∈ l, Kw c.key) (hwf : ∀ k, (∃ c ∈ l, c.key = k) -> ∀ d : Cm, d.key = k -> d.wf) :
  Calls Tryz.prog 12 #[v] w fun e w' => ∃ v' K, e = .returned (.tuple #[v', .int .i64 0]) /\ SetK K l /\ K.length <= 4000000 /\ OwnB w' 0 v' (sBy K) /\ Below w.heap.size w w' := by
 have HS : Hid (Calls Tryz.prog 36 #[v] w fun e w' => ∃ v' o, e = .returned v' /\ CsP w' v' o /\ o.length <= l.length /\ SetK (o.map Cm.key) l /\ Below w.heap.size w w') := set2_any l v w h (by omega) hz
 have hch : ∀ (o : List Cm), SetK (o.map Cm.key) l -> (∀ c ∈ o, c.chk = 0) /\ ∀ c ∈ o, c.wf := fun o ho => by
  have key : ∀ c ∈ o, ∃ d ∈ l, d.key = c.key := fun c hc => (ho.mem _).1 (List.mem_map_of_mem hc)
  refine ⟨fun c hc => ?_, fun c hc => ?_⟩
  ·obtain ⟨d, hd, e⟩ := key c hc
   rw [chk_keyK, <- e]; exact (hk d hd).c
  ·exact hwf c.key (key c hc) c rfl
 have HFE : Hid (∀ (X : World) (u : Value) (o : List Cm), CsP X u o -> o.length <= l.length -> SetK (o.map Cm.key) l -> Calls Tryz.prog 37 #[u] X fun e w' => e = .returned (.int .i64 0) /\ Below X.heap.size X w') := fun X u o h1 h2 h3 => by
  have := firstError_any o u X h1 (hch o h3).2 (by omega)
  rwa [fErr_all9 (hch o h3).1] at this
 have HPC : Hid (∀ (X : World) (u : Value) (o : List Cm), CsP X u o -> o.length <= l.length -> SetK (o.map Cm.key) l -> Calls Tryz.prog 38 #[.slice none 0 0, .int .i64 4, u, .func (.func 32) #[] #[]] X fun e w' => ∃ v', e = .returned v' /\ Wr X X.heap.size (sBy (o.map Cm.key)) v' w') := fun X u o h1 h2 h3 => by
  have hc := (hch o h3).1
  have hb := flatC_le9 hc
  have := putClauses_any o hc (by omega) u (.slice none 0 0) [] X.heap.size X (ownB_nil _ _) (by simp only [List.length_nil]; omega) (Nat.le_refl _) h1 (fun Y hY => h1.later hY)
  rw [List.nil_append, flat_key] at this
  unfold sBy
  rwa [List.length_map]
 have HL4 : Hid (l.length <= 4000000) := hl
 obtain ⟨ad, cap, rfl⟩ := h.form
 clear h hz hk hwf hch
 go_enter Tryz.func12, Tryz.ntmps12
 go_wp2_with (first
  | (go_at_call 36; refine HS.out.mono ?_; clear HS; rintro e w1 ⟨v1, o, rfl, ho, hol, hok, hb⟩; have HO : Hid (CsP w1 v1 o) := ho; have HOL : Hid (o.length <= l.length) := hol; have HOK : Hid (SetK (o.map Cm.key) l) := hok; have HB1 : Hid (Below w.heap.size w w1) := hb; obtain ⟨oa, oc, rfl⟩ := ho.form; clear ho hol hok hb)
  | (go_at_call 37; refine (HFE.out _ _ _ HO.out HOL.out HOK.out).mono ?_; clear HFE; rintro e w2 ⟨rfl, hb⟩; have HO2 : Hid (CsP w2 (.slice oa o.length oc) o) := HO.out.later hb; have HB2 : Hid (Below w.heap.size w w2) := below_step HB1.out hb; clear hb)
  | (go_at_call 38; refine (HPC.out _ _ _ HO2.out HOL.out HOK.out).mono ?_; rintro e w3 ⟨v3, rfl, hw3⟩))
 exact bodyPost_ret (v := .tuple #[v3, .int .i64 0]) (by simp [results, Tryz.results12, go_sem]) rfl ⟨v3, o.map Cm.key, rfl, HOK.out, by rw [List.length_map]; have := HOL.out; have := HL4.out; omega, hw3.own.mono (Nat.zero_le _), HB2.out.trans (hw3.low.mono HB2.out.size)⟩
def hs (l : List Cm) (k : Ck) : Bool := l.any fun d => decide (d.key = k)
end Go.Proofs.YtelcoihmiglceaaGreat
namespace Go.Proofs.YtelcoihmiglceaaGreat
open Go.RowKit

def upK (p : Option Ck) (c : Ck) : Bool := match p with
 | none => true
 | some q => decide (cmpC q c < 0)
def rUp : Nat -> Option Ck -> List Int -> Rd (List Ck)
 | 0, _, l => .ok ([], l)
 | n + 1, p, l => (rClause l).and fun c r => if upK p c = true then (rUp n (some c) r).and fun cs r => .ok (c :: cs, r) else .error 64
def rSet (l : List Int) : Rd (List Ck) := (rNum 4 l).and fun n r => rUp n.toNat none r
def UpL : Option Ck -> List Ck -> Prop
 | _, [] => True
 | p, c :: l => upK p c = true /\ UpL (some c) l
theorem upL_of : ∀ {K : List Ck}, K.Pairwise ltC3 -> ∀ p, (∀ q, p = some q -> ∀ k ∈ K, ltC3 q k) -> UpL p K
 | [], _, _, _ => trivial
 | c :: K, h, p, hp => by
  obtain ⟨h1, h2⟩ := List.pairwise_cons.1 h
  refine ⟨?_, upL_of h2 _ (fun q e k hk => by cases e; exact h1 k hk)⟩
  cases p with
  | none => rfl
  | some q =>
   have := hp q rfl c (List.mem_cons_self ..)
   unfold ltC3 at this
   simp only [upK, decide_eq_true_eq]
   omega
theorem rUp_flat : ∀ (K : List Ck) (p : Option Ck) (r : List Int), UpL p K -> (∀ k ∈ K, ∃ c : Cm, c.key = k /\ c.chk = 0 /\ Rng k) -> rUp K.length p (K.flatMap cB ++ r) = .ok (K, r)
 | [], _, _, _, _ => rfl
 | k :: K, p, r, h, hc => by
  obtain ⟨c, rfl, h1, h2⟩ := hc k (List.mem_cons_self ..)
  rw [List.flatMap_cons, List.append_assoc, List.length_cons]
  unfold rUp
  rw [rClause_cB _ h1 h2]
  simp only [Rd.and]
  rw [if_pos h.1, rUp_flat K _ r h.2 (fun k hk => hc k (List.mem_cons_of_mem _ hk))]
theorem rSet_sBy {K : List Ck} (r : List Int) (hK : K.Pairwise ltC3) (hl : K.length < 4294967296) (hc : ∀ k ∈ K, ∃ c : Cm, c.key = k /\ c.chk = 0 /\ Rng k) : rSet (sBy K ++ r) = .ok (K, r) := by
 unfold rSet sBy
 rw [List.append_assoc, rNum_be 4 _ _ (by omega) (by have h4 : (256 : Int) ^ 4 = 4294967296 := (by decide); omega)]
 simp only [Rd.and]
 rw [Int.toNat_natCast]
 exact rUp_flat K none r (upL_of hK none (fun q e => by cases e)) hc
theorem rWhole_sBy {K : List Ck} (hK : K.Pairwise ltC3) (hl : K.length < 4294967296) (hc : ∀ k ∈ K, ∃ c : Cm, c.key = k /\ c.chk = 0 /\ Rng k) : rWhole rSet (sBy K) = .ok K := by
 have := rSet_sBy (r := []) hK hl hc
 rw [List.append_nil] at this
 unfold rWhole
 rw [this]
 simp only [if_true]
end Go.Proofs.YtelcoihmiglceaaGreat
namespace Go.Proofs.YtelcoihmiglceaaGreat
open Go.RowKit

def Sho {α : Type} (one : List Int -> Rd α) : Prop := ∀ l a r, one l = .ok (a, r) -> ∃ p, l = p ++ r /\ (∀ t, one (p ++ t) = .ok (a, t)) /\ ∀ m, m < p.length -> one (p.take m) = .error 61
theorem sho_ok {α : Type} (x : α) : Sho (fun r => .ok (x, r)) := fun l a r h => by
 cases h
 exact ⟨[], rfl, fun t => rfl, fun m hm => by simp at hm⟩
theorem sho_err {α : Type} (e : Int) : Sho (fun _ => (.error e : Rd α)) := fun l a r h => by cases h
theorem sho_if {α : Type} {c : Prop} [Decidable c] {f g : List Int -> Rd α} (hf : Sho f) (hg : Sho g) : Sho (fun r => if c then f r else g r) := by
 intro l a r h
 by_cases hc : c
 ·simp only [hc, if_true] at h ⊢
  exact hf l a r h
 ·simp only [hc, if_false] at h ⊢
  exact hg l a r h
theorem sho_and {α β : Type} {x : List Int -> Rd α} {f : α -> List Int -> Rd β} (hx : Sho x) (hf : ∀ a, Sho (f a)) : Sho (fun l => (x l).and f) := by
 intro l b r h
 rcases e : x l with c | ⟨a, r1⟩
 ·simp only [e, Rd.and] at h
  cases h
 ·simp only [e, Rd.and] at h
  obtain ⟨p, rfl, h1, h2⟩ := hx l a r1 e
  obtain ⟨q, rfl, h3, h4⟩ := hf a r1 b r h
  refine ⟨p ++ q, by rw [List.append_assoc], fun t => ?_, fun m hm => ?_⟩
  ·show (x (p ++ q ++ t)).and f = _
   rw [List.append_assoc, h1]
   exact h3 t
  ·show (x ((p ++ q).take m)).and f = _
   by_cases hp : m < p.length
   ·rw [List.take_append_of_le_length (by omega), h2 m hp]
    rfl
   ·have e2 : (p ++ q).take m = p ++ q.take (m - p.length) := by
     rw [List.take_append, List.take_of_length_le (by omega)]
    rw [e2, h1]
    exact h4 _ (by rw [List.length_append] at hm; omega)
theorem sho_take (n : Nat) : Sho (rTake n) := by
 intro l a r h
 unfold rTake at h
 split at h
 ·cases h
 ·rename_i hn
  cases h
  have hl : (l.take n).length = n := by rw [List.length_take]; omega
  refine ⟨l.take n, (List.take_append_drop n l).symm, fun t => ?_, fun m hm => ?_⟩
  ·unfold rTake
   rw [if_neg (by rw [List.length_append]; omega), List.take_left' hl, List.drop_left' hl]
  ·unfold rTake
   rw [if_pos (by rw [List.length_take]; omega)]
theorem sho_num (k : Nat) : Sho (rNum k) := sho_and (sho_take k) fun _ => sho_ok _
theorem sho_bnd (lo hi : Int) : Sho (rBnd lo hi) := sho_and (sho_num 1) fun n => sho_if (c := n < lo ∨ hi < n) (sho_err _) (sho_ok _)
theorem sho_one (cs : List Int) : Sho (rOne cs) := sho_and (sho_num 1) fun n => sho_if (c := n ∈ cs) (sho_ok _) (sho_err _)
theorem sho_nat : Sho rNat := sho_and (sho_num 8) fun n => sho_if (c := 9223372036854775807 < n) (sho_err _) (sho_ok _)
theorem sho_text (lo hi : Int) : Sho (rText lo hi) := sho_and (sho_bnd lo hi) fun n => sho_and (sho_take n.toNat) fun _ => sho_ok _
theorem sho_termOf (k lo : Int) : Sho (rTermOf k lo) := sho_if (c := k = 1) (sho_and (sho_num 8) fun _ => sho_ok _) (sho_if (c := k = 2) (sho_and (sho_text lo 64) fun _ => sho_ok _) (sho_if (c := k = 3) (sho_and sho_nat fun _ => sho_ok _) (sho_ok _)))
theorem sho_qual : Sho rQual := sho_and (sho_one _) fun k => sho_termOf k 1
theorem sho_arg : Sho rArg := sho_and (sho_one _) fun k => sho_termOf k 0
theorem sho_val : Sho rVal := sho_and (sho_one _) fun k => sho_termOf k 0
theorem sho_name : Sho rName := sho_and (sho_text 1 32) fun s => sho_if (c := nameOk s = true) (sho_ok _) (sho_err _)
theorem sho_many {α : Type} {one : List Int -> Rd α} (h : Sho one) : ∀ n, Sho (rMany one n)
 | 0 => sho_ok _
 | n + 1 => sho_and h fun _ => sho_and (sho_many h n) fun _ => sho_ok _
theorem sho_atom : Sho rAtom := sho_and sho_qual fun _ => sho_and sho_name fun _ => sho_and (sho_bnd 0 8) fun n => sho_and (sho_many sho_arg n.toNat) fun _ => sho_ok _
theorem sho_test : Sho rTest := sho_and (sho_one _) fun _ => sho_and sho_arg fun _ => sho_and sho_arg fun _ => sho_ok _
theorem sho_clause : Sho rClause := sho_and sho_atom fun h => sho_and (sho_bnd 0 8) fun n => sho_and (sho_many sho_atom n.toNat) fun b => sho_and (sho_bnd 0 8) fun k => sho_and (sho_many sho_test k.toNat) fun ts => sho_if (c := chkK (h, b, ts) = 0) (sho_ok _) (sho_err _)
theorem sho_step : Sho rStep := sho_and sho_nat fun _ => sho_and (sho_num 4) fun k => sho_and (sho_many sho_val k.toNat) fun _ => sho_and (sho_num 4) fun m => sho_and (sho_many sho_nat m.toNat) fun _ => sho_ok _
theorem sho_proof : Sho rProof := sho_and (sho_num 4) fun n => sho_and (sho_many sho_clause n.toNat) fun _ => sho_and (sho_num 4) fun m => sho_and (sho_many sho_step m.toNat) fun _ => sho_ok _
theorem sho_up : ∀ (n : Nat) (p : Option Ck), Sho (rUp n p)
 | 0, _ => sho_ok _
 | n + 1, p => sho_and sho_clause fun c => sho_if (c := upK p c = true) (sho_and (sho_up n (some c)) fun _ => sho_ok _) (sho_err _)
theorem sho_set : Sho rSet := sho_and (sho_num 4) fun n => sho_up n.toNat none
theorem sho_whole {α : Type} {one : List Int -> Rd α} (h : Sho one) {l : List Int} {a : α} (e : rWhole one l = .ok a) : (∀ m, m < l.length -> rWhole one (l.take m) = .error 61) /\ ∀ t, t ≠ [] -> rWhole one (l ++ t) = .error 62 := by
 unfold rWhole at e
 rcases e1 : one l with c | ⟨b, r⟩
 ·simp only [e1] at e
  cases e
 ·simp only [e1] at e
  split at e
  ·rename_i hr
   subst hr
   obtain ⟨p, rfl, h1, h2⟩ := h l b [] e1
   refine ⟨fun m hm => ?_, fun t ht => ?_⟩
   ·rw [List.append_nil] at hm ⊢
    unfold rWhole
    rw [h2 m hm]
   ·rw [List.append_nil]
    unfold rWhole
    rw [h1]
    simp only [ht, if_false]
  ·cases e
end Go.Proofs.YtelcoihmiglceaaGreat

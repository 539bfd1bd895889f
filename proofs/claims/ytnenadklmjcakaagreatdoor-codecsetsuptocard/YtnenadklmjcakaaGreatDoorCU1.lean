import Derived.Test.YtnenadklmjcakaaGreatDoorCP2
import Derived.Deep.QuietTactic
import Derived.BigQuiet
import Derived.Test.YtnenadklmjcakaaGreatDoorSD5
import Derived.Test.YtnenadklmjcakaaGreatDoorT4
import Derived.Test.YtnenadklmjcakaaGreatDoorCE2
import Derived.Test.YtnenadklmjcakaaGreatDoorCM0
import Derived.Deep.RegionHeld3
import Derived.Test.YtnenadklmjcakaaGreatDoorCH2
namespace Go.Proofs.YtnenadklmjcakaaGreatDoor
open Go.RowKit

theorem As.at8 {w : World} {a : Option Addr} {n cap j : Nat} {l : List (At × Value)} (h : As w (.slice a n cap) l) (hj : j < n) :
  ∃ (b o : Nat) (t : At × Value), a = some ⟨b, o, none⟩ /\ l[j]? = some t /\ b < w.heap.size /\ (w.cell? ⟨b, o + j * 5, none⟩ = some (.int .i64 t.1.by_.k) /\ w.cell? ⟨b, o + j * 5 + 1, none⟩ = some (.int .i64 t.1.by_.n) /\ w.cell? ⟨b, o + j * 5 + 2, none⟩ = some (.string t.1.by_.s) /\ w.cell? ⟨b, o + j * 5 + 3, none⟩ = some (.string t.1.name) /\ w.cell? ⟨b, o + j * 5 + 4, none⟩ = some t.2) /\ Ts w t.2 t.1.args := by
 obtain ⟨a', cap', e, hl, hm, ht⟩ := h
 simp only [Value.slice.injEq] at e
 obtain ⟨rfl, rfl, rfl⟩ := e
 obtain ⟨t, htj⟩ : ∃ t, l[j]? = some t := ⟨_, List.getElem?_eq_getElem hj⟩
 rcases hm with rfl | ⟨b, o, rfl, hr⟩
 ·simp at hj
 ·exact ⟨b, o, t, rfl, htj, hr.1, hr.2 j t htj, ht t (List.mem_of_getElem? htj)⟩
def ptG : List Tm -> Int -> Int
 | [], n => n
 | t :: l, n => if n <= 2147483647 then ptG l (wrap64 (n + t.s.size)) else n
def ptF (n : Int) (l : List Tm) : Int := ptG l (wrap64 (n + l.length))
theorem ptG_drop {l : List Tm} {j : Nat} {t : Tm} {n : Int} (h : l[j]? = some t) : ptG (l.drop j) n = if n <= 2147483647 then ptG (l.drop (j + 1)) (wrap64 (n + t.s.size)) else n := by
 obtain ⟨hj, rfl⟩ := List.getElem?_eq_some_iff.1 h
 rw [List.drop_eq_getElem_cons hj]; rfl
set_option maxRecDepth 20000 in
set_option maxHeartbeats 600000 in
theorem pterms_any (n : Int) (l : List Tm) (v : Value) (w : World) (h : Ts w v l) :
  Calls Tryz.prog 24 #[.int .i64 n, v] w fun e w' => e = .returned (.int .i64 (ptF n l)) /\ w' = w := by
 obtain ⟨F, hF⟩ : ∃ F, ptF n l = F := ⟨_, rfl⟩
 rw [hF]
 have HF : Hid (ptG (l.drop 0) (wrap64 (n + l.length)) = F) := hF
 have HT : Hid (Ts w v l) := h
 obtain ⟨ad, cap, rfl, hl, -⟩ := h
 clear hF
 go_enter Tryz.func24, Tryz.ntmps24
 go_wp2
 go_loopg [0, 5] l.length (fun g u i wr => ∃ (j : Nat) (m : Int), j + g = l.length /\ i = .int .i64 j /\ u = .int .i64 m /\ ptG (l.drop j) m = F /\ wr = w)
 case atStart => exact ⟨0, wrap64 (n + l.length), by omega, rfl, rfl, HF.out, rfl⟩
 case round =>
  obtain ⟨j, m, hj, rfl, rfl, hF, rfl⟩ := hrel
  have HFj : Hid (ptG (l.drop j) m = F) := hF
  clear hF
  cases gk with
  | succ g =>
   have hlt : (j : Int) < (l.length : Int) := by omega
   have j0 : (0 : Int) <= (j : Int) := by omega
   obtain ⟨t, ht⟩ : ∃ t, l[j]? = some t := ⟨_, List.getElem?_eq_getElem (by omega)⟩
   obtain ⟨ad', cap', hx, -, hxx⟩ := HT.out
   simp only [Value.slice.injEq] at hx
   obtain ⟨rfl, -, rfl⟩ := hx
   obtain ⟨b, o, rfl, hbs, hxx⟩ : ∃ b o, ad = some ⟨b, o, none⟩ /\ TRow wr b o l := by
    rcases hxx with hxx | h
    ·rw [hxx] at ht; simp at ht
    ·exact h
   obtain ⟨c0, c1, c2⟩ := hxx j _ ht
   have HS : Hid ((if m <= 2147483647 then ptG (l.drop (j + 1)) (wrap64 (m + t.s.size)) else m) = F) := by show _ = _; rw [<- ptG_drop ht]; exact HFj.out
   clear hxx ht HFj
   obtain ⟨tk, tn, ts⟩ := t
   simp only at c0 c1 c2 HS
   by_cases hm : m <= 2147483647
   ·have HS2 : Hid (ptG (l.drop (j + 1)) (wrap64 (m + ts.size)) = F) := by have := HS.out; rwa [if_pos hm] at this
    clear HS
    go_wp2
    go_roundg g
    case measure => omega
    case rel => exact ⟨j + 1, _, by omega, by go_num, rfl, HS2.out, rfl⟩
   ·obtain rfl : m = F := by have := HS.out; rwa [if_neg hm] at this
    clear HS
    go_wp2
    go_ret
    exact ⟨rfl, rfl⟩
  | zero =>
   obtain rfl : j = l.length := by omega
   obtain rfl : m = F := by have := HFj.out; rwa [List.drop_length] at this
   have hz : ¬ ((l.length : Int) < (l.length : Int)) := by omega
   go_wp2
   go_ret
   exact ⟨rfl, rfl⟩
set_option maxRecDepth 20000 in
set_option maxHeartbeats 1000000 in
theorem pclauses_any (n : Int) (l : List Cm) (v : Value) (w : World) (h : CsP w v l) (hl : l.length <= 1000000000000) :
  Calls Tryz.prog 23 #[.int .i64 n, v] w fun e w' => (∃ m, e = .returned (.int .i64 m)) /\ Below w.heap.size w w' := by
 have HC : Hid (CsP w v l) := h
 obtain ⟨ad, cap, rfl⟩ := h.form
 clear h
 go_enter Tryz.func23, Tryz.ntmps23
 go_wp2
 go_loopg [0, 5] l.length (fun g u i wr => ∃ (j : Nat) (m : Int), j + g = l.length /\ i = .int .i64 j /\ u = .int .i64 m /\ Below w.heap.size w wr)
 case atStart => exact ⟨0, _, by omega, rfl, rfl, Below.refl _ _⟩
 case round =>
  obtain ⟨j, m, hj, rfl, rfl, hb⟩ := hrel
  have HB : Hid (Below w.heap.size w wr) := hb
  clear hb
  cases gk with
  | succ g =>
   have hlt : (j : Int) < (l.length : Int) := by omega
   have j0 : (0 : Int) <= (j : Int) := by omega
   by_cases hm : m <= 2147483647
   ·obtain ⟨t, ht⟩ : ∃ t, l[j]? = some t := ⟨_, List.getElem?_eq_getElem (by omega)⟩
    obtain ⟨b, o, rfl, hbs, hr, hok⟩ := (HC.out.later HB.out).at_ ht
    obtain ⟨c0, c1, c2, c3, c4, c5, c6⟩ := hr.seven ht
    obtain ⟨⟨a1, n1, cap1, x1⟩, ⟨a2, cap2, x2⟩, ⟨a3, cap3, x3⟩, lb, lt⟩ := hok.shape
    have HPT : Hid (∀ (k : Int) (X : World), Below wr.heap.size wr X -> Calls Tryz.prog 24 #[.int .i64 k, t.head.2] X fun e w' => e = .returned (.int .i64 (ptF k t.head.1.args)) /\ w' = X) := fun k X hX => pterms_any k _ _ X (hok.h.later hX)
    have HOK : Hid (As wr t.bv t.body) := hok.b
    have HCR : Hid (∀ X : World, Below wr.heap.size wr X -> X.cell? ⟨b, o + j * 7 + 5, none⟩ = some t.bv) := fun X hX => cell_step hX hbs c5
    obtain ⟨⟨⟨⟨tk, tn, ts⟩, tm, tl⟩, tv⟩, tb, tbv, tt, ttv⟩ := t
    simp only at c0 c1 c2 c3 c4 c5 c6 x1 x2 x3 HPT HOK HCR lb lt
    subst x1 x2 x3
    clear hr hok ht
    go_wp2
    go_quiet (first | (go_at_call 24; refine Calls.quiet_of_same (HPT.out _ _ (below_drewN (Below.refl _ _) _))))
    have HB1 : Hid (Below wr.heap.size wr (wr.drewN nq)) := below_drewN (Below.refl _ _) _
    clear c0 c1 c2 c3 c4 c5 c6
    revert HB1
    generalize wr.drewN nq = W1
    intro HB1
    have d5 := HCR.out _ HB1.out
    go_wp2
    generalize hwo : wr = wo at *
    clear hwo
    go_loopg [0, 6] tb.length (fun g u i wr => ∃ (p : Nat) (m : Int), p + g = tb.length /\ i = .int .i64 p /\ u = .int .i64 m /\ Below wo.heap.size wo wr)
    case atStart => exact ⟨0, _, by omega, rfl, rfl, HB1.out⟩
    case round =>
     obtain ⟨p, q, hp, rfl, rfl, hb⟩ := hrel
     have HB2 : Hid (Below wo.heap.size wo wr) := hb
     clear hb d5
     have d5 := HCR.out _ HB2.out
     cases gk with
     | succ g2 =>
      have p1 : (p : Int) < (tb.length : Int) := by omega
      have p0 : (0 : Int) <= (p : Int) := by omega
      by_cases hq : q <= 2147483647
      ·obtain ⟨b2, o2, t2, e2, ht2, hz2, hc2, hs2⟩ := (HOK.out.later HB2.out).at8 (j := p) (by omega)
       obtain ⟨f0, f1, f2, f3, f4⟩ := hc2
       have HPT2 : Hid (∀ (k : Int) (X : World), Below wr.heap.size wr X -> Calls Tryz.prog 24 #[.int .i64 k, t2.2] X fun e w' => e = .returned (.int .i64 (ptF k t2.1.args)) /\ w' = X) := fun k X hX => pterms_any k _ _ X (hs2.later hX)
       obtain ⟨y1, y2, y3, -⟩ := hs2
       obtain ⟨⟨⟨sk, sn, ss⟩, sm, sl⟩, sv⟩ := t2
       simp only at f0 f1 f2 f3 f4 y3 HPT2
       subst y3 e2
       clear ht2
       go_wp2
       go_quiet (first | (go_at_call 24; refine Calls.quiet_of_same (HPT2.out _ _ (below_drewN (Below.refl _ _) _))))
       go_wp2
       go_roundg g2
       case measure => omega
       case rel => exact ⟨p + 1, _, by omega, by go_num, rfl, below_drewN HB2.out _⟩
      ·go_wp2
       go_roundg g
       case measure => omega
       case rel => exact ⟨j + 1, _, by omega, by go_num, rfl, below_step HB.out HB2.out⟩
     | zero =>
      obtain rfl : p = tb.length := by omega
      have hz : ¬ ((tb.length : Int) < (tb.length : Int)) := by omega
      go_wp2
      go_roundg g
      case measure => omega
      case rel => exact ⟨j + 1, _, by omega, by go_num, rfl, below_step HB.out HB2.out⟩
   ·go_wp2
    go_ret
    exact ⟨⟨_, rfl⟩, HB.out⟩
  | zero =>
   obtain rfl : j = l.length := by omega
   have hz : ¬ ((l.length : Int) < (l.length : Int)) := by omega
   go_wp2
   go_ret
   exact ⟨⟨_, rfl⟩, HB.out⟩
end Go.Proofs.YtnenadklmjcakaaGreatDoor
namespace Go.Proofs.YtnenadklmjcakaaGreatDoor
open Go.RowKit

theorem ctwo {w : World} {g : Nat} {a b : Value} {t : TypeId} (h : CBlk w g #[a, b] t) : w.cell? ⟨g, 0, none⟩ = some a /\ w.cell? ⟨g, 1, none⟩ = some b :=
 two_at h 0 a b rfl rfl
theorem bnP_nil (w : World) : Bn w (.slice none 0 0) [] := ⟨none, 0, rfl, Nat.le_refl _, by simp, Or.inl rfl⟩
end Go.Proofs.YtnenadklmjcakaaGreatDoor
namespace Go.Proofs.YtnenadklmjcakaaGreatDoor
open Go.RowKit

def YesNo (e : Ending) : Prop := ∃ b, e = .returned (.bool b)
set_option maxRecDepth 20000 in
set_option maxHeartbeats 1000000 in
theorem beyond_any (C R : List Cm) (S : List St) (cv rv sv : Value) (ba : Option Addr) (bn bc : Nat) (w : World) (hC : CsP w cv C) (hR : CsP w rv R) (hS : SsP w sv S) (hl0 : C.length <= 1000000000000) (hl1 : R.length <= 1000000000000) (hl2 : S.length <= 1000000000000) :
  Calls Tryz.prog 5 #[cv, .agg #[rv, sv], .slice ba bn bc] w fun e w' => YesNo e /\ Below w.heap.size w w' := by
 have HPC : Hid (∀ (n : Int) (X : World), Below w.heap.size w X -> Calls Tryz.prog 23 #[.int .i64 n, cv] X fun e w' => (∃ m, e = .returned (.int .i64 m)) /\ Below X.heap.size X w') := fun n X hX => pclauses_any n C cv X (hC.later hX) hl0
 have HPR : Hid (∀ (n : Int) (X : World), Below w.heap.size w X -> Calls Tryz.prog 23 #[.int .i64 n, rv] X fun e w' => (∃ m, e = .returned (.int .i64 m)) /\ Below X.heap.size X w') := fun n X hX => pclauses_any n R rv X (hR.later hX) hl1
 have HS : Hid (SsP w sv S) := hS
 obtain ⟨ca, cc, rfl⟩ := hC.form
 obtain ⟨ra, rc, rfl⟩ := hR.form
 obtain ⟨sa, sc, rfl⟩ := hS.form
 have HX : Hid (CBlk (w.alloc (.cells #[.slice ra R.length rc, .slice sa S.length sc] 27)) w.heap.size #[.slice ra R.length rc, .slice sa S.length sc] 27) := CBlk.new _ _ _
 have HW0 : Hid (Below w.heap.size w (w.alloc (.cells #[.slice ra R.length rc, .slice sa S.length sc] 27))) := below1 _ _
 clear hC hR hS
 go_enter Tryz.func5, Tryz.ntmps5
 go_wp2_with (first
  | (go_at_call 23; refine (HPC.out _ _ (below1 _ _)).mono ?_; clear HPC; rintro e w1 ⟨⟨n1, rfl⟩, hb⟩; have HX1 : Hid (CBlk w1 w.heap.size _ 27) := HX.out.later hb; have HW1 : Hid (Below w.heap.size w w1) := below_step HW0.out hb; obtain ⟨c0, c1⟩ := ctwo HX1.out; clear hb HX HW0)
  | (go_at_call 23; refine (HPR.out _ _ HW1.out).mono ?_; clear HPR; rintro e w2 ⟨⟨n2, rfl⟩, hb⟩; have HX2 : Hid (CBlk w2 w.heap.size _ 27) := HX1.out.later hb; have HW2 : Hid (Below w.heap.size w w2) := below_step HW1.out hb; clear c0 c1; obtain ⟨c0, c1⟩ := ctwo HX2.out; clear hb HX1 HW1))
 clear c0 c1
 go_loopg [7, 8] S.length (fun g u i wr => ∃ (j : Nat) (m : Int), j + g = S.length /\ i = .int .i64 j /\ u = .int .i64 m /\ Below w2.heap.size w2 wr)
 case atStart => exact ⟨0, _, by omega, rfl, rfl, Below.refl _ _⟩
 case round =>
  obtain ⟨j, m, hj, rfl, rfl, hb⟩ := hrel
  have HB : Hid (Below w2.heap.size w2 wr) := hb
  have HX3 : Hid (CBlk wr w.heap.size _ 27) := HX2.out.later hb
  obtain ⟨c0, c1⟩ := ctwo HX3.out
  clear hb
  cases gk with
  | succ g =>
   have hlt : (j : Int) < (S.length : Int) := by omega
   have j0 : (0 : Int) <= (j : Int) := by omega
   by_cases hm : m <= 2147483647
   ·obtain ⟨t, ht⟩ : ∃ t, S[j]? = some t := ⟨_, List.getElem?_eq_getElem (by omega)⟩
    obtain ⟨b, o, rfl, hbs, hr, hok⟩ := ((HS.out.later HW2.out).later HB.out).at_ ht
    obtain ⟨d0, d1, d2⟩ := hr.three ht
    obtain ⟨⟨a1, cap1, x1⟩, ⟨a2, cap2, x2⟩, l1, l2⟩ := hok.shape
    have HPT : Hid (∀ (k : Int) (X : World), Below wr.heap.size wr X -> Calls Tryz.prog 24 #[.int .i64 k, t.vv] X fun e w' => e = .returned (.int .i64 (ptF k t.vals)) /\ w' = X) := fun k X hX => pterms_any k _ _ X (hok.t.later hX)
    obtain ⟨tr, tt, tv, tu, tw⟩ := t
    simp only at d0 d1 d2 x1 x2 HPT l1 l2
    subst x1 x2
    clear hr hok ht
    go_wp2
    go_quiet (first | (go_at_call 24; refine Calls.quiet_of_same (HPT.out _ _ (below_drewN (Below.refl _ _) _))))
    go_wp2
    go_roundg g
    case measure => omega
    case rel => exact ⟨j + 1, _, by omega, by go_num, rfl, below_drewN HB.out _⟩
   ·go_wp2
    go_ret
    exact ⟨⟨_, rfl⟩, below_step HW2.out HB.out⟩
  | zero =>
   obtain rfl : j = S.length := by omega
   have hz : ¬ ((S.length : Int) < (S.length : Int)) := by omega
   go_wp2
   go_ret
   exact ⟨⟨_, rfl⟩, below_step HW2.out HB.out⟩
end Go.Proofs.YtnenadklmjcakaaGreatDoor
namespace Go.Proofs.YtnenadklmjcakaaGreatDoor
open Go.RowKit

def sBy (K : List Ck) : List Int := be 4 (K.length : Int) ++ K.flatMap cB
theorem flatC_le9 {l : List Cm} (h : ∀ c ∈ l, c.chk = 0) : (l.flatMap cBm).length <= l.length * 20000 := by
 induction l with
 | nil => simp
 | cons a l ih =>
  have h1 : (cBm a).length <= 20000 := cB_len (h a (by simp))
  have h2 := ih fun c hc => h c (by simp [hc])
  simp only [List.flatMap_cons, List.length_append, List.length_cons]; omega
theorem flat_key (l : List Cm) : l.flatMap cBm = (l.map Cm.key).flatMap cB := by rw [List.flatMap_map]; rfl
def hs (l : List Cm) (k : Ck) : Bool := l.any fun d => decide (d.key = k)
end Go.Proofs.YtnenadklmjcakaaGreatDoor
namespace Go.Proofs.YtnenadklmjcakaaGreatDoor
open Go.RowKit

def upK (p : Option Ck) (c : Ck) : Bool := match p with
 | none => true
 | some q => decide (cmpC q c < 0)
def rUp : Nat -> Option Ck -> List Int -> Rd (List Ck)
 | 0, _, l => .ok ([], l)
 | n + 1, p, l => (rClause l).and fun c r => if upK p c = true then (rUp n (some c) r).and fun cs r => .ok (c :: cs, r) else .error 64
def rSet (l : List Int) : Rd (List Ck) := (rNum 4 l).and fun n r => rUp n.toNat none r
def UpL : Option Ck -> List Ck -> Prop
 | _, [] => True
 | p, c :: l => upK p c = true /\ UpL (some c) l
theorem upL_rise : ∀ {K : List Ck} {p : Option Ck}, UpL p K -> K.Pairwise ltC3 /\ ∀ q, p = some q -> ∀ k ∈ K, ltC3 q k
 | [], _, _ => ⟨List.Pairwise.nil, fun q _ k hk => by cases hk⟩
 | c :: K, p, h => by
  obtain ⟨h1, h2⟩ := upL_rise h.2
  have h3 := h2 c rfl
  refine ⟨List.pairwise_cons.2 ⟨h3, h1⟩, fun q e k hk => ?_⟩
  subst e
  have hq : ltC3 q c := by
   have := h.1
   simp only [upK, decide_eq_true_eq] at this
   exact this
  rcases List.mem_cons.1 hk with rfl | hk
  ·exact hq
  ·exact (ord_c.tr q c k (by unfold ltC3 at hq; omega) (by have := h3 k hk; unfold ltC3 at this; omega)).2 (Or.inl hq)
theorem iv_up : ∀ (n : Nat) (p : Option Ck), Iv (rUp n p) (fun L => L.flatMap cB) (fun L => L.length = n /\ UpL p L /\ ∀ x ∈ L, chkK x = 0 /\ Rng x)
 | 0, p, l, a, r, hb, e => by
  unfold rUp at e
  cases e
  exact ⟨rfl, hb, rfl, trivial, fun x hx => by cases hx⟩
 | n + 1, p, l, a, r, hb, e => by
  unfold rUp at e
  rcases e1 : rClause l with c | ⟨h, r1⟩
  ·rw [e1] at e; cases e
  rw [e1] at e
  simp only [Rd.and] at e
  obtain ⟨a1, a2, a3⟩ := iv_clause l h r1 hb e1
  split at e
  ·rename_i hu
   rcases e2 : rUp n (some h) r1 with c | ⟨L, r2⟩
   ·rw [e2] at e; cases e
   rw [e2] at e
   simp only at e
   obtain ⟨b1, b2, b3, b4, b5⟩ := iv_up n (some h) r1 L r2 a2 e2
   cases e
   refine ⟨?_, b2, by rw [List.length_cons, b3], ⟨hu, b4⟩, fun x hx => ?_⟩
   ·simp only [List.flatMap_cons, List.append_assoc]
    rw [a1, b1]
   ·rcases List.mem_cons.1 hx with rfl | hx
    ·exact a3
    ·exact b5 x hx
  ·cases e
theorem iv_set : Iv rSet sBy (fun K => K.Pairwise ltC3 /\ K.length < 4294967296 /\ ∀ x ∈ K, chkK x = 0 /\ Rng x) := fun l a r hb e => by
 unfold rSet at e
 rcases e2 : rNum 4 l with c | ⟨n, r2⟩
 ·rw [e2] at e; cases e
 rw [e2] at e
 simp only [Rd.and] at e
 obtain ⟨b1, b2, b3, b5⟩ := iv_num4 hb e2
 obtain ⟨c1, c2, c3, c4, c5⟩ := iv_up n.toNat none r2 a r b2 e
 have hn : (a.length : Int) = n := by omega
 refine ⟨?_, c2, (upL_rise c4).1, by omega, c5⟩
 unfold sBy
 rw [b1, c1, hn, List.append_assoc]
theorem iv_wset {l : List Int} {K : List Ck} (hb : byt l) (e : rWhole rSet l = .ok K) : l = sBy K /\ K.Pairwise ltC3 /\ K.length < 4294967296 /\ ∀ x ∈ K, chkK x = 0 /\ Rng x := iv_whole iv_set hb e
end Go.Proofs.YtnenadklmjcakaaGreatDoor
namespace Go.Proofs.YtnenadklmjcakaaGreatDoor
open Go.RowKit

def qRis (p : Option Ck) (c : Ck) (s : Qs) : Qs := if s.er = 0 /\ upK p c = false then ⟨s.at_, 64⟩ else s
def qUp (B : List Int) : Nat -> Option Ck -> Qs -> List Ck × Qs
 | 0, _, s => ([], s)
 | k + 1, p, s => if s.er ≠ 0 then ([], s) else ((qClause B s).1 :: (qUp B k (some (qClause B s).1) (qRis p (qClause B s).1 (qClause B s).2)).1, (qUp B k (some (qClause B s).1) (qRis p (qClause B s).1 (qClause B s).2)).2)
def qSet (B : List Int) (s : Qs) : List Ck × Qs := qUp B (qNum B 4 s).1.toNat none (qNum B 4 s).2
theorem qUp_ne {B : List Int} {k : Nat} {p : Option Ck} {s : Qs} (h : s.er ≠ 0) : qUp B k p s = ([], s) := by
 cases k with
 | zero => rfl
 | succ k => unfold qUp; rw [if_pos h]
theorem qRis_ne {p : Option Ck} {c : Ck} {s : Qs} (h : s.er ≠ 0) : qRis p c s = s := if_neg (fun e => h e.1)
theorem tog_up {B : List Int} (hy : byt B) : ∀ (k : Nat) (p : Option Ck) (s : Qs), s.er = 0 -> s.at_ <= B.length -> Tog B (rUp k p (B.drop s.at_)) (qUp B k p s)
 | 0, _, s, h, hs => ⟨rfl, h, hs, rfl⟩
 | k + 1, p, s, h, hs => by
  have ht := tog_clause hy h hs
  unfold rUp qUp
  rw [if_neg (show ¬ s.er ≠ 0 by rw [h]; simp)]
  rcases hr : rClause (B.drop s.at_) with c | ⟨t, r⟩
  ·rw [hr] at ht
   obtain ⟨h1, h2, h3⟩ := ht
   have hne : (qClause B s).2.er ≠ 0 := by rw [h1]; exact h2
   simp only [Rd.and]
   rw [qRis_ne hne, qUp_ne hne]
   exact ⟨h1, h2, h3⟩
  ·rw [hr] at ht
   obtain ⟨k1, k2, k3, k4⟩ := ht
   simp only [Rd.and]
   rw [k1]
   generalize (qClause B s).2 = s1 at *
   by_cases hu : upK p t = true
   ·rw [if_pos hu, show qRis p t s1 = s1 from if_neg (fun e => by rw [hu] at e; cases e.2)]
    have ht2 := tog_up hy k (some t) s1 k2 k3
    rw [k4] at ht2
    rcases hr2 : rUp k (some t) r with c | ⟨ts, r'⟩
    ·rw [hr2] at ht2; exact ht2
    ·rw [hr2] at ht2; exact ⟨by simp only; rw [ht2.1], ht2.2⟩
   ·have hu' : upK p t = false := by simpa using hu
    rw [if_neg hu, show qRis p t s1 = ⟨s1.at_, 64⟩ from if_pos ⟨k2, hu'⟩, qUp_ne (by simp)]
    exact ⟨rfl, by decide, k3⟩
theorem tog_set {B : List Int} (hy : byt B) {s : Qs} (h : s.er = 0) (hs : s.at_ <= B.length) : Tog B (rSet (B.drop s.at_)) (qSet B s) := by
 have ht := tog_num (k := 4) h hs
 unfold rSet qSet
 rcases hr : rNum 4 (B.drop s.at_) with c | ⟨n, r⟩
 ·rw [hr] at ht
  obtain ⟨h1, h2, h3⟩ := ht
  simp only [Rd.and]
  rw [qUp_ne (by rw [h1]; exact h2)]
  exact ⟨h1, h2, h3⟩
 ·rw [hr] at ht
  obtain ⟨h1, h2, h3, h4⟩ := ht
  simp only [Rd.and]
  rw [h1]
  have ht2 := tog_up hy n.toNat none _ h2 h3
  rwa [h4] at ht2
theorem whole_togX {α : Type} {B : List Int} {one : List Int -> Rd α} {q : α × Qs} (ht : Tog B (one B) q) :
  (rWhole one B = .ok q.1 /\ (qEnd B q.2).er = 0) ∨ (rWhole one B = .error (qEnd B q.2).er /\ (qEnd B q.2).er ≠ 0) := by
 unfold rWhole qEnd
 rcases hr : one B with c | ⟨a, r⟩
 ·rw [hr] at ht
  obtain ⟨h1, h2, h3⟩ := ht
  right
  simp only
  split
  ·rw [stp_ne (by rw [h1]; exact h2), h1]; exact ⟨rfl, h2⟩
  ·rw [h1]; exact ⟨rfl, h2⟩
 ·rw [hr] at ht
  obtain ⟨h1, h2, h3, h4⟩ := ht
  simp only
  by_cases hl : q.2.at_ < B.length
  ·have hne : r ≠ [] := by rw [<- h4]; intro e; have := congrArg List.length e; simp at this; omega
   right
   rw [if_neg hne, if_pos hl, stp_0 h2]
   exact ⟨rfl, by simp⟩
  ·have he : r = [] := by rw [<- h4]; exact List.drop_eq_nil_of_le (by omega)
   left
   rw [if_pos he, if_neg hl]
   exact ⟨by rw [h1], h2⟩
theorem whole_togS {B : List Int} (hy : byt B) : (rWhole rSet B = .ok (qSet B ⟨0, 0⟩).1 /\ (qEnd B (qSet B ⟨0, 0⟩).2).er = 0) ∨ (rWhole rSet B = .error (qEnd B (qSet B ⟨0, 0⟩).2).er /\ (qEnd B (qSet B ⟨0, 0⟩).2).er ≠ 0) := by
 have := tog_set hy (s := ⟨0, 0⟩) rfl (Nat.zero_le _)
 simp only [List.drop_zero] at this
 exact whole_togX this
theorem qNum4 {B : List Int} (hy : byt B) (s : Qs) : ∃ n : Nat, (qNum B 4 s).1 = (n : Int) /\ n < 4294967296 := by
 obtain ⟨h1, h2⟩ := qNum_rng hy (k := 4) (s := s)
 have h4 : (256 : Int) ^ 4 = 4294967296 := by decide
 exact ⟨(qNum B 4 s).1.toNat, by omega, by omega⟩
def QUp (B : List Int) (K : Nat) (s0 : Qs) (k : Nat) (ts : List Ck) (s : Qs) : Prop := qUp B K none s0 = (ts ++ (qUp B k ts.getLast? s).1, (qUp B k ts.getLast? s).2)
theorem QUp.start (B : List Int) (K : Nat) (s0 : Qs) : QUp B K s0 K [] s0 := by unfold QUp; simp
theorem QUp.next {B : List Int} {K k : Nat} {s0 s : Qs} {ts : List Ck} (h : QUp B K s0 (k + 1) ts s) (he : s.er = 0) : QUp B K s0 k (ts ++ [(qClause B s).1]) (qRis ts.getLast? (qClause B s).1 (qClause B s).2) := by
 unfold QUp at h ⊢
 rw [h]
 conv => lhs; unfold qUp
 rw [if_neg (by rw [he]; simp)]
 simp
theorem QUp.stop {B : List Int} {K k : Nat} {s0 s : Qs} {ts : List Ck} (h : QUp B K s0 k ts s) (he : s.er ≠ 0 ∨ k = 0) : qUp B K none s0 = (ts, s) := by
 unfold QUp at h
 rw [h]
 rcases he with he | rfl
 ·rw [qUp_ne he]; simp
 ·simp [qUp]
end Go.Proofs.YtnenadklmjcakaaGreatDoor

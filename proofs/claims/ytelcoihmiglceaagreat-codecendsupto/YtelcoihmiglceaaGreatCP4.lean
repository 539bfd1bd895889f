import Derived.Test.YtelcoihmiglceaaGreatCJ8
import Derived.Test.YtelcoihmiglceaaGreatCG4
import Derived.Test.YtelcoihmiglceaaGreatCD1
import Derived.Test.YtelcoihmiglceaaGreatCP1
import Derived.Deep.QuietTactic
import Derived.BigQuiet
import Derived.Test.YtelcoihmiglceaaGreatCP3
namespace Go.Proofs.YtelcoihmiglceaaGreat
open Go.RowKit

theorem aB_byt9 {a : At} (h : Fit a) : byt (aB a) := by
 unfold aB
 refine (tB_byt h.by_).app ((sB_byt (by have := h.nm; omega)).app ?_)
 intro x hx
 rcases List.mem_cons.1 hx with rfl | hx
 ·have := h.len; omega
 ·obtain ⟨t, ht, hx⟩ := List.mem_flatMap.1 hx
  exact tB_byt (h.args t ht) x hx
theorem eB_byt9 {e : Te} (h : FitE e) : byt (eB e) := by
 intro x hx
 unfold eB at hx
 rcases List.mem_cons.1 hx with rfl | hx
 ·have := h.op; omega
 ·rcases List.mem_append.1 hx with hx | hx
  ·exact tB_byt h.l x hx
  ·exact tB_byt h.r x hx
theorem cB_byt9 {c : Cm} (h : c.chk = 0) : byt (cB c.key) := by
 obtain ⟨g1, g2, g3, g4⟩ := chk_fit h
 unfold cB
 refine (aB_byt9 (g1 _ (by simp))).app (byt.app ?_ ?_)
 ·intro x hx
  rcases List.mem_cons.1 hx with rfl | hx
  ·omega
  ·obtain ⟨a, ha, hx⟩ := List.mem_flatMap.1 hx
   exact aB_byt9 (g1 a (List.mem_cons_of_mem _ ha)) x hx
 ·intro x hx
  rcases List.mem_cons.1 hx with rfl | hx
  ·omega
  ·obtain ⟨a, ha, hx⟩ := List.mem_flatMap.1 hx
   exact eB_byt9 (g2 a ha) x hx
theorem aB_ne (a : At) : aB a ≠ [] := fun h => by
 have := congrArg List.length h
 simp [aB, sB] at this
theorem cB_ne (x : Ck) : cB x ≠ [] := fun h => by
 have := congrArg List.length h
 simp [cB] at this
def kC (x : Ck) : Cm := ⟨(x.1, .slice none 0 0), x.2.1.map fun a => (a, .slice none 0 0), .slice none 0 0, x.2.2, .slice none 0 0⟩
theorem kC_key (x : Ck) : (kC x).key = x := by
 obtain ⟨h, b, t⟩ := x
 simp [kC, Cm.key, fsts, Function.comp_def]
theorem rng_wf {x : Ck} (h : Rng x) : ∀ t ∈ Ck.terms x, (Lit.int .i64 t.n).wf = true := fun t ht => by
 have hr : rng t := by
  unfold Ck.terms at ht
  rcases List.mem_append.1 ht with ht | ht
  ·exact h.a x.1 (by simp) t ht
  ·rcases List.mem_append.1 ht with ht | ht
   ·obtain ⟨a, ha, ht⟩ := List.mem_flatMap.1 ht
    exact h.a a (List.mem_cons_of_mem _ ha) t ht
   ·unfold tls at ht
    obtain ⟨e, he, ht⟩ := List.mem_flatMap.1 ht
    have := h.e e he
    simp at ht
    rcases ht with rfl | rfl
    ·exact this.1
    ·exact this.2
 exact wfN_of hr.1 hr.2
end Go.Proofs.YtelcoihmiglceaaGreat
namespace Go.Proofs.YtelcoihmiglceaaGreat
open Go.RowKit

theorem As.at8 {w : World} {a : Option Addr} {n cap j : Nat} {l : List (At × Value)} (h : As w (.slice a n cap) l) (hj : j < n) :
  ∃ (b o : Nat) (t : At × Value), a = some ⟨b, o, none⟩ /\ l[j]? = some t /\ b < w.heap.size /\ (w.cell? ⟨b, o + j * 5, none⟩ = some (.int .i64 t.1.by_.k) /\ w.cell? ⟨b, o + j * 5 + 1, none⟩ = some (.int .i64 t.1.by_.n) /\ w.cell? ⟨b, o + j * 5 + 2, none⟩ = some (.string t.1.by_.s) /\ w.cell? ⟨b, o + j * 5 + 3, none⟩ = some (.string t.1.name) /\ w.cell? ⟨b, o + j * 5 + 4, none⟩ = some t.2) /\ Ts w t.2 t.1.args := by
 obtain ⟨a', cap', e, hl, hm, ht⟩ := h
 simp only [Value.slice.injEq] at e
 obtain ⟨rfl, rfl, rfl⟩ := e
 obtain ⟨t, htj⟩ : ∃ t, l[j]? = some t := ⟨_, List.getElem?_eq_getElem hj⟩
 rcases hm with rfl | ⟨b, o, rfl, hr⟩
 ·simp at hj
 ·exact ⟨b, o, t, rfl, htj, hr.1, hr.2 j t htj, ht t (List.mem_of_getElem? htj)⟩
def ptG : List Tm -> Int -> Int
 | [], n => n
 | t :: l, n => if n <= 2147483647 then ptG l (wrap64 (n + t.s.size)) else n
def ptF (n : Int) (l : List Tm) : Int := ptG l (wrap64 (n + l.length))
theorem ptG_drop {l : List Tm} {j : Nat} {t : Tm} {n : Int} (h : l[j]? = some t) : ptG (l.drop j) n = if n <= 2147483647 then ptG (l.drop (j + 1)) (wrap64 (n + t.s.size)) else n := by
 obtain ⟨hj, rfl⟩ := List.getElem?_eq_some_iff.1 h
 rw [List.drop_eq_getElem_cons hj]; rfl
set_option maxRecDepth 20000 in
set_option maxHeartbeats 600000 in
theorem pterms_any (n : Int) (l : List Tm) (v : Value) (w : World) (h : Ts w v l) :
  Calls Tryz.prog 26 #[.int .i64 n, v] w fun e w' => e = .returned (.int .i64 (ptF n l)) /\ w' = w := by
 obtain ⟨F, hF⟩ : ∃ F, ptF n l = F := ⟨_, rfl⟩
 rw [hF]
 have HF : Hid (ptG (l.drop 0) (wrap64 (n + l.length)) = F) := hF
 have HT : Hid (Ts w v l) := h
 obtain ⟨ad, cap, rfl, hl, -⟩ := h
 clear hF
 go_enter Tryz.func26, Tryz.ntmps26
 go_wp2
 go_loopg [0, 5] l.length (fun g u i wr => ∃ (j : Nat) (m : Int), j + g = l.length /\ i = .int .i64 j /\ u = .int .i64 m /\ ptG (l.drop j) m = F /\ wr = w)
 case atStart => exact ⟨0, wrap64 (n + l.length), by omega, rfl, rfl, HF.out, rfl⟩
 case round =>
  obtain ⟨j, m, hj, rfl, rfl, hF, rfl⟩ := hrel
  have HFj : Hid (ptG (l.drop j) m = F) := hF
  clear hF
  cases gk with
  | succ g =>
   have hlt : (j : Int) < (l.length : Int) := by omega
   have j0 : (0 : Int) <= (j : Int) := by omega
   obtain ⟨t, ht⟩ : ∃ t, l[j]? = some t := ⟨_, List.getElem?_eq_getElem (by omega)⟩
   obtain ⟨ad', cap', hx, -, hxx⟩ := HT.out
   simp only [Value.slice.injEq] at hx
   obtain ⟨rfl, -, rfl⟩ := hx
   obtain ⟨b, o, rfl, hbs, hxx⟩ : ∃ b o, ad = some ⟨b, o, none⟩ /\ TRow wr b o l := by
    rcases hxx with hxx | h
    ·rw [hxx] at ht; simp at ht
    ·exact h
   obtain ⟨c0, c1, c2⟩ := hxx j _ ht
   have HS : Hid ((if m <= 2147483647 then ptG (l.drop (j + 1)) (wrap64 (m + t.s.size)) else m) = F) := by show _ = _; rw [<- ptG_drop ht]; exact HFj.out
   clear hxx ht HFj
   obtain ⟨tk, tn, ts⟩ := t
   simp only at c0 c1 c2 HS
   by_cases hm : m <= 2147483647
   ·have HS2 : Hid (ptG (l.drop (j + 1)) (wrap64 (m + ts.size)) = F) := by have := HS.out; rwa [if_pos hm] at this
    clear HS
    go_wp2
    go_roundg g
    case measure => omega
    case rel => exact ⟨j + 1, _, by omega, by go_num, rfl, HS2.out, rfl⟩
   ·obtain rfl : m = F := by have := HS.out; rwa [if_neg hm] at this
    clear HS
    go_wp2
    go_ret
    exact ⟨rfl, rfl⟩
  | zero =>
   obtain rfl : j = l.length := by omega
   obtain rfl : m = F := by have := HFj.out; rwa [List.drop_length] at this
   have hz : ¬ ((l.length : Int) < (l.length : Int)) := by omega
   go_wp2
   go_ret
   exact ⟨rfl, rfl⟩
set_option maxRecDepth 20000 in
set_option maxHeartbeats 1000000 in
theorem pclauses_any (n : Int) (l : List Cm) (v : Value) (w : World) (h : CsP w v l) (hl : l.length <= 1000000000000) :
  Calls Tryz.prog 25 #[.int .i64 n, v] w fun e w' => (∃ m, e = .returned (.int .i64 m)) /\ Below w.heap.size w w' := by
 have HC : Hid (CsP w v l) := h
 obtain ⟨ad, cap, rfl⟩ := h.form
 clear h
 go_enter Tryz.func25, Tryz.ntmps25
 go_wp2
 go_loopg [0, 5] l.length (fun g u i wr => ∃ (j : Nat) (m : Int), j + g = l.length /\ i = .int .i64 j /\ u = .int .i64 m /\ Below w.heap.size w wr)
 case atStart => exact ⟨0, _, by omega, rfl, rfl, Below.refl _ _⟩
 case round =>
  obtain ⟨j, m, hj, rfl, rfl, hb⟩ := hrel
  have HB : Hid (Below w.heap.size w wr) := hb
  clear hb
  cases gk with
  | succ g =>
   have hlt : (j : Int) < (l.length : Int) := by omega
   have j0 : (0 : Int) <= (j : Int) := by omega
   by_cases hm : m <= 2147483647
   ·obtain ⟨t, ht⟩ : ∃ t, l[j]? = some t := ⟨_, List.getElem?_eq_getElem (by omega)⟩
    obtain ⟨b, o, rfl, hbs, hr, hok⟩ := (HC.out.later HB.out).at_ ht
    obtain ⟨c0, c1, c2, c3, c4, c5, c6⟩ := hr.seven ht
    obtain ⟨⟨a1, n1, cap1, x1⟩, ⟨a2, cap2, x2⟩, ⟨a3, cap3, x3⟩, lb, lt⟩ := hok.shape
    have HPT : Hid (∀ (k : Int) (X : World), Below wr.heap.size wr X -> Calls Tryz.prog 26 #[.int .i64 k, t.head.2] X fun e w' => e = .returned (.int .i64 (ptF k t.head.1.args)) /\ w' = X) := fun k X hX => pterms_any k _ _ X (hok.h.later hX)
    have HOK : Hid (As wr t.bv t.body) := hok.b
    have HCR : Hid (∀ X : World, Below wr.heap.size wr X -> X.cell? ⟨b, o + j * 7 + 5, none⟩ = some t.bv) := fun X hX => cell_step hX hbs c5
    obtain ⟨⟨⟨⟨tk, tn, ts⟩, tm, tl⟩, tv⟩, tb, tbv, tt, ttv⟩ := t
    simp only at c0 c1 c2 c3 c4 c5 c6 x1 x2 x3 HPT HOK HCR lb lt
    subst x1 x2 x3
    clear hr hok ht
    go_wp2
    go_quiet (first | (go_at_call 26; refine Calls.quiet_of_same (HPT.out _ _ (below_drewN (Below.refl _ _) _))))
    have HB1 : Hid (Below wr.heap.size wr (wr.drewN nq)) := below_drewN (Below.refl _ _) _
    clear c0 c1 c2 c3 c4 c5 c6
    revert HB1
    generalize wr.drewN nq = W1
    intro HB1
    have d5 := HCR.out _ HB1.out
    go_wp2
    generalize hwo : wr = wo at *
    clear hwo
    go_loopg [0, 6] tb.length (fun g u i wr => ∃ (p : Nat) (m : Int), p + g = tb.length /\ i = .int .i64 p /\ u = .int .i64 m /\ Below wo.heap.size wo wr)
    case atStart => exact ⟨0, _, by omega, rfl, rfl, HB1.out⟩
    case round =>
     obtain ⟨p, q, hp, rfl, rfl, hb⟩ := hrel
     have HB2 : Hid (Below wo.heap.size wo wr) := hb
     clear hb d5
     have d5 := HCR.out _ HB2.out
     cases gk with
     | succ g2 =>
      have p1 : (p : Int) < (tb.length : Int) := by omega
      have p0 : (0 : Int) <= (p : Int) := by omega
      by_cases hq : q <= 2147483647
      ·obtain ⟨b2, o2, t2, e2, ht2, hz2, hc2, hs2⟩ := (HOK.out.later HB2.out).at8 (j := p) (by omega)
       obtain ⟨f0, f1, f2, f3, f4⟩ := hc2
       have HPT2 : Hid (∀ (k : Int) (X : World), Below wr.heap.size wr X -> Calls Tryz.prog 26 #[.int .i64 k, t2.2] X fun e w' => e = .returned (.int .i64 (ptF k t2.1.args)) /\ w' = X) := fun k X hX => pterms_any k _ _ X (hs2.later hX)
       obtain ⟨y1, y2, y3, -⟩ := hs2
       obtain ⟨⟨⟨sk, sn, ss⟩, sm, sl⟩, sv⟩ := t2
       simp only at f0 f1 f2 f3 f4 y3 HPT2
       subst y3 e2
       clear ht2
       go_wp2
       go_quiet (first | (go_at_call 26; refine Calls.quiet_of_same (HPT2.out _ _ (below_drewN (Below.refl _ _) _))))
       go_wp2
       go_roundg g2
       case measure => omega
       case rel => exact ⟨p + 1, _, by omega, by go_num, rfl, below_drewN HB2.out _⟩
      ·go_wp2
       go_roundg g
       case measure => omega
       case rel => exact ⟨j + 1, _, by omega, by go_num, rfl, below_step HB.out HB2.out⟩
     | zero =>
      obtain rfl : p = tb.length := by omega
      have hz : ¬ ((tb.length : Int) < (tb.length : Int)) := by omega
      go_wp2
      go_roundg g
      case measure => omega
      case rel => exact ⟨j + 1, _, by omega, by go_num, rfl, below_step HB.out HB2.out⟩
   ·go_wp2
    go_ret
    exact ⟨⟨_, rfl⟩, HB.out⟩
  | zero =>
   obtain rfl : j = l.length := by omega
   have hz : ¬ ((l.length : Int) < (l.length : Int)) := by omega
   go_wp2
   go_ret
   exact ⟨⟨_, rfl⟩, HB.out⟩
end Go.Proofs.YtelcoihmiglceaaGreat
namespace Go.Proofs.YtelcoihmiglceaaGreat
open Go.RowKit

theorem knd_con {t : Tm} (h : t.con = true) : knd t := knd_cov (by unfold Tm.cov; simp [h])
theorem ctwo {w : World} {g : Nat} {a b : Value} {t : TypeId} (h : CBlk w g #[a, b] t) : w.cell? ⟨g, 0, none⟩ = some a /\ w.cell? ⟨g, 1, none⟩ = some b :=
 two_at h 0 a b rfl rfl
theorem bnP_nil (w : World) : Bn w (.slice none 0 0) [] := ⟨none, 0, rfl, Nat.le_refl _, by simp, Or.inl rfl⟩
set_option maxRecDepth 20000 in
set_option maxHeartbeats 600000 in
theorem proofW_any (R : List Cm) (S : List St) (rv sv : Value) (w : World) (hR : CsP w rv R) (hS : SsP w sv S) (hwf : ∀ c ∈ R, c.wf) (hl1 : R.length <= 1000000000000) (hl2 : S.length <= 1000000000000)
  (hbd : fErr R = 0 -> S.all wSt = true -> (R.flatMap cBm).length + (S.flatMap sBm).length <= 90000000000) :
  Calls Tryz.prog 17 #[.agg #[rv, sv]] w fun e w' => ∃ v, e = .returned (.tuple #[v, .int .i64 (pErr R S)]) /\ Bn w' v (if pErr R S = 0 then pB R S else []) /\ Below w.heap.size w w' := by
 have HFE : Hid (∀ X : World, Below w.heap.size w X -> Calls Tryz.prog 37 #[rv] X fun e w' => e = .returned (.int .i64 (fErr R)) /\ Below X.heap.size X w') := fun X hX => firstError_any R rv X (hR.later hX) hwf hl1
 have HPC : Hid (fErr R = 0 -> S.all wSt = true -> ∀ X : World, Below w.heap.size w X -> Calls Tryz.prog 38 #[.slice none 0 0, .int .i64 4, rv, .func (.func 32) #[] #[]] X fun e w' => ∃ v', e = .returned v' /\ Wr X w.heap.size (be 4 (R.length : Int) ++ R.flatMap cBm) v' w') := fun h1 h2 X hX => by
  have hb := hbd h1 h2
  have := putClauses_any R (fErr_zero h1) (by omega) rv (.slice none 0 0) [] w.heap.size X (ownB_nil _ _) (by simp only [List.length_nil]; omega) hX.size (hR.later hX) (fun Y hY => hR.later (hX.trans hY))
  rwa [List.nil_append] at this
 have HPS : Hid (fErr R = 0 -> S.all wSt = true -> ∀ (v1 : Value) (X : World), OwnB X w.heap.size v1 (be 4 (R.length : Int) ++ R.flatMap cBm) -> Below w.heap.size w X -> Calls Tryz.prog 46 #[v1, .int .i64 4, sv, .func (.func 47) #[] #[]] X fun e w' => ∃ v', e = .returned v' /\ Wr X w.heap.size (pB R S) v' w') := fun h1 h2 v1 X ho hX => by
  have hb := hbd h1 h2
  exact putSteps_any S (fun t ht x hx => knd_con (by
   have := List.all_eq_true.1 h2 t ht
   unfold wSt wOk at this
   rw [Bool.and_eq_true] at this
   exact List.all_eq_true.1 this.1 x hx)) (by omega) sv v1 _ w.heap.size X ho (by rw [List.length_append, be_len]; omega) hX.size (hS.later hX) (fun Y hY => hS.later (hX.trans hY))
 have HLB : Hid (fErr R = 0 -> S.all wSt = true -> (pB R S).length < 1000000000000000000) := fun h1 h2 => by
  have hb := hbd h1 h2
  unfold pB
  simp only [List.length_append, be_len]; omega
 have HS : Hid (SsP w sv S) := hS
 obtain ⟨ra, rc, rfl⟩ := hR.form
 obtain ⟨sa, sc, rfl⟩ := hS.form
 have HX : Hid (CBlk (w.alloc (.cells #[.slice ra R.length rc, .slice sa S.length sc] 35)) w.heap.size #[.slice ra R.length rc, .slice sa S.length sc] 35) := CBlk.new _ _ _
 have HW0 : Hid (Below w.heap.size w (w.alloc (.cells #[.slice ra R.length rc, .slice sa S.length sc] 35))) := below1 _ _
 clear hR hS hwf hbd
 by_cases hF : fErr R = 0
 ·rw [hF] at HFE
  have hpE : pErr R S = if S.all wSt = true then 0 else 63 := by unfold pErr; rw [if_pos hF]
  rw [hpE]
  obtain ⟨G, hG⟩ : ∃ g, S.all wSt = g := ⟨_, rfl⟩
  rw [hG]
  have HG : Hid ((S.drop 0).all wSt = G) := hG
  have HF : Hid (fErr R = 0) := hF
  clear hF hG hpE
  go_enter Tryz.func17, Tryz.ntmps17
  go_wp2_with (go_at_call 37; refine (HFE.out _ (below1 _ _)).mono ?_; rintro e w1 ⟨rfl, hb⟩; have HX1 : Hid (CBlk w1 w.heap.size _ 35) := HX.out.later hb; have HW1 : Hid (Below w.heap.size w w1) := below_step HW0.out hb; obtain ⟨c0, c1⟩ := ctwo HX1.out; clear hb)
  clear HX HW0 HFE
  go_loopg [17] S.length (fun g i wr => ∃ j : Nat, j + g = S.length /\ i = .int .i64 j /\ (S.drop j).all wSt = G /\ Below w1.heap.size w1 wr)
  case atStart => exact ⟨0, by omega, rfl, HG.out, Below.refl _ _⟩
  case round =>
   obtain ⟨j, hj, rfl, hGj, hb⟩ := hrel
   have HGj : Hid ((S.drop j).all wSt = G) := hGj
   have HB : Hid (Below w1.heap.size w1 wr) := hb
   clear hGj hb c0 c1
   cases gk with
   | succ g =>
    have hlt : (j : Int) < (S.length : Int) := by omega
    have j0 : (0 : Int) <= (j : Int) := by omega
    obtain ⟨t, ht⟩ : ∃ t, S[j]? = some t := ⟨_, List.getElem?_eq_getElem (by omega)⟩
    obtain ⟨b, o, rfl, hbs, hr, hok⟩ := ((HS.out.later HW1.out).later HB.out).at_ ht
    have HSj : Hid ((wSt t && (S.drop (j + 1)).all wSt) = G) := by show _ = _; rw [<- all_drop ht]; exact HGj.out
    have HWT : Hid (∀ X : World, Below wr.heap.size wr X -> Calls Tryz.prog 45 #[t.v] X fun e w' => e = .returned (.bool (wSt t)) /\ Below X.heap.size X w') := fun X hX => writable_any t X (hok.later hX)
    obtain ⟨c0, c1, c2⟩ := hr.three ht
    obtain ⟨⟨a1, cap1, x1⟩, ⟨a2, cap2, x2⟩, -, -⟩ := hok.shape
    generalize wSt t = E at *
    obtain ⟨tr, tt, tv, tu, tw⟩ := t
    simp only at c0 c1 c2 x1 x2
    subst x1 x2
    clear hr hok ht HGj
    cases E
    ·obtain rfl : false = G := by have := HSj.out; rwa [Bool.false_and] at this
     clear HSj
     go_wp2_with (go_at_call 45; refine (HWT.out _ (below1 _ _)).mono ?_; rintro e w2 ⟨rfl, hb⟩; have HB2 : Hid (Below w.heap.size w w2) := below_step HW1.out (below_step (below_step HB.out (below1 _ _)) hb); clear hb)
     exact bodyPost_ret (v := .tuple #[.slice none 0 0, .int .i64 63]) (by simp [results, Tryz.results17, go_sem]) rfl ⟨_, rfl, bnP_nil _, HB2.out⟩
    ·have HS2 : Hid ((S.drop (j + 1)).all wSt = G) := by have := HSj.out; rwa [Bool.true_and] at this
     clear HSj
     go_wp2_with (go_at_call 45; refine (HWT.out _ (below1 _ _)).mono ?_; rintro e w2 ⟨rfl, hb⟩; have HB2 : Hid (Below w1.heap.size w1 w2) := below_step (below_step HB.out (below1 _ _)) hb; clear hb)
     go_roundg g
     case measure => omega
     case rel => exact ⟨j + 1, by omega, by go_num, HS2.out, HB2.out⟩
   | zero =>
    obtain rfl : j = S.length := by omega
    obtain rfl : true = G := by have := HGj.out; rwa [List.drop_length] at this
    have HA : Hid (S.all wSt = true) := HG.out
    have hz : ¬ ((S.length : Int) < (S.length : Int)) := by omega
    have HX2 : Hid (CBlk wr w.heap.size _ 35) := HX1.out.later HB.out
    have HWr : Hid (Below w.heap.size w wr) := below_step HW1.out HB.out
    obtain ⟨c0, c1⟩ := ctwo HX2.out
    clear HGj HG HB HW1 HX1
    go_wp2_with (first
     | (go_at_call 38; refine (HPC.out HF.out HA.out _ HWr.out).mono ?_; rintro e w3 ⟨v3, rfl, hw3⟩; have HW3 : Hid (Wr w w.heap.size _ v3 w3) := ⟨hw3.own, HWr.out.trans hw3.low, (K8.of HWr.out).trans hw3.k8⟩; have HX3 : Hid (CBlk w3 w.heap.size _ 35) := Blk.k8 HX2.out hw3.k8 (by decide); clear c0 c1; obtain ⟨c0, c1⟩ := ctwo HX3.out; clear hw3)
     | (go_at_call 46; refine (HPS.out HF.out HA.out _ _ HW3.out.own HW3.out.low).mono ?_; rintro e w4 ⟨v4, rfl, hw4⟩))
    exact bodyPost_ret (v := .tuple #[v4, .int .i64 0]) (by simp [results, Tryz.results17, go_sem]) rfl ⟨_, rfl, hw4.own.bn (HLB.out HF.out HA.out), HW3.out.low.trans hw4.low⟩
 ·have hpE : pErr R S = fErr R := by unfold pErr; rw [if_neg hF]
  rw [hpE, if_neg hF]
  have hne : (fErr R != 0) = true := by simpa using hF
  generalize fErr R = F at *
  clear hF hpE HPC HPS HLB
  go_enter Tryz.func17, Tryz.ntmps17
  go_wp2_with (go_at_call 37; refine (HFE.out _ (below1 _ _)).mono ?_; rintro e w1 ⟨rfl, hb⟩; have HW1 : Hid (Below w.heap.size w w1) := below_step HW0.out hb; clear hb)
  exact bodyPost_ret (v := .tuple #[.slice none 0 0, .int .i64 F]) (by simp [results, Tryz.results17, go_sem]) rfl ⟨_, rfl, bnP_nil _, HW1.out⟩
end Go.Proofs.YtelcoihmiglceaaGreat

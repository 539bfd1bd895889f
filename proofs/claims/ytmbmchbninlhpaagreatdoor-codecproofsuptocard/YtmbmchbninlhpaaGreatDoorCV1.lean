import Derived.Test.YtmbmchbninlhpaaGreatDoorCP1
import Derived.Deep.QuietTactic
import Derived.BigQuiet
import Derived.Test.YtmbmchbninlhpaaGreatDoorCJ4
import Derived.Test.YtmbmchbninlhpaaGreatDoorT4
import Derived.Test.YtmbmchbninlhpaaGreatDoorCM0
import Derived.Deep.RegionHeld3
import Derived.Test.YtmbmchbninlhpaaGreatDoorMD2
import Derived.Test.YtmbmchbninlhpaaGreatDoorCL8
import Derived.Test.YtmbmchbninlhpaaGreatDoorSD5
import Derived.Test.YtmbmchbninlhpaaGreatDoorSD1
import Derived.Test.YtmbmchbninlhpaaGreatDoorCR4
namespace Go.Proofs.YtmbmchbninlhpaaGreatDoor
open Go.RowKit

theorem As.at8 {w : World} {a : Option Addr} {n cap j : Nat} {l : List (At × Value)} (h : As w (.slice a n cap) l) (hj : j < n) :
  ∃ (b o : Nat) (t : At × Value), a = some ⟨b, o, none⟩ /\ l[j]? = some t /\ b < w.heap.size /\ (w.cell? ⟨b, o + j * 5, none⟩ = some (.int .i64 t.1.by_.k) /\ w.cell? ⟨b, o + j * 5 + 1, none⟩ = some (.int .i64 t.1.by_.n) /\ w.cell? ⟨b, o + j * 5 + 2, none⟩ = some (.string t.1.by_.s) /\ w.cell? ⟨b, o + j * 5 + 3, none⟩ = some (.string t.1.name) /\ w.cell? ⟨b, o + j * 5 + 4, none⟩ = some t.2) /\ Ts w t.2 t.1.args := by
 obtain ⟨a', cap', e, hl, hm, ht⟩ := h
 simp only [Value.slice.injEq] at e
 obtain ⟨rfl, rfl, rfl⟩ := e
 obtain ⟨t, htj⟩ : ∃ t, l[j]? = some t := ⟨_, List.getElem?_eq_getElem hj⟩
 rcases hm with rfl | ⟨b, o, rfl, hr⟩
 ·simp at hj
 ·exact ⟨b, o, t, rfl, htj, hr.1, hr.2 j t htj, ht t (List.mem_of_getElem? htj)⟩
def ptG : List Tm -> Int -> Int
 | [], n => n
 | t :: l, n => if n <= 2147483647 then ptG l (wrap64 (n + t.s.size)) else n
def ptF (n : Int) (l : List Tm) : Int := ptG l (wrap64 (n + l.length))
theorem ptG_drop {l : List Tm} {j : Nat} {t : Tm} {n : Int} (h : l[j]? = some t) : ptG (l.drop j) n = if n <= 2147483647 then ptG (l.drop (j + 1)) (wrap64 (n + t.s.size)) else n := by
 obtain ⟨hj, rfl⟩ := List.getElem?_eq_some_iff.1 h
 rw [List.drop_eq_getElem_cons hj]; rfl
set_option maxRecDepth 20000 in
set_option maxHeartbeats 600000 in
theorem pterms_any (n : Int) (l : List Tm) (v : Value) (w : World) (h : Ts w v l) :
  Calls Tryz.prog 24 #[.int .i64 n, v] w fun e w' => e = .returned (.int .i64 (ptF n l)) /\ w' = w := by
 obtain ⟨F, hF⟩ : ∃ F, ptF n l = F := ⟨_, rfl⟩
 rw [hF]
 have HF : Hid (ptG (l.drop 0) (wrap64 (n + l.length)) = F) := hF
 have HT : Hid (Ts w v l) := h
 obtain ⟨ad, cap, rfl, hl, -⟩ := h
 clear hF
 go_enter Tryz.func24, Tryz.ntmps24
 go_wp2
 go_loopg [0, 5] l.length (fun g u i wr => ∃ (j : Nat) (m : Int), j + g = l.length /\ i = .int .i64 j /\ u = .int .i64 m /\ ptG (l.drop j) m = F /\ wr = w)
 case atStart => exact ⟨0, wrap64 (n + l.length), by omega, rfl, rfl, HF.out, rfl⟩
 case round =>
  obtain ⟨j, m, hj, rfl, rfl, hF, rfl⟩ := hrel
  have HFj : Hid (ptG (l.drop j) m = F) := hF
  clear hF
  cases gk with
  | succ g =>
   have hlt : (j : Int) < (l.length : Int) := by omega
   have j0 : (0 : Int) <= (j : Int) := by omega
   obtain ⟨t, ht⟩ : ∃ t, l[j]? = some t := ⟨_, List.getElem?_eq_getElem (by omega)⟩
   obtain ⟨ad', cap', hx, -, hxx⟩ := HT.out
   simp only [Value.slice.injEq] at hx
   obtain ⟨rfl, -, rfl⟩ := hx
   obtain ⟨b, o, rfl, hbs, hxx⟩ : ∃ b o, ad = some ⟨b, o, none⟩ /\ TRow wr b o l := by
    rcases hxx with hxx | h
    ·rw [hxx] at ht; simp at ht
    ·exact h
   obtain ⟨c0, c1, c2⟩ := hxx j _ ht
   have HS : Hid ((if m <= 2147483647 then ptG (l.drop (j + 1)) (wrap64 (m + t.s.size)) else m) = F) := by show _ = _; rw [<- ptG_drop ht]; exact HFj.out
   clear hxx ht HFj
   obtain ⟨tk, tn, ts⟩ := t
   simp only at c0 c1 c2 HS
   by_cases hm : m <= 2147483647
   ·have HS2 : Hid (ptG (l.drop (j + 1)) (wrap64 (m + ts.size)) = F) := by have := HS.out; rwa [if_pos hm] at this
    clear HS
    go_wp2
    go_roundg g
    case measure => omega
    case rel => exact ⟨j + 1, _, by omega, by go_num, rfl, HS2.out, rfl⟩
   ·obtain rfl : m = F := by have := HS.out; rwa [if_neg hm] at this
    clear HS
    go_wp2
    go_ret
    exact ⟨rfl, rfl⟩
  | zero =>
   obtain rfl : j = l.length := by omega
   obtain rfl : m = F := by have := HFj.out; rwa [List.drop_length] at this
   have hz : ¬ ((l.length : Int) < (l.length : Int)) := by omega
   go_wp2
   go_ret
   exact ⟨rfl, rfl⟩
set_option maxRecDepth 20000 in
set_option maxHeartbeats 1000000 in
theorem pclauses_any (n : Int) (l : List Cm) (v : Value) (w : World) (h : CsP w v l) (hl : l.length <= 1000000000000) :
  Calls Tryz.prog 23 #[.int .i64 n, v] w fun e w' => (∃ m, e = .returned (.int .i64 m)) /\ Below w.heap.size w w' := by
 have HC : Hid (CsP w v l) := h
 obtain ⟨ad, cap, rfl⟩ := h.form
 clear h
 go_enter Tryz.func23, Tryz.ntmps23
 go_wp2
 go_loopg [0, 5] l.length (fun g u i wr => ∃ (j : Nat) (m : Int), j + g = l.length /\ i = .int .i64 j /\ u = .int .i64 m /\ Below w.heap.size w wr)
 case atStart => exact ⟨0, _, by omega, rfl, rfl, Below.refl _ _⟩
 case round =>
  obtain ⟨j, m, hj, rfl, rfl, hb⟩ := hrel
  have HB : Hid (Below w.heap.size w wr) := hb
  clear hb
  cases gk with
  | succ g =>
   have hlt : (j : Int) < (l.length : Int) := by omega
   have j0 : (0 : Int) <= (j : Int) := by omega
   by_cases hm : m <= 2147483647
   ·obtain ⟨t, ht⟩ : ∃ t, l[j]? = some t := ⟨_, List.getElem?_eq_getElem (by omega)⟩
    obtain ⟨b, o, rfl, hbs, hr, hok⟩ := (HC.out.later HB.out).at_ ht
    obtain ⟨c0, c1, c2, c3, c4, c5, c6⟩ := hr.seven ht
    obtain ⟨⟨a1, n1, cap1, x1⟩, ⟨a2, cap2, x2⟩, ⟨a3, cap3, x3⟩, lb, lt⟩ := hok.shape
    have HPT : Hid (∀ (k : Int) (X : World), Below wr.heap.size wr X -> Calls Tryz.prog 24 #[.int .i64 k, t.head.2] X fun e w' => e = .returned (.int .i64 (ptF k t.head.1.args)) /\ w' = X) := fun k X hX => pterms_any k _ _ X (hok.h.later hX)
    have HOK : Hid (As wr t.bv t.body) := hok.b
    have HCR : Hid (∀ X : World, Below wr.heap.size wr X -> X.cell? ⟨b, o + j * 7 + 5, none⟩ = some t.bv) := fun X hX => cell_step hX hbs c5
    obtain ⟨⟨⟨⟨tk, tn, ts⟩, tm, tl⟩, tv⟩, tb, tbv, tt, ttv⟩ := t
    simp only at c0 c1 c2 c3 c4 c5 c6 x1 x2 x3 HPT HOK HCR lb lt
    subst x1 x2 x3
    clear hr hok ht
    go_wp2
    go_quiet (first | (go_at_call 24; refine Calls.quiet_of_same (HPT.out _ _ (below_drewN (Below.refl _ _) _))))
    have HB1 : Hid (Below wr.heap.size wr (wr.drewN nq)) := below_drewN (Below.refl _ _) _
    clear c0 c1 c2 c3 c4 c5 c6
    revert HB1
    generalize wr.drewN nq = W1
    intro HB1
    have d5 := HCR.out _ HB1.out
    go_wp2
    generalize hwo : wr = wo at *
    clear hwo
    go_loopg [0, 6] tb.length (fun g u i wr => ∃ (p : Nat) (m : Int), p + g = tb.length /\ i = .int .i64 p /\ u = .int .i64 m /\ Below wo.heap.size wo wr)
    case atStart => exact ⟨0, _, by omega, rfl, rfl, HB1.out⟩
    case round =>
     obtain ⟨p, q, hp, rfl, rfl, hb⟩ := hrel
     have HB2 : Hid (Below wo.heap.size wo wr) := hb
     clear hb d5
     have d5 := HCR.out _ HB2.out
     cases gk with
     | succ g2 =>
      have p1 : (p : Int) < (tb.length : Int) := by omega
      have p0 : (0 : Int) <= (p : Int) := by omega
      by_cases hq : q <= 2147483647
      ·obtain ⟨b2, o2, t2, e2, ht2, hz2, hc2, hs2⟩ := (HOK.out.later HB2.out).at8 (j := p) (by omega)
       obtain ⟨f0, f1, f2, f3, f4⟩ := hc2
       have HPT2 : Hid (∀ (k : Int) (X : World), Below wr.heap.size wr X -> Calls Tryz.prog 24 #[.int .i64 k, t2.2] X fun e w' => e = .returned (.int .i64 (ptF k t2.1.args)) /\ w' = X) := fun k X hX => pterms_any k _ _ X (hs2.later hX)
       obtain ⟨y1, y2, y3, -⟩ := hs2
       obtain ⟨⟨⟨sk, sn, ss⟩, sm, sl⟩, sv⟩ := t2
       simp only at f0 f1 f2 f3 f4 y3 HPT2
       subst y3 e2
       clear ht2
       go_wp2
       go_quiet (first | (go_at_call 24; refine Calls.quiet_of_same (HPT2.out _ _ (below_drewN (Below.refl _ _) _))))
       go_wp2
       go_roundg g2
       case measure => omega
       case rel => exact ⟨p + 1, _, by omega, by go_num, rfl, below_drewN HB2.out _⟩
      ·go_wp2
       go_roundg g
       case measure => omega
       case rel => exact ⟨j + 1, _, by omega, by go_num, rfl, below_step HB.out HB2.out⟩
     | zero =>
      obtain rfl : p = tb.length := by omega
      have hz : ¬ ((tb.length : Int) < (tb.length : Int)) := by omega
      go_wp2
      go_roundg g
      case measure => omega
      case rel => exact ⟨j + 1, _, by omega, by go_num, rfl, below_step HB.out HB2.out⟩
   ·go_wp2
    go_ret
    exact ⟨⟨_, rfl⟩, HB.out⟩
  | zero =>
   obtain rfl : j = l.length := by omega
   have hz : ¬ ((l.length : Int) < (l.length : Int)) := by omega
   go_wp2
   go_ret
   exact ⟨⟨_, rfl⟩, HB.out⟩
end Go.Proofs.YtmbmchbninlhpaaGreatDoor
namespace Go.Proofs.YtmbmchbninlhpaaGreatDoor
open Go.RowKit

theorem knd_con {t : Tm} (h : t.con = true) : knd t := knd_cov (by unfold Tm.cov; simp [h])
theorem ctwo {w : World} {g : Nat} {a b : Value} {t : TypeId} (h : CBlk w g #[a, b] t) : w.cell? ⟨g, 0, none⟩ = some a /\ w.cell? ⟨g, 1, none⟩ = some b :=
 two_at h 0 a b rfl rfl
theorem bnP_nil (w : World) : Bn w (.slice none 0 0) [] := ⟨none, 0, rfl, Nat.le_refl _, by simp, Or.inl rfl⟩
set_option maxRecDepth 20000 in
set_option maxHeartbeats 600000 in
theorem proofW_any (R : List Cm) (S : List St) (rv sv : Value) (w : World) (hR : CsP w rv R) (hS : SsP w sv S) (hwf : ∀ c ∈ R, c.wf) (hl1 : R.length <= 1000000000000) (hl2 : S.length <= 1000000000000)
  (hbd : fErr R = 0 -> S.all wSt = true -> (R.flatMap cBm).length + (S.flatMap sBm).length <= 90000000000) :
  Calls Tryz.prog 7 #[.agg #[rv, sv]] w fun e w' => ∃ v, e = .returned (.tuple #[v, .int .i64 (pErr R S)]) /\ Bn w' v (if pErr R S = 0 then pB R S else []) /\ Below w.heap.size w w' := by
 have HFE : Hid (∀ X : World, Below w.heap.size w X -> Calls Tryz.prog 26 #[rv] X fun e w' => e = .returned (.int .i64 (fErr R)) /\ Below X.heap.size X w') := fun X hX => firstError_any R rv X (hR.later hX) hwf hl1
 have HPC : Hid (fErr R = 0 -> S.all wSt = true -> ∀ X : World, Below w.heap.size w X -> Calls Tryz.prog 28 #[.slice none 0 0, .int .i64 4, rv, .func (.func 29) #[] #[]] X fun e w' => ∃ v', e = .returned v' /\ Wr X w.heap.size (be 4 (R.length : Int) ++ R.flatMap cBm) v' w') := fun h1 h2 X hX => by
  have hb := hbd h1 h2
  have := putClauses_any R (fErr_zero h1) (by omega) rv (.slice none 0 0) [] w.heap.size X (ownB_nil _ _) (by simp only [List.length_nil]; omega) hX.size (hR.later hX) (fun Y hY => hR.later (hX.trans hY))
  rwa [List.nil_append] at this
 have HPS : Hid (fErr R = 0 -> S.all wSt = true -> ∀ (v1 : Value) (X : World), OwnB X w.heap.size v1 (be 4 (R.length : Int) ++ R.flatMap cBm) -> Below w.heap.size w X -> Calls Tryz.prog 30 #[v1, .int .i64 4, sv, .func (.func 31) #[] #[]] X fun e w' => ∃ v', e = .returned v' /\ Wr X w.heap.size (pB R S) v' w') := fun h1 h2 v1 X ho hX => by
  have hb := hbd h1 h2
  exact putSteps_any S (fun t ht x hx => knd_con (by
   have := List.all_eq_true.1 h2 t ht
   unfold wSt wOk at this
   rw [Bool.and_eq_true] at this
   exact List.all_eq_true.1 this.1 x hx)) (by omega) sv v1 _ w.heap.size X ho (by rw [List.length_append, be_len]; omega) hX.size (hS.later hX) (fun Y hY => hS.later (hX.trans hY))
 have HLB : Hid (fErr R = 0 -> S.all wSt = true -> (pB R S).length < 1000000000000000000) := fun h1 h2 => by
  have hb := hbd h1 h2
  unfold pB
  simp only [List.length_append, be_len]; omega
 have HS : Hid (SsP w sv S) := hS
 obtain ⟨ra, rc, rfl⟩ := hR.form
 obtain ⟨sa, sc, rfl⟩ := hS.form
 have HX : Hid (CBlk (w.alloc (.cells #[.slice ra R.length rc, .slice sa S.length sc] 25)) w.heap.size #[.slice ra R.length rc, .slice sa S.length sc] 25) := CBlk.new _ _ _
 have HW0 : Hid (Below w.heap.size w (w.alloc (.cells #[.slice ra R.length rc, .slice sa S.length sc] 25))) := below1 _ _
 clear hR hS hwf hbd
 by_cases hF : fErr R = 0
 ·rw [hF] at HFE
  have hpE : pErr R S = if S.all wSt = true then 0 else 63 := by unfold pErr; rw [if_pos hF]
  rw [hpE]
  obtain ⟨G, hG⟩ : ∃ g, S.all wSt = g := ⟨_, rfl⟩
  rw [hG]
  have HG : Hid ((S.drop 0).all wSt = G) := hG
  have HF : Hid (fErr R = 0) := hF
  clear hF hG hpE
  go_enter Tryz.func7, Tryz.ntmps7
  go_wp2_with (go_at_call 26; refine (HFE.out _ (below1 _ _)).mono ?_; rintro e w1 ⟨rfl, hb⟩; have HX1 : Hid (CBlk w1 w.heap.size _ 25) := HX.out.later hb; have HW1 : Hid (Below w.heap.size w w1) := below_step HW0.out hb; obtain ⟨c0, c1⟩ := ctwo HX1.out; clear hb)
  clear HX HW0 HFE
  go_loopg [17] S.length (fun g i wr => ∃ j : Nat, j + g = S.length /\ i = .int .i64 j /\ (S.drop j).all wSt = G /\ Below w1.heap.size w1 wr)
  case atStart => exact ⟨0, by omega, rfl, HG.out, Below.refl _ _⟩
  case round =>
   obtain ⟨j, hj, rfl, hGj, hb⟩ := hrel
   have HGj : Hid ((S.drop j).all wSt = G) := hGj
   have HB : Hid (Below w1.heap.size w1 wr) := hb
   clear hGj hb c0 c1
   cases gk with
   | succ g =>
    have hlt : (j : Int) < (S.length : Int) := by omega
    have j0 : (0 : Int) <= (j : Int) := by omega
    obtain ⟨t, ht⟩ : ∃ t, S[j]? = some t := ⟨_, List.getElem?_eq_getElem (by omega)⟩
    obtain ⟨b, o, rfl, hbs, hr, hok⟩ := ((HS.out.later HW1.out).later HB.out).at_ ht
    have HSj : Hid ((wSt t && (S.drop (j + 1)).all wSt) = G) := by show _ = _; rw [<- all_drop ht]; exact HGj.out
    have HWT : Hid (∀ X : World, Below wr.heap.size wr X -> Calls Tryz.prog 27 #[t.v] X fun e w' => e = .returned (.bool (wSt t)) /\ Below X.heap.size X w') := fun X hX => writable_any t X (hok.later hX)
    obtain ⟨c0, c1, c2⟩ := hr.three ht
    obtain ⟨⟨a1, cap1, x1⟩, ⟨a2, cap2, x2⟩, -, -⟩ := hok.shape
    generalize wSt t = E at *
    obtain ⟨tr, tt, tv, tu, tw⟩ := t
    simp only at c0 c1 c2 x1 x2
    subst x1 x2
    clear hr hok ht HGj
    cases E
    ·obtain rfl : false = G := by have := HSj.out; rwa [Bool.false_and] at this
     clear HSj
     go_wp2_with (go_at_call 27; refine (HWT.out _ (below1 _ _)).mono ?_; rintro e w2 ⟨rfl, hb⟩; have HB2 : Hid (Below w.heap.size w w2) := below_step HW1.out (below_step (below_step HB.out (below1 _ _)) hb); clear hb)
     exact bodyPost_ret (v := .tuple #[.slice none 0 0, .int .i64 63]) (by simp [results, Tryz.results7, go_sem]) rfl ⟨_, rfl, bnP_nil _, HB2.out⟩
    ·have HS2 : Hid ((S.drop (j + 1)).all wSt = G) := by have := HSj.out; rwa [Bool.true_and] at this
     clear HSj
     go_wp2_with (go_at_call 27; refine (HWT.out _ (below1 _ _)).mono ?_; rintro e w2 ⟨rfl, hb⟩; have HB2 : Hid (Below w1.heap.size w1 w2) := below_step (below_step HB.out (below1 _ _)) hb; clear hb)
     go_roundg g
     case measure => omega
     case rel => exact ⟨j + 1, by omega, by go_num, HS2.out, HB2.out⟩
   | zero =>
    obtain rfl : j = S.length := by omega
    obtain rfl : true = G := by have := HGj.out; rwa [List.drop_length] at this
    have HA : Hid (S.all wSt = true) := HG.out
    have hz : ¬ ((S.length : Int) < (S.length : Int)) := by omega
    have HX2 : Hid (CBlk wr w.heap.size _ 25) := HX1.out.later HB.out
    have HWr : Hid (Below w.heap.size w wr) := below_step HW1.out HB.out
    obtain ⟨c0, c1⟩ := ctwo HX2.out
    clear HGj HG HB HW1 HX1
    go_wp2_with (first
     | (go_at_call 28; refine (HPC.out HF.out HA.out _ HWr.out).mono ?_; rintro e w3 ⟨v3, rfl, hw3⟩; have HW3 : Hid (Wr w w.heap.size _ v3 w3) := ⟨hw3.own, HWr.out.trans hw3.low, (K8.of HWr.out).trans hw3.k8⟩; have HX3 : Hid (CBlk w3 w.heap.size _ 25) := Blk.k8 HX2.out hw3.k8 (by decide); clear c0 c1; obtain ⟨c0, c1⟩ := ctwo HX3.out; clear hw3)
     | (go_at_call 30; refine (HPS.out HF.out HA.out _ _ HW3.out.own HW3.out.low).mono ?_; rintro e w4 ⟨v4, rfl, hw4⟩))
    exact bodyPost_ret (v := .tuple #[v4, .int .i64 0]) (by simp [results, Tryz.results7, go_sem]) rfl ⟨_, rfl, hw4.own.bn (HLB.out HF.out HA.out), HW3.out.low.trans hw4.low⟩
 ·have hpE : pErr R S = fErr R := by unfold pErr; rw [if_neg hF]
  rw [hpE, if_neg hF]
  have hne : (fErr R != 0) = true := by simpa using hF
  generalize fErr R = F at *
  clear hF hpE HPC HPS HLB
  go_enter Tryz.func7, Tryz.ntmps7
  go_wp2_with (go_at_call 26; refine (HFE.out _ (below1 _ _)).mono ?_; rintro e w1 ⟨rfl, hb⟩; have HW1 : Hid (Below w.heap.size w w1) := below_step HW0.out hb; clear hb)
  exact bodyPost_ret (v := .tuple #[.slice none 0 0, .int .i64 F]) (by simp [results, Tryz.results7, go_sem]) rfl ⟨_, rfl, bnP_nil _, HW1.out⟩
end Go.Proofs.YtmbmchbninlhpaaGreatDoor
namespace Go.Proofs.YtmbmchbninlhpaaGreatDoor
open Go.RowKit

def YesNo (e : Ending) : Prop := ∃ b, e = .returned (.bool b)
set_option maxRecDepth 20000 in
set_option maxHeartbeats 1000000 in
theorem beyond_any (C R : List Cm) (S : List St) (cv rv sv : Value) (ba : Option Addr) (bn bc : Nat) (w : World) (hC : CsP w cv C) (hR : CsP w rv R) (hS : SsP w sv S) (hl0 : C.length <= 1000000000000) (hl1 : R.length <= 1000000000000) (hl2 : S.length <= 1000000000000) :
  Calls Tryz.prog 5 #[cv, .agg #[rv, sv], .slice ba bn bc] w fun e w' => YesNo e /\ Below w.heap.size w w' := by
 have HPC : Hid (∀ (n : Int) (X : World), Below w.heap.size w X -> Calls Tryz.prog 23 #[.int .i64 n, cv] X fun e w' => (∃ m, e = .returned (.int .i64 m)) /\ Below X.heap.size X w') := fun n X hX => pclauses_any n C cv X (hC.later hX) hl0
 have HPR : Hid (∀ (n : Int) (X : World), Below w.heap.size w X -> Calls Tryz.prog 23 #[.int .i64 n, rv] X fun e w' => (∃ m, e = .returned (.int .i64 m)) /\ Below X.heap.size X w') := fun n X hX => pclauses_any n R rv X (hR.later hX) hl1
 have HS : Hid (SsP w sv S) := hS
 obtain ⟨ca, cc, rfl⟩ := hC.form
 obtain ⟨ra, rc, rfl⟩ := hR.form
 obtain ⟨sa, sc, rfl⟩ := hS.form
 have HX : Hid (CBlk (w.alloc (.cells #[.slice ra R.length rc, .slice sa S.length sc] 25)) w.heap.size #[.slice ra R.length rc, .slice sa S.length sc] 25) := CBlk.new _ _ _
 have HW0 : Hid (Below w.heap.size w (w.alloc (.cells #[.slice ra R.length rc, .slice sa S.length sc] 25))) := below1 _ _
 clear hC hR hS
 go_enter Tryz.func5, Tryz.ntmps5
 go_wp2_with (first
  | (go_at_call 23; refine (HPC.out _ _ (below1 _ _)).mono ?_; clear HPC; rintro e w1 ⟨⟨n1, rfl⟩, hb⟩; have HX1 : Hid (CBlk w1 w.heap.size _ 25) := HX.out.later hb; have HW1 : Hid (Below w.heap.size w w1) := below_step HW0.out hb; obtain ⟨c0, c1⟩ := ctwo HX1.out; clear hb HX HW0)
  | (go_at_call 23; refine (HPR.out _ _ HW1.out).mono ?_; clear HPR; rintro e w2 ⟨⟨n2, rfl⟩, hb⟩; have HX2 : Hid (CBlk w2 w.heap.size _ 25) := HX1.out.later hb; have HW2 : Hid (Below w.heap.size w w2) := below_step HW1.out hb; clear c0 c1; obtain ⟨c0, c1⟩ := ctwo HX2.out; clear hb HX1 HW1))
 clear c0 c1
 go_loopg [7, 8] S.length (fun g u i wr => ∃ (j : Nat) (m : Int), j + g = S.length /\ i = .int .i64 j /\ u = .int .i64 m /\ Below w2.heap.size w2 wr)
 case atStart => exact ⟨0, _, by omega, rfl, rfl, Below.refl _ _⟩
 case round =>
  obtain ⟨j, m, hj, rfl, rfl, hb⟩ := hrel
  have HB : Hid (Below w2.heap.size w2 wr) := hb
  have HX3 : Hid (CBlk wr w.heap.size _ 25) := HX2.out.later hb
  obtain ⟨c0, c1⟩ := ctwo HX3.out
  clear hb
  cases gk with
  | succ g =>
   have hlt : (j : Int) < (S.length : Int) := by omega
   have j0 : (0 : Int) <= (j : Int) := by omega
   by_cases hm : m <= 2147483647
   ·obtain ⟨t, ht⟩ : ∃ t, S[j]? = some t := ⟨_, List.getElem?_eq_getElem (by omega)⟩
    obtain ⟨b, o, rfl, hbs, hr, hok⟩ := ((HS.out.later HW2.out).later HB.out).at_ ht
    obtain ⟨d0, d1, d2⟩ := hr.three ht
    obtain ⟨⟨a1, cap1, x1⟩, ⟨a2, cap2, x2⟩, l1, l2⟩ := hok.shape
    have HPT : Hid (∀ (k : Int) (X : World), Below wr.heap.size wr X -> Calls Tryz.prog 24 #[.int .i64 k, t.vv] X fun e w' => e = .returned (.int .i64 (ptF k t.vals)) /\ w' = X) := fun k X hX => pterms_any k _ _ X (hok.t.later hX)
    obtain ⟨tr, tt, tv, tu, tw⟩ := t
    simp only at d0 d1 d2 x1 x2 HPT l1 l2
    subst x1 x2
    clear hr hok ht
    go_wp2
    go_quiet (first | (go_at_call 24; refine Calls.quiet_of_same (HPT.out _ _ (below_drewN (Below.refl _ _) _))))
    go_wp2
    go_roundg g
    case measure => omega
    case rel => exact ⟨j + 1, _, by omega, by go_num, rfl, below_drewN HB.out _⟩
   ·go_wp2
    go_ret
    exact ⟨⟨_, rfl⟩, below_step HW2.out HB.out⟩
  | zero =>
   obtain rfl : j = S.length := by omega
   have hz : ¬ ((S.length : Int) < (S.length : Int)) := by omega
   go_wp2
   go_ret
   exact ⟨⟨_, rfl⟩, below_step HW2.out HB.out⟩
theorem row_mono {e : TypeId} {w : World} {b b' n m : Nat} {v : Value} {xs : List Value} (h : w.ownsRow b e n v m xs) (hb : b' <= b) : w.ownsRow b' e n v m xs := by
 refine ⟨h.1, ?_⟩
 rcases h.2 with hn | ⟨g, cap, cur, hv, hbb, hg, rest⟩
 ·exact Or.inl hn
 ·exact Or.inr ⟨g, cap, cur, hv, Nat.le_trans hb hbb, hg, rest⟩
end Go.Proofs.YtmbmchbninlhpaaGreatDoor
namespace Go.Proofs.YtmbmchbninlhpaaGreatDoor
open Go.RowKit

theorem flatC_le9 {l : List Cm} (h : ∀ c ∈ l, c.chk = 0) : (l.flatMap cBm).length <= l.length * 20000 := by
 induction l with
 | nil => simp
 | cons a l ih =>
  have h1 : (cBm a).length <= 20000 := cB_len (h a (by simp))
  have h2 := ih fun c hc => h c (by simp [hc])
  simp only [List.flatMap_cons, List.length_append, List.length_cons]; omega
def hs (l : List Cm) (k : Ck) : Bool := l.any fun d => decide (d.key = k)
end Go.Proofs.YtmbmchbninlhpaaGreatDoor
namespace Go.Proofs.YtmbmchbninlhpaaGreatDoor
open Go.RowKit

theorem whole_togX {α : Type} {B : List Int} {one : List Int -> Rd α} {q : α × Qs} (ht : Tog B (one B) q) :
  (rWhole one B = .ok q.1 /\ (qEnd B q.2).er = 0) ∨ (rWhole one B = .error (qEnd B q.2).er /\ (qEnd B q.2).er ≠ 0) := by
 unfold rWhole qEnd
 rcases hr : one B with c | ⟨a, r⟩
 ·rw [hr] at ht
  obtain ⟨h1, h2, h3⟩ := ht
  right
  simp only
  split
  ·rw [stp_ne (by rw [h1]; exact h2), h1]; exact ⟨rfl, h2⟩
  ·rw [h1]; exact ⟨rfl, h2⟩
 ·rw [hr] at ht
  obtain ⟨h1, h2, h3, h4⟩ := ht
  simp only
  by_cases hl : q.2.at_ < B.length
  ·have hne : r ≠ [] := by rw [<- h4]; intro e; have := congrArg List.length e; simp at this; omega
   right
   rw [if_neg hne, if_pos hl, stp_0 h2]
   exact ⟨rfl, by simp⟩
  ·have he : r = [] := by rw [<- h4]; exact List.drop_eq_nil_of_le (by omega)
   left
   rw [if_pos he, if_neg hl]
   exact ⟨by rw [h1], h2⟩
theorem qNum4 {B : List Int} (hy : byt B) (s : Qs) : ∃ n : Nat, (qNum B 4 s).1 = (n : Int) /\ n < 4294967296 := by
 obtain ⟨h1, h2⟩ := qNum_rng hy (k := 4) (s := s)
 have h4 : (256 : Int) ^ 4 = 4294967296 := by decide
 exact ⟨(qNum B 4 s).1.toNat, by omega, by omega⟩
end Go.Proofs.YtmbmchbninlhpaaGreatDoor
namespace Go.Proofs.YtmbmchbninlhpaaGreatDoor
open Go.RowKit

theorem tog_and {α β : Type} {B : List Int} {r : Rd α} {q : α × Qs} {fr : α -> List Int -> Rd β} {f : α -> Qs -> β × Qs} (h : Tog B r q) (h1 : ∀ a (s : Qs), s.er = 0 -> s.at_ <= B.length -> Tog B (fr a (B.drop s.at_)) (f a s)) (h2 : ∀ a (s : Qs), s.er ≠ 0 -> (f a s).2 = s) : Tog B (r.and fr) (f q.1 q.2) := by
 rcases r with c | ⟨a, rest⟩
 ·obtain ⟨k1, k2, k3⟩ := h
  have e := h2 q.1 q.2 (by rw [k1]; exact k2)
  refine ⟨?_, k2, ?_⟩
  ·rw [e]; exact k1
  ·rw [e]; exact k3
 ·obtain ⟨k1, k2, k3, k4⟩ := h
  have := h1 a q.2 k2 k3
  rw [k4] at this
  rw [k1]
  exact this
theorem tog_ret {α : Type} {B : List Int} {a : α} {s : Qs} (h : s.er = 0) (hs : s.at_ <= B.length) : Tog B (.ok (a, B.drop s.at_)) (a, s) := ⟨rfl, h, hs, rfl⟩
theorem tog_val {B : List Int} (hy : byt B) {s : Qs} (h : s.er = 0) (hs : s.at_ <= B.length) : Tog B (rVal (B.drop s.at_)) (qTerm B false true false s) :=
 tog_kind hy h hs rfl (fun k => by simp only [List.mem_cons, List.not_mem_nil, or_false, reduceCtorEq, and_false, and_true, false_or]; omega)
def qStep5 (B : List Int) (n : Int) (ts : List Tm) (m : Int) (s : Qs) : Sk × Qs := ((n, ts, (qMany (qNat B) m.toNat s).1), (qMany (qNat B) m.toNat s).2)
def qStep4 (B : List Int) (n : Int) (ts : List Tm) (s : Qs) : Sk × Qs := qStep5 B n ts (qNum B 4 s).1 (qNum B 4 s).2
def qStep3 (B : List Int) (n k : Int) (s : Qs) : Sk × Qs := qStep4 B n (qMany (qTerm B false true false) k.toNat s).1 (qMany (qTerm B false true false) k.toNat s).2
def qStep2 (B : List Int) (n : Int) (s : Qs) : Sk × Qs := qStep3 B n (qNum B 4 s).1 (qNum B 4 s).2
def qStep (B : List Int) (s : Qs) : Sk × Qs := qStep2 B (qNat B s).1 (qNat B s).2
theorem qStep5_ne {B : List Int} {n : Int} {ts : List Tm} {m : Int} {s : Qs} (h : s.er ≠ 0) : (qStep5 B n ts m s).2 = s := by unfold qStep5; rw [qMany_ne h]
theorem qStep4_ne {B : List Int} {n : Int} {ts : List Tm} {s : Qs} (h : s.er ≠ 0) : (qStep4 B n ts s).2 = s := by unfold qStep4; rw [qNum_ne h]; exact qStep5_ne h
theorem qStep3_ne {B : List Int} {n k : Int} {s : Qs} (h : s.er ≠ 0) : (qStep3 B n k s).2 = s := by unfold qStep3; rw [qMany_ne h]; exact qStep4_ne h
theorem qStep2_ne {B : List Int} {n : Int} {s : Qs} (h : s.er ≠ 0) : (qStep2 B n s).2 = s := by unfold qStep2; rw [qNum_ne h]; exact qStep3_ne h
theorem tog_step {B : List Int} (hy : byt B) {s : Qs} (h : s.er = 0) (hs : s.at_ <= B.length) : Tog B (rStep (B.drop s.at_)) (qStep B s) :=
 tog_and (f := fun n s => qStep2 B n s) (tog_nat h hs) (fun n _ h hs => tog_and (f := fun k s => qStep3 B n k s) (tog_num h hs) (fun k _ h hs => tog_and (f := fun ts s => qStep4 B n ts s) (tog_many (fun _ h hs => tog_val hy h hs) k.toNat _ h hs)
  (fun ts _ h hs => tog_and (f := fun m s => qStep5 B n ts m s) (tog_num h hs) (fun m _ h hs => tog_and (f := fun us s => ((n, ts, us), s)) (tog_many (fun _ h hs => tog_nat h hs) m.toNat _ h hs) (fun _ _ h hs => tog_ret h hs) (fun _ _ _ => rfl)) (fun _ _ h => qStep5_ne h))
  (fun _ _ h => qStep4_ne h)) (fun _ _ h => qStep3_ne h)) (fun _ _ h => qStep2_ne h)
def qProof4 (B : List Int) (cs : List Ck) (m : Int) (s : Qs) : Pk × Qs := ((cs, (qMany (qStep B) m.toNat s).1), (qMany (qStep B) m.toNat s).2)
def qProof3 (B : List Int) (cs : List Ck) (s : Qs) : Pk × Qs := qProof4 B cs (qNum B 4 s).1 (qNum B 4 s).2
def qProof2 (B : List Int) (n : Int) (s : Qs) : Pk × Qs := qProof3 B (qMany (qClause B) n.toNat s).1 (qMany (qClause B) n.toNat s).2
def qProof (B : List Int) (s : Qs) : Pk × Qs := qProof2 B (qNum B 4 s).1 (qNum B 4 s).2
theorem qProof4_ne {B : List Int} {cs : List Ck} {m : Int} {s : Qs} (h : s.er ≠ 0) : (qProof4 B cs m s).2 = s := by unfold qProof4; rw [qMany_ne h]
theorem qProof3_ne {B : List Int} {cs : List Ck} {s : Qs} (h : s.er ≠ 0) : (qProof3 B cs s).2 = s := by unfold qProof3; rw [qNum_ne h]; exact qProof4_ne h
theorem qProof2_ne {B : List Int} {n : Int} {s : Qs} (h : s.er ≠ 0) : (qProof2 B n s).2 = s := by unfold qProof2; rw [qMany_ne h]; exact qProof3_ne h
theorem tog_proof {B : List Int} (hy : byt B) {s : Qs} (h : s.er = 0) (hs : s.at_ <= B.length) : Tog B (rProof (B.drop s.at_)) (qProof B s) :=
 tog_and (f := fun n s => qProof2 B n s) (tog_num h hs) (fun n _ h hs => tog_and (f := fun cs s => qProof3 B cs s) (tog_many (fun _ h hs => tog_clause hy h hs) n.toNat _ h hs)
  (fun cs _ h hs => tog_and (f := fun m s => qProof4 B cs m s) (tog_num h hs) (fun m _ h hs => tog_and (f := fun ss s => ((cs, ss), s)) (tog_many (fun _ h hs => tog_step hy h hs) m.toNat _ h hs) (fun _ _ h hs => tog_ret h hs) (fun _ _ _ => rfl)) (fun _ _ h => qProof4_ne h))
  (fun _ _ h => qProof3_ne h)) (fun _ _ h => qProof2_ne h)
theorem whole_togP {B : List Int} (hy : byt B) : (rWhole rProof B = .ok (qProof B ⟨0, 0⟩).1 /\ (qEnd B (qProof B ⟨0, 0⟩).2).er = 0) ∨ (rWhole rProof B = .error (qEnd B (qProof B ⟨0, 0⟩).2).er /\ (qEnd B (qProof B ⟨0, 0⟩).2).er ≠ 0) := by
 have := tog_proof hy (s := ⟨0, 0⟩) rfl (Nat.zero_le _)
 simp only [List.drop_zero] at this
 exact whole_togX this
end Go.Proofs.YtmbmchbninlhpaaGreatDoor

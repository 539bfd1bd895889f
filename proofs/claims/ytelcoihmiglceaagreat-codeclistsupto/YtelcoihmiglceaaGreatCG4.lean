import Derived.Test.YtelcoihmiglceaaGreatCP2
import Derived.Test.YtelcoihmiglceaaGreatCL12
import Derived.Test.YtelcoihmiglceaaGreatCD10
import Derived.Defers
import Derived.Recover
import Derived.Test.YtelcoihmiglceaaGreatCG3
namespace Go.Proofs.YtelcoihmiglceaaGreat
open Go.RowKit

def fErr : List Cm -> Int
 | [] => 0
 | c :: l => if c.chk = 0 then fErr l else c.chk
def wOk (s : Sk) : Bool := s.2.1.all Tm.con && (s.2.2.all (fun n => decide (0 <= n)) && decide (0 <= s.1))
def wSt (s : St) : Bool := wOk s.key
def pErr (R : List Cm) (S : List St) : Int := if fErr R = 0 then (if S.all wSt = true then 0 else 63) else fErr R
def pB (R : List Cm) (S : List St) : List Int := be 4 (R.length : Int) ++ R.flatMap cBm ++ (be 4 (S.length : Int) ++ S.flatMap sBm)
theorem fErr_zero : ∀ {l : List Cm}, fErr l = 0 -> ∀ c ∈ l, c.chk = 0
 | [], _, c, hc => by simp at hc
 | a :: l, h, c, hc => by
  unfold fErr at h
  by_cases ha : a.chk = 0
  ·rw [if_pos ha] at h
   rcases List.mem_cons.1 hc with rfl | hc
   ·exact ha
   ·exact fErr_zero h c hc
  ·rw [if_neg ha] at h
   exact absurd h ha
theorem fErr_drop {l : List Cm} {j : Nat} {c : Cm} (h : l[j]? = some c) : fErr (l.drop j) = if c.chk = 0 then fErr (l.drop (j + 1)) else c.chk := by
 obtain ⟨hj, rfl⟩ := List.getElem?_eq_some_iff.1 h
 rw [List.drop_eq_getElem_cons hj]; rfl
theorem all_drop {α : Type} {f : α -> Bool} {l : List α} {j : Nat} {x : α} (h : l[j]? = some x) : (l.drop j).all f = (f x && (l.drop (j + 1)).all f) := by
 obtain ⟨hj, rfl⟩ := List.getElem?_eq_some_iff.1 h
 rw [List.drop_eq_getElem_cons hj]; rfl
set_option maxRecDepth 20000 in
set_option maxHeartbeats 600000 in
theorem firstError_any (l : List Cm) (v : Value) (w : World) (h : CsP w v l) (hwf : ∀ c ∈ l, c.wf) (hl : l.length <= 1000000000000) :
  Calls Tryz.prog 37 #[v] w fun e w' => e = .returned (.int .i64 (fErr l)) /\ Below w.heap.size w w' := by
 obtain ⟨F, hF⟩ : ∃ F, fErr l = F := ⟨_, rfl⟩
 rw [hF]
 have HF : Hid (fErr (l.drop 0) = F) := hF
 have HC : Hid (CsP w v l) := h
 have HWF : Hid (∀ c ∈ l, c.wf) := hwf
 obtain ⟨ad, cap, rfl⟩ := h.form
 clear h hF hwf
 go_enter Tryz.func37, Tryz.ntmps37
 go_wp2
 go_loopg [8] l.length (fun g i wr => ∃ j : Nat, j + g = l.length /\ i = .int .i64 j /\ fErr (l.drop j) = F /\ Below w.heap.size w wr)
 case atStart => exact ⟨0, by omega, rfl, HF.out, Below.refl _ _⟩
 case round =>
  obtain ⟨j, hj, rfl, hF, hb⟩ := hrel
  have HFj : Hid (fErr (l.drop j) = F) := hF
  have HB : Hid (Below w.heap.size w wr) := hb
  clear hF hb
  cases gk with
  | succ g =>
   have hlt : (j : Int) < (l.length : Int) := by omega
   have j0 : (0 : Int) <= (j : Int) := by omega
   obtain ⟨t, ht⟩ : ∃ t, l[j]? = some t := ⟨_, List.getElem?_eq_getElem (by omega)⟩
   obtain ⟨b, o, rfl, hbs, hr, hok⟩ := (HC.out.later HB.out).at_ ht
   have HS : Hid ((if t.chk = 0 then fErr (l.drop (j + 1)) else t.chk) = F) := by show _ = _; rw [<- fErr_drop ht]; exact HFj.out
   have HCK : Hid (∀ X : World, Below wr.heap.size wr X -> Calls Tryz.prog 31 #[t.v] X fun e w' => e = .returned (.int .i64 t.chk) /\ Below X.heap.size X w') := fun X hX => check9_any t X (hok.later hX) (HWF.out t (List.mem_of_getElem? ht))
   obtain ⟨c0, c1, c2, c3, c4, c5, c6⟩ := hr.seven ht
   obtain ⟨⟨a1, n1, cap1, x1⟩, ⟨a2, cap2, x2⟩, ⟨a3, cap3, x3⟩, -, -⟩ := hok.shape
   generalize t.chk = E at *
   obtain ⟨⟨⟨⟨tk, tn, ts⟩, tm, tl⟩, tv⟩, tb, tbv, tt, ttv⟩ := t
   simp only at c0 c1 c2 c3 c4 c5 c6 x1 x2 x3
   subst x1 x2 x3
   clear hr hok ht HFj
   by_cases he : E = 0
   ·subst he
    have HS2 : Hid (fErr (l.drop (j + 1)) = F) := by have := HS.out; rwa [if_pos rfl] at this
    clear HS
    go_wp2_with (go_at_call 31; refine (HCK.out _ (below1 _ _)).mono ?_; rintro e w1 ⟨rfl, hb⟩; have HB1 : Hid (Below w.heap.size w w1) := below_step (below_step HB.out (below1 _ _)) hb; clear hb)
    go_roundg g
    case measure => omega
    case rel => exact ⟨j + 1, by omega, by go_num, HS2.out, HB1.out⟩
   ·obtain rfl : E = F := by have := HS.out; rwa [if_neg he] at this
    have hne : (E != 0) = true := by simpa using he
    clear HS he
    go_wp2_with (go_at_call 31; refine (HCK.out _ (below1 _ _)).mono ?_; rintro e w1 ⟨rfl, hb⟩; have HB1 : Hid (Below w.heap.size w w1) := below_step (below_step HB.out (below1 _ _)) hb; clear hb)
    go_ret
    exact ⟨rfl, HB1.out⟩
  | zero =>
   obtain rfl : j = l.length := by omega
   obtain rfl : 0 = F := by have := HFj.out; rwa [List.drop_length] at this
   have hz : ¬ ((l.length : Int) < (l.length : Int)) := by omega
   go_wp2
   go_ret
   exact ⟨rfl, HB.out⟩
set_option maxRecDepth 20000 in
set_option maxHeartbeats 600000 in
theorem writable_any (s : St) (w : World) (h : s.ok w) :
  Calls Tryz.prog 45 #[s.v] w fun e w' => e = .returned (.bool (wSt s)) /\ Below w.heap.size w w' := by
 obtain ⟨R, hR⟩ : ∃ r, wSt s = r := ⟨_, rfl⟩
 rw [hR]
 obtain ⟨sr, sl, sv, su, sw⟩ := s
 have HR : Hid (((sl.drop 0).all Tm.con && (su.all (fun n => decide (0 <= n)) && decide (0 <= sr))) = R) := hR
 have HT : Hid (Ts w sv sl) := h.t
 have HU : Hid (Ns w sw su) := h.u
 obtain ⟨⟨a1, cap1, x1⟩, ⟨a2, cap2, x2⟩, l1, l2⟩ := h.shape
 simp only at x1 x2 l1 l2
 subst x1 x2
 have HX : Hid (CBlk (w.alloc (.cells #[.int .i64 sr, .slice a1 sl.length cap1, .slice a2 su.length cap2] 66)) w.heap.size #[.int .i64 sr, .slice a1 sl.length cap1, .slice a2 su.length cap2] 66) := CBlk.new _ _ _
 have HW0 : Hid (Below w.heap.size w (w.alloc (.cells #[.int .i64 sr, .slice a1 sl.length cap1, .slice a2 su.length cap2] 66))) := below1 _ _
 clear h hR
 go_enter Tryz.func45, Tryz.ntmps45
 go_wp2
 revert HX HW0
 generalize w.alloc (.cells #[.int .i64 sr, .slice a1 sl.length cap1, .slice a2 su.length cap2] 66) = W0
 intro HX HW0
 go_loopg [10] sl.length (fun g i wr => ∃ j : Nat, j + g = sl.length /\ i = .int .i64 j /\ ((sl.drop j).all Tm.con && (su.all (fun n => decide (0 <= n)) && decide (0 <= sr))) = R /\ Below W0.heap.size W0 wr)
 case atStart => exact ⟨0, by omega, rfl, HR.out, Below.refl _ _⟩
 case round =>
  obtain ⟨j, hj, rfl, hR, hb⟩ := hrel
  have HRj : Hid (((sl.drop j).all Tm.con && (su.all (fun n => decide (0 <= n)) && decide (0 <= sr))) = R) := hR
  have HB : Hid (Below W0.heap.size W0 wr) := hb
  clear hR hb HR
  cases gk with
  | succ g =>
   have hlt : (j : Int) < (sl.length : Int) := by omega
   have j0 : (0 : Int) <= (j : Int) := by omega
   obtain ⟨t, ht⟩ : ∃ t, sl[j]? = some t := ⟨_, List.getElem?_eq_getElem (by omega)⟩
   obtain ⟨ad', cap', hx, -, hxx⟩ := (HT.out.later HW0.out).later HB.out
   simp only [Value.slice.injEq] at hx
   obtain ⟨rfl, -, rfl⟩ := hx
   obtain ⟨b, o, rfl, hbs, hxx⟩ : ∃ b o, a1 = some ⟨b, o, none⟩ /\ TRow wr b o sl := by
    rcases hxx with hxx | h
    ·rw [hxx] at ht; simp at ht
    ·exact h
   obtain ⟨c0, c1, c2⟩ := hxx j _ ht
   have HS : Hid ((t.con && ((sl.drop (j + 1)).all Tm.con && (su.all (fun n => decide (0 <= n)) && decide (0 <= sr)))) = R) := by
    have := HRj.out; rw [all_drop ht, Bool.and_assoc] at this; exact this
   have hco := fun X : World => con_any t X
   clear hxx ht HRj
   cases hc : t.con
   ·obtain rfl : false = R := by have := HS.out; rwa [hc, Bool.false_and] at this
    rw [hc] at hco
    have HCO : Hid (∀ X : World, Calls Tryz.prog 83 #[t.v] X fun e w' => e = .returned (.bool false) /\ Below X.heap.size X w') := hco
    clear hco HS hc
    obtain ⟨tk, tn, ts⟩ := t
    simp only at c0 c1 c2
    go_wp2_with (go_at_call 83; refine (HCO.out _).mono ?_; rintro e w1 ⟨rfl, hb⟩; have HB1 : Hid (Below W0.heap.size W0 w1) := below_step (below_step HB.out (below1 _ _)) hb; clear hb)
    go_ret
    exact ⟨rfl, below_step HW0.out HB1.out⟩
   ·have HS2 : Hid (((sl.drop (j + 1)).all Tm.con && (su.all (fun n => decide (0 <= n)) && decide (0 <= sr))) = R) := by have := HS.out; rwa [hc, Bool.true_and] at this
    rw [hc] at hco
    have HCO : Hid (∀ X : World, Calls Tryz.prog 83 #[t.v] X fun e w' => e = .returned (.bool true) /\ Below X.heap.size X w') := hco
    clear hco HS hc
    obtain ⟨tk, tn, ts⟩ := t
    simp only at c0 c1 c2
    go_wp2_with (go_at_call 83; refine (HCO.out _).mono ?_; rintro e w1 ⟨rfl, hb⟩; have HB1 : Hid (Below W0.heap.size W0 w1) := below_step (below_step HB.out (below1 _ _)) hb; clear hb)
    go_roundg g
    case measure => omega
    case rel => exact ⟨j + 1, by omega, by go_num, HS2.out, HB1.out⟩
  | zero =>
   obtain rfl : j = sl.length := by omega
   have HR2 : Hid (((su.drop 0).all (fun n => decide (0 <= n)) && decide (0 <= sr)) = R) := by have := HRj.out; rw [List.drop_length] at this; exact this
   have hz : ¬ ((sl.length : Int) < (sl.length : Int)) := by omega
   have HU2 : Hid (Ns wr (.slice a2 su.length cap2) su) := (HU.out.later HW0.out).later HB.out
   have HX2 : Hid (CBlk wr w.heap.size #[.int .i64 sr, .slice a1 sl.length cap1, .slice a2 su.length cap2] 66) := HX.out.later HB.out
   have HB2 : Hid (Below w.heap.size w wr) := below_step HW0.out HB.out
   obtain ⟨c0, c1, c2⟩ := cthree HX2.out
   clear HRj HU HX HT HB HW0 hj
   generalize wr = wo at *
   go_wp2
   clear hz
   go_loopg [21] su.length (fun g i wr => ∃ j : Nat, j + g = su.length /\ i = .int .i64 j /\ ((su.drop j).all (fun n => decide (0 <= n)) && decide (0 <= sr)) = R /\ wr = wo)
   case atStart => exact ⟨0, by omega, rfl, HR2.out, rfl⟩
   case round =>
    obtain ⟨i, hi, rfl, hR, rfl⟩ := hrel
    have HRi : Hid (((su.drop i).all (fun n => decide (0 <= n)) && decide (0 <= sr)) = R) := hR
    clear hR HR2
    cases gk with
    | succ g =>
     have hlt : (i : Int) < (su.length : Int) := by omega
     have i0 : (0 : Int) <= (i : Int) := by omega
     obtain ⟨t, ht⟩ : ∃ t, su[i]? = some t := ⟨_, List.getElem?_eq_getElem (by omega)⟩
     obtain ⟨ad', cap', hx, -, hxx⟩ := HU2.out
     simp only [Value.slice.injEq] at hx
     obtain ⟨rfl, -, rfl⟩ := hx
     obtain ⟨b, o, rfl, hbs, hxx⟩ : ∃ b o, a2 = some ⟨b, o, none⟩ /\ b < wr.heap.size /\ ∀ (i : Nat) (x : Int), su[i]? = some x -> wr.cell? ⟨b, o + i, none⟩ = some (.int .i64 x) := by
      rcases hxx with hxx | h
      ·rw [hxx] at ht; simp at ht
      ·exact h
     have d0 := hxx i _ ht
     have HS : Hid ((decide (0 <= t) && ((su.drop (i + 1)).all (fun n => decide (0 <= n)) && decide (0 <= sr))) = R) := by
      have := HRi.out; rw [all_drop ht, Bool.and_assoc] at this; exact this
     clear hxx ht HRi
     by_cases hc : t < 0
     ·obtain rfl : false = R := by have := HS.out; rwa [decide_eq_false (by omega), Bool.false_and] at this
      clear HS
      go_wp2
      go_ret
      exact ⟨rfl, HB2.out⟩
     ·have HS2 : Hid (((su.drop (i + 1)).all (fun n => decide (0 <= n)) && decide (0 <= sr)) = R) := by have := HS.out; rwa [decide_eq_true (by omega), Bool.true_and] at this
      clear HS
      go_wp2
      go_roundg g
      case measure => omega
      case rel => exact ⟨i + 1, by omega, by go_num, HS2.out, rfl⟩
    | zero =>
     obtain rfl : i = su.length := by omega
     have hz : ¬ ((su.length : Int) < (su.length : Int)) := by omega
     have HS : Hid (decide (0 <= sr) = R) := by have := HRi.out; rw [List.drop_length, List.all_nil, Bool.true_and] at this; exact this
     clear HRi
     by_cases hc : 0 <= sr
     ·obtain rfl : true = R := by have := HS.out; rwa [decide_eq_true hc] at this
      go_wp2
      go_ret
      exact ⟨rfl, HB2.out⟩
     ·obtain rfl : false = R := by have := HS.out; rwa [decide_eq_false hc] at this
      go_wp2
      go_ret
      exact ⟨rfl, HB2.out⟩
end Go.Proofs.YtelcoihmiglceaaGreat
namespace Go.Proofs.YtelcoihmiglceaaGreat
open Go.RowKit

theorem knd_con {t : Tm} (h : t.con = true) : knd t := knd_cov (by unfold Tm.cov; simp [h])
theorem ctwo {w : World} {g : Nat} {a b : Value} {t : TypeId} (h : CBlk w g #[a, b] t) : w.cell? ⟨g, 0, none⟩ = some a /\ w.cell? ⟨g, 1, none⟩ = some b :=
 two_at h 0 a b rfl rfl
theorem bnP_nil (w : World) : Bn w (.slice none 0 0) [] := ⟨none, 0, rfl, Nat.le_refl _, by simp, Or.inl rfl⟩
set_option maxRecDepth 20000 in
set_option maxHeartbeats 600000 in
theorem proofW_any (R : List Cm) (S : List St) (rv sv : Value) (w : World) (hR : CsP w rv R) (hS : SsP w sv S) (hwf : ∀ c ∈ R, c.wf) (hl1 : R.length <= 1000000000000) (hl2 : S.length <= 1000000000000)
  (hbd : fErr R = 0 -> S.all wSt = true -> (R.flatMap cBm).length + (S.flatMap sBm).length <= 90000000000) :
  Calls Tryz.prog 17 #[.agg #[rv, sv]] w fun e w' => ∃ v, e = .returned (.tuple #[v, .int .i64 (pErr R S)]) /\ Bn w' v (if pErr R S = 0 then pB R S else []) /\ Below w.heap.size w w' := by
 have HFE : Hid (∀ X : World, Below w.heap.size w X -> Calls Tryz.prog 37 #[rv] X fun e w' => e = .returned (.int .i64 (fErr R)) /\ Below X.heap.size X w') := fun X hX => firstError_any R rv X (hR.later hX) hwf hl1
 have HPC : Hid (fErr R = 0 -> S.all wSt = true -> ∀ X : World, Below w.heap.size w X -> Calls Tryz.prog 38 #[.slice none 0 0, .int .i64 4, rv, .func (.func 32) #[] #[]] X fun e w' => ∃ v', e = .returned v' /\ Wr X w.heap.size (be 4 (R.length : Int) ++ R.flatMap cBm) v' w') := fun h1 h2 X hX => by
  have hb := hbd h1 h2
  have := putClauses_any R (fErr_zero h1) (by omega) rv (.slice none 0 0) [] w.heap.size X (ownB_nil _ _) (by simp only [List.length_nil]; omega) hX.size (hR.later hX) (fun Y hY => hR.later (hX.trans hY))
  rwa [List.nil_append] at this
 have HPS : Hid (fErr R = 0 -> S.all wSt = true -> ∀ (v1 : Value) (X : World), OwnB X w.heap.size v1 (be 4 (R.length : Int) ++ R.flatMap cBm) -> Below w.heap.size w X -> Calls Tryz.prog 46 #[v1, .int .i64 4, sv, .func (.func 47) #[] #[]] X fun e w' => ∃ v', e = .returned v' /\ Wr X w.heap.size (pB R S) v' w') := fun h1 h2 v1 X ho hX => by
  have hb := hbd h1 h2
  exact putSteps_any S (fun t ht x hx => knd_con (by
   have := List.all_eq_true.1 h2 t ht
   unfold wSt wOk at this
   rw [Bool.and_eq_true] at this
   exact List.all_eq_true.1 this.1 x hx)) (by omega) sv v1 _ w.heap.size X ho (by rw [List.length_append, be_len]; omega) hX.size (hS.later hX) (fun Y hY => hS.later (hX.trans hY))
 have HLB : Hid (fErr R = 0 -> S.all wSt = true -> (pB R S).length < 1000000000000000000) := fun h1 h2 => by
  have hb := hbd h1 h2
  unfold pB
  simp only [List.length_append, be_len]; omega
 have HS : Hid (SsP w sv S) := hS
 obtain ⟨ra, rc, rfl⟩ := hR.form
 obtain ⟨sa, sc, rfl⟩ := hS.form
 have HX : Hid (CBlk (w.alloc (.cells #[.slice ra R.length rc, .slice sa S.length sc] 35)) w.heap.size #[.slice ra R.length rc, .slice sa S.length sc] 35) := CBlk.new _ _ _
 have HW0 : Hid (Below w.heap.size w (w.alloc (.cells #[.slice ra R.length rc, .slice sa S.length sc] 35))) := below1 _ _
 clear hR hS hwf hbd
 by_cases hF : fErr R = 0
 ·rw [hF] at HFE
  have hpE : pErr R S = if S.all wSt = true then 0 else 63 := by unfold pErr; rw [if_pos hF]
  rw [hpE]
  obtain ⟨G, hG⟩ : ∃ g, S.all wSt = g := ⟨_, rfl⟩
  rw [hG]
  have HG : Hid ((S.drop 0).all wSt = G) := hG
  have HF : Hid (fErr R = 0) := hF
  clear hF hG hpE
  go_enter Tryz.func17, Tryz.ntmps17
  go_wp2_with (go_at_call 37; refine (HFE.out _ (below1 _ _)).mono ?_; rintro e w1 ⟨rfl, hb⟩; have HX1 : Hid (CBlk w1 w.heap.size _ 35) := HX.out.later hb; have HW1 : Hid (Below w.heap.size w w1) := below_step HW0.out hb; obtain ⟨c0, c1⟩ := ctwo HX1.out; clear hb)
  clear HX HW0 HFE
  go_loopg [17] S.length (fun g i wr => ∃ j : Nat, j + g = S.length /\ i = .int .i64 j /\ (S.drop j).all wSt = G /\ Below w1.heap.size w1 wr)
  case atStart => exact ⟨0, by omega, rfl, HG.out, Below.refl _ _⟩
  case round =>
   obtain ⟨j, hj, rfl, hGj, hb⟩ := hrel
   have HGj : Hid ((S.drop j).all wSt = G) := hGj
   have HB : Hid (Below w1.heap.size w1 wr) := hb
   clear hGj hb c0 c1
   cases gk with
   | succ g =>
    have hlt : (j : Int) < (S.length : Int) := by omega
    have j0 : (0 : Int) <= (j : Int) := by omega
    obtain ⟨t, ht⟩ : ∃ t, S[j]? = some t := ⟨_, List.getElem?_eq_getElem (by omega)⟩
    obtain ⟨b, o, rfl, hbs, hr, hok⟩ := ((HS.out.later HW1.out).later HB.out).at_ ht
    have HSj : Hid ((wSt t && (S.drop (j + 1)).all wSt) = G) := by show _ = _; rw [<- all_drop ht]; exact HGj.out
    have HWT : Hid (∀ X : World, Below wr.heap.size wr X -> Calls Tryz.prog 45 #[t.v] X fun e w' => e = .returned (.bool (wSt t)) /\ Below X.heap.size X w') := fun X hX => writable_any t X (hok.later hX)
    obtain ⟨c0, c1, c2⟩ := hr.three ht
    obtain ⟨⟨a1, cap1, x1⟩, ⟨a2, cap2, x2⟩, -, -⟩ := hok.shape
    generalize wSt t = E at *
    obtain ⟨tr, tt, tv, tu, tw⟩ := t
    simp only at c0 c1 c2 x1 x2
    subst x1 x2
    clear hr hok ht HGj
    cases E
    ·obtain rfl : false = G := by have := HSj.out; rwa [Bool.false_and] at this
     clear HSj
     go_wp2_with (go_at_call 45; refine (HWT.out _ (below1 _ _)).mono ?_; rintro e w2 ⟨rfl, hb⟩; have HB2 : Hid (Below w.heap.size w w2) := below_step HW1.out (below_step (below_step HB.out (below1 _ _)) hb); clear hb)
     exact bodyPost_ret (v := .tuple #[.slice none 0 0, .int .i64 63]) (by simp [results, Tryz.results17, go_sem]) rfl ⟨_, rfl, bnP_nil _, HB2.out⟩
    ·have HS2 : Hid ((S.drop (j + 1)).all wSt = G) := by have := HSj.out; rwa [Bool.true_and] at this
     clear HSj
     go_wp2_with (go_at_call 45; refine (HWT.out _ (below1 _ _)).mono ?_; rintro e w2 ⟨rfl, hb⟩; have HB2 : Hid (Below w1.heap.size w1 w2) := below_step (below_step HB.out (below1 _ _)) hb; clear hb)
     go_roundg g
     case measure => omega
     case rel => exact ⟨j + 1, by omega, by go_num, HS2.out, HB2.out⟩
   | zero =>
    obtain rfl : j = S.length := by omega
    obtain rfl : true = G := by have := HGj.out; rwa [List.drop_length] at this
    have HA : Hid (S.all wSt = true) := HG.out
    have hz : ¬ ((S.length : Int) < (S.length : Int)) := by omega
    have HX2 : Hid (CBlk wr w.heap.size _ 35) := HX1.out.later HB.out
    have HWr : Hid (Below w.heap.size w wr) := below_step HW1.out HB.out
    obtain ⟨c0, c1⟩ := ctwo HX2.out
    clear HGj HG HB HW1 HX1
    go_wp2_with (first
     | (go_at_call 38; refine (HPC.out HF.out HA.out _ HWr.out).mono ?_; rintro e w3 ⟨v3, rfl, hw3⟩; have HW3 : Hid (Wr w w.heap.size _ v3 w3) := ⟨hw3.own, HWr.out.trans hw3.low, (K8.of HWr.out).trans hw3.k8⟩; have HX3 : Hid (CBlk w3 w.heap.size _ 35) := Blk.k8 HX2.out hw3.k8 (by decide); clear c0 c1; obtain ⟨c0, c1⟩ := ctwo HX3.out; clear hw3)
     | (go_at_call 46; refine (HPS.out HF.out HA.out _ _ HW3.out.own HW3.out.low).mono ?_; rintro e w4 ⟨v4, rfl, hw4⟩))
    exact bodyPost_ret (v := .tuple #[v4, .int .i64 0]) (by simp [results, Tryz.results17, go_sem]) rfl ⟨_, rfl, hw4.own.bn (HLB.out HF.out HA.out), HW3.out.low.trans hw4.low⟩
 ·have hpE : pErr R S = fErr R := by unfold pErr; rw [if_neg hF]
  rw [hpE, if_neg hF]
  have hne : (fErr R != 0) = true := by simpa using hF
  generalize fErr R = F at *
  clear hF hpE HPC HPS HLB
  go_enter Tryz.func17, Tryz.ntmps17
  go_wp2_with (go_at_call 37; refine (HFE.out _ (below1 _ _)).mono ?_; rintro e w1 ⟨rfl, hb⟩; have HW1 : Hid (Below w.heap.size w w1) := below_step HW0.out hb; clear hb)
  exact bodyPost_ret (v := .tuple #[.slice none 0 0, .int .i64 F]) (by simp [results, Tryz.results17, go_sem]) rfl ⟨_, rfl, bnP_nil _, HW1.out⟩
end Go.Proofs.YtelcoihmiglceaaGreat
namespace Go.Proofs.YtelcoihmiglceaaGreat
open Go.RowKit

theorem run_assert (w : World) (v : Value) (x : TypeId) : (Instr.typeAssert (.iface 38 v) x 38 false).run Tryz.prog w = .ok v w := by
 simp [Instr.typeAssert, run_underlying Tryz.underlying38]
def Bh (w : World) (v : Value) (l : List Int) : Prop := byt l /\ ∃ b o cap, v = .slice (some ⟨b, o, none⟩) l.length cap /\ l.length < cap /\ l.length < 1000000000000000000 /\ b < w.heap.size /\ ∀ (i : Nat) (x : Int), l[i]? = some x -> w.cell? ⟨b, o + i, none⟩ = some (.int .u8 x)
theorem Bh.rd {w : World} {v : Value} {l : List Int} (h : Bh w v l) {X : World} (hb : Below w.heap.size w X) : RdS (X.alloc (.cells #[v] 130)) X.heap.size l := by
 obtain ⟨hy, b, o, cap, rfl, h0, h1, h2, h3⟩ := h
 have hbb := hb.trans (((below1 X (.cells #[.slice (some ⟨b, o, none⟩) l.length cap] 130))).mono hb.size)
 exact ⟨hy, _, Blk.new _ _ _, b, o, cap, rfl, h0, h1, Nat.lt_of_lt_of_le h2 hb.size, Nat.lt_of_lt_of_le h2 hbb.size, fun i x hx => cell_step hbb h2 (h3 i x hx)⟩
theorem bcell1 {w : World} {g : Nat} {v : Value} {t : TypeId} (h : Blk w g #[v] t) : w.cell? ⟨g, 0, none⟩ = some v := h.one.1
def a0 : At := ⟨zt, ⟨#[]⟩, []⟩
theorem Bh.later {w w' : World} {v : Value} {l : List Int} (h : Bh w v l) (hb : Below w.heap.size w w') : Bh w' v l := by
 obtain ⟨hy, b, o, cap, rfl, h0, h1, h2, h3⟩ := h
 exact ⟨hy, b, o, cap, rfl, h0, h1, Nat.lt_of_lt_of_le h2 hb.size, fun i x hx => cell_step hb h2 (h3 i x hx)⟩
end Go.Proofs.YtelcoihmiglceaaGreat
namespace Go.Proofs.YtelcoihmiglceaaGreat
open Go.RowKit

def c0 : Cm := ⟨(⟨zt, ⟨#[]⟩, []⟩, .slice none 0 0), [], .slice none 0 0, [], .slice none 0 0⟩
end Go.Proofs.YtelcoihmiglceaaGreat

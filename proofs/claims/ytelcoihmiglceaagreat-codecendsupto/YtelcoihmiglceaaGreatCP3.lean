import Derived.Test.YtelcoihmiglceaaGreatCP1
import Derived.Test.YtelcoihmiglceaaGreatCG1
import Derived.Test.YtelcoihmiglceaaGreatCL12
namespace Go.Proofs.YtelcoihmiglceaaGreat
open Go.RowKit

def nB (n : Int) : List Int := be 8 (n % 18446744073709551616)
def stB (s : Sk) : List Int := nB s.1 ++ ((be 4 (s.2.1.length : Int) ++ s.2.1.flatMap tB) ++ (be 4 (s.2.2.length : Int) ++ s.2.2.flatMap nB))
def cBm (c : Cm) : List Int := cB c.key
def sBm (s : St) : List Int := stB s.key
theorem nB_len (n : Int) : (nB n).length = 8 := be_len _ _
theorem flat_pre {α β : Type} {f : α -> List β} : ∀ {l : List α} {j : Nat} {x : α}, l[j]? = some x -> ((l.take j).flatMap f).length + (f x).length <= (l.flatMap f).length
 | [], j, x, h => by simp at h
 | a :: l, 0, x, h => by
  simp at h; subst h
  simp
 | a :: l, j + 1, x, h => by
  rw [List.getElem?_cons_succ] at h
  have := flat_pre (f := f) h
  simp only [List.take_succ_cons, List.flatMap_cons, List.length_append]
  omega
set_option maxRecDepth 20000 in
set_option maxHeartbeats 600000 in
theorem putTerms4_any (m : List Tm) (hm : ∀ t ∈ m, knd t) (hn : m.length <= 2000000000000) (y : Value) (v : Value) (l : List Int) (base : Nat) (w : World) (h : OwnB w base v l) (hl : l.length + (m.flatMap tB).length <= 200000000000) (hB : base <= w.heap.size) (hy : Ts w y m) (hyB : ∀ X, Below base w X -> Ts X y m) :
  Calls Tryz.prog 80 #[v, .int .i64 4, y, .func (.func 78) #[] #[]] w fun e w' => ∃ v', e = .returned v' /\ Wr w base (l ++ (be 4 (m.length : Int) ++ m.flatMap tB)) v' w' := by
 have HN : Hid (Calls Tryz.prog 73 #[v, .int .i64 4, .int .u64 (m.length : Int)] w fun e w' => ∃ v', e = .returned v' /\ Wr w base (l ++ be 4 (m.length : Int)) v' w') := putNumber_any 4 (by omega) (m.length : Int) v l base w h (by omega) hB
 have HY : Hid (∀ X, Below base w X -> Ts X y m) := hyB
 have HM : Hid (∀ t ∈ m, knd t) := hm
 have HB : Hid (base <= w.heap.size) := hB
 have HL : Hid (l.length + (m.flatMap tB).length <= 200000000000) := hl
 have e1 : (m.length : Int) % 18446744073709551616 = (m.length : Int) := by omega
 obtain ⟨ad, cap, rfl⟩ : ∃ ad cap, y = .slice ad m.length cap := by obtain ⟨ad, cap, e, -⟩ := hy; exact ⟨ad, cap, e⟩
 clear h hyB hm hy hl
 go_enter Tryz.func80, Tryz.ntmps80
 go_wp2_with (go_at_call 73; refine HN.out.mono ?_; rintro e w1 ⟨v1, rfl, hw⟩; have HW : Hid (Wr w base (l ++ be 4 (m.length : Int)) v1 w1) := hw; clear hw)
 clear e1
 go_loopg [0, 19] m.length (fun g u i wr => ∃ j : Nat, j + g = m.length /\ i = .int .i64 j /\ Wr w base (l ++ be 4 (m.length : Int) ++ (m.take j).flatMap tB) u wr)
 case atStart => exact ⟨0, by omega, rfl, by rw [List.take_zero, List.flatMap_nil, List.append_nil]; exact HW.out⟩
 case round =>
  obtain ⟨j, hj, rfl, hw⟩ := hrel
  have HWr : Hid (Wr w base (l ++ be 4 (m.length : Int) ++ (m.take j).flatMap tB) u0 wr) := hw
  have hsz := hw.low.size
  clear hw
  cases gk with
  | succ g =>
   have hlt : j < m.length := by omega
   obtain ⟨t, ht⟩ : ∃ t, m[j]? = some t := ⟨_, List.getElem?_eq_getElem hlt⟩
   have htm := List.mem_of_getElem? ht
   have HS : Hid ((m.take (j + 1)).flatMap tB = (m.take j).flatMap tB ++ tB t) := flat_succ ht
   have hlen : (l ++ be 4 (m.length : Int) ++ (m.take j).flatMap tB).length + (tB t).length <= 200000000010 := by
    have h1 := flat_pre (f := tB) ht
    have h2 := HL.out
    rw [List.length_append, List.length_append, be_len]; omega
   have HPT : Hid (∀ (v1 : Value) (X : World), OwnB X base v1 (l ++ be 4 (m.length : Int) ++ (m.take j).flatMap tB) -> base <= X.heap.size -> Below base w X -> Calls Tryz.prog 78 #[v1, t.v] X fun e w' => ∃ v', e = .returned v' /\ Wr X base (l ++ be 4 (m.length : Int) ++ (m.take j).flatMap tB ++ tB t) v' w') := fun v1 X h1 h3 hX => putTerm_any t (HM.out t htm) v1 _ base X h1 (by omega) h3
   obtain ⟨ad', cap', hx, -, hxx⟩ := HY.out _ HWr.out.low
   simp only [Value.slice.injEq] at hx
   obtain ⟨rfl, -, rfl⟩ := hx
   obtain ⟨b, o, rfl, hbs, hxx⟩ : ∃ b o, ad = some ⟨b, o, none⟩ /\ TRow wr b o m := by
    rcases hxx with hxx | h
    ·subst hxx; simp at hlt
    ·exact h
   obtain ⟨c0, c1, c2⟩ := hxx j _ ht
   obtain ⟨tk, tn, ts⟩ := t
   simp only at c0 c1 c2
   clear hxx
   clear ht htm hlen
   have i1 : (0 : Int) <= (j : Int) := by omega
   have i2 : (j : Int) < (m.length : Int) := by omega
   go_wp2_with (go_at_call 78; refine (HPT.out _ _ (HWr.out.own.later (below1 _ _)) (by simp; omega) (HWr.out.low.trans ((below1 _ _).mono (by omega)))).mono ?_; rintro e w2 ⟨v2, rfl, hw2⟩)
   go_roundg g
   case measure => omega
   case rel =>
    refine ⟨j + 1, by omega, by go_num, ?_⟩
    rw [HS.out, <- List.append_assoc]
    exact HWr.out.step (Wr.ahead (below1 _ _) (by omega) hw2)
  | zero =>
   obtain rfl : j = m.length := by omega
   have hz : ¬ ((m.length : Int) < (m.length : Int)) := by omega
   go_wp2
   go_ret
   refine ⟨_, rfl, ?_⟩
   have := HWr.out
   rwa [List.take_length, List.append_assoc] at this
set_option maxRecDepth 20000 in
set_option maxHeartbeats 600000 in
theorem putNs_any (m : List Int) (hn : m.length <= 2000000000000) (y : Value) (v : Value) (l : List Int) (base : Nat) (w : World) (h : OwnB w base v l) (hl : l.length + (m.flatMap nB).length <= 200000000000) (hB : base <= w.heap.size) (hy : Ns w y m) (hyB : ∀ X, Below base w X -> Ns X y m) :
  Calls Tryz.prog 85 #[v, .int .i64 4, y, .func (.func 84) #[] #[]] w fun e w' => ∃ v', e = .returned v' /\ Wr w base (l ++ (be 4 (m.length : Int) ++ m.flatMap nB)) v' w' := by
 have HN : Hid (Calls Tryz.prog 73 #[v, .int .i64 4, .int .u64 (m.length : Int)] w fun e w' => ∃ v', e = .returned v' /\ Wr w base (l ++ be 4 (m.length : Int)) v' w') := putNumber_any 4 (by omega) (m.length : Int) v l base w h (by omega) hB
 have HY : Hid (∀ X, Below base w X -> Ns X y m) := hyB
 have HB : Hid (base <= w.heap.size) := hB
 have HL : Hid (l.length + (m.flatMap nB).length <= 200000000000) := hl
 have e1 : (m.length : Int) % 18446744073709551616 = (m.length : Int) := by omega
 obtain ⟨ad, cap, rfl⟩ : ∃ ad cap, y = .slice ad m.length cap := by obtain ⟨ad, cap, e, -⟩ := hy; exact ⟨ad, cap, e⟩
 clear h hyB hy hl
 go_enter Tryz.func85, Tryz.ntmps85
 go_wp2_with (go_at_call 73; refine HN.out.mono ?_; rintro e w1 ⟨v1, rfl, hw⟩; have HW : Hid (Wr w base (l ++ be 4 (m.length : Int)) v1 w1) := hw; clear hw)
 clear e1
 go_loopg [0, 19] m.length (fun g u i wr => ∃ j : Nat, j + g = m.length /\ i = .int .i64 j /\ Wr w base (l ++ be 4 (m.length : Int) ++ (m.take j).flatMap nB) u wr)
 case atStart => exact ⟨0, by omega, rfl, by rw [List.take_zero, List.flatMap_nil, List.append_nil]; exact HW.out⟩
 case round =>
  obtain ⟨j, hj, rfl, hw⟩ := hrel
  have HWr : Hid (Wr w base (l ++ be 4 (m.length : Int) ++ (m.take j).flatMap nB) u0 wr) := hw
  have hsz := hw.low.size
  clear hw
  cases gk with
  | succ g =>
   have hlt : j < m.length := by omega
   obtain ⟨t, ht⟩ : ∃ t, m[j]? = some t := ⟨_, List.getElem?_eq_getElem hlt⟩
   have htm := List.mem_of_getElem? ht
   have HS : Hid ((m.take (j + 1)).flatMap nB = (m.take j).flatMap nB ++ nB t) := flat_succ ht
   have hlen : (l ++ be 4 (m.length : Int) ++ (m.take j).flatMap nB).length + (nB t).length <= 200000000010 := by
    have h1 := flat_pre (f := nB) ht
    have h2 := HL.out
    rw [List.length_append, List.length_append, be_len]; omega
   have HPT : Hid (∀ (v1 : Value) (X : World), OwnB X base v1 (l ++ be 4 (m.length : Int) ++ (m.take j).flatMap nB) -> base <= X.heap.size -> Below base w X -> Calls Tryz.prog 84 #[v1, .int .i64 t] X fun e w' => ∃ v', e = .returned v' /\ Wr X base (l ++ be 4 (m.length : Int) ++ (m.take j).flatMap nB ++ nB t) v' w') := fun v1 X h1 h3 hX => putInt_any t v1 _ base X h1 (by omega) h3
   obtain ⟨ad', cap', hx, -, hxx⟩ := HY.out _ HWr.out.low
   simp only [Value.slice.injEq] at hx
   obtain ⟨rfl, -, rfl⟩ := hx
   obtain ⟨b, o, rfl, hbs, hxx⟩ : ∃ b o, ad = some ⟨b, o, none⟩ /\ b < wr.heap.size /\ ∀ (i : Nat) (x : Int), m[i]? = some x -> wr.cell? ⟨b, o + i, none⟩ = some (.int .i64 x) := by
    rcases hxx with hxx | h
    ·subst hxx; simp at hlt
    ·exact h
   have c0 := hxx j _ ht
   clear hxx
   clear ht htm hlen
   have i1 : (0 : Int) <= (j : Int) := by omega
   have i2 : (j : Int) < (m.length : Int) := by omega
   go_wp2_with (go_at_call 84; refine (HPT.out _ _ HWr.out.own (by omega) HWr.out.low).mono ?_; rintro e w2 ⟨v2, rfl, hw2⟩)
   go_roundg g
   case measure => omega
   case rel =>
    refine ⟨j + 1, by omega, by go_num, ?_⟩
    rw [HS.out, <- List.append_assoc]
    exact HWr.out.step hw2
  | zero =>
   obtain rfl : j = m.length := by omega
   have hz : ¬ ((m.length : Int) < (m.length : Int)) := by omega
   go_wp2
   go_ret
   refine ⟨_, rfl, ?_⟩
   have := HWr.out
   rwa [List.take_length, List.append_assoc] at this
set_option maxRecDepth 20000 in
set_option maxHeartbeats 600000 in
theorem putClauses_any (m : List Cm) (hm : ∀ t ∈ m, t.chk = 0) (hn : m.length <= 1000000000000) (y : Value) (v : Value) (l : List Int) (base : Nat) (w : World) (h : OwnB w base v l) (hl : l.length + (m.flatMap cBm).length <= 100000000000) (hB : base <= w.heap.size) (hy : CsP w y m) (hyB : ∀ X, Below base w X -> CsP X y m) :
  Calls Tryz.prog 38 #[v, .int .i64 4, y, .func (.func 32) #[] #[]] w fun e w' => ∃ v', e = .returned v' /\ Wr w base (l ++ (be 4 (m.length : Int) ++ m.flatMap cBm)) v' w' := by
 have HN : Hid (Calls Tryz.prog 73 #[v, .int .i64 4, .int .u64 (m.length : Int)] w fun e w' => ∃ v', e = .returned v' /\ Wr w base (l ++ be 4 (m.length : Int)) v' w') := putNumber_any 4 (by omega) (m.length : Int) v l base w h (by omega) hB
 have HY : Hid (∀ X, Below base w X -> CsP X y m) := hyB
 have HM : Hid (∀ t ∈ m, t.chk = 0) := hm
 have HB : Hid (base <= w.heap.size) := hB
 have HL : Hid (l.length + (m.flatMap cBm).length <= 100000000000) := hl
 have e1 : (m.length : Int) % 18446744073709551616 = (m.length : Int) := by omega
 obtain ⟨ad, cap, rfl⟩ : ∃ ad cap, y = .slice ad m.length cap := hy.form
 clear h hyB hm hy hl
 go_enter Tryz.func38, Tryz.ntmps38
 go_wp2_with (go_at_call 73; refine HN.out.mono ?_; rintro e w1 ⟨v1, rfl, hw⟩; have HW : Hid (Wr w base (l ++ be 4 (m.length : Int)) v1 w1) := hw; clear hw)
 clear e1
 go_loopg [0, 19] m.length (fun g u i wr => ∃ j : Nat, j + g = m.length /\ i = .int .i64 j /\ Wr w base (l ++ be 4 (m.length : Int) ++ (m.take j).flatMap cBm) u wr)
 case atStart => exact ⟨0, by omega, rfl, by rw [List.take_zero, List.flatMap_nil, List.append_nil]; exact HW.out⟩
 case round =>
  obtain ⟨j, hj, rfl, hw⟩ := hrel
  have HWr : Hid (Wr w base (l ++ be 4 (m.length : Int) ++ (m.take j).flatMap cBm) u0 wr) := hw
  have hsz := hw.low.size
  clear hw
  cases gk with
  | succ g =>
   have hlt : j < m.length := by omega
   obtain ⟨t, ht⟩ : ∃ t, m[j]? = some t := ⟨_, List.getElem?_eq_getElem hlt⟩
   have htm := List.mem_of_getElem? ht
   have HS : Hid ((m.take (j + 1)).flatMap cBm = (m.take j).flatMap cBm ++ cBm t) := flat_succ ht
   have hlen : (l ++ be 4 (m.length : Int) ++ (m.take j).flatMap cBm).length + (cBm t).length <= 100000000010 := by
    have h1 := flat_pre (f := cBm) ht
    have h2 := HL.out
    rw [List.length_append, List.length_append, be_len]; omega
   have HPT : Hid (∀ (v1 : Value) (X : World), OwnB X base v1 (l ++ be 4 (m.length : Int) ++ (m.take j).flatMap cBm) -> base <= X.heap.size -> Below base w X -> Calls Tryz.prog 32 #[v1, t.v] X fun e w' => ∃ v', e = .returned v' /\ Wr X base (l ++ be 4 (m.length : Int) ++ (m.take j).flatMap cBm ++ cBm t) v' w') := fun v1 X h1 h3 hX => putClause_any t v1 _ (chk_fit (HM.out t htm)) base X h1 (by omega) h3 ((HY.out X hX).ok t htm) (fun Y hY => (HY.out Y (hX.trans hY)).ok t htm)
   obtain ⟨b, o, rfl, hbs, hr, hok⟩ := (HY.out _ HWr.out.low).at_ ht
   obtain ⟨c0, c1, c2, c3, c4, c5, c6⟩ := hr.seven ht
   obtain ⟨⟨a1, n1, cap1, x1⟩, ⟨a2, cap2, x2⟩, ⟨a3, cap3, x3⟩, -, -⟩ := hok.shape
   obtain ⟨⟨⟨⟨tk, tn, ts⟩, tm, tl⟩, tv⟩, tb, tbv, tt, ttv⟩ := t
   simp only at c0 c1 c2 c3 c4 c5 c6 x1 x2 x3
   subst x1 x2 x3
   clear hr hok
   clear ht htm hlen
   have i1 : (0 : Int) <= (j : Int) := by omega
   have i2 : (j : Int) < (m.length : Int) := by omega
   go_wp2_with (go_at_call 32; refine (HPT.out _ _ (HWr.out.own.later (below1 _ _)) (by simp; omega) (HWr.out.low.trans ((below1 _ _).mono (by omega)))).mono ?_; rintro e w2 ⟨v2, rfl, hw2⟩)
   go_roundg g
   case measure => omega
   case rel =>
    refine ⟨j + 1, by omega, by go_num, ?_⟩
    rw [HS.out, <- List.append_assoc]
    exact HWr.out.step (Wr.ahead (below1 _ _) (by omega) hw2)
  | zero =>
   obtain rfl : j = m.length := by omega
   have hz : ¬ ((m.length : Int) < (m.length : Int)) := by omega
   go_wp2
   go_ret
   refine ⟨_, rfl, ?_⟩
   have := HWr.out
   rwa [List.take_length, List.append_assoc] at this
theorem stB_parts (s : Sk) : (stB s).length = 16 + (s.2.1.flatMap tB).length + (s.2.2.flatMap nB).length := by
 unfold stB
 simp only [List.length_append, nB_len, be_len]
 omega
theorem flatN_len (l : List Int) : l.length <= (l.flatMap nB).length := by
 induction l with
 | nil => simp
 | cons a l ih => simp only [List.flatMap_cons, List.length_append, List.length_cons, nB_len]; omega
theorem flatT_len (l : List Tm) : l.length <= (l.flatMap tB).length := by
 induction l with
 | nil => simp
 | cons a l ih => simp only [List.flatMap_cons, List.length_append, List.length_cons]; have := (tB_len a).1; omega
set_option maxRecDepth 20000 in
set_option maxHeartbeats 600000 in
theorem putStep_any (s : St) (hs : ∀ x ∈ s.vals, knd x) (v : Value) (l : List Int) (base : Nat) (w : World) (h : OwnB w base v l) (hl : l.length + (stB s.key).length <= 100000000010) (hB : base <= w.heap.size) (hk : s.ok w) (hkB : ∀ X, Below base w X -> s.ok X) :
  Calls Tryz.prog 47 #[v, s.v] w fun e w' => ∃ v', e = .returned v' /\ Wr w base (l ++ stB s.key) v' w' := by
 obtain ⟨sr, sl, sv, su, sw⟩ := s
 simp only [St.key, stB_parts] at hl
 simp only at hs
 have q1 := flatN_len su
 have q2 := flatT_len sl
 have HP1 : Hid (∀ (X : World), OwnB X base v l -> base <= X.heap.size -> Calls Tryz.prog 84 #[v, .int .i64 sr] X fun e w' => ∃ v', e = .returned v' /\ Wr X base (l ++ nB sr) v' w') := fun X h1 h3 => putInt_any sr v l base X h1 (by omega) h3
 have HP2 : Hid (∀ (v1 : Value) (X : World), OwnB X base v1 (l ++ nB sr) -> base <= X.heap.size -> Below base w X -> Calls Tryz.prog 80 #[v1, .int .i64 4, sv, .func (.func 78) #[] #[]] X fun e w' => ∃ v', e = .returned v' /\ Wr X base (l ++ nB sr ++ (be 4 (sl.length : Int) ++ sl.flatMap tB)) v' w') := fun v1 X h1 h3 hX => putTerms4_any sl hs (by omega) sv v1 _ base X h1 (by rw [List.length_append, nB_len]; omega) h3 (hkB X hX).t (fun Y hY => (hkB Y (hX.trans hY)).t)
 have HP3 : Hid (∀ (v1 : Value) (X : World), OwnB X base v1 (l ++ nB sr ++ (be 4 (sl.length : Int) ++ sl.flatMap tB)) -> base <= X.heap.size -> Below base w X -> Calls Tryz.prog 85 #[v1, .int .i64 4, sw, .func (.func 84) #[] #[]] X fun e w' => ∃ v', e = .returned v' /\ Wr X base (l ++ nB sr ++ (be 4 (sl.length : Int) ++ sl.flatMap tB) ++ (be 4 (su.length : Int) ++ su.flatMap nB)) v' w') := fun v1 X h1 h3 hX => putNs_any su (by omega) sw v1 _ base X h1 (by simp only [List.length_append, nB_len, be_len]; omega) h3 (hkB X hX).u (fun Y hY => (hkB Y (hX.trans hY)).u)
 have HE : Hid (l ++ stB (St.key ⟨sr, sl, sv, su, sw⟩) = l ++ nB sr ++ (be 4 (sl.length : Int) ++ sl.flatMap tB) ++ (be 4 (su.length : Int) ++ su.flatMap nB)) := by show _ = _; simp [stB, St.key]
 have HB : Hid (base <= w.heap.size) := hB
 have HO : Hid (OwnB w base v l) := h
 obtain ⟨⟨a1, cap1, x1⟩, ⟨a2, cap2, x2⟩, -, -⟩ := hk.shape
 simp only at x1 x2
 subst x1 x2
 clear hk hkB h hs q1 q2 hl
 go_enter Tryz.func47, Tryz.ntmps47
 go_wp2_with (first
  | (go_at_call 84; refine (HP1.out _ (HO.out.later (below1 _ _)) (by simp; omega)).mono ?_; rintro e w1 ⟨v1, rfl, hw1⟩; have HW1 : Hid (Wr w base _ v1 w1) := Wr.ahead (below1 _ _) HB.out hw1; have hz1 := HW1.out.low.size; have HK1 : Hid (Blk w1 _ _ _) := (Blk.new w #[.int .i64 sr, .slice a1 sl.length cap1, .slice a2 su.length cap2] 66).k8 hw1.k8 (by decide); obtain ⟨c0, c1, c2⟩ := cthree HK1.out; clear hw1)
  | (go_at_call 80; refine (HP2.out _ _ HW1.out.own (by omega) HW1.out.low).mono ?_; rintro e w2 ⟨v2, rfl, hw2⟩; have HW2 : Hid (Wr w base _ v2 w2) := HW1.out.step hw2; have hz2 := HW2.out.low.size; have HK2 : Hid (Blk w2 _ _ _) := HK1.out.k8 hw2.k8 (by decide); clear c0 c1 c2; obtain ⟨c0, c1, c2⟩ := cthree HK2.out; clear hw2)
  | (go_at_call 85; refine (HP3.out _ _ HW2.out.own (by omega) HW2.out.low).mono ?_; rintro e w3 ⟨v3, rfl, hw3⟩))
 go_ret
 exact ⟨_, rfl, by rw [HE.out]; exact HW2.out.step hw3⟩
set_option maxRecDepth 20000 in
set_option maxHeartbeats 600000 in
theorem putSteps_any (m : List St) (hm : ∀ t ∈ m, (∀ x ∈ t.vals, knd x)) (hn : m.length <= 1000000000000) (y : Value) (v : Value) (l : List Int) (base : Nat) (w : World) (h : OwnB w base v l) (hl : l.length + (m.flatMap sBm).length <= 100000000000) (hB : base <= w.heap.size) (hy : SsP w y m) (hyB : ∀ X, Below base w X -> SsP X y m) :
  Calls Tryz.prog 46 #[v, .int .i64 4, y, .func (.func 47) #[] #[]] w fun e w' => ∃ v', e = .returned v' /\ Wr w base (l ++ (be 4 (m.length : Int) ++ m.flatMap sBm)) v' w' := by
 have HN : Hid (Calls Tryz.prog 73 #[v, .int .i64 4, .int .u64 (m.length : Int)] w fun e w' => ∃ v', e = .returned v' /\ Wr w base (l ++ be 4 (m.length : Int)) v' w') := putNumber_any 4 (by omega) (m.length : Int) v l base w h (by omega) hB
 have HY : Hid (∀ X, Below base w X -> SsP X y m) := hyB
 have HM : Hid (∀ t ∈ m, (∀ x ∈ t.vals, knd x)) := hm
 have HB : Hid (base <= w.heap.size) := hB
 have HL : Hid (l.length + (m.flatMap sBm).length <= 100000000000) := hl
 have e1 : (m.length : Int) % 18446744073709551616 = (m.length : Int) := by omega
 obtain ⟨ad, cap, rfl⟩ : ∃ ad cap, y = .slice ad m.length cap := hy.form
 clear h hyB hm hy hl
 go_enter Tryz.func46, Tryz.ntmps46
 go_wp2_with (go_at_call 73; refine HN.out.mono ?_; rintro e w1 ⟨v1, rfl, hw⟩; have HW : Hid (Wr w base (l ++ be 4 (m.length : Int)) v1 w1) := hw; clear hw)
 clear e1
 go_loopg [0, 19] m.length (fun g u i wr => ∃ j : Nat, j + g = m.length /\ i = .int .i64 j /\ Wr w base (l ++ be 4 (m.length : Int) ++ (m.take j).flatMap sBm) u wr)
 case atStart => exact ⟨0, by omega, rfl, by rw [List.take_zero, List.flatMap_nil, List.append_nil]; exact HW.out⟩
 case round =>
  obtain ⟨j, hj, rfl, hw⟩ := hrel
  have HWr : Hid (Wr w base (l ++ be 4 (m.length : Int) ++ (m.take j).flatMap sBm) u0 wr) := hw
  have hsz := hw.low.size
  clear hw
  cases gk with
  | succ g =>
   have hlt : j < m.length := by omega
   obtain ⟨t, ht⟩ : ∃ t, m[j]? = some t := ⟨_, List.getElem?_eq_getElem hlt⟩
   have htm := List.mem_of_getElem? ht
   have HS : Hid ((m.take (j + 1)).flatMap sBm = (m.take j).flatMap sBm ++ sBm t) := flat_succ ht
   have hlen : (l ++ be 4 (m.length : Int) ++ (m.take j).flatMap sBm).length + (sBm t).length <= 100000000010 := by
    have h1 := flat_pre (f := sBm) ht
    have h2 := HL.out
    rw [List.length_append, List.length_append, be_len]; omega
   have HPT : Hid (∀ (v1 : Value) (X : World), OwnB X base v1 (l ++ be 4 (m.length : Int) ++ (m.take j).flatMap sBm) -> base <= X.heap.size -> Below base w X -> Calls Tryz.prog 47 #[v1, t.v] X fun e w' => ∃ v', e = .returned v' /\ Wr X base (l ++ be 4 (m.length : Int) ++ (m.take j).flatMap sBm ++ sBm t) v' w') := fun v1 X h1 h3 hX => putStep_any t (HM.out t htm) v1 _ base X h1 (by have e : (stB t.key).length = (sBm t).length := rfl; omega) h3 ((HY.out X hX).ok t htm) (fun Y hY => (HY.out Y (hX.trans hY)).ok t htm)
   obtain ⟨b, o, rfl, hbs, hr, hok⟩ := (HY.out _ HWr.out.low).at_ ht
   obtain ⟨c0, c1, c2⟩ := hr.three ht
   obtain ⟨⟨a1, cap1, x1⟩, ⟨a2, cap2, x2⟩, -, -⟩ := hok.shape
   obtain ⟨tr, tt, tv, tu, tw⟩ := t
   simp only at c0 c1 c2 x1 x2
   subst x1 x2
   clear hr hok
   clear ht htm hlen
   have i1 : (0 : Int) <= (j : Int) := by omega
   have i2 : (j : Int) < (m.length : Int) := by omega
   go_wp2_with (go_at_call 47; refine (HPT.out _ _ (HWr.out.own.later (below1 _ _)) (by simp; omega) (HWr.out.low.trans ((below1 _ _).mono (by omega)))).mono ?_; rintro e w2 ⟨v2, rfl, hw2⟩)
   go_roundg g
   case measure => omega
   case rel =>
    refine ⟨j + 1, by omega, by go_num, ?_⟩
    rw [HS.out, <- List.append_assoc]
    exact HWr.out.step (Wr.ahead (below1 _ _) (by omega) hw2)
  | zero =>
   obtain rfl : j = m.length := by omega
   have hz : ¬ ((m.length : Int) < (m.length : Int)) := by omega
   go_wp2
   go_ret
   refine ⟨_, rfl, ?_⟩
   have := HWr.out
   rwa [List.take_length, List.append_assoc] at this
end Go.Proofs.YtelcoihmiglceaaGreat
namespace Go.Proofs.YtelcoihmiglceaaGreat
open Go.RowKit

def fErr : List Cm -> Int
 | [] => 0
 | c :: l => if c.chk = 0 then fErr l else c.chk
def wOk (s : Sk) : Bool := s.2.1.all Tm.con && (s.2.2.all (fun n => decide (0 <= n)) && decide (0 <= s.1))
def wSt (s : St) : Bool := wOk s.key
def pErr (R : List Cm) (S : List St) : Int := if fErr R = 0 then (if S.all wSt = true then 0 else 63) else fErr R
def pB (R : List Cm) (S : List St) : List Int := be 4 (R.length : Int) ++ R.flatMap cBm ++ (be 4 (S.length : Int) ++ S.flatMap sBm)
theorem fErr_zero : ∀ {l : List Cm}, fErr l = 0 -> ∀ c ∈ l, c.chk = 0
 | [], _, c, hc => by simp at hc
 | a :: l, h, c, hc => by
  unfold fErr at h
  by_cases ha : a.chk = 0
  ·rw [if_pos ha] at h
   rcases List.mem_cons.1 hc with rfl | hc
   ·exact ha
   ·exact fErr_zero h c hc
  ·rw [if_neg ha] at h
   exact absurd h ha
theorem fErr_drop {l : List Cm} {j : Nat} {c : Cm} (h : l[j]? = some c) : fErr (l.drop j) = if c.chk = 0 then fErr (l.drop (j + 1)) else c.chk := by
 obtain ⟨hj, rfl⟩ := List.getElem?_eq_some_iff.1 h
 rw [List.drop_eq_getElem_cons hj]; rfl
theorem all_drop {α : Type} {f : α -> Bool} {l : List α} {j : Nat} {x : α} (h : l[j]? = some x) : (l.drop j).all f = (f x && (l.drop (j + 1)).all f) := by
 obtain ⟨hj, rfl⟩ := List.getElem?_eq_some_iff.1 h
 rw [List.drop_eq_getElem_cons hj]; rfl
set_option maxRecDepth 20000 in
set_option maxHeartbeats 600000 in
theorem firstError_any (l : List Cm) (v : Value) (w : World) (h : CsP w v l) (hwf : ∀ c ∈ l, c.wf) (hl : l.length <= 1000000000000) :
  Calls Tryz.prog 37 #[v] w fun e w' => e = .returned (.int .i64 (fErr l)) /\ Below w.heap.size w w' := by
 obtain ⟨F, hF⟩ : ∃ F, fErr l = F := ⟨_, rfl⟩
 rw [hF]
 have HF : Hid (fErr (l.drop 0) = F) := hF
 have HC : Hid (CsP w v l) := h
 have HWF : Hid (∀ c ∈ l, c.wf) := hwf
 obtain ⟨ad, cap, rfl⟩ := h.form
 clear h hF hwf
 go_enter Tryz.func37, Tryz.ntmps37
 go_wp2
 go_loopg [8] l.length (fun g i wr => ∃ j : Nat, j + g = l.length /\ i = .int .i64 j /\ fErr (l.drop j) = F /\ Below w.heap.size w wr)
 case atStart => exact ⟨0, by omega, rfl, HF.out, Below.refl _ _⟩
 case round =>
  obtain ⟨j, hj, rfl, hF, hb⟩ := hrel
  have HFj : Hid (fErr (l.drop j) = F) := hF
  have HB : Hid (Below w.heap.size w wr) := hb
  clear hF hb
  cases gk with
  | succ g =>
   have hlt : (j : Int) < (l.length : Int) := by omega
   have j0 : (0 : Int) <= (j : Int) := by omega
   obtain ⟨t, ht⟩ : ∃ t, l[j]? = some t := ⟨_, List.getElem?_eq_getElem (by omega)⟩
   obtain ⟨b, o, rfl, hbs, hr, hok⟩ := (HC.out.later HB.out).at_ ht
   have HS : Hid ((if t.chk = 0 then fErr (l.drop (j + 1)) else t.chk) = F) := by show _ = _; rw [<- fErr_drop ht]; exact HFj.out
   have HCK : Hid (∀ X : World, Below wr.heap.size wr X -> Calls Tryz.prog 31 #[t.v] X fun e w' => e = .returned (.int .i64 t.chk) /\ Below X.heap.size X w') := fun X hX => check9_any t X (hok.later hX) (HWF.out t (List.mem_of_getElem? ht))
   obtain ⟨c0, c1, c2, c3, c4, c5, c6⟩ := hr.seven ht
   obtain ⟨⟨a1, n1, cap1, x1⟩, ⟨a2, cap2, x2⟩, ⟨a3, cap3, x3⟩, -, -⟩ := hok.shape
   generalize t.chk = E at *
   obtain ⟨⟨⟨⟨tk, tn, ts⟩, tm, tl⟩, tv⟩, tb, tbv, tt, ttv⟩ := t
   simp only at c0 c1 c2 c3 c4 c5 c6 x1 x2 x3
   subst x1 x2 x3
   clear hr hok ht HFj
   by_cases he : E = 0
   ·subst he
    have HS2 : Hid (fErr (l.drop (j + 1)) = F) := by have := HS.out; rwa [if_pos rfl] at this
    clear HS
    go_wp2_with (go_at_call 31; refine (HCK.out _ (below1 _ _)).mono ?_; rintro e w1 ⟨rfl, hb⟩; have HB1 : Hid (Below w.heap.size w w1) := below_step (below_step HB.out (below1 _ _)) hb; clear hb)
    go_roundg g
    case measure => omega
    case rel => exact ⟨j + 1, by omega, by go_num, HS2.out, HB1.out⟩
   ·obtain rfl : E = F := by have := HS.out; rwa [if_neg he] at this
    have hne : (E != 0) = true := by simpa using he
    clear HS he
    go_wp2_with (go_at_call 31; refine (HCK.out _ (below1 _ _)).mono ?_; rintro e w1 ⟨rfl, hb⟩; have HB1 : Hid (Below w.heap.size w w1) := below_step (below_step HB.out (below1 _ _)) hb; clear hb)
    go_ret
    exact ⟨rfl, HB1.out⟩
  | zero =>
   obtain rfl : j = l.length := by omega
   obtain rfl : 0 = F := by have := HFj.out; rwa [List.drop_length] at this
   have hz : ¬ ((l.length : Int) < (l.length : Int)) := by omega
   go_wp2
   go_ret
   exact ⟨rfl, HB.out⟩
set_option maxRecDepth 20000 in
set_option maxHeartbeats 600000 in
theorem writable_any (s : St) (w : World) (h : s.ok w) :
  Calls Tryz.prog 45 #[s.v] w fun e w' => e = .returned (.bool (wSt s)) /\ Below w.heap.size w w' := by
 obtain ⟨R, hR⟩ : ∃ r, wSt s = r := ⟨_, rfl⟩
 rw [hR]
 obtain ⟨sr, sl, sv, su, sw⟩ := s
 have HR : Hid (((sl.drop 0).all Tm.con && (su.all (fun n => decide (0 <= n)) && decide (0 <= sr))) = R) := hR
 have HT : Hid (Ts w sv sl) := h.t
 have HU : Hid (Ns w sw su) := h.u
 obtain ⟨⟨a1, cap1, x1⟩, ⟨a2, cap2, x2⟩, l1, l2⟩ := h.shape
 simp only at x1 x2 l1 l2
 subst x1 x2
 have HX : Hid (CBlk (w.alloc (.cells #[.int .i64 sr, .slice a1 sl.length cap1, .slice a2 su.length cap2] 66)) w.heap.size #[.int .i64 sr, .slice a1 sl.length cap1, .slice a2 su.length cap2] 66) := CBlk.new _ _ _
 have HW0 : Hid (Below w.heap.size w (w.alloc (.cells #[.int .i64 sr, .slice a1 sl.length cap1, .slice a2 su.length cap2] 66))) := below1 _ _
 clear h hR
 go_enter Tryz.func45, Tryz.ntmps45
 go_wp2
 revert HX HW0
 generalize w.alloc (.cells #[.int .i64 sr, .slice a1 sl.length cap1, .slice a2 su.length cap2] 66) = W0
 intro HX HW0
 go_loopg [10] sl.length (fun g i wr => ∃ j : Nat, j + g = sl.length /\ i = .int .i64 j /\ ((sl.drop j).all Tm.con && (su.all (fun n => decide (0 <= n)) && decide (0 <= sr))) = R /\ Below W0.heap.size W0 wr)
 case atStart => exact ⟨0, by omega, rfl, HR.out, Below.refl _ _⟩
 case round =>
  obtain ⟨j, hj, rfl, hR, hb⟩ := hrel
  have HRj : Hid (((sl.drop j).all Tm.con && (su.all (fun n => decide (0 <= n)) && decide (0 <= sr))) = R) := hR
  have HB : Hid (Below W0.heap.size W0 wr) := hb
  clear hR hb HR
  cases gk with
  | succ g =>
   have hlt : (j : Int) < (sl.length : Int) := by omega
   have j0 : (0 : Int) <= (j : Int) := by omega
   obtain ⟨t, ht⟩ : ∃ t, sl[j]? = some t := ⟨_, List.getElem?_eq_getElem (by omega)⟩
   obtain ⟨ad', cap', hx, -, hxx⟩ := (HT.out.later HW0.out).later HB.out
   simp only [Value.slice.injEq] at hx
   obtain ⟨rfl, -, rfl⟩ := hx
   obtain ⟨b, o, rfl, hbs, hxx⟩ : ∃ b o, a1 = some ⟨b, o, none⟩ /\ TRow wr b o sl := by
    rcases hxx with hxx | h
    ·rw [hxx] at ht; simp at ht
    ·exact h
   obtain ⟨c0, c1, c2⟩ := hxx j _ ht
   have HS : Hid ((t.con && ((sl.drop (j + 1)).all Tm.con && (su.all (fun n => decide (0 <= n)) && decide (0 <= sr)))) = R) := by
    have := HRj.out; rw [all_drop ht, Bool.and_assoc] at this; exact this
   have hco := fun X : World => con_any t X
   clear hxx ht HRj
   cases hc : t.con
   ·obtain rfl : false = R := by have := HS.out; rwa [hc, Bool.false_and] at this
    rw [hc] at hco
    have HCO : Hid (∀ X : World, Calls Tryz.prog 83 #[t.v] X fun e w' => e = .returned (.bool false) /\ Below X.heap.size X w') := hco
    clear hco HS hc
    obtain ⟨tk, tn, ts⟩ := t
    simp only at c0 c1 c2
    go_wp2_with (go_at_call 83; refine (HCO.out _).mono ?_; rintro e w1 ⟨rfl, hb⟩; have HB1 : Hid (Below W0.heap.size W0 w1) := below_step (below_step HB.out (below1 _ _)) hb; clear hb)
    go_ret
    exact ⟨rfl, below_step HW0.out HB1.out⟩
   ·have HS2 : Hid (((sl.drop (j + 1)).all Tm.con && (su.all (fun n => decide (0 <= n)) && decide (0 <= sr))) = R) := by have := HS.out; rwa [hc, Bool.true_and] at this
    rw [hc] at hco
    have HCO : Hid (∀ X : World, Calls Tryz.prog 83 #[t.v] X fun e w' => e = .returned (.bool true) /\ Below X.heap.size X w') := hco
    clear hco HS hc
    obtain ⟨tk, tn, ts⟩ := t
    simp only at c0 c1 c2
    go_wp2_with (go_at_call 83; refine (HCO.out _).mono ?_; rintro e w1 ⟨rfl, hb⟩; have HB1 : Hid (Below W0.heap.size W0 w1) := below_step (below_step HB.out (below1 _ _)) hb; clear hb)
    go_roundg g
    case measure => omega
    case rel => exact ⟨j + 1, by omega, by go_num, HS2.out, HB1.out⟩
  | zero =>
   obtain rfl : j = sl.length := by omega
   have HR2 : Hid (((su.drop 0).all (fun n => decide (0 <= n)) && decide (0 <= sr)) = R) := by have := HRj.out; rw [List.drop_length] at this; exact this
   have hz : ¬ ((sl.length : Int) < (sl.length : Int)) := by omega
   have HU2 : Hid (Ns wr (.slice a2 su.length cap2) su) := (HU.out.later HW0.out).later HB.out
   have HX2 : Hid (CBlk wr w.heap.size #[.int .i64 sr, .slice a1 sl.length cap1, .slice a2 su.length cap2] 66) := HX.out.later HB.out
   have HB2 : Hid (Below w.heap.size w wr) := below_step HW0.out HB.out
   obtain ⟨c0, c1, c2⟩ := cthree HX2.out
   clear HRj HU HX HT HB HW0 hj
   generalize wr = wo at *
   go_wp2
   clear hz
   go_loopg [21] su.length (fun g i wr => ∃ j : Nat, j + g = su.length /\ i = .int .i64 j /\ ((su.drop j).all (fun n => decide (0 <= n)) && decide (0 <= sr)) = R /\ wr = wo)
   case atStart => exact ⟨0, by omega, rfl, HR2.out, rfl⟩
   case round =>
    obtain ⟨i, hi, rfl, hR, rfl⟩ := hrel
    have HRi : Hid (((su.drop i).all (fun n => decide (0 <= n)) && decide (0 <= sr)) = R) := hR
    clear hR HR2
    cases gk with
    | succ g =>
     have hlt : (i : Int) < (su.length : Int) := by omega
     have i0 : (0 : Int) <= (i : Int) := by omega
     obtain ⟨t, ht⟩ : ∃ t, su[i]? = some t := ⟨_, List.getElem?_eq_getElem (by omega)⟩
     obtain ⟨ad', cap', hx, -, hxx⟩ := HU2.out
     simp only [Value.slice.injEq] at hx
     obtain ⟨rfl, -, rfl⟩ := hx
     obtain ⟨b, o, rfl, hbs, hxx⟩ : ∃ b o, a2 = some ⟨b, o, none⟩ /\ b < wr.heap.size /\ ∀ (i : Nat) (x : Int), su[i]? = some x -> wr.cell? ⟨b, o + i, none⟩ = some (.int .i64 x) := by
      rcases hxx with hxx | h
      ·rw [hxx] at ht; simp at ht
      ·exact h
     have d0 := hxx i _ ht
     have HS : Hid ((decide (0 <= t) && ((su.drop (i + 1)).all (fun n => decide (0 <= n)) && decide (0 <= sr))) = R) := by
      have := HRi.out; rw [all_drop ht, Bool.and_assoc] at this; exact this
     clear hxx ht HRi
     by_cases hc : t < 0
     ·obtain rfl : false = R := by have := HS.out; rwa [decide_eq_false (by omega), Bool.false_and] at this
      clear HS
      go_wp2
      go_ret
      exact ⟨rfl, HB2.out⟩
     ·have HS2 : Hid (((su.drop (i + 1)).all (fun n => decide (0 <= n)) && decide (0 <= sr)) = R) := by have := HS.out; rwa [decide_eq_true (by omega), Bool.true_and] at this
      clear HS
      go_wp2
      go_roundg g
      case measure => omega
      case rel => exact ⟨i + 1, by omega, by go_num, HS2.out, rfl⟩
    | zero =>
     obtain rfl : i = su.length := by omega
     have hz : ¬ ((su.length : Int) < (su.length : Int)) := by omega
     have HS : Hid (decide (0 <= sr) = R) := by have := HRi.out; rw [List.drop_length, List.all_nil, Bool.true_and] at this; exact this
     clear HRi
     by_cases hc : 0 <= sr
     ·obtain rfl : true = R := by have := HS.out; rwa [decide_eq_true hc] at this
      go_wp2
      go_ret
      exact ⟨rfl, HB2.out⟩
     ·obtain rfl : false = R := by have := HS.out; rwa [decide_eq_false hc] at this
      go_wp2
      go_ret
      exact ⟨rfl, HB2.out⟩
end Go.Proofs.YtelcoihmiglceaaGreat

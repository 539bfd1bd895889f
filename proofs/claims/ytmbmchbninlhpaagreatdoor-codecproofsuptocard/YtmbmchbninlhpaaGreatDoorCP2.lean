import Derived.Test.YtmbmchbninlhpaaGreatDoorCP1
import Derived.Test.YtmbmchbninlhpaaGreatDoorCG1
namespace Go.Proofs.YtmbmchbninlhpaaGreatDoor
open Go.RowKit

def nB (n : Int) : List Int := be 8 (n % 18446744073709551616)
def stB (s : Sk) : List Int := nB s.1 ++ ((be 4 (s.2.1.length : Int) ++ s.2.1.flatMap tB) ++ (be 4 (s.2.2.length : Int) ++ s.2.2.flatMap nB))
def cBm (c : Cm) : List Int := cB c.key
def sBm (s : St) : List Int := stB s.key
theorem nB_len (n : Int) : (nB n).length = 8 := be_len _ _
theorem flat_pre {α β : Type} {f : α -> List β} : ∀ {l : List α} {j : Nat} {x : α}, l[j]? = some x -> ((l.take j).flatMap f).length + (f x).length <= (l.flatMap f).length
 | [], j, x, h => by simp at h
 | a :: l, 0, x, h => by
  simp at h; subst h
  simp
 | a :: l, j + 1, x, h => by
  rw [List.getElem?_cons_succ] at h
  have := flat_pre (f := f) h
  simp only [List.take_succ_cons, List.flatMap_cons, List.length_append]
  omega
set_option maxRecDepth 20000 in
set_option maxHeartbeats 600000 in
theorem putTerms4_any (m : List Tm) (hm : ∀ t ∈ m, knd t) (hn : m.length <= 2000000000000) (y : Value) (v : Value) (l : List Int) (base : Nat) (w : World) (h : OwnB w base v l) (hl : l.length + (m.flatMap tB).length <= 200000000000) (hB : base <= w.heap.size) (hy : Ts w y m) (hyB : ∀ X, Below base w X -> Ts X y m) :
  Calls Tryz.prog 63 #[v, .int .i64 4, y, .func (.func 64) #[] #[]] w fun e w' => ∃ v', e = .returned v' /\ Wr w base (l ++ (be 4 (m.length : Int) ++ m.flatMap tB)) v' w' := by
 have HN : Hid (Calls Tryz.prog 57 #[v, .int .i64 4, .int .u64 (m.length : Int)] w fun e w' => ∃ v', e = .returned v' /\ Wr w base (l ++ be 4 (m.length : Int)) v' w') := putNumber_any 4 (by omega) (m.length : Int) v l base w h (by omega) hB
 have HY : Hid (∀ X, Below base w X -> Ts X y m) := hyB
 have HM : Hid (∀ t ∈ m, knd t) := hm
 have HB : Hid (base <= w.heap.size) := hB
 have HL : Hid (l.length + (m.flatMap tB).length <= 200000000000) := hl
 have e1 : (m.length : Int) % 18446744073709551616 = (m.length : Int) := by omega
 obtain ⟨ad, cap, rfl⟩ : ∃ ad cap, y = .slice ad m.length cap := by obtain ⟨ad, cap, e, -⟩ := hy; exact ⟨ad, cap, e⟩
 clear h hyB hm hy hl
 go_enter Tryz.func63, Tryz.ntmps63
 go_wp2_with (go_at_call 57; refine HN.out.mono ?_; rintro e w1 ⟨v1, rfl, hw⟩; have HW : Hid (Wr w base (l ++ be 4 (m.length : Int)) v1 w1) := hw; clear hw)
 clear e1
 go_loopg [0, 19] m.length (fun g u i wr => ∃ j : Nat, j + g = m.length /\ i = .int .i64 j /\ Wr w base (l ++ be 4 (m.length : Int) ++ (m.take j).flatMap tB) u wr)
 case atStart => exact ⟨0, by omega, rfl, by rw [List.take_zero, List.flatMap_nil, List.append_nil]; exact HW.out⟩
 case round =>
  obtain ⟨j, hj, rfl, hw⟩ := hrel
  have HWr : Hid (Wr w base (l ++ be 4 (m.length : Int) ++ (m.take j).flatMap tB) u0 wr) := hw
  have hsz := hw.low.size
  clear hw
  cases gk with
  | succ g =>
   have hlt : j < m.length := by omega
   obtain ⟨t, ht⟩ : ∃ t, m[j]? = some t := ⟨_, List.getElem?_eq_getElem hlt⟩
   have htm := List.mem_of_getElem? ht
   have HS : Hid ((m.take (j + 1)).flatMap tB = (m.take j).flatMap tB ++ tB t) := flat_succ ht
   have hlen : (l ++ be 4 (m.length : Int) ++ (m.take j).flatMap tB).length + (tB t).length <= 200000000010 := by
    have h1 := flat_pre (f := tB) ht
    have h2 := HL.out
    rw [List.length_append, List.length_append, be_len]; omega
   have HPT : Hid (∀ (v1 : Value) (X : World), OwnB X base v1 (l ++ be 4 (m.length : Int) ++ (m.take j).flatMap tB) -> base <= X.heap.size -> Below base w X -> Calls Tryz.prog 64 #[v1, t.v] X fun e w' => ∃ v', e = .returned v' /\ Wr X base (l ++ be 4 (m.length : Int) ++ (m.take j).flatMap tB ++ tB t) v' w') := fun v1 X h1 h3 hX => putTerm_any t (HM.out t htm) v1 _ base X h1 (by omega) h3
   obtain ⟨ad', cap', hx, -, hxx⟩ := HY.out _ HWr.out.low
   simp only [Value.slice.injEq] at hx
   obtain ⟨rfl, -, rfl⟩ := hx
   obtain ⟨b, o, rfl, hbs, hxx⟩ : ∃ b o, ad = some ⟨b, o, none⟩ /\ TRow wr b o m := by
    rcases hxx with hxx | h
    ·subst hxx; simp at hlt
    ·exact h
   obtain ⟨c0, c1, c2⟩ := hxx j _ ht
   obtain ⟨tk, tn, ts⟩ := t
   simp only at c0 c1 c2
   clear hxx
   clear ht htm hlen
   have i1 : (0 : Int) <= (j : Int) := by omega
   have i2 : (j : Int) < (m.length : Int) := by omega
   go_wp2_with (go_at_call 64; refine (HPT.out _ _ (HWr.out.own.later (below1 _ _)) (by simp; omega) (HWr.out.low.trans ((below1 _ _).mono (by omega)))).mono ?_; rintro e w2 ⟨v2, rfl, hw2⟩)
   go_roundg g
   case measure => omega
   case rel =>
    refine ⟨j + 1, by omega, by go_num, ?_⟩
    rw [HS.out, <- List.append_assoc]
    exact HWr.out.step (Wr.ahead (below1 _ _) (by omega) hw2)
  | zero =>
   obtain rfl : j = m.length := by omega
   have hz : ¬ ((m.length : Int) < (m.length : Int)) := by omega
   go_wp2
   go_ret
   refine ⟨_, rfl, ?_⟩
   have := HWr.out
   rwa [List.take_length, List.append_assoc] at this
set_option maxRecDepth 20000 in
set_option maxHeartbeats 600000 in
theorem putNs_any (m : List Int) (hn : m.length <= 2000000000000) (y : Value) (v : Value) (l : List Int) (base : Nat) (w : World) (h : OwnB w base v l) (hl : l.length + (m.flatMap nB).length <= 200000000000) (hB : base <= w.heap.size) (hy : Ns w y m) (hyB : ∀ X, Below base w X -> Ns X y m) :
  Calls Tryz.prog 65 #[v, .int .i64 4, y, .func (.func 62) #[] #[]] w fun e w' => ∃ v', e = .returned v' /\ Wr w base (l ++ (be 4 (m.length : Int) ++ m.flatMap nB)) v' w' := by
 have HN : Hid (Calls Tryz.prog 57 #[v, .int .i64 4, .int .u64 (m.length : Int)] w fun e w' => ∃ v', e = .returned v' /\ Wr w base (l ++ be 4 (m.length : Int)) v' w') := putNumber_any 4 (by omega) (m.length : Int) v l base w h (by omega) hB
 have HY : Hid (∀ X, Below base w X -> Ns X y m) := hyB
 have HB : Hid (base <= w.heap.size) := hB
 have HL : Hid (l.length + (m.flatMap nB).length <= 200000000000) := hl
 have e1 : (m.length : Int) % 18446744073709551616 = (m.length : Int) := by omega
 obtain ⟨ad, cap, rfl⟩ : ∃ ad cap, y = .slice ad m.length cap := by obtain ⟨ad, cap, e, -⟩ := hy; exact ⟨ad, cap, e⟩
 clear h hyB hy hl
 go_enter Tryz.func65, Tryz.ntmps65
 go_wp2_with (go_at_call 57; refine HN.out.mono ?_; rintro e w1 ⟨v1, rfl, hw⟩; have HW : Hid (Wr w base (l ++ be 4 (m.length : Int)) v1 w1) := hw; clear hw)
 clear e1
 go_loopg [0, 19] m.length (fun g u i wr => ∃ j : Nat, j + g = m.length /\ i = .int .i64 j /\ Wr w base (l ++ be 4 (m.length : Int) ++ (m.take j).flatMap nB) u wr)
 case atStart => exact ⟨0, by omega, rfl, by rw [List.take_zero, List.flatMap_nil, List.append_nil]; exact HW.out⟩
 case round =>
  obtain ⟨j, hj, rfl, hw⟩ := hrel
  have HWr : Hid (Wr w base (l ++ be 4 (m.length : Int) ++ (m.take j).flatMap nB) u0 wr) := hw
  have hsz := hw.low.size
  clear hw
  cases gk with
  | succ g =>
   have hlt : j < m.length := by omega
   obtain ⟨t, ht⟩ : ∃ t, m[j]? = some t := ⟨_, List.getElem?_eq_getElem hlt⟩
   have htm := List.mem_of_getElem? ht
   have HS : Hid ((m.take (j + 1)).flatMap nB = (m.take j).flatMap nB ++ nB t) := flat_succ ht
   have hlen : (l ++ be 4 (m.length : Int) ++ (m.take j).flatMap nB).length + (nB t).length <= 200000000010 := by
    have h1 := flat_pre (f := nB) ht
    have h2 := HL.out
    rw [List.length_append, List.length_append, be_len]; omega
   have HPT : Hid (∀ (v1 : Value) (X : World), OwnB X base v1 (l ++ be 4 (m.length : Int) ++ (m.take j).flatMap nB) -> base <= X.heap.size -> Below base w X -> Calls Tryz.prog 62 #[v1, .int .i64 t] X fun e w' => ∃ v', e = .returned v' /\ Wr X base (l ++ be 4 (m.length : Int) ++ (m.take j).flatMap nB ++ nB t) v' w') := fun v1 X h1 h3 hX => putInt_any t v1 _ base X h1 (by omega) h3
   obtain ⟨ad', cap', hx, -, hxx⟩ := HY.out _ HWr.out.low
   simp only [Value.slice.injEq] at hx
   obtain ⟨rfl, -, rfl⟩ := hx
   obtain ⟨b, o, rfl, hbs, hxx⟩ : ∃ b o, ad = some ⟨b, o, none⟩ /\ b < wr.heap.size /\ ∀ (i : Nat) (x : Int), m[i]? = some x -> wr.cell? ⟨b, o + i, none⟩ = some (.int .i64 x) := by
    rcases hxx with hxx | h
    ·subst hxx; simp at hlt
    ·exact h
   have c0 := hxx j _ ht
   clear hxx
   clear ht htm hlen
   have i1 : (0 : Int) <= (j : Int) := by omega
   have i2 : (j : Int) < (m.length : Int) := by omega
   go_wp2_with (go_at_call 62; refine (HPT.out _ _ HWr.out.own (by omega) HWr.out.low).mono ?_; rintro e w2 ⟨v2, rfl, hw2⟩)
   go_roundg g
   case measure => omega
   case rel =>
    refine ⟨j + 1, by omega, by go_num, ?_⟩
    rw [HS.out, <- List.append_assoc]
    exact HWr.out.step hw2
  | zero =>
   obtain rfl : j = m.length := by omega
   have hz : ¬ ((m.length : Int) < (m.length : Int)) := by omega
   go_wp2
   go_ret
   refine ⟨_, rfl, ?_⟩
   have := HWr.out
   rwa [List.take_length, List.append_assoc] at this
set_option maxRecDepth 20000 in
set_option maxHeartbeats 600000 in
theorem putClauses_any (m : List Cm) (hm : ∀ t ∈ m, t.chk = 0) (hn : m.length <= 1000000000000) (y : Value) (v : Value) (l : List Int) (base : Nat) (w : World) (h : OwnB w base v l) (hl : l.length + (m.flatMap cBm).length <= 100000000000) (hB : base <= w.heap.size) (hy : CsP w y m) (hyB : ∀ X, Below base w X -> CsP X y m) :
  Calls Tryz.prog 28 #[v, .int .i64 4, y, .func (.func 29) #[] #[]] w fun e w' => ∃ v', e = .returned v' /\ Wr w base (l ++ (be 4 (m.length : Int) ++ m.flatMap cBm)) v' w' := by
 have HN : Hid (Calls Tryz.prog 57 #[v, .int .i64 4, .int .u64 (m.length : Int)] w fun e w' => ∃ v', e = .returned v' /\ Wr w base (l ++ be 4 (m.length : Int)) v' w') := putNumber_any 4 (by omega) (m.length : Int) v l base w h (by omega) hB
 have HY : Hid (∀ X, Below base w X -> CsP X y m) := hyB
 have HM : Hid (∀ t ∈ m, t.chk = 0) := hm
 have HB : Hid (base <= w.heap.size) := hB
 have HL : Hid (l.length + (m.flatMap cBm).length <= 100000000000) := hl
 have e1 : (m.length : Int) % 18446744073709551616 = (m.length : Int) := by omega
 obtain ⟨ad, cap, rfl⟩ : ∃ ad cap, y = .slice ad m.length cap := hy.form
 clear h hyB hm hy hl
 go_enter Tryz.func28, Tryz.ntmps28
 go_wp2_with (go_at_call 57; refine HN.out.mono ?_; rintro e w1 ⟨v1, rfl, hw⟩; have HW : Hid (Wr w base (l ++ be 4 (m.length : Int)) v1 w1) := hw; clear hw)
 clear e1
 go_loopg [0, 19] m.length (fun g u i wr => ∃ j : Nat, j + g = m.length /\ i = .int .i64 j /\ Wr w base (l ++ be 4 (m.length : Int) ++ (m.take j).flatMap cBm) u wr)
 case atStart => exact ⟨0, by omega, rfl, by rw [List.take_zero, List.flatMap_nil, List.append_nil]; exact HW.out⟩
 case round =>
  obtain ⟨j, hj, rfl, hw⟩ := hrel
  have HWr : Hid (Wr w base (l ++ be 4 (m.length : Int) ++ (m.take j).flatMap cBm) u0 wr) := hw
  have hsz := hw.low.size
  clear hw
  cases gk with
  | succ g =>
   have hlt : j < m.length := by omega
   obtain ⟨t, ht⟩ : ∃ t, m[j]? = some t := ⟨_, List.getElem?_eq_getElem hlt⟩
   have htm := List.mem_of_getElem? ht
   have HS : Hid ((m.take (j + 1)).flatMap cBm = (m.take j).flatMap cBm ++ cBm t) := flat_succ ht
   have hlen : (l ++ be 4 (m.length : Int) ++ (m.take j).flatMap cBm).length + (cBm t).length <= 100000000010 := by
    have h1 := flat_pre (f := cBm) ht
    have h2 := HL.out
    rw [List.length_append, List.length_append, be_len]; omega
   have HPT : Hid (∀ (v1 : Value) (X : World), OwnB X base v1 (l ++ be 4 (m.length : Int) ++ (m.take j).flatMap cBm) -> base <= X.heap.size -> Below base w X -> Calls Tryz.prog 29 #[v1, t.v] X fun e w' => ∃ v', e = .returned v' /\ Wr X base (l ++ be 4 (m.length : Int) ++ (m.take j).flatMap cBm ++ cBm t) v' w') := fun v1 X h1 h3 hX => putClause_any t v1 _ (chk_fit (HM.out t htm)) base X h1 (by omega) h3 ((HY.out X hX).ok t htm) (fun Y hY => (HY.out Y (hX.trans hY)).ok t htm)
   obtain ⟨b, o, rfl, hbs, hr, hok⟩ := (HY.out _ HWr.out.low).at_ ht
   obtain ⟨c0, c1, c2, c3, c4, c5, c6⟩ := hr.seven ht
   obtain ⟨⟨a1, n1, cap1, x1⟩, ⟨a2, cap2, x2⟩, ⟨a3, cap3, x3⟩, -, -⟩ := hok.shape
   obtain ⟨⟨⟨⟨tk, tn, ts⟩, tm, tl⟩, tv⟩, tb, tbv, tt, ttv⟩ := t
   simp only at c0 c1 c2 c3 c4 c5 c6 x1 x2 x3
   subst x1 x2 x3
   clear hr hok
   clear ht htm hlen
   have i1 : (0 : Int) <= (j : Int) := by omega
   have i2 : (j : Int) < (m.length : Int) := by omega
   go_wp2_with (go_at_call 29; refine (HPT.out _ _ (HWr.out.own.later (below1 _ _)) (by simp; omega) (HWr.out.low.trans ((below1 _ _).mono (by omega)))).mono ?_; rintro e w2 ⟨v2, rfl, hw2⟩)
   go_roundg g
   case measure => omega
   case rel =>
    refine ⟨j + 1, by omega, by go_num, ?_⟩
    rw [HS.out, <- List.append_assoc]
    exact HWr.out.step (Wr.ahead (below1 _ _) (by omega) hw2)
  | zero =>
   obtain rfl : j = m.length := by omega
   have hz : ¬ ((m.length : Int) < (m.length : Int)) := by omega
   go_wp2
   go_ret
   refine ⟨_, rfl, ?_⟩
   have := HWr.out
   rwa [List.take_length, List.append_assoc] at this
theorem stB_parts (s : Sk) : (stB s).length = 16 + (s.2.1.flatMap tB).length + (s.2.2.flatMap nB).length := by
 unfold stB
 simp only [List.length_append, nB_len, be_len]
 omega
theorem flatN_len (l : List Int) : l.length <= (l.flatMap nB).length := by
 induction l with
 | nil => simp
 | cons a l ih => simp only [List.flatMap_cons, List.length_append, List.length_cons, nB_len]; omega
theorem flatT_len (l : List Tm) : l.length <= (l.flatMap tB).length := by
 induction l with
 | nil => simp
 | cons a l ih => simp only [List.flatMap_cons, List.length_append, List.length_cons]; have := (tB_len a).1; omega
set_option maxRecDepth 20000 in
set_option maxHeartbeats 600000 in
theorem putStep_any (s : St) (hs : ∀ x ∈ s.vals, knd x) (v : Value) (l : List Int) (base : Nat) (w : World) (h : OwnB w base v l) (hl : l.length + (stB s.key).length <= 100000000010) (hB : base <= w.heap.size) (hk : s.ok w) (hkB : ∀ X, Below base w X -> s.ok X) :
  Calls Tryz.prog 31 #[v, s.v] w fun e w' => ∃ v', e = .returned v' /\ Wr w base (l ++ stB s.key) v' w' := by
 obtain ⟨sr, sl, sv, su, sw⟩ := s
 simp only [St.key, stB_parts] at hl
 simp only at hs
 have q1 := flatN_len su
 have q2 := flatT_len sl
 have HP1 : Hid (∀ (X : World), OwnB X base v l -> base <= X.heap.size -> Calls Tryz.prog 62 #[v, .int .i64 sr] X fun e w' => ∃ v', e = .returned v' /\ Wr X base (l ++ nB sr) v' w') := fun X h1 h3 => putInt_any sr v l base X h1 (by omega) h3
 have HP2 : Hid (∀ (v1 : Value) (X : World), OwnB X base v1 (l ++ nB sr) -> base <= X.heap.size -> Below base w X -> Calls Tryz.prog 63 #[v1, .int .i64 4, sv, .func (.func 64) #[] #[]] X fun e w' => ∃ v', e = .returned v' /\ Wr X base (l ++ nB sr ++ (be 4 (sl.length : Int) ++ sl.flatMap tB)) v' w') := fun v1 X h1 h3 hX => putTerms4_any sl hs (by omega) sv v1 _ base X h1 (by rw [List.length_append, nB_len]; omega) h3 (hkB X hX).t (fun Y hY => (hkB Y (hX.trans hY)).t)
 have HP3 : Hid (∀ (v1 : Value) (X : World), OwnB X base v1 (l ++ nB sr ++ (be 4 (sl.length : Int) ++ sl.flatMap tB)) -> base <= X.heap.size -> Below base w X -> Calls Tryz.prog 65 #[v1, .int .i64 4, sw, .func (.func 62) #[] #[]] X fun e w' => ∃ v', e = .returned v' /\ Wr X base (l ++ nB sr ++ (be 4 (sl.length : Int) ++ sl.flatMap tB) ++ (be 4 (su.length : Int) ++ su.flatMap nB)) v' w') := fun v1 X h1 h3 hX => putNs_any su (by omega) sw v1 _ base X h1 (by simp only [List.length_append, nB_len, be_len]; omega) h3 (hkB X hX).u (fun Y hY => (hkB Y (hX.trans hY)).u)
 have HE : Hid (l ++ stB (St.key ⟨sr, sl, sv, su, sw⟩) = l ++ nB sr ++ (be 4 (sl.length : Int) ++ sl.flatMap tB) ++ (be 4 (su.length : Int) ++ su.flatMap nB)) := by show _ = _; simp [stB, St.key]
 have HB : Hid (base <= w.heap.size) := hB
 have HO : Hid (OwnB w base v l) := h
 obtain ⟨⟨a1, cap1, x1⟩, ⟨a2, cap2, x2⟩, -, -⟩ := hk.shape
 simp only at x1 x2
 subst x1 x2
 clear hk hkB h hs q1 q2 hl
 go_enter Tryz.func31, Tryz.ntmps31
 go_wp2_with (first
  | (go_at_call 62; refine (HP1.out _ (HO.out.later (below1 _ _)) (by simp; omega)).mono ?_; rintro e w1 ⟨v1, rfl, hw1⟩; have HW1 : Hid (Wr w base _ v1 w1) := Wr.ahead (below1 _ _) HB.out hw1; have hz1 := HW1.out.low.size; have HK1 : Hid (Blk w1 _ _ _) := (Blk.new w #[.int .i64 sr, .slice a1 sl.length cap1, .slice a2 su.length cap2] 50).k8 hw1.k8 (by decide); obtain ⟨c0, c1, c2⟩ := cthree HK1.out; clear hw1)
  | (go_at_call 63; refine (HP2.out _ _ HW1.out.own (by omega) HW1.out.low).mono ?_; rintro e w2 ⟨v2, rfl, hw2⟩; have HW2 : Hid (Wr w base _ v2 w2) := HW1.out.step hw2; have hz2 := HW2.out.low.size; have HK2 : Hid (Blk w2 _ _ _) := HK1.out.k8 hw2.k8 (by decide); clear c0 c1 c2; obtain ⟨c0, c1, c2⟩ := cthree HK2.out; clear hw2)
  | (go_at_call 65; refine (HP3.out _ _ HW2.out.own (by omega) HW2.out.low).mono ?_; rintro e w3 ⟨v3, rfl, hw3⟩))
 go_ret
 exact ⟨_, rfl, by rw [HE.out]; exact HW2.out.step hw3⟩
set_option maxRecDepth 20000 in
set_option maxHeartbeats 600000 in
theorem putSteps_any (m : List St) (hm : ∀ t ∈ m, (∀ x ∈ t.vals, knd x)) (hn : m.length <= 1000000000000) (y : Value) (v : Value) (l : List Int) (base : Nat) (w : World) (h : OwnB w base v l) (hl : l.length + (m.flatMap sBm).length <= 100000000000) (hB : base <= w.heap.size) (hy : SsP w y m) (hyB : ∀ X, Below base w X -> SsP X y m) :
  Calls Tryz.prog 30 #[v, .int .i64 4, y, .func (.func 31) #[] #[]] w fun e w' => ∃ v', e = .returned v' /\ Wr w base (l ++ (be 4 (m.length : Int) ++ m.flatMap sBm)) v' w' := by
 have HN : Hid (Calls Tryz.prog 57 #[v, .int .i64 4, .int .u64 (m.length : Int)] w fun e w' => ∃ v', e = .returned v' /\ Wr w base (l ++ be 4 (m.length : Int)) v' w') := putNumber_any 4 (by omega) (m.length : Int) v l base w h (by omega) hB
 have HY : Hid (∀ X, Below base w X -> SsP X y m) := hyB
 have HM : Hid (∀ t ∈ m, (∀ x ∈ t.vals, knd x)) := hm
 have HB : Hid (base <= w.heap.size) := hB
 have HL : Hid (l.length + (m.flatMap sBm).length <= 100000000000) := hl
 have e1 : (m.length : Int) % 18446744073709551616 = (m.length : Int) := by omega
 obtain ⟨ad, cap, rfl⟩ : ∃ ad cap, y = .slice ad m.length cap := hy.form
 clear h hyB hm hy hl
 go_enter Tryz.func30, Tryz.ntmps30
 go_wp2_with (go_at_call 57; refine HN.out.mono ?_; rintro e w1 ⟨v1, rfl, hw⟩; have HW : Hid (Wr w base (l ++ be 4 (m.length : Int)) v1 w1) := hw; clear hw)
 clear e1
 go_loopg [0, 19] m.length (fun g u i wr => ∃ j : Nat, j + g = m.length /\ i = .int .i64 j /\ Wr w base (l ++ be 4 (m.length : Int) ++ (m.take j).flatMap sBm) u wr)
 case atStart => exact ⟨0, by omega, rfl, by rw [List.take_zero, List.flatMap_nil, List.append_nil]; exact HW.out⟩
 case round =>
  obtain ⟨j, hj, rfl, hw⟩ := hrel
  have HWr : Hid (Wr w base (l ++ be 4 (m.length : Int) ++ (m.take j).flatMap sBm) u0 wr) := hw
  have hsz := hw.low.size
  clear hw
  cases gk with
  | succ g =>
   have hlt : j < m.length := by omega
   obtain ⟨t, ht⟩ : ∃ t, m[j]? = some t := ⟨_, List.getElem?_eq_getElem hlt⟩
   have htm := List.mem_of_getElem? ht
   have HS : Hid ((m.take (j + 1)).flatMap sBm = (m.take j).flatMap sBm ++ sBm t) := flat_succ ht
   have hlen : (l ++ be 4 (m.length : Int) ++ (m.take j).flatMap sBm).length + (sBm t).length <= 100000000010 := by
    have h1 := flat_pre (f := sBm) ht
    have h2 := HL.out
    rw [List.length_append, List.length_append, be_len]; omega
   have HPT : Hid (∀ (v1 : Value) (X : World), OwnB X base v1 (l ++ be 4 (m.length : Int) ++ (m.take j).flatMap sBm) -> base <= X.heap.size -> Below base w X -> Calls Tryz.prog 31 #[v1, t.v] X fun e w' => ∃ v', e = .returned v' /\ Wr X base (l ++ be 4 (m.length : Int) ++ (m.take j).flatMap sBm ++ sBm t) v' w') := fun v1 X h1 h3 hX => putStep_any t (HM.out t htm) v1 _ base X h1 (by have e : (stB t.key).length = (sBm t).length := rfl; omega) h3 ((HY.out X hX).ok t htm) (fun Y hY => (HY.out Y (hX.trans hY)).ok t htm)
   obtain ⟨b, o, rfl, hbs, hr, hok⟩ := (HY.out _ HWr.out.low).at_ ht
   obtain ⟨c0, c1, c2⟩ := hr.three ht
   obtain ⟨⟨a1, cap1, x1⟩, ⟨a2, cap2, x2⟩, -, -⟩ := hok.shape
   obtain ⟨tr, tt, tv, tu, tw⟩ := t
   simp only at c0 c1 c2 x1 x2
   subst x1 x2
   clear hr hok
   clear ht htm hlen
   have i1 : (0 : Int) <= (j : Int) := by omega
   have i2 : (j : Int) < (m.length : Int) := by omega
   go_wp2_with (go_at_call 31; refine (HPT.out _ _ (HWr.out.own.later (below1 _ _)) (by simp; omega) (HWr.out.low.trans ((below1 _ _).mono (by omega)))).mono ?_; rintro e w2 ⟨v2, rfl, hw2⟩)
   go_roundg g
   case measure => omega
   case rel =>
    refine ⟨j + 1, by omega, by go_num, ?_⟩
    rw [HS.out, <- List.append_assoc]
    exact HWr.out.step (Wr.ahead (below1 _ _) (by omega) hw2)
  | zero =>
   obtain rfl : j = m.length := by omega
   have hz : ¬ ((m.length : Int) < (m.length : Int)) := by omega
   go_wp2
   go_ret
   refine ⟨_, rfl, ?_⟩
   have := HWr.out
   rwa [List.take_length, List.append_assoc] at this
end Go.Proofs.YtmbmchbninlhpaaGreatDoor

import Derived.Test.YtelcoihmiglceaaGreatCP1
import Derived.Deep.QuietTactic
import Derived.BigQuiet
import Derived.Test.YtelcoihmiglceaaGreatCG1
import Derived.Test.YtelcoihmiglceaaGreatCL12
/-
  hearsayref06.Beyond: it answers.
-/
namespace Go.Proofs.YtelcoihmiglceaaGreat
open Go.RowKit

theorem As.at8 {w : World} {a : Option Addr} {n cap j : Nat} {l : List (At × Value)} (h : As w (.slice a n cap) l) (hj : j < n) :
    ∃ (b o : Nat) (t : At × Value), a = some ⟨b, o, none⟩ ∧ l[j]? = some t ∧ b < w.heap.size ∧ (w.cell? ⟨b, o + j * 5, none⟩ = some (.int .i64 t.1.by_.k) ∧ w.cell? ⟨b, o + j * 5 + 1, none⟩ = some (.int .i64 t.1.by_.n) ∧ w.cell? ⟨b, o + j * 5 + 2, none⟩ = some (.string t.1.by_.s) ∧ w.cell? ⟨b, o + j * 5 + 3, none⟩ = some (.string t.1.name) ∧ w.cell? ⟨b, o + j * 5 + 4, none⟩ = some t.2) ∧ Ts w t.2 t.1.args := by
  obtain ⟨a', cap', e, hl, hm, ht⟩ := h
  simp only [Value.slice.injEq] at e
  obtain ⟨rfl, rfl, rfl⟩ := e
  obtain ⟨t, htj⟩ : ∃ t, l[j]? = some t := ⟨_, List.getElem?_eq_getElem hj⟩
  rcases hm with rfl | ⟨b, o, rfl, hr⟩
  · simp at hj
  · exact ⟨b, o, t, rfl, htj, hr.1, hr.2 j t htj, ht t (List.mem_of_getElem? htj)⟩
def ptG : List Tm → Int → Int
  | [], n => n
  | t :: l, n => if n ≤ 2147483647 then ptG l (wrap64 (n + t.s.size)) else n
def ptF (n : Int) (l : List Tm) : Int := ptG l (wrap64 (n + l.length))
theorem ptG_drop {l : List Tm} {j : Nat} {t : Tm} {n : Int} (h : l[j]? = some t) : ptG (l.drop j) n = if n ≤ 2147483647 then ptG (l.drop (j + 1)) (wrap64 (n + t.s.size)) else n := by
  obtain ⟨hj, rfl⟩ := List.getElem?_eq_some_iff.1 h
  rw [List.drop_eq_getElem_cons hj]; rfl
set_option maxRecDepth 20000 in
set_option maxHeartbeats 600000 in
theorem pterms_any (n : Int) (l : List Tm) (v : Value) (w : World) (h : Ts w v l) :
    Calls Tryz.prog 26 #[.int .i64 n, v] w fun e w' => e = .returned (.int .i64 (ptF n l)) ∧ w' = w := by
  obtain ⟨F, hF⟩ : ∃ F, ptF n l = F := ⟨_, rfl⟩
  rw [hF]
  have HF : Hid (ptG (l.drop 0) (wrap64 (n + l.length)) = F) := hF
  have HT : Hid (Ts w v l) := h
  obtain ⟨ad, cap, rfl, hl, -⟩ := h
  clear hF
  go_enter Tryz.func26, Tryz.ntmps26
  go_wp2
  go_loopg [0, 5] l.length (fun g u i wr => ∃ (j : Nat) (m : Int), j + g = l.length ∧ i = .int .i64 j ∧ u = .int .i64 m ∧ ptG (l.drop j) m = F ∧ wr = w)
  case atStart => exact ⟨0, wrap64 (n + l.length), by omega, rfl, rfl, HF.out, rfl⟩
  case round =>
    obtain ⟨j, m, hj, rfl, rfl, hF, rfl⟩ := hrel
    have HFj : Hid (ptG (l.drop j) m = F) := hF
    clear hF
    cases gk with
    | succ g =>
      have hlt : (j : Int) < (l.length : Int) := by omega
      have j0 : (0 : Int) ≤ (j : Int) := by omega
      obtain ⟨t, ht⟩ : ∃ t, l[j]? = some t := ⟨_, List.getElem?_eq_getElem (by omega)⟩
      obtain ⟨ad', cap', hx, -, hxx⟩ := HT.out
      simp only [Value.slice.injEq] at hx
      obtain ⟨rfl, -, rfl⟩ := hx
      obtain ⟨b, o, rfl, hbs, hxx⟩ : ∃ b o, ad = some ⟨b, o, none⟩ ∧ TRow wr b o l := by
        rcases hxx with hxx | h
        · rw [hxx] at ht; simp at ht
        · exact h
      obtain ⟨c0, c1, c2⟩ := hxx j _ ht
      have HS : Hid ((if m ≤ 2147483647 then ptG (l.drop (j + 1)) (wrap64 (m + t.s.size)) else m) = F) := by show _ = _; rw [← ptG_drop ht]; exact HFj.out
      clear hxx ht HFj
      obtain ⟨tk, tn, ts⟩ := t
      simp only at c0 c1 c2 HS
      by_cases hm : m ≤ 2147483647
      · have HS2 : Hid (ptG (l.drop (j + 1)) (wrap64 (m + ts.size)) = F) := by have := HS.out; rwa [if_pos hm] at this
        clear HS
        go_wp2
        go_roundg g
        case measure => omega
        case rel => exact ⟨j + 1, _, by omega, by go_num, rfl, HS2.out, rfl⟩
      · obtain rfl : m = F := by have := HS.out; rwa [if_neg hm] at this
        clear HS
        go_wp2
        go_ret
        exact ⟨rfl, rfl⟩
    | zero =>
      obtain rfl : j = l.length := by omega
      obtain rfl : m = F := by have := HFj.out; rwa [List.drop_length] at this
      have hz : ¬ ((l.length : Int) < (l.length : Int)) := by omega
      go_wp2
      go_ret
      exact ⟨rfl, rfl⟩
set_option maxRecDepth 20000 in
set_option maxHeartbeats 1000000 in
theorem pclauses_any (n : Int) (l : List Cm) (v : Value) (w : World) (h : CsP w v l) (hl : l.length ≤ 1000000000000) :
    Calls Tryz.prog 25 #[.int .i64 n, v] w fun e w' => (∃ m, e = .returned (.int .i64 m)) ∧ Below w.heap.size w w' := by
  have HC : Hid (CsP w v l) := h
  obtain ⟨ad, cap, rfl⟩ := h.form
  clear h
  go_enter Tryz.func25, Tryz.ntmps25
  go_wp2
  go_loopg [0, 5] l.length (fun g u i wr => ∃ (j : Nat) (m : Int), j + g = l.length ∧ i = .int .i64 j ∧ u = .int .i64 m ∧ Below w.heap.size w wr)
  case atStart => exact ⟨0, _, by omega, rfl, rfl, Below.refl _ _⟩
  case round =>
    obtain ⟨j, m, hj, rfl, rfl, hb⟩ := hrel
    have HB : Hid (Below w.heap.size w wr) := hb
    clear hb
    cases gk with
    | succ g =>
      have hlt : (j : Int) < (l.length : Int) := by omega
      have j0 : (0 : Int) ≤ (j : Int) := by omega
      by_cases hm : m ≤ 2147483647
      · obtain ⟨t, ht⟩ : ∃ t, l[j]? = some t := ⟨_, List.getElem?_eq_getElem (by omega)⟩
        obtain ⟨b, o, rfl, hbs, hr, hok⟩ := (HC.out.later HB.out).at_ ht
        obtain ⟨c0, c1, c2, c3, c4, c5, c6⟩ := hr.seven ht
        obtain ⟨⟨a1, n1, cap1, x1⟩, ⟨a2, cap2, x2⟩, ⟨a3, cap3, x3⟩, lb, lt⟩ := hok.shape
        have HPT : Hid (∀ (k : Int) (X : World), Below wr.heap.size wr X → Calls Tryz.prog 26 #[.int .i64 k, t.head.2] X fun e w' => e = .returned (.int .i64 (ptF k t.head.1.args)) ∧ w' = X) := fun k X hX => pterms_any k _ _ X (hok.h.later hX)
        have HOK : Hid (As wr t.bv t.body) := hok.b
        have HCR : Hid (∀ X : World, Below wr.heap.size wr X → X.cell? ⟨b, o + j * 7 + 5, none⟩ = some t.bv) := fun X hX => cell_step hX hbs c5
        obtain ⟨⟨⟨⟨tk, tn, ts⟩, tm, tl⟩, tv⟩, tb, tbv, tt, ttv⟩ := t
        simp only at c0 c1 c2 c3 c4 c5 c6 x1 x2 x3 HPT HOK HCR lb lt
        subst x1 x2 x3
        clear hr hok ht
        go_wp2
        go_quiet (first | (go_at_call 26; refine Calls.quiet_of_same (HPT.out _ _ (below_drewN (Below.refl _ _) _))))
        have HB1 : Hid (Below wr.heap.size wr (wr.drewN nq)) := below_drewN (Below.refl _ _) _
        clear c0 c1 c2 c3 c4 c5 c6
        revert HB1
        generalize wr.drewN nq = W1
        intro HB1
        have d5 := HCR.out _ HB1.out
        go_wp2
        generalize hwo : wr = wo at *
        clear hwo
        go_loopg [0, 6] tb.length (fun g u i wr => ∃ (p : Nat) (m : Int), p + g = tb.length ∧ i = .int .i64 p ∧ u = .int .i64 m ∧ Below wo.heap.size wo wr)
        case atStart => exact ⟨0, _, by omega, rfl, rfl, HB1.out⟩
        case round =>
          obtain ⟨p, q, hp, rfl, rfl, hb⟩ := hrel
          have HB2 : Hid (Below wo.heap.size wo wr) := hb
          clear hb d5
          have d5 := HCR.out _ HB2.out
          cases gk with
          | succ g2 =>
            have p1 : (p : Int) < (tb.length : Int) := by omega
            have p0 : (0 : Int) ≤ (p : Int) := by omega
            by_cases hq : q ≤ 2147483647
            · obtain ⟨b2, o2, t2, e2, ht2, hz2, hc2, hs2⟩ := (HOK.out.later HB2.out).at8 (j := p) (by omega)
              obtain ⟨f0, f1, f2, f3, f4⟩ := hc2
              have HPT2 : Hid (∀ (k : Int) (X : World), Below wr.heap.size wr X → Calls Tryz.prog 26 #[.int .i64 k, t2.2] X fun e w' => e = .returned (.int .i64 (ptF k t2.1.args)) ∧ w' = X) := fun k X hX => pterms_any k _ _ X (hs2.later hX)
              obtain ⟨y1, y2, y3, -⟩ := hs2
              obtain ⟨⟨⟨sk, sn, ss⟩, sm, sl⟩, sv⟩ := t2
              simp only at f0 f1 f2 f3 f4 y3 HPT2
              subst y3 e2
              clear ht2
              go_wp2
              go_quiet (first | (go_at_call 26; refine Calls.quiet_of_same (HPT2.out _ _ (below_drewN (Below.refl _ _) _))))
              go_wp2
              go_roundg g2
              case measure => omega
              case rel => exact ⟨p + 1, _, by omega, by go_num, rfl, below_drewN HB2.out _⟩
            · go_wp2
              go_roundg g
              case measure => omega
              case rel => exact ⟨j + 1, _, by omega, by go_num, rfl, below_step HB.out HB2.out⟩
          | zero =>
            obtain rfl : p = tb.length := by omega
            have hz : ¬ ((tb.length : Int) < (tb.length : Int)) := by omega
            go_wp2
            go_roundg g
            case measure => omega
            case rel => exact ⟨j + 1, _, by omega, by go_num, rfl, below_step HB.out HB2.out⟩
      · go_wp2
        go_ret
        exact ⟨⟨_, rfl⟩, HB.out⟩
    | zero =>
      obtain rfl : j = l.length := by omega
      have hz : ¬ ((l.length : Int) < (l.length : Int)) := by omega
      go_wp2
      go_ret
      exact ⟨⟨_, rfl⟩, HB.out⟩
end Go.Proofs.YtelcoihmiglceaaGreat
/-
  The codec writes: lists of terms, numbers, clauses and steps, with four bytes' count. (Written by CP2.py.)
-/
namespace Go.Proofs.YtelcoihmiglceaaGreat
open Go.RowKit

def cBm (c : Cm) : List Int := cB c.key
theorem flat_pre {α β : Type} {f : α → List β} : ∀ {l : List α} {j : Nat} {x : α}, l[j]? = some x → ((l.take j).flatMap f).length + (f x).length ≤ (l.flatMap f).length
  | [], j, x, h => by simp at h
  | a :: l, 0, x, h => by
    simp at h; subst h
    simp
  | a :: l, j + 1, x, h => by
    rw [List.getElem?_cons_succ] at h
    have := flat_pre (f := f) h
    simp only [List.take_succ_cons, List.flatMap_cons, List.length_append]
    omega
set_option maxRecDepth 20000 in
set_option maxHeartbeats 600000 in
theorem putClauses_any (m : List Cm) (hm : ∀ t ∈ m, t.chk = 0) (hn : m.length ≤ 1000000000000) (y : Value) (v : Value) (l : List Int) (base : Nat) (w : World) (h : OwnB w base v l) (hl : l.length + (m.flatMap cBm).length ≤ 100000000000) (hB : base ≤ w.heap.size) (hy : CsP w y m) (hyB : ∀ X, Below base w X → CsP X y m) :
    Calls Tryz.prog 38 #[v, .int .i64 4, y, .func (.func 32) #[] #[]] w fun e w' => ∃ v', e = .returned v' ∧ Wr w base (l ++ (be 4 (m.length : Int) ++ m.flatMap cBm)) v' w' := by
  have HN : Hid (Calls Tryz.prog 73 #[v, .int .i64 4, .int .u64 (m.length : Int)] w fun e w' => ∃ v', e = .returned v' ∧ Wr w base (l ++ be 4 (m.length : Int)) v' w') := putNumber_any 4 (by omega) (m.length : Int) v l base w h (by omega) hB
  have HY : Hid (∀ X, Below base w X → CsP X y m) := hyB
  have HM : Hid (∀ t ∈ m, t.chk = 0) := hm
  have HB : Hid (base ≤ w.heap.size) := hB
  have HL : Hid (l.length + (m.flatMap cBm).length ≤ 100000000000) := hl
  have e1 : (m.length : Int) % 18446744073709551616 = (m.length : Int) := by omega
  obtain ⟨ad, cap, rfl⟩ : ∃ ad cap, y = .slice ad m.length cap := hy.form
  clear h hyB hm hy hl
  go_enter Tryz.func38, Tryz.ntmps38
  go_wp2_with (go_at_call 73; refine HN.out.mono ?_; rintro e w1 ⟨v1, rfl, hw⟩; have HW : Hid (Wr w base (l ++ be 4 (m.length : Int)) v1 w1) := hw; clear hw)
  clear e1
  go_loopg [0, 19] m.length (fun g u i wr => ∃ j : Nat, j + g = m.length ∧ i = .int .i64 j ∧ Wr w base (l ++ be 4 (m.length : Int) ++ (m.take j).flatMap cBm) u wr)
  case atStart => exact ⟨0, by omega, rfl, by rw [List.take_zero, List.flatMap_nil, List.append_nil]; exact HW.out⟩
  case round =>
    obtain ⟨j, hj, rfl, hw⟩ := hrel
    have HWr : Hid (Wr w base (l ++ be 4 (m.length : Int) ++ (m.take j).flatMap cBm) u0 wr) := hw
    have hsz := hw.low.size
    clear hw
    cases gk with
    | succ g =>
      have hlt : j < m.length := by omega
      obtain ⟨t, ht⟩ : ∃ t, m[j]? = some t := ⟨_, List.getElem?_eq_getElem hlt⟩
      have htm := List.mem_of_getElem? ht
      have HS : Hid ((m.take (j + 1)).flatMap cBm = (m.take j).flatMap cBm ++ cBm t) := flat_succ ht
      have hlen : (l ++ be 4 (m.length : Int) ++ (m.take j).flatMap cBm).length + (cBm t).length ≤ 100000000010 := by
        have h1 := flat_pre (f := cBm) ht
        have h2 := HL.out
        rw [List.length_append, List.length_append, be_len]; omega
      have HPT : Hid (∀ (v1 : Value) (X : World), OwnB X base v1 (l ++ be 4 (m.length : Int) ++ (m.take j).flatMap cBm) → base ≤ X.heap.size → Below base w X → Calls Tryz.prog 32 #[v1, t.v] X fun e w' => ∃ v', e = .returned v' ∧ Wr X base (l ++ be 4 (m.length : Int) ++ (m.take j).flatMap cBm ++ cBm t) v' w') := fun v1 X h1 h3 hX => putClause_any t v1 _ (chk_fit (HM.out t htm)) base X h1 (by omega) h3 ((HY.out X hX).ok t htm) (fun Y hY => (HY.out Y (hX.trans hY)).ok t htm)
      obtain ⟨b, o, rfl, hbs, hr, hok⟩ := (HY.out _ HWr.out.low).at_ ht
      obtain ⟨c0, c1, c2, c3, c4, c5, c6⟩ := hr.seven ht
      obtain ⟨⟨a1, n1, cap1, x1⟩, ⟨a2, cap2, x2⟩, ⟨a3, cap3, x3⟩, -, -⟩ := hok.shape
      obtain ⟨⟨⟨⟨tk, tn, ts⟩, tm, tl⟩, tv⟩, tb, tbv, tt, ttv⟩ := t
      simp only at c0 c1 c2 c3 c4 c5 c6 x1 x2 x3
      subst x1 x2 x3
      clear hr hok
      clear ht htm hlen
      have i1 : (0 : Int) ≤ (j : Int) := by omega
      have i2 : (j : Int) < (m.length : Int) := by omega
      go_wp2_with (go_at_call 32; refine (HPT.out _ _ (HWr.out.own.later (below1 _ _)) (by simp; omega) (HWr.out.low.trans ((below1 _ _).mono (by omega)))).mono ?_; rintro e w2 ⟨v2, rfl, hw2⟩)
      go_roundg g
      case measure => omega
      case rel =>
        refine ⟨j + 1, by omega, by go_num, ?_⟩
        rw [HS.out, ← List.append_assoc]
        exact HWr.out.step (Wr.ahead (below1 _ _) (by omega) hw2)
    | zero =>
      obtain rfl : j = m.length := by omega
      have hz : ¬ ((m.length : Int) < (m.length : Int)) := by omega
      go_wp2
      go_ret
      refine ⟨_, rfl, ?_⟩
      have := HWr.out
      rwa [List.take_length, List.append_assoc] at this
end Go.Proofs.YtelcoihmiglceaaGreat
/-
  The codec writes derivations: firstError, writable, Proof.
-/
namespace Go.Proofs.YtelcoihmiglceaaGreat
open Go.RowKit

/-- The first error of the rules; whether a step can be written; what Proof answers. -/
def fErr : List Cm → Int
  | [] => 0
  | c :: l => if c.chk = 0 then fErr l else c.chk
theorem fErr_drop {l : List Cm} {j : Nat} {c : Cm} (h : l[j]? = some c) : fErr (l.drop j) = if c.chk = 0 then fErr (l.drop (j + 1)) else c.chk := by
  obtain ⟨hj, rfl⟩ := List.getElem?_eq_some_iff.1 h
  rw [List.drop_eq_getElem_cons hj]; rfl
set_option maxRecDepth 20000 in
set_option maxHeartbeats 600000 in
theorem firstError_any (l : List Cm) (v : Value) (w : World) (h : CsP w v l) (hwf : ∀ c ∈ l, c.wf) (hl : l.length ≤ 1000000000000) :
    Calls Tryz.prog 37 #[v] w fun e w' => e = .returned (.int .i64 (fErr l)) ∧ Below w.heap.size w w' := by
  obtain ⟨F, hF⟩ : ∃ F, fErr l = F := ⟨_, rfl⟩
  rw [hF]
  have HF : Hid (fErr (l.drop 0) = F) := hF
  have HC : Hid (CsP w v l) := h
  have HWF : Hid (∀ c ∈ l, c.wf) := hwf
  obtain ⟨ad, cap, rfl⟩ := h.form
  clear h hF hwf
  go_enter Tryz.func37, Tryz.ntmps37
  go_wp2
  go_loopg [8] l.length (fun g i wr => ∃ j : Nat, j + g = l.length ∧ i = .int .i64 j ∧ fErr (l.drop j) = F ∧ Below w.heap.size w wr)
  case atStart => exact ⟨0, by omega, rfl, HF.out, Below.refl _ _⟩
  case round =>
    obtain ⟨j, hj, rfl, hF, hb⟩ := hrel
    have HFj : Hid (fErr (l.drop j) = F) := hF
    have HB : Hid (Below w.heap.size w wr) := hb
    clear hF hb
    cases gk with
    | succ g =>
      have hlt : (j : Int) < (l.length : Int) := by omega
      have j0 : (0 : Int) ≤ (j : Int) := by omega
      obtain ⟨t, ht⟩ : ∃ t, l[j]? = some t := ⟨_, List.getElem?_eq_getElem (by omega)⟩
      obtain ⟨b, o, rfl, hbs, hr, hok⟩ := (HC.out.later HB.out).at_ ht
      have HS : Hid ((if t.chk = 0 then fErr (l.drop (j + 1)) else t.chk) = F) := by show _ = _; rw [← fErr_drop ht]; exact HFj.out
      have HCK : Hid (∀ X : World, Below wr.heap.size wr X → Calls Tryz.prog 31 #[t.v] X fun e w' => e = .returned (.int .i64 t.chk) ∧ Below X.heap.size X w') := fun X hX => check9_any t X (hok.later hX) (HWF.out t (List.mem_of_getElem? ht))
      obtain ⟨c0, c1, c2, c3, c4, c5, c6⟩ := hr.seven ht
      obtain ⟨⟨a1, n1, cap1, x1⟩, ⟨a2, cap2, x2⟩, ⟨a3, cap3, x3⟩, -, -⟩ := hok.shape
      generalize t.chk = E at *
      obtain ⟨⟨⟨⟨tk, tn, ts⟩, tm, tl⟩, tv⟩, tb, tbv, tt, ttv⟩ := t
      simp only at c0 c1 c2 c3 c4 c5 c6 x1 x2 x3
      subst x1 x2 x3
      clear hr hok ht HFj
      by_cases he : E = 0
      · subst he
        have HS2 : Hid (fErr (l.drop (j + 1)) = F) := by have := HS.out; rwa [if_pos rfl] at this
        clear HS
        go_wp2_with (go_at_call 31; refine (HCK.out _ (below1 _ _)).mono ?_; rintro e w1 ⟨rfl, hb⟩; have HB1 : Hid (Below w.heap.size w w1) := below_step (below_step HB.out (below1 _ _)) hb; clear hb)
        go_roundg g
        case measure => omega
        case rel => exact ⟨j + 1, by omega, by go_num, HS2.out, HB1.out⟩
      · obtain rfl : E = F := by have := HS.out; rwa [if_neg he] at this
        have hne : (E != 0) = true := by simpa using he
        clear HS he
        go_wp2_with (go_at_call 31; refine (HCK.out _ (below1 _ _)).mono ?_; rintro e w1 ⟨rfl, hb⟩; have HB1 : Hid (Below w.heap.size w w1) := below_step (below_step HB.out (below1 _ _)) hb; clear hb)
        go_ret
        exact ⟨rfl, HB1.out⟩
    | zero =>
      obtain rfl : j = l.length := by omega
      obtain rfl : 0 = F := by have := HFj.out; rwa [List.drop_length] at this
      have hz : ¬ ((l.length : Int) < (l.length : Int)) := by omega
      go_wp2
      go_ret
      exact ⟨rfl, HB.out⟩
end Go.Proofs.YtelcoihmiglceaaGreat
/-
  codec.Proof.
-/
namespace Go.Proofs.YtelcoihmiglceaaGreat
open Go.RowKit

theorem ctwo {w : World} {g : Nat} {a b : Value} {t : TypeId} (h : CBlk w g #[a, b] t) : w.cell? ⟨g, 0, none⟩ = some a ∧ w.cell? ⟨g, 1, none⟩ = some b :=
  two_at h 0 a b rfl rfl
end Go.Proofs.YtelcoihmiglceaaGreat

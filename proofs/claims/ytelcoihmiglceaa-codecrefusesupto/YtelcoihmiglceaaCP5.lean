/-
  hearsayref06.Beyond: it answers.
-/
import Derived.Test.YtelcoihmiglceaaCP1
import Derived.Deep.QuietTactic
import Derived.BigQuiet
namespace Go.Proofs.Ytelcoihmiglceaa
open Go.RowKit

theorem As.at8 {w : World} {a : Option Addr} {n cap j : Nat} {l : List (At × Value)} (h : As w (.slice a n cap) l) (hj : j < n) :
    ∃ (b o : Nat) (t : At × Value), a = some ⟨b, o, none⟩ ∧ l[j]? = some t ∧ b < w.heap.size ∧ (w.cell? ⟨b, o + j * 5, none⟩ = some (.int .i64 t.1.by_.k) ∧ w.cell? ⟨b, o + j * 5 + 1, none⟩ = some (.int .i64 t.1.by_.n) ∧ w.cell? ⟨b, o + j * 5 + 2, none⟩ = some (.string t.1.by_.s) ∧ w.cell? ⟨b, o + j * 5 + 3, none⟩ = some (.string t.1.name) ∧ w.cell? ⟨b, o + j * 5 + 4, none⟩ = some t.2) ∧ Ts w t.2 t.1.args := by
  obtain ⟨a', cap', e, hl, hm, ht⟩ := h
  simp only [Value.slice.injEq] at e
  obtain ⟨rfl, rfl, rfl⟩ := e
  obtain ⟨t, htj⟩ : ∃ t, l[j]? = some t := ⟨_, List.getElem?_eq_getElem hj⟩
  rcases hm with rfl | ⟨b, o, rfl, hr⟩
  · simp at hj
  · exact ⟨b, o, t, rfl, htj, hr.1, hr.2 j t htj, ht t (List.mem_of_getElem? htj)⟩
def ptG : List Tm → Int → Int
  | [], n => n
  | t :: l, n => if n ≤ 2147483647 then ptG l (wrap64 (n + t.s.size)) else n
def ptF (n : Int) (l : List Tm) : Int := ptG l (wrap64 (n + l.length))
theorem ptG_drop {l : List Tm} {j : Nat} {t : Tm} {n : Int} (h : l[j]? = some t) : ptG (l.drop j) n = if n ≤ 2147483647 then ptG (l.drop (j + 1)) (wrap64 (n + t.s.size)) else n := by
  obtain ⟨hj, rfl⟩ := List.getElem?_eq_some_iff.1 h
  rw [List.drop_eq_getElem_cons hj]; rfl
set_option maxRecDepth 20000 in
set_option maxHeartbeats 600000 in
theorem pterms_any (n : Int) (l : List Tm) (v : Value) (w : World) (h : Ts w v l) :
    Calls Try.prog 18 #[.int .i64 n, v] w fun e w' => e = .returned (.int .i64 (ptF n l)) ∧ w' = w := by
  obtain ⟨F, hF⟩ : ∃ F, ptF n l = F := ⟨_, rfl⟩
  rw [hF]
  have HF : Hid (ptG (l.drop 0) (wrap64 (n + l.length)) = F) := hF
  have HT : Hid (Ts w v l) := h
  obtain ⟨ad, cap, rfl, hl, -⟩ := h
  clear hF
  go_enter Try.func18, Try.ntmps18
  go_wp2
  go_loopg [0, 5] l.length (fun g u i wr => ∃ (j : Nat) (m : Int), j + g = l.length ∧ i = .int .i64 j ∧ u = .int .i64 m ∧ ptG (l.drop j) m = F ∧ wr = w)
  case atStart => exact ⟨0, wrap64 (n + l.length), by omega, rfl, rfl, HF.out, rfl⟩
  case round =>
    obtain ⟨j, m, hj, rfl, rfl, hF, rfl⟩ := hrel
    have HFj : Hid (ptG (l.drop j) m = F) := hF
    clear hF
    cases gk with
    | succ g =>
      have hlt : (j : Int) < (l.length : Int) := by omega
      have j0 : (0 : Int) ≤ (j : Int) := by omega
      obtain ⟨t, ht⟩ : ∃ t, l[j]? = some t := ⟨_, List.getElem?_eq_getElem (by omega)⟩
      obtain ⟨ad', cap', hx, -, hxx⟩ := HT.out
      simp only [Value.slice.injEq] at hx
      obtain ⟨rfl, -, rfl⟩ := hx
      obtain ⟨b, o, rfl, hbs, hxx⟩ : ∃ b o, ad = some ⟨b, o, none⟩ ∧ TRow wr b o l := by
        rcases hxx with hxx | h
        · rw [hxx] at ht; simp at ht
        · exact h
      obtain ⟨c0, c1, c2⟩ := hxx j _ ht
      have HS : Hid ((if m ≤ 2147483647 then ptG (l.drop (j + 1)) (wrap64 (m + t.s.size)) else m) = F) := by show _ = _; rw [← ptG_drop ht]; exact HFj.out
      clear hxx ht HFj
      obtain ⟨tk, tn, ts⟩ := t
      simp only at c0 c1 c2 HS
      by_cases hm : m ≤ 2147483647
      · have HS2 : Hid (ptG (l.drop (j + 1)) (wrap64 (m + ts.size)) = F) := by have := HS.out; rwa [if_pos hm] at this
        clear HS
        go_wp2
        go_roundg g
        case measure => omega
        case rel => exact ⟨j + 1, _, by omega, by go_num, rfl, HS2.out, rfl⟩
      · obtain rfl : m = F := by have := HS.out; rwa [if_neg hm] at this
        clear HS
        go_wp2
        go_ret
        exact ⟨rfl, rfl⟩
    | zero =>
      obtain rfl : j = l.length := by omega
      obtain rfl : m = F := by have := HFj.out; rwa [List.drop_length] at this
      have hz : ¬ ((l.length : Int) < (l.length : Int)) := by omega
      go_wp2
      go_ret
      exact ⟨rfl, rfl⟩
set_option maxRecDepth 20000 in
set_option maxHeartbeats 1000000 in
theorem pclauses_any (n : Int) (l : List Cm) (v : Value) (w : World) (h : CsP w v l) (hl : l.length ≤ 1000000000000) :
    Calls Try.prog 17 #[.int .i64 n, v] w fun e w' => (∃ m, e = .returned (.int .i64 m)) ∧ Below w.heap.size w w' := by
  have HC : Hid (CsP w v l) := h
  obtain ⟨ad, cap, rfl⟩ := h.form
  clear h
  go_enter Try.func17, Try.ntmps17
  go_wp2
  go_loopg [0, 5] l.length (fun g u i wr => ∃ (j : Nat) (m : Int), j + g = l.length ∧ i = .int .i64 j ∧ u = .int .i64 m ∧ Below w.heap.size w wr)
  case atStart => exact ⟨0, _, by omega, rfl, rfl, Below.refl _ _⟩
  case round =>
    obtain ⟨j, m, hj, rfl, rfl, hb⟩ := hrel
    have HB : Hid (Below w.heap.size w wr) := hb
    clear hb
    cases gk with
    | succ g =>
      have hlt : (j : Int) < (l.length : Int) := by omega
      have j0 : (0 : Int) ≤ (j : Int) := by omega
      by_cases hm : m ≤ 2147483647
      · obtain ⟨t, ht⟩ : ∃ t, l[j]? = some t := ⟨_, List.getElem?_eq_getElem (by omega)⟩
        obtain ⟨b, o, rfl, hbs, hr, hok⟩ := (HC.out.later HB.out).at_ ht
        obtain ⟨c0, c1, c2, c3, c4, c5, c6⟩ := hr.seven ht
        obtain ⟨⟨a1, n1, cap1, x1⟩, ⟨a2, cap2, x2⟩, ⟨a3, cap3, x3⟩, lb, lt⟩ := hok.shape
        have HPT : Hid (∀ (k : Int) (X : World), Below wr.heap.size wr X → Calls Try.prog 18 #[.int .i64 k, t.head.2] X fun e w' => e = .returned (.int .i64 (ptF k t.head.1.args)) ∧ w' = X) := fun k X hX => pterms_any k _ _ X (hok.h.later hX)
        have HOK : Hid (As wr t.bv t.body) := hok.b
        have HCR : Hid (∀ X : World, Below wr.heap.size wr X → X.cell? ⟨b, o + j * 7 + 5, none⟩ = some t.bv) := fun X hX => cell_step hX hbs c5
        obtain ⟨⟨⟨⟨tk, tn, ts⟩, tm, tl⟩, tv⟩, tb, tbv, tt, ttv⟩ := t
        simp only at c0 c1 c2 c3 c4 c5 c6 x1 x2 x3 HPT HOK HCR lb lt
        subst x1 x2 x3
        clear hr hok ht
        go_wp2
        go_quiet (first | (go_at_call 18; refine Calls.quiet_of_same (HPT.out _ _ (below_drewN (Below.refl _ _) _))))
        have HB1 : Hid (Below wr.heap.size wr (wr.drewN nq)) := below_drewN (Below.refl _ _) _
        clear c0 c1 c2 c3 c4 c5 c6
        revert HB1
        generalize wr.drewN nq = W1
        intro HB1
        have d5 := HCR.out _ HB1.out
        go_wp2
        generalize hwo : wr = wo at *
        clear hwo
        go_loopg [0, 6] tb.length (fun g u i wr => ∃ (p : Nat) (m : Int), p + g = tb.length ∧ i = .int .i64 p ∧ u = .int .i64 m ∧ Below wo.heap.size wo wr)
        case atStart => exact ⟨0, _, by omega, rfl, rfl, HB1.out⟩
        case round =>
          obtain ⟨p, q, hp, rfl, rfl, hb⟩ := hrel
          have HB2 : Hid (Below wo.heap.size wo wr) := hb
          clear hb d5
          have d5 := HCR.out _ HB2.out
          cases gk with
          | succ g2 =>
            have p1 : (p : Int) < (tb.length : Int) := by omega
            have p0 : (0 : Int) ≤ (p : Int) := by omega
            by_cases hq : q ≤ 2147483647
            · obtain ⟨b2, o2, t2, e2, ht2, hz2, hc2, hs2⟩ := (HOK.out.later HB2.out).at8 (j := p) (by omega)
              obtain ⟨f0, f1, f2, f3, f4⟩ := hc2
              have HPT2 : Hid (∀ (k : Int) (X : World), Below wr.heap.size wr X → Calls Try.prog 18 #[.int .i64 k, t2.2] X fun e w' => e = .returned (.int .i64 (ptF k t2.1.args)) ∧ w' = X) := fun k X hX => pterms_any k _ _ X (hs2.later hX)
              obtain ⟨y1, y2, y3, -⟩ := hs2
              obtain ⟨⟨⟨sk, sn, ss⟩, sm, sl⟩, sv⟩ := t2
              simp only at f0 f1 f2 f3 f4 y3 HPT2
              subst y3 e2
              clear ht2
              go_wp2
              go_quiet (first | (go_at_call 18; refine Calls.quiet_of_same (HPT2.out _ _ (below_drewN (Below.refl _ _) _))))
              go_wp2
              go_roundg g2
              case measure => omega
              case rel => exact ⟨p + 1, _, by omega, by go_num, rfl, below_drewN HB2.out _⟩
            · go_wp2
              go_roundg g
              case measure => omega
              case rel => exact ⟨j + 1, _, by omega, by go_num, rfl, below_step HB.out HB2.out⟩
          | zero =>
            obtain rfl : p = tb.length := by omega
            have hz : ¬ ((tb.length : Int) < (tb.length : Int)) := by omega
            go_wp2
            go_roundg g
            case measure => omega
            case rel => exact ⟨j + 1, _, by omega, by go_num, rfl, below_step HB.out HB2.out⟩
      · go_wp2
        go_ret
        exact ⟨⟨_, rfl⟩, HB.out⟩
    | zero =>
      obtain rfl : j = l.length := by omega
      have hz : ¬ ((l.length : Int) < (l.length : Int)) := by omega
      go_wp2
      go_ret
      exact ⟨⟨_, rfl⟩, HB.out⟩
end Go.Proofs.Ytelcoihmiglceaa

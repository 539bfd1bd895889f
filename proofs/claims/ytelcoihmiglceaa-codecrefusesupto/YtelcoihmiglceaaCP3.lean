/-
  The codec writes derivations: firstError, writable, Proof.
-/
import Derived.Test.YtelcoihmiglceaaCP2
import Derived.Test.YtelcoihmiglceaaCL12
namespace Go.Proofs.Ytelcoihmiglceaa
open Go.RowKit

/-- The first error of the rules; whether a step can be written; what Proof answers. -/
def fErr : List Cm → Int
  | [] => 0
  | c :: l => if c.chk = 0 then fErr l else c.chk
def wOk (s : Sk) : Bool := s.2.1.all Tm.con && (s.2.2.all (fun n => decide (0 ≤ n)) && decide (0 ≤ s.1))
def wSt (s : St) : Bool := wOk s.key
def pErr (R : List Cm) (S : List St) : Int := if fErr R = 0 then (if S.all wSt = true then 0 else 63) else fErr R
def pB (R : List Cm) (S : List St) : List Int := be 4 (R.length : Int) ++ R.flatMap cBm ++ (be 4 (S.length : Int) ++ S.flatMap sBm)
theorem fErr_zero : ∀ {l : List Cm}, fErr l = 0 → ∀ c ∈ l, c.chk = 0
  | [], _, c, hc => by simp at hc
  | a :: l, h, c, hc => by
    unfold fErr at h
    by_cases ha : a.chk = 0
    · rw [if_pos ha] at h
      rcases List.mem_cons.1 hc with rfl | hc
      · exact ha
      · exact fErr_zero h c hc
    · rw [if_neg ha] at h
      exact absurd h ha
theorem fErr_drop {l : List Cm} {j : Nat} {c : Cm} (h : l[j]? = some c) : fErr (l.drop j) = if c.chk = 0 then fErr (l.drop (j + 1)) else c.chk := by
  obtain ⟨hj, rfl⟩ := List.getElem?_eq_some_iff.1 h
  rw [List.drop_eq_getElem_cons hj]; rfl
theorem all_drop {α : Type} {f : α → Bool} {l : List α} {j : Nat} {x : α} (h : l[j]? = some x) : (l.drop j).all f = (f x && (l.drop (j + 1)).all f) := by
  obtain ⟨hj, rfl⟩ := List.getElem?_eq_some_iff.1 h
  rw [List.drop_eq_getElem_cons hj]; rfl
set_option maxRecDepth 20000 in
set_option maxHeartbeats 600000 in
theorem firstError_any (l : List Cm) (v : Value) (w : World) (h : CsP w v l) (hwf : ∀ c ∈ l, c.wf) (hl : l.length ≤ 1000000000000) :
    Calls Try.prog 22 #[v] w fun e w' => e = .returned (.int .i64 (fErr l)) ∧ Below w.heap.size w w' := by
  obtain ⟨F, hF⟩ : ∃ F, fErr l = F := ⟨_, rfl⟩
  rw [hF]
  have HF : Hid (fErr (l.drop 0) = F) := hF
  have HC : Hid (CsP w v l) := h
  have HWF : Hid (∀ c ∈ l, c.wf) := hwf
  obtain ⟨ad, cap, rfl⟩ := h.form
  clear h hF hwf
  go_enter Try.func22, Try.ntmps22
  go_wp2
  go_loopg [8] l.length (fun g i wr => ∃ j : Nat, j + g = l.length ∧ i = .int .i64 j ∧ fErr (l.drop j) = F ∧ Below w.heap.size w wr)
  case atStart => exact ⟨0, by omega, rfl, HF.out, Below.refl _ _⟩
  case round =>
    obtain ⟨j, hj, rfl, hF, hb⟩ := hrel
    have HFj : Hid (fErr (l.drop j) = F) := hF
    have HB : Hid (Below w.heap.size w wr) := hb
    clear hF hb
    cases gk with
    | succ g =>
      have hlt : (j : Int) < (l.length : Int) := by omega
      have j0 : (0 : Int) ≤ (j : Int) := by omega
      obtain ⟨t, ht⟩ : ∃ t, l[j]? = some t := ⟨_, List.getElem?_eq_getElem (by omega)⟩
      obtain ⟨b, o, rfl, hbs, hr, hok⟩ := (HC.out.later HB.out).at_ ht
      have HS : Hid ((if t.chk = 0 then fErr (l.drop (j + 1)) else t.chk) = F) := by show _ = _; rw [← fErr_drop ht]; exact HFj.out
      have HCK : Hid (∀ X : World, Below wr.heap.size wr X → Calls Try.prog 32 #[t.v] X fun e w' => e = .returned (.int .i64 t.chk) ∧ Below X.heap.size X w') := fun X hX => check9_any t X (hok.later hX) (HWF.out t (List.mem_of_getElem? ht))
      obtain ⟨c0, c1, c2, c3, c4, c5, c6⟩ := hr.seven ht
      obtain ⟨⟨a1, n1, cap1, x1⟩, ⟨a2, cap2, x2⟩, ⟨a3, cap3, x3⟩, -, -⟩ := hok.shape
      generalize t.chk = E at *
      obtain ⟨⟨⟨⟨tk, tn, ts⟩, tm, tl⟩, tv⟩, tb, tbv, tt, ttv⟩ := t
      simp only at c0 c1 c2 c3 c4 c5 c6 x1 x2 x3
      subst x1 x2 x3
      clear hr hok ht HFj
      by_cases he : E = 0
      · subst he
        have HS2 : Hid (fErr (l.drop (j + 1)) = F) := by have := HS.out; rwa [if_pos rfl] at this
        clear HS
        go_wp2_with (go_at_call 32; refine (HCK.out _ (below1 _ _)).mono ?_; rintro e w1 ⟨rfl, hb⟩; have HB1 : Hid (Below w.heap.size w w1) := below_step (below_step HB.out (below1 _ _)) hb; clear hb)
        go_roundg g
        case measure => omega
        case rel => exact ⟨j + 1, by omega, by go_num, HS2.out, HB1.out⟩
      · obtain rfl : E = F := by have := HS.out; rwa [if_neg he] at this
        have hne : (E != 0) = true := by simpa using he
        clear HS he
        go_wp2_with (go_at_call 32; refine (HCK.out _ (below1 _ _)).mono ?_; rintro e w1 ⟨rfl, hb⟩; have HB1 : Hid (Below w.heap.size w w1) := below_step (below_step HB.out (below1 _ _)) hb; clear hb)
        go_ret
        exact ⟨rfl, HB1.out⟩
    | zero =>
      obtain rfl : j = l.length := by omega
      obtain rfl : 0 = F := by have := HFj.out; rwa [List.drop_length] at this
      have hz : ¬ ((l.length : Int) < (l.length : Int)) := by omega
      go_wp2
      go_ret
      exact ⟨rfl, HB.out⟩
set_option maxRecDepth 20000 in
set_option maxHeartbeats 600000 in
theorem writable_any (s : St) (w : World) (h : s.ok w) :
    Calls Try.prog 23 #[s.v] w fun e w' => e = .returned (.bool (wSt s)) ∧ Below w.heap.size w w' := by
  obtain ⟨R, hR⟩ : ∃ r, wSt s = r := ⟨_, rfl⟩
  rw [hR]
  obtain ⟨sr, sl, sv, su, sw⟩ := s
  have HR : Hid (((sl.drop 0).all Tm.con && (su.all (fun n => decide (0 ≤ n)) && decide (0 ≤ sr))) = R) := hR
  have HT : Hid (Ts w sv sl) := h.t
  have HU : Hid (Ns w sw su) := h.u
  obtain ⟨⟨a1, cap1, x1⟩, ⟨a2, cap2, x2⟩, l1, l2⟩ := h.shape
  simp only at x1 x2 l1 l2
  subst x1 x2
  have HX : Hid (CBlk (w.alloc (.cells #[.int .i64 sr, .slice a1 sl.length cap1, .slice a2 su.length cap2] 41)) w.heap.size #[.int .i64 sr, .slice a1 sl.length cap1, .slice a2 su.length cap2] 41) := CBlk.new _ _ _
  have HW0 : Hid (Below w.heap.size w (w.alloc (.cells #[.int .i64 sr, .slice a1 sl.length cap1, .slice a2 su.length cap2] 41))) := below1 _ _
  clear h hR
  go_enter Try.func23, Try.ntmps23
  go_wp2
  revert HX HW0
  generalize w.alloc (.cells #[.int .i64 sr, .slice a1 sl.length cap1, .slice a2 su.length cap2] 41) = W0
  intro HX HW0
  go_loopg [10] sl.length (fun g i wr => ∃ j : Nat, j + g = sl.length ∧ i = .int .i64 j ∧ ((sl.drop j).all Tm.con && (su.all (fun n => decide (0 ≤ n)) && decide (0 ≤ sr))) = R ∧ Below W0.heap.size W0 wr)
  case atStart => exact ⟨0, by omega, rfl, HR.out, Below.refl _ _⟩
  case round =>
    obtain ⟨j, hj, rfl, hR, hb⟩ := hrel
    have HRj : Hid (((sl.drop j).all Tm.con && (su.all (fun n => decide (0 ≤ n)) && decide (0 ≤ sr))) = R) := hR
    have HB : Hid (Below W0.heap.size W0 wr) := hb
    clear hR hb HR
    cases gk with
    | succ g =>
      have hlt : (j : Int) < (sl.length : Int) := by omega
      have j0 : (0 : Int) ≤ (j : Int) := by omega
      obtain ⟨t, ht⟩ : ∃ t, sl[j]? = some t := ⟨_, List.getElem?_eq_getElem (by omega)⟩
      obtain ⟨ad', cap', hx, -, hxx⟩ := (HT.out.later HW0.out).later HB.out
      simp only [Value.slice.injEq] at hx
      obtain ⟨rfl, -, rfl⟩ := hx
      obtain ⟨b, o, rfl, hbs, hxx⟩ : ∃ b o, a1 = some ⟨b, o, none⟩ ∧ TRow wr b o sl := by
        rcases hxx with hxx | h
        · rw [hxx] at ht; simp at ht
        · exact h
      obtain ⟨c0, c1, c2⟩ := hxx j _ ht
      have HS : Hid ((t.con && ((sl.drop (j + 1)).all Tm.con && (su.all (fun n => decide (0 ≤ n)) && decide (0 ≤ sr)))) = R) := by
        have := HRj.out; rw [all_drop ht, Bool.and_assoc] at this; exact this
      have hco := fun X : World => con_any t X
      clear hxx ht HRj
      cases hc : t.con
      · obtain rfl : false = R := by have := HS.out; rwa [hc, Bool.false_and] at this
        rw [hc] at hco
        have HCO : Hid (∀ X : World, Calls Try.prog 45 #[t.v] X fun e w' => e = .returned (.bool false) ∧ Below X.heap.size X w') := hco
        clear hco HS hc
        obtain ⟨tk, tn, ts⟩ := t
        simp only at c0 c1 c2
        go_wp2_with (go_at_call 45; refine (HCO.out _).mono ?_; rintro e w1 ⟨rfl, hb⟩; have HB1 : Hid (Below W0.heap.size W0 w1) := below_step (below_step HB.out (below1 _ _)) hb; clear hb)
        go_ret
        exact ⟨rfl, below_step HW0.out HB1.out⟩
      · have HS2 : Hid (((sl.drop (j + 1)).all Tm.con && (su.all (fun n => decide (0 ≤ n)) && decide (0 ≤ sr))) = R) := by have := HS.out; rwa [hc, Bool.true_and] at this
        rw [hc] at hco
        have HCO : Hid (∀ X : World, Calls Try.prog 45 #[t.v] X fun e w' => e = .returned (.bool true) ∧ Below X.heap.size X w') := hco
        clear hco HS hc
        obtain ⟨tk, tn, ts⟩ := t
        simp only at c0 c1 c2
        go_wp2_with (go_at_call 45; refine (HCO.out _).mono ?_; rintro e w1 ⟨rfl, hb⟩; have HB1 : Hid (Below W0.heap.size W0 w1) := below_step (below_step HB.out (below1 _ _)) hb; clear hb)
        go_roundg g
        case measure => omega
        case rel => exact ⟨j + 1, by omega, by go_num, HS2.out, HB1.out⟩
    | zero =>
      obtain rfl : j = sl.length := by omega
      have HR2 : Hid (((su.drop 0).all (fun n => decide (0 ≤ n)) && decide (0 ≤ sr)) = R) := by have := HRj.out; rw [List.drop_length] at this; exact this
      have hz : ¬ ((sl.length : Int) < (sl.length : Int)) := by omega
      have HU2 : Hid (Ns wr (.slice a2 su.length cap2) su) := (HU.out.later HW0.out).later HB.out
      have HX2 : Hid (CBlk wr w.heap.size #[.int .i64 sr, .slice a1 sl.length cap1, .slice a2 su.length cap2] 41) := HX.out.later HB.out
      have HB2 : Hid (Below w.heap.size w wr) := below_step HW0.out HB.out
      obtain ⟨c0, c1, c2⟩ := cthree HX2.out
      clear HRj HU HX HT HB HW0 hj
      generalize wr = wo at *
      go_wp2
      clear hz
      go_loopg [21] su.length (fun g i wr => ∃ j : Nat, j + g = su.length ∧ i = .int .i64 j ∧ ((su.drop j).all (fun n => decide (0 ≤ n)) && decide (0 ≤ sr)) = R ∧ wr = wo)
      case atStart => exact ⟨0, by omega, rfl, HR2.out, rfl⟩
      case round =>
        obtain ⟨i, hi, rfl, hR, rfl⟩ := hrel
        have HRi : Hid (((su.drop i).all (fun n => decide (0 ≤ n)) && decide (0 ≤ sr)) = R) := hR
        clear hR HR2
        cases gk with
        | succ g =>
          have hlt : (i : Int) < (su.length : Int) := by omega
          have i0 : (0 : Int) ≤ (i : Int) := by omega
          obtain ⟨t, ht⟩ : ∃ t, su[i]? = some t := ⟨_, List.getElem?_eq_getElem (by omega)⟩
          obtain ⟨ad', cap', hx, -, hxx⟩ := HU2.out
          simp only [Value.slice.injEq] at hx
          obtain ⟨rfl, -, rfl⟩ := hx
          obtain ⟨b, o, rfl, hbs, hxx⟩ : ∃ b o, a2 = some ⟨b, o, none⟩ ∧ b < wr.heap.size ∧ ∀ (i : Nat) (x : Int), su[i]? = some x → wr.cell? ⟨b, o + i, none⟩ = some (.int .i64 x) := by
            rcases hxx with hxx | h
            · rw [hxx] at ht; simp at ht
            · exact h
          have d0 := hxx i _ ht
          have HS : Hid ((decide (0 ≤ t) && ((su.drop (i + 1)).all (fun n => decide (0 ≤ n)) && decide (0 ≤ sr))) = R) := by
            have := HRi.out; rw [all_drop ht, Bool.and_assoc] at this; exact this
          clear hxx ht HRi
          by_cases hc : t < 0
          · obtain rfl : false = R := by have := HS.out; rwa [decide_eq_false (by omega), Bool.false_and] at this
            clear HS
            go_wp2
            go_ret
            exact ⟨rfl, HB2.out⟩
          · have HS2 : Hid (((su.drop (i + 1)).all (fun n => decide (0 ≤ n)) && decide (0 ≤ sr)) = R) := by have := HS.out; rwa [decide_eq_true (by omega), Bool.true_and] at this
            clear HS
            go_wp2
            go_roundg g
            case measure => omega
            case rel => exact ⟨i + 1, by omega, by go_num, HS2.out, rfl⟩
        | zero =>
          obtain rfl : i = su.length := by omega
          have hz : ¬ ((su.length : Int) < (su.length : Int)) := by omega
          have HS : Hid (decide (0 ≤ sr) = R) := by have := HRi.out; rw [List.drop_length, List.all_nil, Bool.true_and] at this; exact this
          clear HRi
          by_cases hc : 0 ≤ sr
          · obtain rfl : true = R := by have := HS.out; rwa [decide_eq_true hc] at this
            go_wp2
            go_ret
            exact ⟨rfl, HB2.out⟩
          · obtain rfl : false = R := by have := HS.out; rwa [decide_eq_false hc] at this
            go_wp2
            go_ret
            exact ⟨rfl, HB2.out⟩
end Go.Proofs.Ytelcoihmiglceaa

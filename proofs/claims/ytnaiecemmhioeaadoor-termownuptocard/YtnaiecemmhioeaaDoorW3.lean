/-
  Fact; ref's CheckAtom.
-/
import Derived.Test.YtnaiecemmhioeaaDoorW2
import Derived.Deep.CutRange
namespace Go.Proofs.YtnaiecemmhioeaaDoor
open Go.RowKit

def At.fact (a : At) : Bool := decide (a.err = 0) && !(a.pl.any Tm.var)
theorem any_yes {l : List Tm} {i : Nat} {t : Tm} (h : l[i]? = some t) (hc : t.var = true) : l.any Tm.var = true := by
  obtain ⟨hi, rfl⟩ := List.getElem?_eq_some_iff.1 h
  exact List.any_eq_true.2 ⟨_, List.getElem_mem hi, hc⟩
theorem any_no {l : List Tm} (h : ∀ (i : Nat) (t : Tm), l[i]? = some t → t.var = false) : l.any Tm.var = false := by
  cases e : l.any Tm.var
  · rfl
  · obtain ⟨t, ht, hv⟩ := List.any_eq_true.1 e
    obtain ⟨i, hi, rfl⟩ := List.getElem_of_mem ht
    rw [h i _ (List.getElem?_eq_getElem hi)] at hv; cases hv
set_option maxHeartbeats 2000000 in
theorem fact_any (a : At) (x : Value) (w : World) (h : Ts w x a.args) :
    Calls Tryd.prog 23 #[a.v x] w fun e w' => e = .returned (.bool a.fact) ∧ Below w.heap.size w w' := by
  obtain ⟨⟨k, n, ss⟩, nm, l⟩ := a
  simp only at h
  have HX : Hid (Ts w x l) := h
  have hl : l.length < 1000000000000000000 := by obtain ⟨_, _, _, h, _⟩ := h; exact h
  clear h
  obtain ⟨c, hc⟩ : ∃ c, At.err ⟨⟨k, n, ss⟩, nm, l⟩ = c := ⟨_, rfl⟩
  obtain ⟨r, hr⟩ : ∃ r, At.fact ⟨⟨k, n, ss⟩, nm, l⟩ = r := ⟨_, rfl⟩
  rw [hr]
  unfold At.fact at hr
  rw [hc] at hr
  have HC : Hid (At.err ⟨⟨k, n, ss⟩, nm, l⟩ = c) := hc
  clear hc
  by_cases h0 : c = 0
  · have HR : Hid ((!((At.mk ⟨k, n, ss⟩ nm l).pl.any Tm.var)) = r) := by show _ = _; rw [← hr, h0]; rfl
    have q0 : (c != 0) = false := by simp [h0]
    obtain ⟨pl, hpl⟩ : ∃ pl, pl = (At.mk ⟨k, n, ss⟩ nm l).pl := ⟨_, rfl⟩
    have HP : Hid (pl = (At.mk ⟨k, n, ss⟩ nm l).pl) := hpl
    rw [← hpl] at HR
    have hpn : pl.length < 1000000000000000002 := by rw [hpl]; simp [At.pl]; omega
    clear hr h0 hpl
    go_enter Tryd.func23, Tryd.ntmps23
    go_wp2_with (first
      | (go_at_call 22; refine (chk_any ⟨⟨k, n, ss⟩, nm, l⟩ _ _ (HX.out.later (below1 _ _))).mono ?_; rw [HC.out]; rintro e w1 ⟨rfl, hb1⟩; have B1 := (Blk.new w #[.int .i64 k, .int .i64 n, .string ss, .string nm, x] 26).later hb1; obtain ⟨p0, p1, p2, p3, p4⟩ := five B1; have HB1 : Hid (Blk _ _ _ _) := B1; clear B1)
      | (go_at_call 29; refine (places_any ⟨⟨k, n, ss⟩, nm, l⟩ _ _ (HX.out.later (below_step (below1 _ _) hb1))).mono ?_; rw [← HP.out]; rintro e w2 ⟨rfl, hb2⟩))
    have hbw := below_step (below_step (below1 _ _) hb1) hb2
    have B2 := Blk.later (Hid.out HB1) hb2
    clear p0 p1 p2 p3 p4 hb1 hb2 HB1
    go_loopg [9] pl.length (fun g i wr => ∃ j : Nat, j + g = pl.length ∧ i = .int .i64 j ∧ (∀ i t, i < j → pl[i]? = some t → Tm.var t = false) ∧ Below w.heap.size w wr ∧ Blk wr w.heap.size #[.int .i64 k, .int .i64 n, .string ss, .string nm, x] 26)
    case atStart => exact ⟨0, by omega, rfl, fun i t hi => by omega, hbw, B2⟩
    case round =>
      obtain ⟨j, hj, rfl, hall, hbr, hB⟩ := hrel
      have HA : Hid (∀ i t, i < j → pl[i]? = some t → Tm.var t = false) := hall
      have HB : Hid (Blk wr _ _ _) := hB
      obtain ⟨p0, p1, p2, p3, p4⟩ := five hB
      clear hall hbw B2 hB
      cases gk with
      | succ g =>
        have hlt : j < pl.length := by omega
        obtain ⟨t, ht⟩ : ∃ t, pl[j]? = some t := ⟨_, List.getElem?_eq_getElem hlt⟩
        have HT : Hid (pl[j]? = some t) := ht
        obtain ⟨tk, tn, ts⟩ := t
        clear ht
        have i2 : (j : Int) < (pl.length : Int) := by omega
        cases hc : Tm.var ⟨tk, tn, ts⟩
        · have HV : Hid (Tm.var ⟨tk, tn, ts⟩ = false) := hc
          clear hc
          go_wp2_with (first
            | (go_at_call 30; refine (place_any ⟨⟨k, n, ss⟩, nm, l⟩ _ j ⟨tk, tn, ts⟩ (by rw [← HP.out]; exact HT.out) _ (HX.out.later hbr)).mono ?_; rintro e w3 ⟨rfl, hb3⟩)
            | (go_at_call 27; refine (var_any ⟨tk, tn, ts⟩ _).mono ?_; rw [HV.out]; rintro e w4 ⟨rfl, hb4⟩))
          go_roundg g
          case measure => omega
          case rel =>
            refine ⟨j + 1, by omega, by go_num, fun i t hi ht => ?_, below_step (below_step hbr hb3) hb4, Blk.later (Blk.later (Hid.out HB) hb3) hb4⟩
            rcases Nat.lt_or_ge i j with h | h
            · exact HA.out i t h ht
            · obtain rfl : i = j := by omega
              rw [HT.out] at ht; cases ht; exact HV.out
        · have HV : Hid (Tm.var ⟨tk, tn, ts⟩ = true) := hc
          have HR2 : Hid (false = r) := by show _ = _; rw [← HR.out, any_yes HT.out hc]; rfl
          clear hc
          go_wp2_with (first
            | (go_at_call 30; refine (place_any ⟨⟨k, n, ss⟩, nm, l⟩ _ j ⟨tk, tn, ts⟩ (by rw [← HP.out]; exact HT.out) _ (HX.out.later hbr)).mono ?_; rintro e w3 ⟨rfl, hb3⟩)
            | (go_at_call 27; refine (var_any ⟨tk, tn, ts⟩ _).mono ?_; rw [HV.out]; rintro e w4 ⟨rfl, hb4⟩))
          go_ret
          exact ⟨ret_b HR2.out, below_step (below_step hbr hb3) hb4⟩
      | zero =>
        obtain rfl : j = pl.length := by omega
        have HR2 : Hid (true = r) := by show _ = _; rw [← HR.out, any_no fun i t ht => HA.out i t (List.getElem?_eq_some_iff.1 ht).1 ht]; rfl
        have hz : ¬ ((pl.length : Int) < (pl.length : Int)) := by omega
        go_wp2
        go_ret
        exact ⟨ret_b HR2.out, hbr⟩
  · have HR : Hid (false = r) := by show _ = _; rw [← hr, decide_eq_false h0]; rfl
    have q0 : (c != 0) = true := by simpa using h0
    clear hr h0
    go_enter Tryd.func23, Tryd.ntmps23
    go_wp2_with (go_at_call 22; refine (chk_any ⟨⟨k, n, ss⟩, nm, l⟩ _ _ (HX.out.later (below1 _ _))).mono ?_; rw [HC.out]; rintro e w1 ⟨rfl, hb1⟩)
    go_ret
    exact ⟨ret_b HR.out, below_step (below1 _ _) hb1⟩
end Go.Proofs.YtnaiecemmhioeaaDoor

import Derived.Test.YtgbiicmkhlnniaaGreatDoorW1
import Derived.Test.YtgbiicmkhlnniaaGreatDoorB2
import Derived.Test.YtgbiicmkhlnniaaGreatDoorCL1
/-
  Blocks of memory.
-/
namespace Go.Proofs.YtgbiicmkhlnniaaGreatDoor
open Go.RowKit

/-- Block g holds these cells. -/
def Blk (W : World) (g : Nat) (c : Array Value) (t : TypeId) : Prop := W.heap[g]? = some (.cells c t (0, 0))
theorem Blk.lt {W : World} {g : Nat} {c : Array Value} {t : TypeId} (h : Blk W g c t) : g < W.heap.size := (Array.getElem?_eq_some_iff.1 h).1
theorem Blk.later {W W' : World} {g : Nat} {c : Array Value} {t : TypeId} (h : Blk W g c t) (hb : Below W.heap.size W W') : Blk W' g c t := (hb.block _ h.lt).trans h
theorem Blk.new (W : World) (c : Array Value) (t : TypeId) : Blk (W.alloc (.cells c t)) W.heap.size c t := heap_alloc_new _ _
end Go.Proofs.YtgbiicmkhlnniaaGreatDoor
/-
  The reference's Const, Principal, Variable, Compare.
-/
namespace Go.Proofs.YtgbiicmkhlnniaaGreatDoor
open Go.RowKit

set_option maxHeartbeats 400000 in
theorem rvar_any (t : Tm) (w : World) :
    Calls Tryz.prog 39 #[t.v] w fun e w' => e = .returned (.bool t.var) ∧ Below w.heap.size w w' := by
  obtain ⟨k, n, s⟩ := t
  unfold Tm.var
  go_enter Tryz.func39, Tryz.ntmps39
  go_wp2
  all_goals
    go_ret
    refine ⟨ret_b ?_, below1 _ _⟩
    simp_all [isE]
    try omega
set_option maxHeartbeats 400000 in
theorem rcon_any (t : Tm) (w : World) :
    Calls Tryz.prog 97 #[t.v] w fun e w' => e = .returned (.bool t.con) ∧ Below w.heap.size w w' := by
  obtain ⟨k, n, s⟩ := t
  cases h2 : s.toList.isEmpty
  all_goals
    have h3 := isE s
    rw [h2] at h3
    by_cases h1 : k = 1
    · unfold Tm.con
      subst h1
      clear h3
      go_enter Tryz.func97, Tryz.ntmps97
      go_wp2
      all_goals
        go_ret
        refine ⟨ret_b ?_, below1 _ _⟩
        simp_all [isE]
        try omega
    · by_cases h4 : k = 2
      · by_cases h5 : n = 0
        all_goals
          unfold Tm.con
          subst h4
          clear h3
          go_enter Tryz.func97, Tryz.ntmps97
          go_wp2
          all_goals
            go_ret
            refine ⟨ret_b ?_, below1 _ _⟩
            simp_all [isE]
            try omega
      · unfold Tm.con
        clear h3
        go_enter Tryz.func97, Tryz.ntmps97
        go_wp2
        all_goals
          go_ret
          refine ⟨ret_b ?_, below1 _ _⟩
          simp_all [isE]
set_option maxHeartbeats 400000 in
theorem rprin_any (t : Tm) (w : World) :
    Calls Tryz.prog 96 #[t.v] w fun e w' => e = .returned (.bool t.prin) ∧ Below w.heap.size w w' := by
  obtain ⟨k, n, s⟩ := t
  cases hc : Tm.con ⟨k, n, s⟩
  · have hp : Hid (false = Tm.prin ⟨k, n, s⟩) := by
      show false = Tm.prin ⟨k, n, s⟩
      by_cases h : k = 2 ∧ s ≠ ⟨#[]⟩
      · rw [← prin_eq _ _ _ h.1 h.2, hc]
      · exact prin_no _ _ _ h
    have HC : Hid (Tm.con ⟨k, n, s⟩ = false) := hc
    clear hc
    go_enter Tryz.func96, Tryz.ntmps96
    go_wp2_with (go_at_call 97; refine (rcon_any ⟨k, n, s⟩ _).mono ?_; rw [HC.out]; rintro e w1 ⟨rfl, hb⟩)
    go_ret
    exact ⟨ret_b hp.out, (below1 _ _).trans (hb.mono (by simp))⟩
  · have HC : Hid (Tm.con ⟨k, n, s⟩ = true) := hc
    clear hc
    go_enter Tryz.func96, Tryz.ntmps96
    go_wp2_with (go_at_call 97; refine (rcon_any ⟨k, n, s⟩ _).mono ?_; rw [HC.out]; rintro e w1 ⟨rfl, hb⟩; obtain ⟨hcl, hfr⟩ := bcell hb)
    all_goals
      go_ret
      refine ⟨ret_b ?_, (below1 _ _).trans (hb.mono (by simp))⟩
      have := HC.out
      simp_all [isE, Tm.prin, Tm.con]
end Go.Proofs.YtgbiicmkhlnniaaGreatDoor
/-
  CheckAtom, Fact; ref's CheckAtom.
-/
namespace Go.Proofs.YtgbiicmkhlnniaaGreatDoor
open Go.RowKit

def qualOk (t : Tm) : Bool := decide (t = zt) || (t.prin || t.var)
set_option maxHeartbeats 1000000 in
theorem qual_any (t : Tm) (w : World) : Calls Tryz.prog 143 #[t.v] w fun e w' => e = .returned (.bool (qualOk t)) ∧ Below w.heap.size w w' := by
  obtain ⟨k, n, s⟩ := t
  have he := run_eql_tm ⟨k, n, s⟩ zt
  obtain ⟨b1, h1⟩ : ∃ b, decide (Tm.mk k n s = zt) = b := ⟨_, rfl⟩
  obtain ⟨b2, h2⟩ : ∃ b, Tm.prin ⟨k, n, s⟩ = b := ⟨_, rfl⟩
  obtain ⟨b3, h3⟩ : ∃ b, Tm.var ⟨k, n, s⟩ = b := ⟨_, rfl⟩
  have HR : Hid (qualOk ⟨k, n, s⟩ = (b1 || (b2 || b3))) := by show _ = _; unfold qualOk; rw [h1, h2, h3]
  have H2 : Hid (Tm.prin ⟨k, n, s⟩ = b2) := h2
  have H3 : Hid (Tm.var ⟨k, n, s⟩ = b3) := h3
  rw [h1] at he
  unfold zt at he
  clear h1 h2 h3
  cases b1
  · cases b2
    · go_enter Tryz.func143, Tryz.ntmps143
      go_wp2_with (first
        | (go_at_call 155; refine (prin_any ⟨k, n, s⟩ _).mono ?_; rw [H2.out]; rintro e w1 ⟨rfl, hb1⟩; obtain ⟨p0, p1, p2, -, -, -⟩ := three ((Blk.new w #[.int .i64 k, .int .i64 n, .string s] 23).later hb1))
        | (go_at_call 84; refine (var_any ⟨k, n, s⟩ _).mono ?_; rw [H3.out]; rintro e w2 ⟨rfl, hb2⟩))
      go_ret
      exact ⟨ret_b (by rw [HR.out]; rfl), below_step (below_step (below1 _ _) hb1) hb2⟩
    · go_enter Tryz.func143, Tryz.ntmps143
      go_wp2_with (go_at_call 155; refine (prin_any ⟨k, n, s⟩ _).mono ?_; rw [H2.out]; rintro e w1 ⟨rfl, hb1⟩)
      go_ret
      exact ⟨ret_b (by rw [HR.out]; rfl), below_step (below1 _ _) hb1⟩
  · go_enter Tryz.func143, Tryz.ntmps143
    go_wp2
    go_ret
    exact ⟨ret_b (by rw [HR.out]; rfl), below1 _ _⟩
/-- CheckAtom's answer. -/
def At.err (a : At) : Int := if nameOk a.name = false then 21 else if 8 < a.args.length then 22 else if qualOk a.by_ = false then 23 else if a.args.all Tm.cov then 0 else 24
theorem all_no {l : List Tm} {i : Nat} {t : Tm} (h : l[i]? = some t) (hc : t.cov = false) : l.all Tm.cov = false := by
  obtain ⟨hi, rfl⟩ := List.getElem?_eq_some_iff.1 h
  cases e : l.all Tm.cov
  · rfl
  · rw [List.all_eq_true.1 e _ (List.getElem_mem hi)] at hc; cases hc
theorem all_yes {l : List Tm} (h : ∀ (i : Nat) (t : Tm), l[i]? = some t → t.cov = true) : l.all Tm.cov = true :=
  List.all_eq_true.2 fun t ht => by obtain ⟨i, hi, rfl⟩ := List.getElem_of_mem ht; exact h i _ (List.getElem?_eq_getElem hi)
set_option maxHeartbeats 2000000 in
theorem chk_any (a : At) (x : Value) (w : World) (h : Ts w x a.args) :
    Calls Tryz.prog 118 #[a.v x] w fun e w' => e = .returned (.int .i64 a.err) ∧ Below w.heap.size w w' := by
  obtain ⟨⟨k, n, ss⟩, nm, l⟩ := a
  simp only at h
  obtain ⟨r, hr⟩ : ∃ r, At.err ⟨⟨k, n, ss⟩, nm, l⟩ = r := ⟨_, rfl⟩
  rw [hr]
  simp only [At.err] at hr
  have HX : Hid (Ts w x l) := h
  obtain ⟨ad, cap, rfl, hl, -⟩ := h
  cases hn : nameOk nm
  · have HR : Hid (21 = r) := by show _ = _; rw [← hr, if_pos hn]
    clear hr
    go_enter Tryz.func118, Tryz.ntmps118
    go_wp2_with (go_at_call 142; refine (name_any nm _).mono ?_; rw [hn]; rintro e w1 ⟨rfl, hb1⟩)
    go_ret
    exact ⟨ret_i HR.out, below_step (below1 _ _) hb1⟩
  · rw [hn, if_neg (by simp)] at hr
    have HN : Hid (nameOk nm = true) := hn
    clear hn
    by_cases h8 : 8 < l.length
    · have HR : Hid (22 = r) := by show _ = _; rw [← hr, if_pos h8]
      have q8 : (8 : Int) < (l.length : Int) := by omega
      clear hr h8
      go_enter Tryz.func118, Tryz.ntmps118
      go_wp2_with (go_at_call 142; refine (name_any nm _).mono ?_; rw [HN.out]; rintro e w1 ⟨rfl, hb1⟩; obtain ⟨p0, p1, p2, p3, p4⟩ := five ((Blk.new w #[.int .i64 k, .int .i64 n, .string ss, .string nm, .slice ad l.length cap] 26).later hb1))
      go_ret
      exact ⟨ret_i HR.out, below_step (below1 _ _) hb1⟩
    · rw [if_neg h8] at hr
      have q8 : ¬ (8 : Int) < (l.length : Int) := by omega
      cases hq : qualOk ⟨k, n, ss⟩
      · have HR : Hid (23 = r) := by show _ = _; rw [← hr, if_pos hq]
        have HQ : Hid (qualOk ⟨k, n, ss⟩ = false) := hq
        clear hr h8 hq
        go_enter Tryz.func118, Tryz.ntmps118
        go_wp2_with (first
          | (go_at_call 142; refine (name_any nm _).mono ?_; rw [HN.out]; rintro e w1 ⟨rfl, hb1⟩; obtain ⟨p0, p1, p2, p3, p4⟩ := five ((Blk.new w #[.int .i64 k, .int .i64 n, .string ss, .string nm, .slice ad l.length cap] 26).later hb1))
          | (go_at_call 143; refine (qual_any ⟨k, n, ss⟩ _).mono ?_; rw [HQ.out]; rintro e w2 ⟨rfl, hb2⟩))
        go_ret
        exact ⟨ret_i HR.out, below_step (below_step (below1 _ _) hb1) hb2⟩
      · have HR : Hid ((if l.all Tm.cov then 0 else 24) = r) := by show _ = _; rw [← hr, hq]; rfl
        have HQ : Hid (qualOk ⟨k, n, ss⟩ = true) := hq
        clear hr h8 hq
        go_enter Tryz.func118, Tryz.ntmps118
        go_wp2_with (first
          | (go_at_call 142; refine (name_any nm _).mono ?_; rw [HN.out]; rintro e w1 ⟨rfl, hb1⟩; have B1 := (Blk.new w #[.int .i64 k, .int .i64 n, .string ss, .string nm, .slice ad l.length cap] 26).later hb1; obtain ⟨p0, p1, p2, p3, p4⟩ := five B1; have HB1 : Hid (Blk _ _ _ _) := B1; clear B1)
          | (go_at_call 143; refine (qual_any ⟨k, n, ss⟩ _).mono ?_; rw [HQ.out]; rintro e w2 ⟨rfl, hb2⟩; clear p0 p1 p2 p3 p4; obtain ⟨p0, p1, p2, p3, p4⟩ := five (Blk.later (Hid.out HB1) hb2)))
        clear p0 p1 p2 p3 p4
        have hbw := below_step (below_step (below1 _ _) hb1) hb2
        clear hb1 hb2 HB1
        go_loopg [23] l.length (fun g i wr => ∃ j : Nat, j + g = l.length ∧ i = .int .i64 j ∧ (∀ i t, i < j → l[i]? = some t → t.cov = true) ∧ Below w.heap.size w wr)
        case atStart => exact ⟨0, by omega, rfl, fun i t hi => by omega, hbw⟩
        case round =>
          obtain ⟨j, hj, rfl, hall, hbr⟩ := hrel
          have HA : Hid (∀ i t, i < j → l[i]? = some t → t.cov = true) := hall
          clear hall hbw
          cases gk with
          | succ g =>
            have hlt : j < l.length := by omega
            obtain ⟨t, ht⟩ : ∃ t, l[j]? = some t := ⟨_, List.getElem?_eq_getElem hlt⟩
            obtain ⟨ad', cap', hx, -, hxx⟩ := HX.out.later hbr
            simp only [Value.slice.injEq] at hx
            obtain ⟨rfl, -, rfl⟩ := hx
            rcases hxx with hxx | ⟨b, o, rfl, hbs, hxx⟩
            · subst hxx; simp at hlt
            · obtain ⟨c0, c1, c2⟩ := hxx j _ ht
              have HT : Hid (l[j]? = some t) := ht
              obtain ⟨tk, tn, ts⟩ := t
              simp only at c0 c1 c2
              clear hxx ht
              have i1 : (0 : Int) ≤ (j : Int) := by omega
              have i2 : (j : Int) < (l.length : Int) := by omega
              cases hc : Tm.cov ⟨tk, tn, ts⟩
              · have HR2 : Hid (24 = r) := by show _ = _; rw [← HR.out, all_no HT.out hc]; rfl
                go_wp2_with (go_at_call 119; refine (cov_any ⟨tk, tn, ts⟩ _).mono ?_; rw [hc]; rintro e w3 ⟨rfl, hb3⟩)
                go_ret
                exact ⟨ret_i HR2.out, below_step (below_step hbr (below1 _ _)) hb3⟩
              · have HC : Hid (Tm.cov ⟨tk, tn, ts⟩ = true) := hc
                clear hc
                go_wp2_with (go_at_call 119; refine (cov_any ⟨tk, tn, ts⟩ _).mono ?_; rw [HC.out]; rintro e w3 ⟨rfl, hb3⟩)
                go_roundg g
                case measure => omega
                case rel =>
                  refine ⟨j + 1, by omega, by go_num, fun i t hi ht => ?_, below_step (below_step hbr (below1 _ _)) hb3⟩
                  rcases Nat.lt_or_ge i j with h | h
                  · exact HA.out i t h ht
                  · obtain rfl : i = j := by omega
                    rw [HT.out] at ht; cases ht; exact HC.out
          | zero =>
            obtain rfl : j = l.length := by omega
            have HR2 : Hid (0 = r) := by show _ = _; rw [← HR.out, all_yes fun i t ht => HA.out i t (List.getElem?_eq_some_iff.1 ht).1 ht]; rfl
            have hz : ¬ ((l.length : Int) < (l.length : Int)) := by omega
            go_wp2
            go_ret
            exact ⟨ret_i HR2.out, hbr⟩
end Go.Proofs.YtgbiicmkhlnniaaGreatDoor

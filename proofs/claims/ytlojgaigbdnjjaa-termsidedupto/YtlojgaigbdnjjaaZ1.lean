/-
  hearsaylaw02.TermSided, given canSay.
-/
import Derived.Test.YtlojgaigbdnjjaaP7
import Derived.Test.YtlojgaigbdnjjaaQ1
import Derived.Test.YtlojgaigbdnjjaaT3
import Derived.Test.YtlojgaigbdnjjaaB9
namespace Go.Proofs.Ytlojgaigbdnjjaa
open Go.RowKit
attribute [local go_sem ↓] Go.wp_at_zero Go.wp_at_succ

theorem self_yes {w : World} {base : Nat} {a : At} {m : Value} {is : Bool} (h : (is = false ∧ m = .slice none 0 0 ∧ ∀ f, Fix f → a.mk' f = a.mk' f → FitsB f a.by_ = true → FitsB f a.by_ = true → False) ∨ (is = true ∧ ∃ out, Own w base m out ∧ Uni a a out)) : is = true := by
  rcases h with ⟨-, -, h3⟩ | ⟨h, -⟩
  · exact (h3 id (fun t _ => rfl) rfl (fits_id _) (fits_id _)).elim
  · exact h
theorem sided_both {W : World} {base : Nat} {p a : At} {m u : Value} {is has : Bool} {L : List Bd} (hg : Gr a) (hn : ¬ (p.by_.var = true ∧ a.by_.prin = false)) (hmi : MI W base p a [] m is) (hlen : p.args.length ≤ 400000000000)
    (hu : (has = false ∧ u = .slice none 0 0 ∧ L = [] ∧ ∀ f, Fix f → p.mk' f = a.mk' f → FitsB f p.by_ = true → FitsB f a.by_ = true → False) ∨ (has = true ∧ Uni p a L)) : is = has ∧ ∀ X, Below W.heap.size W X → Bs X m L := by
  rcases hmi with ⟨rfl, rfl, h0⟩ | ⟨rfl, out, out', h1, hp, hs, ho⟩
  · rcases hu with ⟨rfl, -, rfl, -⟩ | ⟨rfl, hu⟩
    · exact ⟨rfl, fun X _ => bs_nil X⟩
    · obtain ⟨out, h, -⟩ := sided_yes hg hn hu
      rw [h] at h0; cases h0
  · have hl := mi_len h1 hp (by simp; omega)
    rcases hu with ⟨rfl, -, rfl, h3⟩ | ⟨rfl, hu⟩
    · exact (sided_back hg hn h1 h3).elim
    · obtain ⟨out2, h, hall⟩ := sided_yes hg hn hu
      rw [h1] at h
      cases h
      have := hall out' hp hs
      subst this
      exact ⟨rfl, fun X hb => (ho.later hb).bs hl⟩
set_option maxRecDepth 20000 in
set_option maxHeartbeats 2000000 in
theorem sided_any (hsay : SayOK) (p a : At) (x y : Value) (w : World) (hx : Ts w x p.args) (hy : Ts w y a.args) (hlp : p.args.length ≤ 400000000000) (hla : a.args.length ≤ 400000000000) :
    Calls Try.prog 3 #[p.v x, a.v y] w fun e w' => e = .returned (.bool true) ∧ Below w.heap.size w w' := by
  have vv : ∀ X, Below w.heap.size w X → Calls Try.prog 8 #[a.v y] X fun e w' => ∃ q c, e = .returned (.slice q (vs a.pl).length c) ∧ Below X.heap.size X w' := fun X h =>
    (vars_any a y X (hy.later h) (by omega)).mono (by rintro e w' ⟨v', rfl, ho, hb⟩; obtain ⟨q, c, rfl⟩ := ownI_len ho; exact ⟨q, c, rfl, hb⟩)
  have uaa := fun (X : World) (h : Below w.heap.size w X) => unify_any hsay a a y y X (hy.later h) (hy.later h) hla
  have upa := fun (X : World) (h : Below w.heap.size w X) => unify_any hsay p a x y X (hx.later h) (hy.later h) hlp
  have mm := fun (X : World) (h : Below w.heap.size w X) => match_mi p a [] x y (.slice none 0 0) X (hx.later h) (hy.later h) (bs_nil _) (by simp; omega)
  obtain ⟨N, hN⟩ : ∃ N, (vs a.pl).length = N := ⟨_, rfl⟩
  rw [hN] at vv
  obtain ⟨A, hA⟩ : ∃ A, A = a := ⟨_, rfl⟩
  obtain ⟨P, hP⟩ : ∃ P, P = p := ⟨_, rfl⟩
  have HV : Hid (∀ X, Below w.heap.size w X → Calls Try.prog 8 #[a.v y] X fun e w' => ∃ q c, e = .returned (.slice q N c) ∧ Below X.heap.size X w') := vv
  have HUA : Hid (∀ X, Below w.heap.size w X → Calls Try.prog 9 #[a.v y, a.v y] X (UPost X A A)) := by rw [hA]; exact uaa
  have HUP : Hid (∀ X, Below w.heap.size w X → Calls Try.prog 9 #[p.v x, a.v y] X (UPost X P A)) := by rw [hA, hP]; exact upa
  have HMM : Hid (∀ X, Below w.heap.size w X → Calls Try.prog 11 #[p.v x, a.v y, .slice none 0 0] X fun e w' => ∃ m b, e = .returned (.tuple #[m, .bool b]) ∧ MI w' X.heap.size P A [] m b ∧ Below X.heap.size X w') := by rw [hA, hP]; exact mm
  have HLP : Hid (P.args.length ≤ 400000000000) := by show _ ≤ _; rw [hP]; exact hlp
  have hg : N = 0 → Gr A := fun h => by
    rw [hA]; rw [h] at hN; exact gr_of (List.eq_nil_of_length_eq_zero hN)
  obtain ⟨⟨k, n, ss⟩, nm, l⟩ := p
  obtain ⟨⟨k', n', ss'⟩, nm', l'⟩ := a
  obtain ⟨pv, hpv⟩ : ∃ b, Tm.var ⟨k, n, ss⟩ = b := ⟨_, rfl⟩
  obtain ⟨pr, hpr⟩ : ∃ b, Tm.prin ⟨k', n', ss'⟩ = b := ⟨_, rfl⟩
  have HPV : Hid (Tm.var ⟨k, n, ss⟩ = pv) := hpv
  have HPR : Hid (Tm.prin ⟨k', n', ss'⟩ = pr) := hpr
  have HPB : Hid (P.by_.var = pv) := by show _ = _; rw [hP]; exact hpv
  have HAB : Hid (A.by_.prin = pr) := by show _ = _; rw [hA]; exact hpr
  clear vv uaa upa mm hx hy hlp hla hA hP hN hpv hpr hsay
  cases N with
  | succ N =>
    clear hg HUP HMM HPV HPR HPB HAB HLP
    have h0 : ¬ (((N + 1 : Nat) : Int) = 0) := by omega
    go_enter Try.func3, Try.ntmps3
    go_upto_region 2 with (go_at_call 8; refine (HV.out _ (below2 _ _ _)).mono ?_; rintro e W1 ⟨q, c, rfl, hb1⟩)
    have BA := (Blk.new2 w #[.int .i64 k', .int .i64 n', .string ss', .string nm', y] 26 (.cells #[.int .i64 k, .int .i64 n, .string ss, .string nm, x] 26)).later hb1
    have BW1 : Hid (Below w.heap.size w W1) := below_step (below2 _ _ _) hb1
    obtain ⟨p0, p1, p2, p3, p4⟩ := five BA
    clear BA hb1 HV
    go_upto_region 3 with (go_at_call 9; refine (HUA.out _ (Hid.out BW1)).mono ?_; intro e W2 hup; obtain ⟨hb2, m, is, rfl, hal⟩ := upost_facts hup; have his := self_yes hal; subst his; clear hup hal)
    clear p0 p1 p2 p3 p4
    go_wp2_with (go_at_call 10; refine (first_any _).mono ?_; rintro e w3 ⟨rfl, hb3⟩)
    go_ret
    exact ⟨ret_b rfl, below_step (below_step (Hid.out BW1) hb2) hb3⟩
  | zero =>
    have HG : Hid (Gr A) := hg rfl
    clear hg HUA
    go_enter Try.func3, Try.ntmps3
    go_upto_region 4 with (go_at_call 8; refine (HV.out _ (below2 _ _ _)).mono ?_; rintro e W1 ⟨q, c, rfl, hb1⟩)
    have BP1 := (Blk.old w #[.int .i64 k, .int .i64 n, .string ss, .string nm, x] 26 (.cells #[.int .i64 k', .int .i64 n', .string ss', .string nm', y] 26)).later hb1
    have BA1 := (Blk.new2 w #[.int .i64 k', .int .i64 n', .string ss', .string nm', y] 26 (.cells #[.int .i64 k, .int .i64 n, .string ss, .string nm, x] 26)).later hb1
    have BW1 : Hid (Below w.heap.size w W1) := below_step (below2 _ _ _) hb1
    obtain ⟨p0, p1, p2, p3, p4⟩ := five BP1
    obtain ⟨a0, a1, a2, a3, a4⟩ := five BA1
    have BP1 : Hid (Blk W1 w.heap.size #[.int .i64 k, .int .i64 n, .string ss, .string nm, x] 26) := BP1
    have BA1 : Hid (Blk W1 (w.heap.size + 1) #[.int .i64 k', .int .i64 n', .string ss', .string nm', y] 26) := BA1
    clear hb1 HV
    go_upto_region 5 with (go_at_call 11; refine (HMM.out _ (Hid.out BW1)).mono ?_; rintro e W2 ⟨m, is, rfl, hmi, hb2⟩)
    have MIH : Hid (MI W2 W1.heap.size P A [] m is) := hmi
    have BW2 : Hid (Below w.heap.size w W2) := below_step (Hid.out BW1) hb2
    clear p0 p1 p2 p3 p4 a0 a1 a2 a3 a4 hmi
    have BP2 : Hid (Blk W2 w.heap.size #[.int .i64 k, .int .i64 n, .string ss, .string nm, x] 26) := Blk.later (Hid.out BP1) hb2
    have BA2 : Hid (Blk W2 (w.heap.size + 1) #[.int .i64 k', .int .i64 n', .string ss', .string nm', y] 26) := Blk.later (Hid.out BA1) hb2
    obtain ⟨p0, p1, p2, p3, p4⟩ := five (Hid.out BP2)
    obtain ⟨a0, a1, a2, a3, a4⟩ := five (Hid.out BA2)
    clear BP1 BA1 BW1 hb2 HMM
    go_upto_region 6 with (go_at_call 9; refine (HUP.out _ (Hid.out BW2)).mono ?_; intro e W3 hup; obtain ⟨hb3, u, has, rfl, hal⟩ := upost_facts hup; obtain ⟨L, hL, hcs⟩ := u_use hal; clear hup hal)
    have BP3 : Hid (Blk W3 w.heap.size #[.int .i64 k, .int .i64 n, .string ss, .string nm, x] 26) := Blk.later (Hid.out BP2) hb3
    have BA3 : Hid (Blk W3 (w.heap.size + 1) #[.int .i64 k', .int .i64 n', .string ss', .string nm', y] 26) := Blk.later (Hid.out BA2) hb3
    have BW3 : Hid (Below w.heap.size w W3) := below_step (Hid.out BW2) hb3
    have HB3 : Hid (Below W2.heap.size W2 W3) := hb3
    have HL : Hid (∀ X, Below W3.heap.size W3 X → Bs X u L) := hL
    have HCS : Hid ((has = false ∧ u = .slice none 0 0 ∧ L = [] ∧ ∀ f, Fix f → P.mk' f = A.mk' f → FitsB f P.by_ = true → FitsB f A.by_ = true → False) ∨ (has = true ∧ Uni P A L)) := hcs
    clear p0 p1 p2 p3 p4 a0 a1 a2 a3 a4 BP2 BA2 BW2 hb3 hL hcs HUP
    obtain ⟨p0, p1, p2, p3, p4⟩ := five (Hid.out BP3)
    cases pv
    · have hb := sided_both HG.out (by rw [HPB.out]; simp) MIH.out HLP.out HCS.out
      obtain ⟨hi, hbs⟩ := hb
      clear HCS MIH
      subst hi
      have hm := hbs W3 (Hid.out HB3)
      have hu := HL.out W3 (Below.refl _ _)
      have hbd := fun (X : World) (h : Below W3.heap.size W3 X) => bindings_any L L m u X (hm.later h) (hu.later h)
      rw [decide_eq_true rfl] at hbd
      have HBD : Hid (∀ X, Below W3.heap.size W3 X → Calls Try.prog 14 #[m, u] X fun e w' => e = .returned (.bool true) ∧ Below X.heap.size X w') := hbd
      clear hbd hm hu hbs HB3 HL
      cases is
      all_goals
        go_wp2_with (first
          | (go_at_call 12; refine (var_any ⟨k, n, ss⟩ _).mono ?_; rw [HPV.out]; rintro e w4 ⟨rfl, hb4⟩; clear p0 p1 p2 p3 p4; obtain ⟨p0, p1, p2, p3, p4⟩ := five (Blk.later (Hid.out BA3) hb4))
          | (go_at_call 13; refine (prin_any ⟨k', n', ss'⟩ _).mono ?_; rw [HPR.out]; rintro e w5 ⟨rfl, hb5⟩)
          | (go_at_call 14; refine (HBD.out _ hb4).mono ?_; rintro e w6 ⟨rfl, hb6⟩)
          | (go_at_call 10; refine (first_any _).mono ?_; rintro e w7 ⟨rfl, hb7⟩))
        go_ret
        exact ⟨ret_b rfl, below_step (below_step (below_step (Hid.out BW3) hb4) hb6) hb7⟩
    · cases pr
      · have hno : has = false := by
          rcases HCS.out with ⟨h, -⟩ | ⟨-, hu⟩
          · exact h
          · exact (sided_no HG.out HPB.out HAB.out hu).elim
        clear HCS
        subst hno
        go_wp2_with (first
          | (go_at_call 12; refine (var_any ⟨k, n, ss⟩ _).mono ?_; rw [HPV.out]; rintro e w4 ⟨rfl, hb4⟩; clear p0 p1 p2 p3 p4; obtain ⟨p0, p1, p2, p3, p4⟩ := five (Blk.later (Hid.out BA3) hb4))
          | (go_at_call 13; refine (prin_any ⟨k', n', ss'⟩ _).mono ?_; rw [HPR.out]; rintro e w5 ⟨rfl, hb5⟩)
          | (go_at_call 10; refine (first_any _).mono ?_; rintro e w6 ⟨rfl, hb6⟩))
        go_ret
        exact ⟨ret_b rfl, below_step (below_step (below_step (Hid.out BW3) hb4) hb5) hb6⟩
      · have hb := sided_both HG.out (by rw [HAB.out]; simp) MIH.out HLP.out HCS.out
        obtain ⟨hi, hbs⟩ := hb
        clear HCS MIH
        subst hi
        have hm := hbs W3 (Hid.out HB3)
        have hu := HL.out W3 (Below.refl _ _)
        have hbd := fun (X : World) (h : Below W3.heap.size W3 X) => bindings_any L L m u X (hm.later h) (hu.later h)
        rw [decide_eq_true rfl] at hbd
        have HBD : Hid (∀ X, Below W3.heap.size W3 X → Calls Try.prog 14 #[m, u] X fun e w' => e = .returned (.bool true) ∧ Below X.heap.size X w') := hbd
        clear hbd hm hu hbs HB3 HL
        cases is
        all_goals
          go_wp2_with (first
            | (go_at_call 12; refine (var_any ⟨k, n, ss⟩ _).mono ?_; rw [HPV.out]; rintro e w4 ⟨rfl, hb4⟩; clear p0 p1 p2 p3 p4; obtain ⟨p0, p1, p2, p3, p4⟩ := five (Blk.later (Hid.out BA3) hb4))
            | (go_at_call 13; refine (prin_any ⟨k', n', ss'⟩ _).mono ?_; rw [HPR.out]; rintro e w5 ⟨rfl, hb5⟩)
            | (go_at_call 14; refine (HBD.out _ (below_step hb4 hb5)).mono ?_; rintro e w6 ⟨rfl, hb6⟩)
            | (go_at_call 10; refine (first_any _).mono ?_; rintro e w7 ⟨rfl, hb7⟩))
          go_ret
          exact ⟨ret_b rfl, below_step (below_step (below_step (below_step (Hid.out BW3) hb4) hb5) hb6) hb7⟩
end Go.Proofs.Ytlojgaigbdnjjaa

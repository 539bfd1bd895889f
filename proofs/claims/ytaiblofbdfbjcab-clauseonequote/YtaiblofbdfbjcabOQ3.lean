import Derived.Test.YtaiblofbdfbjcabMP2
import Derived.Test.YtaiblofbdfbjcabCL20
import Derived.Test.YtaiblofbdfbjcabLE2
import Derived.Test.YtaiblofbdfbjcabRF2
/-
  What Made makes of a valid clause is that clause; quotes and what has one quote. (Plain.)
-/
namespace Go.Proofs.Ytaiblofbdfbjcab
open Go.RowKit

/-- A valid clause stays as Made makes it. -/
theorem con_k {t : Tm} (h : t.con = true) : t.k ≠ 3 := by
  simp only [Tm.con, decide_eq_true_eq] at h
  rcases h with ⟨h, -⟩ | ⟨h, -⟩ <;> omega
theorem fixT_id {t : Tm} (h : t.cov = true) : fixT t = t := by
  unfold fixT
  cases hv : t.var
  · rw [if_neg (by simp)]
    have hc : t.con = true := by simp only [Tm.cov, hv, Bool.or_false] at h; exact h
    unfold mkC; rw [if_pos hc]
  · rw [if_pos rfl]
theorem mkA_id {a : At} (h : a.err = 0) : mkA a = a := by
  obtain ⟨h1, h2, h3, h4⟩ := err_zero' h
  unfold mkA
  rw [if_pos h3, if_pos h1, List.take_of_length_le h2]
  have : a.args.map fixT = a.args := by
    conv => rhs; rw [← List.map_id a.args]
    exact List.map_congr_left fun t ht => fixT_id (h4 t ht)
  rw [this]
theorem sf_id {b : List Tm} {t : Tm} (h : t.cov = true) (hs : t.var = true → t ∈ b) : sf b t = t := by
  unfold sf
  by_cases hm : t ∈ b
  · rw [if_pos hm]
  · rw [if_neg hm]
    cases hv : t.var
    · have hc : t.con = true := by simp only [Tm.cov, hv, Bool.or_false] at h; exact h
      unfold grd; rw [if_neg (con_k hc)]
    · exact absurd (hs hv) hm
theorem opF_id {o : Int} (h1 : 1 ≤ o) (h2 : o ≤ 4) : opF o = o := by unfold opF; rw [if_neg (by omega)]
theorem mkE_id {b : List Tm} {t : Te} (h : t.ok = true) (hs : ∀ u, u = t.l ∨ u = t.r → u.var = true → u ∈ b) : mkE b t = t := by
  simp only [Te.ok, Bool.and_eq_true, decide_eq_true_eq] at h
  obtain ⟨⟨h1, h2⟩, h3, h4⟩ := h
  unfold mkE
  rw [opF_id h1 h2, fixT_id h3, fixT_id h4, sf_id h3 (hs _ (Or.inl rfl)), sf_id h4 (hs _ (Or.inr rfl))]
theorem qual_k {t : Tm} (h : qualOk t = true) (hv : t.var = false) : t.k ≠ 3 := by
  simp only [qualOk, hv, Bool.or_false, Bool.or_eq_true, decide_eq_true_eq, Tm.prin] at h
  rcases h with h | h
  · rw [h]; simp [zt]
  · omega
theorem made0_id {x : Ck} (h : Val0 x) : made0 x = x := by
  obtain ⟨hd, b, ts⟩ := x
  have hb : (b.take 8).map mkA = b := by
    rw [List.take_of_length_le h.bl]
    conv => rhs; rw [← List.map_id b]
    exact List.map_congr_left fun a ha => mkA_id (h.e a (by simp [ha]))
  have hh : mkA hd = hd := mkA_id (h.e hd (by simp))
  have hq := (err_zero' (h.e hd (by simp))).2.2.1
  have hk : hd.by_.k ≠ 3 := qual_k hq h.h
  have hc := (err_zero' (h.e hd (by simp))).2.2.2
  have ha : hd.args.map (sf (b.flatMap At.pl)) = hd.args := by
    conv => rhs; rw [← List.map_id hd.args]
    exact List.map_congr_left fun t ht => sf_id (hc t ht) fun hv => h.s t (List.mem_append_left _ (List.mem_cons_of_mem _ ht)) hv
  have ht : (ts.take 8).map (mkE (b.flatMap At.pl)) = ts := by
    rw [List.take_of_length_le h.tl]
    conv => rhs; rw [← List.map_id ts]
    exact List.map_congr_left fun t htm => mkE_id (h.t t htm) fun u hu hv => h.s u (List.mem_append_right _ (List.mem_flatMap.2 ⟨t, htm, by simpa using hu⟩)) hv
  unfold made0
  simp only
  rw [hb, hh, if_neg hk, ha, ht]
theorem var_eq {t : Tm} (h : t.var = true) : t = ⟨3, t.n, ⟨#[]⟩⟩ := by
  simp only [Tm.var, decide_eq_true_eq] at h
  obtain ⟨k, n, s⟩ := t
  simp only at h
  obtain ⟨rfl, -, rfl⟩ := h
  rfl
theorem fold_n : ∀ (l acc : List Tm), (∀ t ∈ l, t.var = true) → (∀ t ∈ acc, t.var = true) → (l.foldl dstepT acc).map (·.n) = (l.map (·.n)).foldl dstep (acc.map (·.n))
  | [], acc, _, _ => rfl
  | t :: l, acc, h1, h2 => by
    rw [List.foldl_cons, List.map_cons, List.foldl_cons]
    have ht := h1 t (by simp)
    have hm : t.n ∈ acc.map (·.n) ↔ t ∈ acc := ⟨fun hm => by
      obtain ⟨u, hu, e⟩ := List.mem_map.1 hm
      rw [var_eq ht, ← e, ← var_eq (h2 u hu)]; exact hu, fun hm => List.mem_map.2 ⟨t, hm, rfl⟩⟩
    have e : (dstepT acc t).map (·.n) = dstep (acc.map (·.n)) t.n := by
      unfold dstepT dstep
      by_cases hc : t ∈ acc
      · rw [if_pos hc, if_pos (hm.2 hc)]
      · rw [if_neg hc, if_neg (fun x => hc (hm.1 x))]; simp
    rw [← e]
    refine fold_n l _ (fun u hu => h1 u (by simp [hu])) fun u hu => ?_
    rcases dstepT_mem.1 hu with hu | rfl
    · exact h2 u hu
    · exact ht
theorem disT_n (l : List Tm) : (disT l).map (·.n) = dis (vrs l) := by
  unfold disT dis vrs
  exact fold_n _ [] (fun t ht => (List.mem_filter.1 ht).2) (by simp)
theorem ix_n {vs : List Tm} {m : Nat} (h : vs.map (·.n) = ints m) {t : Tm} (ht : t ∈ vs) : (ix vs t : Int) = t.n := by
  have hg := ix_get ht
  have h2 := congrArg (fun l => l[ix vs t]?) h
  simp only [List.getElem?_map, hg, Option.map_some] at h2
  have hlt : ix vs t < m := by
    have h3 := ix_lt ht
    have := congrArg List.length h
    rw [List.length_map, ints_len] at this; omega
  simp [ints, hlt] at h2
  exact h2.symm
theorem norm_id {x : Ck} (hm : mis 0 (vrs (Ck.terms x)) = false) : normC x = x := by
  obtain ⟨m, hd, -⟩ := num_vars hm
  have hn := (disT_n (Ck.terms x)).trans hd
  refine (mapC_congr (g := fun t => t) fun t ht => ?_).trans (mapC_id x)
  unfold nmT
  by_cases hm : t ∈ disT (Ck.terms x)
  · rw [if_pos hm, ix_n hn hm]
    exact (var_eq (disT_mem.1 hm).2).symm
  · rw [if_neg hm]
theorem made_id {x : Ck} (h : Val0 x) (hm : mis 0 (vrs (Ck.terms x)) = false) : madeK x = x := by
  unfold madeK; rw [made0_id h, norm_id hm]
/-- The head without its qualifier: still valid. -/
def unq (x : Ck) : Ck := (⟨zt, x.1.name, x.1.args⟩, x.2)
theorem unq_vars {x : Ck} (h : Val0 x) : vrs (Ck.terms (unq x)) = vrs (Ck.terms x) := by
  have e : Ck.terms (unq x) = zt :: (x.1.args ++ (x.2.1.flatMap At.pl ++ tls x.2.2)) := rfl
  have e2 : Ck.terms x = x.1.by_ :: (x.1.args ++ (x.2.1.flatMap At.pl ++ tls x.2.2)) := rfl
  have z : zt.var = false := by simp [Tm.var, zt]
  rw [e, e2]
  unfold vrs
  rw [List.filter_cons_of_neg (by rw [z]; simp), List.filter_cons_of_neg (by rw [h.h]; simp)]
theorem unq_val {x : Ck} (h : Val0 x) : Val0 (unq x) := by
  have z : zt.var = false := by simp [Tm.var, zt]
  refine ⟨fun a ha => ?_, h.t, h.bl, h.tl, z, fun t ht hv => ?_⟩
  · rcases List.mem_cons.1 ha with rfl | ha
    · obtain ⟨h1, h2, h3, h4⟩ := err_zero' (h.e x.1 (by simp))
      exact err_zero h1 h2 qual_zt h4
    · exact h.e a (List.mem_cons_of_mem _ ha)
  · rcases List.mem_append.1 ht with h1 | h1
    · rcases List.mem_cons.1 h1 with rfl | h1
      · rw [show ((unq x).1.by_).var = false from z] at hv; cases hv
      · exact h.s t (List.mem_append_left _ (List.mem_cons_of_mem _ h1)) hv
    · exact h.s t (List.mem_append_right _ h1) hv
/-- An atom without u as its qualifier; two atoms have one quote just if they are one without it. -/
def bq (u : ByteArray) (a : At) : At := if a.by_ = ⟨2, 0, u⟩ then ⟨zt, a.name, a.args⟩ else a
theorem zt_ne (u : ByteArray) : zt ≠ ⟨2, 0, u⟩ := by simp [zt]
theorem qa_bq {u : ByteArray} {a b : At} : qa u a = qa u b ↔ bq u a = bq u b := by
  have hz := zt_ne u
  unfold qa bq
  obtain ⟨x, n, l⟩ := a
  obtain ⟨y, n', l'⟩ := b
  simp only
  by_cases h1 : x = zt
  · rw [if_pos h1, if_neg (show ¬ x = ⟨2, 0, u⟩ by rw [h1]; exact hz)]
    by_cases h2 : y = zt
    · rw [if_pos h2, if_neg (show ¬ y = ⟨2, 0, u⟩ by rw [h2]; exact hz)]; simp [h1, h2]
    · rw [if_neg h2]
      by_cases h3 : y = ⟨2, 0, u⟩
      · rw [if_pos h3]; simp [h1, h3]
      · rw [if_neg h3]
        simp only [At.mk.injEq]
        exact ⟨fun e => absurd e.1.symm h3, fun e => absurd (e.1.symm.trans h1) h2⟩
  · rw [if_neg h1]
    by_cases h2 : y = zt
    · rw [if_pos h2, if_neg (show ¬ y = ⟨2, 0, u⟩ by rw [h2]; exact hz)]
      by_cases h3 : x = ⟨2, 0, u⟩
      · rw [if_pos h3]; simp [h2, h3]
      · rw [if_neg h3]
        simp only [At.mk.injEq]
        exact ⟨fun e => absurd e.1 h3, fun e => absurd (e.1.trans h2) h1⟩
    · rw [if_neg h2]
      by_cases h3 : x = ⟨2, 0, u⟩
      · rw [if_pos h3]
        by_cases h4 : y = ⟨2, 0, u⟩
        · rw [if_pos h4]; simp [h3, h4]
        · rw [if_neg h4]
          simp only [At.mk.injEq]
          exact ⟨fun e => absurd (e.1.symm.trans h3) h4, fun e => absurd e.1.symm h2⟩
      · rw [if_neg h3]
        by_cases h4 : y = ⟨2, 0, u⟩
        · rw [if_pos h4]
          simp only [At.mk.injEq]
          exact ⟨fun e => absurd (e.1.trans h4) h3, fun e => absurd e.1 h1⟩
        · rw [if_neg h4]
theorem map_inj_iff {α β γ : Type} {f : α → β} {g : α → γ} (h : ∀ a b, f a = f b ↔ g a = g b) : ∀ (l m : List α), l.map f = m.map f ↔ l.map g = m.map g
  | [], [] => by simp
  | [], _ :: _ => by simp
  | _ :: _, [] => by simp
  | a :: l, b :: m => by simp only [List.map_cons, List.cons.injEq]; rw [h a b, map_inj_iff h l m]
/-- The quote's key, and the key without u. -/
def quoK (u : ByteArray) (x : Ck) : Ck := (⟨⟨2, 0, u⟩, x.1.name, x.1.args⟩, x.2.1.map (qa u), x.2.2)
def barK (u : ByteArray) (x : Ck) : Ck := (x.1, x.2.1.map (bq u), x.2.2)
theorem one_quote {u : ByteArray} {x y : Ck} (hx : x.1.by_ = zt) (hy : y.1.by_ = zt) : quoK u x = quoK u y ↔ barK u x = barK u y := by
  obtain ⟨⟨b, n, l⟩, lb, lt⟩ := x
  obtain ⟨⟨b', n', l'⟩, lb', lt'⟩ := y
  simp only at hx hy
  subst hx hy
  simp only [quoK, barK, Prod.mk.injEq, At.mk.injEq]
  rw [map_inj_iff (fun a b => qa_bq (u := u) (a := a) (b := b)) lb lb']
theorem two_quotes {u v : ByteArray} {x : Ck} : quoK u x = quoK v x ↔ u = v := by
  constructor
  · intro h
    simp only [quoK, Prod.mk.injEq, At.mk.injEq, Tm.mk.injEq] at h
    exact h.1.1.2.2
  · rintro rfl; rfl
end Go.Proofs.Ytaiblofbdfbjcab
/-
  name; bare; Quote of a valid clause.
-/
namespace Go.Proofs.Ytaiblofbdfbjcab
open Go.RowKit
attribute [local go_sem ↓] Go.wp_at_zero Go.wp_at_succ

/-- A principal out of any text. -/
def cutU (u : ByteArray) : ByteArray := if 64 < u.size then u.extract 0 64 else u
def nmU (u : ByteArray) : ByteArray := if cutU u = ⟨#[]⟩ then ⟨#[117]⟩ else cutU u
theorem cutU_size (u : ByteArray) : (cutU u).size ≤ 64 := by
  unfold cutU
  split
  · rw [ByteArray.size_extract]; omega
  · omega
theorem nmU_prin (u : ByteArray) : Tm.prin ⟨2, 0, nmU u⟩ = true := by
  have h := cutU_size u
  unfold nmU
  by_cases h1 : cutU u = ⟨#[]⟩
  · rw [if_pos h1]; decide
  · rw [if_neg h1]; simp [Tm.prin, h, h1]
set_option maxHeartbeats 1000000 in
theorem name3_any (u : ByteArray) (w : World) : Calls Try.prog 6 #[.string u] w fun e w' => e = .returned (.string (nmU u)) ∧ Below w.heap.size w w' := by
  by_cases h64 : 64 < u.size
  · have hi : (64 : Int) < (u.size : Int) := by omega
    have hle : (64 : Int) ≤ (u.size : Int) := by omega
    have hne : u.extract 0 64 ≠ ⟨#[]⟩ := fun e => by
      have := congrArg ByteArray.size e
      rw [ByteArray.size_extract] at this
      have h0 : (⟨#[]⟩ : ByteArray).size = 0 := rfl
      omega
    have hE : (u.extract 0 64).toList.isEmpty = false := by rw [isE]; exact decide_eq_false hne
    have hR : nmU u = u.extract 0 64 := by unfold nmU cutU; rw [if_pos h64, if_neg hne]
    rw [hR]
    have HNE : Hid (u.extract 0 64 ≠ ⟨#[]⟩) := hne
    clear hne hR
    go_enter Try.func6, Try.ntmps6
    go_wp2
    go_ret
    exact ⟨rfl, Below.refl _ _⟩
  · have hi : ¬ (64 : Int) < (u.size : Int) := by omega
    by_cases hne : u = ⟨#[]⟩
    · have hR : nmU u = ⟨#[117]⟩ := by unfold nmU cutU; rw [if_neg h64, if_pos hne]
      rw [hR]
      subst hne
      clear hR
      go_enter Try.func6, Try.ntmps6
      go_wp2
      go_ret
      exact ⟨rfl, Below.refl _ _⟩
    · have hE : u.toList.isEmpty = false := by rw [isE]; exact decide_eq_false hne
      have hR : nmU u = u := by unfold nmU cutU; rw [if_neg h64, if_neg hne]
      rw [hR]
      have HNE : Hid (u ≠ ⟨#[]⟩) := hne
      clear hne hR
      go_enter Try.func6, Try.ntmps6
      go_wp2
      go_ret
      exact ⟨rfl, Below.refl _ _⟩
/-- Quote of a clause that may be quoted. -/
theorem quo4_any (c : Cm) (u : ByteArray) (w : World) (h : c.ok w) (hs : KS c.key) (hwf : c.wf) (hp : Tm.prin ⟨2, 0, u⟩ = true) (hk : c.chk = 0) (hu : c.head.1.by_ = zt) :
    Calls Try.prog 7 #[.string u, c.v] w fun e w' => ∃ d : Cm, e = .returned (.tuple #[d.v, .int .i64 0]) ∧ d.key = quoK u c.key ∧ d.ok w' ∧ Below w.heap.size w w' := by
  obtain ⟨h1, h2, h3, h4⟩ := hs.lens
  refine (quote_ok c u w h hwf hp hk hu (by omega) (by omega) (by omega) (fun x hx => by have := h4 x hx; omega)).mono fun e w' he => ?_
  obtain ⟨M1, M2, M3, lb, rfl, hr, hb⟩ := he
  have hl : lb.length = c.body.length := by have := congrArg List.length hr.f; simpa [fsts, Cm.quo] using this
  have hbl : (c.quo u).body.length = c.body.length := by simp [Cm.quo]
  refine ⟨_, rfl, ?_, ⟨hr.t1, ?_, ?_⟩, hb⟩
  · have hf := hr.f
    rw [fsts_quo] at hf
    unfold Cm.key quoK Cm.cp
    simp only
    rw [hf]
    rfl
  · exact hr.a.as (by rw [hbl]; exact hl) (by rw [hbl]; omega) fun x hx => (hr.ts x hx).1.1
  · exact hr.e.es rfl (by show c.tests.length < _; omega)
/-- One atom's qualifier in a list that the call made. -/
theorem acs_set : ∀ (l : List (At × Value)) (j : Nat) (x : At × Value) (t : Tm), l[j]? = some x → acs (l.set j (⟨t, x.1.name, x.1.args⟩, x.2)) = (((acs l).set (j * 5) (.int .i64 t.k)).set (j * 5 + 1) (.int .i64 t.n)).set (j * 5 + 2) (.string t.s)
  | a :: l, 0, x, t, h => by simp at h; subst h; simp [acs, acell]
  | a :: l, j + 1, x, t, h => by
    rw [List.getElem?_cons_succ] at h
    have ih := acs_set l j x t h
    have e : ∀ m : List (At × Value), acs (a :: m) = acell a ++ acs m := fun m => by simp [acs]
    have hc : (acell a).length = 5 := rfl
    rw [List.set_cons_succ, e, e, ih, List.set_append_right _ _ (by omega), List.set_append_right _ _ (by omega), List.set_append_right _ _ (by omega), hc]
    rw [show (j + 1) * 5 - 5 = j * 5 by omega, show (j + 1) * 5 + 1 - 5 = j * 5 + 1 by omega, show (j + 1) * 5 + 2 - 5 = j * 5 + 2 by omega]
theorem OwnA.by_ {X : World} {base g n cap j : Nat} {L : List (At × Value)} {x : At × Value} (h : OwnA X base (.slice (some ⟨g, 0, none⟩) n cap) L) (hx : L[j]? = some x) (t : Tm) : OwnA (Aby X g j t) base (.slice (some ⟨g, 0, none⟩) n cap) (L.set j (⟨t, x.1.name, x.1.args⟩, x.2)) := by
  rcases h.2 with ⟨h, _⟩ | ⟨g', cap', cur, hv, hb, hg, hn, hc, hs, ht⟩
  · cases h
  · simp only [Value.slice.injEq, Option.some.injEq, Addr.mk.injEq] at hv
    obtain ⟨⟨rfl, -⟩, rfl, rfl⟩ := hv
    have k1 := heap_setCell_same _ _ (j * 5) _ _ (.int .i64 t.k) hg
    have k2 := heap_setCell_same _ _ (j * 5 + 1) _ _ (.int .i64 t.n) k1
    have k3 := heap_setCell_same _ _ (j * 5 + 2) _ _ (.string t.s) k2
    refine ⟨by rw [acs_len, List.length_set], Or.inr ⟨g, cap, _, by rw [List.length_set], hb, k3, by rw [List.length_set]; exact hn, hc, by simpa using hs, ?_⟩⟩
    rw [List.length_set, acs_set L j x t hx, ← ht]
    simp [List.take_set]
end Go.Proofs.Ytaiblofbdfbjcab
/-
  bare. (Written by OQ3.py.)
-/
namespace Go.Proofs.Ytaiblofbdfbjcab
open Go.RowKit
attribute [local go_sem ↓] Go.wp_at_zero Go.wp_at_succ

structure BB (w X : World) (Go : Nat) (d : Cm) : Prop where
  br : CBlk X (w.heap.size + 1) zcs 30
  bo : CBlk X Go d.cs 30
  mc : MCl (w.heap.size + 1 + 1) X d
  fr : Fr d.head d.bv d.body d.tv Go
  g1 : w.heap.size + 1 + 1 ≤ Go
  bw : Below w.heap.size w X
theorem BB.start {w w1 : World} {d : Cm} (hm : MCl (w.heap.size + 1 + 1) w1 d) (hr : CBlk w1 (w.heap.size + 1) zcs 30) (hb : Below w.heap.size w w1) (hs : w.heap.size + 1 + 1 ≤ w1.heap.size) : BB w (w1.alloc (.cells d.cs 30)) w1.heap.size d :=
  ⟨hr.later (below1 _ _), CBlk.new _ _ _, hm.later (below1 _ _), ⟨fun k hk => by have := (hm.h.lt k hk).2; omega, fun k hk => by have := (hm.b.lt k hk).2; omega, fun x hx k hk => by have := ((hm.x x hx).lt k hk).2; omega, fun k hk => by have := (hm.t.lt k hk).2; omega⟩, hs, below_step hb (below1 _ _)⟩
theorem BB.by_ {w X : World} {Go g n cap j : Nat} {h : At × Value} {L : List (At × Value)} {LT : List Te} {tu : Value} {x : At × Value} (H : BB w X Go ⟨h, L, .slice (some ⟨g, 0, none⟩) n cap, LT, tu⟩) (hx : L[j]? = some x) (t : Tm) :
    BB w (Aby X g j t) Go ⟨h, L.set j (⟨t, x.1.name, x.1.args⟩, x.2), .slice (some ⟨g, 0, none⟩) n cap, LT, tu⟩ := by
  have hg := (H.mc.b.lt g rfl).1
  have hGo : Go ≠ g := fun e => H.fr.b g rfl e.symm
  have hs := H.mc.s g rfl
  have n1 : ∀ k, h.2.ownBlock = some k → k ≠ g := fun k hk e => hs.1 (by rw [hk, e])
  have n2 : ∀ k, tu.ownBlock = some k → k ≠ g := fun k hk e => hs.2.2 (by rw [← e]; exact hk)
  have n3 : ∀ y ∈ L, ∀ k, y.2.ownBlock = some k → k ≠ g := fun y hy k hk e => hs.2.1 y hy (by rw [hk, e])
  have hxm := List.mem_of_getElem? hx
  have nw : w.heap.size ≤ g := by omega
  refine ⟨((H.br.off (by omega)).off (by omega)).off (by omega), ((H.bo.off hGo).off hGo).off hGo, ⟨((H.mc.h.off n1).off n1).off n1, H.mc.b.by_ hx t, fun y hy => ?_, ((H.mc.t.off n2).off n2).off n2, fun k hk => ⟨(H.mc.s k hk).1, fun y hy => ?_, (H.mc.s k hk).2.2⟩⟩, ⟨H.fr.h, H.fr.b, fun y hy => ?_, H.fr.t⟩, H.g1, ((H.bw.setCell nw _).setCell nw _).setCell nw _⟩
  · rcases List.mem_or_eq_of_mem_set hy with hy | rfl
    · exact (((H.mc.x y hy).off (n3 y hy)).off (n3 y hy)).off (n3 y hy)
    · exact (((H.mc.x x hxm).off (n3 x hxm)).off (n3 x hxm)).off (n3 x hxm)
  · rcases List.mem_or_eq_of_mem_set hy with hy | rfl
    · exact (H.mc.s k hk).2.1 y hy
    · exact (H.mc.s k hk).2.1 x hxm
  · rcases List.mem_or_eq_of_mem_set hy with hy | rfl
    · exact H.fr.x y hy
    · exact H.fr.x x hxm
theorem mixG {α : Type} {L : List α} {g : α → α} {j : Nat} {t : α} (h : L[j]? = some t) : ((L.take j).map g ++ L.drop j).set j (g t) = (L.take (j + 1)).map g ++ L.drop (j + 1) ∧ ((L.take j).map g ++ L.drop j)[j]? = some t := by
  obtain ⟨hj, e⟩ := List.getElem?_eq_some_iff.1 h
  have e0 := List.drop_eq_getElem_cons hj
  rw [e] at e0
  have hl : ((L.take j).map g).length = j := by rw [List.length_map, List.length_take]; omega
  rw [e0]
  constructor
  · rw [List.set_append_right _ _ (by omega), hl, Nat.sub_self, List.set_cons_zero, List.take_add_one, h]; simp
  · rw [List.getElem?_append_right (by omega), hl, Nat.sub_self]; rfl
theorem set_same {α : Type} {L : List α} {j : Nat} {t : α} (h : L[j]? = some t) : L.set j t = L := by
  obtain ⟨hj, rfl⟩ := List.getElem?_eq_some_iff.1 h
  exact List.set_getElem_self hj
theorem OwnA.froz {X : World} {base g n cap i : Nat} {L : List (At × Value)} (h : OwnA X base (.slice (some ⟨g, 0, none⟩) n cap) L) : X.frozen? ⟨g, i, none⟩ = false := by
  rcases h.2 with ⟨h, _⟩ | ⟨g', cap', cur, hv, hb, hg, -⟩
  · cases h
  · simp only [Value.slice.injEq, Option.some.injEq, Addr.mk.injEq] at hv
    obtain ⟨⟨rfl, -⟩, -, -⟩ := hv
    exact frozen_of_row _ _ _ _ _ hg
set_option maxRecDepth 20000 in
set_option maxHeartbeats 2000000 in
theorem bare_any (u : ByteArray) (c : Cm) (w : World) (h : c.ok w) (hval : Val0 c.key) (hmis : mis 0 (vrs (Ck.terms c.key)) = false) :
    Calls Try.prog 10 #[.string u, c.v] w fun e w' => ∃ d : Cm, e = .returned d.v ∧ d.key = barK u c.key ∧ d.ok w' ∧ Below w.heap.size w w' := by
  obtain ⟨⟨a, hn, cap, h1⟩, ⟨a', cap', h2⟩, ⟨a'', cap'', h3⟩, hbl, htl⟩ := h.shape
  have HMD : Hid (∀ X : World, Below w.heap.size w X → Calls Try.prog 5 #[c.v] X fun e w' => ∃ d : Cm, e = .returned d.v ∧ d.key = c.key ∧ MCl X.heap.size w' d ∧ Below X.heap.size X w') := fun X hX => by
    have := made_any c X (h.later hX); rw [made_id hval hmis] at this; exact this
  have hks := hval.ks
  have HC0 : Hid (C2 w _ c.cs) := C2.start w c.cs
  have HS0 : Hid (((w.alloc (.cells c.cs 30)).alloc (.cells zcs 30)).heap.size = w.heap.size + 1 + 1) := by show _ = _; simp
  generalize c.key = KK at HMD hks hval hmis
  obtain ⟨⟨⟨⟨k, m, s⟩, nm, ls⟩, hx⟩, body, bv, tests, tv⟩ := c
  simp only at h1 h2 h3 hbl htl
  subst h1 h2 h3
  clear h hval hmis
  go_enter Try.func10, Try.ntmps10
  go_upto_region 2 with (go_at_call 5; refine (HMD.out _ HC0.out.bw).mono ?_; clear HMD; rintro e w1 ⟨d, rfl, hdk, hmc, hb⟩; have hok := hmc.ok8 (by rw [hdk]; exact hks); obtain ⟨⟨d1, d2, d3, tz1⟩, ⟨d4, d6, tz2⟩, ⟨d7, d9, tz3⟩, -, -⟩ := (hok).shape; obtain ⟨d5, tz4⟩ : ∃ n, n = d.body.length := ⟨_, rfl⟩; obtain ⟨d8, tz5⟩ : ∃ n, n = d.tests.length := ⟨_, rfl⟩; rw [← tz4] at tz2; rw [← tz5] at tz3; obtain ⟨⟨⟨⟨dk, dn, ds⟩, dm, da⟩, dv⟩, db, dbv, dt, dtv⟩ := d; simp only at tz1 tz2 tz3; subst tz1 tz2 tz3; clear tz4 tz5; have HDK : Hid (Cm.key ⟨(⟨⟨dk, dn, ds⟩, dm, da⟩, .slice d1 d2 d3), db, .slice d4 d5 d6, dt, .slice d7 d8 d9⟩ = KK) := hdk; have HBS : Hid (BB w (w1.alloc (.cells (Cm.cs ⟨(⟨⟨dk, dn, ds⟩, dm, da⟩, .slice d1 d2 d3), db, .slice d4 d5 d6, dt, .slice d7 d8 d9⟩) 30)) w1.heap.size ⟨(⟨⟨dk, dn, ds⟩, dm, da⟩, .slice d1 d2 d3), db, .slice d4 d5 d6, dt, .slice d7 d8 d9⟩) := BB.start (hmc.mono (Nat.le_of_eq HS0.out.symm)) (HC0.out.br.later hb) (below_step HC0.out.bw hb) (by have := hb.size; have := HS0.out; omega); clear hb hok hmc hdk)
  revert HBS
  generalize w1.alloc (.cells #[.int .i64 dk, .int .i64 dn, .string ds, .string dm, .slice d1 d2 d3, .slice d4 d5 d6, .slice d7 d8 d9] 30) = X1
  generalize w1.heap.size = Go
  intro HBS
  have hln := KS.lens (c := ⟨(⟨⟨dk, dn, ds⟩, dm, da⟩, .slice d1 d2 d3), db, .slice d4 d5 d6, dt, .slice d7 d8 d9⟩) (by rw [HDK.out]; exact hks)
  simp only at hln
  obtain ⟨hd5, h5⟩ : ∃ hd5 : d5 = db.length, True := ⟨by obtain ⟨_, _, e⟩ := OwnA.form HBS.out.mc.b; simp only [Value.slice.injEq] at e; exact e.2.1, trivial⟩
  have HD5 : Hid (d5 = db.length) := hd5
  clear hd5 h5
  go_wp2_with fail
  go_loopg [6] db.length (fun g i wr => ∃ (j : Nat) (L : List (At × Value)), j + g = db.length ∧ i = .int .i64 j ∧ fsts L = ((fsts db).take j).map (bq u) ++ (fsts db).drop j ∧ BB w wr Go ⟨(⟨⟨dk, dn, ds⟩, dm, da⟩, .slice d1 d2 d3), L, .slice d4 d5 d6, dt, .slice d7 d8 d9⟩)
  case atStart => exact ⟨0, db, by omega, rfl, by simp, HBS.out⟩
  case round =>
    obtain ⟨j, L, hj, rfl, hL, hbs⟩ := hrel
    have HB : Hid (BB w wr Go ⟨(⟨⟨dk, dn, ds⟩, dm, da⟩, .slice d1 d2 d3), L, .slice d4 d5 d6, dt, .slice d7 d8 d9⟩) := hbs
    have HL : Hid (fsts L = ((fsts db).take j).map (bq u) ++ (fsts db).drop j) := hL
    clear hbs HBS
    obtain ⟨c0, c1, c2, c3, c4, c5, c6⟩ := cseven HB.out.bo
    simp only at c0 c1 c2 c3 c4 c5 c6
    have hdb := hln.2.1
    cases gk with
    | succ g =>
      have hlt : (j : Int) < (d5 : Int) := by have := HD5.out; omega
      have j0 : (0 : Int) ≤ (j : Int) := by omega
      obtain ⟨aj, haj⟩ : ∃ a, (fsts db)[j]? = some a := ⟨_, List.getElem?_eq_getElem (by simp [fsts]; omega)⟩
      obtain ⟨hm1, hm2⟩ := mixG (g := bq u) haj
      rw [← hL] at hm1 hm2
      obtain ⟨x, hx, hxa⟩ : ∃ x, L[j]? = some x ∧ x.1 = aj := by
        unfold fsts at hm2
        rw [List.getElem?_map] at hm2
        cases e : L[j]? with
        | none => rw [e] at hm2; simp at hm2
        | some x => rw [e] at hm2; simp at hm2; exact ⟨x, rfl, hm2⟩
      subst hxa
      have hLp : 0 < L.length := by have := (List.getElem?_eq_some_iff.1 hx).1; omega
      obtain ⟨gb, hgb⟩ : ∃ g, d4 = some ⟨g, 0, none⟩ := by
        rcases HB.out.mc.b.2 with ⟨_, hn0⟩ | ⟨g', cap', cur, hv, -⟩
        · exact absurd hn0 (by show ¬ L.length = 0; omega)
        · simp only [Value.slice.injEq] at hv; exact ⟨g', hv.1⟩
      subst hgb
      have q0 : wr.cell? ⟨gb, j * 5, none⟩ = some (.int .i64 x.1.by_.k) := OwnA.cells HB.out.mc.b j x hx 0 (by omega)
      have q1 : wr.cell? ⟨gb, j * 5 + 1, none⟩ = some (.int .i64 x.1.by_.n) := OwnA.cells HB.out.mc.b j x hx 1 (by omega)
      have q2 : wr.cell? ⟨gb, j * 5 + 2, none⟩ = some (.string x.1.by_.s) := OwnA.cells HB.out.mc.b j x hx 2 (by omega)
      have f0 : wr.frozen? ⟨gb, j * 5, none⟩ = false := OwnA.froz HB.out.mc.b
      have f1 : wr.frozen? ⟨gb, j * 5 + 1, none⟩ = false := OwnA.froz HB.out.mc.b
      have f2 : wr.frozen? ⟨gb, j * 5 + 2, none⟩ = false := OwnA.froz HB.out.mc.b
      have he := run_eql_tm x.1.by_ ⟨2, 0, u⟩
      by_cases hq : x.1.by_ = ⟨2, 0, u⟩
      · rw [decide_eq_true hq] at he
        have HN : Hid (fsts (L.set j (⟨zt, x.1.name, x.1.args⟩, x.2)) = ((fsts db).take (j + 1)).map (bq u) ++ (fsts db).drop (j + 1)) := by
          show _ = _
          rw [← hm1, fsts_set]
          unfold bq; rw [if_pos hq]
        have HB2 : Hid (BB w (Aby wr gb j zt) Go ⟨(⟨⟨dk, dn, ds⟩, dm, da⟩, .slice d1 d2 d3), (L.set j (⟨zt, x.1.name, x.1.args⟩, x.2)), .slice (some ⟨gb, 0, none⟩) d5 d6, dt, .slice d7 d8 d9⟩) := HB.out.by_ hx zt
        clear hq hm1 hm2 haj hL
        obtain ⟨⟨⟨xk, xn, xs⟩, xm, xa⟩, xv⟩ := x
        simp only at q0 q1 q2 he
        go_wp2
        go_roundg g
        case measure => omega
        case rel => exact ⟨j + 1, _, by omega, by go_num, HN.out, HB2.out⟩
      · rw [decide_eq_false hq] at he
        have HN : Hid (fsts L = ((fsts db).take (j + 1)).map (bq u) ++ (fsts db).drop (j + 1)) := by
          show _ = _
          rw [← hm1]
          have : bq u x.1 = x.1 := by unfold bq; rw [if_neg hq]
          rw [this, set_same hm2]
        clear hq hm1 hm2 haj hL hx
        obtain ⟨⟨⟨xk, xn, xs⟩, xm, xa⟩, xv⟩ := x
        simp only at q0 q1 q2 he
        go_wp2
        go_roundg g
        case measure => omega
        case rel => exact ⟨j + 1, L, by omega, by go_num, HN.out, HB.out⟩
    | zero =>
      have hz : ¬ ((j : Int) < (d5 : Int)) := by have := HD5.out; omega
      have hLf : fsts L = (fsts db).map (bq u) := by
        rw [hL, List.take_of_length_le (by simp [fsts]; omega), List.drop_eq_nil_of_le (by simp [fsts]; omega), List.append_nil]
      have HLF : Hid (fsts L = (fsts db).map (bq u)) := hLf
      have HLN : Hid (L.length = db.length) := by show L.length = db.length; have := congrArg List.length hLf; simpa [fsts] using this
      obtain ⟨r0, r1, r2, r3, r4, r5, r6⟩ := cseven HB.out.br
      have f0 : wr.frozen? ⟨w.heap.size + 1, 0, none⟩ = false := HB.out.br.froz
      have f1 : wr.frozen? ⟨w.heap.size + 1, 1, none⟩ = false := HB.out.br.froz
      have f2 : wr.frozen? ⟨w.heap.size + 1, 2, none⟩ = false := HB.out.br.froz
      have f3 : wr.frozen? ⟨w.heap.size + 1, 3, none⟩ = false := HB.out.br.froz
      have f4 : wr.frozen? ⟨w.heap.size + 1, 4, none⟩ = false := HB.out.br.froz
      have f5 : wr.frozen? ⟨w.heap.size + 1, 5, none⟩ = false := HB.out.br.froz
      have f6 : wr.frozen? ⟨w.heap.size + 1, 6, none⟩ = false := HB.out.br.froz
      have n3 : w.heap.size + 1 < w.heap.size + 1 + 1 := by omega
      have n4 : w.heap.size ≤ w.heap.size + 1 := by omega
      clear hLf hL
      go_wp2
      refine bodyPost_ret (v := Cm.v ⟨(⟨⟨dk, dn, ds⟩, dm, da⟩, .slice d1 d2 d3), L, .slice d4 d5 d6, dt, .slice d7 d8 d9⟩) (by simp [results, Try.results10, go_sem, r0, r1, r2, r3, r4, r5, r6]) rfl ⟨⟨(⟨⟨dk, dn, ds⟩, dm, da⟩, .slice d1 d2 d3), L, .slice d4 d5 d6, dt, .slice d7 d8 d9⟩, rfl, ?_, ?_, ?_⟩
      · have hk := HDK.out
        rw [← hk]
        unfold Cm.key barK
        simp only
        rw [HLF.out]
      · refine (((((((HB.out.mc.set n3 _).set n3 _).set n3 _).set n3 _).set n3 _).set n3 _).set n3 _).ok (by show da.length < _; have := hln.1; omega) (by show L.length < _; have := HLN.out; omega) (fun y hy => ?_) (by show dt.length < _; have := hln.2.2.1; omega)
        have hy1 : y.1 ∈ (fsts db).map (bq u) := by rw [← HLF.out]; exact List.mem_map.2 ⟨y, hy, rfl⟩
        obtain ⟨b, hb, e⟩ := List.mem_map.1 hy1
        obtain ⟨z, hz, rfl⟩ := List.mem_map.1 hb
        have := hln.2.2.2 z hz
        have e2 : y.1.args = z.1.args := by rw [← e]; unfold bq; split <;> rfl
        rw [e2]; omega
      · exact ((((((HB.out.bw.setCell n4 _).setCell n4 _).setCell n4 _).setCell n4 _).setCell n4 _).setCell n4 _).setCell n4 _
end Go.Proofs.Ytaiblofbdfbjcab

import Derived.Test.YtdfgijdededolaaMP1
import Derived.Test.YtdfgijdededolaaCL29
import Derived.Test.YtdfgijdededolaaCL20
/-
  Numbers of variables; constants for variables. (Plain.)
-/
namespace Go.Proofs.Ytdfgijdededolaa
open Go.RowKit

/-- The numbers below n. -/
def ints (n : Nat) : List Int := (List.range n).map fun i : Nat => (i : Int)
theorem mem_ints {n : Nat} {v : Int} : v ∈ ints n ↔ 0 ≤ v ∧ v < n := by
  simp only [ints, List.mem_map, List.mem_range]
  exact ⟨fun ⟨i, h, e⟩ => by omega, fun ⟨h1, h2⟩ => ⟨v.toNat, by omega, by omega⟩⟩
theorem ints_succ (n : Nat) : ints (n + 1) = ints n ++ [(n : Int)] := by simp [ints, List.range_succ]
theorem ints_len (n : Nat) : (ints n).length = n := by simp [ints]
theorem mis_ints : ∀ (l : List Int) (n : Nat), (∀ v ∈ l, 0 ≤ v) → mis n l = false → ∃ m, n ≤ m ∧ l.foldl dstep (ints n) = ints m ∧ ∀ v ∈ l, v < m
  | [], n, _, _ => ⟨n, Nat.le_refl _, rfl, fun v hv => by cases hv⟩
  | v :: l, n, h0, h => by
    rw [mis] at h
    by_cases h1 : (n : Int) < v
    · rw [if_pos h1] at h; cases h
    · rw [if_neg h1] at h
      have hv := h0 v (by simp)
      rw [List.foldl_cons]
      by_cases h2 : v = n
      · rw [if_pos h2] at h
        have e : dstep (ints n) v = ints (n + 1) := by
          unfold dstep; rw [if_neg (by rw [mem_ints]; omega), ints_succ, h2]
        obtain ⟨m, k1, k2, k3⟩ := mis_ints l (n + 1) (fun u hu => h0 u (by simp [hu])) (by exact_mod_cast h)
        rw [e]
        refine ⟨m, by omega, k2, fun u hu => ?_⟩
        rcases List.mem_cons.1 hu with rfl | hu
        · omega
        · exact k3 u hu
      · rw [if_neg h2] at h
        have e : dstep (ints n) v = ints n := by
          unfold dstep; rw [if_pos (by rw [mem_ints]; omega)]
        obtain ⟨m, k1, k2, k3⟩ := mis_ints l n (fun u hu => h0 u (by simp [hu])) h
        rw [e]
        refine ⟨m, k1, k2, fun u hu => ?_⟩
        rcases List.mem_cons.1 hu with rfl | hu
        · omega
        · exact k3 u hu
theorem fold_filter (p : Int → Bool) : ∀ (l acc : List Int), (l.filter p).foldl dstep (acc.filter p) = (l.foldl dstep acc).filter p
  | [], _ => rfl
  | v :: l, acc => by
    rw [List.foldl_cons, ← fold_filter p l]
    cases hp : p v
    · rw [List.filter_cons_of_neg (by simp [hp])]
      congr 1
      unfold dstep
      split
      · rfl
      · rw [List.filter_append]; simp [hp]
    · rw [List.filter_cons_of_pos hp, List.foldl_cons]
      congr 1
      unfold dstep
      by_cases h : v ∈ acc
      · rw [if_pos h, if_pos (List.mem_filter.2 ⟨h, hp⟩)]
      · rw [if_neg h, if_neg (fun e => h (List.mem_filter.1 e).1), List.filter_append]; simp [hp]
theorem ints_from (few : Nat) : ∀ m : Nat, ((ints m).filter fun v => decide ((few : Int) ≤ v)).length = m - few
  | 0 => by simp [ints]
  | m + 1 => by
    rw [ints_succ, List.filter_append, List.length_append, ints_from few m]
    by_cases h : few ≤ m
    · rw [List.filter_cons_of_pos (by simp; omega)]; simp; omega
    · rw [List.filter_cons_of_neg (by simp; omega)]; simp; omega
theorem ints_sub : ∀ {m : Nat} {L : List Int}, (∀ v ∈ ints m, v ∈ L) → m ≤ L.length
  | 0, _, _ => Nat.zero_le _
  | m + 1, L, h => by
    have hm : (m : Int) ∈ L := h _ (by rw [mem_ints]; omega)
    have := ints_sub (m := m) (L := L.erase (m : Int)) fun v hv => by
      have h2 := mem_ints.1 hv
      exact (List.mem_erase_of_ne (by omega)).2 (h v (by rw [mem_ints]; omega))
    rw [List.length_erase_of_mem hm] at this
    have := List.length_pos_of_mem hm
    omega
/-- So many constants out of any terms. -/
def cst (l : List Tm) (i : Nat) : Tm := match l[i]? with | some t => mkC t | none => ⟨1, (i : Int), ⟨#[]⟩⟩
def csts (l : List Tm) (n : Nat) : List Tm := (List.range n).map (cst l)
theorem cst_con (l : List Tm) (i : Nat) : (cst l i).con = true := by
  unfold cst; split
  · exact mkC_con _
  · simp [Tm.con]
theorem csts_len (l : List Tm) (n : Nat) : (csts l n).length = n := by simp [csts]
theorem csts_get (l : List Tm) {n i : Nat} (h : i < n) : (csts l n)[i]? = some (cst l i) := by simp [csts, h]
theorem csts_none (l : List Tm) {n i : Nat} (h : n ≤ i) : (csts l n)[i]? = none := by simp [csts, h]
theorem csts_succ (l : List Tm) (n : Nat) : csts l (n + 1) = csts l n ++ [cst l n] := by simp [csts, List.range_succ]
theorem var_nn {t : Tm} (h : t.var = true) : 0 ≤ t.n := by simp only [Tm.var, decide_eq_true_eq] at h; exact h.2.1
theorem ins_in {l : List Tm} {n : Nat} {t : Tm} (h : t.var = true) (hn : t.n < n) : ins (csts l n) t = cst l t.n.toNat := by
  unfold ins; rw [if_pos h, csts_get l (by have := var_nn h; omega)]; rfl
theorem ins_out {l : List Tm} {n : Nat} {t : Tm} (h : t.var = true) (hn : (n : Int) ≤ t.n) : ins (csts l n) t = t := by
  unfold ins; rw [if_pos h, csts_none l (by omega)]; rfl
theorem ins_non {vs : List Tm} {t : Tm} (h : t.var = false) : ins vs t = t := by unfold ins; rw [if_neg (by rw [h]; simp)]
/-- A valid clause's variables: those below their number. -/
theorem num_vars {x : Ck} (hm : mis 0 (vrs (Ck.terms x)) = false) : ∃ m, dis (vrs (Ck.terms x)) = ints m ∧ ∀ t ∈ Ck.terms x, t.var = true → t.n < m := by
  obtain ⟨m, -, h2, h3⟩ := mis_ints (vrs (Ck.terms x)) 0 (fun v hv => by
    obtain ⟨t, ht, rfl⟩ := List.mem_map.1 hv
    exact var_nn (List.mem_filter.1 ht).2) hm
  exact ⟨m, h2, fun t ht hv => h3 _ (List.mem_map.2 ⟨t, List.mem_filter.2 ⟨ht, hv⟩, rfl⟩)⟩
theorem dis_mem {l : List Int} {v : Int} : v ∈ dis l ↔ v ∈ l := by
  unfold dis
  have : ∀ (l acc : List Int), v ∈ l.foldl dstep acc ↔ v ∈ acc ∨ v ∈ l := by
    intro l
    induction l with
    | nil => intro acc; simp
    | cons a l ih =>
      intro acc
      rw [List.foldl_cons, ih, List.mem_cons, dstep]
      by_cases h : a ∈ acc
      · rw [if_pos h]
        exact ⟨fun e => e.elim Or.inl fun e => Or.inr (Or.inr e), fun e => e.elim Or.inl fun e => e.elim (fun e => Or.inl (e ▸ h)) Or.inr⟩
      · rw [if_neg h, List.mem_append, List.mem_singleton, or_assoc]
  rw [this]; simp
theorem body_len {x : Ck} (h : Val0 x) : (x.2.1.flatMap At.pl).length ≤ 72 := by
  have hl := h.bl
  have he : ∀ a ∈ x.2.1, a.pl.length ≤ 9 := fun a ha => by
    have := (err_zero' (h.e a (by simp [ha]))).2.1
    simp [At.pl]; omega
  have : ∀ l : List At, (∀ a ∈ l, a.pl.length ≤ 9) → (l.flatMap At.pl).length ≤ l.length * 9 := by
    intro l
    induction l with
    | nil => intro _; simp
    | cons a l ih =>
      intro h
      rw [List.flatMap_cons, List.length_append, List.length_cons]
      have h1 := h a (by simp)
      have h2 := ih fun b hb => h b (by simp [hb])
      omega
  have := this _ he
  omega
theorem num_le {x : Ck} (h : Val0 x) {m : Nat} (hd : dis (vrs (Ck.terms x)) = ints m) : m ≤ 72 := by
  have h2 := body_len h
  have : m ≤ (vrs (x.2.1.flatMap At.pl)).length := ints_sub fun v hv => by
    rw [← hd, dis_mem] at hv
    obtain ⟨t, ht, rfl⟩ := List.mem_map.1 hv
    obtain ⟨ht, hvt⟩ := List.mem_filter.1 ht
    refine List.mem_map.2 ⟨t, List.mem_filter.2 ⟨?_, hvt⟩, rfl⟩
    unfold Ck.terms at ht
    rcases List.mem_append.1 ht with ht | ht
    · exact h.s t (by simp [ht]) hvt
    · rcases List.mem_append.1 ht with ht | ht
      · exact ht
      · exact h.s t (by simp [ht]) hvt
  have h3 : (vrs (x.2.1.flatMap At.pl)).length ≤ (x.2.1.flatMap At.pl).length := by
    unfold vrs; rw [List.length_map]; exact List.length_filter_le _ _
  omega
/-- ClauseLeaves, plain. -/
theorem leaves_none {x : Ck} {m : Nat} (l : List Tm) (h : ∀ t ∈ Ck.terms x, t.var = true → t.n < m) : vrs (Ck.terms (mapC (ins (csts l m)) x)) = [] := by
  rw [mapC_terms, vrs, List.map_eq_nil_iff, List.filter_eq_nil_iff]
  intro u hu
  obtain ⟨t, ht, rfl⟩ := List.mem_map.1 hu
  cases hv : t.var
  · rw [ins_non hv, hv]; simp
  · rw [ins_in hv (h t ht hv), con_novar (cst_con _ _)]; simp
theorem leaves_some {x : Ck} {m few : Nat} (l : List Tm) (hd : dis (vrs (Ck.terms x)) = ints m) : (dis (vrs (Ck.terms (mapC (ins (csts l few)) x)))).length = m - few := by
  have e : vrs (Ck.terms (mapC (ins (csts l few)) x)) = (vrs (Ck.terms x)).filter fun v => decide ((few : Int) ≤ v) := by
    rw [mapC_terms]
    generalize Ck.terms x = L
    induction L with
    | nil => rfl
    | cons t L ih =>
      unfold vrs at ih ⊢
      rw [List.map_cons]
      cases hv : t.var
      · rw [ins_non hv, List.filter_cons_of_neg (by simp [hv]), List.filter_cons_of_neg (by simp [hv])]; exact ih
      · by_cases hn : t.n < few
        · rw [ins_in hv hn, List.filter_cons_of_neg (by simp [con_novar (cst_con _ _)]), List.filter_cons_of_pos hv, List.map_cons, List.filter_cons_of_neg (by simp; omega)]; exact ih
        · rw [ins_out hv (by omega), List.filter_cons_of_pos hv, List.filter_cons_of_pos hv, List.map_cons, List.map_cons, List.filter_cons_of_pos (by simp; omega), ih]
  rw [e]
  have := fold_filter (fun v => decide ((few : Int) ≤ v)) (vrs (Ck.terms x)) []
  rw [List.filter_nil] at this
  unfold dis at hd ⊢
  rw [this, hd, ints_from]
theorem leaves_twice {x : Ck} {m few : Nat} (l : List Tm) (hf : few ≤ m) : mapC (ins (csts l m)) (mapC (ins (csts l few)) x) = mapC (ins (csts l m)) x := by
  rw [mapC_comp]
  refine mapC_congr fun t ht => ?_
  cases hv : t.var
  · rw [ins_non (vs := csts l few) hv]
  · by_cases hn : t.n < few
    · rw [ins_in (n := few) hv hn, ins_non (con_novar (cst_con _ _)), ins_in hv (by omega)]
    · rw [ins_out (n := few) hv (by omega)]
theorem leaves_same {x : Ck} (l : List Tm) (h : ∀ t ∈ Ck.terms x, t.var = true → t.n < ((0 : Nat) : Int)) : mapC (ins (csts l 0)) x = x := by
  refine (mapC_congr (g := fun t => t) fun t ht => ?_).trans (mapC_id x)
  refine ins_non ?_
  cases hv : t.var
  · rfl
  · have := h t ht hv; have := var_nn hv; omega
theorem insA_map (vs : List Tm) : insA vs = mapA (ins vs) := rfl
theorem insE_map (vs : List Tm) : insE vs = mapE (ins vs) := rfl
end Go.Proofs.Ytdfgijdededolaa
/-
  What Made makes of a valid clause is that clause; quotes and what has one quote. (Plain.)
-/
namespace Go.Proofs.Ytdfgijdededolaa
open Go.RowKit

/-- A valid clause stays as Made makes it. -/
theorem con_k {t : Tm} (h : t.con = true) : t.k ≠ 3 := by
  simp only [Tm.con, decide_eq_true_eq] at h
  rcases h with ⟨h, -⟩ | ⟨h, -⟩ <;> omega
theorem fixT_id {t : Tm} (h : t.cov = true) : fixT t = t := by
  unfold fixT
  cases hv : t.var
  · rw [if_neg (by simp)]
    have hc : t.con = true := by simp only [Tm.cov, hv, Bool.or_false] at h; exact h
    unfold mkC; rw [if_pos hc]
  · rw [if_pos rfl]
theorem mkA_id {a : At} (h : a.err = 0) : mkA a = a := by
  obtain ⟨h1, h2, h3, h4⟩ := err_zero' h
  unfold mkA
  rw [if_pos h3, if_pos h1, List.take_of_length_le h2]
  have : a.args.map fixT = a.args := by
    conv => rhs; rw [← List.map_id a.args]
    exact List.map_congr_left fun t ht => fixT_id (h4 t ht)
  rw [this]
theorem sf_id {b : List Tm} {t : Tm} (h : t.cov = true) (hs : t.var = true → t ∈ b) : sf b t = t := by
  unfold sf
  by_cases hm : t ∈ b
  · rw [if_pos hm]
  · rw [if_neg hm]
    cases hv : t.var
    · have hc : t.con = true := by simp only [Tm.cov, hv, Bool.or_false] at h; exact h
      unfold grd; rw [if_neg (con_k hc)]
    · exact absurd (hs hv) hm
theorem opF_id {o : Int} (h1 : 1 ≤ o) (h2 : o ≤ 4) : opF o = o := by unfold opF; rw [if_neg (by omega)]
theorem mkE_id {b : List Tm} {t : Te} (h : t.ok = true) (hs : ∀ u, u = t.l ∨ u = t.r → u.var = true → u ∈ b) : mkE b t = t := by
  simp only [Te.ok, Bool.and_eq_true, decide_eq_true_eq] at h
  obtain ⟨⟨h1, h2⟩, h3, h4⟩ := h
  unfold mkE
  rw [opF_id h1 h2, fixT_id h3, fixT_id h4, sf_id h3 (hs _ (Or.inl rfl)), sf_id h4 (hs _ (Or.inr rfl))]
theorem qual_k {t : Tm} (h : qualOk t = true) (hv : t.var = false) : t.k ≠ 3 := by
  simp only [qualOk, hv, Bool.or_false, Bool.or_eq_true, decide_eq_true_eq, Tm.prin] at h
  rcases h with h | h
  · rw [h]; simp [zt]
  · omega
theorem made0_id {x : Ck} (h : Val0 x) : made0 x = x := by
  obtain ⟨hd, b, ts⟩ := x
  have hb : (b.take 8).map mkA = b := by
    rw [List.take_of_length_le h.bl]
    conv => rhs; rw [← List.map_id b]
    exact List.map_congr_left fun a ha => mkA_id (h.e a (by simp [ha]))
  have hh : mkA hd = hd := mkA_id (h.e hd (by simp))
  have hq := (err_zero' (h.e hd (by simp))).2.2.1
  have hk : hd.by_.k ≠ 3 := qual_k hq h.h
  have hc := (err_zero' (h.e hd (by simp))).2.2.2
  have ha : hd.args.map (sf (b.flatMap At.pl)) = hd.args := by
    conv => rhs; rw [← List.map_id hd.args]
    exact List.map_congr_left fun t ht => sf_id (hc t ht) fun hv => h.s t (List.mem_append_left _ (List.mem_cons_of_mem _ ht)) hv
  have ht : (ts.take 8).map (mkE (b.flatMap At.pl)) = ts := by
    rw [List.take_of_length_le h.tl]
    conv => rhs; rw [← List.map_id ts]
    exact List.map_congr_left fun t htm => mkE_id (h.t t htm) fun u hu hv => h.s u (List.mem_append_right _ (List.mem_flatMap.2 ⟨t, htm, by simpa using hu⟩)) hv
  unfold made0
  simp only
  rw [hb, hh, if_neg hk, ha, ht]
theorem var_eqQ {t : Tm} (h : t.var = true) : t = ⟨3, t.n, ⟨#[]⟩⟩ := by
  simp only [Tm.var, decide_eq_true_eq] at h
  obtain ⟨k, n, s⟩ := t
  simp only at h
  obtain ⟨rfl, -, rfl⟩ := h
  rfl
theorem fold_n : ∀ (l acc : List Tm), (∀ t ∈ l, t.var = true) → (∀ t ∈ acc, t.var = true) → (l.foldl dstepT acc).map (·.n) = (l.map (·.n)).foldl dstep (acc.map (·.n))
  | [], acc, _, _ => rfl
  | t :: l, acc, h1, h2 => by
    rw [List.foldl_cons, List.map_cons, List.foldl_cons]
    have ht := h1 t (by simp)
    have hm : t.n ∈ acc.map (·.n) ↔ t ∈ acc := ⟨fun hm => by
      obtain ⟨u, hu, e⟩ := List.mem_map.1 hm
      rw [var_eqQ ht, ← e, ← var_eqQ (h2 u hu)]; exact hu, fun hm => List.mem_map.2 ⟨t, hm, rfl⟩⟩
    have e : (dstepT acc t).map (·.n) = dstep (acc.map (·.n)) t.n := by
      unfold dstepT dstep
      by_cases hc : t ∈ acc
      · rw [if_pos hc, if_pos (hm.2 hc)]
      · rw [if_neg hc, if_neg (fun x => hc (hm.1 x))]; simp
    rw [← e]
    refine fold_n l _ (fun u hu => h1 u (by simp [hu])) fun u hu => ?_
    rcases dstepT_mem.1 hu with hu | rfl
    · exact h2 u hu
    · exact ht
theorem disT_n (l : List Tm) : (disT l).map (·.n) = dis (vrs l) := by
  unfold disT dis vrs
  exact fold_n _ [] (fun t ht => (List.mem_filter.1 ht).2) (by simp)
theorem ix_nQ {vs : List Tm} {m : Nat} (h : vs.map (·.n) = ints m) {t : Tm} (ht : t ∈ vs) : (ix vs t : Int) = t.n := by
  have hg := ix_get ht
  have h2 := congrArg (fun l => l[ix vs t]?) h
  simp only [List.getElem?_map, hg, Option.map_some] at h2
  have hlt : ix vs t < m := by
    have h3 := ix_lt ht
    have := congrArg List.length h
    rw [List.length_map, ints_len] at this; omega
  simp [ints, hlt] at h2
  exact h2.symm
theorem norm_id {x : Ck} (hm : mis 0 (vrs (Ck.terms x)) = false) : normC x = x := by
  obtain ⟨m, hd, -⟩ := num_vars hm
  have hn := (disT_n (Ck.terms x)).trans hd
  refine (mapC_congr (g := fun t => t) fun t ht => ?_).trans (mapC_id x)
  unfold nmT
  by_cases hm : t ∈ disT (Ck.terms x)
  · rw [if_pos hm, ix_nQ hn hm]
    exact (var_eqQ (disT_mem.1 hm).2).symm
  · rw [if_neg hm]
theorem made_id {x : Ck} (h : Val0 x) (hm : mis 0 (vrs (Ck.terms x)) = false) : madeK x = x := by
  unfold madeK; rw [made0_id h, norm_id hm]
/-- The head without its qualifier: still valid. -/
def unq (x : Ck) : Ck := (⟨zt, x.1.name, x.1.args⟩, x.2)
theorem unq_vars {x : Ck} (h : Val0 x) : vrs (Ck.terms (unq x)) = vrs (Ck.terms x) := by
  have e : Ck.terms (unq x) = zt :: (x.1.args ++ (x.2.1.flatMap At.pl ++ tls x.2.2)) := rfl
  have e2 : Ck.terms x = x.1.by_ :: (x.1.args ++ (x.2.1.flatMap At.pl ++ tls x.2.2)) := rfl
  have z : zt.var = false := by simp [Tm.var, zt]
  rw [e, e2]
  unfold vrs
  rw [List.filter_cons_of_neg (by rw [z]; simp), List.filter_cons_of_neg (by rw [h.h]; simp)]
theorem unq_val {x : Ck} (h : Val0 x) : Val0 (unq x) := by
  have z : zt.var = false := by simp [Tm.var, zt]
  refine ⟨fun a ha => ?_, h.t, h.bl, h.tl, z, fun t ht hv => ?_⟩
  · rcases List.mem_cons.1 ha with rfl | ha
    · obtain ⟨h1, h2, h3, h4⟩ := err_zero' (h.e x.1 (by simp))
      exact err_zero h1 h2 qual_zt h4
    · exact h.e a (List.mem_cons_of_mem _ ha)
  · rcases List.mem_append.1 ht with h1 | h1
    · rcases List.mem_cons.1 h1 with rfl | h1
      · rw [show ((unq x).1.by_).var = false from z] at hv; cases hv
      · exact h.s t (List.mem_append_left _ (List.mem_cons_of_mem _ h1)) hv
    · exact h.s t (List.mem_append_right _ h1) hv
/-- An atom without u as its qualifier; two atoms have one quote just if they are one without it. -/
def bq (u : ByteArray) (a : At) : At := if a.by_ = ⟨2, 0, u⟩ then ⟨zt, a.name, a.args⟩ else a
theorem zt_ne (u : ByteArray) : zt ≠ ⟨2, 0, u⟩ := by simp [zt]
theorem qa_bq {u : ByteArray} {a b : At} : qa u a = qa u b ↔ bq u a = bq u b := by
  have hz := zt_ne u
  unfold qa bq
  obtain ⟨x, n, l⟩ := a
  obtain ⟨y, n', l'⟩ := b
  simp only
  by_cases h1 : x = zt
  · rw [if_pos h1, if_neg (show ¬ x = ⟨2, 0, u⟩ by rw [h1]; exact hz)]
    by_cases h2 : y = zt
    · rw [if_pos h2, if_neg (show ¬ y = ⟨2, 0, u⟩ by rw [h2]; exact hz)]; simp [h1, h2]
    · rw [if_neg h2]
      by_cases h3 : y = ⟨2, 0, u⟩
      · rw [if_pos h3]; simp [h1, h3]
      · rw [if_neg h3]
        simp only [At.mk.injEq]
        exact ⟨fun e => absurd e.1.symm h3, fun e => absurd (e.1.symm.trans h1) h2⟩
  · rw [if_neg h1]
    by_cases h2 : y = zt
    · rw [if_pos h2, if_neg (show ¬ y = ⟨2, 0, u⟩ by rw [h2]; exact hz)]
      by_cases h3 : x = ⟨2, 0, u⟩
      · rw [if_pos h3]; simp [h2, h3]
      · rw [if_neg h3]
        simp only [At.mk.injEq]
        exact ⟨fun e => absurd e.1 h3, fun e => absurd (e.1.trans h2) h1⟩
    · rw [if_neg h2]
      by_cases h3 : x = ⟨2, 0, u⟩
      · rw [if_pos h3]
        by_cases h4 : y = ⟨2, 0, u⟩
        · rw [if_pos h4]; simp [h3, h4]
        · rw [if_neg h4]
          simp only [At.mk.injEq]
          exact ⟨fun e => absurd (e.1.symm.trans h3) h4, fun e => absurd e.1.symm h2⟩
      · rw [if_neg h3]
        by_cases h4 : y = ⟨2, 0, u⟩
        · rw [if_pos h4]
          simp only [At.mk.injEq]
          exact ⟨fun e => absurd (e.1.trans h4) h3, fun e => absurd e.1 h1⟩
        · rw [if_neg h4]
theorem map_inj_iff {α β γ : Type} {f : α → β} {g : α → γ} (h : ∀ a b, f a = f b ↔ g a = g b) : ∀ (l m : List α), l.map f = m.map f ↔ l.map g = m.map g
  | [], [] => by simp
  | [], _ :: _ => by simp
  | _ :: _, [] => by simp
  | a :: l, b :: m => by simp only [List.map_cons, List.cons.injEq]; rw [h a b, map_inj_iff h l m]
/-- The quote's key, and the key without u. -/
def quoK (u : ByteArray) (x : Ck) : Ck := (⟨⟨2, 0, u⟩, x.1.name, x.1.args⟩, x.2.1.map (qa u), x.2.2)
def barK (u : ByteArray) (x : Ck) : Ck := (x.1, x.2.1.map (bq u), x.2.2)
theorem one_quote {u : ByteArray} {x y : Ck} (hx : x.1.by_ = zt) (hy : y.1.by_ = zt) : quoK u x = quoK u y ↔ barK u x = barK u y := by
  obtain ⟨⟨b, n, l⟩, lb, lt⟩ := x
  obtain ⟨⟨b', n', l'⟩, lb', lt'⟩ := y
  simp only at hx hy
  subst hx hy
  simp only [quoK, barK, Prod.mk.injEq, At.mk.injEq]
  rw [map_inj_iff (fun a b => qa_bq (u := u) (a := a) (b := b)) lb lb']
theorem two_quotes {u v : ByteArray} {x : Ck} : quoK u x = quoK v x ↔ u = v := by
  constructor
  · intro h
    simp only [quoK, Prod.mk.injEq, At.mk.injEq, Tm.mk.injEq] at h
    exact h.1.1.2.2
  · rintro rfl; rfl
end Go.Proofs.Ytdfgijdededolaa

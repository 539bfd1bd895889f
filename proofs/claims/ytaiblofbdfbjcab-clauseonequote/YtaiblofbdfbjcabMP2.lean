/-
  Numbers of variables; constants for variables. (Plain.)
-/
import Derived.Test.YtaiblofbdfbjcabMD1
import Derived.Test.YtaiblofbdfbjcabCL29
namespace Go.Proofs.Ytaiblofbdfbjcab
open Go.RowKit

/-- The numbers below n. -/
def ints (n : Nat) : List Int := (List.range n).map fun i : Nat => (i : Int)
theorem mem_ints {n : Nat} {v : Int} : v ∈ ints n ↔ 0 ≤ v ∧ v < n := by
  simp only [ints, List.mem_map, List.mem_range]
  exact ⟨fun ⟨i, h, e⟩ => by omega, fun ⟨h1, h2⟩ => ⟨v.toNat, by omega, by omega⟩⟩
theorem ints_succ (n : Nat) : ints (n + 1) = ints n ++ [(n : Int)] := by simp [ints, List.range_succ]
theorem ints_len (n : Nat) : (ints n).length = n := by simp [ints]
theorem mis_ints : ∀ (l : List Int) (n : Nat), (∀ v ∈ l, 0 ≤ v) → mis n l = false → ∃ m, n ≤ m ∧ l.foldl dstep (ints n) = ints m ∧ ∀ v ∈ l, v < m
  | [], n, _, _ => ⟨n, Nat.le_refl _, rfl, fun v hv => by cases hv⟩
  | v :: l, n, h0, h => by
    rw [mis] at h
    by_cases h1 : (n : Int) < v
    · rw [if_pos h1] at h; cases h
    · rw [if_neg h1] at h
      have hv := h0 v (by simp)
      rw [List.foldl_cons]
      by_cases h2 : v = n
      · rw [if_pos h2] at h
        have e : dstep (ints n) v = ints (n + 1) := by
          unfold dstep; rw [if_neg (by rw [mem_ints]; omega), ints_succ, h2]
        obtain ⟨m, k1, k2, k3⟩ := mis_ints l (n + 1) (fun u hu => h0 u (by simp [hu])) (by exact_mod_cast h)
        rw [e]
        refine ⟨m, by omega, k2, fun u hu => ?_⟩
        rcases List.mem_cons.1 hu with rfl | hu
        · omega
        · exact k3 u hu
      · rw [if_neg h2] at h
        have e : dstep (ints n) v = ints n := by
          unfold dstep; rw [if_pos (by rw [mem_ints]; omega)]
        obtain ⟨m, k1, k2, k3⟩ := mis_ints l n (fun u hu => h0 u (by simp [hu])) h
        rw [e]
        refine ⟨m, k1, k2, fun u hu => ?_⟩
        rcases List.mem_cons.1 hu with rfl | hu
        · omega
        · exact k3 u hu
theorem fold_filter (p : Int → Bool) : ∀ (l acc : List Int), (l.filter p).foldl dstep (acc.filter p) = (l.foldl dstep acc).filter p
  | [], _ => rfl
  | v :: l, acc => by
    rw [List.foldl_cons, ← fold_filter p l]
    cases hp : p v
    · rw [List.filter_cons_of_neg (by simp [hp])]
      congr 1
      unfold dstep
      split
      · rfl
      · rw [List.filter_append]; simp [hp]
    · rw [List.filter_cons_of_pos hp, List.foldl_cons]
      congr 1
      unfold dstep
      by_cases h : v ∈ acc
      · rw [if_pos h, if_pos (List.mem_filter.2 ⟨h, hp⟩)]
      · rw [if_neg h, if_neg (fun e => h (List.mem_filter.1 e).1), List.filter_append]; simp [hp]
theorem ints_from (few : Nat) : ∀ m : Nat, ((ints m).filter fun v => decide ((few : Int) ≤ v)).length = m - few
  | 0 => by simp [ints]
  | m + 1 => by
    rw [ints_succ, List.filter_append, List.length_append, ints_from few m]
    by_cases h : few ≤ m
    · rw [List.filter_cons_of_pos (by simp; omega)]; simp; omega
    · rw [List.filter_cons_of_neg (by simp; omega)]; simp; omega
theorem ints_sub : ∀ {m : Nat} {L : List Int}, (∀ v ∈ ints m, v ∈ L) → m ≤ L.length
  | 0, _, _ => Nat.zero_le _
  | m + 1, L, h => by
    have hm : (m : Int) ∈ L := h _ (by rw [mem_ints]; omega)
    have := ints_sub (m := m) (L := L.erase (m : Int)) fun v hv => by
      have h2 := mem_ints.1 hv
      exact (List.mem_erase_of_ne (by omega)).2 (h v (by rw [mem_ints]; omega))
    rw [List.length_erase_of_mem hm] at this
    have := List.length_pos_of_mem hm
    omega
/-- So many constants out of any terms. -/
def cst (l : List Tm) (i : Nat) : Tm := match l[i]? with | some t => mkC t | none => ⟨1, (i : Int), ⟨#[]⟩⟩
def csts (l : List Tm) (n : Nat) : List Tm := (List.range n).map (cst l)
theorem cst_con (l : List Tm) (i : Nat) : (cst l i).con = true := by
  unfold cst; split
  · exact mkC_con _
  · simp [Tm.con]
theorem csts_len (l : List Tm) (n : Nat) : (csts l n).length = n := by simp [csts]
theorem csts_get (l : List Tm) {n i : Nat} (h : i < n) : (csts l n)[i]? = some (cst l i) := by simp [csts, h]
theorem csts_none (l : List Tm) {n i : Nat} (h : n ≤ i) : (csts l n)[i]? = none := by simp [csts, h]
theorem csts_succ (l : List Tm) (n : Nat) : csts l (n + 1) = csts l n ++ [cst l n] := by simp [csts, List.range_succ]
theorem var_nn {t : Tm} (h : t.var = true) : 0 ≤ t.n := by simp only [Tm.var, decide_eq_true_eq] at h; exact h.2.1
theorem ins_in {l : List Tm} {n : Nat} {t : Tm} (h : t.var = true) (hn : t.n < n) : ins (csts l n) t = cst l t.n.toNat := by
  unfold ins; rw [if_pos h, csts_get l (by have := var_nn h; omega)]; rfl
theorem ins_out {l : List Tm} {n : Nat} {t : Tm} (h : t.var = true) (hn : (n : Int) ≤ t.n) : ins (csts l n) t = t := by
  unfold ins; rw [if_pos h, csts_none l (by omega)]; rfl
theorem ins_non {vs : List Tm} {t : Tm} (h : t.var = false) : ins vs t = t := by unfold ins; rw [if_neg (by rw [h]; simp)]
/-- A valid clause's variables: those below their number. -/
theorem num_vars {x : Ck} (hm : mis 0 (vrs (Ck.terms x)) = false) : ∃ m, dis (vrs (Ck.terms x)) = ints m ∧ ∀ t ∈ Ck.terms x, t.var = true → t.n < m := by
  obtain ⟨m, -, h2, h3⟩ := mis_ints (vrs (Ck.terms x)) 0 (fun v hv => by
    obtain ⟨t, ht, rfl⟩ := List.mem_map.1 hv
    exact var_nn (List.mem_filter.1 ht).2) hm
  exact ⟨m, h2, fun t ht hv => h3 _ (List.mem_map.2 ⟨t, List.mem_filter.2 ⟨ht, hv⟩, rfl⟩)⟩
theorem dis_mem {l : List Int} {v : Int} : v ∈ dis l ↔ v ∈ l := by
  unfold dis
  have : ∀ (l acc : List Int), v ∈ l.foldl dstep acc ↔ v ∈ acc ∨ v ∈ l := by
    intro l
    induction l with
    | nil => intro acc; simp
    | cons a l ih =>
      intro acc
      rw [List.foldl_cons, ih, List.mem_cons, dstep]
      by_cases h : a ∈ acc
      · rw [if_pos h]
        exact ⟨fun e => e.elim Or.inl fun e => Or.inr (Or.inr e), fun e => e.elim Or.inl fun e => e.elim (fun e => Or.inl (e ▸ h)) Or.inr⟩
      · rw [if_neg h, List.mem_append, List.mem_singleton, or_assoc]
  rw [this]; simp
theorem body_len {x : Ck} (h : Val0 x) : (x.2.1.flatMap At.pl).length ≤ 72 := by
  have hl := h.bl
  have he : ∀ a ∈ x.2.1, a.pl.length ≤ 9 := fun a ha => by
    have := (err_zero' (h.e a (by simp [ha]))).2.1
    simp [At.pl]; omega
  have : ∀ l : List At, (∀ a ∈ l, a.pl.length ≤ 9) → (l.flatMap At.pl).length ≤ l.length * 9 := by
    intro l
    induction l with
    | nil => intro _; simp
    | cons a l ih =>
      intro h
      rw [List.flatMap_cons, List.length_append, List.length_cons]
      have h1 := h a (by simp)
      have h2 := ih fun b hb => h b (by simp [hb])
      omega
  have := this _ he
  omega
theorem num_le {x : Ck} (h : Val0 x) {m : Nat} (hd : dis (vrs (Ck.terms x)) = ints m) : m ≤ 72 := by
  have h2 := body_len h
  have : m ≤ (vrs (x.2.1.flatMap At.pl)).length := ints_sub fun v hv => by
    rw [← hd, dis_mem] at hv
    obtain ⟨t, ht, rfl⟩ := List.mem_map.1 hv
    obtain ⟨ht, hvt⟩ := List.mem_filter.1 ht
    refine List.mem_map.2 ⟨t, List.mem_filter.2 ⟨?_, hvt⟩, rfl⟩
    unfold Ck.terms at ht
    rcases List.mem_append.1 ht with ht | ht
    · exact h.s t (by simp [ht]) hvt
    · rcases List.mem_append.1 ht with ht | ht
      · exact ht
      · exact h.s t (by simp [ht]) hvt
  have h3 : (vrs (x.2.1.flatMap At.pl)).length ≤ (x.2.1.flatMap At.pl).length := by
    unfold vrs; rw [List.length_map]; exact List.length_filter_le _ _
  omega
/-- ClauseLeaves, plain. -/
theorem leaves_none {x : Ck} {m : Nat} (l : List Tm) (h : ∀ t ∈ Ck.terms x, t.var = true → t.n < m) : vrs (Ck.terms (mapC (ins (csts l m)) x)) = [] := by
  rw [mapC_terms, vrs, List.map_eq_nil_iff, List.filter_eq_nil_iff]
  intro u hu
  obtain ⟨t, ht, rfl⟩ := List.mem_map.1 hu
  cases hv : t.var
  · rw [ins_non hv, hv]; simp
  · rw [ins_in hv (h t ht hv), con_novar (cst_con _ _)]; simp
theorem leaves_some {x : Ck} {m few : Nat} (l : List Tm) (hd : dis (vrs (Ck.terms x)) = ints m) : (dis (vrs (Ck.terms (mapC (ins (csts l few)) x)))).length = m - few := by
  have e : vrs (Ck.terms (mapC (ins (csts l few)) x)) = (vrs (Ck.terms x)).filter fun v => decide ((few : Int) ≤ v) := by
    rw [mapC_terms]
    generalize Ck.terms x = L
    induction L with
    | nil => rfl
    | cons t L ih =>
      unfold vrs at ih ⊢
      rw [List.map_cons]
      cases hv : t.var
      · rw [ins_non hv, List.filter_cons_of_neg (by simp [hv]), List.filter_cons_of_neg (by simp [hv])]; exact ih
      · by_cases hn : t.n < few
        · rw [ins_in hv hn, List.filter_cons_of_neg (by simp [con_novar (cst_con _ _)]), List.filter_cons_of_pos hv, List.map_cons, List.filter_cons_of_neg (by simp; omega)]; exact ih
        · rw [ins_out hv (by omega), List.filter_cons_of_pos hv, List.filter_cons_of_pos hv, List.map_cons, List.map_cons, List.filter_cons_of_pos (by simp; omega), ih]
  rw [e]
  have := fold_filter (fun v => decide ((few : Int) ≤ v)) (vrs (Ck.terms x)) []
  rw [List.filter_nil] at this
  unfold dis at hd ⊢
  rw [this, hd, ints_from]
theorem leaves_twice {x : Ck} {m few : Nat} (l : List Tm) (hf : few ≤ m) : mapC (ins (csts l m)) (mapC (ins (csts l few)) x) = mapC (ins (csts l m)) x := by
  rw [mapC_comp]
  refine mapC_congr fun t ht => ?_
  cases hv : t.var
  · rw [ins_non (vs := csts l few) hv]
  · by_cases hn : t.n < few
    · rw [ins_in (n := few) hv hn, ins_non (con_novar (cst_con _ _)), ins_in hv (by omega)]
    · rw [ins_out (n := few) hv (by omega)]
theorem leaves_same {x : Ck} (l : List Tm) (h : ∀ t ∈ Ck.terms x, t.var = true → t.n < ((0 : Nat) : Int)) : mapC (ins (csts l 0)) x = x := by
  refine (mapC_congr (g := fun t => t) fun t ht => ?_).trans (mapC_id x)
  refine ins_non ?_
  cases hv : t.var
  · rfl
  · have := h t ht hv; have := var_nn hv; omega
theorem insA_map (vs : List Tm) : insA vs = mapA (ins vs) := rfl
theorem insE_map (vs : List Tm) : insE vs = mapE (ins vs) := rfl
end Go.Proofs.Ytaiblofbdfbjcab

/-
  (*classes).best.
-/
import Derived.Test.YtnaiecemmhioeaaDoorU2
namespace Go.Proofs.YtnaiecemmhioeaaDoor
open Go.RowKit
attribute [local go_sem ↓] Go.wp_at_zero Go.wp_at_succ

/-- Ways up that lead to roots. -/
structure UF (n : Nat) (U : List Int) (rt dep : Nat → Nat) : Prop where
  len : U.length = n
  up : ∀ i, i < n → ∃ p : Nat, U[i]? = some (p : Int) ∧ p < n ∧ rt p = rt i ∧ (p = i → rt i = i) ∧ (¬ p = i → dep p < dep i)
  root : ∀ i, i < n → rt i < n ∧ U[rt i]? = some ((rt i : Nat) : Int)
  out : ∀ i, n ≤ i → rt i = i
theorem UF.idem {n : Nat} {U : List Int} {rt dep : Nat → Nat} (h : UF n U rt dep) (i : Nat) : rt (rt i) = rt i := by
  rcases Nat.lt_or_ge i n with hi | hi
  · obtain ⟨h1, h2⟩ := h.root i hi
    obtain ⟨p, hp, -, -, hr, -⟩ := h.up (rt i) h1
    rw [h2] at hp
    have : p = rt i := by have := Option.some.inj hp; omega
    exact hr this
  · rw [h.out i hi, h.out i hi]
theorem UF.push {n : Nat} {U : List Int} {rt dep : Nat → Nat} (h : UF n U rt dep) : UF (n + 1) (U ++ [(n : Int)]) rt dep := by
  have hn := h.out n (Nat.le_refl _)
  refine ⟨by simp [h.len], fun i hi => ?_, fun i hi => ?_, fun i hi => h.out i (by omega)⟩
  · rcases Nat.lt_or_ge i n with hh | hh
    · obtain ⟨p, h1, h2, h3, h4, h5⟩ := h.up i hh
      exact ⟨p, by rw [List.getElem?_append_left (by rw [h.len]; exact hh)]; exact h1, by omega, h3, h4, h5⟩
    · obtain rfl : i = n := by omega
      refine ⟨i, by rw [List.getElem?_append_right (by rw [h.len]; exact Nat.le_refl _), h.len]; simp, by omega, rfl, fun _ => hn, fun hne => absurd rfl hne⟩
  · rcases Nat.lt_or_ge i n with hh | hh
    · obtain ⟨h1, h2⟩ := h.root i hh
      exact ⟨by omega, by rw [List.getElem?_append_left (by rw [h.len]; exact h1)]; exact h2⟩
    · obtain rfl : i = n := by omega
      rw [hn]
      exact ⟨by omega, by rw [List.getElem?_append_right (by rw [h.len]; exact Nat.le_refl _), h.len]; simp⟩
theorem UF.halve {n : Nat} {U : List Int} {rt dep : Nat → Nat} (h : UF n U rt dep) {i p q : Nat} (hi : i < n) (hp : U[i]? = some (p : Int)) (hq : U[p]? = some (q : Int)) (hne : ¬ p = i) : UF n (U.set i (q : Int)) rt dep ∧ q < n ∧ rt q = rt i ∧ dep q < dep i := by
  obtain ⟨p', a1, a2, a3, a4, a5⟩ := h.up i hi
  obtain rfl : p' = p := by rw [hp] at a1; have := Option.some.inj a1; omega
  obtain ⟨q', b1, b2, b3, b4, b5⟩ := h.up p' a2
  obtain rfl : q' = q := by rw [hq] at b1; have := Option.some.inj b1; omega
  have hd : dep q' < dep i := by
    have h1 := a5 hne
    by_cases hh : q' = p'
    · rw [hh]; exact h1
    · have := b5 hh; omega
  refine ⟨⟨by simp [h.len], fun j hj => ?_, fun j hj => ?_, h.out⟩, b2, by rw [b3, a3], hd⟩
  · by_cases hji : j = i
    · subst hji
      exact ⟨q', by rw [List.getElem?_set_self (by rw [h.len]; exact hj)], b2, by rw [b3, a3], fun e => by rw [e] at hd; omega, fun _ => hd⟩
    · rw [List.getElem?_set_ne (fun e => hji e.symm)]
      exact h.up j hj
  · obtain ⟨h1, h2⟩ := h.root j hj
    refine ⟨h1, ?_⟩
    rw [List.getElem?_set_ne (fun e => ?_)]
    · exact h2
    · rw [← e, hp] at h2
      have : p' = i := by have := Option.some.inj h2; omega
      exact hne this
theorem own_setOther {w : World} {base G i : Nat} {e : TypeId} {sz n : Nat} {a v : Value} {xs : List Value} (h : w.ownsRow base e sz v n xs) (hG : v.ownBlock ≠ some G) : (w.setCell ⟨G, i, none⟩ a).ownsRow base e sz v n xs := by
  refine ⟨h.1, ?_⟩
  rcases h.2 with hn | ⟨g, cap, cur, hv, hbb, hg, rest⟩
  · exact Or.inl hn
  · refine Or.inr ⟨g, cap, cur, hv, hbb, ?_, rest⟩
    rw [heap_setCell_other _ _ _ _ (show g ≠ G from fun e => hG (by rw [hv, ← e]; rfl))]; exact hg
theorem ics_set (U : List Int) (j : Nat) (x : Int) : ics (U.set j x) = (ics U).set j (.int .i64 x) := by
  unfold ics; rw [List.map_set]
theorem CL.setU {w : World} {B C gu cap : Nat} {vt : Value} {T : List Tm} {U : List Int} {j : Nat} {x : Int} (h : CL w B C vt (.slice (some ⟨gu, 0, none⟩) U.length cap) T U) :
    CL (w.setCell ⟨gu, j, none⟩ (.int .i64 x)) B C vt (.slice (some ⟨gu, 0, none⟩) U.length cap) T (U.set j x) ∧ Stp w (w.setCell ⟨gu, j, none⟩ (.int .i64 x)) C vt (.slice (some ⟨gu, 0, none⟩) U.length cap) vt (.slice (some ⟨gu, 0, none⟩) U.length cap) := by
  have hgu := h.us.lt gu rfl
  have hC : C ≠ gu := fun e => by have := h.lt; omega
  refine ⟨⟨h.lt, ?_, own_setOther h.ts (fun e => h.dis gu e rfl), ?_, h.dis⟩, ⟨rfl, rfl, rfl, by simp [World.setCell], fun k hk ha => ?_, fun _ _ ha => ha⟩⟩
  · unfold Blk; rw [heap_setCell_other _ _ _ _ hC]; exact h.blk
  · unfold OwnI; rw [ics_set, List.length_set]; exact (World.ownsRow.stored h.us j _).1
  · exact heap_setCell_other _ _ _ _ (fun e => ha.2.2 (by rw [e]; rfl))
/-- What best answers. -/
def BPost (w : World) (B C : Nat) (vt vu : Value) (T : List Tm) (rt dep : Nat → Nat) (t : Tm) (e : Ending) (w' : World) : Prop :=
  ∃ (r : Nat) (vt' vu' : Value) (T' : List Tm) (U' : List Int), e = .returned (.int .i64 r) ∧ CL w' B C vt' vu' T' U' ∧ UF T'.length U' rt dep ∧ Stp w w' C vt vu vt' vu' ∧
    ((∃ i, T[i]? = some t ∧ T' = T ∧ r = rt i ∧ vt' = vt) ∨ ((∀ (m : Nat) (e : Tm), T[m]? = some e → ¬ e = t) ∧ T' = T ++ [t] ∧ r = T.length))
set_option maxRecDepth 20000 in
set_option maxHeartbeats 1000000 in
theorem best_any (t : Tm) (B C : Nat) (vt vu : Value) (T : List Tm) (U : List Int) (rt dep : Nat → Nat) (w : World) (h : CL w B C vt vu T U) (hu : UF T.length U rt dep) (hB : B ≤ w.heap.size) (hl : T.length ≤ 2000000000000) :
    Calls Tryd.prog 45 #[.pointer (some ⟨C, 0, none⟩), t.v] w (BPost w B C vt vu T rt dep t) := by
  have hCw := h.blk.lt
  have hf := fun (X : World) (hb : Below w.heap.size w X) => find_any t B C vt vu T U X (h.later hb) (Nat.le_trans hB hb.size) hl hu.len
  have HF : Hid _ := hf
  have HU : Hid (UF T.length U rt dep) := hu
  obtain ⟨k, n, s⟩ := t
  clear hf h hu
  go_enter Tryd.func45, Tryd.ntmps45
  go_upto_region 2 with (go_at_call 55; refine (HF.out _ (below1 _ _)).mono ?_; rintro e w1 ⟨i, vt1, vu1, T1, U1, rfl, hc1, hs1, hw1⟩)
  have hU1 : UF T1.length U1 rt dep := by
    rcases hw1 with ⟨-, rfl, rfl, -⟩ | ⟨-, -, rfl, rfl⟩
    · exact HU.out
    · rw [List.length_append]; exact HU.out.push
  have hi1 : i < T1.length := by
    rcases hw1 with ⟨h, rfl, -⟩ | ⟨-, rfl, rfl, -⟩
    · exact (List.getElem?_eq_some_iff.1 h).1
    · simp
  have hT1 : T1.length ≤ 2000000000001 := by
    rcases hw1 with ⟨-, rfl, -⟩ | ⟨-, -, rfl, -⟩
    · omega
    · simp; omega
  have HAns : Hid (∀ r, r = rt i → ((∃ i, T[i]? = some ⟨k, n, s⟩ ∧ T1 = T ∧ r = rt i ∧ vt1 = vt) ∨ ((∀ (m : Nat) (e : Tm), T[m]? = some e → ¬ e = ⟨k, n, s⟩) ∧ T1 = T ++ [⟨k, n, s⟩] ∧ r = T.length))) := fun r hr => by
    rcases hw1 with ⟨h, h2, -, h3⟩ | ⟨h, rfl, h2, -⟩
    · exact Or.inl ⟨i, h, h2, hr, h3⟩
    · exact Or.inr ⟨h, h2, by rw [hr]; exact HU.out.out _ (Nat.le_refl _)⟩
  have HS1 : Hid (Stp w w1 C vt vu vt1 vu1) := (Stp.below C vt vu (below1 _ _)).trans hs1
  have hB1 : B ≤ w1.heap.size := Nat.le_trans hB (Hid.out HS1).size
  obtain ⟨gu, uc, hvu, -, -⟩ := World.ownsRow.form hc1.us (by rw [hU1.len]; omega)
  subst hvu
  clear hw1 hs1 HF
  go_loopg [5] (dep i) (fun g v wr => ∃ (j : Nat) (U' : List Int), v = .int .i64 j ∧ dep j ≤ g ∧ j < T1.length ∧ rt j = rt i ∧ CL wr B C vt1 (.slice (some ⟨gu, 0, none⟩) U'.length uc) T1 U' ∧ UF T1.length U' rt dep ∧ Stp w1 wr C vt1 (.slice (some ⟨gu, 0, none⟩) U1.length uc) vt1 (.slice (some ⟨gu, 0, none⟩) U'.length uc))
  case atStart => exact ⟨i, U1, rfl, Nat.le_refl _, hi1, rfl, hc1, hU1, Stp.refl _ _ _ _⟩
  case round =>
    obtain ⟨j, U', rfl, hdg, hj, hrj, hc, hU', hst⟩ := hrel
    clear hc1 hU1 hi1
    obtain ⟨p, hp, hpn, hpr, hpe, hpd⟩ := hU'.up j hj
    have hUl : U'.length = T1.length := hU'.len
    have HUl : Hid (U'.length = T1.length) := hUl
    have HC : Hid (CL wr B C vt1 (.slice (some ⟨gu, 0, none⟩) U'.length uc) T1 U') := hc
    have HU' : Hid (UF T1.length U' rt dep) := hU'
    have HSt : Hid _ := hst
    obtain ⟨c0, c1, -, -⟩ := two hc.blk
    have cj := ownI_cells hc.us j _ hp
    have i1 : (0 : Int) ≤ (j : Int) := by omega
    have i2 : (j : Int) < (U'.length : Int) := by omega
    have i3 : (0 : Int) ≤ (p : Int) := by omega
    have i4 : (p : Int) < (U'.length : Int) := by omega
    have HP : Hid (U'[j]? = some (p : Int)) := hp
    clear hUl hp hc hU' hst
    by_cases hpj : p = j
    · have hq : ((p : Int) == (j : Int)) = true := by simp [hpj]
      have hq2 : ((p : Int) != (j : Int)) = false := by simp [hpj]
      have HRt : Hid (j = rt i) := by show j = rt i; rw [← hrj]; exact (hpe hpj).symm
      clear hpj hpe hpd hpr
      go_wp2
      exact bodyPost_ret (v := .int .i64 j) (by simp [results, Tryd.results45, go_sem]) rfl ⟨j, _, _, T1, U', rfl, HC.out, HU'.out, (Hid.out HS1).trans (Hid.out HSt), HAns.out j HRt.out⟩
    · have hq : ((p : Int) == (j : Int)) = false := beq_eq_false_iff_ne.2 (by omega)
      have hq2 : ((p : Int) != (j : Int)) = true := by rw [bne, hq]; rfl
      obtain ⟨q, hqq, hqn, -⟩ := HU'.out.up p hpn
      obtain ⟨hH1, hH2, hH3, hH4⟩ := HU'.out.halve hj HP.out hqq hpj
      have HQ : Hid (U'[p]? = some (q : Int)) := hqq
      have HH : Hid (UF T1.length (U'.set j (q : Int)) rt dep ∧ q < T1.length ∧ rt q = rt j ∧ dep q < dep j) := ⟨hH1, hH2, hH3, hH4⟩
      have i5 : (0 : Int) ≤ (q : Int) := by omega
      have HRj : Hid (rt j = rt i) := hrj
      clear hpj hpe hpd hpr hqq hH1 hH2 hH3 hH4 hrj
      go_upto_region 3 with fail
      clear c0 c1 cj
      refine wp_region_held_drew (S := fun w' => Blk w' C #[vt1, .slice (some ⟨gu, 0, none⟩) U'.length uc] 64) (by kernel_rfl) (Blk.later HC.out.blk (Below.refl _ _).drew) (fun hH => ?_)
      have hV := HC.out.drew
      have sV : Stp wr wr.drew C vt1 (.slice (some ⟨gu, 0, none⟩) U'.length uc) vt1 (.slice (some ⟨gu, 0, none⟩) U'.length uc) := Stp.below _ _ _ (Below.refl _ _).drew
      revert hH hV sV
      generalize wr.drew = V
      intro hH hV sV
      refine wpAnyH_take (i := 0) (oi := ⟨_, _, _, _, _, _⟩) (v := .pointer (some ⟨C, 0, none⟩)) rfl (by kernel_rfl) (by kernel_rfl) (by kernel_rfl) (fun _ _ _ h => h) (Or.inl ⟨by rfl, fun w' _ => by go_simp⟩) hH ?_
      simp only [Act.put, List.setIfInBounds_toArray, List.set_cons_zero, List.set_cons_succ]
      refine wpAnyH_take (i := 1) (oi := ⟨_, _, _, _, _, _⟩) (v := .pointer (some ⟨C, 0, none⟩)) rfl (by kernel_rfl) (by kernel_rfl) (by kernel_rfl) (fun _ _ _ h => h) (Or.inl ⟨by rfl, fun w' _ => by go_simp⟩) hH ?_
      simp only [Act.put, List.setIfInBounds_toArray, List.set_cons_zero, List.set_cons_succ]
      refine wpAnyH_take (i := 2) (oi := ⟨_, _, _, _, _, _⟩) (v := .pointer (some ⟨C, 1, none⟩)) rfl (by kernel_rfl) (by kernel_rfl) (by kernel_rfl) (fun _ _ _ h => h) (Or.inl ⟨by rfl, fun w' _ => by go_simp⟩) hH ?_
      simp only [Act.put, List.setIfInBounds_toArray, List.set_cons_zero, List.set_cons_succ]
      refine wpAnyH_take (i := 3) (oi := ⟨_, _, _, _, _, _⟩) (v := .slice (some ⟨gu, 0, none⟩) U'.length uc) rfl (by kernel_rfl) (by kernel_rfl) (by kernel_rfl) (fun _ _ _ h => h) (Or.inl ⟨by rfl, fun w' h => by have a0 := (two h).2.1; go_simp⟩) hH ?_
      simp only [Act.put, List.setIfInBounds_toArray, List.set_cons_zero, List.set_cons_succ]
      refine wpAnyH_take (i := 4) (oi := ⟨_, _, _, _, _, _⟩) (v := .int .i64 j) rfl (by kernel_rfl) (by kernel_rfl) (by kernel_rfl) (fun _ _ _ h => h) (Or.inl ⟨by rfl, fun w' _ => by go_simp⟩) hH ?_
      simp only [Act.put, List.setIfInBounds_toArray, List.set_cons_zero, List.set_cons_succ]
      refine wpAnyH_take (i := 5) (oi := ⟨_, _, _, _, _, _⟩) (v := .pointer (some ⟨C, 0, none⟩)) rfl (by kernel_rfl) (by kernel_rfl) (by kernel_rfl) (fun _ _ _ h => h) (Or.inl ⟨by rfl, fun w' _ => by go_simp⟩) hH ?_
      simp only [Act.put, List.setIfInBounds_toArray, List.set_cons_zero, List.set_cons_succ]
      refine wpAnyH_take (i := 6) (oi := ⟨_, _, _, _, _, _⟩) (v := .pointer (some ⟨C, 0, none⟩)) rfl (by kernel_rfl) (by kernel_rfl) (by kernel_rfl) (fun _ _ _ h => h) (Or.inl ⟨by rfl, fun w' _ => by go_simp⟩) hH ?_
      simp only [Act.put, List.setIfInBounds_toArray, List.set_cons_zero, List.set_cons_succ]
      refine wpAnyH_take (i := 7) (oi := ⟨_, _, _, _, _, _⟩) (v := .pointer (some ⟨C, 1, none⟩)) rfl (by kernel_rfl) (by kernel_rfl) (by kernel_rfl) (fun _ _ _ h => h) (Or.inl ⟨by rfl, fun w' _ => by go_simp⟩) hH ?_
      simp only [Act.put, List.setIfInBounds_toArray, List.set_cons_zero, List.set_cons_succ]
      refine wpAnyH_take (i := 8) (oi := ⟨_, _, _, _, _, _⟩) (v := .slice (some ⟨gu, 0, none⟩) U'.length uc) rfl (by kernel_rfl) (by kernel_rfl) (by kernel_rfl) (fun _ _ _ h => h) (Or.inl ⟨by rfl, fun w' h => by have a0 := (two h).2.1; go_simp⟩) hH ?_
      simp only [Act.put, List.setIfInBounds_toArray, List.set_cons_zero, List.set_cons_succ]
      refine wpAnyH_take (i := 9) (oi := ⟨_, _, _, _, _, _⟩) (v := .pointer (some ⟨C, 0, none⟩)) rfl (by kernel_rfl) (by kernel_rfl) (by kernel_rfl) (fun _ _ _ h => h) (Or.inl ⟨by rfl, fun w' _ => by go_simp⟩) hH ?_
      simp only [Act.put, List.setIfInBounds_toArray, List.set_cons_zero, List.set_cons_succ]
      refine wpAnyH_take (i := 10) (oi := ⟨_, _, _, _, _, _⟩) (v := .pointer (some ⟨C, 0, none⟩)) rfl (by kernel_rfl) (by kernel_rfl) (by kernel_rfl) (fun _ _ _ h => h) (Or.inl ⟨by rfl, fun w' _ => by go_simp⟩) hH ?_
      simp only [Act.put, List.setIfInBounds_toArray, List.set_cons_zero, List.set_cons_succ]
      refine wpAnyH_take (i := 11) (oi := ⟨_, _, _, _, _, _⟩) (v := .pointer (some ⟨C, 1, none⟩)) rfl (by kernel_rfl) (by kernel_rfl) (by kernel_rfl) (fun _ _ _ h => h) (Or.inl ⟨by rfl, fun w' _ => by go_simp⟩) hH ?_
      simp only [Act.put, List.setIfInBounds_toArray, List.set_cons_zero, List.set_cons_succ]
      refine wpAnyH_take (i := 12) (oi := ⟨_, _, _, _, _, _⟩) (v := .slice (some ⟨gu, 0, none⟩) U'.length uc) rfl (by kernel_rfl) (by kernel_rfl) (by kernel_rfl) (fun _ _ _ h => h) (Or.inl ⟨by rfl, fun w' h => by have a0 := (two h).2.1; go_simp⟩) hH ?_
      simp only [Act.put, List.setIfInBounds_toArray, List.set_cons_zero, List.set_cons_succ]
      refine wpAnyH_take (i := 13) (oi := ⟨_, _, _, _, _, _⟩) (v := .int .i64 j) rfl (by kernel_rfl) (by kernel_rfl) (by kernel_rfl) (fun _ _ _ h => h) (Or.inl ⟨by rfl, fun w' _ => by go_simp⟩) hH ?_
      simp only [Act.put, List.setIfInBounds_toArray, List.set_cons_zero, List.set_cons_succ]
      refine wpAnyH_take (i := 14) (oi := ⟨_, _, _, _, _, _⟩) (v := .pointer (some ⟨gu, j, none⟩)) rfl (by kernel_rfl) (by kernel_rfl) (by kernel_rfl) (fun _ _ _ h => h) (Or.inl ⟨by rfl, fun w' _ => by go_simp⟩) hH ?_
      simp only [Act.put, List.setIfInBounds_toArray, List.set_cons_zero, List.set_cons_succ]
      refine wpAnyH_ready (rs := [15]) (by kernel_rfl) (by simp) ?_
      refine (AllReadyH.cons (o := ⟨_, _, _, _, _, _⟩) rfl (fun K hK => ?_) AllReadyH.nil)
      have a0 := ownI_cells hV.us j _ HP.out
      go_simp
      clear a0
      refine hK.out _ _ hH (fun hH => ?_)
      clear hK K
      refine wpAnyH_take (i := 16) (oi := ⟨_, _, _, _, _, _⟩) (v := .pointer (some ⟨gu, p, none⟩)) rfl (by kernel_rfl) (by kernel_rfl) (by kernel_rfl) (fun _ _ _ h => h) (Or.inl ⟨by rfl, fun w' _ => by go_simp⟩) hH ?_
      simp only [Act.put, List.setIfInBounds_toArray, List.set_cons_zero, List.set_cons_succ]
      refine wpAnyH_ready (rs := [17]) (by kernel_rfl) (by simp) ?_
      refine (AllReadyH.cons (o := ⟨_, _, _, _, _, _⟩) rfl (fun K hK => ?_) AllReadyH.nil)
      have a0 := ownI_cells hV.us p _ HQ.out
      go_simp
      clear a0
      refine hK.out _ _ hH (fun hH => ?_)
      clear hK K
      refine wpAnyH_take (i := 18) (oi := ⟨_, _, _, _, _, _⟩) (v := .pointer (some ⟨gu, j, none⟩)) rfl (by kernel_rfl) (by kernel_rfl) (by kernel_rfl) (fun _ _ _ h => h) (Or.inl ⟨by rfl, fun w' _ => by go_simp⟩) hH ?_
      simp only [Act.put, List.setIfInBounds_toArray, List.set_cons_zero, List.set_cons_succ]
      refine wpAnyH_ready (rs := [19]) (by kernel_rfl) (by simp) ?_
      refine (AllReadyH.cons (o := ⟨_, _, _, _, _, _⟩) rfl (fun K hK => ?_) AllReadyH.nil)
      have a0 := ownI_cells hV.us j _ HP.out
      have f0 := World.ownsRow.frozenAt hV.us j
      have P := CL.setU (j := j) (x := (q : Int)) hV
      go_simp
      clear a0 f0
      refine hK.out _ _ P.1.blk (fun hH => ?_)
      clear hK K hH
      refine wpAnyH_done (by kernel_rfl) ?_ _
      revert P
      generalize V.setCell ⟨gu, j, none⟩ (.int .i64 (q : Int)) = Vc
      intro P
      have HPP : Hid _ := P
      obtain ⟨c0, c1, -, -⟩ := two P.1.blk
      have cj := ownI_cells P.1.us j (q : Int) (by rw [List.getElem?_set_self (by have := HUl.out; omega)])
      clear P
      go_wp2
      go_roundg (dep q)
      case measure => have := HH.out.2.2.2; omega
      case rel => exact ⟨q, U'.set j (q : Int), rfl, Nat.le_refl _, HH.out.2.1, by rw [HH.out.2.2.1]; exact HRj.out, by rw [List.length_set]; exact (Hid.out HPP).1, HH.out.1, by rw [List.length_set]; exact (Hid.out HSt).trans (sV.trans (Hid.out HPP).2)⟩
end Go.Proofs.YtnaiecemmhioeaaDoor

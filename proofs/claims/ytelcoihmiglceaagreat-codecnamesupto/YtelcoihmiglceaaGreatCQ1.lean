/-
  CodecNames: plain: bytes of clauses and of sets, one to one.
-/
import Derived.Test.YtelcoihmiglceaaGreatCD6
import Derived.Test.YtelcoihmiglceaaGreatCM0
import Derived.Test.YtelcoihmiglceaaGreatCP6
import Derived.Deep.RegionHeld3
namespace Go.Proofs.YtelcoihmiglceaaGreat
open Go.RowKit

/-- A clause that can be written. -/
structure Kw (k : Ck) : Prop where
  c : chkK k = 0
  r : Rng k
theorem rClause_k {k : Ck} (h : Kw k) (r : List Int) : rClause (cB k ++ r) = .ok (k, r) := by
  have := rClause_cB (c := kC k) r (by rw [chk_keyK, kC_key]; exact h.c) (by rw [kC_key]; exact h.r)
  rwa [kC_key] at this
theorem cB_pre {k k' : Ck} {r : List Int} (h : Kw k) (h' : Kw k') (e : cB k' = cB k ++ r) : k' = k := by
  have h1 := rClause_k h r
  have h2 := rClause_k h' []
  rw [List.append_nil, e, h1] at h2
  simp only [Except.ok.injEq, Prod.mk.injEq] at h2
  exact h2.1.symm
/-- The bytes of a set. -/
def sBy (K : List Ck) : List Int := be 4 (K.length : Int) ++ K.flatMap cB
theorem sBy_inj {K K' : List Ck} (h : ∀ k ∈ K, Kw k) (h' : ∀ k ∈ K', Kw k) (l : K.length < 4294967296) (l' : K'.length < 4294967296) (e : sBy K = sBy K') : K = K' := by
  obtain ⟨e1, e2⟩ := List.append_inj e (by rw [be_len, be_len])
  have hl : K.length = K'.length := by
    have := congrArg val e1
    rw [val_be, val_be, show ((256 : Int) ^ 4) = 4294967296 by decide] at this
    omega
  have m1 := rMany_flat (one := rClause) (f := cB) K [] (fun k hk r => rClause_k (h k hk) r)
  have m2 := rMany_flat (one := rClause) (f := cB) K' [] (fun k hk r => rClause_k (h' k hk) r)
  rw [hl, e2, m2] at m1
  simp only [Except.ok.injEq, Prod.mk.injEq] at m1
  exact m1.1.symm
theorem sBy_byt {K : List Ck} (h : ∀ k ∈ K, Kw k) : byt (sBy K) := by
  refine (be_byt _ _).app fun x hx => ?_
  obtain ⟨k, hk, hx⟩ := List.mem_flatMap.1 hx
  have := cB_byt9 (c := kC k) (by rw [chk_keyK, kC_key]; exact (h k hk).c)
  rw [kC_key] at this
  exact this x hx
theorem ofL_inj {a b : List Int} (ha : byt a) (hb : byt b) (e : ofL a = ofL b) : a = b := by
  rw [← bl_ofL ha, e, bl_ofL hb]
/-- A set with one more: when are two such the same? -/
theorem set_more {K1 K2 : List Ck} {l : List Cm} {a b : Cm} (h1 : SetK K1 (l ++ [a])) (h2 : SetK K2 (l ++ [b])) : K1 = K2 ↔ (a.key = b.key ∨ ((∃ c ∈ l, c.key = a.key) ∧ ∃ c ∈ l, c.key = b.key)) := by
  constructor
  · intro e
    by_cases hab : a.key = b.key
    · exact Or.inl hab
    · refine Or.inr ⟨?_, ?_⟩
      · have : a.key ∈ K2 := by rw [← e]; exact (h1.mem _).2 ⟨a, by simp, rfl⟩
        obtain ⟨c, hc, ec⟩ := (h2.mem _).1 this
        rcases List.mem_append.1 hc with hc | hc
        · exact ⟨c, hc, ec⟩
        · rw [List.mem_singleton] at hc; subst hc; exact absurd ec.symm hab
      · have : b.key ∈ K1 := by rw [e]; exact (h2.mem _).2 ⟨b, by simp, rfl⟩
        obtain ⟨c, hc, ec⟩ := (h1.mem _).1 this
        rcases List.mem_append.1 hc with hc | hc
        · exact ⟨c, hc, ec⟩
        · rw [List.mem_singleton] at hc; subst hc; exact absurd ec hab
  · intro h
    refine rise_uniq K1 K2 h1.rise h2.rise fun k => ?_
    rw [h1.mem, h2.mem]
    rcases h with hab | ⟨⟨c, hc, ec⟩, ⟨d, hd, ed⟩⟩
    · constructor
      · rintro ⟨x, hx, rfl⟩
        rcases List.mem_append.1 hx with hx | hx
        · exact ⟨x, List.mem_append_left _ hx, rfl⟩
        · rw [List.mem_singleton] at hx; subst hx; exact ⟨b, by simp, hab.symm⟩
      · rintro ⟨x, hx, rfl⟩
        rcases List.mem_append.1 hx with hx | hx
        · exact ⟨x, List.mem_append_left _ hx, rfl⟩
        · rw [List.mem_singleton] at hx; subst hx; exact ⟨a, by simp, hab⟩
    · constructor
      · rintro ⟨x, hx, rfl⟩
        rcases List.mem_append.1 hx with hx | hx
        · exact ⟨x, List.mem_append_left _ hx, rfl⟩
        · rw [List.mem_singleton] at hx; subst hx; exact ⟨c, List.mem_append_left _ hc, ec⟩
      · rintro ⟨x, hx, rfl⟩
        rcases List.mem_append.1 hx with hx | hx
        · exact ⟨x, List.mem_append_left _ hx, rfl⟩
        · rw [List.mem_singleton] at hx; subst hx; exact ⟨d, List.mem_append_left _ hd, ed⟩
theorem flatC_le9 {l : List Cm} (h : ∀ c ∈ l, c.chk = 0) : (l.flatMap cBm).length ≤ l.length * 20000 := by
  induction l with
  | nil => simp
  | cons a l ih =>
    have h1 : (cBm a).length ≤ 20000 := cB_len (h a (by simp))
    have h2 := ih fun c hc => h c (by simp [hc])
    simp only [List.flatMap_cons, List.length_append, List.length_cons]; omega
theorem fErr_all9 {l : List Cm} (h : ∀ c ∈ l, c.chk = 0) : fErr l = 0 := by
  induction l with
  | nil => rfl
  | cons a l ih => unfold fErr; rw [if_pos (h a (by simp))]; exact ih fun c hc => h c (by simp [hc])
theorem flat_key (l : List Cm) : l.flatMap cBm = (l.map Cm.key).flatMap cB := by rw [List.flatMap_map]; rfl
theorem sBy_len {K : List Ck} (h : ∀ k ∈ K, Kw k) : (sBy K).length ≤ 4 + K.length * 20000 := by
  have : (K.flatMap cB).length ≤ K.length * 20000 := by
    induction K with
    | nil => simp
    | cons a l ih =>
      have h1 : (cB a).length ≤ 20000 := by
        have := cB_len (c := kC a) (by rw [chk_keyK, kC_key]; exact (h a (by simp)).c)
        rwa [kC_key] at this
      have h2 := ih fun c hc => h c (by simp [hc])
      simp only [List.flatMap_cons, List.length_append, List.length_cons]; omega
  unfold sBy
  rw [List.length_append, be_len]; omega
set_option maxRecDepth 20000 in
set_option maxHeartbeats 600000 in
/-- codec.Set of clauses that can be written. -/
theorem setW_any (l : List Cm) (v : Value) (w : World) (h : CsP w v l) (hl : l.length ≤ 4000000) (hz : ∀ c ∈ l, c.sml) (hk : ∀ c ∈ l, Kw c.key) (hwf : ∀ k, (∃ c ∈ l, c.key = k) → ∀ d : Cm, d.key = k → d.wf) :
    Calls Tryz.prog 12 #[v] w fun e w' => ∃ v' K, e = .returned (.tuple #[v', .int .i64 0]) ∧ SetK K l ∧ K.length ≤ 4000000 ∧ OwnB w' 0 v' (sBy K) ∧ Below w.heap.size w w' := by
  have HS : Hid (Calls Tryz.prog 36 #[v] w fun e w' => ∃ v' o, e = .returned v' ∧ CsP w' v' o ∧ o.length ≤ l.length ∧ SetK (o.map Cm.key) l ∧ Below w.heap.size w w') := set2_any l v w h (by omega) hz
  have hch : ∀ (o : List Cm), SetK (o.map Cm.key) l → (∀ c ∈ o, c.chk = 0) ∧ ∀ c ∈ o, c.wf := fun o ho => by
    have key : ∀ c ∈ o, ∃ d ∈ l, d.key = c.key := fun c hc => (ho.mem _).1 (List.mem_map_of_mem hc)
    refine ⟨fun c hc => ?_, fun c hc => ?_⟩
    · obtain ⟨d, hd, e⟩ := key c hc
      rw [chk_keyK, ← e]; exact (hk d hd).c
    · exact hwf c.key (key c hc) c rfl
  have HFE : Hid (∀ (X : World) (u : Value) (o : List Cm), CsP X u o → o.length ≤ l.length → SetK (o.map Cm.key) l → Calls Tryz.prog 37 #[u] X fun e w' => e = .returned (.int .i64 0) ∧ Below X.heap.size X w') := fun X u o h1 h2 h3 => by
    have := firstError_any o u X h1 (hch o h3).2 (by omega)
    rwa [fErr_all9 (hch o h3).1] at this
  have HPC : Hid (∀ (X : World) (u : Value) (o : List Cm), CsP X u o → o.length ≤ l.length → SetK (o.map Cm.key) l → Calls Tryz.prog 38 #[.slice none 0 0, .int .i64 4, u, .func (.func 32) #[] #[]] X fun e w' => ∃ v', e = .returned v' ∧ Wr X X.heap.size (sBy (o.map Cm.key)) v' w') := fun X u o h1 h2 h3 => by
    have hc := (hch o h3).1
    have hb := flatC_le9 hc
    have := putClauses_any o hc (by omega) u (.slice none 0 0) [] X.heap.size X (ownB_nil _ _) (by simp only [List.length_nil]; omega) (Nat.le_refl _) h1 (fun Y hY => h1.later hY)
    rw [List.nil_append, flat_key] at this
    unfold sBy
    rwa [List.length_map]
  have HL4 : Hid (l.length ≤ 4000000) := hl
  obtain ⟨ad, cap, rfl⟩ := h.form
  clear h hz hk hwf hch
  go_enter Tryz.func12, Tryz.ntmps12
  go_wp2_with (first
    | (go_at_call 36; refine HS.out.mono ?_; clear HS; rintro e w1 ⟨v1, o, rfl, ho, hol, hok, hb⟩; have HO : Hid (CsP w1 v1 o) := ho; have HOL : Hid (o.length ≤ l.length) := hol; have HOK : Hid (SetK (o.map Cm.key) l) := hok; have HB1 : Hid (Below w.heap.size w w1) := hb; obtain ⟨oa, oc, rfl⟩ := ho.form; clear ho hol hok hb)
    | (go_at_call 37; refine (HFE.out _ _ _ HO.out HOL.out HOK.out).mono ?_; clear HFE; rintro e w2 ⟨rfl, hb⟩; have HO2 : Hid (CsP w2 (.slice oa o.length oc) o) := HO.out.later hb; have HB2 : Hid (Below w.heap.size w w2) := below_step HB1.out hb; clear hb)
    | (go_at_call 38; refine (HPC.out _ _ _ HO2.out HOL.out HOK.out).mono ?_; rintro e w3 ⟨v3, rfl, hw3⟩))
  exact bodyPost_ret (v := .tuple #[v3, .int .i64 0]) (by simp [results, Tryz.results12, go_sem]) rfl ⟨v3, o.map Cm.key, rfl, HOK.out, by rw [List.length_map]; have := HOL.out; have := HL4.out; omega, hw3.own.mono (Nat.zero_le _), HB2.out.trans (hw3.low.mono HB2.out.size)⟩
theorem toL_inj9 {a b : ByteArray} (h : a.toList = b.toList) : a = b := by
  rw [ByteArray.toList_eq, ByteArray.toList_eq] at h
  cases a; cases b
  simp only at h
  congr
  exact Array.toList_inj.1 h
theorem Bn.cut {w : World} {a : Option Addr} {n cap m : Nat} {X : List Int} (h : Bn w (.slice a n cap) X) (hm : m ≤ X.length) : Bn w (.slice a m cap) (X.take m) := by
  obtain ⟨a', cap', e, h0, h1, h⟩ := h
  simp only [Value.slice.injEq] at e
  obtain ⟨rfl, rfl, rfl⟩ := e
  have hl : (X.take m).length = m := by rw [List.length_take]; omega
  refine ⟨a, cap, by rw [hl], by omega, by omega, ?_⟩
  rcases h with rfl | ⟨b, o, rfl, hb, hc⟩
  · left; simp
  · right
    refine ⟨b, o, rfl, hb, fun i x hx => hc i x ?_⟩
    have hi := (List.getElem?_eq_some_iff.1 hx).1
    rw [List.getElem?_take_of_lt (by omega)] at hx
    exact hx
set_option maxRecDepth 20000 in
set_option maxHeartbeats 600000 in
theorem begins_no (X Y : List Int) (x y : Value) (w : World) (hX : Bn w x X) (hY : Bn w y Y) (bX : byt X) (bY : byt Y) (hn : ∀ r, X ≠ Y ++ r) :
    Calls Tryz.prog 10 #[x, y] w fun e w' => e = .returned (.bool false) ∧ Below w.heap.size w w' := by
  have HX : Hid (Bn w x X) := hX
  have HY : Hid (Bn w y Y) := hY
  obtain ⟨xa, xc, rfl, x0, x1, -⟩ := hX
  obtain ⟨ya, yc, rfl, y0, y1, -⟩ := hY
  by_cases hle : Y.length ≤ X.length
  · have hne : ofL (X.take Y.length) ≠ ofL Y := fun e => by
      have := ofL_inj (fun z hz => bX z (List.mem_of_mem_take hz)) bY e
      refine hn (X.drop Y.length) ?_
      conv => rhs; rw [← this]
      rw [this, ← this, List.length_take, Nat.min_eq_left (by simpa using hle), List.take_append_drop]
    have HC1 : Hid (∀ X' : World, Below w.heap.size w X' → (convert 37 9 (.slice xa Y.length xc)).run Tryz.prog X' = .ok (.string (ofL (X.take Y.length))) X') := fun X' h => conv_bn ((HX.out.cut hle).later h) (fun z hz => bX z (List.mem_of_mem_take hz))
    have HC2 : Hid (∀ X' : World, Below w.heap.size w X' → (convert 37 9 (.slice ya Y.length yc)).run Tryz.prog X' = .ok (.string (ofL Y)) X') := fun X' h => conv_bn (HY.out.later h) bY
    have hL : (Y.length : Int) ≤ (X.length : Int) := by omega
    have hL2 : (Y.length : Int) ≤ (xc : Int) := by omega
    have hL0 : (0 : Int) ≤ (Y.length : Int) := by omega
    have hq1 : ¬ (ofL (X.take Y.length)).toList = (ofL Y).toList := fun e => hne (toL_inj9 e)
    have hq2 : ((ofL (X.take Y.length)).toList == (ofL Y).toList) = false := by simpa using hq1
    generalize ofL (X.take Y.length) = s1 at *
    generalize ofL Y = s2 at *
    go_enter Tryz.func10, Tryz.ntmps10
    go_wp2_with fail
    refine wp_region_held_drew (S := fun w' => Below w.heap.size w w') (by kernel_rfl) (Below.refl _ _).drew (fun hH => ?_)
    revert hH
    generalize w.drew = V
    intro hH
    refine wpAnyH_take (i := 0) (oi := ⟨_, _, _, _, _, _⟩) (v := .slice ya Y.length yc) rfl (by kernel_rfl) (by kernel_rfl) (by kernel_rfl) (fun _ _ _ h => h) (Or.inl ⟨by rfl, fun w' h => by clear h; go_simp⟩) hH ?_
    simp only [Act.put, List.setIfInBounds_toArray, List.set_cons_zero, List.set_cons_succ]
    refine wpAnyH_take (i := 1) (oi := ⟨_, _, _, _, _, _⟩) (v := .int .i64 (Y.length : Int)) rfl (by kernel_rfl) (by kernel_rfl) (by kernel_rfl) (fun _ _ _ h => h) (Or.inl ⟨by rfl, fun w' h => by clear h; go_simp⟩) hH ?_
    simp only [Act.put, List.setIfInBounds_toArray, List.set_cons_zero, List.set_cons_succ]
    refine wpAnyH_take (i := 2) (oi := ⟨_, _, _, _, _, _⟩) (v := .slice xa X.length xc) rfl (by kernel_rfl) (by kernel_rfl) (by kernel_rfl) (fun _ _ _ h => h) (Or.inl ⟨by rfl, fun w' h => by clear h; go_simp⟩) hH ?_
    simp only [Act.put, List.setIfInBounds_toArray, List.set_cons_zero, List.set_cons_succ]
    refine wpAnyH_take (i := 3) (oi := ⟨_, _, _, _, _, _⟩) (v := .int .i64 (X.length : Int)) rfl (by kernel_rfl) (by kernel_rfl) (by kernel_rfl) (fun _ _ _ h => h) (Or.inl ⟨by rfl, fun w' h => by clear h; go_simp⟩) hH ?_
    simp only [Act.put, List.setIfInBounds_toArray, List.set_cons_zero, List.set_cons_succ]
    refine wpAnyH_take (i := 4) (oi := ⟨_, _, _, _, _, _⟩) (v := .bool true) rfl (by kernel_rfl) (by kernel_rfl) (by kernel_rfl) (fun _ _ _ h => h) (Or.inl ⟨by rfl, fun w' h => by clear h; go_simp⟩) hH ?_
    simp only [Act.put, List.setIfInBounds_toArray, List.set_cons_zero, List.set_cons_succ]
    refine wpAnyH_take (i := 5) (oi := ⟨_, _, _, _, _, _⟩) (v := .bool true) rfl (by kernel_rfl) (by kernel_rfl) (by kernel_rfl) (fun _ _ _ h => h) (Or.inl ⟨by rfl, fun w' h => by clear h; go_simp⟩) hH ?_
    simp only [Act.put, List.setIfInBounds_toArray, List.set_cons_zero, List.set_cons_succ]
    refine wpAnyH_take (i := 6) (oi := ⟨_, _, _, _, _, _⟩) (v := .slice xa X.length xc) rfl (by kernel_rfl) (by kernel_rfl) (by kernel_rfl) (fun _ _ _ h => h) (Or.inl ⟨by rfl, fun w' h => by clear h; go_simp⟩) hH ?_
    simp only [Act.put, List.setIfInBounds_toArray, List.set_cons_zero, List.set_cons_succ]
    refine wpAnyH_take (i := 7) (oi := ⟨_, _, _, _, _, _⟩) (v := .slice ya Y.length yc) rfl (by kernel_rfl) (by kernel_rfl) (by kernel_rfl) (fun _ _ _ h => h) (Or.inl ⟨by rfl, fun w' h => by clear h; go_simp⟩) hH ?_
    simp only [Act.put, List.setIfInBounds_toArray, List.set_cons_zero, List.set_cons_succ]
    refine wpAnyH_take (i := 8) (oi := ⟨_, _, _, _, _, _⟩) (v := .int .i64 (Y.length : Int)) rfl (by kernel_rfl) (by kernel_rfl) (by kernel_rfl) (fun _ _ _ h => h) (Or.inl ⟨by rfl, fun w' h => by clear h; go_simp⟩) hH ?_
    simp only [Act.put, List.setIfInBounds_toArray, List.set_cons_zero, List.set_cons_succ]
    refine wpAnyH_take (i := 9) (oi := ⟨_, _, _, _, _, _⟩) (v := .slice xa Y.length xc) rfl (by kernel_rfl) (by kernel_rfl) (by kernel_rfl) (fun _ _ _ h => h) (Or.inl ⟨by rfl, fun w' h => by clear h; go_simp⟩) hH ?_
    simp only [Act.put, List.setIfInBounds_toArray, List.set_cons_zero, List.set_cons_succ]
    refine wpAnyH_take (i := 10) (oi := ⟨_, _, _, _, _, _⟩) (v := .string s1) rfl (by kernel_rfl) (by kernel_rfl) (by kernel_rfl) (fun _ _ _ h => h) (Or.inl ⟨by rfl, fun w' h => by have hcv := HC1.out w' h; clear h; go_simp⟩) hH ?_
    simp only [Act.put, List.setIfInBounds_toArray, List.set_cons_zero, List.set_cons_succ]
    refine wpAnyH_take (i := 11) (oi := ⟨_, _, _, _, _, _⟩) (v := .slice ya Y.length yc) rfl (by kernel_rfl) (by kernel_rfl) (by kernel_rfl) (fun _ _ _ h => h) (Or.inl ⟨by rfl, fun w' h => by clear h; go_simp⟩) hH ?_
    simp only [Act.put, List.setIfInBounds_toArray, List.set_cons_zero, List.set_cons_succ]
    refine wpAnyH_take (i := 12) (oi := ⟨_, _, _, _, _, _⟩) (v := .string s2) rfl (by kernel_rfl) (by kernel_rfl) (by kernel_rfl) (fun _ _ _ h => h) (Or.inl ⟨by rfl, fun w' h => by have hcv := HC2.out w' h; clear h; go_simp⟩) hH ?_
    simp only [Act.put, List.setIfInBounds_toArray, List.set_cons_zero, List.set_cons_succ]
    refine wpAnyH_take (i := 13) (oi := ⟨_, _, _, _, _, _⟩) (v := .bool false) rfl (by kernel_rfl) (by kernel_rfl) (by kernel_rfl) (fun _ _ _ h => h) (Or.inl ⟨by rfl, fun w' h => by clear h; go_simp⟩) hH ?_
    simp only [Act.put, List.setIfInBounds_toArray, List.set_cons_zero, List.set_cons_succ]
    refine wpAnyH_take (i := 14) (oi := ⟨_, _, _, _, _, _⟩) (v := .bool false) rfl (by kernel_rfl) (by kernel_rfl) (by kernel_rfl) (fun _ _ _ h => h) (Or.inl ⟨by rfl, fun w' h => by clear h; go_simp⟩) hH ?_
    simp only [Act.put, List.setIfInBounds_toArray, List.set_cons_zero, List.set_cons_succ]
    refine wpAnyH_take (i := 15) (oi := ⟨_, _, _, _, _, _⟩) (v := .bool false) rfl (by kernel_rfl) (by kernel_rfl) (by kernel_rfl) (fun _ _ _ h => h) (Or.inl ⟨by rfl, fun w' h => by clear h; go_simp⟩) hH ?_
    simp only [Act.put, List.setIfInBounds_toArray, List.set_cons_zero, List.set_cons_succ]
    refine wpAnyH_done (by kernel_rfl) ?_ _
    go_wp2
    go_ret
    exact ⟨rfl, hH⟩
  · have hL : ¬ ((Y.length : Int) ≤ (X.length : Int)) := by omega
    have hL3 : decide ((Y.length : Int) ≤ (X.length : Int)) = false := decide_eq_false hL
    go_enter Tryz.func10, Tryz.ntmps10
    go_wp2_with fail
    refine wp_region_held_drew (S := fun w' => Below w.heap.size w w') (by kernel_rfl) (Below.refl _ _).drew (fun hH => ?_)
    revert hH
    generalize w.drew = V
    intro hH
    refine wpAnyH_take (i := 0) (oi := ⟨_, _, _, _, _, _⟩) (v := .slice ya Y.length yc) rfl (by kernel_rfl) (by kernel_rfl) (by kernel_rfl) (fun _ _ _ h => h) (Or.inl ⟨by rfl, fun w' h => by clear h; go_simp⟩) hH ?_
    simp only [Act.put, List.setIfInBounds_toArray, List.set_cons_zero, List.set_cons_succ]
    refine wpAnyH_take (i := 1) (oi := ⟨_, _, _, _, _, _⟩) (v := .int .i64 (Y.length : Int)) rfl (by kernel_rfl) (by kernel_rfl) (by kernel_rfl) (fun _ _ _ h => h) (Or.inl ⟨by rfl, fun w' h => by clear h; go_simp⟩) hH ?_
    simp only [Act.put, List.setIfInBounds_toArray, List.set_cons_zero, List.set_cons_succ]
    refine wpAnyH_take (i := 2) (oi := ⟨_, _, _, _, _, _⟩) (v := .slice xa X.length xc) rfl (by kernel_rfl) (by kernel_rfl) (by kernel_rfl) (fun _ _ _ h => h) (Or.inl ⟨by rfl, fun w' h => by clear h; go_simp⟩) hH ?_
    simp only [Act.put, List.setIfInBounds_toArray, List.set_cons_zero, List.set_cons_succ]
    refine wpAnyH_take (i := 3) (oi := ⟨_, _, _, _, _, _⟩) (v := .int .i64 (X.length : Int)) rfl (by kernel_rfl) (by kernel_rfl) (by kernel_rfl) (fun _ _ _ h => h) (Or.inl ⟨by rfl, fun w' h => by clear h; go_simp⟩) hH ?_
    simp only [Act.put, List.setIfInBounds_toArray, List.set_cons_zero, List.set_cons_succ]
    refine wpAnyH_take (i := 4) (oi := ⟨_, _, _, _, _, _⟩) (v := .bool false) rfl (by kernel_rfl) (by kernel_rfl) (by kernel_rfl) (fun _ _ _ h => h) (Or.inl ⟨by rfl, fun w' h => by clear h; go_simp⟩) hH ?_
    simp only [Act.put, List.setIfInBounds_toArray, List.set_cons_zero, List.set_cons_succ]
    refine wpAnyH_take (i := 5) (oi := ⟨_, _, _, _, _, _⟩) (v := .bool false) rfl (by kernel_rfl) (by kernel_rfl) (by kernel_rfl) (fun _ _ _ h => h) (Or.inl ⟨by rfl, fun w' h => by clear h; go_simp⟩) hH ?_
    simp only [Act.put, List.setIfInBounds_toArray, List.set_cons_zero, List.set_cons_succ]
    refine wpAnyH_take (i := 6) (oi := ⟨_, _, _, _, _, _⟩) (v := undef) rfl (by kernel_rfl) (by kernel_rfl) (by kernel_rfl) (fun _ _ _ h => h) (Or.inr ⟨by rfl, rfl⟩) hH ?_
    simp only [Act.put, List.setIfInBounds_toArray, List.set_cons_zero, List.set_cons_succ]
    refine wpAnyH_take (i := 7) (oi := ⟨_, _, _, _, _, _⟩) (v := undef) rfl (by kernel_rfl) (by kernel_rfl) (by kernel_rfl) (fun _ _ _ h => h) (Or.inr ⟨by rfl, rfl⟩) hH ?_
    simp only [Act.put, List.setIfInBounds_toArray, List.set_cons_zero, List.set_cons_succ]
    refine wpAnyH_take (i := 8) (oi := ⟨_, _, _, _, _, _⟩) (v := undef) rfl (by kernel_rfl) (by kernel_rfl) (by kernel_rfl) (fun _ _ _ h => h) (Or.inr ⟨by rfl, rfl⟩) hH ?_
    simp only [Act.put, List.setIfInBounds_toArray, List.set_cons_zero, List.set_cons_succ]
    refine wpAnyH_take (i := 9) (oi := ⟨_, _, _, _, _, _⟩) (v := undef) rfl (by kernel_rfl) (by kernel_rfl) (by kernel_rfl) (fun _ _ _ h => h) (Or.inr ⟨by rfl, rfl⟩) hH ?_
    simp only [Act.put, List.setIfInBounds_toArray, List.set_cons_zero, List.set_cons_succ]
    refine wpAnyH_take (i := 10) (oi := ⟨_, _, _, _, _, _⟩) (v := undef) rfl (by kernel_rfl) (by kernel_rfl) (by kernel_rfl) (fun _ _ _ h => h) (Or.inr ⟨by rfl, rfl⟩) hH ?_
    simp only [Act.put, List.setIfInBounds_toArray, List.set_cons_zero, List.set_cons_succ]
    refine wpAnyH_take (i := 11) (oi := ⟨_, _, _, _, _, _⟩) (v := undef) rfl (by kernel_rfl) (by kernel_rfl) (by kernel_rfl) (fun _ _ _ h => h) (Or.inr ⟨by rfl, rfl⟩) hH ?_
    simp only [Act.put, List.setIfInBounds_toArray, List.set_cons_zero, List.set_cons_succ]
    refine wpAnyH_take (i := 12) (oi := ⟨_, _, _, _, _, _⟩) (v := undef) rfl (by kernel_rfl) (by kernel_rfl) (by kernel_rfl) (fun _ _ _ h => h) (Or.inr ⟨by rfl, rfl⟩) hH ?_
    simp only [Act.put, List.setIfInBounds_toArray, List.set_cons_zero, List.set_cons_succ]
    refine wpAnyH_take (i := 13) (oi := ⟨_, _, _, _, _, _⟩) (v := undef) rfl (by kernel_rfl) (by kernel_rfl) (by kernel_rfl) (fun _ _ _ h => h) (Or.inr ⟨by rfl, rfl⟩) hH ?_
    simp only [Act.put, List.setIfInBounds_toArray, List.set_cons_zero, List.set_cons_succ]
    refine wpAnyH_take (i := 14) (oi := ⟨_, _, _, _, _, _⟩) (v := .bool false) rfl (by kernel_rfl) (by kernel_rfl) (by kernel_rfl) (fun _ _ _ h => h) (Or.inl ⟨by rfl, fun w' h => by clear h; go_simp⟩) hH ?_
    simp only [Act.put, List.setIfInBounds_toArray, List.set_cons_zero, List.set_cons_succ]
    refine wpAnyH_take (i := 15) (oi := ⟨_, _, _, _, _, _⟩) (v := .bool false) rfl (by kernel_rfl) (by kernel_rfl) (by kernel_rfl) (fun _ _ _ h => h) (Or.inl ⟨by rfl, fun w' h => by clear h; go_simp⟩) hH ?_
    simp only [Act.put, List.setIfInBounds_toArray, List.set_cons_zero, List.set_cons_succ]
    refine wpAnyH_done (by kernel_rfl) ?_ _
    go_wp2
    go_ret
    exact ⟨rfl, hH⟩
/-- Is there a clause of this key? -/
def hs (l : List Cm) (k : Ck) : Bool := l.any fun d => decide (d.key = k)
theorem hs_iff {l : List Cm} {k : Ck} : hs l k = true ↔ ∃ c ∈ l, c.key = k := by unfold hs; simp
theorem hs_drop {l : List Cm} {j : Nat} {x : Cm} {k : Ck} (h : l[j]? = some x) : hs (l.drop j) k = (decide (x.key = k) || hs (l.drop (j + 1)) k) := by
  obtain ⟨hj, rfl⟩ := List.getElem?_eq_some_iff.1 h
  rw [List.drop_eq_getElem_cons hj]; rfl
set_option maxRecDepth 20000 in
set_option maxHeartbeats 600000 in
theorem has_any (l : List Cm) (c : Cm) (v : Value) (w : World) (h : CsP w v l) (hc : c.ok w) (hl : l.length ≤ 1000000000000) :
    Calls Tryz.prog 13 #[v, c.v] w fun e w' => e = .returned (.bool (hs l c.key)) ∧ Below w.heap.size w w' := by
  obtain ⟨R, hR⟩ : ∃ r, hs l c.key = r := ⟨_, rfl⟩
  rw [hR]
  have HR : Hid (hs (l.drop 0) c.key = R) := hR
  have HC : Hid (CsP w v l) := h
  have HK : Hid (c.ok w) := hc
  obtain ⟨ad, cap, rfl⟩ := h.form
  obtain ⟨⟨c1, c2, c3, x1⟩, ⟨c4, c6, x2⟩, ⟨c7, c9, x3⟩, -, -⟩ := hc.shape
  clear h hR hc
  obtain ⟨⟨⟨⟨ck, cn, cs⟩, cm, cl⟩, cv⟩, cb, cbv, ct, ctv⟩ := c
  simp only at x1 x2 x3
  subst x1 x2 x3
  have HX : Hid (CBlk (w.alloc (.cells #[.int .i64 ck, .int .i64 cn, .string cs, .string cm, .slice c1 c2 c3, .slice c4 cb.length c6, .slice c7 ct.length c9] 30)) w.heap.size #[.int .i64 ck, .int .i64 cn, .string cs, .string cm, .slice c1 c2 c3, .slice c4 cb.length c6, .slice c7 ct.length c9] 30) := CBlk.new _ _ _
  have HW0 : Hid (Below w.heap.size w (w.alloc (.cells #[.int .i64 ck, .int .i64 cn, .string cs, .string cm, .slice c1 c2 c3, .slice c4 cb.length c6, .slice c7 ct.length c9] 30))) := below1 _ _
  go_enter Tryz.func13, Tryz.ntmps13
  go_wp2
  revert HX HW0
  generalize w.alloc (.cells #[.int .i64 ck, .int .i64 cn, .string cs, .string cm, .slice c1 c2 c3, .slice c4 cb.length c6, .slice c7 ct.length c9] 30) = W0
  intro HX HW0
  go_loopg [5] l.length (fun g i wr => ∃ j : Nat, j + g = l.length ∧ i = .int .i64 j ∧ hs (l.drop j) (Cm.key (⟨(⟨⟨ck, cn, cs⟩, cm, cl⟩, .slice c1 c2 c3), cb, .slice c4 cb.length c6, ct, .slice c7 ct.length c9⟩ : Cm)) = R ∧ Below W0.heap.size W0 wr)
  case atStart => exact ⟨0, by omega, rfl, HR.out, Below.refl _ _⟩
  case round =>
    obtain ⟨j, hj, rfl, hR, hb⟩ := hrel
    have HRj : Hid (hs (l.drop j) (Cm.key (⟨(⟨⟨ck, cn, cs⟩, cm, cl⟩, .slice c1 c2 c3), cb, .slice c4 cb.length c6, ct, .slice c7 ct.length c9⟩ : Cm)) = R) := hR
    have HB : Hid (Below W0.heap.size W0 wr) := hb
    have HXr : Hid (CBlk wr w.heap.size #[.int .i64 ck, .int .i64 cn, .string cs, .string cm, .slice c1 c2 c3, .slice c4 cb.length c6, .slice c7 ct.length c9] 30) := HX.out.later hb
    clear hR hb
    cases gk with
    | succ g =>
      have hlt : (j : Int) < (l.length : Int) := by omega
      have j0 : (0 : Int) ≤ (j : Int) := by omega
      obtain ⟨t, ht⟩ : ∃ t, l[j]? = some t := ⟨_, List.getElem?_eq_getElem (by omega)⟩
      obtain ⟨b, o, rfl, hbs, hr, hok⟩ := (HC.out.later (below_step HW0.out HB.out)).at_ ht
      have HS : Hid ((decide (t.key = Cm.key (⟨(⟨⟨ck, cn, cs⟩, cm, cl⟩, .slice c1 c2 c3), cb, .slice c4 cb.length c6, ct, .slice c7 ct.length c9⟩ : Cm)) || hs (l.drop (j + 1)) (Cm.key (⟨(⟨⟨ck, cn, cs⟩, cm, cl⟩, .slice c1 c2 c3), cb, .slice c4 cb.length c6, ct, .slice c7 ct.length c9⟩ : Cm))) = R) := by show _ = _; rw [← hs_drop ht]; exact HRj.out
      have hsc := fun (X : World) (hX : Below wr.heap.size wr X) => sameC_any t (⟨(⟨⟨ck, cn, cs⟩, cm, cl⟩, .slice c1 c2 c3), cb, .slice c4 cb.length c6, ct, .slice c7 ct.length c9⟩ : Cm) X (hok.later hX) (((HK.out.later HW0.out).later HB.out).later hX)
      obtain ⟨e0, e1, e2, e3, e4, e5, e6⟩ := hr.seven ht
      obtain ⟨⟨t1, t2, t3, x1⟩, ⟨t4, t6, x2⟩, ⟨t7, t9, x3⟩, -, -⟩ := hok.shape
      simp only [same_key] at hsc
      by_cases hk : t.key = Cm.key (⟨(⟨⟨ck, cn, cs⟩, cm, cl⟩, .slice c1 c2 c3), cb, .slice c4 cb.length c6, ct, .slice c7 ct.length c9⟩ : Cm)
      · obtain rfl : true = R := by have := HS.out; rwa [decide_eq_true hk, Bool.true_or] at this
        simp only [decide_eq_true hk] at hsc
        clear HS hk HRj ht hr hok
        obtain ⟨⟨⟨⟨tk, tn, ts⟩, tm, tl⟩, tv⟩, tb, tbv, tt, ttv⟩ := t
        simp only at e0 e1 e2 e3 e4 e5 e6 x1 x2 x3
        subst x1 x2 x3
        have HSC : Hid (∀ X : World, Below wr.heap.size wr X → Calls Tryz.prog 9 #[Cm.v (⟨(⟨⟨tk, tn, ts⟩, tm, tl⟩, .slice t1 t2 t3), tb, .slice t4 tb.length t6, tt, .slice t7 tt.length t9⟩ : Cm), Cm.v (⟨(⟨⟨ck, cn, cs⟩, cm, cl⟩, .slice c1 c2 c3), cb, .slice c4 cb.length c6, ct, .slice c7 ct.length c9⟩ : Cm)] X fun e w' => e = .returned (.bool true) ∧ Below X.heap.size X w') := hsc
        clear hsc
        go_upto_region 4 with fail
        refine wp_region_held_drew (S := fun w' => Below wr.heap.size wr w') (by kernel_rfl) (Below.refl _ _).drew (fun hH => ?_)
        revert hH
        generalize wr.drew = V
        intro hH
        refine wpAnyH_take (i := 0) (oi := ⟨_, _, _, _, _, _⟩) (v := .slice (some ⟨b, o, none⟩) l.length cap) rfl (by kernel_rfl) (by kernel_rfl) (by kernel_rfl) (fun _ _ _ h => h) (Or.inl ⟨by rfl, fun w' h => by clear h; go_simp⟩) hH ?_
        simp only [Act.put, List.setIfInBounds_toArray, List.set_cons_zero, List.set_cons_succ]
        refine wpAnyH_take (i := 1) (oi := ⟨_, _, _, _, _, _⟩) (v := .int .i64 (j : Int)) rfl (by kernel_rfl) (by kernel_rfl) (by kernel_rfl) (fun _ _ _ h => h) (Or.inl ⟨by rfl, fun w' h => by clear h; go_simp⟩) hH ?_
        simp only [Act.put, List.setIfInBounds_toArray, List.set_cons_zero, List.set_cons_succ]
        refine wpAnyH_take (i := 2) (oi := ⟨_, _, _, _, _, _⟩) (v := .pointer (some ⟨b, o + j * 7, none⟩)) rfl (by kernel_rfl) (by kernel_rfl) (by kernel_rfl) (fun _ _ _ h => h) (Or.inl ⟨by rfl, fun w' h => by clear h; go_simp⟩) hH ?_
        simp only [Act.put, List.setIfInBounds_toArray, List.set_cons_zero, List.set_cons_succ]
        refine wpAnyH_take (i := 3) (oi := ⟨_, _, _, _, _, _⟩) (v := .agg #[.int .i64 tk, .int .i64 tn, .string ts, .string tm, .slice t1 t2 t3, .slice t4 tb.length t6, .slice t7 tt.length t9]) rfl (by kernel_rfl) (by kernel_rfl) (by kernel_rfl) (fun _ _ _ h => h) (Or.inl ⟨by rfl, fun w' h => by have z0 := cell_step h hbs e0; have z1 := cell_step h hbs e1; have z2 := cell_step h hbs e2; have z3 := cell_step h hbs e3; have z4 := cell_step h hbs e4; have z5 := cell_step h hbs e5; have z6 := cell_step h hbs e6; clear h; go_simp⟩) hH ?_
        simp only [Act.put, List.setIfInBounds_toArray, List.set_cons_zero, List.set_cons_succ]
        refine wpAnyH_take (i := 4) (oi := ⟨_, _, _, _, _, _⟩) (v := .agg #[.int .i64 ck, .int .i64 cn, .string cs, .string cm, .slice c1 c2 c3, .slice c4 cb.length c6, .slice c7 ct.length c9]) rfl (by kernel_rfl) (by kernel_rfl) (by kernel_rfl) (fun _ _ _ h => h) (Or.inl ⟨by rfl, fun w' h => by obtain ⟨z0, z1, z2, z3, z4, z5, z6⟩ := cseven (HXr.out.later h); clear h; go_simp⟩) hH ?_
        simp only [Act.put, List.setIfInBounds_toArray, List.set_cons_zero, List.set_cons_succ]
        refine wpAnyH_ready (rs := [5]) (by kernel_rfl) (by simp) ?_
        refine (AllReadyH.cons (o := ⟨_, _, _, _, _, _⟩) rfl (fun K hK => ?_) AllReadyH.nil)
        go_simp
        refine (HSC.out _ hH).mono ?_
        rintro x V2 ⟨rfl, hb⟩
        refine hK.out _ _ (below_step hH hb) (fun hH => ?_)
        clear hK K hb
        refine wpAnyH_done (by kernel_rfl) ?_ _
        go_wp2
        go_ret
        exact ⟨rfl, below_step HW0.out (below_step HB.out hH)⟩
      · have HS2 : Hid (hs (l.drop (j + 1)) (Cm.key (⟨(⟨⟨ck, cn, cs⟩, cm, cl⟩, .slice c1 c2 c3), cb, .slice c4 cb.length c6, ct, .slice c7 ct.length c9⟩ : Cm)) = R) := by have := HS.out; rwa [decide_eq_false hk, Bool.false_or] at this
        simp only [decide_eq_false hk] at hsc
        clear HS hk HRj ht hr hok
        obtain ⟨⟨⟨⟨tk, tn, ts⟩, tm, tl⟩, tv⟩, tb, tbv, tt, ttv⟩ := t
        simp only at e0 e1 e2 e3 e4 e5 e6 x1 x2 x3
        subst x1 x2 x3
        have HSC : Hid (∀ X : World, Below wr.heap.size wr X → Calls Tryz.prog 9 #[Cm.v (⟨(⟨⟨tk, tn, ts⟩, tm, tl⟩, .slice t1 t2 t3), tb, .slice t4 tb.length t6, tt, .slice t7 tt.length t9⟩ : Cm), Cm.v (⟨(⟨⟨ck, cn, cs⟩, cm, cl⟩, .slice c1 c2 c3), cb, .slice c4 cb.length c6, ct, .slice c7 ct.length c9⟩ : Cm)] X fun e w' => e = .returned (.bool false) ∧ Below X.heap.size X w') := hsc
        clear hsc
        go_upto_region 4 with fail
        refine wp_region_held_drew (S := fun w' => Below wr.heap.size wr w') (by kernel_rfl) (Below.refl _ _).drew (fun hH => ?_)
        revert hH
        generalize wr.drew = V
        intro hH
        refine wpAnyH_take (i := 0) (oi := ⟨_, _, _, _, _, _⟩) (v := .slice (some ⟨b, o, none⟩) l.length cap) rfl (by kernel_rfl) (by kernel_rfl) (by kernel_rfl) (fun _ _ _ h => h) (Or.inl ⟨by rfl, fun w' h => by clear h; go_simp⟩) hH ?_
        simp only [Act.put, List.setIfInBounds_toArray, List.set_cons_zero, List.set_cons_succ]
        refine wpAnyH_take (i := 1) (oi := ⟨_, _, _, _, _, _⟩) (v := .int .i64 (j : Int)) rfl (by kernel_rfl) (by kernel_rfl) (by kernel_rfl) (fun _ _ _ h => h) (Or.inl ⟨by rfl, fun w' h => by clear h; go_simp⟩) hH ?_
        simp only [Act.put, List.setIfInBounds_toArray, List.set_cons_zero, List.set_cons_succ]
        refine wpAnyH_take (i := 2) (oi := ⟨_, _, _, _, _, _⟩) (v := .pointer (some ⟨b, o + j * 7, none⟩)) rfl (by kernel_rfl) (by kernel_rfl) (by kernel_rfl) (fun _ _ _ h => h) (Or.inl ⟨by rfl, fun w' h => by clear h; go_simp⟩) hH ?_
        simp only [Act.put, List.setIfInBounds_toArray, List.set_cons_zero, List.set_cons_succ]
        refine wpAnyH_take (i := 3) (oi := ⟨_, _, _, _, _, _⟩) (v := .agg #[.int .i64 tk, .int .i64 tn, .string ts, .string tm, .slice t1 t2 t3, .slice t4 tb.length t6, .slice t7 tt.length t9]) rfl (by kernel_rfl) (by kernel_rfl) (by kernel_rfl) (fun _ _ _ h => h) (Or.inl ⟨by rfl, fun w' h => by have z0 := cell_step h hbs e0; have z1 := cell_step h hbs e1; have z2 := cell_step h hbs e2; have z3 := cell_step h hbs e3; have z4 := cell_step h hbs e4; have z5 := cell_step h hbs e5; have z6 := cell_step h hbs e6; clear h; go_simp⟩) hH ?_
        simp only [Act.put, List.setIfInBounds_toArray, List.set_cons_zero, List.set_cons_succ]
        refine wpAnyH_take (i := 4) (oi := ⟨_, _, _, _, _, _⟩) (v := .agg #[.int .i64 ck, .int .i64 cn, .string cs, .string cm, .slice c1 c2 c3, .slice c4 cb.length c6, .slice c7 ct.length c9]) rfl (by kernel_rfl) (by kernel_rfl) (by kernel_rfl) (fun _ _ _ h => h) (Or.inl ⟨by rfl, fun w' h => by obtain ⟨z0, z1, z2, z3, z4, z5, z6⟩ := cseven (HXr.out.later h); clear h; go_simp⟩) hH ?_
        simp only [Act.put, List.setIfInBounds_toArray, List.set_cons_zero, List.set_cons_succ]
        refine wpAnyH_ready (rs := [5]) (by kernel_rfl) (by simp) ?_
        refine (AllReadyH.cons (o := ⟨_, _, _, _, _, _⟩) rfl (fun K hK => ?_) AllReadyH.nil)
        go_simp
        refine (HSC.out _ hH).mono ?_
        rintro x V2 ⟨rfl, hb⟩
        refine hK.out _ _ (below_step hH hb) (fun hH => ?_)
        clear hK K hb
        refine wpAnyH_done (by kernel_rfl) ?_ _
        go_wp2
        go_roundg g
        case measure => omega
        case rel => exact ⟨j + 1, by omega, by go_num, HS2.out, below_step HB.out hH⟩
    | zero =>
      obtain rfl : j = l.length := by omega
      obtain rfl : false = R := by have := HRj.out; rw [List.drop_length] at this; exact this
      have hz : ¬ ((l.length : Int) < (l.length : Int)) := by omega
      go_wp2
      go_ret
      exact ⟨rfl, below_step HW0.out HB.out⟩
end Go.Proofs.YtelcoihmiglceaaGreat

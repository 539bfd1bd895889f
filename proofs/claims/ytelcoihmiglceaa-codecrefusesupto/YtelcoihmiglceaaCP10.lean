/-
  CodecRefuses: the walk. (Written by CP10.py.)
-/
import Derived.Test.YtelcoihmiglceaaCP9
import Derived.Deep.RegionHeld3
namespace Go.Proofs.Ytelcoihmiglceaa
open Go.RowKit
attribute [local go_sem ↓] Go.wp_at_zero Go.wp_at_succ

/-- How much there is in the steps. -/
def wk : List Sk → Nat
  | [] => 0
  | s :: l => 1 + s.2.1.length + s.2.2.length + wk l
theorem wk_map {l : List Sk} {f : Sk → Sk} (h : ∀ s, (f s).2.1.length = s.2.1.length ∧ (f s).2.2.length = s.2.2.length) : wk (l.map f) = wk l := by
  induction l with
  | nil => rfl
  | cons s l ih => simp only [List.map_cons, wk, ih, (h s).1, (h s).2]
theorem wk_app (l m : List Sk) : wk (l ++ m) = wk l + wk m := by
  induction l with
  | nil => simp [wk]
  | cons s l ih => simp only [List.cons_append, wk, ih]; omega
theorem wk_mem {l : List Sk} {s : Sk} (h : s ∈ l) : s.2.1.length + s.2.2.length + 1 ≤ wk l := by
  induction l with
  | nil => simp at h
  | cons a l ih =>
    unfold wk
    rcases List.mem_cons.1 h with rfl | h
    · omega
    · have := ih h; omega
theorem wk_len (l : List Sk) : l.length ≤ wk l := by
  induction l with
  | nil => simp
  | cons a l ih => simp only [List.length_cons, wk]; omega
theorem flatT_le {l : List Tm} (h : ∀ t ∈ l, knd t) : (l.flatMap tB).length ≤ l.length * 73 := by
  induction l with
  | nil => simp
  | cons a l ih =>
    have h1 := (tB_len a).2
    have h2 := (h a (by simp)).2
    have h3 := ih fun t ht => h t (by simp [ht])
    simp only [List.flatMap_cons, List.length_append, List.length_cons]; omega
theorem flatN_eq (l : List Int) : (l.flatMap nB).length = l.length * 8 := by
  induction l with
  | nil => simp
  | cons a l ih => simp only [List.flatMap_cons, List.length_append, List.length_cons, nB_len, ih]; omega
theorem flatS_le {l : List St} (h : ∀ s ∈ l, wSt s = true) : (l.flatMap sBm).length ≤ wk (l.map St.key) * 80 := by
  induction l with
  | nil => simp
  | cons a l ih =>
    have h1 := h a (by simp)
    unfold wSt wOk at h1
    rw [Bool.and_eq_true] at h1
    have h2 := flatT_le (l := a.vals) fun t ht => knd_con (List.all_eq_true.1 h1.1 t ht)
    have h3 := flatN_eq a.uses
    have h4 := ih fun s hs => h s (by simp [hs])
    have h5 : (sBm a).length = 16 + (a.vals.flatMap tB).length + (a.uses.flatMap nB).length := stB_parts a.key
    have e1 : (St.key a).2.1 = a.vals := rfl
    have e2 : (St.key a).2.2 = a.uses := rfl
    simp only [List.flatMap_cons, List.length_append, List.map_cons, wk, e1, e2]
    omega
theorem flatC_le {l : List Cm} (h : ∀ c ∈ l, c.chk = 0) : (l.flatMap cBm).length ≤ l.length * 20000 := by
  induction l with
  | nil => simp
  | cons a l ih =>
    have h1 : (cBm a).length ≤ 20000 := cB_len (h a (by simp))
    have h2 := ih fun c hc => h c (by simp [hc])
    simp only [List.flatMap_cons, List.length_append, List.length_cons]; omega
theorem wOk_made (s : Sk) : wOk (madeS s) = true := by
  unfold wOk madeS
  simp only [Bool.and_eq_true, List.all_eq_true, List.mem_map, decide_eq_true_eq]
  refine ⟨fun t ht => ?_, fun n hn => ?_, nat8_nn _⟩
  · obtain ⟨u, -, rfl⟩ := ht; exact mkC_con u
  · obtain ⟨u, -, rfl⟩ := hn; exact nat8_nn u
theorem wst_rule {a : List Tm} {b : Value} {c : List Int} {d : Value} {N : Int} (h : N < 0) : wSt ⟨N, a, b, c, d⟩ = false := by
  unfold wSt wOk St.key
  simp only
  rw [decide_eq_false (by omega), Bool.and_false, Bool.and_false]
theorem wst_uses {r : Int} {a : List Tm} {b : Value} {c : List Int} {d : Value} {N : Int} (h : N < 0) : wSt ⟨r, a, b, c ++ [N], d⟩ = false := by
  unfold wSt wOk St.key
  simp only [List.all_append, List.all_cons, List.all_nil, Bool.and_true]
  rw [decide_eq_false (show ¬ (0 ≤ N) by omega), Bool.and_false, Bool.false_and, Bool.and_false]
theorem wst_vals {r : Int} {a : List Tm} {b : Value} {c : List Int} {d : Value} (k : Int) (s : ByteArray) : wSt ⟨r, a ++ [⟨3, k, s⟩], b, c, d⟩ = false := by
  unfold wSt wOk St.key
  simp only [List.all_append, List.all_cons, List.all_nil, Bool.and_true]
  rw [show Tm.con ⟨3, k, s⟩ = false by simp [Tm.con], Bool.and_false, Bool.false_and]
theorem pErr_no {R : List Cm} {S : List St} {K : Nat} {s s' : St} (hR : fErr R = 0) (hK : S[K]? = some s) (h : wSt s' = false) : pErr R (S.set K s') = 63 := by
  unfold pErr
  rw [if_pos hR, if_neg]
  intro ha
  have hk : K < (S.set K s').length := by rw [List.length_set]; exact (List.getElem?_eq_some_iff.1 hK).1
  have := List.all_eq_true.1 ha s' (by rw [List.mem_iff_getElem?]; exact ⟨K, by rw [List.getElem?_set_self (by simpa using hk)]⟩)
  rw [h] at this; cases this
theorem prN {w X : World} {G : Nat} {rv sv : Value} {R : List Cm} {S : List St} {E : Int} (h : FN w G X rv sv R S) (hwf : ∀ c ∈ R, c.wf) (hl1 : R.length ≤ 1000000000000) (hl2 : S.length ≤ 1000000000000) (hE : pErr R S = E) (h0 : E ≠ 0) :
    Calls Try.prog 7 #[.agg #[rv, sv]] X fun e w' => ∃ a cap, e = .returned (.tuple #[.slice a 0 cap, .int .i64 E]) ∧ Below X.heap.size X w' := by
  refine (proofW_any R S rv sv X h.cs h.ss hwf hl1 hl2 (fun h1 h2 => ?_)).mono ?_
  · exfalso
    unfold pErr at hE
    rw [if_pos h1, if_pos h2] at hE
    exact h0 hE.symm
  · rintro e w' ⟨v, rfl, hn, hb⟩
    rw [hE, if_neg h0] at hn
    obtain ⟨a, cap, rfl, -⟩ := hn
    exact ⟨a, cap, by rw [hE]; rfl, hb⟩
theorem prY {w X : World} {G : Nat} {rv sv : Value} {R : List Cm} {S : List St} (h : FN w G X rv sv R S) (hwf : ∀ c ∈ R, c.wf) (hl1 : R.length ≤ 1000000000000) (hl2 : S.length ≤ 1000000000000) (hE : pErr R S = 0) (hbd : (R.flatMap cBm).length + (S.flatMap sBm).length ≤ 90000000000) :
    Calls Try.prog 7 #[.agg #[rv, sv]] X fun e w' => ∃ (a : Option Addr) (n cap : Nat), e = .returned (.tuple #[.slice a n cap, .int .i64 0]) ∧ (0 : Int) < (n : Int) ∧ Below X.heap.size X w' := by
  refine (proofW_any R S rv sv X h.cs h.ss hwf hl1 hl2 (fun _ _ => hbd)).mono ?_
  rintro e w' ⟨v, rfl, hn, hb⟩
  rw [hE, if_pos rfl] at hn
  obtain ⟨a, cap, rfl, -⟩ := hn
  exact ⟨a, _, cap, by rw [hE], by unfold pB; simp only [List.length_append, be_len]; omega, hb⟩
set_option maxRecDepth 20000 in
set_option maxHeartbeats 1500000 in
theorem codecRefuses_any (R : List Cm) (S : List St) (rv sv : Value) (kd at_ to_ : Int) (w : World) (hR : CsP w rv R) (hS : SsP w sv S) (hlR : R.length ≤ 2000000) (hwS : wk (S.map St.key) ≤ 2000000)
    (hrg : ∀ s ∈ S, -9223372036854775808 ≤ s.rule ∧ ∀ n ∈ s.uses, -9223372036854775808 ≤ n) (ht0 : -9223372036854775808 ≤ to_) (ht1 : to_ ≤ 9223372036854775807) :
    Calls Try.prog 3 #[.agg #[rv, sv], .agg #[.int .i64 kd, .int .i64 at_, .int .i64 to_]] w fun e w' => e = .returned (.bool true) ∧ Below w.heap.size w w' := by
  have hlS : S.length ≤ 2000000 := by have := wk_len (S.map St.key); rw [List.length_map] at this; omega
  have hmS : ∀ s ∈ S, s.vals.length ≤ 2000000 ∧ s.uses.length ≤ 2000000 := fun s hs => by
    have := wk_mem (List.mem_map_of_mem (f := St.key) hs)
    have e1 : (St.key s).2.1 = s.vals := rfl
    have e2 : (St.key s).2.2 = s.uses := rfl
    rw [e1, e2] at this; omega
  have HBY : Hid (∀ X : World, Below w.heap.size w X → Calls Try.prog 5 #[.slice none 0 0, .agg #[rv, sv], .slice none 0 0] X fun e w' => YesNo e ∧ Below X.heap.size X w') := fun X hX => beyond_any [] R S _ rv sv none 0 0 X ⟨Or.inl ⟨rfl, rfl⟩, fun c hc => by simp at hc⟩ (hR.later hX) (hS.later hX) (by simp) (by omega) (by omega)
  have HMP : Hid (∀ X : World, Below w.heap.size w X → Calls Try.prog 6 #[.agg #[rv, sv]] X (MPP X R S)) := fun X hX => madeProof_any R S rv sv X (hR.later hX) (hS.later hX) (by omega) (by omega) (fun s hs => by have := hmS s hs; omega) hrg
  have HWS : Hid (wk (S.map St.key) ≤ 2000000) := hwS
  have HMS : Hid (∀ s ∈ S, s.vals.length ≤ 2000000 ∧ s.uses.length ≤ 2000000) := hmS
  obtain ⟨ra, rc, rfl⟩ := hR.form
  obtain ⟨sa, sc, rfl⟩ := hS.form
  have HP0 : Hid (CBlk ((w.alloc (.cells #[.slice ra R.length rc, .slice sa S.length sc] 25)).alloc (.cells #[.int .i64 kd, .int .i64 at_, .int .i64 to_] 27)) w.heap.size #[.slice ra R.length rc, .slice sa S.length sc] 25) := (CBlk.new _ _ _).later (below1 _ _)
  have HQ0 : Hid (CBlk ((w.alloc (.cells #[.slice ra R.length rc, .slice sa S.length sc] 25)).alloc (.cells #[.int .i64 kd, .int .i64 at_, .int .i64 to_] 27)) (w.heap.size + 1) #[.int .i64 kd, .int .i64 at_, .int .i64 to_] 27) := by
    have := CBlk.new (w.alloc (.cells #[.slice ra R.length rc, .slice sa S.length sc] 25)) #[.int .i64 kd, .int .i64 at_, .int .i64 to_] 27
    rwa [show (w.alloc (.cells #[.slice ra R.length rc, .slice sa S.length sc] 25)).heap.size = w.heap.size + 1 by simp] at this
  clear hR hS hrg hmS hwS
  go_enter Try.func3, Try.ntmps3
  obtain ⟨p0, p1⟩ := ctwo HP0.out
  go_upto_if 12 with (go_at_call 5; refine (HBY.out _ (below2 _ _ _)).mono ?_; clear HBY; rintro e w1 ⟨⟨bb, rfl⟩, hb⟩; have HP1 : Hid (CBlk w1 w.heap.size _ 25) := HP0.out.later hb; have HQ1 : Hid (CBlk w1 (w.heap.size + 1) _ 27) := HQ0.out.later hb; have HW1 : Hid (Below w.heap.size w w1) := below_step (below2 _ _ _) hb; clear hb p0 p1)
  clear HP0 HQ0
  cases bb
  case true =>
    go_wp2
    go_ret
    exact ⟨rfl, HW1.out⟩
  obtain ⟨p0, p1⟩ := ctwo HP1.out
  obtain ⟨mR, hmR⟩ : ∃ m, m = R.length := ⟨_, rfl⟩
  obtain ⟨mS, hmS⟩ : ∃ m, m = S.length := ⟨_, rfl⟩
  have HmR : Hid (mR = R.length ∧ mS = S.length) := ⟨hmR, hmS⟩
  clear hmR hmS
  go_upto_region 4 with (go_at_call 6; refine (HMP.out _ HW1.out).mono ?_; clear HMP; rintro e w2 ⟨rv', sv', R', S', M, rfl, hrk, hsk, hom, hos, hlo, hwM, hMs, hb⟩; obtain ⟨ma, mc, e1⟩ := hom.o.form; obtain ⟨na, nc, e2⟩ := hos.o.form; have el1 : R'.length = mR := (by have := congrArg List.length hrk; simp only [List.length_map] at this; rw [this, HmR.out.1]); have el2 : S'.length = mS := (by have := congrArg List.length hsk; simp only [List.length_map] at this; rw [this, HmR.out.2]); rw [el1] at e1; rw [el2] at e2; subst e1 e2; have HL3 : Hid (LSt w w1.heap.size M w2.heap.size (w2.alloc (.cells #[.slice ma mR mc, .slice na mS nc] 25)) (.slice ma mR mc) (.slice na mS nc) R' S' kd at_ to_) := ⟨hom.later (below1 _ _), hos.later (below1 _ _), hlo, CBlk.new _ _ _, (HQ1.out.later hb).later (below1 _ _), below_step (below_step HW1.out hb) (below1 _ _), HW1.out.size, hwM, Nat.le_trans hMs (by simp), Nat.le_trans HW1.out.size hb.size⟩; have HRK : Hid (R'.map Cm.key = R.map (fun c => madeK c.key)) := hrk; have HSK0 : Hid (S'.map St.key = S.map (fun s => madeS s.key)) := hsk; have HEL : Hid (R'.length = mR ∧ S'.length = mS) := ⟨el1, el2⟩; clear hrk hsk hom hos hlo hwM hMs hb el1 el2 p0 p1)
  clear HP1 HQ1
  revert HL3
  generalize w2.alloc (.cells #[.slice ma mR mc, .slice na mS nc] 25) = X3
  generalize w2.heap.size = G
  generalize w1.heap.size = B
  intro HL3
  obtain ⟨c0, c1⟩ := ctwo HL3.out.bp
  have hs3 := HL3.out.hX
  have hm3 := HL3.out.hM
  have hG3 := HL3.out.bp.lt
  have lR : mR ≤ 2000000 := by rw [HmR.out.1]; exact hlR
  have lS : mS ≤ 2000000 := by rw [HmR.out.2]; exact hlS
  go_upto_region 5 with (at_builtin; refine capp_one rfl _ _ rfl B (.slice ma mR mc) R' rfl (HL3.out.om.o.later (below1 _ _)) X3.heap.size cP rfl (show CBlk _ _ cP.cs _ from CBlk.new _ _ _) (W := X3) ((cP_mcl 0 X3).ok8 cP_ks) (by rw [HEL.out.1]; omega) (by simp; omega) ?_; intro v4 w4 hown hb4 hg4 hv4; obtain ⟨r1, r3, e5⟩ := hown.form; have e6 : v4 = .slice r1 (mR + 1) r3 := (by rw [e5]; simp [HEL.out.1]); clear e5; subst e6; have HK4 : Hid (Kt 38 X3 w4) := (Kt.of (below1 _ _)).trans (row_grown (HL3.out.om.o.later (below1 _ _)) hg4); have HL4 : Hid (LSt w B M G (w4.setCell ⟨G, 0, none⟩ (.slice r1 (mR + 1) r3)) (.slice r1 (mR + 1) r3) (.slice na mS nc) (R' ++ [cP]) S' kd at_ to_) := HL3.out.rule hown HK4.out (((below1 X3 _).mono (by omega)).trans hb4); have HD4 : Hid (CBlk w4 G _ 25) := HL3.out.bp.kt HK4.out (by decide); clear c0 c1; obtain ⟨c0, c1⟩ := ctwo HD4.out; have f0 : w4.frozen? ⟨G, 0, none⟩ = false := HD4.out.froz; clear hown hb4 hg4 hv4)
  clear c0 c1 f0 HD4 HK4 HL3 hs3 hm3 hG3
  revert HL4
  generalize w4.setCell ⟨G, 0, none⟩ (.slice r1 (mR + 1) r3) = X4
  intro HL4
  obtain ⟨c0, c1⟩ := ctwo HL4.out.bp
  have hs4 := HL4.out.hX
  have hG4 := HL4.out.bp.lt
  obtain ⟨r2, hr2⟩ : ∃ n, n = mR + 1 := ⟨_, rfl⟩
  obtain ⟨n1, hn1⟩ : ∃ n, n = mS + 1 := ⟨_, rfl⟩
  rw [← hr2] at HL4 c0 ⊢
  have HR2 : Hid (r2 = mR + 1) := hr2
  have HN1 : Hid (n1 = mS + 1) := hn1
  have n0 : 0 < n1 := by omega
  have n9 : n1 ≤ 2000001 := by omega
  clear hr2 hn1
  have HX2 : Hid (Below X4.heap.size X4 ((X4.alloc (.cells #[.int .i64 1, .int .i64 0, .string ⟨#[]⟩] 31)).alloc (.cells #[.int .i64 0] 3))) := below2 _ _ _
  have HOV : Hid (OwnT ((X4.alloc (.cells #[.int .i64 1, .int .i64 0, .string ⟨#[]⟩] 31)).alloc (.cells #[.int .i64 0] 3)) X4.heap.size (.slice (some ⟨X4.heap.size, 0, none⟩) 1 1) [⟨1, 0, ⟨#[]⟩⟩]) := (ownT_lit1 (t := ⟨1, 0, ⟨#[]⟩⟩) (CBlk.new X4 _ _) (Nat.le_refl _)).later (below1 _ _)
  have HOU : Hid (OwnN ((X4.alloc (.cells #[.int .i64 1, .int .i64 0, .string ⟨#[]⟩] 31)).alloc (.cells #[.int .i64 0] 3)) X4.heap.size (.slice (some ⟨X4.heap.size + 1, 0, none⟩) 1 1) [0]) := by
    have := CBlk.new (X4.alloc (.cells #[.int .i64 1, .int .i64 0, .string ⟨#[]⟩] 31)) #[.int .i64 0] 3
    rw [show (X4.alloc (.cells #[.int .i64 1, .int .i64 0, .string ⟨#[]⟩] 31)).heap.size = X4.heap.size + 1 by simp] at this
    exact ownN_lit1 this (Nat.le_succ _)
  obtain ⟨sN, hsN⟩ : ∃ s : St, s = ⟨0, [⟨1, 0, ⟨#[]⟩⟩], .slice (some ⟨X4.heap.size, 0, none⟩) 1 1, [0], .slice (some ⟨X4.heap.size + 1, 0, none⟩) 1 1⟩ := ⟨_, rfl⟩
  have HSN : Hid (sN = ⟨0, [⟨1, 0, ⟨#[]⟩⟩], .slice (some ⟨X4.heap.size, 0, none⟩) 1 1, [0], .slice (some ⟨X4.heap.size + 1, 0, none⟩) 1 1⟩) := hsN
  have HOK : Hid (sN.ok ((X4.alloc (.cells #[.int .i64 1, .int .i64 0, .string ⟨#[]⟩] 31)).alloc (.cells #[.int .i64 0] 3))) := by rw [hsN]; exact sapp_one9 (row_mono HOV.out (Nat.zero_le _)) (row_mono HOU.out (Nat.zero_le _)) (by simp) (by simp)
  clear hsN
  go_upto_region 6 with (at_builtin; refine sapp_one rfl _ _ rfl M (.slice na mS nc) S' rfl ((HL4.out.later HX2.out).os.o.later (below1 _ _)) (X4.heap.size + 1 + 1) sN rfl (by rw [HSN.out]; have := CBlk.new ((X4.alloc (.cells #[.int .i64 1, .int .i64 0, .string ⟨#[]⟩] 31)).alloc (.cells #[.int .i64 0] 3)) #[.int .i64 0, .slice (some ⟨X4.heap.size, 0, none⟩) 1 1, .slice (some ⟨X4.heap.size + 1, 0, none⟩) 1 1] 41; rwa [show ((X4.alloc (.cells #[.int .i64 1, .int .i64 0, .string ⟨#[]⟩] 31)).alloc (.cells #[.int .i64 0] 3)).heap.size = X4.heap.size + 1 + 1 by simp] at this) HOK.out (by rw [HEL.out.2]; omega) (by simp; omega) ?_; intro v5 w5 hown hb5 hg5 hv5; obtain ⟨s1, s3, e5⟩ := hown.form; have e6 : v5 = .slice s1 n1 s3 := (by rw [e5]; simp [HEL.out.2, HN1.out]); clear e5; subst e6; have HK5 : Hid (Kt 41 ((X4.alloc (.cells #[.int .i64 1, .int .i64 0, .string ⟨#[]⟩] 31)).alloc (.cells #[.int .i64 0] 3)) w5) := (Kt.of (below1 _ _)).trans (row_grown ((HL4.out.later HX2.out).os.o.later (below1 _ _)) hg5); have HL5 : Hid (LSt w B M G (w5.setCell ⟨G, 1, none⟩ (.slice s1 n1 s3)) (.slice r1 r2 r3) (.slice s1 n1 s3) (R' ++ [cP]) (S' ++ [sN]) kd at_ to_) := HL4.out.step HX2.out (by rw [HSN.out]; exact HOV.out) (by rw [HSN.out]; exact HOU.out) hown HK5.out (((below1 _ _).mono (by simp; omega)).trans hb5); have HD5 : Hid (CBlk w5 G _ 25) := (HL4.out.bp.later HX2.out).kt HK5.out (by decide); clear c0 c1; obtain ⟨c0, c1⟩ := ctwo HD5.out; have f1 : w5.frozen? ⟨G, 1, none⟩ = false := HD5.out.froz; clear hown hb5 hg5 hv5)
  clear c0 c1 f1 HD5 HK5 HX2 HOV HOU HOK hs4 hG4
  have HKEYS : Hid (sN.key = (0, [⟨1, 0, ⟨#[]⟩⟩], [0])) := by show _ = _; rw [HSN.out]; rfl
  clear HSN HL4
  revert HL5
  generalize w5.setCell ⟨G, 1, none⟩ (.slice s1 n1 s3) = X5
  intro HL5
  -- plain facts
  have hmem : ∀ c ∈ R', ∃ x, c.key = madeK x := fun c hc => by
    have : c.key ∈ R'.map Cm.key := List.mem_map_of_mem hc
    rw [HRK.out] at this
    obtain ⟨d, -, e⟩ := List.mem_map.1 this
    exact ⟨_, e.symm⟩
  have hSm : ∀ s ∈ S', ∃ x ∈ S, s.key = madeS x.key := fun s hs => by
    have : s.key ∈ S'.map St.key := List.mem_map_of_mem hs
    rw [HSK0.out] at this
    obtain ⟨d, hd, e⟩ := List.mem_map.1 this
    exact ⟨d, hd, e.symm⟩
  obtain ⟨R2, hR2⟩ : ∃ l, R' ++ [cP] = l := ⟨_, rfl⟩
  obtain ⟨S2, hS2⟩ : ∃ l, S' ++ [sN] = l := ⟨_, rfl⟩
  have hchk : ∀ c ∈ R2, c.chk = 0 := fun c hc => by
    rw [← hR2] at hc
    rcases List.mem_append.1 hc with hc | hc
    · obtain ⟨x, e⟩ := hmem c hc; exact made_chk nmP_ok e
    · rw [List.mem_singleton] at hc; subst hc; exact cP_chk
  have hwf : ∀ c ∈ R2, c.wf := fun c hc => by
    rw [← hR2] at hc
    rcases List.mem_append.1 hc with hc | hc
    · obtain ⟨x, e⟩ := hmem c hc; exact made_wf e
    · rw [List.mem_singleton] at hc; subst hc; exact cP_wf
  have hks : ∀ c ∈ R2, KS c.key := fun c hc => by
    rw [← hR2] at hc
    rcases List.mem_append.1 hc with hc | hc
    · obtain ⟨x, e⟩ := hmem c hc; rw [e]; exact (made_val nmP_ok x).ks
    · rw [List.mem_singleton] at hc; subst hc; exact cP_ks
  have hsh : Sh S2 := fun s hs => by
    rw [← hS2] at hs
    rcases List.mem_append.1 hs with hs | hs
    · obtain ⟨x, hx, e⟩ := hSm s hs
      have h1 := HMS.out x hx
      have e1 : s.vals = x.vals.map mkC := congrArg (fun k : Sk => k.2.1) e
      have e2 : s.uses = x.uses.map nat8 := congrArg (fun k : Sk => k.2.2) e
      rw [e1, e2, List.length_map, List.length_map]; omega
    · rw [List.mem_singleton] at hs; subst hs
      have e1 : s.vals = [⟨1, 0, ⟨#[]⟩⟩] := congrArg (fun k : Sk => k.2.1) HKEYS.out
      have e2 : s.uses = [0] := congrArg (fun k : Sk => k.2.2) HKEYS.out
      rw [e1, e2]; simp
  have hwo : ∀ s ∈ S2, wSt s = true := fun s hs => by
    rw [← hS2] at hs
    unfold wSt
    rcases List.mem_append.1 hs with hs | hs
    · obtain ⟨x, hx, e⟩ := hSm s hs; rw [e]; exact wOk_made _
    · rw [List.mem_singleton] at hs; subst hs; rw [HKEYS.out]; decide
  have hwk : wk (S2.map St.key) ≤ 2000003 := by
    rw [← hS2, List.map_append, wk_app, HSK0.out, List.map_cons, List.map_nil, HKEYS.out]
    have := wk_map (l := S.map St.key) (f := madeS) (fun s => by simp [madeS])
    rw [List.map_map] at this
    have e : (S.map fun s => madeS s.key) = S.map (madeS ∘ St.key) := rfl
    rw [e, this]
    have := HWS.out
    simp only [wk, List.length_cons, List.length_nil]; omega
  have hl2 : S2.length = n1 := by rw [← hS2, List.length_append, HEL.out.2, HN1.out]; rfl
  have hl1 : R2.length = r2 := by rw [← hR2, List.length_append, HEL.out.1, HR2.out]; rfl
  have r9 : r2 ≤ 2000001 := by have := HR2.out; omega
  rw [hR2, hS2] at HL5
  have HKS : Hid (∀ c ∈ R2, KS c.key) := hks
  have HSH : Hid (Sh S2) := hsh
  have HVR : Hid ((∀ c ∈ R2, c.wf) ∧ fErr R2 = 0) := ⟨hwf, fErr_all hchk⟩
  have HLR : Hid (R2.length ≤ 1000000000000) := by show _ ≤ _; omega
  have HLS : Hid (S2.length ≤ 1000000000000) := by show _ ≤ _; omega
  have HYE : Hid (pErr R2 S2 = 0 ∧ (R2.flatMap cBm).length + (S2.flatMap sBm).length ≤ 90000000000) := by
    refine ⟨?_, ?_⟩
    · unfold pErr; rw [if_pos (fErr_all hchk), if_pos (List.all_eq_true.2 hwo)]
    · have h1 := flatC_le hchk
      have h2 := flatS_le hwo
      omega
  have HRR : Hid (R' ++ [cP] = R2 ∧ R'.length + 1 = r2 ∧ (∀ c ∈ R', c.chk = 0) ∧ (∀ c ∈ R', c.wf) ∧ ∀ c ∈ R', KS c.key) := ⟨hR2, by have := HEL.out.1; have := HR2.out; omega, fun c hc => hchk c (by rw [← hR2]; exact List.mem_append_left _ hc), fun c hc => hwf c (by rw [← hR2]; exact List.mem_append_left _ hc), fun c hc => hks c (by rw [← hR2]; exact List.mem_append_left _ hc)⟩
  have HS2L : Hid (S2.length = n1) := hl2
  clear hmem hSm hchk hwf hks hsh hwo hwk hl1 hl2 hR2 hS2 HRK HSK0 HKEYS HEL HmR HWS HMS hlR hlS HR2 HN1
  obtain ⟨gS, rfl⟩ : ∃ g, s1 = some ⟨g, 0, none⟩ := by
    rcases HL5.out.os.o.2 with ⟨hv, hn⟩ | ⟨g, cap, cur, hv, -⟩
    · have := HS2L.out; omega
    · simp only [Value.slice.injEq] at hv; exact ⟨g, hv.1⟩
  obtain ⟨gR, rfl⟩ : ∃ g, r1 = some ⟨g, 0, none⟩ := by
    rcases HL5.out.om.o.2 with ⟨hv, hn⟩ | ⟨g, cap, cur, hv, -⟩
    · have := HRR.out.1; rw [← this] at hn; simp at hn
    · simp only [Value.slice.injEq] at hv; exact ⟨g, hv.1⟩
  have HL : Hid (LSt w B M G X5 (.slice (some ⟨gR, 0, none⟩) r2 r3) (.slice (some ⟨gS, 0, none⟩) n1 s3) R2 S2 kd at_ to_) := HL5.out
  clear HL5
  -- the numbers
  obtain ⟨K0, hK0⟩ : ∃ k, at_.tmod (n1 : Int) = k := ⟨_, rfl⟩
  have HK0 : Hid (at_.tmod (n1 : Int) = K0) := hK0
  have hK1 : -(n1 : Int) < K0 ∧ K0 < (n1 : Int) := by
    have h1 := Int.tmod_lt_of_pos at_ (show (0 : Int) < (n1 : Int) by omega)
    have h2 := Int.lt_tmod_of_pos at_ (show (0 : Int) < (n1 : Int) by omega)
    omega
  obtain ⟨K, hKn, hK⟩ : ∃ K : Nat, K < n1 ∧ (K : Int) = if K0 < 0 then K0 + n1 else K0 := by
    by_cases h : K0 < 0
    · exact ⟨(K0 + n1).toNat, by omega, by rw [if_pos h]; omega⟩
    · exact ⟨K0.toNat, by omega, by rw [if_neg h]; omega⟩
  obtain ⟨N, hN⟩ : ∃ n, (if 0 ≤ to_ then -to_ - 1 else to_) = n := ⟨_, rfl⟩
  have hNN : N < 0 := by rw [← hN]; split <;> omega
  have HNN : Hid (N < 0) := hNN
  have HNE : Hid ((if 0 ≤ to_ then -to_ - 1 else to_) = N) := hN
  have HKE : Hid ((K : Int) = if K0 < 0 then K0 + n1 else K0) := hK
  clear hK0 hN hNN hK
  have nz : ¬ ((n1 : Int) = 0) := by omega
  obtain ⟨c0, c1⟩ := ctwo HL.out.bp
  obtain ⟨d0, d1, d2⟩ := cthree HL.out.bb
  go_cut [6] from 31 (fun s6 wx => s6 = .int .i64 K0 ∧ wx = X5)
  case first =>
    go_wp2
    go_meet
    case rel => exact ⟨by first | rw [HK0.out] | (rw [HK0.out]; rfl) | trace_state, rfl⟩
  case rest =>
  obtain ⟨rfl, hwx⟩ := hcut
  have hwx' := hwx.symm
  clear hwx
  subst hwx'
  clear HK0 nz
  go_upto_if 38 with fail
  go_cut [6] from 37 (fun s6 wx => s6 = .int .i64 (K : Int) ∧ wx = X5)
  case first =>
    by_cases h0 : K0 < 0
    · have HE : Hid ((K : Int) = K0 + n1) := by have := HKE.out; rwa [if_pos h0] at this
      clear HKE
      go_wp2
      go_meet
      case rel => exact ⟨by first | rw [HE.out] | trace_state, rfl⟩
    · have HE : Hid ((K : Int) = K0) := by have := HKE.out; rwa [if_neg h0] at this
      clear HKE
      go_wp2
      go_meet
      case rel => exact ⟨by first | rw [HE.out] | trace_state, rfl⟩
  case rest =>
  obtain ⟨rfl, hwx⟩ := hcut
  have hwx' := hwx.symm
  clear hwx
  subst hwx'
  clear HKE hK1
  go_upto_if 47 with fail
  go_cut [7] from 46 (fun s7 wx => s7 = .int .i64 N ∧ wx = X5)
  case first =>
    by_cases h0 : 0 ≤ to_
    · have HE : Hid (-to_ - 1 = N) := by have := HNE.out; rwa [if_pos h0] at this
      clear HNE
      go_wp2
      go_meet
      case rel => exact ⟨by first | rw [HE.out] | trace_state, rfl⟩
    · have HE : Hid (to_ = N) := by have := HNE.out; rwa [if_neg h0] at this
      clear HNE
      go_wp2
      go_meet
      case rel => exact ⟨by first | rw [HE.out] | trace_state, rfl⟩
  case rest =>
  obtain ⟨rfl, hwx⟩ := hcut
  have hwx' := hwx.symm
  clear hwx
  subst hwx'
  clear HNE
  have i1 : (0 : Int) ≤ (K : Int) := by omega
  have i2 : (K : Int) < (n1 : Int) := by omega
  obtain ⟨s, hs⟩ : ∃ s, S2[K]? = some s := ⟨_, List.getElem?_eq_getElem (by have := HS2L.out; omega)⟩
  have hst := HL.out.os.t s (List.mem_of_getElem? hs)
  obtain ⟨x1, x2, x3, ex⟩ := ownT_form4 hst.1
  obtain ⟨y1, y2, y3, ey⟩ := ownN_form4 hst.2
  clear hst
  obtain ⟨sr, sl, svv, su, suv⟩ := s
  simp only at ex ey
  subst ex ey
  have HSK : Hid (S2[K]? = some ⟨sr, sl, .slice x1 x2 x3, su, .slice y1 y2 y3⟩) := hs
  clear hs
  by_cases k0 : kd = 0
  · have b0 : (kd == 0) = true := by simpa using k0
    clear k0
    obtain ⟨-, q0, q1, q2, fz⟩ := HL.out.os.o.at_ HSK.out
    simp only at q0 q1 q2
    have f1 := fz (K * 3)
    clear fz
    go_upto_region 25 with fail
    have HF : Hid (FN w G (X5.setCell ⟨gS, K * 3, none⟩ (.int .i64 N)) (.slice (some ⟨gR, 0, none⟩) r2 r3) (.slice (some ⟨gS, 0, none⟩) n1 s3) R2 (S2.set K ⟨N, sl, .slice x1 x2 x3, su, .slice y1 y2 y3⟩)) := (HL.out.setRule HSK.out HKS.out HSH.out).1
    clear q0 q1 q2 f1 c0 c1 d0 d1 d2
    have HPF : Hid (Calls Try.prog 7 #[.agg #[.slice (some ⟨gR, 0, none⟩) r2 r3, .slice (some ⟨gS, 0, none⟩) n1 s3]] (X5.setCell ⟨gS, K * 3, none⟩ (.int .i64 N)) fun e w' => ∃ a cap, e = .returned (.tuple #[.slice a 0 cap, .int .i64 63]) ∧ Below (X5.setCell ⟨gS, K * 3, none⟩ (.int .i64 N)).heap.size (X5.setCell ⟨gS, K * 3, none⟩ (.int .i64 N)) w') := prN HF.out (HVR.out.1) (HLR.out) (by rw [List.length_set]; exact HLS.out) (pErr_no HVR.out.2 HSK.out (wst_rule HNN.out)) (by decide)
    revert HF HPF
    generalize X5.setCell ⟨gS, K * 3, none⟩ (.int .i64 N) = XF
    intro HF HPF
    obtain ⟨c0, c1⟩ := ctwo HF.out.bp
    go_wp2_with (go_at_call 7; refine HPF.out.mono ?_; rintro e wz ⟨a9, c9, rfl, hb⟩; have HBZ : Hid (Below w.heap.size w wz) := below_step HF.out.bw hb; clear hb)
    go_ret
    exact ⟨rfl, HBZ.out⟩
  have b0 : (kd == 0) = false := by simpa using k0
  by_cases k1 : kd = 1
  · have b1 : (kd == 1) = true := by simpa using k1
    clear k0 k1
    go_upto_region 18 with fail
    clear c0 c1 d0 d1 d2
    have HV0 : Hid (LSt w B M G X5.drew (.slice (some ⟨gR, 0, none⟩) r2 r3) (.slice (some ⟨gS, 0, none⟩) n1 s3) R2 S2 kd at_ to_) := HL.out.later (Below.refl _ _).drew
    refine wp_region_held_drew (S := fun w' => CBlk w' G #[.slice (some ⟨gR, 0, none⟩) r2 r3, .slice (some ⟨gS, 0, none⟩) n1 s3] 25) (by kernel_rfl) HV0.out.bp (fun hH => ?_)
    revert hH HV0
    generalize X5.drew = V0
    intro HV0 hH
    refine wpAnyH_take (i := 0) (oi := ⟨_, _, _, _, _, _⟩) (v := .pointer (some ⟨G, 1, none⟩)) rfl (by kernel_rfl) (by kernel_rfl) (by kernel_rfl) (fun _ _ _ h => h) (Or.inl ⟨by rfl, fun w' h => by clear h; go_simp⟩) hH ?_
    simp only [Act.put, List.setIfInBounds_toArray, List.set_cons_zero, List.set_cons_succ]
    refine wpAnyH_take (i := 1) (oi := ⟨_, _, _, _, _, _⟩) (v := .slice (some ⟨gS, 0, none⟩) n1 s3) rfl (by kernel_rfl) (by kernel_rfl) (by kernel_rfl) (fun _ _ _ h => h) (Or.inl ⟨by rfl, fun w' h => by obtain ⟨c0, c1⟩ := ctwo h; clear h; go_simp⟩) hH ?_
    simp only [Act.put, List.setIfInBounds_toArray, List.set_cons_zero, List.set_cons_succ]
    refine wpAnyH_take (i := 2) (oi := ⟨_, _, _, _, _, _⟩) (v := .int .i64 (K : Int)) rfl (by kernel_rfl) (by kernel_rfl) (by kernel_rfl) (fun _ _ _ h => h) (Or.inl ⟨by rfl, fun w' h => by clear h; go_simp⟩) hH ?_
    simp only [Act.put, List.setIfInBounds_toArray, List.set_cons_zero, List.set_cons_succ]
    refine wpAnyH_take (i := 3) (oi := ⟨_, _, _, _, _, _⟩) (v := .pointer (some ⟨G, 1, none⟩)) rfl (by kernel_rfl) (by kernel_rfl) (by kernel_rfl) (fun _ _ _ h => h) (Or.inl ⟨by rfl, fun w' h => by clear h; go_simp⟩) hH ?_
    simp only [Act.put, List.setIfInBounds_toArray, List.set_cons_zero, List.set_cons_succ]
    refine wpAnyH_take (i := 4) (oi := ⟨_, _, _, _, _, _⟩) (v := .slice (some ⟨gS, 0, none⟩) n1 s3) rfl (by kernel_rfl) (by kernel_rfl) (by kernel_rfl) (fun _ _ _ h => h) (Or.inl ⟨by rfl, fun w' h => by obtain ⟨c0, c1⟩ := ctwo h; clear h; go_simp⟩) hH ?_
    simp only [Act.put, List.setIfInBounds_toArray, List.set_cons_zero, List.set_cons_succ]
    refine wpAnyH_take (i := 5) (oi := ⟨_, _, _, _, _, _⟩) (v := .int .i64 (K : Int)) rfl (by kernel_rfl) (by kernel_rfl) (by kernel_rfl) (fun _ _ _ h => h) (Or.inl ⟨by rfl, fun w' h => by clear h; go_simp⟩) hH ?_
    simp only [Act.put, List.setIfInBounds_toArray, List.set_cons_zero, List.set_cons_succ]
    refine wpAnyH_take (i := 6) (oi := ⟨_, _, _, _, _, _⟩) (v := .pointer (some ⟨gS, K * 3, none⟩)) rfl (by kernel_rfl) (by kernel_rfl) (by kernel_rfl) (fun _ _ _ h => h) (Or.inl ⟨by rfl, fun w' h => by clear h; go_simp⟩) hH ?_
    simp only [Act.put, List.setIfInBounds_toArray, List.set_cons_zero, List.set_cons_succ]
    refine wpAnyH_take (i := 7) (oi := ⟨_, _, _, _, _, _⟩) (v := .pointer (some ⟨gS, K * 3 + 2, none⟩)) rfl (by kernel_rfl) (by kernel_rfl) (by kernel_rfl) (fun _ _ _ h => h) (Or.inl ⟨by rfl, fun w' h => by clear h; go_simp⟩) hH ?_
    simp only [Act.put, List.setIfInBounds_toArray, List.set_cons_zero, List.set_cons_succ]
    refine wpAnyH_take (i := 9) (oi := ⟨_, _, _, _, _, _⟩) (v := .int .i64 N) rfl (by kernel_rfl) (by kernel_rfl) (by kernel_rfl) (fun _ _ _ h => h) (Or.inl ⟨by rfl, fun w' h => by clear h; go_simp⟩) hH ?_
    simp only [Act.put, List.setIfInBounds_toArray, List.set_cons_zero, List.set_cons_succ]
    refine wpAnyH_ready (rs := [8, 10]) (by kernel_rfl) (by simp) ?_
    refine (AllReadyH.cons (o := ⟨_, _, _, _, _, _⟩) rfl (fun K_ hK => ?_) (AllReadyH.cons (o := ⟨_, _, _, _, _, _⟩) rfl (fun K_ hK => ?_) AllReadyH.nil))
    · have cz := (HV0.out.os.o.at_ HSK.out).2.2.2.1
      try simp only at cz
      go_simp
      clear cz
      refine hK.out _ _ hH (fun hH => ?_)
      clear hK K_
      try simp only [Act.put, List.setIfInBounds_toArray, List.set_cons_zero, List.set_cons_succ]
      refine wpAnyH_ready (rs := [10]) (by kernel_rfl) (by simp) ?_
      refine (AllReadyH.cons (o := ⟨_, _, _, _, _, _⟩) rfl (fun K_ hK => ?_) AllReadyH.nil)
      go_simp
      have HV1 : Hid (LSt w B M G (V0.alloc (.cells #[.int .i64 N] 3)) (.slice (some ⟨gR, 0, none⟩) r2 r3) (.slice (some ⟨gS, 0, none⟩) n1 s3) R2 S2 kd at_ to_) := HV0.out.later (below1 _ _)
      have HG : Hid (CBlk (V0.alloc (.cells #[.int .i64 N] 3)) V0.heap.size #[.int .i64 N] 3) := CBlk.new _ _ _
      clear hH HV0
      refine hK.out _ _ HV1.out.bp (fun hH => ?_)
      clear hK K_
      revert hH HV1 HG
      generalize V0.alloc (.cells #[.int .i64 N] 3) = V1
      generalize V0.heap.size = GG
      intro HV1 HG hH
      refine wpAnyH_ready (rs := [11]) (by kernel_rfl) (by simp) ?_
      refine (AllReadyH.cons (o := ⟨_, _, _, _, _, _⟩) rfl (fun K_ hK => ?_) AllReadyH.nil)
      refine step_num rfl _ _ rfl M (.slice y1 y2 y3) su (by rfl) (HV1.out.os.t _ (List.mem_of_getElem? HSK.out)).2 GG N (by rfl) HG.out (by have := (HSH.out _ (List.mem_of_getElem? HSK.out)).2; simp only at this; omega) HV1.out.hX ?_
      intro v' w3 hown hb3 hg3
      obtain ⟨va, vn, vc, rfl⟩ := ownN_form4 hown
      have HF : Hid (FN w G (w3.setCell ⟨gS, K * 3 + 2, none⟩ (.slice va vn vc)) (.slice (some ⟨gR, 0, none⟩) r2 r3) (.slice (some ⟨gS, 0, none⟩) n1 s3) R2 (S2.set K ⟨sr, sl, .slice x1 x2 x3, su ++ [N], .slice va vn vc⟩)) := HV1.out.setUses HSK.out HKS.out HSH.out hown (by simp) hb3 hg3
      have kN : Kt 3 V1 w3 := row_grown (HV1.out.os.t _ (List.mem_of_getElem? HSK.out)).2 hg3
      have hOS : OwnS w3 M (.slice (some ⟨gS, 0, none⟩) n1 s3) S2 := row_kt HV1.out.os.o kN (by decide)
      obtain ⟨-, q0, q1, q2, fz⟩ := hOS.at_ HSK.out
      simp only at q0 q1 q2
      have f1 := fz (K * 3 + 2)
      have hBP : CBlk w3 G #[.slice (some ⟨gR, 0, none⟩) r2 r3, .slice (some ⟨gS, 0, none⟩) n1 s3] 25 := HV1.out.bp.kt kN (by decide)
      clear hOS fz kN hown hb3 hg3 HV1 HG hH
      refine hK.out _ _ hBP (fun hH => ?_)
      clear hK K_ hBP
      simp only [Act.put, List.setIfInBounds_toArray, List.set_cons_zero, List.set_cons_succ]
      refine wpAnyH_take (i := 12) (oi := ⟨_, _, _, _, _, _⟩) (v := .pointer (some ⟨gS, K * 3, none⟩)) rfl (by kernel_rfl) (by kernel_rfl) (by kernel_rfl) (fun _ _ _ h => h) (Or.inl ⟨by rfl, fun w' h => by clear h; go_simp⟩) hH ?_
      simp only [Act.put, List.setIfInBounds_toArray, List.set_cons_zero, List.set_cons_succ]
      refine wpAnyH_take (i := 13) (oi := ⟨_, _, _, _, _, _⟩) (v := .pointer (some ⟨gS, K * 3 + 2, none⟩)) rfl (by kernel_rfl) (by kernel_rfl) (by kernel_rfl) (fun _ _ _ h => h) (Or.inl ⟨by rfl, fun w' h => by clear h; go_simp⟩) hH ?_
      simp only [Act.put, List.setIfInBounds_toArray, List.set_cons_zero, List.set_cons_succ]
      refine wpAnyH_ready (rs := [14]) (by kernel_rfl) (by simp) ?_
      refine (AllReadyH.cons (o := ⟨_, _, _, _, _, _⟩) rfl (fun K_ hK => ?_) AllReadyH.nil)
      go_simp
      clear q0 q1 q2 f1 hH
      refine hK.out _ _ HF.out.bp (fun hH => ?_)
      clear hK K_ hH
      refine wpAnyH_done (by kernel_rfl) ?_ _
      go_upto_region 25 with fail
      have HPF : Hid (Calls Try.prog 7 #[.agg #[.slice (some ⟨gR, 0, none⟩) r2 r3, .slice (some ⟨gS, 0, none⟩) n1 s3]] (w3.setCell ⟨gS, K * 3 + 2, none⟩ (.slice va vn vc)) fun e w' => ∃ a cap, e = .returned (.tuple #[.slice a 0 cap, .int .i64 63]) ∧ Below (w3.setCell ⟨gS, K * 3 + 2, none⟩ (.slice va vn vc)).heap.size (w3.setCell ⟨gS, K * 3 + 2, none⟩ (.slice va vn vc)) w') := prN HF.out (HVR.out.1) (HLR.out) (by rw [List.length_set]; exact HLS.out) (pErr_no HVR.out.2 HSK.out (wst_uses HNN.out)) (by decide)
      revert HF HPF
      generalize w3.setCell ⟨gS, K * 3 + 2, none⟩ (.slice va vn vc) = XF
      intro HF HPF
      obtain ⟨c0, c1⟩ := ctwo HF.out.bp
      go_wp2_with (go_at_call 7; refine HPF.out.mono ?_; rintro e wz ⟨a9, c9, rfl, hb⟩; have HBZ : Hid (Below w.heap.size w wz) := below_step HF.out.bw hb; clear hb)
      go_ret
      exact ⟨rfl, HBZ.out⟩
    · go_simp
      have HV1 : Hid (LSt w B M G (V0.alloc (.cells #[.int .i64 N] 3)) (.slice (some ⟨gR, 0, none⟩) r2 r3) (.slice (some ⟨gS, 0, none⟩) n1 s3) R2 S2 kd at_ to_) := HV0.out.later (below1 _ _)
      have HG : Hid (CBlk (V0.alloc (.cells #[.int .i64 N] 3)) V0.heap.size #[.int .i64 N] 3) := CBlk.new _ _ _
      clear hH HV0
      refine hK.out _ _ HV1.out.bp (fun hH => ?_)
      clear hK K_
      revert hH HV1 HG
      generalize V0.alloc (.cells #[.int .i64 N] 3) = V1
      generalize V0.heap.size = GG
      intro HV1 HG hH
      refine wpAnyH_ready (rs := [8]) (by kernel_rfl) (by simp) ?_
      refine (AllReadyH.cons (o := ⟨_, _, _, _, _, _⟩) rfl (fun K_ hK => ?_) AllReadyH.nil)
      have cz := (HV1.out.os.o.at_ HSK.out).2.2.2.1
      try simp only at cz
      go_simp
      clear cz
      refine hK.out _ _ hH (fun hH => ?_)
      clear hK K_
      try simp only [Act.put, List.setIfInBounds_toArray, List.set_cons_zero, List.set_cons_succ]
      refine wpAnyH_ready (rs := [11]) (by kernel_rfl) (by simp) ?_
      refine (AllReadyH.cons (o := ⟨_, _, _, _, _, _⟩) rfl (fun K_ hK => ?_) AllReadyH.nil)
      refine step_num rfl _ _ rfl M (.slice y1 y2 y3) su (by rfl) (HV1.out.os.t _ (List.mem_of_getElem? HSK.out)).2 GG N (by rfl) HG.out (by have := (HSH.out _ (List.mem_of_getElem? HSK.out)).2; simp only at this; omega) HV1.out.hX ?_
      intro v' w3 hown hb3 hg3
      obtain ⟨va, vn, vc, rfl⟩ := ownN_form4 hown
      have HF : Hid (FN w G (w3.setCell ⟨gS, K * 3 + 2, none⟩ (.slice va vn vc)) (.slice (some ⟨gR, 0, none⟩) r2 r3) (.slice (some ⟨gS, 0, none⟩) n1 s3) R2 (S2.set K ⟨sr, sl, .slice x1 x2 x3, su ++ [N], .slice va vn vc⟩)) := HV1.out.setUses HSK.out HKS.out HSH.out hown (by simp) hb3 hg3
      have kN : Kt 3 V1 w3 := row_grown (HV1.out.os.t _ (List.mem_of_getElem? HSK.out)).2 hg3
      have hOS : OwnS w3 M (.slice (some ⟨gS, 0, none⟩) n1 s3) S2 := row_kt HV1.out.os.o kN (by decide)
      obtain ⟨-, q0, q1, q2, fz⟩ := hOS.at_ HSK.out
      simp only at q0 q1 q2
      have f1 := fz (K * 3 + 2)
      have hBP : CBlk w3 G #[.slice (some ⟨gR, 0, none⟩) r2 r3, .slice (some ⟨gS, 0, none⟩) n1 s3] 25 := HV1.out.bp.kt kN (by decide)
      clear hOS fz kN hown hb3 hg3 HV1 HG hH
      refine hK.out _ _ hBP (fun hH => ?_)
      clear hK K_ hBP
      simp only [Act.put, List.setIfInBounds_toArray, List.set_cons_zero, List.set_cons_succ]
      refine wpAnyH_take (i := 12) (oi := ⟨_, _, _, _, _, _⟩) (v := .pointer (some ⟨gS, K * 3, none⟩)) rfl (by kernel_rfl) (by kernel_rfl) (by kernel_rfl) (fun _ _ _ h => h) (Or.inl ⟨by rfl, fun w' h => by clear h; go_simp⟩) hH ?_
      simp only [Act.put, List.setIfInBounds_toArray, List.set_cons_zero, List.set_cons_succ]
      refine wpAnyH_take (i := 13) (oi := ⟨_, _, _, _, _, _⟩) (v := .pointer (some ⟨gS, K * 3 + 2, none⟩)) rfl (by kernel_rfl) (by kernel_rfl) (by kernel_rfl) (fun _ _ _ h => h) (Or.inl ⟨by rfl, fun w' h => by clear h; go_simp⟩) hH ?_
      simp only [Act.put, List.setIfInBounds_toArray, List.set_cons_zero, List.set_cons_succ]
      refine wpAnyH_ready (rs := [14]) (by kernel_rfl) (by simp) ?_
      refine (AllReadyH.cons (o := ⟨_, _, _, _, _, _⟩) rfl (fun K_ hK => ?_) AllReadyH.nil)
      go_simp
      clear q0 q1 q2 f1 hH
      refine hK.out _ _ HF.out.bp (fun hH => ?_)
      clear hK K_ hH
      refine wpAnyH_done (by kernel_rfl) ?_ _
      go_upto_region 25 with fail
      have HPF : Hid (Calls Try.prog 7 #[.agg #[.slice (some ⟨gR, 0, none⟩) r2 r3, .slice (some ⟨gS, 0, none⟩) n1 s3]] (w3.setCell ⟨gS, K * 3 + 2, none⟩ (.slice va vn vc)) fun e w' => ∃ a cap, e = .returned (.tuple #[.slice a 0 cap, .int .i64 63]) ∧ Below (w3.setCell ⟨gS, K * 3 + 2, none⟩ (.slice va vn vc)).heap.size (w3.setCell ⟨gS, K * 3 + 2, none⟩ (.slice va vn vc)) w') := prN HF.out (HVR.out.1) (HLR.out) (by rw [List.length_set]; exact HLS.out) (pErr_no HVR.out.2 HSK.out (wst_uses HNN.out)) (by decide)
      revert HF HPF
      generalize w3.setCell ⟨gS, K * 3 + 2, none⟩ (.slice va vn vc) = XF
      intro HF HPF
      obtain ⟨c0, c1⟩ := ctwo HF.out.bp
      go_wp2_with (go_at_call 7; refine HPF.out.mono ?_; rintro e wz ⟨a9, c9, rfl, hb⟩; have HBZ : Hid (Below w.heap.size w wz) := below_step HF.out.bw hb; clear hb)
      go_ret
      exact ⟨rfl, HBZ.out⟩
  have b1 : (kd == 1) = false := by simpa using k1
  by_cases k2 : kd = 2
  · have b2 : (kd == 2) = true := by simpa using k2
    clear k0 k1 k2
    go_upto_region 20 with fail
    clear c0 c1 d0 d1 d2
    have HV0 : Hid (LSt w B M G X5.drew (.slice (some ⟨gR, 0, none⟩) r2 r3) (.slice (some ⟨gS, 0, none⟩) n1 s3) R2 S2 kd at_ to_) := HL.out.later (Below.refl _ _).drew
    refine wp_region_held_drew (S := fun w' => CBlk w' G #[.slice (some ⟨gR, 0, none⟩) r2 r3, .slice (some ⟨gS, 0, none⟩) n1 s3] 25) (by kernel_rfl) HV0.out.bp (fun hH => ?_)
    revert hH HV0
    generalize X5.drew = V0
    intro HV0 hH
    refine wpAnyH_take (i := 0) (oi := ⟨_, _, _, _, _, _⟩) (v := .pointer (some ⟨G, 1, none⟩)) rfl (by kernel_rfl) (by kernel_rfl) (by kernel_rfl) (fun _ _ _ h => h) (Or.inl ⟨by rfl, fun w' h => by clear h; go_simp⟩) hH ?_
    simp only [Act.put, List.setIfInBounds_toArray, List.set_cons_zero, List.set_cons_succ]
    refine wpAnyH_take (i := 1) (oi := ⟨_, _, _, _, _, _⟩) (v := .slice (some ⟨gS, 0, none⟩) n1 s3) rfl (by kernel_rfl) (by kernel_rfl) (by kernel_rfl) (fun _ _ _ h => h) (Or.inl ⟨by rfl, fun w' h => by obtain ⟨c0, c1⟩ := ctwo h; clear h; go_simp⟩) hH ?_
    simp only [Act.put, List.setIfInBounds_toArray, List.set_cons_zero, List.set_cons_succ]
    refine wpAnyH_take (i := 2) (oi := ⟨_, _, _, _, _, _⟩) (v := .int .i64 (K : Int)) rfl (by kernel_rfl) (by kernel_rfl) (by kernel_rfl) (fun _ _ _ h => h) (Or.inl ⟨by rfl, fun w' h => by clear h; go_simp⟩) hH ?_
    simp only [Act.put, List.setIfInBounds_toArray, List.set_cons_zero, List.set_cons_succ]
    refine wpAnyH_take (i := 3) (oi := ⟨_, _, _, _, _, _⟩) (v := .pointer (some ⟨G, 1, none⟩)) rfl (by kernel_rfl) (by kernel_rfl) (by kernel_rfl) (fun _ _ _ h => h) (Or.inl ⟨by rfl, fun w' h => by clear h; go_simp⟩) hH ?_
    simp only [Act.put, List.setIfInBounds_toArray, List.set_cons_zero, List.set_cons_succ]
    refine wpAnyH_take (i := 4) (oi := ⟨_, _, _, _, _, _⟩) (v := .slice (some ⟨gS, 0, none⟩) n1 s3) rfl (by kernel_rfl) (by kernel_rfl) (by kernel_rfl) (fun _ _ _ h => h) (Or.inl ⟨by rfl, fun w' h => by obtain ⟨c0, c1⟩ := ctwo h; clear h; go_simp⟩) hH ?_
    simp only [Act.put, List.setIfInBounds_toArray, List.set_cons_zero, List.set_cons_succ]
    refine wpAnyH_take (i := 5) (oi := ⟨_, _, _, _, _, _⟩) (v := .int .i64 (K : Int)) rfl (by kernel_rfl) (by kernel_rfl) (by kernel_rfl) (fun _ _ _ h => h) (Or.inl ⟨by rfl, fun w' h => by clear h; go_simp⟩) hH ?_
    simp only [Act.put, List.setIfInBounds_toArray, List.set_cons_zero, List.set_cons_succ]
    refine wpAnyH_take (i := 6) (oi := ⟨_, _, _, _, _, _⟩) (v := .pointer (some ⟨gS, K * 3, none⟩)) rfl (by kernel_rfl) (by kernel_rfl) (by kernel_rfl) (fun _ _ _ h => h) (Or.inl ⟨by rfl, fun w' h => by clear h; go_simp⟩) hH ?_
    simp only [Act.put, List.setIfInBounds_toArray, List.set_cons_zero, List.set_cons_succ]
    refine wpAnyH_take (i := 7) (oi := ⟨_, _, _, _, _, _⟩) (v := .pointer (some ⟨gS, K * 3 + 1, none⟩)) rfl (by kernel_rfl) (by kernel_rfl) (by kernel_rfl) (fun _ _ _ h => h) (Or.inl ⟨by rfl, fun w' h => by clear h; go_simp⟩) hH ?_
    simp only [Act.put, List.setIfInBounds_toArray, List.set_cons_zero, List.set_cons_succ]
    refine wpAnyH_take (i := 9) (oi := ⟨_, _, _, _, _, _⟩) (v := .int .i64 (K : Int)) rfl (by kernel_rfl) (by kernel_rfl) (by kernel_rfl) (fun _ _ _ h => h) (Or.inl ⟨by rfl, fun w' h => by clear h; go_simp⟩) hH ?_
    simp only [Act.put, List.setIfInBounds_toArray, List.set_cons_zero, List.set_cons_succ]
    refine wpAnyH_take (i := 10) (oi := ⟨_, _, _, _, _, _⟩) (v := .agg #[.int .i64 3, .int .i64 (K : Int), .string ⟨#[]⟩]) rfl (by kernel_rfl) (by kernel_rfl) (by kernel_rfl) (fun _ _ _ h => h) (Or.inl ⟨by rfl, fun w' h => by clear h; go_simp⟩) hH ?_
    simp only [Act.put, List.setIfInBounds_toArray, List.set_cons_zero, List.set_cons_succ]
    refine wpAnyH_ready (rs := [8, 11]) (by kernel_rfl) (by simp) ?_
    refine (AllReadyH.cons (o := ⟨_, _, _, _, _, _⟩) rfl (fun K_ hK => ?_) (AllReadyH.cons (o := ⟨_, _, _, _, _, _⟩) rfl (fun K_ hK => ?_) AllReadyH.nil))
    · have cz := (HV0.out.os.o.at_ HSK.out).2.2.1
      try simp only at cz
      go_simp
      clear cz
      refine hK.out _ _ hH (fun hH => ?_)
      clear hK K_
      try simp only [Act.put, List.setIfInBounds_toArray, List.set_cons_zero, List.set_cons_succ]
      refine wpAnyH_ready (rs := [11]) (by kernel_rfl) (by simp) ?_
      refine (AllReadyH.cons (o := ⟨_, _, _, _, _, _⟩) rfl (fun K_ hK => ?_) AllReadyH.nil)
      go_simp
      have HV1 : Hid (LSt w B M G (V0.alloc (.cells #[.int .i64 3, .int .i64 (K : Int), .string ⟨#[]⟩] 31)) (.slice (some ⟨gR, 0, none⟩) r2 r3) (.slice (some ⟨gS, 0, none⟩) n1 s3) R2 S2 kd at_ to_) := HV0.out.later (below1 _ _)
      have HG : Hid (CBlk (V0.alloc (.cells #[.int .i64 3, .int .i64 (K : Int), .string ⟨#[]⟩] 31)) V0.heap.size #[.int .i64 3, .int .i64 (K : Int), .string ⟨#[]⟩] 31) := CBlk.new _ _ _
      clear hH HV0
      refine hK.out _ _ HV1.out.bp (fun hH => ?_)
      clear hK K_
      revert hH HV1 HG
      generalize V0.alloc (.cells #[.int .i64 3, .int .i64 (K : Int), .string ⟨#[]⟩] 31) = V1
      generalize V0.heap.size = GG
      intro HV1 HG hH
      refine wpAnyH_ready (rs := [12]) (by kernel_rfl) (by simp) ?_
      refine (AllReadyH.cons (o := ⟨_, _, _, _, _, _⟩) rfl (fun K_ hK => ?_) AllReadyH.nil)
      refine step_terms rfl _ _ rfl M (.slice x1 x2 x3) sl (by rfl) (HV1.out.os.t _ (List.mem_of_getElem? HSK.out)).1 GG [⟨3, (K : Int), ⟨#[]⟩⟩] (by simp) (by rfl) (row_one HG.out) (by have := (HSH.out _ (List.mem_of_getElem? HSK.out)).1; simp only at this; simp only [List.length_cons, List.length_nil]; omega) HV1.out.hX ?_
      intro v' w3 hown hb3 hg3
      obtain ⟨va, vn, vc, rfl⟩ := ownT_form4 hown
      have HF : Hid (FN w G (w3.setCell ⟨gS, K * 3 + 1, none⟩ (.slice va vn vc)) (.slice (some ⟨gR, 0, none⟩) r2 r3) (.slice (some ⟨gS, 0, none⟩) n1 s3) R2 (S2.set K ⟨sr, sl ++ [⟨3, (K : Int), ⟨#[]⟩⟩], .slice va vn vc, su, .slice y1 y2 y3⟩)) := HV1.out.setVals HSK.out HKS.out HSH.out hown (by simp) hb3 hg3
      have kN : Kt 31 V1 w3 := row_grown (HV1.out.os.t _ (List.mem_of_getElem? HSK.out)).1 hg3
      have hOS : OwnS w3 M (.slice (some ⟨gS, 0, none⟩) n1 s3) S2 := row_kt HV1.out.os.o kN (by decide)
      obtain ⟨-, q0, q1, q2, fz⟩ := hOS.at_ HSK.out
      simp only at q0 q1 q2
      have f1 := fz (K * 3 + 1)
      have hBP : CBlk w3 G #[.slice (some ⟨gR, 0, none⟩) r2 r3, .slice (some ⟨gS, 0, none⟩) n1 s3] 25 := HV1.out.bp.kt kN (by decide)
      clear hOS fz kN hown hb3 hg3 HV1 HG hH
      refine hK.out _ _ hBP (fun hH => ?_)
      clear hK K_ hBP
      simp only [Act.put, List.setIfInBounds_toArray, List.set_cons_zero, List.set_cons_succ]
      refine wpAnyH_take (i := 13) (oi := ⟨_, _, _, _, _, _⟩) (v := .pointer (some ⟨gS, K * 3, none⟩)) rfl (by kernel_rfl) (by kernel_rfl) (by kernel_rfl) (fun _ _ _ h => h) (Or.inl ⟨by rfl, fun w' h => by clear h; go_simp⟩) hH ?_
      simp only [Act.put, List.setIfInBounds_toArray, List.set_cons_zero, List.set_cons_succ]
      refine wpAnyH_take (i := 14) (oi := ⟨_, _, _, _, _, _⟩) (v := .pointer (some ⟨gS, K * 3 + 1, none⟩)) rfl (by kernel_rfl) (by kernel_rfl) (by kernel_rfl) (fun _ _ _ h => h) (Or.inl ⟨by rfl, fun w' h => by clear h; go_simp⟩) hH ?_
      simp only [Act.put, List.setIfInBounds_toArray, List.set_cons_zero, List.set_cons_succ]
      refine wpAnyH_ready (rs := [15]) (by kernel_rfl) (by simp) ?_
      refine (AllReadyH.cons (o := ⟨_, _, _, _, _, _⟩) rfl (fun K_ hK => ?_) AllReadyH.nil)
      go_simp
      clear q0 q1 q2 f1 hH
      refine hK.out _ _ HF.out.bp (fun hH => ?_)
      clear hK K_ hH
      refine wpAnyH_done (by kernel_rfl) ?_ _
      go_upto_region 25 with fail
      have HPF : Hid (Calls Try.prog 7 #[.agg #[.slice (some ⟨gR, 0, none⟩) r2 r3, .slice (some ⟨gS, 0, none⟩) n1 s3]] (w3.setCell ⟨gS, K * 3 + 1, none⟩ (.slice va vn vc)) fun e w' => ∃ a cap, e = .returned (.tuple #[.slice a 0 cap, .int .i64 63]) ∧ Below (w3.setCell ⟨gS, K * 3 + 1, none⟩ (.slice va vn vc)).heap.size (w3.setCell ⟨gS, K * 3 + 1, none⟩ (.slice va vn vc)) w') := prN HF.out (HVR.out.1) (HLR.out) (by rw [List.length_set]; exact HLS.out) (pErr_no HVR.out.2 HSK.out (wst_vals _ _)) (by decide)
      revert HF HPF
      generalize w3.setCell ⟨gS, K * 3 + 1, none⟩ (.slice va vn vc) = XF
      intro HF HPF
      obtain ⟨c0, c1⟩ := ctwo HF.out.bp
      go_wp2_with (go_at_call 7; refine HPF.out.mono ?_; rintro e wz ⟨a9, c9, rfl, hb⟩; have HBZ : Hid (Below w.heap.size w wz) := below_step HF.out.bw hb; clear hb)
      go_ret
      exact ⟨rfl, HBZ.out⟩
    · go_simp
      have HV1 : Hid (LSt w B M G (V0.alloc (.cells #[.int .i64 3, .int .i64 (K : Int), .string ⟨#[]⟩] 31)) (.slice (some ⟨gR, 0, none⟩) r2 r3) (.slice (some ⟨gS, 0, none⟩) n1 s3) R2 S2 kd at_ to_) := HV0.out.later (below1 _ _)
      have HG : Hid (CBlk (V0.alloc (.cells #[.int .i64 3, .int .i64 (K : Int), .string ⟨#[]⟩] 31)) V0.heap.size #[.int .i64 3, .int .i64 (K : Int), .string ⟨#[]⟩] 31) := CBlk.new _ _ _
      clear hH HV0
      refine hK.out _ _ HV1.out.bp (fun hH => ?_)
      clear hK K_
      revert hH HV1 HG
      generalize V0.alloc (.cells #[.int .i64 3, .int .i64 (K : Int), .string ⟨#[]⟩] 31) = V1
      generalize V0.heap.size = GG
      intro HV1 HG hH
      refine wpAnyH_ready (rs := [8]) (by kernel_rfl) (by simp) ?_
      refine (AllReadyH.cons (o := ⟨_, _, _, _, _, _⟩) rfl (fun K_ hK => ?_) AllReadyH.nil)
      have cz := (HV1.out.os.o.at_ HSK.out).2.2.1
      try simp only at cz
      go_simp
      clear cz
      refine hK.out _ _ hH (fun hH => ?_)
      clear hK K_
      try simp only [Act.put, List.setIfInBounds_toArray, List.set_cons_zero, List.set_cons_succ]
      refine wpAnyH_ready (rs := [12]) (by kernel_rfl) (by simp) ?_
      refine (AllReadyH.cons (o := ⟨_, _, _, _, _, _⟩) rfl (fun K_ hK => ?_) AllReadyH.nil)
      refine step_terms rfl _ _ rfl M (.slice x1 x2 x3) sl (by rfl) (HV1.out.os.t _ (List.mem_of_getElem? HSK.out)).1 GG [⟨3, (K : Int), ⟨#[]⟩⟩] (by simp) (by rfl) (row_one HG.out) (by have := (HSH.out _ (List.mem_of_getElem? HSK.out)).1; simp only at this; simp only [List.length_cons, List.length_nil]; omega) HV1.out.hX ?_
      intro v' w3 hown hb3 hg3
      obtain ⟨va, vn, vc, rfl⟩ := ownT_form4 hown
      have HF : Hid (FN w G (w3.setCell ⟨gS, K * 3 + 1, none⟩ (.slice va vn vc)) (.slice (some ⟨gR, 0, none⟩) r2 r3) (.slice (some ⟨gS, 0, none⟩) n1 s3) R2 (S2.set K ⟨sr, sl ++ [⟨3, (K : Int), ⟨#[]⟩⟩], .slice va vn vc, su, .slice y1 y2 y3⟩)) := HV1.out.setVals HSK.out HKS.out HSH.out hown (by simp) hb3 hg3
      have kN : Kt 31 V1 w3 := row_grown (HV1.out.os.t _ (List.mem_of_getElem? HSK.out)).1 hg3
      have hOS : OwnS w3 M (.slice (some ⟨gS, 0, none⟩) n1 s3) S2 := row_kt HV1.out.os.o kN (by decide)
      obtain ⟨-, q0, q1, q2, fz⟩ := hOS.at_ HSK.out
      simp only at q0 q1 q2
      have f1 := fz (K * 3 + 1)
      have hBP : CBlk w3 G #[.slice (some ⟨gR, 0, none⟩) r2 r3, .slice (some ⟨gS, 0, none⟩) n1 s3] 25 := HV1.out.bp.kt kN (by decide)
      clear hOS fz kN hown hb3 hg3 HV1 HG hH
      refine hK.out _ _ hBP (fun hH => ?_)
      clear hK K_ hBP
      simp only [Act.put, List.setIfInBounds_toArray, List.set_cons_zero, List.set_cons_succ]
      refine wpAnyH_take (i := 13) (oi := ⟨_, _, _, _, _, _⟩) (v := .pointer (some ⟨gS, K * 3, none⟩)) rfl (by kernel_rfl) (by kernel_rfl) (by kernel_rfl) (fun _ _ _ h => h) (Or.inl ⟨by rfl, fun w' h => by clear h; go_simp⟩) hH ?_
      simp only [Act.put, List.setIfInBounds_toArray, List.set_cons_zero, List.set_cons_succ]
      refine wpAnyH_take (i := 14) (oi := ⟨_, _, _, _, _, _⟩) (v := .pointer (some ⟨gS, K * 3 + 1, none⟩)) rfl (by kernel_rfl) (by kernel_rfl) (by kernel_rfl) (fun _ _ _ h => h) (Or.inl ⟨by rfl, fun w' h => by clear h; go_simp⟩) hH ?_
      simp only [Act.put, List.setIfInBounds_toArray, List.set_cons_zero, List.set_cons_succ]
      refine wpAnyH_ready (rs := [15]) (by kernel_rfl) (by simp) ?_
      refine (AllReadyH.cons (o := ⟨_, _, _, _, _, _⟩) rfl (fun K_ hK => ?_) AllReadyH.nil)
      go_simp
      clear q0 q1 q2 f1 hH
      refine hK.out _ _ HF.out.bp (fun hH => ?_)
      clear hK K_ hH
      refine wpAnyH_done (by kernel_rfl) ?_ _
      go_upto_region 25 with fail
      have HPF : Hid (Calls Try.prog 7 #[.agg #[.slice (some ⟨gR, 0, none⟩) r2 r3, .slice (some ⟨gS, 0, none⟩) n1 s3]] (w3.setCell ⟨gS, K * 3 + 1, none⟩ (.slice va vn vc)) fun e w' => ∃ a cap, e = .returned (.tuple #[.slice a 0 cap, .int .i64 63]) ∧ Below (w3.setCell ⟨gS, K * 3 + 1, none⟩ (.slice va vn vc)).heap.size (w3.setCell ⟨gS, K * 3 + 1, none⟩ (.slice va vn vc)) w') := prN HF.out (HVR.out.1) (HLR.out) (by rw [List.length_set]; exact HLS.out) (pErr_no HVR.out.2 HSK.out (wst_vals _ _)) (by decide)
      revert HF HPF
      generalize w3.setCell ⟨gS, K * 3 + 1, none⟩ (.slice va vn vc) = XF
      intro HF HPF
      obtain ⟨c0, c1⟩ := ctwo HF.out.bp
      go_wp2_with (go_at_call 7; refine HPF.out.mono ?_; rintro e wz ⟨a9, c9, rfl, hb⟩; have HBZ : Hid (Below w.heap.size w wz) := below_step HF.out.bw hb; clear hb)
      go_ret
      exact ⟨rfl, HBZ.out⟩
  have b2 : (kd == 2) = false := by simpa using k2
  by_cases k3 : kd = 3
  · have b3 : (kd == 3) = true := by simpa using k3
    clear k0 k1 k2 k3
    obtain ⟨-, q0, q1, q2, fz⟩ := HL.out.os.o.at_ HSK.out
    simp only at q0 q1 q2
    have f1 := fz (K * 3)
    clear fz
    go_upto_region 23 with fail
    have hfn := HL.out.setRule (N := N) HSK.out HKS.out HSH.out
    have HF0 : Hid (FN w G (X5.setCell ⟨gS, K * 3, none⟩ (.int .i64 N)) (.slice (some ⟨gR, 0, none⟩) r2 r3) (.slice (some ⟨gS, 0, none⟩) n1 s3) R2 (S2.set K ⟨N, sl, .slice x1 x2 x3, su, .slice y1 y2 y3⟩)) := hfn.1
    have HO0 : Hid (OM B (X5.setCell ⟨gS, K * 3, none⟩ (.int .i64 N)) (.slice (some ⟨gR, 0, none⟩) r2 r3) R2) := hfn.2
    have HSP : Hid (∀ Y : World, Kt 38 (X5.setCell ⟨gS, K * 3, none⟩ (.int .i64 N)) Y → SsP Y (.slice (some ⟨gS, 0, none⟩) n1 s3) (S2.set K ⟨N, sl, .slice x1 x2 x3, su, .slice y1 y2 y3⟩)) := fun Y hY => by
      obtain ⟨h1, kk⟩ := HL.out.os.o.put (i := 0) (v := .int .i64 N) (s' := ⟨N, sl, .slice x1 x2 x3, su, .slice y1 y2 y3⟩) HSK.out (by omega) rfl
      rw [Nat.add_zero] at h1 kk
      refine ssp_of (row_kt h1 hY (by decide)) (fun x hx => ?_) (sh_set HSH.out HSK.out (by simp) (by simp))
      rcases mem_set hx with rfl | ⟨i, -, hi⟩
      · have := HL.out.os.t _ (List.mem_of_getElem? HSK.out)
        exact ⟨row_kt (row_kt this.1 kk (by decide)) hY (by decide), row_kt (row_kt this.2 kk (by decide)) hY (by decide)⟩
      · have := HL.out.os.t x (List.mem_of_getElem? hi)
        exact ⟨row_kt (row_kt this.1 kk (by decide)) hY (by decide), row_kt (row_kt this.2 kk (by decide)) hY (by decide)⟩
    have hBB := HL.out.hB
    clear hfn q0 q1 q2 f1 c0 c1 d0 d1 d2 HL
    revert HF0 HO0 HSP
    generalize X5.setCell ⟨gS, K * 3, none⟩ (.int .i64 N) = X6
    intro HF0 HO0 HSP
    obtain ⟨c0, c1⟩ := ctwo HF0.out.bp
    obtain ⟨mm, hmm⟩ : ∃ m, R'.length = m := ⟨_, rfl⟩
    have hr2 : r2 = mm + 1 := by have := HRR.out.2.1; omega
    subst hr2
    have hget : R2[mm]? = some cP := by rw [← HRR.out.1, ← hmm]; simp
    obtain ⟨hgz, ⟨q0, q1, q2⟩, fz⟩ := HO0.out.o.at_ hget
    have f0 := fz (mm * 7)
    have f1 := fz (mm * 7 + 1)
    have f2 := fz (mm * 7 + 2)
    have j1 : (0 : Int) ≤ (mm : Int) := by omega
    have j2 : (mm : Int) < (mm : Int) + 1 := by omega
    have j3 : wrap64 ((mm : Int) + 1 - 1) = (mm : Int) := by unfold wrap64; omega
    have j4 : (mm : Int) + 1 - 1 = (mm : Int) := by omega
    clear fz hget
    simp only [cP, zt] at q0 q1 q2
    go_upto_region 25 with fail
    have HF : Hid (FN w G (((X6.setCell ⟨gR, mm * 7, none⟩ (.int .i64 3)).setCell ⟨gR, mm * 7 + 1, none⟩ (.int .i64 0)).setCell ⟨gR, mm * 7 + 2, none⟩ (.string ⟨#[]⟩)) (.slice (some ⟨gR, 0, none⟩) (mm + 1) r3) (.slice (some ⟨gS, 0, none⟩) n1 s3) (R' ++ [cV]) (S2.set K ⟨N, sl, .slice x1 x2 x3, su, .slice y1 y2 y3⟩)) := by
      have h1 := HF0.out
      have h2 := HO0.out
      rw [← HRR.out.1] at h1 h2
      have := fn_head h1 h2 HRR.out.2.2.2.2 HSP.out hBB
      rwa [hmm] at this
    clear q0 q1 q2 f0 f1 f2 c0 c1 j1 j2 j3 j4 HF0 HO0 HSP
    have HPF : Hid (Calls Try.prog 7 #[.agg #[.slice (some ⟨gR, 0, none⟩) (mm + 1) r3, .slice (some ⟨gS, 0, none⟩) n1 s3]] (((X6.setCell ⟨gR, mm * 7, none⟩ (.int .i64 3)).setCell ⟨gR, mm * 7 + 1, none⟩ (.int .i64 0)).setCell ⟨gR, mm * 7 + 2, none⟩ (.string ⟨#[]⟩)) fun e w' => ∃ a cap, e = .returned (.tuple #[.slice a 0 cap, .int .i64 33]) ∧ Below (((X6.setCell ⟨gR, mm * 7, none⟩ (.int .i64 3)).setCell ⟨gR, mm * 7 + 1, none⟩ (.int .i64 0)).setCell ⟨gR, mm * 7 + 2, none⟩ (.string ⟨#[]⟩)).heap.size (((X6.setCell ⟨gR, mm * 7, none⟩ (.int .i64 3)).setCell ⟨gR, mm * 7 + 1, none⟩ (.int .i64 0)).setCell ⟨gR, mm * 7 + 2, none⟩ (.string ⟨#[]⟩)) w') := prN HF.out (fun c hc => by
      rcases List.mem_append.1 hc with hc | hc
      · exact HRR.out.2.2.2.1 c hc
      · rw [List.mem_singleton] at hc; subst hc; exact cV_wf) (by rw [List.length_append, hmm]; simp; omega) (by rw [List.length_set]; exact HLS.out) (by
      have hf : fErr (R' ++ [cV]) = 33 := by rw [fErr_app HRR.out.2.2.1]; exact cV_chk
      unfold pErr
      rw [hf, if_neg (by decide)]) (by decide)
    revert HF HPF
    generalize ((X6.setCell ⟨gR, mm * 7, none⟩ (.int .i64 3)).setCell ⟨gR, mm * 7 + 1, none⟩ (.int .i64 0)).setCell ⟨gR, mm * 7 + 2, none⟩ (.string ⟨#[]⟩) = XF
    intro HF HPF
    obtain ⟨c0, c1⟩ := ctwo HF.out.bp
    go_wp2_with (go_at_call 7; refine HPF.out.mono ?_; rintro e wz ⟨a9, c9, rfl, hb⟩; have HBZ : Hid (Below w.heap.size w wz) := below_step HF.out.bw hb; clear hb)
    go_ret
    exact ⟨rfl, HBZ.out⟩
  have b3 : (kd == 3) = false := by simpa using k3
  clear k0 k1 k2 k3
  go_upto_region 25 with fail
  clear c0 c1 d0 d1 d2
  have HF : Hid (FN w G X5 (.slice (some ⟨gR, 0, none⟩) r2 r3) (.slice (some ⟨gS, 0, none⟩) n1 s3) R2 S2) := HL.out.fn HKS.out HSH.out
  have HPF : Hid (Calls Try.prog 7 #[.agg #[.slice (some ⟨gR, 0, none⟩) r2 r3, .slice (some ⟨gS, 0, none⟩) n1 s3]] X5 fun e w' => ∃ (a : Option Addr) (n cap : Nat), e = .returned (.tuple #[.slice a n cap, .int .i64 0]) ∧ (0 : Int) < (n : Int) ∧ Below X5.heap.size X5 w') := prY HF.out HVR.out.1 HLR.out HLS.out HYE.out.1 HYE.out.2
  obtain ⟨c0, c1⟩ := ctwo HF.out.bp
  go_wp2_with (go_at_call 7; refine HPF.out.mono ?_; rintro e wz ⟨a9, n9, c9, rfl, hn9, hb⟩; have HBZ : Hid (Below w.heap.size w wz) := below_step HF.out.bw hb; have hn8 : 0 < n9 := (by omega); clear hb)
  go_ret
  exact ⟨rfl, HBZ.out⟩
end Go.Proofs.Ytelcoihmiglceaa

import Derived.Test.YtelcoihmiglceaaGreatCP7
import Derived.Test.YtelcoihmiglceaaGreatCD1
import Derived.Laws.OwnMore
import Derived.Test.YtelcoihmiglceaaGreatSD15
import Derived.Test.YtelcoihmiglceaaGreatSD4
import Derived.Test.YtelcoihmiglceaaGreatMP1
import Derived.Test.YtelcoihmiglceaaGreatCT1
import Derived.Deep.RegionHeld3
import Derived.Test.YtelcoihmiglceaaGreatCP4
namespace Go.Proofs.YtelcoihmiglceaaGreat
open Go.RowKit

theorem fErr_all {l : List Cm} (h : ∀ c ∈ l, c.chk = 0) : fErr l = 0 := by
 induction l with
 | nil => rfl
 | cons a l ih => unfold fErr; rw [if_pos (h a (by simp))]; exact ih fun c hc => h c (by simp [hc])
def cP : Cm := ⟨(⟨zt, nmP, []⟩, .slice none 0 0), [], .slice none 0 0, [], .slice none 0 0⟩
theorem made_wf {c : Cm} {x : Ck} (h : c.key = madeK x) : c.wf := by
 have hv := made_val nmP_ok x
 have hm : mis 0 (vrs (Ck.terms (madeK x))) = false := norm_mis _
 obtain ⟨m, hd, hvn⟩ := num_vars hm
 have h72 := num_le hv hd
 exact wf_of (fun t ht hvt => by rw [h] at ht; have := hvn t ht hvt; omega) (by rw [h]; exact Nat.le_trans hv.ks.len (by omega))
end Go.Proofs.YtelcoihmiglceaaGreat
namespace Go.Proofs.YtelcoihmiglceaaGreat
open Go.RowKit

theorem OwnS.ssp2 {B : Nat} {X : World} {v : Value} {l : List St} (h : OwnS X B v l) (hok : ∀ c ∈ l, c.ok X) : SsP X v l := by
 refine ⟨?_, hok⟩
 rcases h.2 with ⟨rfl, hn⟩ | ⟨g, cap, cur, hv, -⟩
 ·exact Or.inl ⟨rfl, List.length_eq_zero_iff.1 hn⟩
 ·refine Or.inr ⟨⟨g, 0, none⟩, cap, hv, ?_⟩
  cases l with
  | nil => exact Or.inl rfl
  | cons c l =>
   have ho := h
   rw [hv] at ho
   obtain ⟨b, o, e, hr⟩ := ho.adr (j := 0) (c := c) rfl
   exact Or.inr ⟨b, o, Option.some.inj e, hr⟩
end Go.Proofs.YtelcoihmiglceaaGreat
namespace Go.Proofs.YtelcoihmiglceaaGreat
open Go.RowKit

structure RSL (w : World) (v : Value) (l : List Cm) : Prop where
 c : CsP w v l
 p : ∀ c ∈ l, OKP w c /\ (Ck.terms c.key).length <= 4000000 /\ c.szs
 q : ∀ a n cap, v = .slice a n cap -> n <= cap
end Go.Proofs.YtelcoihmiglceaaGreat
namespace Go.Proofs.YtelcoihmiglceaaGreat
open Go.RowKit
attribute [local go_sem ↓] Go.wp_at_zero Go.wp_at_succ

def Mk (k : Ck) : Prop := ∃ x, k = madeK x /\ Rng x
theorem Mk.kw {k : Ck} (h : Mk k) : Kw k := by
 obtain ⟨x, rfl, hr⟩ := h
 have := made_chk nmP_ok (c := kC (madeK x)) (kC_key _)
 exact ⟨by rwa [chk_keyK, kC_key] at this, made_rng nmP_ok hr⟩
theorem Mk.ks {k : Ck} (h : Mk k) : KS k := by obtain ⟨x, rfl, -⟩ := h; exact (made_val nmP_ok x).ks
theorem setM_any (l : List Cm) (v : Value) (w : World) (h : CsP w v l) (hl : l.length <= 4000000) (hm : ∀ c ∈ l, Mk c.key) :
  Calls Tryz.prog 12 #[v] w fun e w' => ∃ v' K, e = .returned (.tuple #[v', .int .i64 0]) /\ SetK K l /\ K.length <= 4000000 /\ OwnB w' 0 v' (sBy K) /\ Below w.heap.size w w' :=
 setW_any l v w h hl (fun c hc => by
  obtain ⟨h1, h2, h3, h4⟩ := (hm c hc).ks.lens
  exact ⟨by omega, by omega, by omega, fun x hx => by have := h4 x hx; omega⟩) (fun c hc => (hm c hc).kw) (fun k ⟨c, hc, e⟩ d hd => by
  obtain ⟨x, ex, -⟩ := hm c hc
  exact made_wf (x := x) (by rw [hd, <- e, ex]))
end Go.Proofs.YtelcoihmiglceaaGreat
namespace Go.Proofs.YtelcoihmiglceaaGreat
open Go.RowKit

theorem knd_len {t : Tm} (h : knd t) : t.s.size <= maxLen := by have := h.2; unfold maxLen; omega
theorem chk_szs {c : Cm} (h : c.chk = 0) : c.szs := by
 obtain ⟨h1, h2, -, -⟩ := chk_fit h
 have ha : ∀ a : At, Fit a -> a.name.size <= maxLen /\ ∀ t ∈ a.pl, t.s.size <= maxLen := fun a ha => ⟨by have := ha.nm; unfold maxLen; omega, fun t ht => by
  unfold At.pl at ht
  rcases List.mem_cons.1 ht with rfl | ht
  ·exact knd_len ha.by_
  ·exact knd_len (ha.args t ht)⟩
 refine ⟨ha _ (h1 c.head.1 (List.mem_cons_self ..)), fun x hx => ha _ (h1 x.1 (List.mem_cons_of_mem _ (by show x.1 ∈ fsts c.body; unfold fsts; exact List.mem_map_of_mem hx))), fun t ht => ?_⟩
 have := h2 t ht
 exact ⟨knd_len this.l, knd_len this.r⟩
theorem mk_len {c : Cm} (h : Mk c.key) : (Ck.terms c.key).length <= 4000000 := by
 obtain ⟨x, e, -⟩ := h
 have := val_terms (made_val nmP_ok x)
 rw [e]
 omega
theorem mk_chk {c : Cm} (h : Mk c.key) : c.chk = 0 := by rw [chk_keyK]; exact h.kw.c
theorem OwnA.asP9 {w : World} {base : Nat} {v : Value} {l : List (At × Value)} (h : OwnA w base v l) (hl : l.length < 1000000000000000000) (ht : ∀ x ∈ l, Ts w x.2 x.1.args) : AsP w v l := by
 rcases h.2 with ⟨hv, hn⟩ | ⟨g, cap, cur, hv, -⟩
 ·exact Or.inl ⟨hv, List.eq_nil_of_length_eq_zero hn⟩
 ·obtain ⟨a, cap', e, -, hr, -⟩ := h.as hl ht
  rw [hv] at e
  cases e
  refine Or.inr ⟨⟨g, 0, none⟩, cap, hv, hr.imp id ?_⟩
  rintro ⟨b, o, e, hr⟩
  cases e
  exact ⟨g, 0, rfl, hr⟩
theorem MCl.okp {B : Nat} {X : World} {d : Cm} (h : MCl B X d) (hs : (Ck.terms d.key).length <= 4000000) : OKP X d := by
 have ho := ok_of_mc3k h hs
 obtain ⟨s1, s2, s3, s4⟩ := cm_sizes hs
 exact ⟨ho, h.h.tsP, fun y hy => (h.x y hy).tsP, h.b.asP9 (by omega) fun y hy => (h.x y hy).tsP.ts (by have := s4 y hy; omega)⟩
theorem OM.rsl {B : Nat} {X : World} {v : Value} {l : List Cm} (h : OM B X v l) (hm : ∀ c ∈ l, Mk c.key) : RSL X v l := by
 refine ⟨h.o.csp2 fun c hc => ok_of_mc3k (h.m c hc) (mk_len (hm c hc)), fun c hc => ⟨(h.m c hc).okp (mk_len (hm c hc)), mk_len (hm c hc), chk_szs (mk_chk (hm c hc))⟩, fun a n cap e => ?_⟩
 rcases h.o.2 with ⟨hv, -⟩ | ⟨g, cap', cur, hv, -, -, hle, -⟩
 ·rw [hv] at e
  cases e
  exact Nat.le_refl _
 ·rw [hv] at e
  cases e
  omega
end Go.Proofs.YtelcoihmiglceaaGreat
namespace Go.Proofs.YtelcoihmiglceaaGreat
open Go.RowKit

def wk : List Sk -> Nat
 | [] => 0
 | s :: l => 1 + s.2.1.length + s.2.2.length + wk l
theorem wk_map {l : List Sk} {f : Sk -> Sk} (h : ∀ s, (f s).2.1.length = s.2.1.length /\ (f s).2.2.length = s.2.2.length) : wk (l.map f) = wk l := by
 induction l with
 | nil => rfl
 | cons s l ih => simp only [List.map_cons, wk, ih, (h s).1, (h s).2]
theorem wk_mem {l : List Sk} {s : Sk} (h : s ∈ l) : s.2.1.length + s.2.2.length + 1 <= wk l := by
 induction l with
 | nil => simp at h
 | cons a l ih =>
  unfold wk
  rcases List.mem_cons.1 h with rfl | h
  ·omega
  ·have := ih h; omega
theorem wk_len (l : List Sk) : l.length <= wk l := by
 induction l with
 | nil => simp
 | cons a l ih => simp only [List.length_cons, wk]; omega
theorem flatT_le {l : List Tm} (h : ∀ t ∈ l, knd t) : (l.flatMap tB).length <= l.length * 73 := by
 induction l with
 | nil => simp
 | cons a l ih =>
  have h1 := (tB_len a).2
  have h2 := (h a (by simp)).2
  have h3 := ih fun t ht => h t (by simp [ht])
  simp only [List.flatMap_cons, List.length_append, List.length_cons]; omega
theorem flatN_eq (l : List Int) : (l.flatMap nB).length = l.length * 8 := by
 induction l with
 | nil => simp
 | cons a l ih => simp only [List.flatMap_cons, List.length_append, List.length_cons, nB_len, ih]; omega
theorem flatS_le {l : List St} (h : ∀ s ∈ l, wSt s = true) : (l.flatMap sBm).length <= wk (l.map St.key) * 80 := by
 induction l with
 | nil => simp
 | cons a l ih =>
  have h1 := h a (by simp)
  unfold wSt wOk at h1
  rw [Bool.and_eq_true] at h1
  have h2 := flatT_le (l := a.vals) fun t ht => knd_con (List.all_eq_true.1 h1.1 t ht)
  have h3 := flatN_eq a.uses
  have h4 := ih fun s hs => h s (by simp [hs])
  have h5 : (sBm a).length = 16 + (a.vals.flatMap tB).length + (a.uses.flatMap nB).length := stB_parts a.key
  have e1 : (St.key a).2.1 = a.vals := rfl
  have e2 : (St.key a).2.2 = a.uses := rfl
  simp only [List.flatMap_cons, List.length_append, List.map_cons, wk, e1, e2]
  omega
theorem flatC_le {l : List Cm} (h : ∀ c ∈ l, c.chk = 0) : (l.flatMap cBm).length <= l.length * 20000 := by
 induction l with
 | nil => simp
 | cons a l ih =>
  have h1 : (cBm a).length <= 20000 := cB_len (h a (by simp))
  have h2 := ih fun c hc => h c (by simp [hc])
  simp only [List.flatMap_cons, List.length_append, List.length_cons]; omega
theorem wOk_made (s : Sk) : wOk (madeS s) = true := by
 unfold wOk madeS
 simp only [Bool.and_eq_true, List.all_eq_true, List.mem_map, decide_eq_true_eq]
 refine ⟨fun t ht => ?_, fun n hn => ?_, nat8_nn _⟩
 ·obtain ⟨u, -, rfl⟩ := ht; exact mkC_con u
 ·obtain ⟨u, -, rfl⟩ := hn; exact nat8_nn u
structure Rs (s : Sk) : Prop where
 n : -9223372036854775808 <= s.1 /\ s.1 <= 9223372036854775807
 u : ∀ n ∈ s.2.2, -9223372036854775808 <= n /\ n <= 9223372036854775807
 t : ∀ t ∈ s.2.1, rng t
theorem nat8_le {n : Int} (h : -9223372036854775808 <= n /\ n <= 9223372036854775807) : nat8 n <= 9223372036854775807 := by
 unfold nat8
 split <;> omega
theorem sw_made {s : Sk} (h : Rs s) (l1 : s.2.1.length < 4294967296) (l2 : s.2.2.length < 4294967296) : Sw (madeS s) := by
 refine ⟨wOk_made s, fun t ht => ?_, nat8_le h.n, fun n hn => ?_, ?_, ?_⟩
 ·obtain ⟨u, hu, rfl⟩ := List.mem_map.1 (show t ∈ s.2.1.map mkC from ht)
  exact rng_mkC (h.t u hu)
 ·obtain ⟨u, hu, rfl⟩ := List.mem_map.1 (show n ∈ s.2.2.map nat8 from hn)
  exact nat8_le (h.u u hu)
 ·show (s.2.1.map mkC).length < _
  rw [List.length_map]; exact l1
 ·show (s.2.2.map nat8).length < _
  rw [List.length_map]; exact l2
theorem proofM_any (R : List Cm) (S : List St) (rv sv : Value) (w : World) (hR : CsP w rv R) (hS : SsP w sv S) (hm : ∀ c ∈ R, Mk c.key) (hs : ∀ s ∈ S, Sw s.key) (hl : R.length <= 2000000) (hw : wk (S.map St.key) <= 2000000) :
  Calls Tryz.prog 17 #[.agg #[rv, sv]] w fun e w' => ∃ v', e = .returned (.tuple #[v', .int .i64 0]) /\ Bn w' v' (pK (R.map Cm.key, S.map St.key)) /\ (pK (R.map Cm.key, S.map St.key)).length <= 90000000000 /\ Below w.heap.size w w' := by
 have hlS : S.length <= 2000000 := by have := wk_len (S.map St.key); rw [List.length_map] at this; omega
 have hc : ∀ c ∈ R, c.chk = 0 := fun c h => mk_chk (hm c h)
 have hst : ∀ s ∈ S, wSt s = true := fun s h => (hs s h).w
 have hf : fErr R = 0 := fErr_all hc
 have ha : S.all wSt = true := List.all_eq_true.2 hst
 have he : pErr R S = 0 := by unfold pErr; rw [if_pos hf, if_pos ha]
 have b1 := flatC_le hc
 have b2 := flatS_le hst
 have hlen : (pB R S).length <= 90000000000 := by
  unfold pB
  simp only [List.length_append, be_len]
  omega
 have := proofW_any R S rv sv w hR hS (fun c h => by obtain ⟨x, e, -⟩ := hm c h; exact made_wf e) (by omega) (by omega) (fun _ _ => by omega)
 rw [he, if_pos rfl] at this
 refine this.mono ?_
 rintro e w' ⟨v, rfl, h1, h2⟩
 rw [pB_pK] at h1 hlen
 exact ⟨v, rfl, h1, hlen, h2⟩
end Go.Proofs.YtelcoihmiglceaaGreat
namespace Go.Proofs.YtelcoihmiglceaaGreat
open Go.RowKit

theorem flat_byt9 {α : Type} {f : α -> List Int} {l : List α} (h : ∀ x ∈ l, byt (f x)) : byt (l.flatMap f) := fun y hy => by
 obtain ⟨x, hx, hy⟩ := List.mem_flatMap.1 hy
 exact h x hx y hy
theorem stB_byt9 {s : Sk} (h : Sw s) : byt (stB s) := by
 obtain ⟨h1, -, -⟩ := wOk_iff.1 h.w
 unfold stB
 exact (be_byt _ _).app (((be_byt _ _).app (flat_byt9 fun t ht => tB_byt (knd_con (h1 t ht)))).app ((be_byt _ _).app (flat_byt9 fun n _ => be_byt _ _)))
theorem kB_byt9 {k : Ck} (h : chkK k = 0) : byt (cB k) := by
 have := cB_byt9 (c := kC k) (by rw [chk_keyK, kC_key]; exact h)
 rwa [kC_key] at this
theorem pK_byt9 {x : Pk} (hc : ∀ c ∈ x.1, chkK c = 0) (hs : ∀ s ∈ x.2, Sw s) : byt (pK x) := by
 unfold pK
 exact ((be_byt _ _).app (flat_byt9 fun c h => kB_byt9 (hc c h))).app ((be_byt _ _).app (flat_byt9 fun s h => stB_byt9 (hs s h)))
theorem sBy_byt9 {K : List Ck} (hc : ∀ c ∈ K, chkK c = 0) : byt (sBy K) := by
 unfold sBy
 exact (be_byt _ _).app (flat_byt9 fun c h => kB_byt9 (hc c h))
theorem pK_ne9 (x : Pk) : pK x ≠ [] := fun h => by
 have := congrArg List.length h
 unfold pK at this
 simp only [List.length_append, be_len, List.length_nil] at this
 omega
theorem sBy_ne9 (K : List Ck) : sBy K ≠ [] := fun h => by
 have := congrArg List.length h
 unfold sBy at this
 simp only [List.length_append, be_len, List.length_nil] at this
 omega
theorem kB_len9 {k : Ck} (h : chkK k = 0) : (cB k).length <= 20000 := by
 have := cB_len (c := kC k) (by rw [chk_keyK, kC_key]; exact h)
 rwa [kC_key] at this
theorem flatK_le9 : ∀ {K : List Ck}, (∀ c ∈ K, chkK c = 0) -> (K.flatMap cB).length <= K.length * 20000
 | [], _ => by simp
 | k :: K, h => by
  have h1 := kB_len9 (h k (by simp))
  have h2 := flatK_le9 fun c hc => h c (List.mem_cons_of_mem _ hc)
  simp only [List.flatMap_cons, List.length_append, List.length_cons]; omega
theorem sBy_len9 {K : List Ck} (hc : ∀ c ∈ K, chkK c = 0) : (sBy K).length <= K.length * 20000 + 4 := by
 unfold sBy
 simp only [List.length_append, be_len]
 have := flatK_le9 hc
 omega
theorem setK_kw {K : List Ck} {l : List Cm} (h : SetK K l) (hm : ∀ c ∈ l, Mk c.key) : ∀ k ∈ K, chkK k = 0 /\ Rng k := fun k hk => by
 obtain ⟨c, hc, rfl⟩ := (h.mem k).1 hk
 exact ⟨(hm c hc).kw.c, (hm c hc).kw.r⟩
structure LL (B : Nat) (X : World) (rv sv : Value) (R : List Cm) (S : List St) : Prop where
 om : OM B X rv R
 os : SsP X sv S
 mm : ∀ c ∈ R, Mk c.key
 sw : ∀ s ∈ S, Sw s.key
 lr : R.length <= 2000000
 ws : wk (S.map St.key) <= 2000000
theorem LL.later {B : Nat} {X X' : World} {rv sv : Value} {R : List Cm} {S : List St} (h : LL B X rv sv R S) (hb : Below X.heap.size X X') : LL B X' rv sv R S := ⟨h.om.later hb, h.os.later hb, h.mm, h.sw, h.lr, h.ws⟩
theorem LL.csp {B : Nat} {X : World} {rv sv : Value} {R : List Cm} {S : List St} (h : LL B X rv sv R S) : CsP X rv R := (h.om.rsl h.mm).c
theorem LL.ls {B : Nat} {X : World} {rv sv : Value} {R : List Cm} {S : List St} (h : LL B X rv sv R S) : S.length <= 2000000 := by have := wk_len (S.map St.key); rw [List.length_map] at this; have := h.ws; omega
theorem ll_made {w w' : World} {R : List Cm} {S : List St} {e : Ending} (h : MPP w R S e w') (hlR : R.length <= 2000000) (hwS : wk (S.map St.key) <= 2000000) (hrR : ∀ c ∈ R, Rng c.key) (hrS : ∀ s ∈ S, Rs s.key) :
  ∃ r1 r2 r3 s1 s2 s3 R' S', e = .returned (.agg #[.slice r1 r2 r3, .slice s1 s2 s3]) /\ LL w.heap.size w' (.slice r1 r2 r3) (.slice s1 s2 s3) R' S' /\ Below w.heap.size w w' := by
 obtain ⟨rv, sv, R', S', M, rfl, hrk, hsk, hom, hos, -, -, -, hb⟩ := h
 have hmS : ∀ s ∈ S, s.vals.length <= 2000000 /\ s.uses.length <= 2000000 := fun s hs => by
  have := wk_mem (List.mem_map_of_mem (f := St.key) hs)
  have e1 : (St.key s).2.1 = s.vals := rfl
  have e2 : (St.key s).2.2 = s.uses := rfl
  rw [e1, e2] at this; omega
 have e2 : S'.map St.key = (S.map St.key).map madeS := by rw [hsk, List.map_map]; rfl
 have hw' : wk (S'.map St.key) = wk (S.map St.key) := by rw [e2]; exact wk_map fun s => by unfold madeS; simp
 have hl' : R'.length = R.length := by have := congrArg List.length hrk; simpa using this
 have hsw : ∀ s ∈ S', Sw s.key := fun s hs => by
  have h1 : s.key ∈ S.map (fun s => madeS s.key) := by rw [<- hsk]; exact List.mem_map_of_mem hs
  obtain ⟨s0, h0, e⟩ := List.mem_map.1 h1
  rw [<- e]
  have h2 := hmS s0 h0
  exact sw_made (hrS s0 h0) (by show s0.vals.length < _; omega) (by show s0.uses.length < _; omega)
 have hmk : ∀ c ∈ R', Mk c.key := fun c hc => by
  have h1 : c.key ∈ R.map (fun c => madeK c.key) := by rw [<- hrk]; exact List.mem_map_of_mem hc
  obtain ⟨c0, h0, e⟩ := List.mem_map.1 h1
  exact ⟨c0.key, e.symm, hrR c0 h0⟩
 obtain ⟨r1, r3, e5⟩ := hom.o.form
 obtain ⟨s1, s3, e6⟩ := hos.o.form
 subst e5 e6
 refine ⟨_, _, _, _, _, _, R', S', rfl, ⟨hom, hos.o.ssp2 (fun s hs => ?_), hmk, hsw, by omega, by omega⟩, hb⟩
 have hl := wk_mem (List.mem_map_of_mem (f := St.key) hs)
 have e3 : (St.key s).2.1 = s.vals := rfl
 have e4 : (St.key s).2.2 = s.uses := rfl
 rw [e3, e4, hw'] at hl
 exact sapp_one9 (row_mono (hos.t s hs).1 (Nat.zero_le _)) (row_mono (hos.t s hs).2 (Nat.zero_le _)) (by omega) (by omega)
theorem LL.kx {B : Nat} {X : World} {rv sv : Value} {R : List Cm} {S : List St} (h : LL B X rv sv R S) : (∀ c ∈ (R.map Cm.key, S.map St.key).1, chkK c = 0) /\ ∀ s ∈ (R.map Cm.key, S.map St.key).2, Sw s := by
 refine ⟨fun c hc => ?_, fun s hs => ?_⟩
 ·obtain ⟨c', hc', rfl⟩ := List.mem_map.1 hc
  exact (h.mm c' hc').kw.c
 ·obtain ⟨c', hc', rfl⟩ := List.mem_map.1 hs
  exact h.sw c' hc'
theorem ll_proof {B : Nat} {X : World} {rv sv : Value} {R : List Cm} {S : List St} (h : LL B X rv sv R S) :
  Calls Tryz.prog 17 #[.agg #[rv, sv]] X fun e w' => ∃ v', e = .returned (.tuple #[v', .int .i64 0]) /\ Br w' v' (pK (R.map Cm.key, S.map St.key)) /\ (pK (R.map Cm.key, S.map St.key)).length <= 400000000000 /\ Below X.heap.size X w' :=
 (proofM_any R S rv sv X h.csp h.os h.mm h.sw h.lr h.ws).mono (by
  rintro e w' ⟨v', rfl, h1, h2, h3⟩
  exact ⟨v', rfl, h1.br (pK_byt9 h.kx.1 h.kx.2) (pK_ne9 _), by omega, h3⟩)
theorem ll_lend (u : Value) (l : List Int) (X : World) (hu : Br X u l) (hl : l.length <= 400000000000) : Calls Tryz.prog 19 #[u] X fun e w' => ∃ u', e = .returned u' /\ Bh w' u' l /\ Below X.heap.size X w' :=
 (lendB_any u l X hu hl).mono (by rintro e w' ⟨u', rfl, h1, h2⟩; exact ⟨u', rfl, h1.bh hu.1 (by omega), h2⟩)
theorem PR8.lists {B : Nat} {X : World} {x : Pk} {q : Value} (h : PR8 B X x q) : ∃ a1 a2 a3 b1 b2 b3, q = .agg #[.slice a1 a2 a3, .slice b1 b2 b3] := by
 obtain ⟨rv, sv, R, S, rfl, -, -, h1, h2⟩ := h
 obtain ⟨a1, a3, rfl⟩ := h1.o.form
 obtain ⟨b1, b3, rfl⟩ := h2.o.form
 exact ⟨_, _, _, _, _, _, rfl⟩
theorem ll_set {B : Nat} {X : World} {rv sv : Value} {R : List Cm} {S : List St} (h : LL B X rv sv R S) : Calls Tryz.prog 12 #[rv] X fun e w' => ∃ v' K, e = .returned (.tuple #[v', .int .i64 0]) /\ SetK K R /\ (K.length <= 4000000 /\ (sBy K).length <= 400000000000) /\ Br w' v' (sBy K) /\ Below X.heap.size X w' :=
 (setM_any R rv X h.csp (by have := h.lr; omega) h.mm).mono (by
  rintro e w' ⟨v', K, rfl, hk, hl, ho, hb⟩
  have hc := fun k hk' => (setK_kw hk h.mm k hk').1
  have := sBy_len9 hc
  exact ⟨v', K, rfl, hk, ⟨hl, by omega⟩, (ho.bn (by omega)).br (sBy_byt9 hc) (sBy_ne9 _), hb⟩)
theorem gb_no {B : List Int} {k : Int} (hr : rWhole rProof B = .error k) (u : Value) (X : World) (hu : Bh X u B) :
  Calls Tryz.prog 20 #[u] X fun e w' => ∃ a1 a2 a3 b1 b2 b3, e = .returned (.tuple #[.agg #[.slice a1 a2 a3, .slice b1 b2 b3], .int .i64 k]) /\ Below X.heap.size X w' :=
 (readProof_any u B X hu).mono (by
  rw [hr]
  rintro e w' ⟨hb, x, q, er, rfl, hp, rfl, rfl⟩
  obtain ⟨a1, a2, a3, b1, b2, b3, rfl⟩ := hp.lists
  exact ⟨_, _, _, _, _, _, rfl, hb⟩)
theorem gb_ok {B : List Int} {x : Pk} (hr : rWhole rProof B = .ok x) (u : Value) (X : World) (hu : Bh X u B) :
  Calls Tryz.prog 20 #[u] X fun e w' => ∃ a1 a2 a3 b1 b2 b3, e = .returned (.tuple #[.agg #[.slice a1 a2 a3, .slice b1 b2 b3], .int .i64 0]) /\ PR8 X.heap.size w' x (.agg #[.slice a1 a2 a3, .slice b1 b2 b3]) /\ Below X.heap.size X w' :=
 (readProof_any u B X hu).mono (by
  rw [hr]
  rintro e w' ⟨hb, x', q, er, rfl, hp, rfl, rfl⟩
  obtain ⟨a1, a2, a3, b1, b2, b3, rfl⟩ := hp.lists
  exact ⟨_, _, _, _, _, _, rfl, hp, hb⟩)
theorem gs_no {B : List Int} {k : Int} (hr : rWhole rSet B = .error k) (u : Value) (X : World) (hu : Bh X u B) :
  Calls Tryz.prog 22 #[u] X fun e w' => ∃ a c, e = .returned (.tuple #[.slice a 0 c, .int .i64 k]) /\ Below X.heap.size X w' :=
 (readSet_any u B X hu).mono (by
  rw [hr]
  rintro e w' ⟨hb, x, q, er, rfl, ⟨L, hL, ho⟩, rfl, rfl⟩
  obtain ⟨a, c, rfl⟩ := ho.o.form
  obtain rfl : L = [] := List.map_eq_nil_iff.1 hL
  exact ⟨a, c, rfl, hb⟩)
theorem gs_ok {B : List Int} {K : List Ck} (hr : rWhole rSet B = .ok K) (u : Value) (X : World) (hu : Bh X u B) :
  Calls Tryz.prog 22 #[u] X fun e w' => ∃ a n c, e = .returned (.tuple #[.slice a n c, .int .i64 0]) /\ SR8 X.heap.size w' K (.slice a n c) /\ Below X.heap.size X w' :=
 (readSet_any u B X hu).mono (by
  rw [hr]
  rintro e w' ⟨hb, x, q, er, rfl, hp, rfl, rfl⟩
  obtain ⟨L, hL, ho⟩ := id hp
  obtain ⟨a, c, rfl⟩ := ho.o.form
  exact ⟨a, _, c, rfl, hp, hb⟩)
end Go.Proofs.YtelcoihmiglceaaGreat

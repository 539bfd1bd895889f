import Derived.Test.YtgbiicmkhlnniaaGreatDoorFD7
import Derived.Test.YtgbiicmkhlnniaaGreatDoorFD8
import Derived.Test.YtgbiicmkhlnniaaGreatDoorOQ1
import Derived.Test.YtgbiicmkhlnniaaGreatDoorLD4
import Derived.Test.YtgbiicmkhlnniaaGreatDoorLD5
import Derived.Test.YtgbiicmkhlnniaaGreatDoorRA14
import Derived.Deep.Slices
import Derived.Deep.Strs
import Derived.SizedLaws
import Derived.Test.YtgbiicmkhlnniaaGreatDoorCL1
import Derived.Test.YtgbiicmkhlnniaaGreatDoorMD1
import Derived.Test.YtgbiicmkhlnniaaGreatDoorRows
/-
  PlanMakes: what hangs on a clause's key alone, and the walk.
-/
namespace Go.Proofs.YtgbiicmkhlnniaaGreatDoor
open Go.RowKit
attribute [local go_sem ↓] Go.wp_at_zero Go.wp_at_succ

/-- The same but for where it lies. -/
structure Ky9 (d c : Cm) : Prop where
  h : d.head.1 = c.head.1
  b : fsts d.body = fsts c.body
  t : d.tests = c.tests
theorem ky9_of {d c : Cm} (h : d.key = c.key) : Ky9 d c := ⟨congrArg (fun k : Ck => k.1) h, congrArg (fun k : Ck => k.2.1) h, congrArg (fun k : Ck => k.2.2) h⟩
theorem aErr9_fst : ∀ {l l' : List (At × Value)}, fsts l = fsts l' → aErr l = aErr l'
  | [], [], _ => rfl
  | [], _ :: _, h => by simp [fsts] at h
  | _ :: _, [], h => by simp [fsts] at h
  | x :: l, y :: l', h => by
    simp only [fsts, List.map_cons, List.cons.injEq] at h
    have ih := aErr9_fst (l := l) (l' := l') h.2
    unfold aErr
    rw [h.1, ih]
theorem chk9_key {c d : Cm} (h : d.key = c.key) : d.chk = c.chk := by
  obtain ⟨k1, k2, k3⟩ := ky9_of h
  have e1 : long d = long c := by unfold long; rw [(key_len d).1, (key_len d).2, (key_len c).1, (key_len c).2, h]
  have e2 : aErr d.atoms = aErr c.atoms := aErr9_fst (by unfold Cm.atoms; simp only [fsts, List.map_cons]; rw [k1]; congr 1)
  have e3 : badT d = badT c := by unfold badT; rw [k3]
  have e4 : unb d = unb c := by rw [unb_key, unb_key, h]
  have e5 : mis 0 d.vars = mis 0 c.vars := by rw [mis_key, mis_key, h]
  unfold Cm.chk Cm.rs
  rw [e1, e2, e3, e4, e5, k1]
theorem vars9_key {c d : Cm} (h : d.key = c.key) : d.vars = c.vars := by
  unfold Cm.vars
  rw [key_terms, key_terms, h]
theorem Ky9.at_ {d c : Cm} (h : Ky9 d c) (i : Nat) : (d.body[i]?).map Prod.fst = (c.body[i]?).map Prod.fst := by
  have := congrArg (fun x : List At => x[i]?) h.b
  simpa [fsts] using this
theorem Ky9.len {d c : Cm} (h : Ky9 d c) : d.body.length = c.body.length := by
  have := congrArg List.length h.b
  simpa [fsts] using this
theorem Ky9.tk {d c : Cm} (h : Ky9 d c) : tk9 d = tk9 c := by funext met n; unfold tk9; rw [h.t]
theorem Ky9.pls {d c : Cm} (h : Ky9 d c) (i : Nat) : pls9 d i = pls9 c i := by
  have e := h.at_ i
  unfold pls9
  cases h1 : d.body[i]? <;> cases h2 : c.body[i]? <;> rw [h1, h2] at e <;> simp at e ⊢
  rw [e]
theorem Ky9.kl {d c : Cm} (h : Ky9 d c) (met : List Bool) (i : Nat) : kl9 d met i = kl9 c met i := by
  have e := h.at_ i
  unfold kl9
  cases h1 : d.body[i]? <;> cases h2 : c.body[i]? <;> rw [h1, h2] at e <;> simp at e ⊢
  rw [e]
theorem Ky9.al {d c : Cm} (h : Ky9 d c) (i : Nat) : al9 d i = al9 c i := by
  have e := h.at_ i
  unfold al9
  cases h1 : d.body[i]? <;> cases h2 : c.body[i]? <;> rw [h1, h2] at e <;> simp at e ⊢
  rw [e]
theorem Ky9.bt {d c : Cm} (h : Ky9 d c) : bt9 d = bt9 c := by
  funext met m y
  unfold bt9 bc9
  rw [h.kl, h.kl, h.al, h.al]
theorem Ky9.mn {d c : Cm} (h : Ky9 d c) (met : List Bool) (A : List Int) : mn9 d met A = mn9 c met A := by
  cases A with
  | nil => rfl
  | cons x l => unfold mn9; rw [h.bt]
theorem Ky9.jm {d c : Cm} (h : Ky9 d c) (met : List Bool) (n : Nat) : jm9 d met n = jm9 c met n := by unfold jm9; rw [h.pls]
theorem Ky9.jT {d c : Cm} (h : Ky9 d c) (met : List Bool) (T : List Int) (n : Nat) : jT9 d met T n = jT9 c met T n := by unfold jT9; rw [h.tk, h.jm]
theorem Ky9.jr {d c : Cm} (h : Ky9 d c) (met : List Bool) (T : List Int) (n : Nat) : jr9 d met T n = jr9 c met T n := by unfold jr9; rw [h.tk, h.jm, h.pls]
theorem Ky9.pln {d c : Cm} (h : Ky9 d c) : ∀ (f : Nat) (met : List Bool) (A T : List Int), pln9 d f met A T = pln9 c f met A T
  | 0, _, _, _ => rfl
  | f + 1, met, A, T => by unfold pln9; rw [h.mn, h.jr, h.jm, h.jT, Ky9.pln h f]
theorem ah9_key {d c : Cm} (h : d.key = c.key) : ah9 d = ah9 c := by unfold ah9; rw [(ky9_of h).tk, vars9_key h, (ky9_of h).t]
theorem js9_key {d c : Cm} (h : d.key = c.key) (lead : Int) : js9 d lead = js9 c lead := by
  have k := ky9_of h
  have e : ts9 d = ts9 c := by unfold ts9; rw [k.tk, vars9_key h, k.t]
  unfold js9
  simp only [vars9_key h, k.len, e, k.pln, k.jr, k.jm, k.jT]
/-- What both Makes answer. -/
def Mk9 (er : Int) (AH : List Int) (JS : List Js9) (X : World) (e : Ending) (Y : World) : Prop :=
  ∃ av jv l, e = .returned (.tuple #[.agg #[av, jv], .int .i64 er]) ∧ OwI Y X.heap.size av AH ∧ PJ9 Y X.heap.size jv l ∧ l.map Prod.fst = JS ∧ Below X.heap.size X Y
theorem PJ9.below9 {Y Y' : World} {B : Nat} {v : Value} {l : List (Js9 × Value × Value)} (h : PJ9 Y B v l) (hb : Below Y.heap.size Y Y') : PJ9 Y' B v l := ⟨row7_below h.o hb, fun x hx => row7_below (h.k x hx) hb, fun x hx => row7_below (h.t x hx) hb⟩
theorem PJ9.none_ (Y : World) (B : Nat) : PJ9 Y B (.slice none 0 0) [] := ⟨World.ownsRow_nil _ _ _ _, fun x hx => (by cases hx), fun x hx => (by cases hx)⟩
theorem mk9_q {c d : Cm} (hk : d.key = c.key) {lead : Int} {X Y : World} {e : Ending} (h : MkQ9 d lead X e Y) : Mk9 (er9 c lead) (if er9 c lead = 0 then ah9 c else []) (if er9 c lead = 0 then js9 c lead else []) X e Y := by
  obtain ⟨hb, h⟩ := h
  rw [chk9_key hk, (ky9_of hk).len, ah9_key hk, js9_key hk] at h
  rcases h with ⟨h1, h2⟩ | ⟨h1, h2, h3⟩ | ⟨h1, h2, h3, av, jv, l, h4, h5, h6, h7⟩
  · have e : er9 c lead = c.chk := by unfold er9; rw [if_pos h1]
    rw [e, if_neg h1, if_neg h1]
    exact ⟨_, _, [], h2, OwI.nil _ _, PJ9.none_ _ _, rfl, hb⟩
  · have e : er9 c lead = 91 := by unfold er9; rw [if_neg (by simp [h1]), if_pos h2]
    rw [e, if_neg (by omega), if_neg (by omega)]
    exact ⟨_, _, [], h3, OwI.nil _ _, PJ9.none_ _ _, rfl, hb⟩
  · have e : er9 c lead = 0 := by unfold er9; rw [if_neg (by simp [h1]), if_neg (by omega)]
    rw [e, if_pos rfl, if_pos rfl]
    exact ⟨av, jv, l, h4, h5, h6, h7, hb⟩
theorem mk9_r {c : Cm} {lead : Int} {X Y : World} {e : Ending} (h : MkR9 c lead X e Y) : Mk9 (er9 c lead) (if er9 c lead = 0 then ah9 c else []) (if er9 c lead = 0 then js9 c lead else []) X e Y := by
  obtain ⟨hb, ⟨h1, h2⟩ | ⟨h1, av, jv, l, h4, h5, h6, h7⟩⟩ := h
  · rw [if_neg h1, if_neg h1]
    exact ⟨_, _, [], h2, OwI.nil _ _, PJ9.none_ _ _, rfl, hb⟩
  · rw [h1, if_pos rfl, if_pos rfl]
    exact ⟨av, jv, l, h4, h5, h6, h7, hb⟩
theorem Cm.seven9 {d : Cm} {X : World} (h : d.ok X) : ∃ k m s nm a hn cap a1 nb cap1 a2 nt cap2, d.v = .agg #[.int .i64 k, .int .i64 m, .string s, .string nm, .slice a hn cap, .slice a1 nb cap1, .slice a2 nt cap2] := by
  obtain ⟨⟨a, hn, cap, h1⟩, ⟨a1, cap1, h2⟩, ⟨a2, cap2, h3⟩, -, -⟩ := h.shape
  obtain ⟨⟨⟨⟨k, m, s⟩, nm, ls⟩, hx⟩, body, bv, tests, tv⟩ := d
  simp only at h1 h2 h3
  subst h1 h2 h3
  exact ⟨_, _, _, _, _, _, _, _, _, _, _, _, _, rfl⟩
theorem Lent.ok9 {B : Nat} {X : World} {d : Cm} (h : Lent B X d) (hs : (Ck.terms d.key).length ≤ 4000000) : d.ok X := by
  obtain ⟨s1, s2, s3, s4⟩ := cm_sizes hs
  exact h.ok (by omega) (by omega) (fun y hy => by have := s4 y hy; omega) (by omega)
theorem LentT.tsp9 {B : Nat} {X : World} {v : Value} {l : List Tm} (h : LentT X B v l) : TsP X v l := by
  obtain ⟨g, cap, e, ho⟩ := h
  refine Or.inr ⟨_, cap, e, Or.inr ⟨g, 0, rfl, (ho.lt g rfl).2, fun i t ht => ?_⟩⟩
  have hi := (List.getElem?_eq_some_iff.1 ht).1
  have := ownT_cells ho i t (by rw [List.getElem?_append_left hi]; exact ht)
  simpa using this
theorem dis9_fold : ∀ (l acc : List Int), (l.foldl dstep acc).length ≤ acc.length + l.length
  | [], acc => by simp
  | v :: l, acc => by
    rw [List.foldl_cons]
    have h1 := dis9_fold l (dstep acc v)
    have h2 : (dstep acc v).length ≤ acc.length + 1 := by unfold dstep; split <;> simp
    simp only [List.length_cons]; omega
theorem dis9_le (l : List Int) : (dis l).length ≤ l.length := by have := dis9_fold l []; simpa [dis] using this
set_option maxRecDepth 40000 in
set_option maxHeartbeats 4000000 in
theorem planMakes9_any (c : Cm) (lead : Int) (w : World) (h : c.ok w) (hh : TsP w c.head.2 c.head.1.args) (hp : ∀ x ∈ c.body, TsP w x.2 x.1.args) (hbp : AsP w c.bv c.body) (htp : EsP w c.tv c.tests) (hs : (Ck.terms c.key).length ≤ 1048576) (hw : ∀ t ∈ Ck.terms c.key, t.var = true → (Lit.int .i64 t.n).wf = true) (hB : BehOk w) :
    Calls Tryz.prog 3 #[c.v, .int .i64 lead] w fun e w' => e = .returned (.bool true) ∧ Below w.heap.size w w' := by
  have HLD : Hid (∀ X : World, Below w.heap.size w X → Calls Tryz.prog 4 #[c.v] X fun e w' => ∃ d : Cm, e = .returned d.v ∧ d.key = c.key ∧ Lent X.heap.size w' d ∧ Below X.heap.size X w') := fun X hX => lendC_any c X (h.later hX) (hh.later hX) (fun x hx => (hp x hx).later hX) (htp.later hX) (by omega) (hB.later hX)
  obtain ⟨AH, hAH⟩ : ∃ A, (if er9 c lead = 0 then ah9 c else []) = A := ⟨_, rfl⟩
  obtain ⟨JS, hJS⟩ : ∃ A, (if er9 c lead = 0 then js9 c lead else []) = A := ⟨_, rfl⟩
  obtain ⟨er, her⟩ : ∃ er, er9 c lead = er := ⟨_, rfl⟩
  have HMK : Hid (∀ (X : World) (d : Cm) (B : Nat), d.key = c.key → Lent B X d → Calls Tryz.prog 5 #[d.v, .int .i64 lead] X (Mk9 er AH JS X)) := fun X d B hk hd => by
    have ho := hd.ok9 (by rw [hk]; omega)
    obtain ⟨s1, s2, s3, s4⟩ := cm_sizes (c := d) (by rw [hk]; omega)
    have hnv : (dis d.vars).length ≤ 10000000000 := by
      have h1 := dis9_le d.vars
      have h2 := vrs_len (Ck.terms c.key)
      have h3 : d.vars = vrs (Ck.terms c.key) := by rw [← hk, ← key_terms]; rfl
      rw [h3] at h1 ⊢
      omega
    have := make9_any d lead X ho ⟨fun t ht hv => hw t (by rw [← hk, ← key_terms]; exact ht) hv, by rw [key_terms, hk]; omega⟩ (fun x hx => ⟨(hd.b.ts x hx).tsp9, fun hc => Nat.le_trans (err_zero' ((chk_err9 hc).e x.1 (List.mem_cons_of_mem _ (List.mem_map.2 ⟨x, hx, rfl⟩)))).2.1 (by omega)⟩) hnv
    refine this.mono fun e Y hq => ?_
    rw [← her, ← hAH, ← hJS]
    exact mk9_q hk hq
  have HMR : Hid (∀ X : World, Below w.heap.size w X → Calls Tryz.prog 6 #[c.v, .int .i64 lead] X (Mk9 er AH JS X)) := fun X hX => by
    refine (rmake9_any c lead X (h.later hX) (hh.later hX) (fun x hx => (hp x hx).later hX) (hbp.later hX)).mono fun e Y hq => ?_
    rw [← her, ← hAH, ← hJS]
    exact mk9_r hq
  have HKP : Hid (∀ (X : World) (d : Cm) (B : Nat), d.key = c.key → Lent B X d → Below w.heap.size w X → Calls Tryz.prog 8 #[d.v, c.v] X fun e w' => e = .returned (.bool true) ∧ Below X.heap.size X w') := fun X d B hk hd hX => keptC_any d c B X (h.later hX) hd hk (by omega) (hB.later hX)
  obtain ⟨KR, hKR⟩ : ∃ K, c.key = K := ⟨_, rfl⟩
  have HSZ : Hid ((Ck.terms KR).length ≤ 1048576) := by rw [← hKR]; exact hs
  rw [hKR] at HLD HMK HKP
  obtain ⟨k, m, s, nm, a, hn, cap, a1, nb, cap1, a2, nt, cap2, hcv⟩ := Cm.seven9 h
  rw [hcv] at HLD HMR HKP ⊢
  clear h hh hp hbp htp hs hw hB hAH hJS her hKR hcv
  clear c
  have HC0 := hm7 (Bk.new w #[.int .i64 k, .int .i64 m, .string s, .string nm, .slice a hn cap, .slice a1 nb cap1, .slice a2 nt cap2] 30)
  have HW0 := hm7 (below1 w (.cells #[.int .i64 k, .int .i64 m, .string s, .string nm, .slice a hn cap, .slice a1 nb cap1, .slice a2 nt cap2] 30))
  go_enter Tryz.func3, Tryz.ntmps3
  go_upto_region 1 with fail
  revert HC0 HW0
  generalize w.alloc (.cells #[.int .i64 k, .int .i64 m, .string s, .string nm, .slice a hn cap, .slice a1 nb cap1, .slice a2 nt cap2] 30) = W0
  obtain ⟨q, hq⟩ : ∃ q, w.heap.size = q := ⟨_, rfl⟩
  intro HC0 HW0
  rw [hq] at HC0
  rw [hq]
  have HQ := hm7 hq
  clear hq
  have d0 := HC0.out.cell (i := 0) rfl
  have d1 := HC0.out.cell (i := 1) rfl
  have d2 := HC0.out.cell (i := 2) rfl
  have d3 := HC0.out.cell (i := 3) rfl
  have d4 := HC0.out.cell (i := 4) rfl
  have d5 := HC0.out.cell (i := 5) rfl
  have d6 := HC0.out.cell (i := 6) rfl
  go_upto_region 2 with (go_at_call 4; refine (HLD.out _ HW0.out).mono ?_; rintro e W1 ⟨d, rfl, hdk, hd, hb⟩; have HW1 := hm7 (HW0.out.trans (hb.mono HW0.out.size)); have HC1 := hm7 (HC0.out.below hb); obtain ⟨k', m', s', nm', a', hn', cap', a1', nb', cap1', a2', nt', cap2', hdv⟩ := Cm.seven9 (hd.ok9 (by rw [hdk]; exact Nat.le_trans HSZ.out (by omega))); have HMD : Hid (∀ X : World, Below W1.heap.size W1 X → Calls Tryz.prog 5 #[d.v, .int .i64 lead] X (Mk9 er AH JS X)) := fun X hX => HMK.out X d _ hdk (hd.later hX); have HKD : Hid (∀ X : World, Below W1.heap.size W1 X → Calls Tryz.prog 8 #[d.v, .agg #[.int .i64 k, .int .i64 m, .string s, .string nm, .slice a hn cap, .slice a1 nb cap1, .slice a2 nt cap2]] X fun e w' => e = .returned (.bool true) ∧ Below X.heap.size X w') := fun X hX => HKP.out X d _ hdk (hd.later hX) (HW1.out.trans (hX.mono HW1.out.size)); rw [hdv] at HMD HKD ⊢; clear hdv hd hdk d hb HLD HMK HKP d0 d1 d2 d3 d4 d5 d6 HC0)
  have HD2 := hm7 (Bk.new W1 #[.int .i64 k', .int .i64 m', .string s', .string nm', .slice a' hn' cap', .slice a1' nb' cap1', .slice a2' nt' cap2'] 30)
  have HB2 := hm7 (below1 W1 (.cells #[.int .i64 k', .int .i64 m', .string s', .string nm', .slice a' hn' cap', .slice a1' nb' cap1', .slice a2' nt' cap2'] 30))
  have HC2 := hm7 (HC1.out.below HB2.out)
  revert HD2 HB2 HC2
  generalize W1.alloc (.cells #[.int .i64 k', .int .i64 m', .string s', .string nm', .slice a' hn' cap', .slice a1' nb' cap1', .slice a2' nt' cap2'] 30) = W2
  obtain ⟨g, hg⟩ : ∃ g, W1.heap.size = g := ⟨_, rfl⟩
  intro HD2 HB2 HC2
  rw [hg] at HD2
  rw [hg]
  have HG := hm7 hg
  clear hg
  have d0 := HD2.out.cell (i := 0) rfl
  have d1 := HD2.out.cell (i := 1) rfl
  have d2 := HD2.out.cell (i := 2) rfl
  have d3 := HD2.out.cell (i := 3) rfl
  have d4 := HD2.out.cell (i := 4) rfl
  have d5 := HD2.out.cell (i := 5) rfl
  have d6 := HD2.out.cell (i := 6) rfl
  go_upto_region 3 with (go_at_call 5; refine (HMD.out _ HB2.out).mono ?_; rintro e W3 ⟨av, jv, l, rfl, ha, hj, hl, hb⟩; have HB3 := hm7 (HB2.out.trans (hb.mono HB2.out.size)); have HC3 := hm7 (HC2.out.below hb); have HD3 := hm7 (HD2.out.below hb); have HA := hm7 ha; have HJ := hm7 hj; have HL := hm7 hl; obtain ⟨va, vc, hav, -⟩ := row7_form ha; obtain ⟨ja, jc, hjv, -⟩ := row7_form hj.o; generalize AH.length = an at hav; generalize l.length = jn at hjv; subst hav hjv; clear ha hj hl hb d0 d1 d2 d3 d4 d5 d6 HMD HC2 HD2)
  have HP4 := hm7 (Bk.new W3 #[.slice va an vc, .slice ja jn jc] 35)
  have HB4 := hm7 (below1 W3 (.cells #[.slice va an vc, .slice ja jn jc] 35))
  have HC4 := hm7 (HC3.out.below HB4.out)
  have HD4 := hm7 (HD3.out.below HB4.out)
  have HA4 := hm7 (row7_below HA.out HB4.out)
  have HJ4 := hm7 (PJ9.below9 HJ.out HB4.out)
  revert HP4 HB4 HC4 HD4 HA4 HJ4
  generalize W3.alloc (.cells #[.slice va an vc, .slice ja jn jc] 35) = W4
  obtain ⟨p, hp⟩ : ∃ p, W3.heap.size = p := ⟨_, rfl⟩
  intro HP4 HB4 HC4 HD4 HA4 HJ4
  have HL4 := hm7 (HB3.out.trans (HB4.out.mono HB3.out.size))
  rw [hp] at HP4
  rw [hp]
  have HPE := hm7 hp
  clear hp HA HJ HC3 HD3
  have d0 := HC4.out.cell (i := 0) rfl
  have d1 := HC4.out.cell (i := 1) rfl
  have d2 := HC4.out.cell (i := 2) rfl
  have d3 := HC4.out.cell (i := 3) rfl
  have d4 := HC4.out.cell (i := 4) rfl
  have d5 := HC4.out.cell (i := 5) rfl
  have d6 := HC4.out.cell (i := 6) rfl
  go_upto_region 4 with (go_at_call 6; refine (HMR.out _ (HW1.out.trans (HL4.out.mono HW1.out.size))).mono ?_; rintro e W5 ⟨av', jv', l', rfl, ha, hj, hl, hb⟩; have HL5 := hm7 (HL4.out.trans (hb.mono HL4.out.size)); have HC5 := hm7 (HC4.out.below hb); have HD5 := hm7 (HD4.out.below hb); have HP5 := hm7 (HP4.out.below hb); have HA5 := hm7 (row7_below HA4.out hb); have HJ5 := hm7 (PJ9.below9 HJ4.out hb); have HAR := hm7 ha; have HJR := hm7 hj; have HLE := hm7 (HL.out.trans hl.symm); obtain ⟨va', vc', hav, -⟩ := row7_form ha; obtain ⟨ja', jc', hjv, -⟩ := row7_form hj.o; generalize AH.length = an' at hav; generalize l'.length = jn' at hjv; subst hav hjv; clear ha hj hl hb d0 d1 d2 d3 d4 d5 d6 HMR HC4 HD4 HP4 HA4 HJ4)
  have HR6 := hm7 (Bk.new W5 #[.slice va' an' vc', .slice ja' jn' jc'] 35)
  have HB6 := hm7 (below1 W5 (.cells #[.slice va' an' vc', .slice ja' jn' jc'] 35))
  have HC6 := hm7 (HC5.out.below HB6.out)
  have HD6 := hm7 (HD5.out.below HB6.out)
  have HP6 := hm7 (HP5.out.below HB6.out)
  have HPL : Hid (∀ X : World, Below W5.heap.size W5 X → Calls Tryz.prog 7 #[.agg #[.slice va an vc, .slice ja jn jc], .agg #[.slice va' an' vc', .slice ja' jn' jc']] X fun e w' => e = .returned (.bool true) ∧ Below X.heap.size X w') := fun X hX => plans9_any _ _ _ _ _ _ AH l l' X (row7_below HA5.out hX) (row7_below HAR.out hX) (PJ9.below9 HJ5.out hX) (PJ9.below9 HJR.out hX) HLE.out
  revert HR6 HB6 HC6 HD6 HP6
  generalize W5.alloc (.cells #[.slice va' an' vc', .slice ja' jn' jc'] 35) = W6
  obtain ⟨r, hr⟩ : ∃ r, W5.heap.size = r := ⟨_, rfl⟩
  intro HR6 HB6 HC6 HD6 HP6
  have HL6 := hm7 (HL5.out.trans (HB6.out.mono HL5.out.size))
  rw [hr] at HR6
  rw [hr]
  have HRE := hm7 hr
  clear hr HC5 HD5 HP5 HA5 HJ5 HAR HJR
  have p0 := HP6.out.cell (i := 0) rfl
  have p1 := HP6.out.cell (i := 1) rfl
  have r0 := HR6.out.cell (i := 0) rfl
  have r1 := HR6.out.cell (i := 1) rfl
  go_wp2_with (first
    | (go_at_call 7; refine (HPL.out _ HB6.out).mono ?_; rintro e W7 ⟨rfl, hb⟩; have HL7 := hm7 (HL6.out.trans (hb.mono HL6.out.size)); have HC7 := hm7 (HC6.out.below hb); have HD7 := hm7 (HD6.out.below hb); have d0 := HC7.out.cell (i := 0) rfl; have d1 := HC7.out.cell (i := 1) rfl; have d2 := HC7.out.cell (i := 2) rfl; have d3 := HC7.out.cell (i := 3) rfl; have d4 := HC7.out.cell (i := 4) rfl; have d5 := HC7.out.cell (i := 5) rfl; have d6 := HC7.out.cell (i := 6) rfl; have e0 := HD7.out.cell (i := 0) rfl; have e1 := HD7.out.cell (i := 1) rfl; have e2 := HD7.out.cell (i := 2) rfl; have e3 := HD7.out.cell (i := 3) rfl; have e4 := HD7.out.cell (i := 4) rfl; have e5 := HD7.out.cell (i := 5) rfl; have e6 := HD7.out.cell (i := 6) rfl; clear hb p0 p1 r0 r1 HPL)
    | (go_at_call 8; refine (HKD.out _ HL7.out).mono ?_; rintro e W8 ⟨rfl, hb⟩; have HL8 := hm7 (HL7.out.trans (hb.mono HL7.out.size)); clear hb d0 d1 d2 d3 d4 d5 d6 e0 e1 e2 e3 e4 e5 e6 HKD)
    | (go_at_call 9; refine (first9_any _).mono ?_; rintro e W9 ⟨rfl, hb⟩; have HL9 := hm7 (HL8.out.trans (hb.mono HL8.out.size)); clear hb))
  go_ret
  exact ⟨rfl, HW1.out.trans (HL9.out.mono HW1.out.size)⟩
end Go.Proofs.YtgbiicmkhlnniaaGreatDoor
/-
  Arguments opened: a list of terms, an atom.
-/
namespace Go.Proofs.YtgbiicmkhlnniaaGreatDoor
open Go.ChangeShapes Go.WideShapes Go.ChangeAt Go.RowKit Go.Joins Go.Deep

theorem Tryz.cellsAtom : Tryz.prog.cellsOf 26 = 5 := by kernel_rfl
theorem Tryz.cellsInt : Tryz.prog.cellsOf 3 = 1 := by kernel_rfl
theorem Tryz.cellsString : Tryz.prog.cellsOf 9 = 1 := by kernel_rfl
theorem Tryz.cellsTerms : Tryz.prog.cellsOf 24 = 1 := by kernel_rfl
theorem Tryz.bytesTerm : Tryz.prog.bytesOf 23 = 32 := by kernel_rfl
theorem list3 {α : Type} {l : List α} (h : l.length = 3) : ∃ a b c, l = [a, b, c] := by
  match l, h with
  | [a, b, c], _ => exact ⟨a, b, c, rfl⟩
theorem list5 {α : Type} {l : List α} (h : l.length = 5) : ∃ a b c d e, l = [a, b, c, d, e] := by
  match l, h with
  | [a, b, c, d, e], _ => exact ⟨a, b, c, d, e, rfl⟩
end Go.Proofs.YtgbiicmkhlnniaaGreatDoor
/-
  Arguments opened: a clause.
-/
namespace Go.Proofs.YtgbiicmkhlnniaaGreatDoor
open Go.ChangeShapes Go.WideShapes Go.ChangeAt Go.RowKit Go.Joins Go.Deep

theorem weights_mem_all {H : Type} {P : Program} {e : TypeId} {d : DataW H} {n : Nat} (hn : n ∈ d.weights P e) : ∀ {ds : List (DataW H)}, d ∈ ds → n ∈ DataW.weightsAll P e ds
  | x :: r, h => by
    rw [DataW.weightsAll, List.mem_append]
    rcases List.mem_cons.1 h with rfl | h
    · exact Or.inl hn
    · exact Or.inr (weights_mem_all hn h)
theorem Tryz.cellsTest3 : Tryz.prog.cellsOf 46 = 7 := by kernel_rfl
theorem Tryz.cellsClause : Tryz.prog.cellsOf 30 = 7 := by kernel_rfl
theorem Tryz.cellsAtoms : Tryz.prog.cellsOf 27 = 1 := by kernel_rfl
theorem Tryz.cellsTests : Tryz.prog.cellsOf 28 = 1 := by kernel_rfl
theorem Tryz.bytesAtom : Tryz.prog.bytesOf 26 = 72 := by kernel_rfl
theorem Tryz.bytesTest : Tryz.prog.bytesOf 46 = 72 := by kernel_rfl
theorem clist7 {α : Type} {l : List α} (h : l.length = 7) : ∃ a b c d e f g, l = [a, b, c, d, e, f, g] := by
  match l, h with
  | [a, b, c, d, e, f, g], _ => exact ⟨a, b, c, d, e, f, g, rfl⟩
end Go.Proofs.YtgbiicmkhlnniaaGreatDoor
/-
  A clause opened, with its bulk and with the numbers of its terms. (Written by NB4.py, out of R2 and CL24.)
-/
namespace Go.Proofs.YtgbiicmkhlnniaaGreatDoor
open Go.ChangeShapes Go.WideShapes Go.ChangeAt Go.RowKit Go.Joins Go.Deep

def WfT (t : Tm) : Prop := (Lit.int .i64 t.n).wf = true
theorem bulkN_pos {H : Type} (d : DataW H) : 1 ≤ Rows.uptoBulk d := by
  cases d with
  | lit l => cases l <;> simp [Rows.uptoBulk]
  | _ => simp [Rows.uptoBulk]
theorem bulkN_len {H : Type} (l : List (DataW H)) : l.length ≤ Rows.uptoBulkAll l := by
  induction l with
  | nil => simp
  | cons d r ih => have := bulkN_pos d; simp only [Rows.uptoBulkAll, List.length_cons]; omega
theorem bulkN_slice {H : Type} (l r : List (DataW H)) : l.length ≤ Rows.uptoBulk (.slice l r) := by
  have := bulkN_len l; simp only [Rows.uptoBulk]; omega
theorem bulkN_sum {H α : Type} (g : Nat → List α) (D : Nat → DataW H) : ∀ l : List Nat, (∀ i ∈ l, (g i).length ≤ Rows.uptoBulk (D i)) → (l.flatMap g).length ≤ Rows.uptoBulkAll (l.map D)
  | [], _ => by simp
  | i :: l, h => by
    have h1 := h i (by simp)
    have h2 := bulkN_sum g D l fun j hj => h j (by simp [hj])
    rw [List.flatMap_cons, List.length_append, List.map_cons]
    simp only [Rows.uptoBulkAll]
    omega
set_option maxRecDepth 100000 in
theorem term_of_cellsB {H : Type} {enc : TypeId × Value → H} {W : World} {base : Nat} {spare : Nat → Bool} {held : Bool} {fuel : Nat} {cs : List Value} {x : DataW H × List MemPlace}
    (h : DataW.trod enc Tryz.prog W base spare held fuel 23 cs = some x) (hl : cs.length = 3) : ∃ t : Tm, cs = [.int .i64 t.k, .int .i64 t.n, .string t.s] ∧ WfT t := by
  obtain ⟨c0, c1, c2, rfl⟩ := list3 hl
  obtain ⟨y0, y1, y2, n, -, -, h0, h1, h2⟩ := trod_struct3 Tryz.underlying23 h
  rw [Tryz.cellsInt] at h0 h1
  rw [Tryz.cellsString] at h2
  obtain ⟨k, e0, -, -⟩ := DataW.trod_int Tryz.underlying3 h0
  obtain ⟨m, e1, -, hwf⟩ := DataW.trod_int Tryz.underlying3 h1
  obtain ⟨s, e2, -, -⟩ := DataW.trod_string Tryz.underlying9 h2
  simp at e0 e1 e2
  subst e0 e1 e2
  exact ⟨⟨k, m, s⟩, rfl, hwf⟩
set_option maxRecDepth 100000 in
theorem test_of_cellsB {H : Type} {enc : TypeId × Value → H} {W : World} {base : Nat} {spare : Nat → Bool} {held : Bool} {fuel : Nat} {cs : List Value} {x : DataW H × List MemPlace}
    (hf : DataW.trod enc Tryz.prog W base spare held fuel 46 cs = some x) (hl : cs.length = 7) : ∃ t : Te, cs = [.int .i64 t.op, .int .i64 t.l.k, .int .i64 t.l.n, .string t.l.s, .int .i64 t.r.k, .int .i64 t.r.n, .string t.r.s] ∧ 2 ≤ Rows.uptoBulk x.1 ∧ WfT t.l ∧ WfT t.r := by
  obtain ⟨c0, c1, c2, c3, c4, c5, c6, rfl⟩ := clist7 hl
  obtain ⟨y0, y1, y2, n, hd, -, h0, h1, h2⟩ := trod_struct3 Tryz.underlying46 hf
  rw [Tryz.cellsInt] at h0
  rw [Tryz.cellsTerm] at h1 h2
  obtain ⟨k, e0, -, -⟩ := DataW.trod_int Tryz.underlying3 h0
  obtain ⟨t, e1, w1⟩ := term_of_cellsB h1 (by simp)
  obtain ⟨u, e2, w2⟩ := term_of_cellsB h2 (by simp)
  simp at e0 e1 e2
  subst e0
  obtain ⟨rfl, rfl, rfl⟩ := e1
  obtain ⟨rfl, rfl, rfl⟩ := e2
  refine ⟨⟨k, t, u⟩, rfl, ?_, w1, w2⟩
  rw [hd]
  have := bulkN_pos y1.1
  have := bulkN_pos y2.1
  simp only [Rows.uptoBulk, Rows.uptoBulkAll]
  omega
end Go.Proofs.YtgbiicmkhlnniaaGreatDoor

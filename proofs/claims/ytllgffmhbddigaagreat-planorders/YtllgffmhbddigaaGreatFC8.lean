import Derived.Test.YtllgffmhbddigaaGreatMD14
import Derived.Test.YtllgffmhbddigaaGreatMP2
import Derived.Test.YtllgffmhbddigaaGreatW3
import Derived.Test.YtllgffmhbddigaaGreatFC7
/-
  consts; Instance, Vars of small clauses.
-/
namespace Go.Proofs.YtllgffmhbddigaaGreat
open Go.RowKit
attribute [local go_sem ↓] Go.wp_at_zero Go.wp_at_succ

/-- A clause of few and short lists. -/
structure KS (x : Ck) : Prop where
  h : x.1.args.length ≤ 8
  b : x.2.1.length ≤ 8
  t : x.2.2.length ≤ 8
  x : ∀ a ∈ x.2.1, a.args.length ≤ 8
theorem Val0.ks {x : Ck} (h : Val0 x) : KS x := ⟨(err_zero' (h.e _ (by simp))).2.1, h.bl, h.tl, fun a ha => (err_zero' (h.e a (by simp [ha]))).2.1⟩
theorem KS.len {x : Ck} (h : KS x) : (Ck.terms x).length ≤ 100 := by
  have h1 := h.h; have h2 := h.b; have h3 := h.t
  have := flat_len9 x.2.1 fun a ha => by have := h.x a ha; simp [At.pl]; omega
  unfold Ck.terms
  rw [List.length_append, List.length_append, tls_len]
  simp [At.pl] at this ⊢
  omega
theorem wf_small {v : Int} (h : 0 ≤ v) (h' : v < 100000) : (Lit.int .i64 v).wf = true := by
  simp only [Lit.wf, IntKind.min, IntKind.max, IntKind.signed, IntKind.bits, Bool.and_eq_true, decide_eq_true_eq, if_true]
  omega
end Go.Proofs.YtllgffmhbddigaaGreat
/-
  law 9: what Made made, as Make wants it; PlanOrders' state.
-/
namespace Go.Proofs.YtllgffmhbddigaaGreat
open Go.RowKit
attribute [local go_sem ↓] Go.wp_at_zero Go.wp_at_succ

/-- A valid clause in memory. -/
structure Md9 (X : World) (d : Cm) : Prop where
  v : Val0 d.key
  chk : d.chk = 0
  ok : d.ok X
  wf : d.wf
  tp : ∀ x ∈ d.body, TsP X x.2 x.1.args ∧ x.1.args.length ≤ 1000000
  nv : (dis d.vars).length ≤ 72
theorem Md9.later {X X' : World} {d : Cm} (h : Md9 X d) (hb : Below X.heap.size X X') : Md9 X' d := ⟨h.v, h.chk, h.ok.later hb, h.wf, fun x hx => ⟨(h.tp x hx).1.later hb, (h.tp x hx).2⟩, h.nv⟩
theorem val_args {c : Cm} (h : Val0 c.key) : (∀ x ∈ c.body, x.1.args.length ≤ 8) ∧ c.head.1.args.length ≤ 8 ∧ c.body.length ≤ 8 ∧ c.tests.length ≤ 8 := by
  refine ⟨fun x hx => (err_zero' (h.e x.1 (List.mem_cons_of_mem _ (List.mem_map.2 ⟨x, hx, rfl⟩)))).2.1, (err_zero' (h.e c.head.1 (List.mem_cons_self ..))).2.1, ?_, h.tl⟩
  have := h.bl
  simpa [Cm.key, fsts] using this
theorem made9_any (c : Cm) (w : World) (h : c.ok w) :
    Calls Tryz.prog 8 #[c.v] w fun e w' => ∃ d : Cm, e = .returned d.v ∧ Md9 w' d ∧ Below w.heap.size w w' :=
  (made_any c w h).mono fun e w' h => by
    obtain ⟨d, rfl, hk, hm, hb⟩ := h
    have hv : Val0 d.key := by rw [hk]; exact made_val nmP_ok _
    have hc : d.chk = 0 := made_chk nmP_ok hk
    obtain ⟨a1, a2, a3, a4⟩ := val_args hv
    obtain ⟨m, h1, h2⟩ := num_vars (x := d.key) (by
      have := (chk_none9 hc).2
      unfold Cm.vars at this
      rw [key_terms] at this
      exact this)
    have hm72 := num_le hv h1
    have hvs : d.vars = vrs (Ck.terms d.key) := by unfold Cm.vars vrs; rw [key_terms]
    refine ⟨d, rfl, ⟨hv, hc, hm.ok (by omega) (by omega) (fun y hy => by have := a1 y hy; omega) (by omega), ⟨fun t ht hvt => ?_, ?_⟩, fun x hx => ⟨(hm.x x hx).tsP, by have := a1 x hx; omega⟩, by rw [hvs, h1, ints_len]; exact hm72⟩, hb⟩
    · rw [key_terms] at ht
      have := h2 t ht hvt
      have := var_nn hvt
      exact wf_small (by omega) (by omega)
    · rw [key_terms]
      have := hv.ks.len
      omega
/-- PlanOrders amid its work: behind V it has three arrays of its own. -/
structure OS9 (V : World) (jo ak me : Nat) (Js As M : List Bool) (Y : World) : Prop where
  be : Below V.heap.size V Y
  l1 : V.heap.size ≤ jo
  l2 : V.heap.size ≤ ak
  l3 : V.heap.size ≤ me
  n1 : jo ≠ ak
  n2 : jo ≠ me
  n3 : ak ≠ me
  j : Bk Y jo (mv9 Js) 42
  a : Bk Y ak (mv9 As) 42
  m : Bk Y me (mv9 M) 43
theorem OS9.below {V : World} {jo ak me : Nat} {Js As M : List Bool} {Y Y' : World} (h : OS9 V jo ak me Js As M Y) (hb : Below Y.heap.size Y Y') : OS9 V jo ak me Js As M Y' :=
  ⟨h.be.trans (hb.mono h.be.size), h.l1, h.l2, h.l3, h.n1, h.n2, h.n3, h.j.below hb, h.a.below hb, h.m.below hb⟩
theorem OS9.ask {V : World} {jo ak me : Nat} {Js As M : List Bool} {Y : World} (h : OS9 V jo ak me Js As M Y) (i : Nat) : OS9 V jo ak me Js (As.set i true) M (Y.setCell ⟨ak, i, none⟩ (.bool true)) :=
  ⟨h.be.setCell h.l2 _, h.l1, h.l2, h.l3, h.n1, h.n2, h.n3, h.j.off h.n1, by rw [← mv9_set]; exact h.a.set i _, h.m.off h.n3.symm⟩
theorem OS9.join {V : World} {jo ak me : Nat} {Js As M : List Bool} {Y : World} (h : OS9 V jo ak me Js As M Y) (i : Nat) : OS9 V jo ak me (Js.set i true) As M (Y.setCell ⟨jo, i, none⟩ (.bool true)) :=
  ⟨h.be.setCell h.l1 _, h.l1, h.l2, h.l3, h.n1, h.n2, h.n3, by rw [← mv9_set]; exact h.j.set i _, h.a.off h.n1.symm, h.m.off h.n2.symm⟩
theorem OS9.meet {V : World} {jo ak me : Nat} {Js As M M' : List Bool} {Y Y' : World} (h : OS9 V jo ak me Js As M Y) (hm : Bk Y' me (mv9 M') 43) (hf : Fr (fun b => b = me) Y Y') : OS9 V jo ak me Js As M' Y' :=
  ⟨h.be.trans (Fr.low (hf.mono (Q := fun b => V.heap.size ≤ b) fun b _ e => by rw [e]; exact h.l3) h.be.size), h.l1, h.l2, h.l3, h.n1, h.n2, h.n3, h.j.fr hf h.n2, h.a.fr hf h.n3, hm⟩
/-- What is asked: the tests that were, and some more. -/
structure Ak9 (N : Nat) (K : Nat → Bool) (As : List Bool) (L : List Int) : Prop where
  n : N ≤ 8
  len : As.length = 9
  at_ : ∀ n : Nat, n < N → As[n]? = some (K n || decide ((n : Int) ∈ L))
theorem Ak9.set {N : Nat} {K : Nat → Bool} {As : List Bool} {L : List Int} (h : Ak9 N K As L) (m : Nat) (_hm : m < N) : Ak9 N K (As.set m true) (L ++ [(m : Int)]) := by
  refine ⟨h.n, by rw [List.length_set]; exact h.len, fun n hn => ?_⟩
  have h8 := h.n
  rw [List.getElem?_set]
  by_cases e : m = n
  · rw [if_pos e, if_pos (by have := h.len; omega), ← e]; simp
  · rw [if_neg e, h.at_ n hn]
    have : ¬ (n : Int) = (m : Int) := by omega
    simp [this]
theorem Ak9.start {N : Nat} (hc : N ≤ 8) : Ak9 N (fun _ => false) (List.replicate 9 false) [] :=
  ⟨hc, by simp, fun n hn => by rw [List.getElem?_replicate, if_pos (by omega)]; rfl⟩
theorem Ak9.turn {N : Nat} {K K' : Nat → Bool} {As : List Bool} {L : List Int} (h : Ak9 N K As L) (hk : ∀ n : Nat, n < N → (K n || decide ((n : Int) ∈ L)) = K' n) : Ak9 N K' As [] :=
  ⟨h.n, h.len, fun n hn => by rw [h.at_ n hn, hk n hn]; simp⟩
theorem ah9_turn (c : Cm) : ∀ n : Nat, n < c.tests.length → ((fun _ : Nat => false) n || decide ((n : Int) ∈ ah9 c)) = (fun n : Nat => tk9 c (List.replicate (dis c.vars).length false) n) n := fun n hn => by
  have hu : (n : Int) ∈ up9 c.tests.length := List.mem_map.2 ⟨n, List.mem_range.2 hn, rfl⟩
  show (false || decide ((n : Int) ∈ ah9 c)) = tk9 c (List.replicate (dis c.vars).length false) n
  rw [Bool.false_or]
  unfold ah9
  cases h : tk9 c (List.replicate (dis c.vars).length false) n with
  | true => exact decide_eq_true (List.mem_filter.2 ⟨hu, h⟩)
  | false => exact decide_eq_false fun e => by have := (List.mem_filter.1 e).2; rw [h] at this; cases this
theorem jt9_turn (c : Cm) (met : List Bool) (m : Nat) : ∀ n : Nat, n < c.tests.length → ((fun n : Nat => tk9 c met n) n || decide ((n : Int) ∈ (jr9 c met (T9 c met) m).t)) = (fun n : Nat => tk9 c (jm9 c met m) n) n := fun n hn => by
  have hu : (n : Int) ∈ up9 c.tests.length := List.mem_map.2 ⟨n, List.mem_range.2 hn, rfl⟩
  show (tk9 c met n || decide ((n : Int) ∈ (T9 c met).filter (tk9 c (jm9 c met m)))) = tk9 c (jm9 c met m) n
  cases h : tk9 c met n with
  | true => rw [tk9_mono h]; rfl
  | false =>
    rw [Bool.false_or]
    cases h2 : tk9 c (jm9 c met m) n with
    | true => exact decide_eq_true (List.mem_filter.2 ⟨List.mem_filter.2 ⟨hu, by simp [h]⟩, h2⟩)
    | false => exact decide_eq_false fun e => by have := (List.mem_filter.1 e).2; rw [h2] at this; cases this
/-- A test of a list that is told next isn't asked yet. -/
theorem Ak9.no {N : Nat} {K : Nat → Bool} {As : List Bool} {L : List Int} {k n : Nat} (h : Ak9 N K As (L.take k)) (hk : L[k]? = some (n : Int)) (hn : n < N) (hd : L.Nodup) (hK : K n = false) : As[n]? = some false := by
  rw [h.at_ n hn, hK, Bool.false_or]
  have : ¬ (n : Int) ∈ L.take k := fun e => by
    obtain ⟨i, hi, he⟩ := List.getElem_of_mem e
    rw [List.length_take] at hi
    rw [List.getElem_take] at he
    have hl := (List.getElem?_eq_some_iff.1 hk).1
    have h2 : L[k] = (n : Int) := by rw [List.getElem?_eq_getElem hl] at hk; exact Option.some.inj hk
    exact (List.pairwise_iff_getElem.1 hd) i k (by omega) hl (by omega) (by rw [he, h2])
  rw [decide_eq_false this]
theorem ah9_in {c : Cm} {m : Int} (h : m ∈ ah9 c) : ∃ n : Nat, m = (n : Int) ∧ n < c.tests.length ∧ tk9 c (List.replicate (dis c.vars).length false) n = true := by
  obtain ⟨h1, h2⟩ := List.mem_filter.1 h
  obtain ⟨i, hi, rfl⟩ := List.mem_map.1 h1
  exact ⟨i, rfl, List.mem_range.1 hi, h2⟩
theorem jt9_in {c : Cm} {met : List Bool} {k : Nat} {m : Int} (h : m ∈ (jr9 c met (T9 c met) k).t) : ∃ n : Nat, m = (n : Int) ∧ n < c.tests.length ∧ tk9 c met n = false := by
  obtain ⟨h1, -⟩ := List.mem_filter.1 h
  obtain ⟨h1, h2⟩ := List.mem_filter.1 h1
  obtain ⟨i, hi, rfl⟩ := List.mem_map.1 h1
  exact ⟨i, rfl, List.mem_range.1 hi, by simpa using h2⟩
theorem ah9_nodup (c : Cm) : (ah9 c).Nodup := (up9_nodup _).filter _
theorem jt9_nodup (c : Cm) (met : List Bool) (k : Nat) : (jr9 c met (T9 c met) k).t.Nodup := ((up9_nodup _).filter _).filter _
/-- What is known ahead of all joins has no variables. -/
theorem tk9_none {c : Cm} (hv : Val0 c.key) {n : Nat} {t : Te} (ht : c.tests[n]? = some t) (h : tk9 c (List.replicate (dis c.vars).length false) n = true) : (t.l.k == 3) = false ∧ (t.r.k == 3) = false := by
  unfold tk9 at h
  rw [Int.toNat_natCast, ht] at h
  simp only [Bool.and_eq_true] at h
  have hk := val_te hv t (List.mem_of_getElem? ht)
  have key : ∀ u : Tm, K39 u → kn9 (List.replicate (dis c.vars).length false) u = true → (u.k == 3) = false := fun u hu hk => by
    cases hvu : u.var with
    | true =>
      unfold kn9 at hk
      rw [hvu, List.getElem?_replicate] at hk
      split at hk <;> simp at hk
    | false =>
      have : ¬ u.k = 3 := fun e => by rw [hu e] at hvu; cases hvu
      simp [this]
  exact ⟨key _ hk.1 h.1, key _ hk.2 h.2⟩
/-- The atoms joined. -/
structure Jo9 (N : Nat) (A : List Int) (Js : List Bool) : Prop where
  n : N ≤ 8
  len : Js.length = 9
  at_ : ∀ k : Nat, k < N → Js[k]? = some (!decide ((k : Int) ∈ A))
theorem Jo9.start {N : Nat} (h : N ≤ 8) : Jo9 N (up9 N) (List.replicate 9 false) :=
  ⟨h, by simp, fun k hk => by
    rw [List.getElem?_replicate, if_pos (by omega), decide_eq_true (show (k : Int) ∈ up9 N from List.mem_map.2 ⟨k, List.mem_range.2 hk, rfl⟩)]; rfl⟩
theorem Jo9.set {N : Nat} {A : List Int} {Js : List Bool} (h : Jo9 N A Js) (n : Nat) (_hn : n < N) : Jo9 N (jA9 A n) (Js.set n true) := by
  have h8 := h.n
  refine ⟨h.n, by rw [List.length_set]; exact h.len, fun k hk => ?_⟩
  rw [List.getElem?_set]
  by_cases e : n = k
  · rw [if_pos e, if_pos (by have := h.len; omega)]
    subst e
    rw [decide_eq_false (fun e => by have := (List.mem_filter.1 e).2; simp at this)]; rfl
  · rw [if_neg e, h.at_ k hk]
    have hne : ¬ (k : Int) = (n : Int) := by omega
    congr 2
    refine decide_eq_decide.2 ⟨fun h => List.mem_filter.2 ⟨h, by simp [hne]⟩, fun h => (List.mem_filter.1 h).1⟩
/-- At the end all tests are known. -/
theorem tk9_all {c : Cm} (hv : Val0 c.key) (_hc : c.chk = 0) {met : List Bool} (h : Ps9 c met []) {n : Nat} (hn : n < c.tests.length) : tk9 c met n = true := by
  have key : ∀ u ∈ tls c.tests, kn9 met u = true := fun u hu => by
    unfold kn9
    cases hvu : u.var with
    | false => rfl
    | true =>
      have h1 := hv.s u (List.mem_append_right _ hu) hvu
      obtain ⟨a, ha, hua⟩ := List.mem_flatMap.1 h1
      obtain ⟨x, hx, rfl⟩ := List.mem_map.1 (show a ∈ c.body.map Prod.fst from ha)
      obtain ⟨k, hk, rfl⟩ := List.getElem_of_mem hx
      rw [h.vr k _ (List.getElem?_eq_getElem hk) (by simp) u hua hvu]; rfl
  unfold tk9
  rw [Int.toNat_natCast, List.getElem?_eq_getElem hn]
  simp only [Bool.and_eq_true]
  exact ⟨key _ (List.mem_flatMap.2 ⟨_, List.getElem_mem hn, by simp⟩), key _ (List.mem_flatMap.2 ⟨_, List.getElem_mem hn, by simp⟩)⟩
end Go.Proofs.YtllgffmhbddigaaGreat

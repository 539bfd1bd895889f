/-
  syntax: clauseOf.
-/
import Derived.Test.YtnikmcmkbjjcdaaGreatDoorSY18
import Derived.Test.YtnikmcmkbjjcdaaGreatDoorNB2
namespace Go.Proofs.YtnikmcmkbjjcdaaGreatDoor
open Go.RowKit
attribute [local go_sem ↓] Go.wp_at_zero Go.wp_at_succ

/-- Normal of a clause of so many terms: what it answers lies from here on. -/
theorem normalK_any (c : Cm) (w : World) (h : c.ok w) (hs : (Ck.terms c.key).length ≤ 4000000) (hw : ∀ t ∈ Ck.terms c.key, t.var = true → (Lit.int .i64 t.n).wf = true) :
    Calls Tryz.prog 22 #[c.v] w fun e w' => ∃ d : Cm, e = .returned d.v ∧ d.key = normC c.key ∧ Kp w.heap.size w' d ∧ Below w.heap.size w w' := by
  have hlen : (Ck.terms c.key).length = c.head.1.args.length + 1 + (totA (fsts c.body) + 2 * c.tests.length) := by
    unfold Ck.terms Cm.key
    simp only
    rw [List.length_append, List.length_append, ← tot_flat, tls_two]
    simp [At.pl]
  have hb1 : (fsts c.body).length ≤ totA (fsts c.body) := by rw [tot_flat]; exact flat_one
  rw [fsts_len] at hb1
  have hb2 : ∀ x ∈ c.body, x.1.args.length ≤ totA (fsts c.body) := fun x hx => by rw [tot_flat]; exact flat_arg (List.mem_map.2 ⟨x, hx, rfl⟩)
  have m1 : ∀ t, t = c.head.1.by_ ∨ t ∈ c.head.1.args → t ∈ Ck.terms c.key := fun t ht => List.mem_append_left _ (by rcases ht with e | e; rw [e]; exact List.mem_cons_self; exact List.mem_cons_of_mem _ e)
  have m2 : ∀ x ∈ c.body, ∀ t, t = x.1.by_ ∨ t ∈ x.1.args → t ∈ Ck.terms c.key := fun x hx t ht => List.mem_append_right _ (List.mem_append_left _ (List.mem_flatMap.2 ⟨x.1, List.mem_map.2 ⟨x, hx, rfl⟩, by rcases ht with e | e; rw [e]; exact List.mem_cons_self; exact List.mem_cons_of_mem _ e⟩))
  have m3 : ∀ x ∈ c.tests, x.l ∈ Ck.terms c.key ∧ x.r ∈ Ck.terms c.key := fun x hx => ⟨List.mem_append_right _ (List.mem_append_right _ (List.mem_flatMap.2 ⟨x, hx, by simp⟩)), List.mem_append_right _ (List.mem_append_right _ (List.mem_flatMap.2 ⟨x, hx, by simp⟩))⟩
  refine (normal_any c w (fun t ht => hw t (m1 t ht)) (fun x hx t ht => hw t (m2 x hx t ht)) (fun x hx => ⟨hw _ (m3 x hx).1, hw _ (m3 x hx).2⟩) (by omega) h (by omega) (by omega) (by omega) (fun x hx => by have := hb2 x hx; omega)).mono fun e w' he => ?_
  obtain ⟨M1, M2, M3, lb, rfl, hr, hb⟩ := he
  refine ⟨_, rfl, ?_, NrPost.kp hr (by omega) (by omega), hb⟩
  rw [← nr_norm]
  unfold Cm.key Cm.cpN
  simp only
  rw [hr.f]
/-- A clause that lies in blocks of F. -/
def KF (F : Nat → Prop) (X : World) (d : Cm) : Prop := ∀ Y : World, X.heap.size ≤ Y.heap.size → (∀ b, F b → b < X.heap.size → Y.heap[b]? = X.heap[b]?) → d.ok Y
theorem KF.ok {F : Nat → Prop} {X : World} {d : Cm} (h : KF F X d) : d.ok X := h X (Nat.le_refl _) fun _ _ _ => rfl
theorem KF.fr {F Q : Nat → Prop} {X Y : World} {d : Cm} (h : KF F X d) (hf : Fr Q X Y) (hQ : ∀ b, F b → ¬ Q b) : KF F Y d := fun Z hz ha => h Z (Nat.le_trans hf.size hz) fun b hF hb => (ha b hF (Nat.lt_of_lt_of_le hb hf.size)).trans (hf.block b hb (hQ b hF))
theorem KF.below {F : Nat → Prop} {X Y : World} {d : Cm} (h : KF F X d) (hb : Below X.heap.size X Y) : KF F Y d := h.fr (Q := fun _ => False) (Fr.of hb) fun _ _ h => h
theorem KF.mono {F G : Nat → Prop} {X : World} {d : Cm} (h : KF F X d) (hG : ∀ b, b < X.heap.size → F b → G b) : KF G X d := fun Y hs ha => h Y hs fun b hF hb => ha b (hG b hb hF) hb
theorem Kp.kf {B : Nat} {X : World} {d : Cm} (h : Kp B X d) : KF (fun b => B ≤ b) X d := fun Y hs ha => h Y hs ha
theorem tc5_get : ∀ {l : List Tm} {j : Nat} {t : Tm}, l[j]? = some t → (tc5 l)[j * 3]? = some (.int .i64 t.k) ∧ (tc5 l)[j * 3 + 1]? = some (.int .i64 t.n) ∧ (tc5 l)[j * 3 + 2]? = some (.string t.s)
  | [], j, t, h => by simp at h
  | y :: l, 0, t, h => by
    simp only [List.getElem?_cons_zero, Option.some.injEq] at h
    subst h
    exact ⟨rfl, rfl, rfl⟩
  | y :: l, j + 1, t, h => by
    rw [List.getElem?_cons_succ] at h
    have ih := tc5_get h
    rw [show (j + 1) * 3 = j * 3 + 3 by omega]
    exact ih
theorem ac5_get : ∀ {l : List (At × Value)} {j : Nat} {x : At × Value}, l[j]? = some x → (l.flatMap ac5)[j * 5]? = some (.int .i64 x.1.by_.k) ∧ (l.flatMap ac5)[j * 5 + 1]? = some (.int .i64 x.1.by_.n) ∧ (l.flatMap ac5)[j * 5 + 2]? = some (.string x.1.by_.s) ∧ (l.flatMap ac5)[j * 5 + 3]? = some (.string x.1.name) ∧ (l.flatMap ac5)[j * 5 + 4]? = some x.2
  | [], j, t, h => by simp at h
  | y :: l, 0, t, h => by
    simp only [List.getElem?_cons_zero, Option.some.injEq] at h
    subst h
    exact ⟨rfl, rfl, rfl, rfl, rfl⟩
  | y :: l, j + 1, t, h => by
    rw [List.getElem?_cons_succ] at h
    have ih := ac5_get h
    rw [show (j + 1) * 5 = j * 5 + 5 by omega]
    exact ih
theorem ec5_get : ∀ {l : List Te} {j : Nat} {t : Te}, l[j]? = some t → (l.flatMap ec5)[j * 7]? = some (.int .i64 t.op) ∧ (l.flatMap ec5)[j * 7 + 1]? = some (.int .i64 t.l.k) ∧ (l.flatMap ec5)[j * 7 + 2]? = some (.int .i64 t.l.n) ∧ (l.flatMap ec5)[j * 7 + 3]? = some (.string t.l.s) ∧ (l.flatMap ec5)[j * 7 + 4]? = some (.int .i64 t.r.k) ∧ (l.flatMap ec5)[j * 7 + 5]? = some (.int .i64 t.r.n) ∧ (l.flatMap ec5)[j * 7 + 6]? = some (.string t.r.s)
  | [], j, t, h => by simp at h
  | y :: l, 0, t, h => by
    simp only [List.getElem?_cons_zero, Option.some.injEq] at h
    subst h
    exact ⟨rfl, rfl, rfl, rfl, rfl, rfl, rfl⟩
  | y :: l, j + 1, t, h => by
    rw [List.getElem?_cons_succ] at h
    have ih := ec5_get h
    rw [show (j + 1) * 7 = j * 7 + 7 by omega]
    exact ih
theorem row5_cell {w : World} {base n m i : Nat} {e : TypeId} {g cap : Nat} {xs : List Value} {u : Value} (h : w.ownsRow base e n (.slice (some ⟨g, 0, none⟩) m cap) m xs) (hu : xs[i]? = some u) : w.cell? ⟨g, 0 + i, none⟩ = some u := by
  obtain ⟨g', e1, -, -, h2, -⟩ := row7_at h hu
  cases e1
  rw [Nat.zero_add]
  exact h2
theorem ts_of_row {w : World} {base : Nat} {v : Value} {l : List Tm} (h : w.ownsRow base 30 3 v l.length (tc5 l)) (hl : l.length < 1000000000000000000) : Ts w v l := by
  obtain ⟨a, cap, rfl, -⟩ := row7_form h
  refine ⟨a, cap, rfl, hl, ?_⟩
  cases l with
  | nil => exact Or.inl rfl
  | cons t l =>
    obtain ⟨g, rfl, -, hg, -, -⟩ := row7_at h (tc5_get (j := 0) rfl).1
    refine Or.inr ⟨g, 0, rfl, hg, fun i u hu => ?_⟩
    obtain ⟨c0, c1, c2⟩ := tc5_get hu
    have e0 := row5_cell h c0
    have e1 := row5_cell h c1
    have e2 := row5_cell h c2
    exact ⟨e0, e1, e2⟩
theorem as_of_row {w : World} {base : Nat} {v : Value} {l : List (At × Value)} (h : w.ownsRow base 33 5 v l.length (l.flatMap ac5)) (ht : ∀ x ∈ l, Ts w x.2 x.1.args) (hl : l.length < 1000000000000000000) : As w v l := by
  obtain ⟨a, cap, rfl, -⟩ := row7_form h
  refine ⟨a, cap, rfl, hl, ?_, ht⟩
  cases l with
  | nil => exact Or.inl rfl
  | cons t l =>
    obtain ⟨g, rfl, -, hg, -, -⟩ := row7_at h (ac5_get (j := 0) rfl).1
    refine Or.inr ⟨g, 0, rfl, hg, fun i u hu => ?_⟩
    obtain ⟨c0, c1, c2, c3, c4⟩ := ac5_get hu
    exact ⟨row5_cell h c0, row5_cell h c1, row5_cell h c2, row5_cell h c3, row5_cell h c4⟩
theorem es_of_row {w : World} {base : Nat} {v : Value} {l : List Te} (h : w.ownsRow base 81 7 v l.length (l.flatMap ec5)) (hl : l.length < 1000000000000000000) : Es w v l := by
  obtain ⟨a, cap, rfl, -⟩ := row7_form h
  refine ⟨a, cap, rfl, hl, ?_⟩
  cases l with
  | nil => exact Or.inl rfl
  | cons t l =>
    obtain ⟨g, rfl, -, hg, -, -⟩ := row7_at h (ec5_get (j := 0) rfl).1
    refine Or.inr ⟨g, 0, rfl, hg, fun i u hu => ?_⟩
    obtain ⟨c0, c1, c2, c3, c4, c5, c6⟩ := ec5_get hu
    exact ⟨row5_cell h c0, row5_cell h c1, row5_cell h c2, row5_cell h c3, row5_cell h c4, row5_cell h c5, row5_cell h c6⟩
/-- Where an atom's arguments lie. -/
def lvOk (F : Nat → Prop) (w : World) : Lv5 → Prop
  | .a a y => Rw5 F w 30 3 y a.args.length (tc5 a.args)
  | .t _ => True
theorem cross_lv {F : Nat → Prop} {w : World} : ∀ {ms : List (List (List Lv5))}, (∀ m ∈ ms, ∀ x ∈ m, ∀ l ∈ x, lvOk F w l) → ∀ x ∈ cross5 ms, ∀ l ∈ x, lvOk F w l
  | [], _, x, hx, l, hl => by
    rw [cross5_nil] at hx
    rw [List.mem_singleton.1 hx] at hl
    cases hl
  | m :: r, h, x, hx, l, hl => by
    rw [cross5_cons] at hx
    obtain ⟨a, ha, hx⟩ := List.mem_flatMap.1 hx
    obtain ⟨b, hb, rfl⟩ := List.mem_map.1 hx
    rcases List.mem_append.1 hl with hl | hl
    · exact h m (List.mem_cons_self ..) a ha l hl
    · exact cross_lv (fun m' hm' => h m' (List.mem_cons_of_mem _ hm')) b hb l hl
theorem CjM.lv {F : Nat → Prop} {P : List Value → List (List Lv5) → Prop} {w : World} {v : Value} {n : Nat} {m : List (List Lv5)} (h : CjM F P w v n m) (hP : ∀ cs m, P cs m → ∀ x ∈ m, ∀ l ∈ x, lvOk F w l) : ∀ x ∈ m, ∀ l ∈ x, lvOk F w l := by
  obtain ⟨xs, h1, -, rfl, -⟩ := h
  refine cross_lv fun m hm => ?_
  obtain ⟨y, hy, rfl⟩ := List.mem_map.1 hm
  exact hP _ _ (h1 y hy)
theorem AlM.lv {F : Nat → Prop} {P : List Value → List (List Lv5) → Prop} {w : World} {v : Value} {n : Nat} {m : List (List Lv5)} (h : AlM F P w v n m) (hP : ∀ cs m, P cs m → ∀ x ∈ m, ∀ l ∈ x, lvOk F w l) : ∀ x ∈ m, ∀ l ∈ x, lvOk F w l := by
  obtain ⟨xs, h1, -, rfl, -⟩ := h
  intro x hx
  obtain ⟨m, hm, hx⟩ := List.mem_flatten.1 hx
  obtain ⟨y, hy, rfl⟩ := List.mem_map.1 hm
  exact (h1 y hy).lv hP x hx
theorem LiM.lv {F : Nat → Prop} {w : World} : ∀ (f : Nat) (cs : List Value) (m : List (List Lv5)), LiM F w f cs m → ∀ x ∈ m, ∀ l ∈ x, lvOk F w l
  | f + 1, cs, m, h => by
    rcases h with ⟨a, y, -, h2, rfl⟩ | ⟨t, -, rfl⟩ | ⟨v, n, -, h2⟩
    · intro x hx l hl
      rw [List.mem_singleton.1 hx] at hl
      rw [List.mem_singleton.1 hl]
      exact h2
    · intro x hx l hl
      rw [List.mem_singleton.1 hx] at hl
      rw [List.mem_singleton.1 hl]
      exact trivial
    · exact h2.lv fun cs m h => LiM.lv f cs m h
theorem la5_mem : ∀ {x : List Lv5} {p : At × Value}, p ∈ la5 x → Lv5.a p.1 p.2 ∈ x
  | [], p, h => by cases h
  | .a a y :: r, p, h => by
    rw [la5] at h
    rcases List.mem_cons.1 h with rfl | h
    · exact List.mem_cons_self ..
    · exact List.mem_cons_of_mem _ (la5_mem h)
  | .t _ :: r, p, h => by
    rw [la5] at h
    exact List.mem_cons_of_mem _ (la5_mem h)
/-- A way's atoms and tests. -/
def fa5 : List Lf5 → List At
  | [] => []
  | .a x :: r => x :: fa5 r
  | .t _ :: r => fa5 r
def ft5 : List Lf5 → List Te
  | [] => []
  | .a _ :: r => ft5 r
  | .t x :: r => x :: ft5 r
theorem fa5_er : ∀ x : List Lv5, fsts (la5 x) = fa5 (x.map Lv5.er)
  | [] => rfl
  | .a a y :: r => by rw [la5, List.map_cons]; show a :: fsts (la5 r) = a :: fa5 (r.map Lv5.er); rw [fa5_er r]
  | .t t :: r => by rw [la5, List.map_cons]; exact fa5_er r
theorem ft5_er : ∀ x : List Lv5, lt5 x = ft5 (x.map Lv5.er)
  | [] => rfl
  | .a a y :: r => by rw [lt5, List.map_cons]; exact ft5_er r
  | .t t :: r => by rw [lt5, List.map_cons]; show t :: lt5 r = t :: ft5 (r.map Lv5.er); rw [ft5_er r]
theorem way_terms : ∀ x : List Lf5, ((fa5 x).flatMap At.pl).length + (tls (ft5 x)).length = ws5 x
  | [] => rfl
  | .a a :: r => by
    have ih := way_terms r
    rw [fa5, ft5, List.flatMap_cons, List.length_append]
    have e1 : (At.pl a).length = a.args.length + 1 := rfl
    have e2 : ws5 (.a a :: r) = (a.args.length + 1) + ws5 r := by simp [ws5, wf5]
    omega
  | .t t :: r => by
    have ih := way_terms r
    rw [fa5, ft5]
    have e1 : (tls (t :: ft5 r)).length = 2 + (tls (ft5 r)).length := by rw [tls_len, tls_len, List.length_cons]; omega
    have e2 : ws5 (.t t :: r) = 2 + ws5 r := by simp [ws5, wf5]
    omega
theorem way_mem {T : List Tk} : ∀ {x : List Lf5}, (∀ l ∈ x, vf5 T l) → ∀ t ∈ (fa5 x).flatMap At.pl ++ tls (ft5 x), vr5 T t
  | [], _, t, ht => by cases ht
  | .a a :: r, h, t, ht => by
    rw [fa5, ft5, List.flatMap_cons, List.append_assoc] at ht
    rcases List.mem_append.1 ht with ht | ht
    · exact h (.a a) (List.mem_cons_self ..) t ht
    · exact way_mem (fun l hl => h l (List.mem_cons_of_mem _ hl)) t ht
  | .t e :: r, h, t, ht => by
    rw [fa5, ft5] at ht
    have hq := h (.t e) (List.mem_cons_self ..)
    have hr := way_mem (fun l hl => h l (List.mem_cons_of_mem _ hl)) (t := t)
    rcases List.mem_append.1 ht with ht | ht
    · exact hr (List.mem_append_left _ ht)
    · have e1 : tls (e :: ft5 r) = [e.l, e.r] ++ tls (ft5 r) := by simp [tls]
      rw [e1] at ht
      rcases List.mem_append.1 ht with ht | ht
      · rcases List.mem_cons.1 ht with rfl | ht
        · exact hq.1
        · rw [List.mem_singleton.1 ht]; exact hq.2
      · exact hr (List.mem_append_right _ ht)
/-- What a rule's head and one way say. -/
def ck5 (h : At) (x : List Lf5) : Ck := (h, fa5 x, ft5 x)
theorem ck5_len (h : At) (x : List Lf5) : (Ck.terms (ck5 h x)).length = h.args.length + 1 + ws5 x := by
  unfold Ck.terms ck5
  simp only
  rw [List.length_append, List.length_append, way_terms]
  rfl
theorem ck5_var {T : List Tk} {h : At} {x : List Lf5} (hh : ∀ t ∈ h.pl, vr5 T t) (hx : ∀ l ∈ x, vf5 T l) : ∀ t ∈ Ck.terms (ck5 h x), vr5 T t := fun t ht => by
  unfold Ck.terms ck5 at ht
  rcases List.mem_append.1 ht with ht | ht
  · exact hh t ht
  · exact way_mem hx t ht
theorem vr5_wf {T : List Tk} {t : Tm} (hT : T.length ≤ 2000000) (h : vr5 T t) (hv : t.var = true) : (Lit.int .i64 t.n).wf = true := by
  obtain ⟨h1, h2⟩ := h hv
  have h3 : t.n < 2000000 := by omega
  have h4 : -9223372036854775808 ≤ t.n ∧ t.n ≤ 9223372036854775807 := by omega
  simp only [Lit.wf, IntKind.min, IntKind.max, Bool.and_eq_true]
  constructor <;> simp [IntKind.signed, IntKind.bits] <;> omega
end Go.Proofs.YtnikmcmkbjjcdaaGreatDoor

import Derived.Test.YtdfgijdededolabGreatDoorCK2
import Derived.Test.YtdfgijdededolabGreatDoorSD4
import Derived.Test.YtdfgijdededolabGreatDoorCN8
import Derived.Test.YtdfgijdededolabGreatDoorCL22
import Derived.Test.YtdfgijdededolabGreatDoorA1
import Derived.Test.YtdfgijdededolabGreatDoorCL5
import Derived.Test.YtdfgijdededolabGreatDoorB7
import Derived.Deep.CutRange
import Derived.Test.YtdfgijdededolabGreatDoorL1
import Derived.Laws.AppendOwn
import Derived.Laws.AppendOwnNone
/-
  A list of clauses opened, with its bulk.
-/
namespace Go.Proofs.YtdfgijdededolabGreatDoor
open Go.ChangeShapes Go.WideShapes Go.ChangeAt Go.RowKit Go.Joins Go.Deep

theorem bulkN_mem {H : Type} {d : DataW H} : ∀ {l : List (DataW H)}, d ∈ l → Rows.uptoBulk d ≤ Rows.uptoBulkAll l
  | x :: r, h => by
    simp only [Rows.uptoBulkAll]
    rcases List.mem_cons.1 h with rfl | h
    · omega
    · have := bulkN_mem h; omega
set_option maxRecDepth 100000 in
theorem clause_of_cellsB {H : Type} {enc : TypeId × Value → H} {W : World} {base : Nat} {spare : Nat → Bool} {held : Bool} {fuel : Nat} {cs : List Value} {x : DataW H × List MemPlace}
    (hf : DataW.trod enc Tryz.prog W base spare held fuel 41 cs = some x) (hl : cs.length = 7) (hw : ∀ n ∈ x.1.weights Tryz.prog 41, n ≤ reachBytes) : ∃ c : Cm, cs = c.csl ∧ c.ok W ∧ (Ck.terms c.key).length ≤ Rows.uptoBulk x.1 := by
  obtain ⟨c0, c1, c2, c3, c4, c5, c6, rfl⟩ := clist7 hl
  obtain ⟨y0, y1, y2, n, hd, -, h0, h1, h2⟩ := trod_struct3 Tryz.underlying41 hf
  rw [Tryz.cellsAtom] at h0
  rw [Tryz.cellsAtoms] at h1
  rw [Tryz.cellsTests] at h2
  have hwe : ∀ (j : Nat) (t : TypeId) (y : DataW H), [37, 38, 39][j]? = some t → [y0.1, y1.1, y2.1][j]? = some y → ∀ m ∈ y.weights Tryz.prog t, m ≤ reachBytes := fun j t y ht hy m hm => by
    refine hw m ?_
    rw [hd, DataW.weights, Tryz.underlying41]
    exact DataW.weights_mem_each (j := j) ht hy m hm
  obtain ⟨x, e0, hx, b0, -⟩ := atom_of_cellsB h0 (by simp) (hwe 0 _ _ rfl rfl)
  obtain ⟨vb, lb, e1, hb, b1, -⟩ := open_atomsB h1 (hwe 1 _ _ rfl rfl)
  obtain ⟨vt, lt, e2, ht, b2, -⟩ := open_testsB h2 (hwe 2 _ _ rfl rfl)
  simp at e0 e1 e2
  obtain ⟨rfl, rfl, rfl, rfl, rfl⟩ := e0
  subst e1 e2
  have ek : Ck.terms (Cm.key ⟨x, lb, c5, lt, c6⟩) = x.1.pl ++ ((fsts lb).flatMap At.pl ++ tls lt) := rfl
  refine ⟨⟨x, lb, _, lt, _⟩, rfl, ⟨hx, hb, ht⟩, ?_⟩
  rw [ek, List.length_append, List.length_append, hd]
  simp only [Rows.uptoBulk, Rows.uptoBulkAll]
  omega
theorem Tryz.bytesClause : Tryz.prog.bytesOf 41 = 120 := by kernel_rfl
set_option maxRecDepth 100000 in
theorem open_clausesB {H : Type} {enc : TypeId × Value → H} {W : World} {base : Nat} {spare : Nat → Bool} {held : Bool} {fuel : Nat} {cs : List Value} {x : DataW H × List MemPlace}
    (h : DataW.trod enc Tryz.prog W base spare held fuel 22 cs = some x) (hw : ∀ n ∈ x.1.weights Tryz.prog 22, n ≤ reachBytes) : ∃ v l, cs = [v] ∧ CsP W v l ∧ l.length ≤ Rows.uptoBulk x.1 ∧ ∀ c ∈ l, (Ck.terms c.key).length ≤ Rows.uptoBulk x.1 := by
  rcases open_slice Tryz.underlying22 h with ⟨rfl, -⟩ | ⟨a, len, cap, m, n, D, Pl, rfl, hba, hlc, hcm, hm, hx, hel⟩
  · exact ⟨_, [], rfl, ⟨Or.inl ⟨rfl, rfl⟩, fun c hc => by cases hc⟩, by simp, fun c hc => by cases hc⟩
  · rw [Tryz.cellsClause] at hel
    have hlm : len ≤ m := by rw [hm]; split <;> omega
    have key : ∀ i : Nat, ∃ c : Cm, i < len → (∀ k u, c.csl[k]? = some u → W.cell? ((a.add (i * 7)).add k) = some u) ∧ c.ok W ∧ (Ck.terms c.key).length ≤ Rows.uptoBulk (D i) := fun i => by
      by_cases hi : i < len
      · obtain ⟨cs', h1, h2⟩ := hel i (by omega)
        obtain ⟨-, hl, hc⟩ := World.cells?_some h1
        obtain ⟨c, rfl, hok, hbk⟩ := clause_of_cellsB h2 hl (fun n hn => hw n (by
          rw [hx, DataW.weights, Tryz.underlying22]
          exact List.mem_cons_of_mem _ (List.mem_append.2 (Or.inl (weights_mem_all hn (List.mem_map.2 ⟨i, List.mem_range.2 hi, rfl⟩))))))
        refine ⟨c, fun _ => ⟨fun k u hu => ?_, hok, hbk⟩⟩
        rw [← hu]
        exact hc k (List.getElem?_eq_some_iff.1 hu).1
      · exact ⟨zC, fun h => absurd h hi⟩
    obtain ⟨f, hf⟩ := Classical.axiomOfChoice key
    refine ⟨_, (List.range len).map f, rfl, ⟨Or.inr ⟨a, cap, by simp, ?_⟩, fun c hc => ?_⟩, by rw [hx]; simpa using bulkN_slice ((List.range len).map D) _, fun c hc => ?_⟩
    · rcases Nat.eq_zero_or_pos len with h0 | h0
      · left; subst h0; rfl
      · right
        obtain ⟨b, off, spot⟩ := a
        have h00 := (hf 0 h0).1 0 _ rfl
        have hspot : spot = none := by simpa [Addr.add] using World.cell?_spot h00
        subst hspot
        refine ⟨b, off, rfl, ?_, fun i c hc k u hu => ?_⟩
        · exact World.block_lt_of_cell? W _ (by simpa [Addr.add] using h00)
        · have hi : i < len := by have := (List.getElem?_eq_some_iff.1 hc).1; simpa using this
          have e : c = f i := by
            rw [List.getElem?_map, List.getElem?_range hi] at hc; simpa using hc.symm
          subst e
          have := (hf i hi).1 k u hu
          rw [add_plain, add_plain] at this
          exact this
    · obtain ⟨i, hi, rfl⟩ := List.mem_map.1 hc
      exact (hf i (List.mem_range.1 hi)).2.1
    · obtain ⟨i, hi, rfl⟩ := List.mem_map.1 hc
      have h1 := (hf i (List.mem_range.1 hi)).2.2
      have h2 : Rows.uptoBulk (D i) ≤ Rows.uptoBulkAll ((List.range len).map D) := bulkN_mem (List.mem_map.2 ⟨i, hi, rfl⟩)
      rw [hx]
      simp only [Rows.uptoBulk]
      omega
theorem sml_of {c : Cm} {n : Nat} (h : (Ck.terms c.key).length ≤ n) (hn : n ≤ 1900000000000) : c.sml := by
  have e : Ck.terms c.key = c.head.1.pl ++ ((fsts c.body).flatMap At.pl ++ tls c.tests) := rfl
  rw [e, List.length_append, List.length_append] at h
  have h1 : c.head.1.pl.length = c.head.1.args.length + 1 := by simp [At.pl]
  have h2 : ∀ l : List (At × Value), l.length ≤ ((fsts l).flatMap At.pl).length ∧ ∀ x ∈ l, x.1.args.length ≤ ((fsts l).flatMap At.pl).length := fun l => by
    induction l with
    | nil => exact ⟨by simp, fun x hx => by cases hx⟩
    | cons y l ih =>
      have : (fsts (y :: l)).flatMap At.pl = y.1.pl ++ (fsts l).flatMap At.pl := by simp [fsts]
      rw [this, List.length_append]
      have hy : y.1.pl.length = y.1.args.length + 1 := by simp [At.pl]
      refine ⟨by have := ih.1; simp only [List.length_cons]; omega, fun x hx => ?_⟩
      rcases List.mem_cons.1 hx with rfl | hx
      · omega
      · have := ih.2 x hx; omega
  have h3 : ∀ l : List Te, l.length ≤ (tls l).length := fun l => by
    induction l with
    | nil => simp
    | cons y l ih => 
      have : tls (y :: l) = [y.l, y.r] ++ tls l := by simp [tls]
      rw [this, List.length_append]
      simp only [List.length_cons, List.length_nil]; omega
  have h4 := h2 c.body
  have h5 := h3 c.tests
  exact ⟨by omega, by omega, by omega, fun x hx => by have := h4.2 x hx; omega⟩
end Go.Proofs.YtdfgijdededolabGreatDoor
/-
  What Set keeps of a sorted list: plain.
-/
namespace Go.Proofs.YtdfgijdededolabGreatDoor

abbrev ltC3 (a b : Ck) : Prop := cmpC a b < 0
theorem dkN_mem {l : List Cm} {k : Ck} : ∀ n, k ∈ dkN l n → ∃ i c, i < n ∧ l[i]? = some c ∧ c.key = k
  | 0, h => by simp [dkN] at h
  | n + 1, h => by
    unfold dkN at h
    rcases List.mem_append.1 h with h | h
    · obtain ⟨i, c, h1, h2⟩ := dkN_mem n h
      exact ⟨i, c, by omega, h2⟩
    · cases hc : l[n]? with
      | none => rw [hc] at h; simp at h
      | some c =>
        rw [hc] at h
        simp only at h
        split at h
        · rw [List.mem_singleton] at h; exact ⟨n, c, by omega, hc, h.symm⟩
        · simp at h
theorem dkN_has {l : List Cm} : ∀ n i c, i < n → l[i]? = some c → c.key ∈ dkN l n
  | 0, _, _, h, _ => by omega
  | n + 1, i, c, h, hc => by
    unfold dkN
    by_cases hi : i = n
    · subst hi
      rw [hc]
      simp only
      by_cases hk : kpt l i c = true
      · rw [if_pos hk]; simp
      · have hk' : kpt l i c = false := by simpa using hk
        rw [if_neg hk, List.append_nil]
        unfold kpt prv at hk'
        by_cases h0 : i = 0
        · rw [if_pos h0] at hk'; cases hk'
        · rw [if_neg h0] at hk'
          cases hp : l[i - 1]? with
          | none => rw [hp] at hk'; cases hk'
          | some p =>
            rw [hp] at hk'
            simp only [ne_eq, decide_not, Bool.not_eq_false', decide_eq_true_eq] at hk'
            rw [cmp_key] at hk'
            have := ord_c.zero _ _ hk'
            rw [← this]
            exact dkN_has i (i - 1) p (by omega) hp
    · exact List.mem_append.2 (Or.inl (dkN_has n i c (by omega) hc))
theorem dkN_rise {l : List Cm} (hs : srtC l) : ∀ n, (dkN l n).Pairwise ltC3
  | 0 => List.Pairwise.nil
  | n + 1 => by
    have ih := dkN_rise hs n
    cases hc : l[n]? with
    | none => unfold dkN; rw [hc]; simpa using ih
    | some c =>
      by_cases hk : kpt l n c = true
      · rw [dkN_yes hc hk]
        refine List.pairwise_append.2 ⟨ih, List.pairwise_singleton _ _, fun a ha b hb => ?_⟩
        rw [List.mem_singleton] at hb
        subst hb
        obtain ⟨i, x, hi, hx, rfl⟩ := dkN_mem n ha
        have hsr : ∀ i j (x y : Cm), i < j → l[i]? = some x → l[j]? = some y → cmpC x.key y.key ≤ 0 := fun i j x y hij hx hy => by
          obtain ⟨h1, rfl⟩ := List.getElem?_eq_some_iff.1 hx
          obtain ⟨h2, rfl⟩ := List.getElem?_eq_some_iff.1 hy
          exact List.pairwise_iff_getElem.1 hs i j h1 h2 hij
        unfold kpt prv at hk
        rw [if_neg (by omega)] at hk
        obtain ⟨p, hp⟩ : ∃ p, l[n - 1]? = some p := ⟨_, List.getElem?_eq_getElem (by have := (List.getElem?_eq_some_iff.1 hc).1; omega)⟩
        rw [hp] at hk
        simp only [ne_eq, decide_not, Bool.not_eq_true', decide_eq_false_iff_not] at hk
        rw [cmp_key] at hk
        have h1 := hsr (n - 1) n p c (by omega) hp hc
        have h2 : cmpC p.key c.key < 0 := by omega
        have h3 : cmpC x.key p.key ≤ 0 := by
          by_cases e : i = n - 1
          · subst e; rw [hx] at hp; cases hp; rw [ord_c.refl]; omega
          · exact hsr i (n - 1) x p (by omega) hx hp
        exact (ord_c.tr _ _ _ h3 h1).2 (Or.inr h2)
      · rw [dkN_no hc (by simpa using hk)]; exact ih
theorem rise_uniq : ∀ (a b : List Ck), a.Pairwise ltC3 → b.Pairwise ltC3 → (∀ k, k ∈ a ↔ k ∈ b) → a = b
  | [], [], _, _, _ => rfl
  | [], y :: b, _, _, h => absurd ((h y).2 (List.mem_cons_self ..)) (by simp)
  | x :: a, [], _, _, h => absurd ((h x).1 (List.mem_cons_self ..)) (by simp)
  | x :: a, y :: b, ha, hb, h => by
    obtain ⟨ha1, ha2⟩ := List.pairwise_cons.1 ha
    obtain ⟨hb1, hb2⟩ := List.pairwise_cons.1 hb
    have e : x = y := by
      rcases List.mem_cons.1 ((h x).1 (List.mem_cons_self ..)) with e | hx
      · exact e
      · rcases List.mem_cons.1 ((h y).2 (List.mem_cons_self ..)) with e | hy
        · exact e.symm
        · have h1 : cmpC y x < 0 := hb1 x hx
          have h2 : cmpC x y < 0 := ha1 y hy
          have := ord_c.neg x y
          omega
    subst e
    rw [rise_uniq a b ha2 hb2 fun k => ⟨fun hk => ?_, fun hk => ?_⟩]
    · rcases List.mem_cons.1 ((h k).1 (List.mem_cons_of_mem _ hk)) with e | hk'
      · have h1 : cmpC x k < 0 := ha1 k hk
        rw [e, ord_c.refl] at h1; omega
      · exact hk'
    · rcases List.mem_cons.1 ((h k).2 (List.mem_cons_of_mem _ hk)) with e | hk'
      · have h1 : cmpC x k < 0 := hb1 k hk
        rw [e, ord_c.refl] at h1; omega
      · exact hk'
/-- What Set's answer is: the keys of l, rising. -/
structure SetK (K : List Ck) (l : List Cm) : Prop where
  rise : K.Pairwise ltC3
  mem : ∀ k, k ∈ K ↔ ∃ c ∈ l, c.key = k
theorem SetK.of {l l' : List Cm} (hp : l'.Perm l) (hs : srtC l') : SetK (dkN l' l'.length) l :=
  ⟨dkN_rise hs _, fun k => ⟨fun h => by
      obtain ⟨i, c, -, hc, e⟩ := dkN_mem _ h
      exact ⟨c, hp.mem_iff.1 (List.mem_of_getElem? hc), e⟩, fun ⟨c, hc, e⟩ => by
      obtain ⟨i, hi, hc⟩ := List.mem_iff_getElem.1 (hp.mem_iff.2 hc)
      subst e
      exact dkN_has _ i c hi (by rw [List.getElem?_eq_getElem hi, hc])⟩⟩
theorem SetK.uniq {K K' : List Ck} {l l' : List Cm} (h : SetK K l) (h' : SetK K' l') (hm : ∀ c, c ∈ l ↔ c ∈ l') : K = K' :=
  rise_uniq K K' h.rise h'.rise fun k => by rw [h.mem, h'.mem]; exact ⟨fun ⟨c, hc, e⟩ => ⟨c, (hm c).1 hc, e⟩, fun ⟨c, hc, e⟩ => ⟨c, (hm c).2 hc, e⟩⟩
theorem SetK.step {o l : List Cm} (h : SetK (o.map Cm.key) l) {i : Nat} {a b : Cm} (ha : o[i]? = some a) (hb : o[i + 1]? = some b) : a.cmp b = -1 := by
  rw [cmp_key]
  have h1 : (o.map Cm.key)[i]? = some a.key := by rw [List.getElem?_map, ha]; rfl
  have h2 : (o.map Cm.key)[i + 1]? = some b.key := by rw [List.getElem?_map, hb]; rfl
  obtain ⟨l1, e1⟩ := List.getElem?_eq_some_iff.1 h1
  obtain ⟨l2, e2⟩ := List.getElem?_eq_some_iff.1 h2
  have : cmpC a.key b.key < 0 := by rw [← e1, ← e2]; exact List.pairwise_iff_getElem.1 h.rise i (i + 1) l1 l2 (by omega)
  have := ord_c.rng a.key b.key
  omega
/-- The list turned round, with each twice: so far. -/
def trn (l : List Cm) : Nat → List Cm
  | 0 => []
  | n + 1 => match l[n]? with | some c => c :: c :: trn l n | none => trn l n
end Go.Proofs.YtdfgijdededolabGreatDoor
/-
  Two rising lists of clauses merged: plain.
-/
namespace Go.Proofs.YtdfgijdededolabGreatDoor

abbrev ltM (a b : At × List At × List Te) : Prop := cmpC a b < 0
/-- How far a merge of p and q has come: i of p and k of q are taken, and out is what they make. -/
structure Mrg (p q out : List (At × List At × List Te)) (i k : Nat) : Prop where
  rise : out.Pairwise ltM
  mem : ∀ x, x ∈ out ↔ x ∈ p.take i ∨ x ∈ q.take k
  lp : ∀ x ∈ out, ∀ j y, i ≤ j → p[j]? = some y → cmpC x y < 0
  lq : ∀ x ∈ out, ∀ j y, k ≤ j → q[j]? = some y → cmpC x y < 0
theorem Mrg.start (p q : List (At × List At × List Te)) : Mrg p q [] 0 0 := ⟨List.Pairwise.nil, (fun x => by simp), (fun x hx => by cases hx), (fun x hx => by cases hx)⟩
theorem ltM_tr {a b c : At × List At × List Te} (h1 : cmpC a b < 0) (h2 : cmpC b c ≤ 0) : cmpC a c < 0 := (ord_c.tr _ _ _ (by omega) h2).2 (Or.inl h1)
theorem rise_get {p : List (At × List At × List Te)} (h : p.Pairwise ltM) {i j : Nat} {x y : At × List At × List Te} (hij : i < j) (hx : p[i]? = some x) (hy : p[j]? = some y) : cmpC x y < 0 := by
  obtain ⟨h1, rfl⟩ := List.getElem?_eq_some_iff.1 hx
  obtain ⟨h2, rfl⟩ := List.getElem?_eq_some_iff.1 hy
  exact List.pairwise_iff_getElem.1 h i j h1 h2 hij
theorem mem_take {α : Type} {p : List α} {i : Nat} {x y : α} (h : p[i]? = some x) : y ∈ p.take (i + 1) ↔ y ∈ p.take i ∨ y = x := by
  rw [List.take_add_one, h]; simp
theorem rise_snoc {o : List (At × List At × List Te)} {x : At × List At × List Te} (h : o.Pairwise ltM) (hx : ∀ y ∈ o, cmpC y x < 0) : (o ++ [x]).Pairwise ltM :=
  List.pairwise_append.2 ⟨h, List.pairwise_singleton _ _, fun a ha b hb => by rw [List.mem_singleton] at hb; subst hb; exact hx a ha⟩
/-- The next of p is less than all that is left of q. -/
theorem Mrg.left {p q out : List (At × List At × List Te)} {i k : Nat} {x : At × List At × List Te} (h : Mrg p q out i k) (hp : p.Pairwise ltM) (hq : q.Pairwise ltM) (hx : p[i]? = some x) (hl : ∀ y, q[k]? = some y → cmpC x y < 0) : Mrg p q (out ++ [x]) (i + 1) k := by
  have hx2 : ∀ y ∈ out, cmpC y x < 0 := fun y hy => h.lp y hy i x (Nat.le_refl _) hx
  refine ⟨rise_snoc h.rise hx2, fun y => ?_, fun y hy j z hj hz => ?_, fun y hy j z hj hz => ?_⟩
  · rw [List.mem_append, h.mem, mem_take hx, List.mem_singleton]
    constructor
    · rintro ((h | h) | h)
      · exact Or.inl (Or.inl h)
      · exact Or.inr h
      · exact Or.inl (Or.inr h)
    · rintro ((h | h) | h)
      · exact Or.inl (Or.inl h)
      · exact Or.inr h
      · exact Or.inl (Or.inr h)
  · rcases List.mem_append.1 hy with hy | hy
    · exact h.lp y hy j z (by omega) hz
    · rw [List.mem_singleton] at hy; subst hy; exact rise_get hp (by omega) hx hz
  · rcases List.mem_append.1 hy with hy | hy
    · exact h.lq y hy j z hj hz
    · rw [List.mem_singleton] at hy; subst hy
      have hk : k < q.length := by have := (List.getElem?_eq_some_iff.1 hz).1; omega
      have h1 := hl _ (List.getElem?_eq_getElem hk)
      by_cases e : j = k
      · subst e; exact hl z hz
      · exact ltM_tr h1 (by have := rise_get hq (show k < j by omega) (List.getElem?_eq_getElem hk) hz; omega)
theorem Mrg.swap {p q out : List (At × List At × List Te)} {i k : Nat} (h : Mrg p q out i k) : Mrg q p out k i := ⟨h.rise, fun x => by rw [h.mem, or_comm], h.lq, h.lp⟩
theorem Mrg.right {p q out : List (At × List At × List Te)} {i k : Nat} {x : At × List At × List Te} (h : Mrg p q out i k) (hp : p.Pairwise ltM) (hq : q.Pairwise ltM) (hx : q[k]? = some x) (hl : ∀ y, p[i]? = some y → cmpC x y < 0) : Mrg p q (out ++ [x]) i (k + 1) := (h.swap.left hq hp hx hl).swap
/-- The next of both are one. -/
theorem Mrg.both {p q out : List (At × List At × List Te)} {i k : Nat} {x : At × List At × List Te} (h : Mrg p q out i k) (hp : p.Pairwise ltM) (hq : q.Pairwise ltM) (hx : p[i]? = some x) (hy : q[k]? = some x) : Mrg p q (out ++ [x]) (i + 1) (k + 1) := by
  have hx2 : ∀ y ∈ out, cmpC y x < 0 := fun y hy => h.lp y hy i x (Nat.le_refl _) hx
  refine ⟨rise_snoc h.rise hx2, fun y => ?_, fun y hy' j z hj hz => ?_, fun y hy' j z hj hz => ?_⟩
  · rw [List.mem_append, h.mem, mem_take hx, mem_take hy, List.mem_singleton]
    constructor
    · rintro ((h | h) | h)
      · exact Or.inl (Or.inl h)
      · exact Or.inr (Or.inl h)
      · exact Or.inl (Or.inr h)
    · rintro ((h | h) | (h | h))
      · exact Or.inl (Or.inl h)
      · exact Or.inr h
      · exact Or.inl (Or.inr h)
      · exact Or.inr h
  · rcases List.mem_append.1 hy' with hy' | hy'
    · exact h.lp y hy' j z (by omega) hz
    · rw [List.mem_singleton] at hy'; subst hy'; exact rise_get hp (by omega) hx hz
  · rcases List.mem_append.1 hy' with hy' | hy'
    · exact h.lq y hy' j z (by omega) hz
    · rw [List.mem_singleton] at hy'; subst hy'; exact rise_get hq (by omega) hy hz
theorem Mrg.done {p q out : List (At × List At × List Te)} {i k : Nat} (h : Mrg p q out i k) (hi : p.length ≤ i) (hk : q.length ≤ k) : out.Pairwise ltM ∧ ∀ x, x ∈ out ↔ x ∈ p ∨ x ∈ q :=
  ⟨h.rise, fun x => by rw [h.mem, List.take_of_length_le hi, List.take_of_length_le hk]⟩
end Go.Proofs.YtdfgijdededolabGreatDoor
/-
  Vars.
-/
namespace Go.Proofs.YtdfgijdededolabGreatDoor
open Go.RowKit

theorem Tryz.infoInt : (Tryz.prog.info? 3).map (fun i => (i.zero, i.size, i.bytes)) = some (some (.int .i64 0), 1, 8) := by kernel_rfl
def ics (l : List Int) : List Value := l.map (Value.int .i64)
theorem ics_snoc (l : List Int) (n : Int) : ics (l ++ [n]) = ics l ++ [.int .i64 n] := by simp [ics]
/-- v holds the numbers l, in a block of the call's own. -/
def OwnI (w : World) (base : Nat) (v : Value) (l : List Int) : Prop := w.ownsRow base 3 1 v l.length (ics l)
theorem ownI_cells {w : World} {base g cap n : Nat} {l : List Int} (h : OwnI w base (.slice (some ⟨g, 0, none⟩) n cap) l) (j : Nat) (d : Int) (hd : l[j]? = some d) :
    w.cell? ⟨g, j, none⟩ = some (.int .i64 d) := by
  rcases h.2 with ⟨h, _⟩ | ⟨g', cap', cur, hv, hb, hg, hn, hc, hs, ht⟩
  · cases h
  · simp only [Value.slice.injEq, Option.some.injEq, Addr.mk.injEq] at hv
    obtain ⟨⟨rfl, -⟩, -, rfl⟩ := hv
    have hj := (List.getElem?_eq_some_iff.1 hd).1
    have e : (ics l)[j]? = some (.int .i64 d) := by simp [ics, hd]
    rw [cell_of_row _ _ _ _ _ _ hg, ← e, ← ht, List.getElem?_take_of_lt (by omega)]
    simp
theorem OwnI.lt {w : World} {base : Nat} {v : Value} {l : List Int} (h : OwnI w base v l) : ∀ k, v.ownBlock = some k → base ≤ k ∧ k < w.heap.size := World.ownsRow.lt h
theorem OwnI.mono {w : World} {b b' : Nat} {v : Value} {l : List Int} (h : OwnI w b v l) (hb : b' ≤ b) : OwnI w b' v l := by
  refine ⟨h.1, ?_⟩
  rcases h.2 with hn | ⟨g, cap, cur, hv, hbb, rest⟩
  · exact Or.inl hn
  · exact Or.inr ⟨g, cap, cur, hv, Nat.le_trans hb hbb, rest⟩
theorem OwnI.later {w w' : World} {base : Nat} {v : Value} {l : List Int} (h : OwnI w base v l) (hb : Below w.heap.size w w') : OwnI w' base v l := by
  refine ⟨h.1, ?_⟩
  rcases h.2 with hn | ⟨g, cap, cur, hv, hbb, hg, rest⟩
  · exact Or.inl hn
  · exact Or.inr ⟨g, cap, cur, hv, hbb, (hb.block _ (Array.getElem?_eq_some_iff.1 hg).1).trans hg, rest⟩
theorem ownI_nil (w : World) (base : Nat) : OwnI w base (.slice none 0 0) [] := World.ownsRow_nil _ _ _ _
theorem ownI_form {w : World} {base : Nat} {v : Value} {l : List Int} (h : OwnI w base v l) (hn : 0 < l.length) :
    ∃ g cap, v = .slice (some ⟨g, 0, none⟩) l.length cap ∧ base ≤ g ∧ g < w.heap.size := World.ownsRow.form h hn
theorem ownI_len {w : World} {base : Nat} {v : Value} {l : List Int} (h : OwnI w base v l) : ∃ a cap, v = .slice a l.length cap := by
  rcases h.2 with ⟨rfl, hn⟩ | ⟨g, cap, cur, hv, -⟩
  · exact ⟨none, 0, by rw [hn]⟩
  · exact ⟨_, cap, hv⟩
/-- Each variable's number, once, in the order of the places. -/
def vS (l : List Int) (t : Tm) : List Int := if t.var then (if l.any (fun n => decide (n = t.n)) then l else l ++ [t.n]) else l
def vs (pl : List Tm) : List Int := pl.foldl vS []
theorem vs_take (s : List Tm) (k : Nat) (d : Tm) (h : s[k]? = some d) : vs (s.take (k + 1)) = vS (vs (s.take k)) d := by
  obtain ⟨hk, rfl⟩ := List.getElem?_eq_some_iff.1 h
  rw [List.take_succ_eq_append_getElem hk, vs, List.foldl_append]; rfl
theorem vS_len (l : List Int) (d : Tm) : (vS l d).length ≤ l.length + 1 := by
  unfold vS; split
  · split <;> simp
  · simp
theorem vs_len (s : List Tm) : (vs s).length ≤ s.length := by
  have : ∀ s l, (List.foldl vS l s).length ≤ l.length + s.length := by
    intro s
    induction s with
    | nil => intro l; simp
    | cons d s ih => intro l; have := ih (vS l d); have := vS_len l d; simp only [List.foldl_cons, List.length_cons]; omega
  have := this s []
  simpa [vs] using this
def hasI (l : List Int) (x : Int) : Bool := l.any fun n => decide (n = x)
theorem hasI_no (l : List Int) (x : Int) (j : Nat) (d : Int) (h : l[j]? = some d) (hn : hasI (l.take j) x = false) (hd : ¬ d = x) : hasI (l.take (j + 1)) x = false := by
  obtain ⟨hk, rfl⟩ := List.getElem?_eq_some_iff.1 h
  rw [List.take_succ_eq_append_getElem hk, hasI, List.any_append]
  rw [hasI] at hn
  rw [hn]; simpa using hd
theorem hasI_yes (l : List Int) (x : Int) (j : Nat) (d : Int) (h : l[j]? = some d) (hd : d = x) : hasI l x = true := by
  obtain ⟨hk, rfl⟩ := List.getElem?_eq_some_iff.1 h
  simp only [hasI, List.any_eq_true, decide_eq_true_eq]; exact ⟨_, List.getElem_mem hk, hd⟩
theorem vS_old (l : List Int) (d : Tm) (hv : d.var = true) (h : hasI l d.n = true) : vS l d = l := by
  unfold hasI at h; unfold vS; rw [if_pos hv, if_pos h]
theorem vS_new (l : List Int) (d : Tm) (hv : d.var = true) (h : hasI l d.n = false) : vS l d = l ++ [d.n] := by
  unfold hasI at h; unfold vS; rw [if_pos hv, if_neg (by simp [h])]
theorem vS_not (l : List Int) (d : Tm) (hv : d.var = false) : vS l d = l := by
  unfold vS; rw [hv]; rfl
end Go.Proofs.YtdfgijdededolabGreatDoor
/-
  ref's Places, Among, Vars, Fact; ints of the laws.
-/
namespace Go.Proofs.YtdfgijdededolabGreatDoor
open Go.RowKit

theorem ownT_one (w : World) (o : Obj) (t : Tm) : OwnT ((w.alloc o).alloc (.cells #[.int .i64 t.k, .int .i64 t.n, .string t.s] 35)) (w.heap.size + 1) (.slice (some ⟨w.heap.size + 1, 0, none⟩) 1 1) [t] := by
  refine ⟨by simp [tcs, Tm.cs], Or.inr ⟨_, 1, #[.int .i64 t.k, .int .i64 t.n, .string t.s], rfl, Nat.le_refl _, heap_alloc2_new _ _ _, Nat.le_refl _, by unfold maxLen; omega, by simp, by simp [tcs, Tm.cs]⟩⟩
theorem tcs_cons (t : Tm) (l : List Tm) : tcs (t :: l) = tcs [t] ++ tcs l := by simp [tcs]
end Go.Proofs.YtdfgijdededolabGreatDoor

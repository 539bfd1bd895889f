import Derived.Test.YtdfgijdededolabGreatDoorSD5
import Derived.Test.YtdfgijdededolabGreatDoorCL22
import Derived.Test.YtdfgijdededolabGreatDoorA1
import Derived.Test.YtdfgijdededolabGreatDoorCL14
import Derived.Deep.CutRange
import Derived.Test.YtdfgijdededolabGreatDoorW2
import Derived.Test.YtdfgijdededolabGreatDoorCL1
import Derived.Test.YtdfgijdededolabGreatDoorMD2
import Derived.Laws.AppendOwn
import Derived.Laws.AppendOwnNone
import Derived.Test.YtdfgijdededolabGreatDoorRQ1
import Derived.Test.YtdfgijdededolabGreatDoorSD8
import Derived.Test.YtdfgijdededolabGreatDoorSD17
/-
  What Set keeps of a sorted list: plain.
-/
namespace Go.Proofs.YtdfgijdededolabGreatDoor

abbrev ltC3 (a b : Ck) : Prop := cmpC a b < 0
theorem dkN_mem {l : List Cm} {k : Ck} : ∀ n, k ∈ dkN l n → ∃ i c, i < n ∧ l[i]? = some c ∧ c.key = k
  | 0, h => by simp [dkN] at h
  | n + 1, h => by
    unfold dkN at h
    rcases List.mem_append.1 h with h | h
    · obtain ⟨i, c, h1, h2⟩ := dkN_mem n h
      exact ⟨i, c, by omega, h2⟩
    · cases hc : l[n]? with
      | none => rw [hc] at h; simp at h
      | some c =>
        rw [hc] at h
        simp only at h
        split at h
        · rw [List.mem_singleton] at h; exact ⟨n, c, by omega, hc, h.symm⟩
        · simp at h
theorem dkN_has {l : List Cm} : ∀ n i c, i < n → l[i]? = some c → c.key ∈ dkN l n
  | 0, _, _, h, _ => by omega
  | n + 1, i, c, h, hc => by
    unfold dkN
    by_cases hi : i = n
    · subst hi
      rw [hc]
      simp only
      by_cases hk : kpt l i c = true
      · rw [if_pos hk]; simp
      · have hk' : kpt l i c = false := by simpa using hk
        rw [if_neg hk, List.append_nil]
        unfold kpt prv at hk'
        by_cases h0 : i = 0
        · rw [if_pos h0] at hk'; cases hk'
        · rw [if_neg h0] at hk'
          cases hp : l[i - 1]? with
          | none => rw [hp] at hk'; cases hk'
          | some p =>
            rw [hp] at hk'
            simp only [ne_eq, decide_not, Bool.not_eq_false', decide_eq_true_eq] at hk'
            rw [cmp_key] at hk'
            have := ord_c.zero _ _ hk'
            rw [← this]
            exact dkN_has i (i - 1) p (by omega) hp
    · exact List.mem_append.2 (Or.inl (dkN_has n i c (by omega) hc))
theorem dkN_rise {l : List Cm} (hs : srtC l) : ∀ n, (dkN l n).Pairwise ltC3
  | 0 => List.Pairwise.nil
  | n + 1 => by
    have ih := dkN_rise hs n
    cases hc : l[n]? with
    | none => unfold dkN; rw [hc]; simpa using ih
    | some c =>
      by_cases hk : kpt l n c = true
      · rw [dkN_yes hc hk]
        refine List.pairwise_append.2 ⟨ih, List.pairwise_singleton _ _, fun a ha b hb => ?_⟩
        rw [List.mem_singleton] at hb
        subst hb
        obtain ⟨i, x, hi, hx, rfl⟩ := dkN_mem n ha
        have hsr : ∀ i j (x y : Cm), i < j → l[i]? = some x → l[j]? = some y → cmpC x.key y.key ≤ 0 := fun i j x y hij hx hy => by
          obtain ⟨h1, rfl⟩ := List.getElem?_eq_some_iff.1 hx
          obtain ⟨h2, rfl⟩ := List.getElem?_eq_some_iff.1 hy
          exact List.pairwise_iff_getElem.1 hs i j h1 h2 hij
        unfold kpt prv at hk
        rw [if_neg (by omega)] at hk
        obtain ⟨p, hp⟩ : ∃ p, l[n - 1]? = some p := ⟨_, List.getElem?_eq_getElem (by have := (List.getElem?_eq_some_iff.1 hc).1; omega)⟩
        rw [hp] at hk
        simp only [ne_eq, decide_not, Bool.not_eq_true', decide_eq_false_iff_not] at hk
        rw [cmp_key] at hk
        have h1 := hsr (n - 1) n p c (by omega) hp hc
        have h2 : cmpC p.key c.key < 0 := by omega
        have h3 : cmpC x.key p.key ≤ 0 := by
          by_cases e : i = n - 1
          · subst e; rw [hx] at hp; cases hp; rw [ord_c.refl]; omega
          · exact hsr i (n - 1) x p (by omega) hx hp
        exact (ord_c.tr _ _ _ h3 h1).2 (Or.inr h2)
      · rw [dkN_no hc (by simpa using hk)]; exact ih
theorem rise_uniq : ∀ (a b : List Ck), a.Pairwise ltC3 → b.Pairwise ltC3 → (∀ k, k ∈ a ↔ k ∈ b) → a = b
  | [], [], _, _, _ => rfl
  | [], y :: b, _, _, h => absurd ((h y).2 (List.mem_cons_self ..)) (by simp)
  | x :: a, [], _, _, h => absurd ((h x).1 (List.mem_cons_self ..)) (by simp)
  | x :: a, y :: b, ha, hb, h => by
    obtain ⟨ha1, ha2⟩ := List.pairwise_cons.1 ha
    obtain ⟨hb1, hb2⟩ := List.pairwise_cons.1 hb
    have e : x = y := by
      rcases List.mem_cons.1 ((h x).1 (List.mem_cons_self ..)) with e | hx
      · exact e
      · rcases List.mem_cons.1 ((h y).2 (List.mem_cons_self ..)) with e | hy
        · exact e.symm
        · have h1 : cmpC y x < 0 := hb1 x hx
          have h2 : cmpC x y < 0 := ha1 y hy
          have := ord_c.neg x y
          omega
    subst e
    rw [rise_uniq a b ha2 hb2 fun k => ⟨fun hk => ?_, fun hk => ?_⟩]
    · rcases List.mem_cons.1 ((h k).1 (List.mem_cons_of_mem _ hk)) with e | hk'
      · have h1 : cmpC x k < 0 := ha1 k hk
        rw [e, ord_c.refl] at h1; omega
      · exact hk'
    · rcases List.mem_cons.1 ((h k).2 (List.mem_cons_of_mem _ hk)) with e | hk'
      · have h1 : cmpC x k < 0 := hb1 k hk
        rw [e, ord_c.refl] at h1; omega
      · exact hk'
/-- What Set's answer is: the keys of l, rising. -/
structure SetK (K : List Ck) (l : List Cm) : Prop where
  rise : K.Pairwise ltC3
  mem : ∀ k, k ∈ K ↔ ∃ c ∈ l, c.key = k
theorem SetK.of {l l' : List Cm} (hp : l'.Perm l) (hs : srtC l') : SetK (dkN l' l'.length) l :=
  ⟨dkN_rise hs _, fun k => ⟨fun h => by
      obtain ⟨i, c, -, hc, e⟩ := dkN_mem _ h
      exact ⟨c, hp.mem_iff.1 (List.mem_of_getElem? hc), e⟩, fun ⟨c, hc, e⟩ => by
      obtain ⟨i, hi, hc⟩ := List.mem_iff_getElem.1 (hp.mem_iff.2 hc)
      subst e
      exact dkN_has _ i c hi (by rw [List.getElem?_eq_getElem hi, hc])⟩⟩
theorem SetK.uniq {K K' : List Ck} {l l' : List Cm} (h : SetK K l) (h' : SetK K' l') (hm : ∀ c, c ∈ l ↔ c ∈ l') : K = K' :=
  rise_uniq K K' h.rise h'.rise fun k => by rw [h.mem, h'.mem]; exact ⟨fun ⟨c, hc, e⟩ => ⟨c, (hm c).1 hc, e⟩, fun ⟨c, hc, e⟩ => ⟨c, (hm c).2 hc, e⟩⟩
theorem SetK.step {o l : List Cm} (h : SetK (o.map Cm.key) l) {i : Nat} {a b : Cm} (ha : o[i]? = some a) (hb : o[i + 1]? = some b) : a.cmp b = -1 := by
  rw [cmp_key]
  have h1 : (o.map Cm.key)[i]? = some a.key := by rw [List.getElem?_map, ha]; rfl
  have h2 : (o.map Cm.key)[i + 1]? = some b.key := by rw [List.getElem?_map, hb]; rfl
  obtain ⟨l1, e1⟩ := List.getElem?_eq_some_iff.1 h1
  obtain ⟨l2, e2⟩ := List.getElem?_eq_some_iff.1 h2
  have : cmpC a.key b.key < 0 := by rw [← e1, ← e2]; exact List.pairwise_iff_getElem.1 h.rise i (i + 1) l1 l2 (by omega)
  have := ord_c.rng a.key b.key
  omega
end Go.Proofs.YtdfgijdededolabGreatDoor
/-
  Two rising lists of clauses merged: plain.
-/
namespace Go.Proofs.YtdfgijdededolabGreatDoor

abbrev ltM (a b : At × List At × List Te) : Prop := cmpC a b < 0
/-- How far a merge of p and q has come: i of p and k of q are taken, and out is what they make. -/
structure Mrg (p q out : List (At × List At × List Te)) (i k : Nat) : Prop where
  rise : out.Pairwise ltM
  mem : ∀ x, x ∈ out ↔ x ∈ p.take i ∨ x ∈ q.take k
  lp : ∀ x ∈ out, ∀ j y, i ≤ j → p[j]? = some y → cmpC x y < 0
  lq : ∀ x ∈ out, ∀ j y, k ≤ j → q[j]? = some y → cmpC x y < 0
theorem Mrg.start (p q : List (At × List At × List Te)) : Mrg p q [] 0 0 := ⟨List.Pairwise.nil, (fun x => by simp), (fun x hx => by cases hx), (fun x hx => by cases hx)⟩
theorem ltM_tr {a b c : At × List At × List Te} (h1 : cmpC a b < 0) (h2 : cmpC b c ≤ 0) : cmpC a c < 0 := (ord_c.tr _ _ _ (by omega) h2).2 (Or.inl h1)
theorem rise_get {p : List (At × List At × List Te)} (h : p.Pairwise ltM) {i j : Nat} {x y : At × List At × List Te} (hij : i < j) (hx : p[i]? = some x) (hy : p[j]? = some y) : cmpC x y < 0 := by
  obtain ⟨h1, rfl⟩ := List.getElem?_eq_some_iff.1 hx
  obtain ⟨h2, rfl⟩ := List.getElem?_eq_some_iff.1 hy
  exact List.pairwise_iff_getElem.1 h i j h1 h2 hij
theorem mem_take {α : Type} {p : List α} {i : Nat} {x y : α} (h : p[i]? = some x) : y ∈ p.take (i + 1) ↔ y ∈ p.take i ∨ y = x := by
  rw [List.take_add_one, h]; simp
theorem rise_snoc {o : List (At × List At × List Te)} {x : At × List At × List Te} (h : o.Pairwise ltM) (hx : ∀ y ∈ o, cmpC y x < 0) : (o ++ [x]).Pairwise ltM :=
  List.pairwise_append.2 ⟨h, List.pairwise_singleton _ _, fun a ha b hb => by rw [List.mem_singleton] at hb; subst hb; exact hx a ha⟩
/-- The next of p is less than all that is left of q. -/
theorem Mrg.left {p q out : List (At × List At × List Te)} {i k : Nat} {x : At × List At × List Te} (h : Mrg p q out i k) (hp : p.Pairwise ltM) (hq : q.Pairwise ltM) (hx : p[i]? = some x) (hl : ∀ y, q[k]? = some y → cmpC x y < 0) : Mrg p q (out ++ [x]) (i + 1) k := by
  have hx2 : ∀ y ∈ out, cmpC y x < 0 := fun y hy => h.lp y hy i x (Nat.le_refl _) hx
  refine ⟨rise_snoc h.rise hx2, fun y => ?_, fun y hy j z hj hz => ?_, fun y hy j z hj hz => ?_⟩
  · rw [List.mem_append, h.mem, mem_take hx, List.mem_singleton]
    constructor
    · rintro ((h | h) | h)
      · exact Or.inl (Or.inl h)
      · exact Or.inr h
      · exact Or.inl (Or.inr h)
    · rintro ((h | h) | h)
      · exact Or.inl (Or.inl h)
      · exact Or.inr h
      · exact Or.inl (Or.inr h)
  · rcases List.mem_append.1 hy with hy | hy
    · exact h.lp y hy j z (by omega) hz
    · rw [List.mem_singleton] at hy; subst hy; exact rise_get hp (by omega) hx hz
  · rcases List.mem_append.1 hy with hy | hy
    · exact h.lq y hy j z hj hz
    · rw [List.mem_singleton] at hy; subst hy
      have hk : k < q.length := by have := (List.getElem?_eq_some_iff.1 hz).1; omega
      have h1 := hl _ (List.getElem?_eq_getElem hk)
      by_cases e : j = k
      · subst e; exact hl z hz
      · exact ltM_tr h1 (by have := rise_get hq (show k < j by omega) (List.getElem?_eq_getElem hk) hz; omega)
theorem Mrg.swap {p q out : List (At × List At × List Te)} {i k : Nat} (h : Mrg p q out i k) : Mrg q p out k i := ⟨h.rise, fun x => by rw [h.mem, or_comm], h.lq, h.lp⟩
theorem Mrg.right {p q out : List (At × List At × List Te)} {i k : Nat} {x : At × List At × List Te} (h : Mrg p q out i k) (hp : p.Pairwise ltM) (hq : q.Pairwise ltM) (hx : q[k]? = some x) (hl : ∀ y, p[i]? = some y → cmpC x y < 0) : Mrg p q (out ++ [x]) i (k + 1) := (h.swap.left hq hp hx hl).swap
/-- The next of both are one. -/
theorem Mrg.both {p q out : List (At × List At × List Te)} {i k : Nat} {x : At × List At × List Te} (h : Mrg p q out i k) (hp : p.Pairwise ltM) (hq : q.Pairwise ltM) (hx : p[i]? = some x) (hy : q[k]? = some x) : Mrg p q (out ++ [x]) (i + 1) (k + 1) := by
  have hx2 : ∀ y ∈ out, cmpC y x < 0 := fun y hy => h.lp y hy i x (Nat.le_refl _) hx
  refine ⟨rise_snoc h.rise hx2, fun y => ?_, fun y hy' j z hj hz => ?_, fun y hy' j z hj hz => ?_⟩
  · rw [List.mem_append, h.mem, mem_take hx, mem_take hy, List.mem_singleton]
    constructor
    · rintro ((h | h) | h)
      · exact Or.inl (Or.inl h)
      · exact Or.inr (Or.inl h)
      · exact Or.inl (Or.inr h)
    · rintro ((h | h) | (h | h))
      · exact Or.inl (Or.inl h)
      · exact Or.inr h
      · exact Or.inl (Or.inr h)
      · exact Or.inr h
  · rcases List.mem_append.1 hy' with hy' | hy'
    · exact h.lp y hy' j z (by omega) hz
    · rw [List.mem_singleton] at hy'; subst hy'; exact rise_get hp (by omega) hx hz
  · rcases List.mem_append.1 hy' with hy' | hy'
    · exact h.lq y hy' j z (by omega) hz
    · rw [List.mem_singleton] at hy'; subst hy'; exact rise_get hq (by omega) hy hz
theorem Mrg.done {p q out : List (At × List At × List Te)} {i k : Nat} (h : Mrg p q out i k) (hi : p.length ≤ i) (hk : q.length ≤ k) : out.Pairwise ltM ∧ ∀ x, x ∈ out ↔ x ∈ p ∨ x ∈ q :=
  ⟨h.rise, fun x => by rw [h.mem, List.take_of_length_le hi, List.take_of_length_le hk]⟩
end Go.Proofs.YtdfgijdededolabGreatDoor
/-
  Vars.
-/
namespace Go.Proofs.YtdfgijdededolabGreatDoor
open Go.RowKit

def ics (l : List Int) : List Value := l.map (Value.int .i64)
/-- v holds the numbers l, in a block of the call's own. -/
def OwnI (w : World) (base : Nat) (v : Value) (l : List Int) : Prop := w.ownsRow base 3 1 v l.length (ics l)
theorem OwnI.lt {w : World} {base : Nat} {v : Value} {l : List Int} (h : OwnI w base v l) : ∀ k, v.ownBlock = some k → base ≤ k ∧ k < w.heap.size := World.ownsRow.lt h
theorem OwnI.mono {w : World} {b b' : Nat} {v : Value} {l : List Int} (h : OwnI w b v l) (hb : b' ≤ b) : OwnI w b' v l := by
  refine ⟨h.1, ?_⟩
  rcases h.2 with hn | ⟨g, cap, cur, hv, hbb, rest⟩
  · exact Or.inl hn
  · exact Or.inr ⟨g, cap, cur, hv, Nat.le_trans hb hbb, rest⟩
theorem OwnI.later {w w' : World} {base : Nat} {v : Value} {l : List Int} (h : OwnI w base v l) (hb : Below w.heap.size w w') : OwnI w' base v l := by
  refine ⟨h.1, ?_⟩
  rcases h.2 with hn | ⟨g, cap, cur, hv, hbb, hg, rest⟩
  · exact Or.inl hn
  · exact Or.inr ⟨g, cap, cur, hv, hbb, (hb.block _ (Array.getElem?_eq_some_iff.1 hg).1).trans hg, rest⟩
/-- Each variable's number, once, in the order of the places. -/
def vS (l : List Int) (t : Tm) : List Int := if t.var then (if l.any (fun n => decide (n = t.n)) then l else l ++ [t.n]) else l
def vs (pl : List Tm) : List Int := pl.foldl vS []
end Go.Proofs.YtdfgijdededolabGreatDoor
/-
  ref's Fact, ints of the laws, ref's CompareAtoms.
-/
namespace Go.Proofs.YtdfgijdededolabGreatDoor
open Go.RowKit
attribute [local go_sem ↓] Go.wp_at_zero Go.wp_at_succ

/-- What is left of the comparing. -/
def left (c : Int) (l l' : List Tm) : Int := if c = 0 then cmpL l l' else c
end Go.Proofs.YtdfgijdededolabGreatDoor
/-
  ref's number and compareTests.
-/
namespace Go.Proofs.YtdfgijdededolabGreatDoor
open Go.RowKit

/-- A test whose texts have a size that a program can hold. -/
def Te.szs (t : Te) : Prop := t.l.s.size ≤ maxLen ∧ t.r.s.size ≤ maxLen
end Go.Proofs.YtdfgijdededolabGreatDoor
/-
  ref's Compare of clauses. (Written by SD12.py.)
-/
namespace Go.Proofs.YtdfgijdededolabGreatDoor
open Go.RowKit

def Cm.szs (c : Cm) : Prop := (c.head.1.name.size ≤ maxLen ∧ ∀ t ∈ c.head.1.pl, t.s.size ≤ maxLen) ∧ (∀ x ∈ c.body, x.1.name.size ≤ maxLen ∧ ∀ t ∈ x.1.pl, t.s.size ≤ maxLen) ∧ ∀ t ∈ c.tests, t.szs
end Go.Proofs.YtdfgijdededolabGreatDoor
/-
  What ref's Set wants: halves of a list, and what they make.
-/
namespace Go.Proofs.YtdfgijdededolabGreatDoor
open Go.RowKit

theorem SetK.one {c d : Cm} (h : d.key = c.key) : SetK ([d].map Cm.key) [c] := ⟨List.pairwise_singleton _ _, fun k => by simp [h, eq_comm]⟩
theorem SetK.nil : SetK ([] : List Ck) [] := ⟨List.Pairwise.nil, fun k => by simp⟩
theorem CsP.take {w : World} {b o n cap h : Nat} {l : List Cm} (H : CsP w (.slice (some ⟨b, o, none⟩) n cap) l) (hh : h ≤ l.length) (cap' : Nat) : CsP w (.slice (some ⟨b, o, none⟩) h cap') (l.take h) := by
  refine ⟨Or.inr ⟨⟨b, o, none⟩, cap', by rw [List.length_take, Nat.min_eq_left hh], ?_⟩, fun c hc => H.ok c (List.mem_of_mem_take hc)⟩
  cases hl : l with
  | nil => left; simp
  | cons c l' =>
    right
    obtain ⟨b', o', e, hr⟩ := H.get (j := 0) (c := c) (by rw [hl]; rfl)
    cases e
    refine ⟨b, o, rfl, hr.1, fun i x hx k u hu => ?_⟩
    refine hr.2 i x ?_ k u hu
    rw [← hl] at hx
    rw [List.getElem?_take] at hx
    split at hx
    · exact hx
    · cases hx
theorem CsP.drop {w : World} {b o n cap h : Nat} {l : List Cm} (H : CsP w (.slice (some ⟨b, o, none⟩) n cap) l) (hh : h < l.length) (cap' : Nat) : CsP w (.slice (some ⟨b, o + h * 7, none⟩) (l.length - h) cap') (l.drop h) := by
  refine ⟨Or.inr ⟨⟨b, o + h * 7, none⟩, cap', by rw [List.length_drop], ?_⟩, fun c hc => H.ok c (List.mem_of_mem_drop hc)⟩
  right
  obtain ⟨c, hc⟩ : ∃ c, l[h]? = some c := ⟨_, List.getElem?_eq_getElem hh⟩
  obtain ⟨b', o', e, hr⟩ := H.get hc
  cases e
  refine ⟨b, o + h * 7, rfl, hr.1, fun i x hx k u hu => ?_⟩
  rw [List.getElem?_drop] at hx
  have := hr.2 (h + i) x hx k u hu
  rw [show o + h * 7 + i * 7 + k = o + (h + i) * 7 + k by omega]
  exact this
end Go.Proofs.YtdfgijdededolabGreatDoor
/-
  ref's Set.
-/
namespace Go.Proofs.YtdfgijdededolabGreatDoor
open Go.RowKit

theorem CsP.one {X : World} {b : Nat} {d : Cm} (h : CBlk X b d.cs 41) (hok : d.ok X) : CsP X (.slice (some ⟨b, 0, none⟩) 1 1) [d] := by
  refine ⟨Or.inr ⟨⟨b, 0, none⟩, 1, rfl, Or.inr ⟨b, 0, rfl, h.lt, fun i c hc k u hu => ?_⟩⟩, fun c hc => by rw [List.mem_singleton] at hc; subst hc; exact hok⟩
  cases i with
  | zero =>
    cases hc
    rw [cell_of_row _ _ _ _ _ _ h]
    simpa [Cm.csl] using hu
  | succ i => simp at hc
end Go.Proofs.YtdfgijdededolabGreatDoor
/-
  A clause, and a list of clauses, opened with all that is wanted of them: their lists, the sizes of their texts, the bulk. (Written by SD20.py, out of CK2, SD8.)
-/
namespace Go.Proofs.YtdfgijdededolabGreatDoor
open Go.ChangeShapes Go.WideShapes Go.ChangeAt Go.RowKit Go.Joins Go.Deep

structure COpen (W : World) (c : Cm) : Prop where
  ok : c.ok W
  hh : TsP W c.head.2 c.head.1.args
  hp : ∀ x ∈ c.body, TsP W x.2 x.1.args
  bp : AsP W c.bv c.body
  ht : EsP W c.tv c.tests
  sz : c.szs
theorem COpen.okp {W : World} {c : Cm} (h : COpen W c) : OKP W c := ⟨h.ok, h.hh, h.hp, h.bp⟩
theorem COpen.lp {W : World} {c : Cm} (h : COpen W c) (hs : (Ck.terms c.key).length ≤ 4000000) : LP W c := ⟨h.ok, h.hh, h.hp, h.ht, hs⟩
end Go.Proofs.YtdfgijdededolabGreatDoor

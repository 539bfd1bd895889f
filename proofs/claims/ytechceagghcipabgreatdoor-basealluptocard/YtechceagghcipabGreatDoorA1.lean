import Derived.Test.YtechceagghcipabGreatDoorB6
import Derived.Test.YtechceagghcipabGreatDoorW2
import Derived.Maps.OwnIn
import Derived.Maps.AppendAt
import Derived.Test.YtechceagghcipabGreatDoorB7
import Derived.Test.YtechceagghcipabGreatDoorB4
import Derived.ProofKit
import Derived.OpenShut
import Derived.ShutString
import Derived.ChangeOld
import Derived.Below
import Derived.Lib.SmallJoins
import Derived.DeepKeys4
import Derived.Test.YtechceagghcipabGreatDoorRA2
namespace Go.Proofs.YtechceagghcipabGreatDoor
open Go.RowKit Go.Shelf
attribute [local go_sem] Oper.semAt_some
theorem CBlk.off {W : World} {B G i : Nat} {c : Array Value} {t : TypeId} {v : Value} (h : CBlk W B c t) (hne : B ≠ G) : CBlk (W.setCell ⟨G, i, none⟩ v) B c t := by
 unfold CBlk; rw [heap_setCell_other _ _ _ _ hne]; exact h
end Go.Proofs.YtechceagghcipabGreatDoor
namespace Go.Proofs.YtechceagghcipabGreatDoor
open Go.RowKit Go.Shelf
attribute [local go_sem] Oper.semAt_some
def sv (l : List Int) : DataW Unit := Maps.setOf (.agg []) (l.map (Lit.int .i64))
end Go.Proofs.YtechceagghcipabGreatDoor
namespace Go.Proofs.YtechceagghcipabGreatDoor
open Go.RowKit
attribute [local go_sem ↓] Go.wp_at_zero Go.wp_at_succ
def cmpL : List Tm -> List Tm -> Int
 | x :: xs, y :: ys => if x.cmp y ≠ 0 then x.cmp y else cmpL xs ys
 | _, _ => 0
def At.cmp (a b : At) : Int := if a.name.toList ≠ b.name.toList then M.sgL a.name.toList b.name.toList else if a.args.length ≠ b.args.length then M.sgI a.args.length b.args.length else cmpL a.pl b.pl
theorem cmpL_ne (p a : List Tm) (i : Nat) (t u : Tm) (ht : p[i]? = some t) (hu : a[i]? = some u) (h : ¬ t.cmp u = 0) : cmpL (p.drop i) (a.drop i) = t.cmp u := by
 obtain ⟨h1, rfl⟩ := List.getElem?_eq_some_iff.1 ht
 obtain ⟨h2, rfl⟩ := List.getElem?_eq_some_iff.1 hu
 rw [List.drop_eq_getElem_cons h1, List.drop_eq_getElem_cons h2, cmpL, if_pos h]
theorem cmpL_eq (p a : List Tm) (i : Nat) (t u : Tm) (ht : p[i]? = some t) (hu : a[i]? = some u) (h : t.cmp u = 0) : cmpL (p.drop i) (a.drop i) = cmpL (p.drop (i + 1)) (a.drop (i + 1)) := by
 obtain ⟨h1, rfl⟩ := List.getElem?_eq_some_iff.1 ht
 obtain ⟨h2, rfl⟩ := List.getElem?_eq_some_iff.1 hu
 rw [List.drop_eq_getElem_cons h1, List.drop_eq_getElem_cons h2, cmpL, if_neg (by simpa using h)]
end Go.Proofs.YtechceagghcipabGreatDoor
/-
  replace, ApplyTest.
-/
namespace Go.Proofs.YtechceagghcipabGreatDoor
open Go.RowKit
attribute [local go_sem ↓] Go.wp_at_zero Go.wp_at_succ

/-- What a term becomes. -/
def become (s : List Bd) (t : Tm) : Tm := if t.var then (look s t.n).getD t else t
def BoxB (w W : World) (c d : Array Value) (t t' : TypeId) : Prop := W.heap[w.heap.size]? = some (.cells c t (0, 0)) ∧ W.heap[w.heap.size + 1]? = some (.cells d t' (0, 0)) ∧ Below w.heap.size w W
theorem BoxB.start (w : World) (c d : Array Value) (t t' : TypeId) : BoxB w ((w.alloc (.cells c t)).alloc (.cells d t')) c d t t' := ⟨heap_alloc2_old _ _ _, heap_alloc2_new _ _ _, below2 _ _ _⟩
theorem BoxB.later {w W W' : World} {c d : Array Value} {t t' : TypeId} (h : BoxB w W c d t t') (hb : Below W.heap.size W W') : BoxB w W' c d t t' :=
  ⟨(hb.block _ (Array.getElem?_eq_some_iff.1 h.1).1).trans h.1, (hb.block _ (Array.getElem?_eq_some_iff.1 h.2.1).1).trans h.2.1, h.2.2.trans (hb.mono h.2.2.size)⟩
theorem BoxB.lt {w W : World} {c d : Array Value} {t t' : TypeId} (h : BoxB w W c d t t') : w.heap.size + 1 < W.heap.size := (Array.getElem?_eq_some_iff.1 h.2.1).1
theorem cell_stepB {B : Nat} {w' w3 : World} {b o : Nat} {v : Value} (h3 : Below B w' w3) (hb : b < B) (hc : w'.cell? ⟨b, o, none⟩ = some v) : w3.cell? ⟨b, o, none⟩ = some v := by
  rw [h3.cell (p := ⟨b, o, none⟩) hb]; exact hc
end Go.Proofs.YtechceagghcipabGreatDoor
namespace Go.Proofs.YtechceagghcipabGreatDoor
open Go.RowKit
set_option maxRecDepth 100000 in
theorem len64_tiny (n : Int) (h : n = 0 ∨ n = 1) (w : World) : Calls Tryz.prog 116 #[.int .u64 n] w fun e w' => (∃ m : Int, e = .returned (.int .i64 m)) /\ w' = w := by
 rcases h with rfl | rfl
 ·go_enter Tryz.func116, Tryz.ntmps116
  go_wp2
  go_ret
  exact ⟨⟨_, rfl⟩, rfl⟩
 ·go_enter Tryz.func116, Tryz.ntmps116
  go_wp2
  go_ret
  exact ⟨⟨_, rfl⟩, rfl⟩
theorem len_tiny (n : Nat) (h : n <= 1) (w : World) : Calls Tryz.prog 80 #[.int .u64 n] w fun e w' => (∃ m : Int, e = .returned (.int .i64 m)) /\ w' = w := by
 have hn : (n : Int) = 0 ∨ (n : Int) = 1 := by omega
 have HN : Hid ((n : Int) = 0 ∨ (n : Int) = 1) := hn
 clear hn h
 go_enter Tryz.func80, Tryz.ntmps80
 go_wp2_with (go_at_call 116; refine (len64_tiny _ HN.out _).mono ?_; rintro e w1 ⟨⟨m, rfl⟩, rfl⟩)
 go_ret
 exact ⟨⟨_, rfl⟩, rfl⟩
theorem ins_tiny (v f : Value) (n : Nat) (h : n <= 1) (w : World) : Calls Tryz.prog 201 #[v, .int .i64 0, .int .i64 n, f] w fun e w' => e = .returned (.tuple #[]) /\ w' = w := by
 have hn : ¬ (1 : Int) < (n : Int) := by omega
 go_enter Tryz.func201, Tryz.ntmps201
 go_wp2
 go_loop [8] (fun i => i = .int .i64 1) (fun _ => 0)
 case atStart => rfl
 case round =>
  subst hrel
  go_wp2
  go_end0
  exact ⟨rfl, rfl⟩
theorem pdq_tiny (v f : Value) (n : Nat) (h : n <= 1) (m : Int) (w : World) : Calls Tryz.prog 186 #[v, .int .i64 0, .int .i64 n, .int .i64 m, f] w fun e w' => e = .returned (.tuple #[]) /\ w' = w := by
 have hn : (n : Int) <= 12 := by omega
 have hn0 : (0 : Int) <= n := by omega
 go_enter Tryz.func186, Tryz.ntmps186
 go_wp2
 go_loop [1, 2] (fun a b => a = .int .i64 0 /\ b = .int .i64 n) (fun _ _ => 0)
 case atStart => exact ⟨rfl, rfl⟩
 case round =>
  obtain ⟨rfl, rfl⟩ := hrel
  go_wp2_with (go_at_call 201; refine (ins_tiny _ _ _ h _).mono ?_; rintro e w1 ⟨rfl, rfl⟩)
  (try simp only [Exit.inBlock, Exit.then])
  refine bodyPost_ret (results_none rfl _ _ _) rfl ?_
  exact ⟨rfl, rfl⟩
theorem sortFunc_tiny (a : Option Addr) (f : Value) (n cap : Nat) (h : n <= 1) (w : World) : Calls Tryz.prog 162 #[.slice a n cap, f] w fun e w' => e = .returned (.tuple #[]) /\ w' = w := by
 have hw : IntKind.u64.wrap (n : Int) = n := by rw [IntKind.wrap_u64]; omega
 go_enter Tryz.func162, Tryz.ntmps162
 go_wp2_with (first
  | (go_at_call 80; refine (len_tiny n h _).mono ?_; rintro e w1 ⟨⟨m, rfl⟩, rfl⟩)
  | (go_at_call 186; refine (pdq_tiny _ _ n h _ _).mono ?_; rintro e w1 ⟨rfl, rfl⟩))
 go_end0
 exact ⟨rfl, rfl⟩
theorem sort_one : SortOK 1 := by
 intro w base v l ho hl
 obtain ⟨a, cap, rfl⟩ := own_len ho
 have HO : Hid (Own w base (.slice a l.length cap) l) := ho
 have hs : srt l := by
  unfold srt
  match l, hl with
  | [], _ => exact List.Pairwise.nil
  | [x], _ => exact List.pairwise_singleton _ _
 have HS : Hid (srt l) := hs
 clear ho hs
 go_enter Tryz.func151, Tryz.ntmps151
 go_wp2_with (go_at_call 162; refine (sortFunc_tiny _ _ _ _ hl _).mono ?_; rintro e w1 ⟨rfl, rfl⟩)
 go_end0
 exact ⟨rfl, l, HO.out, List.Perm.refl _, HS.out, Below.refl _ _⟩
end Go.Proofs.YtechceagghcipabGreatDoor
/-
  hearsaylaw02.TermDecides, for every two terms.
-/
namespace Go.Proofs.YtechceagghcipabGreatDoor
open Go.RowKit
attribute [local go_sem ↓] Go.wp_at_zero Go.wp_at_succ

theorem sgI_neg (a b : Int) : M.sgI b a = - M.sgI a b := by unfold M.sgI; repeat' split
                                                            all_goals omega
def x4 : Tm := ⟨3, 4, ⟨#[]⟩⟩
end Go.Proofs.YtechceagghcipabGreatDoor
/-
  Atoms in their order, as plain mathematics.
-/
namespace Go.Proofs.YtechceagghcipabGreatDoor

/-- A total order, told by -1, 0, 1. -/
structure Ord3 {α : Type} (f : α → α → Int) : Prop where
  rng : ∀ a b, f a b = -1 ∨ f a b = 0 ∨ f a b = 1
  neg : ∀ a b, f b a = - f a b
  zero : ∀ a b, f a b = 0 → a = b
  refl : ∀ a, f a a = 0
  tr : ∀ a b c, f a b ≤ 0 → f b c ≤ 0 → f a c ≤ 0 ∧ (f a b < 0 ∨ f b c < 0 → f a c < 0)
theorem ord_sgI : Ord3 M.sgI where
  rng a b := by unfold M.sgI; repeat' split
                all_goals omega
  neg a b := sgI_neg a b
  zero a b := by unfold M.sgI; repeat' split
                 all_goals omega
  refl a := by simp [M.sgI]
  tr a b c := by
    have k1 : ∀ x y, M.sgI x y ≤ 0 ↔ x ≤ y := fun x y => by unfold M.sgI; repeat' split
                                                            all_goals omega
    have k2 : ∀ x y, M.sgI x y < 0 ↔ x < y := fun x y => by unfold M.sgI; repeat' split
                                                            all_goals omega
    rw [k1, k1, k1, k2, k2, k2]; omega
theorem ord_sgL : Ord3 M.sgL where
  rng := M.sgL_rng
  neg a b := M.sgL_neg a b
  zero a b h := (M.sgL_zero a b).1 h
  refl a := (M.sgL_zero a a).2 rfl
  tr := M.sgL_trans
/-- First one, then the other. -/
theorem Ord3.lex {α β γ : Type} {f : α → α → Int} {g : β → β → Int} (hf : Ord3 f) (hg : Ord3 g) (p : γ → α) (q : γ → β) (inj : ∀ x y, p x = p y → q x = q y → x = y) :
    Ord3 fun x y => if f (p x) (p y) ≠ 0 then f (p x) (p y) else g (q x) (q y) where
  rng a b := by
    split
    · exact hf.rng _ _
    · exact hg.rng _ _
  neg a b := by
    have h1 := hf.neg (p a) (p b)
    have h2 := hg.neg (q a) (q b)
    by_cases h : f (p a) (p b) = 0
    · rw [if_neg (by omega), if_neg (by omega), h2]
    · rw [if_pos (by omega), if_pos (by omega), h1]
  zero a b := by
    by_cases h : f (p a) (p b) = 0
    · rw [if_neg (by omega)]; exact fun h' => inj _ _ (hf.zero _ _ h) (hg.zero _ _ h')
    · rw [if_pos h]; exact fun h' => absurd h' h
  refl a := by
    rw [if_neg (by rw [hf.refl]; omega)]; exact hg.refl _
  tr a b c := by
    have t := hf.tr (p a) (p b) (p c)
    have t' := hg.tr (q a) (q b) (q c)
    by_cases h1 : f (p a) (p b) = 0
    · have e1 := hf.zero _ _ h1
      rw [e1] at h1 ⊢
      by_cases h2 : f (p b) (p c) = 0
      · simp only [h1, h2, ne_eq, not_true_eq_false, if_false]; exact t'
      · simp only [h1, h2, ne_eq, not_true_eq_false, not_false_eq_true, if_false, if_true]; intro _ h; exact ⟨h, fun _ => by omega⟩
    · by_cases h2 : f (p b) (p c) = 0
      · have e2 := hf.zero _ _ h2
        rw [← e2] at h2 ⊢
        simp only [h1, h2, ne_eq, not_true_eq_false, not_false_eq_true, if_false, if_true]
        intro h _; exact ⟨h, fun _ => by omega⟩
      · simp only [h1, h2, ne_eq, not_false_eq_true, if_true]
        intro h h'
        have := (t h h').2 (Or.inl (by omega))
        rw [if_pos (by omega)]
        exact ⟨by omega, fun _ => this⟩
theorem ord_tm : Ord3 Tm.cmp := by
  have h1 := Ord3.lex (γ := Int × List UInt8) ord_sgI ord_sgL (fun x => x.1) (fun x => x.2) (fun x y h h' => Prod.ext h h')
  have h2 := Ord3.lex (γ := Tm) ord_sgI h1 (fun x => x.k) (fun x => (x.n, x.s.toList)) (fun x y h h' => by
    obtain ⟨k, n, s⟩ := x
    obtain ⟨k', n', s'⟩ := y
    simp only [Prod.mk.injEq] at h h'
    rw [h, h'.1, toList_inj h'.2])
  have e : Tm.cmp = fun x y => if M.sgI x.k y.k ≠ 0 then M.sgI x.k y.k else if M.sgI x.n y.n ≠ 0 then M.sgI x.n y.n else M.sgL x.s.toList y.s.toList := by
    funext x y
    have z : ∀ a b, M.sgI a b = 0 ↔ a = b := fun a b => ⟨ord_sgI.zero a b, fun h => by rw [h]; exact ord_sgI.refl b⟩
    unfold Tm.cmp
    simp only [ne_eq, z]
  rw [e]; exact h2
theorem cmpL_ord : ∀ n : Nat, (∀ a b : List Tm, a.length = n → b.length = n → (cmpL a b = -1 ∨ cmpL a b = 0 ∨ cmpL a b = 1) ∧ cmpL b a = - cmpL a b ∧ (cmpL a b = 0 → a = b)) ∧
    (∀ a b c : List Tm, a.length = n → b.length = n → c.length = n → cmpL a b ≤ 0 → cmpL b c ≤ 0 → cmpL a c ≤ 0 ∧ (cmpL a b < 0 ∨ cmpL b c < 0 → cmpL a c < 0))
  | 0 => by
    refine ⟨fun a b ha hb => ?_, fun a b c ha hb hc => ?_⟩
    · rw [List.length_eq_zero_iff] at ha hb; subst ha hb; simp [cmpL]
    · rw [List.length_eq_zero_iff] at ha hb hc; subst ha hb hc; simp [cmpL]
  | n + 1 => by
    have ih := cmpL_ord n
    refine ⟨fun a b ha hb => ?_, fun a b c ha hb hc => ?_⟩
    · match a, b, ha, hb with
      | x :: a, y :: b, ha, hb =>
        have i := ih.1 a b (by simpa using ha) (by simpa using hb)
        have hn := ord_tm.neg x y
        by_cases h : x.cmp y = 0
        · have e := ord_tm.zero x y h
          simp only [cmpL]
          rw [if_neg (by omega), if_neg (by omega)]
          exact ⟨i.1, i.2.1, fun h' => by rw [e, i.2.2 h']⟩
        · simp only [cmpL]
          rw [if_pos h, if_pos (by omega)]
          exact ⟨ord_tm.rng x y, hn, fun h' => absurd h' h⟩
    · match a, b, c, ha, hb, hc with
      | x :: a, y :: b, z :: c, ha, hb, hc =>
        have i := ih.2 a b c (by simpa using ha) (by simpa using hb) (by simpa using hc)
        have t := ord_tm.tr x y z
        simp only [cmpL]
        by_cases h1 : x.cmp y = 0
        · have e1 := ord_tm.zero _ _ h1
          rw [e1] at h1 ⊢
          by_cases h2 : y.cmp z = 0
          · simp only [h1, h2, ne_eq, not_true_eq_false, if_false]; exact i
          · simp only [h1, h2, ne_eq, not_true_eq_false, not_false_eq_true, if_false, if_true]; intro _ h; exact ⟨h, fun _ => by omega⟩
        · by_cases h2 : y.cmp z = 0
          · have e2 := ord_tm.zero _ _ h2
            rw [← e2] at h2 ⊢
            simp only [h1, h2, ne_eq, not_true_eq_false, not_false_eq_true, if_false, if_true]
            intro h _; exact ⟨h, fun _ => by omega⟩
          · simp only [h1, h2, ne_eq, not_false_eq_true, if_true]
            intro h h'
            have := (t h h').2 (Or.inl (by omega))
            rw [if_pos (by omega)]
            exact ⟨by omega, fun _ => this⟩
def cmpLL (a b : List Tm) : Int := if M.sgI a.length b.length ≠ 0 then M.sgI a.length b.length else cmpL a b
theorem zI (a b : Int) : M.sgI a b = 0 ↔ a = b := ⟨ord_sgI.zero a b, fun h => by rw [h]; exact ord_sgI.refl b⟩
theorem cmpLL_ne (a b : List Tm) (h : a.length ≠ b.length) : cmpLL a b = M.sgI a.length b.length := by
  unfold cmpLL; rw [if_pos (by rw [ne_eq, zI]; omega)]
theorem cmpLL_eq (a b : List Tm) (h : a.length = b.length) : cmpLL a b = cmpL a b := by
  unfold cmpLL; rw [if_neg (by rw [ne_eq, zI]; omega)]
theorem ord_ll : Ord3 cmpLL where
  rng a b := by
    by_cases h : a.length = b.length
    · rw [cmpLL_eq a b h]; exact ((cmpL_ord _).1 a b rfl h.symm).1
    · rw [cmpLL_ne a b h]; exact ord_sgI.rng _ _
  neg a b := by
    by_cases h : a.length = b.length
    · rw [cmpLL_eq a b h, cmpLL_eq b a h.symm]; exact ((cmpL_ord _).1 a b rfl h.symm).2.1
    · rw [cmpLL_ne a b h, cmpLL_ne b a (Ne.symm h)]; exact ord_sgI.neg _ _
  zero a b := by
    by_cases h : a.length = b.length
    · rw [cmpLL_eq a b h]; exact ((cmpL_ord _).1 a b rfl h.symm).2.2
    · rw [cmpLL_ne a b h, zI]; omega
  refl a := by
    rw [cmpLL_eq a a rfl]
    have h := ((cmpL_ord _).1 a a rfl rfl).2.1
    omega
  tr a b c := by
    have t := ord_sgI.tr a.length b.length c.length
    have z1 := zI a.length b.length
    have z2 := zI b.length c.length
    have z3 := zI a.length c.length
    by_cases h1 : a.length = b.length
    · by_cases h2 : b.length = c.length
      · rw [cmpLL_eq a b h1, cmpLL_eq b c h2, cmpLL_eq a c (h1.trans h2)]
        exact (cmpL_ord _).2 a b c rfl h1.symm (h1.trans h2).symm
      · rw [cmpLL_eq a b h1, cmpLL_ne b c h2, cmpLL_ne a c (by omega), h1]
        intro _ h; exact ⟨h, fun _ => by omega⟩
    · by_cases h2 : b.length = c.length
      · rw [cmpLL_ne a b h1, cmpLL_eq b c h2, cmpLL_ne a c (by omega), ← h2]
        intro h _; exact ⟨h, fun _ => by omega⟩
      · rw [cmpLL_ne a b h1, cmpLL_ne b c h2]
        intro h h'
        have := (t h h').2 (Or.inl (by omega))
        rw [cmpLL_ne a c (by omega)]
        exact ⟨by omega, fun _ => this⟩
theorem ord_at : Ord3 At.cmp := by
  have h := Ord3.lex (γ := At) ord_sgL ord_ll (fun x => x.name.toList) (fun x => x.pl) (fun x y h h' => by
    obtain ⟨a, n, l⟩ := x
    obtain ⟨a', n', l'⟩ := y
    simp only [At.pl, List.cons.injEq] at h h'
    rw [toList_inj h, h'.1, h'.2])
  have e : At.cmp = fun x y => if M.sgL x.name.toList y.name.toList ≠ 0 then M.sgL x.name.toList y.name.toList else cmpLL x.pl y.pl := by
    funext x y
    unfold At.cmp
    simp only [ne_eq, M.sgL_zero]
    by_cases hn : x.name.toList = y.name.toList
    · simp only [hn, not_true_eq_false, if_false]
      by_cases hl : x.args.length = y.args.length
      · rw [if_neg (by simpa using hl), cmpLL_eq _ _ (by rw [pl_len, pl_len, hl])]
      · rw [if_pos hl, cmpLL_ne _ _ (by rw [pl_len, pl_len]; omega), pl_len, pl_len]
        have e1 : ((x.args.length : Int) < y.args.length) = (((x.args.length + 1 : Nat) : Int) < ((y.args.length + 1 : Nat) : Int)) := propext (by omega)
        have e2 : ((y.args.length : Int) < x.args.length) = (((y.args.length + 1 : Nat) : Int) < ((x.args.length + 1 : Nat) : Int)) := propext (by omega)
        unfold M.sgI
        simp only [e1, e2]
    · simp only [hn, not_false_eq_true, if_true]
  rw [e]; exact h
end Go.Proofs.YtechceagghcipabGreatDoor
namespace Go.Proofs.YtechceagghcipabGreatDoor
open Go.ChangeShapes Go.WideShapes Go.ChangeAt Go.RowKit Go.Joins
open Go.ChangeMaps (open_string shut_string)
theorem Tryz.own : ownKnob Tryz.prog.godebug = none := by kernel_rfl
theorem Tryz.laidOut : laidOutB Tryz.prog = true := by kernel_rfl
theorem Tryz.cellsTerm : Tryz.prog.cellsOf 30 = 3 := by kernel_rfl
end Go.Proofs.YtechceagghcipabGreatDoor
namespace Go.Proofs.YtechceagghcipabGreatDoor
open Go.RowKit
structure Pd where
 nm : ByteArray
 ar : Int
theorem Pd.ext' {p q : Pd} (h1 : p.nm = q.nm) (h2 : p.ar = q.ar) : p = q := by cases p; cases q; cases h1; cases h2; rfl
abbrev Pd.v (p : Pd) : Value := .agg #[.string p.nm, .int .i64 p.ar]
def cmpP (p q : Pd) : Int := if M.sgL p.nm.toList q.nm.toList ≠ 0 then M.sgL p.nm.toList q.nm.toList else M.sgI p.ar q.ar
structure KeyT (t : Tm) : Prop where
 k : (Lit.int .i64 t.k).wf = true
 n : (Lit.int .i64 t.n).wf = true
 s : t.s.size <= maxLen
structure KeyP (p : Pd) : Prop where
 n : p.nm.size <= maxLen
 a : (Lit.int .i64 p.ar).wf = true
def kT (t : Tm) : Lit := .string (keyBytes [.int .i64 t.k, .int .i64 t.n, .string t.s.data.toList])
def kP (p : Pd) : Lit := .string (keyBytes [.string p.nm.data.toList, .int .i64 p.ar])
theorem Tryz.rowTerm : (30 : TypeId) < Tryz.prog.types.size := of_decide_eq_true (by kernel_rfl)
theorem Tryz.wideTerm : (match Tryz.prog.underlying 30 with | some (.array _ _) | some (.struct _) => true | _ => false) = true := by kernel_rfl
theorem Tryz.keyTypeTerm : Tryz.prog.keyType 30 = true := by kernel_rfl
set_option maxRecDepth 100000 in
theorem Tryz.lawTerm : Maps.Keyed Tryz.prog 30 := Maps.Keyed.of_law (deep_law_laid Tryz.laidOut (m := 2) (by omega) Tryz.rowTerm (by kernel_rfl) Tryz.wideTerm)
theorem Tryz.rowPred : (72 : TypeId) < Tryz.prog.types.size := of_decide_eq_true (by kernel_rfl)
theorem Tryz.widePred : (match Tryz.prog.underlying 72 with | some (.array _ _) | some (.struct _) => true | _ => false) = true := by kernel_rfl
theorem Tryz.keyTypePred : Tryz.prog.keyType 72 = true := by kernel_rfl
set_option maxRecDepth 100000 in
theorem Tryz.lawPred : Maps.Keyed Tryz.prog 72 := Maps.Keyed.of_law (deep_law_laid Tryz.laidOut (m := 2) (by omega) Tryz.rowPred (by kernel_rfl) Tryz.widePred)
theorem Tryz.cellsOfTerm : Tryz.prog.cellsOf 30 = 3 := by kernel_rfl
theorem Tryz.cellsOfPred : Tryz.prog.cellsOf 72 = 2 := by kernel_rfl
theorem Tryz.cellsOfInt : Tryz.prog.cellsOf 3 = 1 := by kernel_rfl
theorem Tryz.cellsOfString : Tryz.prog.cellsOf 9 = 1 := by kernel_rfl
theorem lits_int {d : Nat} (c : Value) : Tryz.prog.keyLits (d + 1) 3 [c] = match c with | .int .i64 n => if (Lit.int .i64 n).wf = true then some [Lit.int .i64 n] else none | _ => none := by
 unfold Program.keyLits
 rw [Tryz.underlying3]
 cases c with
 | int q n => 
  by_cases h : q = .i64
  ·subst h; simp
  ·cases q <;> first | (exact absurd rfl h) | simp
 | _ => rfl
theorem lits_string {d : Nat} (c : Value) : Tryz.prog.keyLits (d + 1) 9 [c] = match c with | .string s => if s.size <= maxLen then some [Lit.string s.data.toList] else none | _ => none := by
 unfold Program.keyLits
 rw [Tryz.underlying9]
 cases c <;> rfl
theorem pos_succ {n k : Nat} (h : k < n) : ∃ d, n = d + 1 := ⟨n - 1, by omega⟩
theorem types_pos : ∃ d, Tryz.prog.types.size = d + 1 := pos_succ Tryz.rowTerm
theorem lits_term (c0 c1 c2 : Value) (d : Nat) : Tryz.prog.keyLits (d + 1 + 1) 30 [c0, c1, c2] = (Tryz.prog.keyLits (d + 1) 3 [c0]).bind fun x => (Tryz.prog.keyLits (d + 1) 3 [c1]).bind fun y => (Tryz.prog.keyLits (d + 1) 9 [c2]).bind fun z => some (x ++ (y ++ z)) := by
 have hc := Tryz.cellsOfTerm
 have hi := Tryz.cellsOfInt
 have hs := Tryz.cellsOfString
 conv => lhs; unfold Program.keyLits
 rw [Tryz.underlying30]
 generalize Tryz.prog.keyLits (d + 1) = F at *
 simp [hc, hi, hs, List.mapM_cons, List.mapM_nil]
 cases F 3 [c0] <;> cases F 3 [c1] <;> cases F 9 [c2] <;> simp
theorem lits_pred (c0 c1 : Value) (d : Nat) : Tryz.prog.keyLits (d + 1 + 1) 72 [c0, c1] = (Tryz.prog.keyLits (d + 1) 9 [c0]).bind fun x => (Tryz.prog.keyLits (d + 1) 3 [c1]).bind fun y => some (x ++ y) := by
 have hc := Tryz.cellsOfPred
 have hi := Tryz.cellsOfInt
 have hs := Tryz.cellsOfString
 conv => lhs; unfold Program.keyLits
 rw [Tryz.underlying72]
 generalize Tryz.prog.keyLits (d + 1) = F at *
 simp [hc, hi, hs, List.mapM_cons, List.mapM_nil]
 cases F 9 [c0] <;> cases F 3 [c1] <;> simp
theorem keyOf_term_eq (v : Value) : keyOf Tryz.prog 30 v = if v.formed Tryz.prog 30 = true then (Tryz.prog.keyLits (Tryz.prog.types.size + 1) 30 v.cells.toList).map (fun ls => Lit.string (keyBytes ls)) else none := by
 unfold keyOf
 rw [Tryz.underlying30, Tryz.keyTypeTerm]
 simp only [Bool.true_and]
theorem keyOf_pred_eq (v : Value) : keyOf Tryz.prog 72 v = if v.formed Tryz.prog 72 = true then (Tryz.prog.keyLits (Tryz.prog.types.size + 1) 72 v.cells.toList).map (fun ls => Lit.string (keyBytes ls)) else none := by
 unfold keyOf
 rw [Tryz.underlying72, Tryz.keyTypePred]
 simp only [Bool.true_and]
set_option maxRecDepth 100000 in
theorem formed_term (v : Value) : v.formed Tryz.prog 30 = true ↔ ∃ c0 c1 c2, v = .agg #[c0, c1, c2] := by
 constructor
 ·intro h
  cases v with
  | agg cs =>
   have hs : cs.size = 3 := by simpa [Value.formed, Tryz.underlying30, Tryz.cellsOfTerm] using h
   obtain ⟨l⟩ := cs
   match l, hs with
   | [a, b, c], _ => exact ⟨a, b, c, rfl⟩
  | _ => simp [Value.formed, Tryz.underlying30] at h
 ·rintro ⟨c0, c1, c2, rfl⟩
  simp [Value.formed, Tryz.underlying30, Tryz.cellsOfTerm]
set_option maxRecDepth 100000 in
theorem formed_pred (v : Value) : v.formed Tryz.prog 72 = true ↔ ∃ c0 c1, v = .agg #[c0, c1] := by
 constructor
 ·intro h
  cases v with
  | agg cs =>
   have hs : cs.size = 2 := by simpa [Value.formed, Tryz.underlying72, Tryz.cellsOfPred] using h
   obtain ⟨l⟩ := cs
   match l, hs with
   | [a, b], _ => exact ⟨a, b, rfl⟩
  | _ => simp [Value.formed, Tryz.underlying72] at h
 ·rintro ⟨c0, c1, rfl⟩
  simp [Value.formed, Tryz.underlying72, Tryz.cellsOfPred]
theorem keyOf_tm {t : Tm} (h : KeyT t) : keyOf Tryz.prog 30 t.v = some (kT t) := by
 obtain ⟨d, hd⟩ := types_pos
 rw [keyOf_term_eq, if_pos ((formed_term _).2 ⟨_, _, _, rfl⟩), hd]
 show Option.map _ (Tryz.prog.keyLits (d + 1 + 1) 30 [_, _, _]) = _
 rw [lits_term, lits_int, lits_int, lits_string]
 simp [h.k, h.n, h.s, kT]
theorem keyOf_pd {p : Pd} (h : KeyP p) : keyOf Tryz.prog 72 p.v = some (kP p) := by
 obtain ⟨d, hd⟩ := types_pos
 rw [keyOf_pred_eq, if_pos ((formed_pred _).2 ⟨_, _, rfl⟩), hd]
 show Option.map _ (Tryz.prog.keyLits (d + 1 + 1) 72 [_, _]) = _
 rw [lits_pred, lits_int, lits_string]
 simp [h.n, h.a, kP]
theorem keyOf_tm_inv {v : Value} {kl : Lit} (h : keyOf Tryz.prog 30 v = some kl) : ∃ t : Tm, v = t.v /\ kl = kT t /\ KeyT t := by
 obtain ⟨d, hd⟩ := types_pos
 rw [keyOf_term_eq] at h
 by_cases hf : v.formed Tryz.prog 30 = true
 ·rw [if_pos hf, hd] at h
  obtain ⟨c0, c1, c2, rfl⟩ := (formed_term _).1 hf
  replace h : Option.map (fun ls => Lit.string (keyBytes ls)) (Tryz.prog.keyLits (d + 1 + 1) 30 [c0, c1, c2]) = some kl := h
  rw [lits_term, lits_int, lits_int, lits_string] at h
  cases c0 with
  | int q0 n0 => 
   cases c1 with
   | int q1 n1 =>
    cases c2 with
    | string s =>
     cases q0 <;> try (simp at h; done)
     cases q1 <;> try (simp at h; done)
     by_cases h0 : (Lit.int .i64 n0).wf = true
     ·by_cases h1 : (Lit.int .i64 n1).wf = true
      ·by_cases h2 : s.size <= maxLen
       ·simp only [h0, h1, h2, if_true, Option.bind_some, Option.map_some, Option.some.injEq] at h
        exact ⟨⟨n0, n1, s⟩, rfl, h.symm, ⟨h0, h1, h2⟩⟩
       ·simp [h0, h1, h2] at h
      ·simp [h0, h1] at h
     ·simp [h0] at h
    | _ => simp at h
   | _ => simp at h
  | _ => simp at h
 ·rw [if_neg hf] at h; cases h
theorem keyOf_pd_inv {v : Value} {kl : Lit} (h : keyOf Tryz.prog 72 v = some kl) : ∃ p : Pd, v = p.v /\ kl = kP p /\ KeyP p := by
 obtain ⟨d, hd⟩ := types_pos
 rw [keyOf_pred_eq] at h
 by_cases hf : v.formed Tryz.prog 72 = true
 ·rw [if_pos hf, hd] at h
  obtain ⟨c0, c1, rfl⟩ := (formed_pred _).1 hf
  replace h : Option.map (fun ls => Lit.string (keyBytes ls)) (Tryz.prog.keyLits (d + 1 + 1) 72 [c0, c1]) = some kl := h
  rw [lits_pred, lits_int, lits_string] at h
  cases c0 with
  | string s =>
   cases c1 with
   | int q1 n1 =>
    cases q1 <;> try (simp at h; done)
    by_cases h0 : s.size <= maxLen
    ·by_cases h1 : (Lit.int .i64 n1).wf = true
     ·simp only [h0, h1, if_true, Option.bind_some, Option.map_some, Option.some.injEq] at h
      exact ⟨⟨s, n1⟩, rfl, h.symm, ⟨h0, h1⟩⟩
     ·simp [h0, h1] at h
    ·simp [h0] at h
   | _ => simp at h
  | _ => simp at h
 ·rw [if_neg hf] at h; cases h
theorem kT_inj {t u : Tm} (ht : KeyT t) (hu : KeyT u) (h : kT t = kT u) : t = u := by
 have := Tryz.lawTerm.inj (keyOf_tm ht) (h ▸ keyOf_tm hu)
 cases t; cases u
 simpa [Tm.v] using this
theorem kP_inj {t u : Pd} (ht : KeyP t) (hu : KeyP u) (h : kP t = kP u) : t = u := by
 have := Tryz.lawPred.inj (keyOf_pd ht) (h ▸ keyOf_pd hu)
 cases t; cases u
 simpa [Pd.v] using this
theorem ord_pd : Ord3 cmpP := by
 have h := Ord3.lex (γ := Pd) ord_sgL ord_sgI (fun p => p.nm.toList) (fun p => p.ar) (fun x y h h' => Pd.ext' (ByteArray.ext (Array.toList_inj.1 (by simpa [ByteArray.toList_eq] using h))) h')
 exact h
end Go.Proofs.YtechceagghcipabGreatDoor
namespace Go.Proofs.YtechceagghcipabGreatDoor
open Go.RowKit
structure Ky (P : Program) (k : TypeId) (κ : Type) where
 v : κ -> Value
 l : κ -> Lit
 ok : κ -> Prop
 kd : Maps.Keyed P k
 of : ∀ x, ok x -> keyOf P k (v x) = some (l x)
 inv : ∀ u kl, keyOf P k u = some kl -> ∃ x, u = v x /\ kl = l x /\ ok x
 inj : ∀ x y, ok x -> ok y -> l x = l y -> x = y
 key : ∀ x, WideAt.IsKeyLit (l x)
def kyT : Ky Tryz.prog 30 Tm := ⟨fun t => t.v, kT, KeyT, Tryz.lawTerm, fun _ h => keyOf_tm h, fun _ _ h => keyOf_tm_inv h, fun _ _ h1 h2 h => kT_inj h1 h2 h, fun _ => trivial⟩
def kyP : Ky Tryz.prog 72 Pd := ⟨fun t => t.v, kP, KeyP, Tryz.lawPred, fun _ h => keyOf_pd h, fun _ _ h => keyOf_pd_inv h, fun _ _ h1 h2 h => kP_inj h1 h2 h, fun _ => trivial⟩
structure Mq {P : Program} {k : TypeId} {κ : Type} (K : Ky P k κ) (w : World) (b n : Nat) (f : κ -> Option Value) : Prop where
 ex : ∃ D : DataW Value, w.ownsMap P k rawE b n D /\ Maps.Tidy D /\ Maps.size D = n /\ ∀ x, K.ok x -> Maps.has D (K.l x) = (f x).isSome /\ ∀ v, f x = some v -> ∀ z, D.atKey (K.l x) z = .held v
section
variable {P : Program} {k : TypeId} {κ : Type} {K : Ky P k κ} {w w' : World} {b n : Nat} {f : κ -> Option Value}
theorem Mq.lt (h : Mq K w b n f) : b < w.heap.size := by
 obtain ⟨D, h1, -⟩ := h.ex
 exact h1.lt
theorem Mq.made (K : Ky P k κ) (w : World) : Mq K (w.alloc (.map #[] 0)) w.heap.size 0 fun _ => none :=
 ⟨.map [], World.ownsMap_made w P k rawE, Maps.tidy_empty, rfl, fun _ _ => ⟨rfl, fun v hv => by cases hv⟩⟩
theorem Mq.same (h : Mq K w b n f) (hb : w'.heap[b]? = w.heap[b]?) : Mq K w' b n f := by
 obtain ⟨D, ⟨es, clock, h1, r⟩, h2⟩ := h.ex
 exact ⟨D, ⟨es, clock, hb.trans h1, r⟩, h2⟩
theorem Mq.fr {Q : Nat -> Prop} (h : Mq K w b n f) (hf : Fr Q w w') (hn : ¬ Q b) : Mq K w' b n f := h.same (hf.block b h.lt hn)
theorem Mq.at0 {T E : TypeId} (h : Mq K w b n f) (hT : P.underlying T = some (.map k E)) {z : Value} (hz : (zeroValue E).run P w = .ok z w) {x : κ} (hx : K.ok x) :
  (Instr.lookup T (.map (some b)) (K.v x) true).run P w = .ok (.tuple #[(f x).getD z, .bool (f x).isSome]) w /\ (Instr.lookup T (.map (some b)) (K.v x) false).run P w = .ok ((f x).getD z) w := by
 obtain ⟨D, h1, h2, h3, h4⟩ := h.ex
 have h5 := h4 x hx
 have key : ∀ v : Value, DataW.held v = D.atKey (K.l x) (.held z) -> v = (f x).getD z := fun v e => by
  cases hf : f x with
  | some u => rw [h5.2 u hf] at e; injection e
  | none =>
   have hh := h5.1
   rw [hf] at hh
   rw [Maps.atKey_of_not_has hh] at e
   injection e
 constructor
 ·obtain ⟨v, ps, hr, hv⟩ := h1.look_ok K.kd hT hz (show rawE z = some (.held z, []) from rfl) (key := K.v x) (kl := K.l x) (K.of x hx)
  rw [hr, h5.1, key v (by have := congrArg (Option.map Prod.fst) hv; simpa [rawE] using this)]
 ·obtain ⟨v, ps, hr, hv⟩ := h1.lookup K.kd hT hz (show rawE z = some (.held z, []) from rfl) (key := K.v x) (kl := K.l x) (K.of x hx)
  rw [hr, key v (by have := congrArg (Option.map Prod.fst) hv; simpa [rawE] using this)]
open Classical in
noncomputable def qput (f : κ -> Option Value) (s : κ) (v : Value) : κ -> Option Value := fun x => if x = s then some v else f x
theorem qput_same (f : κ -> Option Value) (s : κ) (v : Value) : qput f s v s = some v := if_pos rfl
theorem qput_other (f : κ -> Option Value) {s x : κ} (v : Value) (h : x ≠ s) : qput f s v x = f x := if_neg h
theorem Mq.store {T E : TypeId} (h : Mq K w b n f) (hT : P.underlying T = some (.map k E)) (hn : n < maxLen) {s : κ} (hs : K.ok s) (v : Value) :
  ∃ w', (Instr.mapUpdate T (.map (some b)) (K.v s) v).run P w = .ok () w' /\ Mq K w' b (if (f s).isSome then n else n + 1) (qput f s v) /\ w.grownBy w' (some b) := by
 obtain ⟨D, h1, h2, h3, h4⟩ := h.ex
 obtain ⟨w', hr, ho, ht⟩ := h1.store K.kd hT hn (key := K.v s) (kl := K.l s) (K.of s hs) (show rawE v = some (.held v, []) from rfl)
 have hsz : Maps.size (D.put (K.l s) (.held v)) = if (f s).isSome then n else n + 1 := by rw [Maps.size_put h2, (h4 s hs).1, h3]
 have ho' := owns_tight ho
 rw [hsz] at ho'
 refine ⟨w', hr, ⟨_, ho', h2.put (K.key s) _, hsz, fun x hx => ?_⟩, ht.grown⟩
 by_cases e : x = s
 ·subst e
  refine ⟨by rw [Maps.has_put_same h2.isMap (K.key _), qput_same]; rfl, fun u hu z => ?_⟩
  rw [qput_same] at hu
  cases hu
  exact Maps.atKey_put_same h2.isMap (K.key _) _ _
 ·have hne : K.l x ≠ K.l s := fun h => e (K.inj x s hx hs h)
  rw [qput_other _ _ e]
  refine ⟨by rw [Maps.has_put_other hne]; exact (h4 x hx).1, fun u hu z => ?_⟩
  rw [Maps.atKey_put_other hne]
  exact (h4 x hx).2 u hu z
end
end Go.Proofs.YtechceagghcipabGreatDoor
namespace Go.Proofs.YtechceagghcipabGreatDoor
open Go.RowKit
attribute [local go_sem ↓] Go.wp_at_zero Go.wp_at_succ
theorem Tryz.infoTerm : (Tryz.prog.info? 30).map (fun i => (i.zero, i.size, i.bytes)) = some (some (.agg #[.int .i64 0, .int .i64 0, .string ⟨#[]⟩]), 3, 32) := by kernel_rfl
def MC (n : Nat) : Array Value := madeCells #[.int .i64 0, .int .i64 0, .string ⟨#[]⟩] (n * 3)
theorem mk_terms (n : Nat) (hn : n <= 4398046511104) (w : World) : (Instr.makeSlice 31 (.int .i64 (n : Int)) (.int .i64 (n : Int))).run Tryz.prog w = .ok (.slice (some ⟨w.heap.size, 0, none⟩) n n) (w.alloc (.cells (MC n) 30)) := by
 obtain ⟨i, hi, h0, h1, h2⟩ := info_parts Tryz.infoTerm
 have h := run_make (P := Tryz.prog) w 31 30 i _ Tryz.underlying31 hi h0 .i64 .i64 n n (by omega) (Int.le_refl _) (by rw [h2]; omega) (by omega)
 rw [h1, Int.toNat_natCast] at h
 exact h
theorem fiveF {w : World} {g : Nat} {a b c d f : Value} {t : TypeId} (h : w.heap[g]? = some (.cells #[a, b, c, d, f] t (0, 0))) :
  (w.cell? ⟨g, 0, none⟩ = some a /\ w.cell? ⟨g, 1, none⟩ = some b /\ w.cell? ⟨g, 2, none⟩ = some c /\ w.cell? ⟨g, 3, none⟩ = some d /\ w.cell? ⟨g, 4, none⟩ = some f) ∧
  w.frozen? ⟨g, 0, none⟩ = false /\ w.frozen? ⟨g, 1, none⟩ = false /\ w.frozen? ⟨g, 2, none⟩ = false /\ w.frozen? ⟨g, 3, none⟩ = false /\ w.frozen? ⟨g, 4, none⟩ = false :=
 ⟨five h, frozen_of_row _ _ _ _ _ h, frozen_of_row _ _ _ _ _ h, frozen_of_row _ _ _ _ _ h, frozen_of_row _ _ _ _ _ h, frozen_of_row _ _ _ _ _ h⟩
theorem store5 {W : World} {G : Nat} {a b c d e a' b' c' d' e' : Value} {t : TypeId} (h : W.heap[G]? = some (.cells #[a, b, c, d, e] t (0, 0))) :
  (((((W.setCell ⟨G, 0, none⟩ a').setCell ⟨G, 1, none⟩ b').setCell ⟨G, 2, none⟩ c').setCell ⟨G, 3, none⟩ d').setCell ⟨G, 4, none⟩ e').heap[G]? = some (.cells #[a', b', c', d', e'] t (0, 0)) := by
 have h1 := heap_setCell_same _ _ 0 _ _ a' h
 have h2 := heap_setCell_same _ _ 1 _ _ b' h1
 have h3 := heap_setCell_same _ _ 2 _ _ c' h2
 have h4 := heap_setCell_same _ _ 3 _ _ d' h3
 exact heap_setCell_same _ _ 4 _ _ e' h4
theorem store5_other {W : World} {G k : Nat} {o : Obj} (a' b' c' d' e' : Value) (hk : k ≠ G) (h : W.heap[k]? = some o) :
  (((((W.setCell ⟨G, 0, none⟩ a').setCell ⟨G, 1, none⟩ b').setCell ⟨G, 2, none⟩ c').setCell ⟨G, 3, none⟩ d').setCell ⟨G, 4, none⟩ e').heap[k]? = some o := by
 rw [heap_setCell_other _ _ _ _ hk, heap_setCell_other _ _ _ _ hk, heap_setCell_other _ _ _ _ hk, heap_setCell_other _ _ _ _ hk, heap_setCell_other _ _ _ _ hk]; exact h
def TBlk (w : World) (g : Nat) (l : List Tm) (k : Nat) : Prop := ∃ C : Array Value, w.heap[g]? = some (.cells C 30 (0, 0)) /\ C.size = l.length * 3 ∧
 ∀ i t, i < k -> l[i]? = some t -> C[i * 3]? = some (.int .i64 t.k) /\ C[i * 3 + 1]? = some (.int .i64 t.n) /\ C[i * 3 + 2]? = some (.string t.s)
theorem TBlk.start {w : World} {g : Nat} {l : List Tm} {n : Nat} (hn : n = l.length) (h : w.heap[g]? = some (.cells (MC n) 30 (0, 0))) : TBlk w g l 0 :=
 ⟨_, h, by rw [MC, size_madeCells, hn], fun i t hi => absurd hi (Nat.not_lt_zero _)⟩
theorem TBlk.later {w w' : World} {g : Nat} {l : List Tm} {k : Nat} (h : TBlk w g l k) (hb : Below w.heap.size w w') : TBlk w' g l k := by
 obtain ⟨C, h1, h2⟩ := h
 exact ⟨C, (hb.block _ (Array.getElem?_eq_some_iff.1 h1).1).trans h1, h2⟩
theorem TBlk.other {w : World} {g G i : Nat} {a : Value} {l : List Tm} {k : Nat} (h : TBlk w g l k) (hk : g ≠ G) : TBlk (w.setCell ⟨G, i, none⟩ a) g l k := by
 obtain ⟨C, h1, h2⟩ := h
 exact ⟨C, by rw [heap_setCell_other _ _ _ _ hk]; exact h1, h2⟩
theorem TBlk.cells {w : World} {g : Nat} {l : List Tm} {k j : Nat} (h : TBlk w g l k) (hj : j < l.length * 3) : (∃ c, w.cell? ⟨g, j, none⟩ = some c) /\ w.frozen? ⟨g, j, none⟩ = false := by
 obtain ⟨C, h1, h2, -⟩ := h
 refine ⟨⟨C[j], ?_⟩, frozen_of_row _ _ _ _ _ h1⟩
 rw [cell_of_row _ _ _ _ _ _ h1]; simp
theorem TBlk.put {w : World} {g : Nat} {l : List Tm} {k : Nat} {t : Tm} (h : TBlk w g l k) (ht : l[k]? = some t) :
  TBlk (((w.setCell ⟨g, k * 3, none⟩ (.int .i64 t.k)).setCell ⟨g, k * 3 + 1, none⟩ (.int .i64 t.n)).setCell ⟨g, k * 3 + 2, none⟩ (.string t.s)) g l (k + 1) := by
 obtain ⟨C, h1, h2, h3⟩ := h
 have hk := (List.getElem?_eq_some_iff.1 ht).1
 have e1 := heap_setCell_same _ _ (k * 3) _ _ (.int .i64 t.k) h1
 have e2 := heap_setCell_same _ _ (k * 3 + 1) _ _ (.int .i64 t.n) e1
 have e3 := heap_setCell_same _ _ (k * 3 + 2) _ _ (.string t.s) e2
 refine ⟨_, e3, by simp [h2], fun i u hi hu => ?_⟩
 by_cases hik : i = k
 ·subst hik
  rw [ht] at hu
  obtain rfl := Option.some.inj hu
  refine ⟨?_, ?_, ?_⟩ <;> simp [Array.getElem?_setIfInBounds, h2] <;> omega
 ·obtain ⟨a, b, c⟩ := h3 i u (by omega) hu
  refine ⟨?_, ?_, ?_⟩
  ·rw [Array.getElem?_setIfInBounds_ne (by omega), Array.getElem?_setIfInBounds_ne (by omega), Array.getElem?_setIfInBounds_ne (by omega)]; exact a
  ·rw [Array.getElem?_setIfInBounds_ne (by omega), Array.getElem?_setIfInBounds_ne (by omega), Array.getElem?_setIfInBounds_ne (by omega)]; exact b
  ·rw [Array.getElem?_setIfInBounds_ne (by omega), Array.getElem?_setIfInBounds_ne (by omega), Array.getElem?_setIfInBounds_ne (by omega)]; exact c
theorem TBlk.ts {w : World} {g : Nat} {l : List Tm} {n cap : Nat} (hn : n = l.length) (hl : n <= 4398046511104) (h : TBlk w g l n) : Ts w (.slice (some ⟨g, 0, none⟩) n cap) l := by
 subst hn
 obtain ⟨C, h1, h2, h3⟩ := h
 refine ⟨_, cap, rfl, by omega, Or.inr ⟨g, 0, rfl, (Array.getElem?_eq_some_iff.1 h1).1, fun i t ht => ?_⟩⟩
 obtain ⟨a, b, c⟩ := h3 i t (List.getElem?_eq_some_iff.1 ht).1 ht
 rw [cell_of_row _ _ _ _ _ _ h1, cell_of_row _ _ _ _ _ _ h1, cell_of_row _ _ _ _ _ _ h1]
 simp only [Nat.zero_add]
 exact ⟨a, b, c⟩
theorem BoxB.later2 {w W W' : World} {c d : Array Value} {t t' : TypeId} (h : BoxB w W c d t t') (hb : Below (w.heap.size + 2) W W') : BoxB w W' c d t t' :=
 ⟨(hb.block _ (by omega)).trans h.1, (hb.block _ (by omega)).trans h.2.1, h.2.2.trans (hb.mono (by omega))⟩
theorem bset3 {B : Nat} {W V : World} {G i j m : Nat} {a b c : Value} (h : Below B W V) (hg : B <= G) : Below B W (((V.setCell ⟨G, i, none⟩ a).setCell ⟨G, j, none⟩ b).setCell ⟨G, m, none⟩ c) :=
 ((h.setCell (p := ⟨G, i, none⟩) hg _).setCell (p := ⟨G, j, none⟩) hg _).setCell (p := ⟨G, m, none⟩) hg _
end Go.Proofs.YtechceagghcipabGreatDoor

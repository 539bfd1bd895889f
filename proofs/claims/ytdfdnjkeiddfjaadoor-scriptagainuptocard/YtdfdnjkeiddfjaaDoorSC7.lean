import Derived.Test.YtdfdnjkeiddfjaaDoorSM3
import Derived.Test.YtdfdnjkeiddfjaaDoorSC6
import Derived.Maps.AppendAt
import Derived.Laws.OwnMore
import Derived.Laws.AppendOwnNone
/-
  script (stage 25): the program's parts of a line, made.
-/
namespace Go.Proofs.YtdfdnjkeiddfjaaDoor
open Go.RowKit
attribute [local go_sem ↓] Go.wp_at_zero Go.wp_at_succ
attribute [local go_sem] run_store_funcA

set_option maxRecDepth 20000 in
set_option maxHeartbeats 4000000 in
theorem partsA_any (w : World) : Calls Tryd.prog 33 #[] w fun e w' => ∃ b f, e = .returned (.map (some b)) ∧ PsA w' w.heap.size b 7 f ∧ (∀ p : Int, (f p).isSome = true ↔ 1 ≤ p ∧ p ≤ 7) ∧ Below w.heap.size w w' := by
  have hmm := @run_makeMap Tryd.prog
  have HN1 : Hid (∀ X, Calls Tryd.prog 48 #[.func (.func 49) #[] #[]] X fun e w' => ∃ v, e = .returned v ∧ PtA w' 1 v ∧ Below X.heap.size X w') := fun X => (namedA_any 49 X).mono fun e w' ⟨h1, h2, h3⟩ => ⟨_, h1, Or.inr (Or.inr (Or.inl ⟨X.heap.size, rfl, Or.inl ⟨rfl, h2⟩⟩)), h3⟩
  have HN2 : Hid (∀ X, Calls Tryd.prog 48 #[.func (.func 50) #[] #[]] X fun e w' => ∃ v, e = .returned v ∧ PtA w' 2 v ∧ Below X.heap.size X w') := fun X => (namedA_any 50 X).mono fun e w' ⟨h1, h2, h3⟩ => ⟨_, h1, Or.inr (Or.inr (Or.inl ⟨X.heap.size, rfl, Or.inr ⟨rfl, h2⟩⟩)), h3⟩
  have HN5 : Hid (∀ X, Calls Tryd.prog 57 #[.func (.func 58) #[] #[]] X fun e w' => ∃ v, e = .returned v ∧ PtA w' 5 v ∧ Below X.heap.size X w') := fun X => (numberedA_any 58 X).mono fun e w' ⟨h1, h2, h3⟩ => ⟨_, h1, Or.inr (Or.inr (Or.inr ⟨X.heap.size, rfl, Or.inl ⟨rfl, h2⟩⟩)), h3⟩
  have HN6 : Hid (∀ X, Calls Tryd.prog 57 #[.func (.func 59) #[] #[]] X fun e w' => ∃ v, e = .returned v ∧ PtA w' 6 v ∧ Below X.heap.size X w') := fun X => (numberedA_any 59 X).mono fun e w' ⟨h1, h2, h3⟩ => ⟨_, h1, Or.inr (Or.inr (Or.inr ⟨X.heap.size, rfl, Or.inr (Or.inl ⟨rfl, h2⟩)⟩)), h3⟩
  have HN7 : Hid (∀ X, Calls Tryd.prog 57 #[.func (.func 60) #[] #[]] X fun e w' => ∃ v, e = .returned v ∧ PtA w' 7 v ∧ Below X.heap.size X w') := fun X => (numberedA_any 60 X).mono fun e w' ⟨h1, h2, h3⟩ => ⟨_, h1, Or.inr (Or.inr (Or.inr ⟨X.heap.size, rfl, Or.inr (Or.inr ⟨rfl, h2⟩)⟩)), h3⟩
  have HP0 : Hid (PsA (w.alloc (.map #[] 0)) w.heap.size w.heap.size 0 fun _ => none) := ⟨MqI.made _ _ w, (fun x v e => by cases e), Nat.le_refl _⟩
  have HB0 : Hid (Below w.heap.size w (w.alloc (.map #[] 0))) := below1K w _
  go_enter Tryd.func33, Tryd.ntmps33
  go_wp2_with (first
    | (go_at_call 48; refine (HN1.out _).mono ?_; clear HN1; rintro e w1 ⟨v1, rfl, hv1, hb1⟩; obtain ⟨V1, hr1, hp1, hq1⟩ := (HP0.out.later hb1).store (s := 1) (v := v1) (by omega) (by unfold wfI; decide) (by first | rfl | simp [iput]) hv1 (HB0.out.trans (hb1.mono HB0.out.size)).size; have HP1 := hm7 hp1; have HB1 := hm7 ((HB0.out.trans (hb1.mono HB0.out.size)).trans hq1); clear hp1 hq1; clear hv1 hb1)
    | (go_at_call 48; refine (HN2.out _).mono ?_; clear HN2; rintro e w2 ⟨v2, rfl, hv2, hb2⟩; obtain ⟨V2, hr2, hp2, hq2⟩ := (HP1.out.later hb2).store (s := 2) (v := v2) (by omega) (by unfold wfI; decide) (by first | rfl | simp [iput]) hv2 (HB1.out.trans (hb2.mono HB1.out.size)).size; have HP2 := hm7 hp2; have HB2 := hm7 ((HB1.out.trans (hb2.mono HB1.out.size)).trans hq2); clear hp2 hq2; clear hv2 hb2; obtain ⟨V3, hr3, hp3, hq3⟩ := (HP2.out).store (s := 3) (v := txA) (by omega) (by unfold wfI; decide) (by first | rfl | simp [iput]) (Or.inl ⟨rfl, rfl⟩) (HB2.out).size; have HP3 := hm7 hp3; have HB3 := hm7 ((HB2.out).trans hq3); clear hp3 hq3; simp only [txA] at hr3; obtain ⟨V4, hr4, hp4, hq4⟩ := (HP3.out).store (s := 4) (v := byA) (by omega) (by unfold wfI; decide) (by first | rfl | simp [iput]) (Or.inr (Or.inl ⟨rfl, rfl⟩)) (HB3.out).size; have HP4 := hm7 hp4; have HB4 := hm7 ((HB3.out).trans hq4); clear hp4 hq4; simp only [byA] at hr4)
    | (go_at_call 57; refine (HN5.out _).mono ?_; clear HN5; rintro e w5 ⟨v5, rfl, hv5, hb5⟩; obtain ⟨V5, hr5, hp5, hq5⟩ := (HP4.out.later hb5).store (s := 5) (v := v5) (by omega) (by unfold wfI; decide) (by first | rfl | simp [iput]) hv5 (HB4.out.trans (hb5.mono HB4.out.size)).size; have HP5 := hm7 hp5; have HB5 := hm7 ((HB4.out.trans (hb5.mono HB4.out.size)).trans hq5); clear hp5 hq5; clear hv5 hb5)
    | (go_at_call 57; refine (HN6.out _).mono ?_; clear HN6; rintro e w6 ⟨v6, rfl, hv6, hb6⟩; obtain ⟨V6, hr6, hp6, hq6⟩ := (HP5.out.later hb6).store (s := 6) (v := v6) (by omega) (by unfold wfI; decide) (by first | rfl | simp [iput]) hv6 (HB5.out.trans (hb6.mono HB5.out.size)).size; have HP6 := hm7 hp6; have HB6 := hm7 ((HB5.out.trans (hb6.mono HB5.out.size)).trans hq6); clear hp6 hq6; clear hv6 hb6)
    | (go_at_call 57; refine (HN7.out _).mono ?_; clear HN7; rintro e w7 ⟨v7, rfl, hv7, hb7⟩; obtain ⟨V7, hr7, hp7, hq7⟩ := (HP6.out.later hb7).store (s := 7) (v := v7) (by omega) (by unfold wfI; decide) (by first | rfl | simp [iput]) hv7 (HB6.out.trans (hb7.mono HB6.out.size)).size; have HP7 := hm7 hp7; have HB7 := hm7 ((HB6.out.trans (hb7.mono HB6.out.size)).trans hq7); clear hp7 hq7; clear hv7 hb7))
  go_ret
  refine ⟨_, _, rfl, HP7.out, fun p => ?_, HB7.out⟩
  unfold iput
  constructor
  · intro h
    by_cases h7 : p = 7 <;> by_cases h6 : p = 6 <;> by_cases h5 : p = 5 <;> by_cases h4 : p = 4 <;> by_cases h3 : p = 3 <;> by_cases h2 : p = 2 <;> by_cases h1 : p = 1 <;> first | omega | simp_all
  · intro ⟨h1, h2⟩
    have : p = 1 ∨ p = 2 ∨ p = 3 ∨ p = 4 ∨ p = 5 ∨ p = 6 ∨ p = 7 := by omega
    rcases this with rfl | rfl | rfl | rfl | rfl | rfl | rfl <;> rfl
end Go.Proofs.YtdfdnjkeiddfjaaDoor
/-
  script (stage 25): Lines, the document's and the mock's.
-/
namespace Go.Proofs.YtdfdnjkeiddfjaaDoor
open Go.RowKit
attribute [local go_sem ↓] Go.wp_at_zero Go.wp_at_succ

theorem rowS {w w' : World} {base n m : Nat} {e : TypeId} {v : Value} {xs : List Value} (h : w.ownsRow base e n v m xs) (hs : ∀ g, v.ownBlock = some g → w'.heap[g]? = w.heap[g]?) : w'.ownsRow base e n v m xs := by
  refine ⟨h.1, ?_⟩
  rcases h.2 with hn | ⟨g, cap, cur, rfl, hbb, hg, rest⟩
  · exact Or.inl hn
  · exact Or.inr ⟨g, cap, cur, rfl, hbb, (hs g rfl).trans hg, rest⟩
theorem rowS_below {w w' : World} {base n m : Nat} {e : TypeId} {v : Value} {xs : List Value} (h : w.ownsRow base e n v m xs) (hb : Below w.heap.size w w') : w'.ownsRow base e n v m xs :=
  rowS h fun g hg => hb.block g (h.lt g hg).2
theorem rowS_form {w : World} {base n m : Nat} {e : TypeId} {v : Value} {xs : List Value} (h : w.ownsRow base e n v m xs) : ∃ a cap, v = .slice a m cap ∧ m ≤ cap := by
  rcases h.2 with ⟨rfl, hn⟩ | ⟨g, cap, cur, hv, _, _, hc, _⟩
  · exact ⟨none, 0, by rw [hn], by omega⟩
  · exact ⟨_, cap, hv, hc⟩
theorem infoS {P : Program} {e : TypeId} {z : Value} {s b : Nat} (h : (P.info? e).map (fun i => (i.zero, i.size, i.bytes)) = some (some z, s, b)) : ∃ i, P.info? e = some i ∧ i.zero = some z ∧ i.size = s ∧ i.bytes = b := by
  cases hi : P.info? e with
  | none => rw [hi] at h; simp at h
  | some i =>
    rw [hi] at h
    simp only [Option.map_some, Option.some.injEq, Prod.mk.injEq] at h
    exact ⟨i, rfl, h.1, h.2.1, h.2.2⟩
theorem runS {T e : TypeId} {z : Value} {sz by_ : Nat} (hT : Tryd.prog.underlying T = some (.slice e)) (hI : (Tryd.prog.info? e).map (fun i => (i.zero, i.size, i.bytes)) = some (some z, sz, by_)) (hz : z.cells.size = sz) (h0 : 0 < sz) (w : World) (ty : TypeId) (base : Nat) (v : Value) (n : Nat) (l : List Value) (hown : w.ownsRow base e sz v n l)
    (xv : Value) (m : Nat) (news : List Value) (hsrc : (xv = .slice none 0 0 ∧ m = 0 ∧ news = []) ∨ ∃ (ad : Addr) (c : Nat), xv = .slice (some ad) m c ∧ news.length = m * sz ∧ ∀ (j : Nat) u, news[j]? = some u → w.cell? (ad.add j) = some u) (h1c : ∀ u ∈ news, u.oneCell' = true) (hlen : (n + m) * by_ ≤ 140737488355328) (hm : n + m ≤ 140737488355328) (hbase : base ≤ w.heap.size) :
    ∃ v' w', (Builtin.append_ #[T, T] ty #[v, xv]).run Tryd.prog w = .ok v' w' ∧ w'.ownsRow base e sz v' (n + m) (l ++ news) ∧ w.grownBy w' v.ownBlock ∧ (v'.ownBlock = v.ownBlock ∨ v'.ownBlock = some w.heap.size) := by
  obtain ⟨i, hi, h0', h1, h2⟩ := infoS hI
  rcases hsrc with ⟨rfl, rfl, rfl⟩ | ⟨ad, c, rfl, hnl, hc⟩
  · exact ⟨v, w, run_append_owned_none (P := Tryd.prog) w base T ty e i sz hT hi v n l hown, by rw [List.append_nil]; exact hown, ⟨rfl, rfl, rfl, Nat.le_refl _, fun _ _ _ => rfl⟩, Or.inl rfl⟩
  · obtain ⟨v', w', k1, k2, k3, -, k5⟩ := run_append_own_at (P := Tryd.prog) w base T ty e i z sz by_ hT hi h0' h1 h2 hz h0 v n l hown ad m c news (by omega) hc h1c (by unfold maxLen; omega) hlen hbase
    exact ⟨v', w', k1, k2, k3, k5⟩
theorem gappS {T e : TypeId} {z : Value} {sz by_ : Nat} (hT : Tryd.prog.underlying T = some (.slice e)) (hI : (Tryd.prog.info? e).map (fun i => (i.zero, i.size, i.bytes)) = some (some z, sz, by_)) (hz : z.cells.size = sz) (h0 : 0 < sz)
    {ops : Array Oper} {rest : List Oper} {o : Oper} {a : Act} {Q : Exit → Act → World → Prop} {w : World} (hgd : o.guard = none) (s x : Operand)
    (ho : o.op = .call { callee := .builtin .append, args := #[s, x], argTypes := #[T, T] }) (base : Nat) (v : Value) (n : Nat) (l : List Value) (hs : a.eval s = v) (hown : w.ownsRow base e sz v n l)
    (xv : Value) (m : Nat) (news : List Value) (hx : a.eval x = xv) (hsrc : (xv = .slice none 0 0 ∧ m = 0 ∧ news = []) ∨ ∃ (ad : Addr) (c : Nat), xv = .slice (some ad) m c ∧ news.length = m * sz ∧ ∀ (j : Nat) u, news[j]? = some u → w.cell? (ad.add j) = some u) (h1c : ∀ u ∈ news, u.oneCell' = true) (hlen : (n + m) * by_ ≤ 140737488355328) (hm : n + m ≤ 140737488355328) (hbase : base ≤ w.heap.size)
    (h : ∀ v' w', w'.ownsRow base e sz v' (n + m) (l ++ news) → w.grownBy w' v.ownBlock → (v'.ownBlock = v.ownBlock ∨ v'.ownBlock = some w.heap.size) → wpList Tryd.prog ops Q rest (a.put o.dst v') w') : wpList Tryd.prog ops Q (o :: rest) a w := by
  obtain ⟨v', w', hrun, r1, r2, r3⟩ := runS hT hI hz h0 w o.type base v n l hown xv m news hsrc h1c hlen hm hbase
  refine wpList_plain hgd fun K hK => ?_
  simp [Oper.wp, execOp, ho, resolve, invoke, builtin, hs, hx, hrun, Result.andThen]
  exact hK _ _ (h v' w' r1 r2 r3)
theorem grownS {w w' : World} {base n m : Nat} {e : TypeId} {v : Value} {xs : List Value} (h : w.ownsRow base e n v m xs) (hg : w.grownBy w' v.ownBlock) (hb : base ≤ w.heap.size) : Below base w w' :=
  ⟨hg.os, hg.tape, hg.output, hg.size, fun k hk => hg.block k (by omega) fun e => by have := (World.ownsRow.lt h k e.symm).1; omega⟩
end Go.Proofs.YtdfdnjkeiddfjaaDoor

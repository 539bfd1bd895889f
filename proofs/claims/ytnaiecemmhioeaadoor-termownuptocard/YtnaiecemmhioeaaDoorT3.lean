import Derived.Test.YtnaiecemmhioeaaDoorTO10
import Derived.Test.YtnaiecemmhioeaaDoorP6
import Derived.Test.YtnaiecemmhioeaaDoorP2
import Derived.Test.YtnaiecemmhioeaaDoorB7
/-
  Match and Unify answer the same to the same.
-/
namespace Go.Proofs.YtnaiecemmhioeaaDoor
open Go.RowKit

/-- A list of binds that a call answers: these. -/
def Bf (S : Nat) (w' : World) (e : Ending) (bo : Bool) (l : List Bd) : Prop := ∃ a c, e = .returned (.tuple #[.slice a l.length c, .bool bo]) ∧ w'.ownsRow S 43 4 (.slice a l.length c) l.length (l.flatMap Bd.cs) ∧ l.length ≤ 1100000000000
theorem bf_nil (S : Nat) (w' : World) : Bf S w' (.returned (.tuple #[.slice none 0 0, .bool false])) false [] := ⟨none, 0, rfl, World.ownsRow_nil _ _ _ _, by simp⟩
theorem bf_own {S : Nat} {w' : World} {v : Value} {l : List Bd} (h : Own w' S v l) (hl : l.length ≤ 1100000000000) : Bf S w' (.returned (.tuple #[v, .bool true])) true l := by
  obtain ⟨a, c, rfl⟩ := own_form9 h
  exact ⟨a, c, rfl, h, hl⟩
theorem Bf.bs {S : Nat} {w' : World} {a : Option Addr} {c : Nat} {l : List Bd} (h : w'.ownsRow S 43 4 (.slice a l.length c) l.length (l.flatMap Bd.cs)) (hl : l.length ≤ 1100000000000) : Bs w' (.slice a l.length c) l := Own.bs h (by omega)
theorem match_fix (p a : At) (s : List Bd) (hlen : s.length + p.args.length + 1 ≤ 1000000000000) : ∃ (bo : Bool) (l : List Bd), ∀ (X : World) (x y v : Value), Ts X x p.args → Ts X y a.args → Bs X v s →
    Calls Tryd.prog 13 #[p.v x, a.v y, v] X fun e w' => Bf X.heap.size w' e bo l ∧ Below X.heap.size X w' := by
  cases hr : mRes p a s with
  | none =>
    refine ⟨false, [], fun X x y v hx hy hv => (match_all p a s x y v X hx hy hv hlen).mono fun e w' hp => ?_⟩
    rw [hr] at hp
    obtain ⟨hb, he⟩ := hp
    simp only at he
    rw [he]
    exact ⟨bf_nil _ _, hb⟩
  | some out =>
    by_cases hex : ∃ l : List Bd, l.Perm out ∧ srt l
    · obtain ⟨l, hl, hs⟩ := hex
      have hnd : nd out := (mRes_makes p a s out out hr (List.Perm.refl _)).2.2
      refine ⟨true, l, fun X x y v hx hy hv => (match_all p a s x y v X hx hy hv hlen).mono fun e w' hp => ?_⟩
      rw [hr] at hp
      obtain ⟨hb, v', out', he, ho, hp2, hs2⟩ := hp
      have : out' = l := up_eq' _ _ (nd_perm hnd hp2) hs2 (nd_perm hnd hl) hs fun z => by rw [look_perm hnd hp2, look_perm hnd hl]
      subst this
      rw [he]
      refine ⟨bf_own ho ?_, hb⟩
      have := mRes_len p a s out hr
      rw [hp2.length_eq]; omega
    · refine ⟨true, [], fun X x y v hx hy hv => (match_all p a s x y v X hx hy hv hlen).mono fun e w' hp => ?_⟩
      rw [hr] at hp
      obtain ⟨hb, v', out', he, ho, hp2, hs2⟩ := hp
      exact absurd ⟨out', hp2, hs2⟩ hex
theorem uni_one {a b : At} {out out' : List Bd} (h : Uni a b out) (h' : Uni a b out') : out = out' := by
  obtain ⟨T, rt, hl, hp⟩ := h.cls
  obtain ⟨T', rt', hl', hp'⟩ := h'.cls
  have hb : ∀ t, become out t = become out' t := class_same hl hl' hp hp' fun f => Iff.rfl
  refine up_eq' out out' h.nd h.srt h'.nd h'.srt fun x => ?_
  cases e : look out x with
  | some q =>
    have := (look_of hl hp x q).1 e
    exact ((look_of hl' hp' x q).2 ⟨this.1, by rw [← hb]; exact this.2.1, this.2.2⟩).symm
  | none =>
    cases e' : look out' x with
    | none => rfl
    | some q =>
      have := (look_of hl' hp' x q).1 e'
      rw [(look_of hl hp x q).2 ⟨this.1, by rw [hb]; exact this.2.1, this.2.2⟩] at e
      cases e
theorem unify_fix (a b : At) (hlen : a.args.length ≤ 400000000000) : ∃ (bo : Bool) (l : List Bd), ∀ (X : World) (x y : Value), Ts X x a.args → Ts X y b.args →
    Calls Tryd.prog 14 #[a.v x, b.v y] X fun e w' => Bf X.heap.size w' e bo l ∧ Below X.heap.size X w' := by
  by_cases hex : ∃ out, Uni a b out
  · obtain ⟨l, hl⟩ := hex
    refine ⟨true, l, fun X x y hx hy => (unify_any say_ok a b x y X hx hy hlen).mono fun e w' hp => ?_⟩
    obtain ⟨hb, m, is, rfl, h⟩ := upost_facts hp
    refine ⟨?_, hb⟩
    rcases h with ⟨-, -, h⟩ | ⟨rfl, out, ho, hu⟩
    · exact absurd hl.one (fun e => h _ (fix_become l) e hl.fa hl.fb)
    · have := uni_one hu hl
      subst this
      exact bf_own ho (by have := hu.len; omega)
  · refine ⟨false, [], fun X x y hx hy => (unify_any say_ok a b x y X hx hy hlen).mono fun e w' hp => ?_⟩
    obtain ⟨hb, m, is, rfl, h⟩ := upost_facts hp
    refine ⟨?_, hb⟩
    rcases h with ⟨rfl, rfl, -⟩ | ⟨rfl, out, ho, hu⟩
    · exact bf_nil _ _
    · exact absurd ⟨out, hu⟩ hex
end Go.Proofs.YtnaiecemmhioeaaDoor
/-
  bindings of the laws.
-/
namespace Go.Proofs.YtnaiecemmhioeaaDoor
open Go.RowKit

theorem drop_eq_stepB (a b : List Bd) (i : Nat) (t u : Bd) (ht : a[i]? = some t) (hu : b[i]? = some u) : (a.drop i = b.drop i) ↔ (t = u ∧ a.drop (i + 1) = b.drop (i + 1)) := by
  obtain ⟨h1, rfl⟩ := List.getElem?_eq_some_iff.1 ht
  obtain ⟨h2, rfl⟩ := List.getElem?_eq_some_iff.1 hu
  rw [List.drop_eq_getElem_cons h1, List.drop_eq_getElem_cons h2, List.cons.injEq]
set_option maxHeartbeats 1000000 in
theorem bindings_any (a b : List Bd) (x y : Value) (w : World) (h : Bs w x a) (h' : Bs w y b) :
    Calls Tryd.prog 19 #[x, y] w fun e w' => e = .returned (.bool (decide (a = b))) ∧ Below w.heap.size w w' := by
  obtain ⟨ad, cap, rfl, hl, h⟩ := h
  obtain ⟨ad', cap', rfl, hl', h'⟩ := h'
  by_cases e2 : a.length = b.length
  · have hq2 : ((a.length : Int) == (b.length : Int)) = true := by simp; omega
    have E2 : Hid (a.length = b.length) := e2
    clear e2
    go_enter Tryd.func19, Tryd.ntmps19
    go_wp2
    go_loopg [5] a.length (fun g i wr => ∃ j : Nat, j + g = a.length ∧ i = .int .i64 j ∧ (a = b ↔ a.drop j = b.drop j) ∧ Below w.heap.size w wr)
    case atStart => exact ⟨0, by omega, rfl, by simp, Below.refl _ _⟩
    case round =>
      obtain ⟨j, hj, rfl, hgo, hb⟩ := hrel
      have HG : Hid (a = b ↔ a.drop j = b.drop j) := hgo
      clear hgo
      cases gk with
      | succ g =>
        have hlt : (j : Int) < (a.length : Int) := by omega
        have hlt' : (j : Int) < (b.length : Int) := by have := E2.out; omega
        have j0 : (0 : Int) ≤ (j : Int) := by omega
        obtain ⟨t, ht⟩ : ∃ t, a[j]? = some t := ⟨_, List.getElem?_eq_getElem (by omega)⟩
        obtain ⟨u, hu⟩ : ∃ u, b[j]? = some u := ⟨_, List.getElem?_eq_getElem (by omega)⟩
        have HS : Hid ((a = b) ↔ (t = u ∧ a.drop (j + 1) = b.drop (j + 1))) := HG.out.trans (drop_eq_stepB a b j t u ht hu)
        rcases h with h | ⟨b1, o1, rfl, hb1, h⟩
        · subst h; simp at hj
        rcases h' with h' | ⟨b2, o2, rfl, hb2, h'⟩
        · subst h'; simp at hu
        obtain ⟨p0, p1, p2, p3⟩ := h j t ht
        obtain ⟨q0, q1, q2, q3⟩ := h' j u hu
        rw [← hb.cell (p := ⟨b1, _, none⟩) hb1] at p0 p1 p2 p3
        rw [← hb.cell (p := ⟨b2, _, none⟩) hb2] at q0 q1 q2 q3
        have he := run_neq_bd t u
        clear h h' ht hu
        obtain ⟨dx, tk, tn, ts⟩ := t
        obtain ⟨ex, uk, un, us⟩ := u
        simp only at p0 p1 p2 p3 q0 q1 q2 q3
        by_cases htu : Bd.mk dx ⟨tk, tn, ts⟩ = ⟨ex, uk, un, us⟩
        · have HS2 : Hid (a = b ↔ a.drop (j + 1) = b.drop (j + 1)) := by
            have := HS.out; show a = b ↔ _; simpa [htu] using this
          rw [decide_eq_true htu] at he
          clear htu
          go_wp2
          go_quiet (fail)
          go_wp2
          go_roundg g
          case measure => omega
          case rel => exact ⟨j + 1, by omega, by go_num, HS2.out, below_drewN hb _⟩
        · have HS2 : Hid (decide (a = b) = false) := decide_eq_false fun e => htu (HS.out.1 e).1
          rw [decide_eq_false htu] at he
          clear htu
          go_wp2
          go_quiet (fail)
          go_wp2
          go_ret
          exact ⟨ret_b HS2.out.symm, below_drewN hb _⟩
      | zero =>
        have hlt : ¬ (j : Int) < (a.length : Int) := by omega
        have HS2 : Hid (decide (a = b) = true) := decide_eq_true (HG.out.2 (by rw [List.drop_eq_nil_of_le (by omega), List.drop_eq_nil_of_le (by have := E2.out; omega)]))
        clear hj h h'
        go_wp2
        go_ret
        exact ⟨ret_b HS2.out.symm, hb⟩
  · have hq2 : ((a.length : Int) == (b.length : Int)) = false := by simp; omega
    have HS2 : Hid (decide (a = b) = false) := decide_eq_false fun e => e2 (by rw [e])
    clear e2 h h'
    go_enter Tryd.func19, Tryd.ntmps19
    go_wp2
    go_ret
    exact ⟨ret_b HS2.out.symm, Below.refl _ _⟩
end Go.Proofs.YtnaiecemmhioeaaDoor

/-
  wire: the document's wire in memory; there.
-/
import Derived.Test.YtboomeeipnfbmabWRS
import Derived.Test.YtboomeeipnfbmabWR4
namespace Go.Proofs.Ytboomeeipnfbmab
open Go.RowKit
attribute [local go_sem ↓] Go.wp_at_zero Go.wp_at_succ

/-- A message as the document's wire holds it: its bytes, where they lie, its place. -/
structure MrW where
  b : List Int
  p : Nat
  u : Value
def MrW.x (q : MrW) : List Int × Nat := (q.b, q.p)
def MrW.c (q : MrW) : Value × Value := (q.u, .int .i64 (q.p : Int))
structure RzX (B : Nat) (T : Nat → Prop) (g : Nat) (s : WrW) (Q : List MrW) (P : List Nat) (av : Value) (Y : World) : Prop where
  ok : s.Ok
  rs : RsW (Q.map MrW.x) s P
  b : Bk Y g #[av, .int .i64 (s.gv : Int)] 67
  a : Y.ownsRow B 73 2 av Q.length (twoW (Q.map MrW.c))
  u : ∀ q ∈ Q, LbW (fun b => T b ∧ b ≠ g ∧ av.ownBlock ≠ some b) Y q.u q.b
  ta : ∀ b, av.ownBlock = some b → T b
  tg : T g
  t : ∀ b, T b → B ≤ b ∧ b < Y.heap.size
def RzW (B : Nat) (T : Nat → Prop) (v : Value) (s : WrW) (Y : World) : Prop := ∃ g Q P av, v = .pointer (some ⟨g, 0, none⟩) ∧ RzX B T g s Q P av Y
theorem RzX.len {B : Nat} {T : Nat → Prop} {g : Nat} {s : WrW} {Q : List MrW} {P : List Nat} {av : Value} {Y : World} (h : RzX B T g s Q P av Y) : Q.length = s.gv := by have := h.rs.g; rwa [List.length_map] at this
theorem RzX.ne {B : Nat} {T : Nat → Prop} {g : Nat} {s : WrW} {Q : List MrW} {P : List Nat} {av : Value} {Y : World} (h : RzX B T g s Q P av Y) : av.ownBlock ≠ some g := fun e => by
  obtain ⟨h1, h2⟩ := h.a
  rcases h2 with ⟨rfl, -⟩ | ⟨g', cap, cur, rfl, -, hg, -⟩
  · cases e
  · simp only [Value.ownBlock, Option.some.injEq] at e
    subst e
    have := h.b
    unfold Bk at this
    rw [this] at hg
    simp at hg
theorem RzX.same {B : Nat} {T : Nat → Prop} {g : Nat} {s : WrW} {Q : List MrW} {P : List Nat} {av : Value} {Y Y' : World} (h : RzX B T g s Q P av Y) (hz : Y.heap.size ≤ Y'.heap.size) (hf : ∀ b, b < Y.heap.size → T b → Y'.heap[b]? = Y.heap[b]?) : RzX B T g s Q P av Y' :=
  ⟨h.ok, h.rs, (hf g h.b.lt h.tg).trans h.b, row7 h.a fun b hb => hf b (h.a.lt b hb).2 (h.ta b hb), fun q hq => (h.u q hq).same hz fun b hb hF => hf b hb hF.1, h.ta, h.tg, fun b hb => ⟨(h.t b hb).1, Nat.lt_of_lt_of_le (h.t b hb).2 hz⟩⟩
theorem RzW.fr {B : Nat} {T P : Nat → Prop} {v : Value} {s : WrW} {Y Y' : World} (h : RzW B T v s Y) (hf : Fr P Y Y') (hP : ∀ b, b < Y.heap.size → T b → ¬ P b) : RzW B T v s Y' := by
  obtain ⟨g, Q, Pl, av, e, h⟩ := h
  exact ⟨g, Q, Pl, av, e, h.same hf.size fun b hb hT => hf.block b hb (hP b hb hT)⟩
theorem RzW.below {B : Nat} {T : Nat → Prop} {v : Value} {s : WrW} {Y Y' : World} (h : RzW B T v s Y) (hb : Below Y.heap.size Y Y') : RzW B T v s Y' := h.fr (P := fun _ => False) (Fr.of hb) fun _ _ _ h => h
theorem RzW.ok {B : Nat} {T : Nat → Prop} {v : Value} {s : WrW} {Y : World} (h : RzW B T v s Y) : s.Ok := by obtain ⟨_, _, _, _, _, h⟩ := h; exact h.ok
theorem RzW.t {B : Nat} {T : Nat → Prop} {v : Value} {s : WrW} {Y : World} (h : RzW B T v s Y) : ∀ b, T b → B ≤ b ∧ b < Y.heap.size := by obtain ⟨_, _, _, _, _, h⟩ := h; exact h.t
theorem RzW.ptr {B : Nat} {T : Nat → Prop} {v : Value} {s : WrW} {Y : World} (h : RzW B T v s Y) : ∃ g, v = .pointer (some ⟨g, 0, none⟩) := by obtain ⟨g, _, _, _, e, _⟩ := h; exact ⟨g, e⟩
/-- A message's cells. -/
theorem RzX.at_ {B : Nat} {T : Nat → Prop} {g : Nat} {s : WrW} {Q : List MrW} {P : List Nat} {a : Option Addr} {m cap : Nat} {Y : World} (h : RzX B T g s Q P (.slice a m cap) Y) {k : Nat} {q : MrW} (hq : Q[k]? = some q) : ∃ g', a = some ⟨g', 0, none⟩ ∧ B ≤ g' ∧ g' < Y.heap.size ∧ g' ≠ g ∧ T g' ∧ Y.cell? ⟨g', k * 2, none⟩ = some q.u ∧ Y.cell? ⟨g', k * 2 + 1, none⟩ = some (.int .i64 (q.p : Int)) ∧ (∀ i, Y.frozen? ⟨g', i, none⟩ = false) := by
  have hc : (Q.map MrW.c)[k]? = some q.c := by rw [List.getElem?_map, hq]; rfl
  obtain ⟨c1, c2⟩ := twoW_get hc
  have hm : m = Q.length := by
    obtain ⟨a', c', e, -⟩ := row7_form h.a
    simp only [Value.slice.injEq] at e
    exact e.2.1
  have ha := h.a
  rw [← hm] at ha
  obtain ⟨g', e, h1, h2, h3, -⟩ := row7_at ha c1
  obtain ⟨g2, e2, -, -, h4, -⟩ := row7_at ha c2
  subst e
  cases e2
  refine ⟨g', rfl, h1, h2, fun e => h.ne (by rw [e]; rfl), h.ta g' rfl, h3, h4, fun i => ?_⟩
  rcases ha.2 with ⟨e, -⟩ | ⟨g3, cap', cur, e, -, hg, -⟩
  · cases e
  · cases e; simp [World.frozen?, hg]
set_option maxRecDepth 20000 in
set_option maxHeartbeats 1000000 in
theorem rthereW_any {B : Nat} {T : Nat → Prop} {v : Value} {s : WrW} {Y : World} (h : RzW B T v s Y) (n : Int) :
    Calls Try.prog 49 #[v, .int .i64 n] Y fun e Y' => e = .returned (.bool (plW s n).isSome) ∧ Y' = Y := by
  obtain ⟨g, Q, P, av, rfl, h⟩ := h
  have c0 := h.b.cell (i := 0) rfl
  obtain ⟨aa, cap, hav, -⟩ := row7_form h.a
  have hl := h.len
  rw [hl] at hav
  subst hav
  have H := hm7 h
  by_cases h1 : 1 ≤ n
  · by_cases h2 : n ≤ (s.gv : Int)
    · obtain ⟨k, rfl⟩ : ∃ k : Nat, n = (k : Int) + 1 := ⟨n.toNat - 1, by omega⟩
      obtain ⟨q, hq⟩ : ∃ q, Q[k]? = some q := ⟨_, List.getElem?_eq_getElem (by omega)⟩
      obtain ⟨g', rfl, -, -, -, -, q0, q1, -⟩ := h.at_ hq
      have hg4 := h.ok.g
      have i0 : (0 : Int) ≤ (k : Int) := by omega
      have i1 : (k : Int) < (s.gv : Int) := by omega
      have hal : (Q.map MrW.x)[((k : Int) + 1).toNat - 1]? = some q.x := by rw [show ((k : Int) + 1).toNat - 1 = k by omega, List.getElem?_map, hq]; rfl
      cases hp : plW s ((k : Int) + 1) with
      | none =>
        obtain ⟨b, hb⟩ := h.rs.none_ hp h1 h2
        rw [hal] at hb
        have hz : q.p = 0 := by have := congrArg Prod.snd (Option.some.inj hb); exact this
        rw [hz] at q1
        clear h hq hp hal hb
        go_enter Try.func49, Try.ntmps49
        go_wp2
        go_ret
        exact ⟨rfl, rfl⟩
      | some i =>
        obtain ⟨m, p, -, hn, -, -, -, hp1, -, -, hb⟩ := h.rs.some_ hp
        rw [show m.n - 1 = ((k : Int) + 1).toNat - 1 by omega, hal] at hb
        have hz : q.p = p := by have := congrArg Prod.snd (Option.some.inj hb); exact this
        rw [hz] at q1
        have i3 : (p : Int) > 0 := by omega
        clear h hq hp hal hb
        go_enter Try.func49, Try.ntmps49
        go_wp2
        go_ret
        exact ⟨ret_b (decide_eq_true (by omega)), rfl⟩
    · have hp : plW s n = none := by
        cases hp : plW s n with
        | none => rfl
        | some i => obtain ⟨m, p, -, -, -, h3, -⟩ := h.rs.some_ hp; omega
      rw [hp]
      clear h hp
      go_enter Try.func49, Try.ntmps49
      go_wp2
      go_ret
      exact ⟨rfl, rfl⟩
  · have hp : plW s n = none := by
      cases hp : plW s n with
      | none => rfl
      | some i => obtain ⟨m, p, -, -, h3, -⟩ := h.rs.some_ hp; omega
    rw [hp]
    clear h hp
    go_enter Try.func49, Try.ntmps49
    go_wp2
    go_ret
    exact ⟨rfl, rfl⟩
end Go.Proofs.Ytboomeeipnfbmab

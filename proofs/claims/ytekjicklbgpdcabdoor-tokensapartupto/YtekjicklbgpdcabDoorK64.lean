/-
  hearsaylaw04.TokensApart: the kept lists in memory; one more behind them.
-/
import Derived.Test.YtekjicklbgpdcabDoorK63
namespace Go.Proofs.YtekjicklbgpdcabDoor
open Go.RowKit

/-- A list that was handed out, as it lies in the list of them. -/
structure Ke where
  v : Value
  G : Value
  m : Int
  n : Nat
def ecs (l : List Ke) : List Value := l.flatMap fun x => [x.v, x.G, .int .i64 x.m]
theorem ecs_len (l : List Ke) : (ecs l).length = l.length * 3 := by
  induction l with
  | nil => rfl
  | cons t l ih => unfold ecs at ih ⊢; rw [List.flatMap_cons, List.length_append, ih]; simp; omega
theorem ecs_app (l m : List Ke) : ecs (l ++ m) = ecs l ++ ecs m := by simp [ecs]
def Ke.ok (w : World) (S : Nat → Prop) (x : Ke) : Prop := Kep w S x.v x.G x.m x.n ∧ 0 ≤ x.m ∧ x.m ≤ 1000000000 ∧ x.n ≤ 9000000
theorem Ke.ok.sl {w : World} {S : Nat → Prop} {x : Ke} (h : x.ok w S) : (∃ a n c, x.v = .slice a n c) ∧ ∃ a n c, x.G = .slice a n c := by
  obtain ⟨⟨⟨a, c, hv, -⟩, ⟨a', c', hG, -⟩⟩, -⟩ := h
  exact ⟨⟨_, _, _, hv⟩, ⟨_, _, _, hG⟩⟩
theorem ecs_one {w : World} {S : Nat → Prop} (l : List Ke) (h : ∀ x ∈ l, x.ok w S) : ∀ u ∈ ecs l, u.oneCell' = true := by
  intro u hu
  simp only [ecs, List.mem_flatMap] at hu
  obtain ⟨x, hx, hu⟩ := hu
  obtain ⟨⟨a, n, c, e1⟩, ⟨a', n', c', e2⟩⟩ := (h x hx).sl
  simp only [List.mem_cons, List.not_mem_nil, or_false] at hu
  rcases hu with rfl | rfl | rfl
  · rw [e1]; rfl
  · rw [e2]; rfl
  · rfl
def OwnE (w : World) (base : Nat) (v : Value) (l : List Ke) : Prop := w.ownsRow base 39 3 v l.length (ecs l)
/-- The list of them, and each of them elsewhere. -/
def Kepts (w : World) (base : Nat) (v : Value) (l : List Ke) : Prop := OwnE w base v l ∧ ∀ x ∈ l, x.ok w (fun b => base ≤ b ∧ some b ≠ v.ownBlock)
theorem Kepts.later {w w' : World} {base : Nat} {v : Value} {l : List Ke} (h : Kepts w base v l) (hb : Below w.heap.size w w') : Kepts w' base v l := by
  refine ⟨⟨h.1.1, ?_⟩, fun x hx => ⟨(h.2 x hx).1.kept hb.size (fun b hl hS => ⟨hS, hb.block b hl⟩), (h.2 x hx).2⟩⟩
  rcases h.1.2 with hn | ⟨g, cap, cur, hv, hbb, hg, rest⟩
  · exact Or.inl hn
  · exact Or.inr ⟨g, cap, cur, hv, hbb, (hb.block g (Array.getElem?_eq_some_iff.1 hg).1).trans hg, rest⟩
/-- One of the call's other blocks has been written. -/
theorem Kepts.grown {w w' : World} {base B : Nat} {v : Value} {l : List Ke} {row : Option Nat} (h : Kepts w base v l) (hB : ∀ x ∈ l, x.ok w (fun b => b < B)) (hv : ∀ k, v.ownBlock = some k → k < B) (hg : w.grownBy w' row) (hr : ∀ k, row = some k → B ≤ k) : Kepts w' base v l := by
  refine ⟨⟨h.1.1, ?_⟩, fun x hx => ⟨?_, (h.2 x hx).2⟩⟩
  · rcases h.1.2 with hn | ⟨g, cap, cur, he, hbb, hg', rest⟩
    · exact Or.inl hn
    · refine Or.inr ⟨g, cap, cur, he, hbb, (hg.block g (Array.getElem?_eq_some_iff.1 hg').1 (fun e => ?_)).trans hg', rest⟩
      have h1 := hr g e.symm
      have h2 := hv g (by rw [he]; rfl)
      omega
  · have h1 := (h.2 x hx).1
    have h2 := (hB x hx).1
    exact ⟨both h1.1 h2.1 hg hr, both h1.2 h2.2 hg hr⟩
where
  both {w w' : World} {S : Nat → Prop} {B : Nat} {v : Value} {l : List Tk} {row : Option Nat} (h1 : KsS w S v l) (h2 : KsS w (fun b => b < B) v l) (hg : w.grownBy w' row) (hr : ∀ k, row = some k → B ≤ k) : KsS w' S v l := by
    obtain ⟨a, cap, hv, hm⟩ := h1
    obtain ⟨a', cap', hv', hm'⟩ := h2
    rw [hv] at hv'
    simp only [Value.slice.injEq, true_and] at hv'
    obtain ⟨rfl, rfl⟩ := hv'
    refine ⟨a, cap, hv, ?_⟩
    rcases hm with hm | ⟨b, o, ha, hb, hs, hc⟩
    · exact Or.inl hm
    · rcases hm' with hm' | ⟨b', o', ha', -, hs', -⟩
      · exact Or.inl hm'
      · rw [ha] at ha'
        simp only [Option.some.injEq, Addr.mk.injEq, and_true] at ha'
        obtain ⟨rfl, rfl⟩ := ha'
        have hs'' : b < B := hs'
        have hcc : ∀ i, w'.cell? ⟨b, i, none⟩ = w.cell? ⟨b, i, none⟩ := fun i => World.cell?_of_block (w := w) (a := ⟨b, i, none⟩) (hg.block b hb (fun e => by have := hr b e.symm; omega))
        refine Or.inr ⟨b, o, ha, Nat.lt_of_lt_of_le hb hg.size, hs, fun i t hi => ?_⟩
        simp only [hcc]
        exact hc i t hi
theorem KsS.lt {w : World} {S : Nat → Prop} {v : Value} {l : List Tk} (h : KsS w S v l) : KsS w (fun b => b < w.heap.size) v l := by
  obtain ⟨a, cap, hv, hm⟩ := h
  refine ⟨a, cap, hv, ?_⟩
  rcases hm with hm | ⟨b, o, ha, hb, hs, hc⟩
  · exact Or.inl hm
  · exact Or.inr ⟨b, o, ha, hb, hb, hc⟩
theorem Ke.ok.lt {w : World} {S : Nat → Prop} {x : Ke} (h : x.ok w S) : x.ok w (fun b => b < w.heap.size) := ⟨⟨h.1.1.lt, h.1.2.lt⟩, h.2⟩
theorem Ke.ok.kept {w w' : World} {S S' : Nat → Prop} {x : Ke} (h : x.ok w S) (hz : w.heap.size ≤ w'.heap.size) (hS : ∀ b, b < w.heap.size → S b → S' b ∧ w'.heap[b]? = w.heap[b]?) : x.ok w' S' := ⟨h.1.kept hz hS, h.2⟩
theorem Tryd.infoKept : (Tryd.prog.info? 39).map (fun i => (i.size, i.bytes, i.zero.map (·.cells.size))) = some (3, 56, some 3) := by kernel_rfl
theorem infoKept_parts : ∃ (i : TypeInfo) (z : Value), Tryd.prog.info? 39 = some i ∧ i.zero = some z ∧ i.size = 3 ∧ i.bytes = 56 ∧ z.cells.size = 3 := by
  have h := Tryd.infoKept
  cases hi : Tryd.prog.info? 39 with
  | none => rw [hi] at h; simp at h
  | some i =>
    rw [hi] at h
    simp only [Option.map_some, Option.some.injEq, Prod.mk.injEq] at h
    obtain ⟨h1, h2, h3⟩ := h
    cases hz : i.zero with
    | none => rw [hz] at h3; simp at h3
    | some z => rw [hz] at h3; simp only [Option.map_some, Option.some.injEq] at h3; exact ⟨i, z, rfl, hz, h1, h2, h3⟩
theorem app_keep {ops : Array Oper} {rest : List Oper} {o : Oper} {a : Act} {Q : Exit → Act → World → Prop} {w : World} (hgd : o.guard = none) (s x : Operand)
    (ho : o.op = .call { callee := .builtin .append, args := #[s, x], argTypes := #[35, 35] }) (base : Nat) (v : Value) (l : List Ke) (hs : a.eval s = v) (hown : Kepts w base v l)
    (b : Nat) (ts : List Ke) (hx : a.eval x = .slice (some ⟨b, 0, none⟩) 4 4) (hts : ts.length = 4) (hok : ∀ x ∈ ts, x.ok w (fun b => base ≤ b ∧ some b ≠ v.ownBlock)) (hblk : w.heap[b]? = some (.cells (ecs ts).toArray 39 (0, 0))) (hlen : l.length ≤ 100000000) (hbase : base ≤ w.heap.size)
    (h : ∀ g cap w', Kepts w' base (.slice (some ⟨g, 0, none⟩) (l.length + 4) cap) (l ++ ts) → Below base w w' → wpList Tryd.prog ops Q rest (a.put o.dst (.slice (some ⟨g, 0, none⟩) (l.length + 4) cap)) w') : wpList Tryd.prog ops Q (o :: rest) a w := by
  obtain ⟨i, z, hi, hz0, hz1, hz2, hz3⟩ := infoKept_parts
  refine wpList_append_lies _ hgd s x 35 ho base 39 i z 3 56 Tryd.underlying35 hi hz0 hz1 hz2 hz3 (by omega) v l.length (ecs l) hs hown.1 ⟨b, 0, none⟩ 4 4 (ecs ts) hx (by rw [ecs_len, hts]) ?_ (ecs_one ts hok) (by omega) (by unfold maxLen; omega) (by omega) hbase _ rfl ?_
  · intro j u hj
    have := World.news_of_block (cs := (ecs ts).toArray) (t := 39) (fr := (0, 0)) hblk j u
    exact this (by simpa using hj)
  · intro g cap w' h1 h2 h3 h4
    have hlt := fun k hk => World.ownsRow.lt hown.1 k hk
    have stay : ∀ x : Ke, x.ok w (fun b => base ≤ b ∧ some b ≠ v.ownBlock) → x.ok w' (fun b => base ≤ b ∧ some b ≠ (Value.slice (some ⟨g, 0, none⟩) (l.length + 4) cap).ownBlock) := fun x hx =>
      hx.kept h2.size (fun b hb hS => ⟨⟨hS.1, fun e => by
        have e' : b = g := by simpa [Value.ownBlock] using e
        rcases h3 with h3 | h3
        · exact hS.2 (by rw [h3, e'])
        · omega⟩, h2.block b hb hS.2⟩)
    refine h g cap w' ⟨?_, fun x hx => ?_⟩ (grown_below h2 (fun k hk => (hlt k hk).1) hbase)
    · unfold OwnE
      rw [List.length_append, ecs_app, hts]
      exact h1
    · rcases List.mem_append.1 hx with hx | hx
      · exact stay x (hown.2 x hx)
      · exact stay x (hok x hx)
end Go.Proofs.YtekjicklbgpdcabDoor

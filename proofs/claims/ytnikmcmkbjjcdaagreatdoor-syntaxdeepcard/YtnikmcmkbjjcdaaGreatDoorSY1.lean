/-
  syntax: the parser in plain words and in memory; kind, place, giveUp.
-/
import Derived.Test.YtnikmcmkbjjcdaaGreatDoorJ2
import Derived.Test.YtnikmcmkbjjcdaaGreatDoorK1
import Derived.Laws.Cover1
import Derived.Deep.QuietTactic
import Derived.BigQuiet
namespace Go.Proofs.YtnikmcmkbjjcdaaGreatDoor
open Go.RowKit
attribute [local go_sem ↓] Go.wp_at_zero Go.wp_at_succ

/-- How far a parser has come. -/
structure Ps where
  nx : Nat
  op : Nat
  vs : Nat
  nm : ByteArray → Option Nat
/-- What it makes of the tokens: something, and how far it has come; or a fault. -/
abbrev R5 (α : Type) := Except (Int × Int) (α × Ps)
def R5.and {α β : Type} (r : R5 α) (f : α → Ps → R5 β) : R5 β := match r with
  | .error e => .error e
  | .ok (a, s) => f a s
def kd5 (T : List Tk) (s : Ps) (k : Nat) : Int := ((T[s.nx + k]?).map Tk.k).getD 0
def pl5 (T : List Tk) (L : Nat) (s : Ps) : Int := ((T[s.nx]?).map Tk.a).getD (L : Int)
def tk5 (T : List Tk) (L : Nat) (ks : List Int) (s : Ps) : R5 Tk := match T[s.nx]? with
  | some t => if t.k ∈ ks then .ok (t, ⟨s.nx + 1, s.op, s.vs, s.nm⟩) else .error (51, t.a)
  | none => .error (51, (L : Int))
/-- Tokens in memory. -/
def Tz (F : Nat → Prop) (w : World) (v : Value) (T : List Tk) : Prop :=
  ∃ a cap, v = .slice a T.length cap ∧ (T = [] ∨ ∃ b, a = some ⟨b, 0, none⟩ ∧ b < w.heap.size ∧ F b ∧ ∀ (i : Nat) (t : Tk), T[i]? = some t → w.cell? ⟨b, i * 5, none⟩ = some (.int .i64 t.k) ∧ w.cell? ⟨b, i * 5 + 1, none⟩ = some (.string t.x) ∧ w.cell? ⟨b, i * 5 + 2, none⟩ = some (.int .i64 t.n) ∧ w.cell? ⟨b, i * 5 + 3, none⟩ = some (.int .i64 t.a) ∧ w.cell? ⟨b, i * 5 + 4, none⟩ = some (.int .i64 t.e))
theorem Tz.fr {F P : Nat → Prop} {w w' : World} {v : Value} {T : List Tk} (h : Tz F w v T) (hf : Fr P w w') (hn : ∀ b, b < w.heap.size → F b → ¬ P b) : Tz F w' v T := by
  obtain ⟨a, cap, rfl, h⟩ := h
  refine ⟨a, cap, rfl, h.imp id ?_⟩
  rintro ⟨b, rfl, h1, h2, h3⟩
  refine ⟨b, rfl, Nat.lt_of_lt_of_le h1 hf.size, h2, fun i t ht => ?_⟩
  obtain ⟨c0, c1, c2, c3, c4⟩ := h3 i t ht
  exact ⟨hf.cell h1 (hn b h1 h2) c0, hf.cell h1 (hn b h1 h2) c1, hf.cell h1 (hn b h1 h2) c2, hf.cell h1 (hn b h1 h2) c3, hf.cell h1 (hn b h1 h2) c4⟩
theorem Tz.mono {F G : Nat → Prop} {w : World} {v : Value} {T : List Tk} (h : Tz F w v T) (hg : ∀ b, b < w.heap.size → F b → G b) : Tz G w v T := by
  obtain ⟨a, cap, rfl, h⟩ := h
  exact ⟨a, cap, rfl, h.imp id fun ⟨b, h0, h1, h2, h3⟩ => ⟨b, h0, h1, hg b h1 h2, h3⟩⟩
/-- Tokens that a text may have. -/
structure Tok5 (T : List Tk) (L : Nat) : Prop where
  l : T.length ≤ 2000000
  L : L ≤ 2000000
  x : ∀ t ∈ T, t.x.size ≤ 2000000
/-- The table of operators, as it is laid. -/
def opsV : Array Value := #[.int .i64 13, .int .i64 1, .string ⟨#[61]⟩, .int .i64 14, .int .i64 2, .string ⟨#[33, 61]⟩, .int .i64 15, .int .i64 3, .string ⟨#[60]⟩, .int .i64 16, .int .i64 4, .string ⟨#[60, 61]⟩]
def OpsOk (w : World) : Prop := ∃ t fr, w.heap[1]? = some (.cells opsV t fr)
theorem OpsOk.lt {w : World} (h : OpsOk w) : 1 < w.heap.size := by
  obtain ⟨t, fr, h⟩ := h
  exact (Array.getElem?_eq_some_iff.1 h).1
theorem OpsOk.fr {P : Nat → Prop} {w w' : World} (h : OpsOk w) (hf : Fr P w w') (hn : ¬ P 1) : OpsOk w' := by
  have hl := h.lt
  obtain ⟨t, fr, h⟩ := h
  exact ⟨t, fr, (hf.block _ hl hn).trans h⟩
theorem OpsOk.cell {w : World} (h : OpsOk w) {i : Nat} {v : Value} (hv : opsV[i]? = some v) : w.cell? ⟨1, i, none⟩ = some v := by
  obtain ⟨t, fr, h⟩ := h
  simp [World.cell?, h, hv]
/-- A parser: its block, that of its names, a bound to both and to where its tokens lie; its tokens; the text's length. -/
structure Pk where
  g : Nat
  mb : Nat
  N : Nat
  tv : Value
  T : List Tk
  L : Nat
/-- The parser in memory. -/
structure PZ (c : Pk) (w : World) (s : Ps) : Prop where
  b : Bk w c.g #[c.tv, .int .i64 (s.nx : Int), .int .i64 (c.L : Int), .int .i64 (s.op : Int), .map (some c.mb), .int .i64 (s.vs : Int)] 110
  t : Tz (fun b => b ≠ c.g ∧ b ≠ c.mb ∧ b < c.N) w c.tv c.T
  m : ∃ n, n ≤ s.vs ∧ Mp Tryz.prog 9 w c.mb n fun x => (s.nm x).map fun k => .int .i64 (k : Int)
  le : s.nx ≤ c.T.length
  vb : s.vs ≤ s.nx
  ob : s.op ≤ 16
  ne : c.g ≠ c.mb
  gN : c.g < c.N
  mN : c.mb < c.N
  Nw : c.N ≤ w.heap.size
  ok : Tok5 c.T c.L
  o : OpsOk w
  og : c.g ≠ 1 ∧ c.mb ≠ 1 ∧ 1 < c.N
theorem PZ.fr {P : Nat → Prop} {c : Pk} {w w' : World} {s : Ps} (h : PZ c w s) (hf : Fr P w w') (hn : ∀ b, b < c.N → ¬ P b) : PZ c w' s := by
  obtain ⟨n, hn1, hm⟩ := h.m
  exact ⟨h.b.fr hf (hn _ h.gN), h.t.fr hf fun b _ hF => hn b hF.2.2, ⟨n, hn1, hm.fr hf (hn _ h.mN)⟩, h.le, h.vb, h.ob, h.ne, h.gN, h.mN, Nat.le_trans h.Nw hf.size, h.ok, h.o.fr hf (hn _ h.og.2.2), h.og⟩
theorem PZ.below {c : Pk} {w w' : World} {s : Ps} (h : PZ c w s) (hb : Below w.heap.size w w') : PZ c w' s :=
  h.fr (P := fun _ => False) (Fr.of hb) fun _ _ h => h
theorem PZ.off {c : Pk} {w : World} {s : Ps} {r i : Nat} {v : Value} (h : PZ c w s) (hr : c.N ≤ r) : PZ c (w.setCell ⟨r, i, none⟩ v) s :=
  h.fr (P := fun b => b = r) ((Fr.refl _ w).set (Or.inl rfl)) fun b hb e => by omega
/-- What a call of the parser's may write. -/
def W5 (c : Pk) (b : Nat) : Prop := b = c.g ∨ b = c.mb
/-- Its own block is written over, no other of the elder ones. -/
theorem PZ.put {c : Pk} {w w' : World} {nx op vs : Nat} {s : Ps} (h : PZ c w s) (hf : Fr (fun b => b = c.g) w w') (hb : Bk w' c.g #[c.tv, .int .i64 (nx : Int), .int .i64 (c.L : Int), .int .i64 (op : Int), .map (some c.mb), .int .i64 (vs : Int)] 110) (h1 : nx ≤ c.T.length) (h2 : vs ≤ nx) (h3 : op ≤ 16) (h4 : s.vs ≤ vs) : PZ c w' ⟨nx, op, vs, s.nm⟩ := by
  obtain ⟨n, hn1, hm⟩ := h.m
  exact ⟨hb, h.t.fr hf fun b _ hF e => hF.1 e, ⟨n, Nat.le_trans hn1 h4, hm.fr hf fun e => h.ne e.symm⟩, h1, h2, h3, h.ne, h.gN, h.mN, Nat.le_trans h.Nw hf.size, h.ok, h.o.fr hf fun e => h.og.1 e.symm, h.og⟩
def pF (e : Int × Int) : PanicEntry := { v := .iface 26 (.agg #[.int .i64 e.1, .int .i64 e.2]), recovered := false }
theorem giveUp5_any (c a : Int) (w : World) : Calls Tryz.prog 70 #[.int .i64 c, .int .i64 a] w fun e w' => e = .panicked [pF (c, a)] ∧ w' = w := by
  go_enter Tryz.func70, Tryz.ntmps70
  go_wp2
  exact ⟨rfl, rfl, rfl⟩
/-- What a call of the parser's answers. -/
def P5P {α : Type} (c : Pk) (w : World) (V : α → Value → World → Prop) (r : R5 α) (e : Ending) (w' : World) : Prop :=
  Fr (W5 c) w w' ∧ match r with
    | .error f => e = .panicked [pF f]
    | .ok (a, s) => ∃ v, e = .returned v ∧ V a v w' ∧ PZ c w' s
theorem P5P.err {α : Type} {c : Pk} {w : World} {V : α → Value → World → Prop} {r : R5 α} {f : Int × Int} {fn : Nat} {args : Array Value} (h : Calls Tryz.prog fn args w (P5P c w V r)) (hr : r = .error f) : Calls Tryz.prog fn args w fun e w' => e = .panicked [pF f] ∧ Fr (W5 c) w w' := by
  subst hr
  exact h.mono fun e w' ⟨h1, h2⟩ => ⟨h2, h1⟩
theorem P5P.ok {α : Type} {c : Pk} {w : World} {V : α → Value → World → Prop} {r : R5 α} {a : α} {s : Ps} {fn : Nat} {args : Array Value} (h : Calls Tryz.prog fn args w (P5P c w V r)) (hr : r = .ok (a, s)) : Calls Tryz.prog fn args w fun e w' => ∃ v, e = .returned v ∧ V a v w' ∧ PZ c w' s ∧ Fr (W5 c) w w' := by
  subst hr
  exact h.mono fun e w' ⟨h1, v, h2, h3, h4⟩ => ⟨v, h2, h3, h4, h1⟩
set_option maxRecDepth 20000 in
set_option maxHeartbeats 1000000 in
theorem kind5_any (k : Nat) (hk : k ≤ 1) (c : Pk) (s : Ps) (w : World) (h : PZ c w s) :
    Calls Tryz.prog 96 #[.pointer (some ⟨c.g, 0, none⟩), .int .i64 (k : Int)] w fun e w' => e = .returned (.int .i64 (kd5 c.T s k)) ∧ Below w.heap.size w w' := by
  have hT := h.ok
  obtain ⟨g, mb, N, tv, T, L⟩ := c
  dsimp only at hT ⊢
  have hl := hT.l
  have hle := h.le
  have c0 := h.b.cell (i := 0) rfl
  have c1 := h.b.cell (i := 1) rfl
  obtain ⟨a, cap, htv, ht⟩ := h.t
  dsimp only at htv ht c0 c1 hle
  subst htv
  obtain ⟨R, hR⟩ : ∃ R, kd5 T s k = R := ⟨_, rfl⟩
  rw [hR]
  have HR := hm7 hR
  have HT := hm7 ht
  obtain ⟨tn, htn⟩ : ∃ tn, T.length = tn := ⟨_, rfl⟩
  rw [htn] at hl hle c0
  have HN := hm7 htn
  obtain ⟨nx, hnx⟩ : ∃ nx, s.nx = nx := ⟨_, rfl⟩
  rw [hnx] at hle c1
  have HX := hm7 hnx
  clear h hR ht htn hnx hT
  obtain ⟨q, hq⟩ : ∃ q, nx + k = q := ⟨_, rfl⟩
  have hqk : (nx : Int) + (k : Int) = (q : Int) := by omega
  by_cases hlt : q < tn
  · obtain ⟨t, htt⟩ : ∃ t, T[q]? = some t := ⟨T[q]'(by rw [HN.out]; exact hlt), List.getElem?_eq_getElem _⟩
    have hRk : t.k = R := by rw [← HR.out]; unfold kd5; rw [HX.out, hq, htt]; rfl
    subst hRk
    rcases HT.out with e | ⟨b, rfl, hb, -, hc⟩
    · rw [e] at htt; simp at htt
    have q0 := (hc q t htt).1
    have i1 : (q : Int) < (tn : Int) := by omega
    have i2 : ¬ (tn : Int) ≤ (q : Int) := by omega
    have i3 : (0 : Int) ≤ (q : Int) := by omega
    clear hc htt HT HR hq
    go_enter Tryz.func96, Tryz.ntmps96
    go_wp2
    go_quiet (fail)
    go_wp2
    go_quiet (fail)
    go_wp2
    go_ret
    exact ⟨rfl, below_drewN (below_drewN (Below.refl _ _) _) _⟩
  · have hRk : R = 0 := by rw [← HR.out]; unfold kd5; rw [HX.out, hq, List.getElem?_eq_none (by rw [HN.out]; omega)]; rfl
    subst hRk
    have i1 : ¬ (q : Int) < (tn : Int) := by omega
    have i2 : (tn : Int) ≤ (q : Int) := by omega
    clear HT HR hq
    go_enter Tryz.func96, Tryz.ntmps96
    go_wp2
    go_quiet (fail)
    go_wp2
    go_ret
    exact ⟨rfl, below_drewN (Below.refl _ _) _⟩
set_option maxRecDepth 20000 in
set_option maxHeartbeats 1000000 in
theorem place5_any (c : Pk) (s : Ps) (w : World) (h : PZ c w s) :
    Calls Tryz.prog 71 #[.pointer (some ⟨c.g, 0, none⟩)] w fun e w' => e = .returned (.int .i64 (pl5 c.T c.L s)) ∧ Below w.heap.size w w' := by
  have hT := h.ok
  obtain ⟨g, mb, N, tv, T, L⟩ := c
  dsimp only at hT ⊢
  have hl := hT.l
  have hle := h.le
  have c0 := h.b.cell (i := 0) rfl
  have c1 := h.b.cell (i := 1) rfl
  have c2 := h.b.cell (i := 2) rfl
  obtain ⟨a, cap, htv, ht⟩ := h.t
  dsimp only at htv ht c0 c1 c2 hle
  subst htv
  obtain ⟨R, hR⟩ : ∃ R, pl5 T L s = R := ⟨_, rfl⟩
  rw [hR]
  have HR := hm7 hR
  have HT := hm7 ht
  obtain ⟨tn, htn⟩ : ∃ tn, T.length = tn := ⟨_, rfl⟩
  rw [htn] at hl hle c0
  have HN := hm7 htn
  obtain ⟨nx, hnx⟩ : ∃ nx, s.nx = nx := ⟨_, rfl⟩
  rw [hnx] at hle c1
  have HX := hm7 hnx
  clear h hR ht htn hnx hT
  by_cases hlt : nx < tn
  · obtain ⟨t, htt⟩ : ∃ t, T[nx]? = some t := ⟨T[nx]'(by rw [HN.out]; exact hlt), List.getElem?_eq_getElem _⟩
    have hRk : t.a = R := by rw [← HR.out]; unfold pl5; rw [HX.out, htt]; rfl
    subst hRk
    rcases HT.out with e | ⟨b, rfl, hb, -, hc⟩
    · rw [e] at htt; simp at htt
    have q3 := (hc nx t htt).2.2.2.1
    have i1 : (nx : Int) < (tn : Int) := by omega
    have i2 : ((nx : Int) == (tn : Int)) = false := by simp; omega
    have i3 : (0 : Int) ≤ (nx : Int) := by omega
    clear hc htt HT HR
    go_enter Tryz.func71, Tryz.ntmps71
    go_wp2
    go_quiet (fail)
    go_wp2
    go_quiet (fail)
    go_wp2
    go_ret
    exact ⟨rfl, below_drewN (below_drewN (Below.refl _ _) _) _⟩
  · obtain rfl : nx = tn := by omega
    have hRk : (L : Int) = R := by rw [← HR.out]; unfold pl5; rw [HX.out, List.getElem?_eq_none (by rw [HN.out]; omega)]; rfl
    subst hRk
    clear HT HR
    go_enter Tryz.func71, Tryz.ntmps71
    go_wp2
    go_quiet (fail)
    go_wp2
    go_ret
    exact ⟨rfl, below_drewN (Below.refl _ _) _⟩
end Go.Proofs.YtnikmcmkbjjcdaaGreatDoor

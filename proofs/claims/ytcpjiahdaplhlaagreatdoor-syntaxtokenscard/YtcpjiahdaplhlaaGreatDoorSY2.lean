import Derived.Test.YtcpjiahdaplhlaaGreatDoorSY0
import Derived.Test.YtcpjiahdaplhlaaGreatDoorK2
import Derived.Laws.Cover1
import Derived.Deep.QuietTactic
import Derived.BigQuiet
/-
  syntax: the parser in plain words and in memory; kind, place, giveUp.
-/
namespace Go.Proofs.YtcpjiahdaplhlaaGreatDoor
open Go.RowKit
attribute [local go_sem ↓] Go.wp_at_zero Go.wp_at_succ

/-- How far a parser has come. -/
structure Ps where
  nx : Nat
  op : Nat
  vs : Nat
  nm : ByteArray → Option Nat
/-- What it makes of the tokens: something, and how far it has come; or a fault. -/
abbrev R5 (α : Type) := Except (Int × Int) (α × Ps)
def R5.and {α β : Type} (r : R5 α) (f : α → Ps → R5 β) : R5 β := match r with
  | .error e => .error e
  | .ok (a, s) => f a s
def kd5 (T : List Tk) (s : Ps) (k : Nat) : Int := ((T[s.nx + k]?).map Tk.k).getD 0
def pl5 (T : List Tk) (L : Nat) (s : Ps) : Int := ((T[s.nx]?).map Tk.a).getD (L : Int)
def tk5 (T : List Tk) (L : Nat) (ks : List Int) (s : Ps) : R5 Tk := match T[s.nx]? with
  | some t => if t.k ∈ ks then .ok (t, ⟨s.nx + 1, s.op, s.vs, s.nm⟩) else .error (51, t.a)
  | none => .error (51, (L : Int))
/-- Tokens in memory. -/
def Tz (F : Nat → Prop) (w : World) (v : Value) (T : List Tk) : Prop :=
  ∃ a cap, v = .slice a T.length cap ∧ (T = [] ∨ ∃ b, a = some ⟨b, 0, none⟩ ∧ b < w.heap.size ∧ F b ∧ ∀ (i : Nat) (t : Tk), T[i]? = some t → w.cell? ⟨b, i * 5, none⟩ = some (.int .i64 t.k) ∧ w.cell? ⟨b, i * 5 + 1, none⟩ = some (.string t.x) ∧ w.cell? ⟨b, i * 5 + 2, none⟩ = some (.int .i64 t.n) ∧ w.cell? ⟨b, i * 5 + 3, none⟩ = some (.int .i64 t.a) ∧ w.cell? ⟨b, i * 5 + 4, none⟩ = some (.int .i64 t.e))
theorem Tz.fr {F P : Nat → Prop} {w w' : World} {v : Value} {T : List Tk} (h : Tz F w v T) (hf : Fr P w w') (hn : ∀ b, b < w.heap.size → F b → ¬ P b) : Tz F w' v T := by
  obtain ⟨a, cap, rfl, h⟩ := h
  refine ⟨a, cap, rfl, h.imp id ?_⟩
  rintro ⟨b, rfl, h1, h2, h3⟩
  refine ⟨b, rfl, Nat.lt_of_lt_of_le h1 hf.size, h2, fun i t ht => ?_⟩
  obtain ⟨c0, c1, c2, c3, c4⟩ := h3 i t ht
  exact ⟨hf.cell h1 (hn b h1 h2) c0, hf.cell h1 (hn b h1 h2) c1, hf.cell h1 (hn b h1 h2) c2, hf.cell h1 (hn b h1 h2) c3, hf.cell h1 (hn b h1 h2) c4⟩
theorem Tz.mono {F G : Nat → Prop} {w : World} {v : Value} {T : List Tk} (h : Tz F w v T) (hg : ∀ b, b < w.heap.size → F b → G b) : Tz G w v T := by
  obtain ⟨a, cap, rfl, h⟩ := h
  exact ⟨a, cap, rfl, h.imp id fun ⟨b, h0, h1, h2, h3⟩ => ⟨b, h0, h1, hg b h1 h2, h3⟩⟩
/-- Tokens that a text may have. -/
structure Tok5 (T : List Tk) (L : Nat) : Prop where
  l : T.length ≤ 2000000
  L : L ≤ 2000000
  x : ∀ t ∈ T, t.x.size ≤ 2000000
/-- The table of operators, as it is laid. -/
def opsV : Array Value := #[.int .i64 13, .int .i64 1, .string ⟨#[61]⟩, .int .i64 14, .int .i64 2, .string ⟨#[33, 61]⟩, .int .i64 15, .int .i64 3, .string ⟨#[60]⟩, .int .i64 16, .int .i64 4, .string ⟨#[60, 61]⟩]
def OpsOk (w : World) : Prop := ∃ t fr, w.heap[3]? = some (.cells opsV t fr)
theorem OpsOk.lt {w : World} (h : OpsOk w) : 3 < w.heap.size := by
  obtain ⟨t, fr, h⟩ := h
  exact (Array.getElem?_eq_some_iff.1 h).1
theorem OpsOk.fr {P : Nat → Prop} {w w' : World} (h : OpsOk w) (hf : Fr P w w') (hn : ¬ P 3) : OpsOk w' := by
  have hl := h.lt
  obtain ⟨t, fr, h⟩ := h
  exact ⟨t, fr, (hf.block _ hl hn).trans h⟩
theorem OpsOk.cell {w : World} (h : OpsOk w) {i : Nat} {v : Value} (hv : opsV[i]? = some v) : w.cell? ⟨3, i, none⟩ = some v := by
  obtain ⟨t, fr, h⟩ := h
  simp [World.cell?, h, hv]
/-- A parser: its block, that of its names, a bound to both and to where its tokens lie; its tokens; the text's length. -/
structure Pk where
  g : Nat
  mb : Nat
  N : Nat
  tv : Value
  T : List Tk
  L : Nat
/-- The parser in memory. -/
structure PZ (c : Pk) (w : World) (s : Ps) : Prop where
  b : Bk w c.g #[c.tv, .int .i64 (s.nx : Int), .int .i64 (c.L : Int), .int .i64 (s.op : Int), .map (some c.mb), .int .i64 (s.vs : Int)] 109
  t : Tz (fun b => b ≠ c.g ∧ b ≠ c.mb ∧ b < c.N) w c.tv c.T
  m : ∃ n, n ≤ s.vs ∧ Mp Tryz.prog 9 w c.mb n fun x => (s.nm x).map fun k => .int .i64 (k : Int)
  le : s.nx ≤ c.T.length
  vb : s.vs ≤ s.nx
  ob : s.op ≤ 16
  ne : c.g ≠ c.mb
  gN : c.g < c.N
  mN : c.mb < c.N
  Nw : c.N ≤ w.heap.size
  ok : Tok5 c.T c.L
  o : OpsOk w
  og : c.g ≠ 3 ∧ c.mb ≠ 3 ∧ 3 < c.N
theorem PZ.fr {P : Nat → Prop} {c : Pk} {w w' : World} {s : Ps} (h : PZ c w s) (hf : Fr P w w') (hn : ∀ b, b < c.N → ¬ P b) : PZ c w' s := by
  obtain ⟨n, hn1, hm⟩ := h.m
  exact ⟨h.b.fr hf (hn _ h.gN), h.t.fr hf fun b _ hF => hn b hF.2.2, ⟨n, hn1, hm.fr hf (hn _ h.mN)⟩, h.le, h.vb, h.ob, h.ne, h.gN, h.mN, Nat.le_trans h.Nw hf.size, h.ok, h.o.fr hf (hn _ h.og.2.2), h.og⟩
theorem PZ.below {c : Pk} {w w' : World} {s : Ps} (h : PZ c w s) (hb : Below w.heap.size w w') : PZ c w' s :=
  h.fr (P := fun _ => False) (Fr.of hb) fun _ _ h => h
theorem PZ.off {c : Pk} {w : World} {s : Ps} {r i : Nat} {v : Value} (h : PZ c w s) (hr : c.N ≤ r) : PZ c (w.setCell ⟨r, i, none⟩ v) s :=
  h.fr (P := fun b => b = r) ((Fr.refl _ w).set (Or.inl rfl)) fun b hb e => by omega
/-- What a call of the parser's may write. -/
def W5 (c : Pk) (b : Nat) : Prop := b = c.g ∨ b = c.mb
/-- Its own block is written over, no other of the elder ones. -/
theorem PZ.put {c : Pk} {w w' : World} {nx op vs : Nat} {s : Ps} (h : PZ c w s) (hf : Fr (fun b => b = c.g) w w') (hb : Bk w' c.g #[c.tv, .int .i64 (nx : Int), .int .i64 (c.L : Int), .int .i64 (op : Int), .map (some c.mb), .int .i64 (vs : Int)] 109) (h1 : nx ≤ c.T.length) (h2 : vs ≤ nx) (h3 : op ≤ 16) (h4 : s.vs ≤ vs) : PZ c w' ⟨nx, op, vs, s.nm⟩ := by
  obtain ⟨n, hn1, hm⟩ := h.m
  exact ⟨hb, h.t.fr hf fun b _ hF e => hF.1 e, ⟨n, Nat.le_trans hn1 h4, hm.fr hf fun e => h.ne e.symm⟩, h1, h2, h3, h.ne, h.gN, h.mN, Nat.le_trans h.Nw hf.size, h.ok, h.o.fr hf fun e => h.og.1 e.symm, h.og⟩
def pF (e : Int × Int) : PanicEntry := { v := .iface 26 (.agg #[.int .i64 e.1, .int .i64 e.2]), recovered := false }
theorem giveUp5_any (c a : Int) (w : World) : Calls Tryz.prog 86 #[.int .i64 c, .int .i64 a] w fun e w' => e = .panicked [pF (c, a)] ∧ w' = w := by
  go_enter Tryz.func86, Tryz.ntmps86
  go_wp2
  exact ⟨rfl, rfl, rfl⟩
/-- What a call of the parser's answers. -/
def P5P {α : Type} (c : Pk) (w : World) (V : α → Value → World → Prop) (r : R5 α) (e : Ending) (w' : World) : Prop :=
  Fr (W5 c) w w' ∧ match r with
    | .error f => e = .panicked [pF f]
    | .ok (a, s) => ∃ v, e = .returned v ∧ V a v w' ∧ PZ c w' s
theorem P5P.err {α : Type} {c : Pk} {w : World} {V : α → Value → World → Prop} {r : R5 α} {f : Int × Int} {fn : Nat} {args : Array Value} (h : Calls Tryz.prog fn args w (P5P c w V r)) (hr : r = .error f) : Calls Tryz.prog fn args w fun e w' => e = .panicked [pF f] ∧ Fr (W5 c) w w' := by
  subst hr
  exact h.mono fun e w' ⟨h1, h2⟩ => ⟨h2, h1⟩
theorem P5P.ok {α : Type} {c : Pk} {w : World} {V : α → Value → World → Prop} {r : R5 α} {a : α} {s : Ps} {fn : Nat} {args : Array Value} (h : Calls Tryz.prog fn args w (P5P c w V r)) (hr : r = .ok (a, s)) : Calls Tryz.prog fn args w fun e w' => ∃ v, e = .returned v ∧ V a v w' ∧ PZ c w' s ∧ Fr (W5 c) w w' := by
  subst hr
  exact h.mono fun e w' ⟨h1, v, h2, h3, h4⟩ => ⟨v, h2, h3, h4, h1⟩
set_option maxRecDepth 20000 in
set_option maxHeartbeats 1000000 in
theorem kind5_any (k : Nat) (hk : k ≤ 1) (c : Pk) (s : Ps) (w : World) (h : PZ c w s) :
    Calls Tryz.prog 124 #[.pointer (some ⟨c.g, 0, none⟩), .int .i64 (k : Int)] w fun e w' => e = .returned (.int .i64 (kd5 c.T s k)) ∧ Below w.heap.size w w' := by
  have hT := h.ok
  obtain ⟨g, mb, N, tv, T, L⟩ := c
  dsimp only at hT ⊢
  have hl := hT.l
  have hle := h.le
  have c0 := h.b.cell (i := 0) rfl
  have c1 := h.b.cell (i := 1) rfl
  obtain ⟨a, cap, htv, ht⟩ := h.t
  dsimp only at htv ht c0 c1 hle
  subst htv
  obtain ⟨R, hR⟩ : ∃ R, kd5 T s k = R := ⟨_, rfl⟩
  rw [hR]
  have HR := hm7 hR
  have HT := hm7 ht
  obtain ⟨tn, htn⟩ : ∃ tn, T.length = tn := ⟨_, rfl⟩
  rw [htn] at hl hle c0
  have HN := hm7 htn
  obtain ⟨nx, hnx⟩ : ∃ nx, s.nx = nx := ⟨_, rfl⟩
  rw [hnx] at hle c1
  have HX := hm7 hnx
  clear h hR ht htn hnx hT
  obtain ⟨q, hq⟩ : ∃ q, nx + k = q := ⟨_, rfl⟩
  have hqk : (nx : Int) + (k : Int) = (q : Int) := by omega
  by_cases hlt : q < tn
  · obtain ⟨t, htt⟩ : ∃ t, T[q]? = some t := ⟨T[q]'(by rw [HN.out]; exact hlt), List.getElem?_eq_getElem _⟩
    have hRk : t.k = R := by rw [← HR.out]; unfold kd5; rw [HX.out, hq, htt]; rfl
    subst hRk
    rcases HT.out with e | ⟨b, rfl, hb, -, hc⟩
    · rw [e] at htt; simp at htt
    have q0 := (hc q t htt).1
    have i1 : (q : Int) < (tn : Int) := by omega
    have i2 : ¬ (tn : Int) ≤ (q : Int) := by omega
    have i3 : (0 : Int) ≤ (q : Int) := by omega
    clear hc htt HT HR hq
    go_enter Tryz.func124, Tryz.ntmps124
    go_wp2
    go_quiet (fail)
    go_wp2
    go_quiet (fail)
    go_wp2
    go_ret
    exact ⟨rfl, below_drewN (below_drewN (Below.refl _ _) _) _⟩
  · have hRk : R = 0 := by rw [← HR.out]; unfold kd5; rw [HX.out, hq, List.getElem?_eq_none (by rw [HN.out]; omega)]; rfl
    subst hRk
    have i1 : ¬ (q : Int) < (tn : Int) := by omega
    have i2 : (tn : Int) ≤ (q : Int) := by omega
    clear HT HR hq
    go_enter Tryz.func124, Tryz.ntmps124
    go_wp2
    go_quiet (fail)
    go_wp2
    go_ret
    exact ⟨rfl, below_drewN (Below.refl _ _) _⟩
set_option maxRecDepth 20000 in
set_option maxHeartbeats 1000000 in
theorem place5_any (c : Pk) (s : Ps) (w : World) (h : PZ c w s) :
    Calls Tryz.prog 87 #[.pointer (some ⟨c.g, 0, none⟩)] w fun e w' => e = .returned (.int .i64 (pl5 c.T c.L s)) ∧ Below w.heap.size w w' := by
  have hT := h.ok
  obtain ⟨g, mb, N, tv, T, L⟩ := c
  dsimp only at hT ⊢
  have hl := hT.l
  have hle := h.le
  have c0 := h.b.cell (i := 0) rfl
  have c1 := h.b.cell (i := 1) rfl
  have c2 := h.b.cell (i := 2) rfl
  obtain ⟨a, cap, htv, ht⟩ := h.t
  dsimp only at htv ht c0 c1 c2 hle
  subst htv
  obtain ⟨R, hR⟩ : ∃ R, pl5 T L s = R := ⟨_, rfl⟩
  rw [hR]
  have HR := hm7 hR
  have HT := hm7 ht
  obtain ⟨tn, htn⟩ : ∃ tn, T.length = tn := ⟨_, rfl⟩
  rw [htn] at hl hle c0
  have HN := hm7 htn
  obtain ⟨nx, hnx⟩ : ∃ nx, s.nx = nx := ⟨_, rfl⟩
  rw [hnx] at hle c1
  have HX := hm7 hnx
  clear h hR ht htn hnx hT
  by_cases hlt : nx < tn
  · obtain ⟨t, htt⟩ : ∃ t, T[nx]? = some t := ⟨T[nx]'(by rw [HN.out]; exact hlt), List.getElem?_eq_getElem _⟩
    have hRk : t.a = R := by rw [← HR.out]; unfold pl5; rw [HX.out, htt]; rfl
    subst hRk
    rcases HT.out with e | ⟨b, rfl, hb, -, hc⟩
    · rw [e] at htt; simp at htt
    have q3 := (hc nx t htt).2.2.2.1
    have i1 : (nx : Int) < (tn : Int) := by omega
    have i2 : ((nx : Int) == (tn : Int)) = false := by simp; omega
    have i3 : (0 : Int) ≤ (nx : Int) := by omega
    clear hc htt HT HR
    go_enter Tryz.func87, Tryz.ntmps87
    go_wp2
    go_quiet (fail)
    go_wp2
    go_quiet (fail)
    go_wp2
    go_ret
    exact ⟨rfl, below_drewN (below_drewN (Below.refl _ _) _) _⟩
  · obtain rfl : nx = tn := by omega
    have hRk : (L : Int) = R := by rw [← HR.out]; unfold pl5; rw [HX.out, List.getElem?_eq_none (by rw [HN.out]; omega)]; rfl
    subst hRk
    clear HT HR
    go_enter Tryz.func87, Tryz.ntmps87
    go_wp2
    go_quiet (fail)
    go_wp2
    go_ret
    exact ⟨rfl, below_drewN (Below.refl _ _) _⟩
end Go.Proofs.YtcpjiahdaplhlaaGreatDoor
/-
  syntax: take. (Written by SY2.py.)
-/
namespace Go.Proofs.YtcpjiahdaplhlaaGreatDoor
open Go.RowKit
attribute [local go_sem ↓] Go.wp_at_zero Go.wp_at_succ

theorem Nm5.below {w w' : World} {v : Value} {l : List Int} (h : Nm5 w v l) (hb : Below w.heap.size w w') : Nm5 w' v l := by
  obtain ⟨b, cap, rfl, h1, h2⟩ := h
  refine ⟨b, cap, rfl, h1, fun i x hx => ?_⟩
  have hc := h2 i x hx
  rw [hb.cell (p := ⟨b, i, none⟩) (World.block_lt_of_cell? w _ hc)]
  exact hc
theorem Nm5.bk {w : World} {g cap : Nat} {c : Array Value} {ks : List Int} (h : Bk w g c 3) (hc : c.toList = ks.map (.int .i64)) (hl : ks.length ≤ 100) : Nm5 w (.slice (some ⟨g, 0, none⟩) ks.length cap) ks := by
  refine ⟨g, cap, rfl, hl, fun i x hx => h.cell ?_⟩
  rw [← Array.getElem?_toList, hc, List.getElem?_map, hx]; rfl
theorem store5y {w : World} {g : Nat} {t : TypeId} {z0 z1 z2 z3 z4 a b c d e : Value} (h : Bk w g #[z0, z1, z2, z3, z4] t) : Bk (((((w.setCell ⟨g, 0, none⟩ a).setCell ⟨g, 1, none⟩ b).setCell ⟨g, 2, none⟩ c).setCell ⟨g, 3, none⟩ d).setCell ⟨g, 4, none⟩ e) g #[a, b, c, d, e] t := by
  have := ((((h.set 0 a).set 1 b).set 2 c).set 3 d).set 4 e
  simpa using this
theorem kind5_0 (c : Pk) (s : Ps) (w : World) (h : PZ c w s) :
    Calls Tryz.prog 124 #[.pointer (some ⟨c.g, 0, none⟩), .int .i64 0] w fun e w' => e = .returned (.int .i64 (kd5 c.T s 0)) ∧ Below w.heap.size w w' := kind5_any 0 (by omega) c s w h
theorem kind5_1 (c : Pk) (s : Ps) (w : World) (h : PZ c w s) :
    Calls Tryz.prog 124 #[.pointer (some ⟨c.g, 0, none⟩), .int .i64 1] w fun e w' => e = .returned (.int .i64 (kd5 c.T s 1)) ∧ Below w.heap.size w w' := kind5_any 1 (by omega) c s w h
set_option maxRecDepth 20000 in
set_option maxHeartbeats 1000000 in
theorem take5_no (ks : List Int) (kv : Value) (c : Pk) (s : Ps) (w : World) (h : PZ c w s) (hk : Nm5 w kv ks) (hn : kd5 c.T s 0 ∉ ks) :
    Calls Tryz.prog 85 #[.pointer (some ⟨c.g, 0, none⟩), kv] w fun e w' => e = .panicked [pF (51, pl5 c.T c.L s)] ∧ Below w.heap.size w w' := by
  obtain ⟨R, hR⟩ : ∃ R, kd5 c.T s 0 = R := ⟨_, rfl⟩
  obtain ⟨P, hP⟩ : ∃ P, pl5 c.T c.L s = P := ⟨_, rfl⟩
  have HK : Hid (∀ X : World, Below w.heap.size w X → Calls Tryz.prog 124 #[.pointer (some ⟨c.g, 0, none⟩), .int .i64 0] X fun e w' => e = .returned (.int .i64 R) ∧ Below X.heap.size X w') := fun X hX => by rw [← hR]; exact kind5_0 c s X (h.below hX)
  have HC : Hid (∀ X : World, Below w.heap.size w X → Calls Tryz.prog 123 #[kv, .int .i64 R] X fun e w' => e = .returned (.bool false) ∧ w' = X) := fun X hX => by
    have := cont5_any ks kv R X (hk.below hX)
    rw [decide_eq_false (by rw [← hR]; exact hn)] at this
    exact this
  have HP : Hid (∀ X : World, Below w.heap.size w X → Calls Tryz.prog 87 #[.pointer (some ⟨c.g, 0, none⟩)] X fun e w' => e = .returned (.int .i64 P) ∧ Below X.heap.size X w') := fun X hX => by rw [← hP]; exact place5_any c s X (h.below hX)
  obtain ⟨kb, cap, rfl, -, -⟩ := hk
  rw [hP]
  clear h hn hR hP
  generalize c.g = g at *
  generalize ks.length = kn at *
  go_enter Tryz.func85, Tryz.ntmps85
  go_wp2_with (first
    | (go_at_call 124; refine (HK.out _ (below1 _ _)).mono ?_; rintro e w1 ⟨rfl, hb⟩; have HB1 := hm7 ((below1 _ _).trans (hb.mono (below1 _ _).size)); clear hb)
    | (go_at_call 123; refine (HC.out _ HB1.out).mono ?_; rintro e w2 ⟨rfl, hw⟩; rw [hw]; clear hw w2)
    | (go_at_call 87; refine (HP.out _ HB1.out).mono ?_; rintro e w3 ⟨rfl, hb⟩; have HB3 := hm7 (HB1.out.trans (hb.mono HB1.out.size)); clear hb)
    | (go_at_call 86; refine (giveUp5_any 51 P _).mono ?_; rintro e w4 ⟨rfl, hw⟩; rw [hw]; clear hw w4))
  exact ⟨rfl, rfl, HB3.out⟩
set_option maxRecDepth 20000 in
set_option maxHeartbeats 2000000 in
theorem take5_ok (t : Tk) (ks : List Int) (kv : Value) (c : Pk) (s : Ps) (w : World) (h : PZ c w s) (hk : Nm5 w kv ks) (ht : c.T[s.nx]? = some t) (hn : t.k ∈ ks) :
    Calls Tryz.prog 85 #[.pointer (some ⟨c.g, 0, none⟩), kv] w fun e w' => e = .returned t.v ∧ PZ c w' ⟨s.nx + 1, s.op, s.vs, s.nm⟩ ∧ Fr (W5 c) w w' := by
  have hR : kd5 c.T s 0 = t.k := by unfold kd5; rw [Nat.add_zero, ht]; rfl
  have hlt : s.nx < c.T.length := (List.getElem?_eq_some_iff.1 ht).1
  have hl := h.ok.l
  have HK : Hid (∀ X : World, Below w.heap.size w X → Calls Tryz.prog 124 #[.pointer (some ⟨c.g, 0, none⟩), .int .i64 0] X fun e w' => e = .returned (.int .i64 t.k) ∧ Below X.heap.size X w') := fun X hX => by rw [← hR]; exact kind5_0 c s X (h.below hX)
  have HC : Hid (∀ X : World, Below w.heap.size w X → Calls Tryz.prog 123 #[kv, .int .i64 t.k] X fun e w' => e = .returned (.bool true) ∧ w' = X) := fun X hX => by
    have := cont5_any ks kv t.k X (hk.below hX)
    rw [decide_eq_true hn] at this
    exact this
  have HZ : Hid (∀ X : World, Below w.heap.size w X → PZ c X s) := fun X hX => h.below hX
  have HLT := hm7 hlt
  have HW := hm7 h
  obtain ⟨a, cap, htv, htt⟩ := h.t
  have HCW : Hid (∃ b, a = some ⟨b, 0, none⟩ ∧ ∀ X : World, Below w.heap.size w X → X.cell? ⟨c.g, 0, none⟩ = some c.tv ∧ X.cell? ⟨c.g, 1, none⟩ = some (.int .i64 (s.nx : Int)) ∧ X.cell? ⟨b, s.nx * 5, none⟩ = some (.int .i64 t.k) ∧ X.cell? ⟨b, s.nx * 5 + 1, none⟩ = some (.string t.x) ∧ X.cell? ⟨b, s.nx * 5 + 2, none⟩ = some (.int .i64 t.n) ∧ X.cell? ⟨b, s.nx * 5 + 3, none⟩ = some (.int .i64 t.a) ∧ X.cell? ⟨b, s.nx * 5 + 4, none⟩ = some (.int .i64 t.e)) := by
    rcases htt with e | ⟨b, rfl, hb, -, hc⟩
    · rw [e] at ht; simp at ht
    · refine ⟨b, rfl, fun X hX => ?_⟩
      obtain ⟨c0, c1, c2, c3, c4⟩ := hc _ _ ht
      have f : Fr (fun _ => False) w X := Fr.of hX
      exact ⟨(h.below hX).b.cell (i := 0) rfl, (h.below hX).b.cell (i := 1) rfl, f.cell hb (fun x => x) c0, f.cell hb (fun x => x) c1, f.cell hb (fun x => x) c2, f.cell hb (fun x => x) c3, f.cell hb (fun x => x) c4⟩
  obtain ⟨b, rfl, HCX⟩ := HCW.out
  obtain ⟨kb, kcap, rfl, -, -⟩ := hk
  generalize ks.length = kn at *
  have hgw : c.g < w.heap.size := h.b.lt
  obtain ⟨nx, hnx⟩ : ∃ nx, s.nx = nx := ⟨_, rfl⟩
  have HTV := hm7 htv
  rw [htv] at HCX
  rw [hnx] at HCX hlt
  have HX := hm7 hnx
  obtain ⟨tl, htl⟩ : ∃ tl, c.T.length = tl := ⟨_, rfl⟩
  rw [htl] at HCX hlt hl
  have HCY := hm7 HCX
  clear h hn hR HCX HCW htt htv hnx htl ht
  obtain ⟨g, mb, N, tv, T, L⟩ := c
  dsimp only at *
  obtain ⟨tk, tx, tn, ta, te⟩ := t
  simp only at HCY HK HC
  have i1 : (nx : Int) < (tl : Int) := by omega
  have i2 : (0 : Int) ≤ (nx : Int) := by omega
  have HR0 := hm7 (Bk.new w #[.int .i64 0, .string ⟨#[]⟩, .int .i64 0, .int .i64 0, .int .i64 0] 64)
  have HB0 := hm7 (below1 w (.cells #[.int .i64 0, .string ⟨#[]⟩, .int .i64 0, .int .i64 0, .int .i64 0] 64))
  go_enter Tryz.func85, Tryz.ntmps85
  go_upto_region 1 with fail
  revert HR0 HB0
  generalize w.alloc (.cells #[.int .i64 0, .string ⟨#[]⟩, .int .i64 0, .int .i64 0, .int .i64 0] 64) = W0
  obtain ⟨r, hr⟩ : ∃ r, w.heap.size = r := ⟨_, rfl⟩
  intro HR0 HB0
  rw [hr] at HR0
  rw [hr]
  have HRQ := hm7 hr
  clear hr
  go_upto_region 3 with (first
    | (go_at_call 124; refine (HK.out _ HB0.out).mono ?_; rintro e W1 ⟨rfl, hb⟩; have HB1 := hm7 (HB0.out.trans (hb.mono HB0.out.size)); have HR1 := hm7 (HR0.out.below hb); clear hb)
    | (go_at_call 123; refine (HC.out _ HB1.out).mono ?_; rintro e w2 ⟨rfl, hw⟩; rw [hw]; clear hw w2))
  have HCL := hm7 (fun Y hY => HCY.out Y (HB1.out.trans (Below.mono hY HB1.out.size)))
  refine wp_region_held_drew (S := fun w' => Below W1.heap.size W1 w') (by kernel_rfl) (by exact (Below.refl _ _).drew) (fun hH => ?_)
  revert hH
  generalize W1.drew = V0
  intro hH
  refine wpAnyH_take (i := 0) (oi := ⟨_, _, _, _, _, _⟩) (v := .pointer (some ⟨g, 0, none⟩)) rfl (by kernel_rfl) (by kernel_rfl) (by kernel_rfl) (fun _ _ _ h => h) (Or.inl ⟨by rfl, fun w' h => by clear h; go_simp⟩) hH ?_
  simp only [Act.put, List.setIfInBounds_toArray, List.set_cons_zero, List.set_cons_succ]
  refine wpAnyH_take (i := 1) (oi := ⟨_, _, _, _, _, _⟩) (v := .pointer (some ⟨g, 0, none⟩)) rfl (by kernel_rfl) (by kernel_rfl) (by kernel_rfl) (fun _ _ _ h => h) (Or.inl ⟨by rfl, fun w' h => by clear h; go_simp⟩) hH ?_
  simp only [Act.put, List.setIfInBounds_toArray, List.set_cons_zero, List.set_cons_succ]
  refine wpAnyH_take (i := 2) (oi := ⟨_, _, _, _, _, _⟩) (v := .pointer (some ⟨g, 0, none⟩)) rfl (by kernel_rfl) (by kernel_rfl) (by kernel_rfl) (fun _ _ _ h => h) (Or.inl ⟨by rfl, fun w' h => by clear h; go_simp⟩) hH ?_
  simp only [Act.put, List.setIfInBounds_toArray, List.set_cons_zero, List.set_cons_succ]
  refine wpAnyH_take (i := 3) (oi := ⟨_, _, _, _, _, _⟩) (v := .slice (some ⟨b, 0, none⟩) tl cap) rfl (by kernel_rfl) (by kernel_rfl) (by kernel_rfl) (fun _ _ _ h => h) (Or.inl ⟨by rfl, fun w' h => by have q := (HCL.out w' h).1; clear h; go_simp⟩) hH ?_
  simp only [Act.put, List.setIfInBounds_toArray, List.set_cons_zero, List.set_cons_succ]
  refine wpAnyH_take (i := 4) (oi := ⟨_, _, _, _, _, _⟩) (v := .pointer (some ⟨g, 0, none⟩)) rfl (by kernel_rfl) (by kernel_rfl) (by kernel_rfl) (fun _ _ _ h => h) (Or.inl ⟨by rfl, fun w' h => by clear h; go_simp⟩) hH ?_
  simp only [Act.put, List.setIfInBounds_toArray, List.set_cons_zero, List.set_cons_succ]
  refine wpAnyH_take (i := 5) (oi := ⟨_, _, _, _, _, _⟩) (v := .pointer (some ⟨g, 0, none⟩)) rfl (by kernel_rfl) (by kernel_rfl) (by kernel_rfl) (fun _ _ _ h => h) (Or.inl ⟨by rfl, fun w' h => by clear h; go_simp⟩) hH ?_
  simp only [Act.put, List.setIfInBounds_toArray, List.set_cons_zero, List.set_cons_succ]
  refine wpAnyH_take (i := 6) (oi := ⟨_, _, _, _, _, _⟩) (v := .pointer (some ⟨g, 1, none⟩)) rfl (by kernel_rfl) (by kernel_rfl) (by kernel_rfl) (fun _ _ _ h => h) (Or.inl ⟨by rfl, fun w' h => by clear h; go_simp⟩) hH ?_
  simp only [Act.put, List.setIfInBounds_toArray, List.set_cons_zero, List.set_cons_succ]
  refine wpAnyH_take (i := 7) (oi := ⟨_, _, _, _, _, _⟩) (v := .int .i64 (nx : Int)) rfl (by kernel_rfl) (by kernel_rfl) (by kernel_rfl) (fun _ _ _ h => h) (Or.inl ⟨by rfl, fun w' h => by have q := (HCL.out w' h).2.1; clear h; go_simp⟩) hH ?_
  simp only [Act.put, List.setIfInBounds_toArray, List.set_cons_zero, List.set_cons_succ]
  refine wpAnyH_take (i := 8) (oi := ⟨_, _, _, _, _, _⟩) (v := .pointer (some ⟨b, nx * 5, none⟩)) rfl (by kernel_rfl) (by kernel_rfl) (by kernel_rfl) (fun _ _ _ h => h) (Or.inl ⟨by rfl, fun w' h => by clear h; go_simp⟩) hH ?_
  simp only [Act.put, List.setIfInBounds_toArray, List.set_cons_zero, List.set_cons_succ]
  refine wpAnyH_take (i := 9) (oi := ⟨_, _, _, _, _, _⟩) (v := .agg #[.int .i64 tk, .string tx, .int .i64 tn, .int .i64 ta, .int .i64 te]) rfl (by kernel_rfl) (by kernel_rfl) (by kernel_rfl) (fun _ _ _ h => h) (Or.inl ⟨by rfl, fun w' h => by obtain ⟨-, -, q0, q1, q2, q3, q4⟩ := HCL.out w' h; clear h; go_simp⟩) hH ?_
  simp only [Act.put, List.setIfInBounds_toArray, List.set_cons_zero, List.set_cons_succ]
  refine wpAnyH_ready (rs := [10]) (by kernel_rfl) (by simp) ?_
  refine (AllReadyH.cons (o := ⟨_, _, _, _, _, _⟩) rfl (fun K hK => ?_) AllReadyH.nil)
  go_simp
  have HCC := hm7 (Bk.new V0 (#[.int .i64 0, .string ⟨#[]⟩, .int .i64 0, .int .i64 0, .int .i64 0]) 64)
  have HCZ := hm7 hH.size
  refine hK.out _ _ (hH.trans ((below1 _ _).mono hH.size)) (fun hH => ?_)
  clear hK
  try simp only [Act.put, List.setIfInBounds_toArray, List.set_cons_zero, List.set_cons_succ]
  generalize V0.alloc (.cells (#[.int .i64 0, .string ⟨#[]⟩, .int .i64 0, .int .i64 0, .int .i64 0]) 64) = V1 at *
  generalize V0.heap.size = C at *
  have q0 := HCC.out.cell (i := 0) rfl
  have q1 := HCC.out.cell (i := 1) rfl
  have q2 := HCC.out.cell (i := 2) rfl
  have q3 := HCC.out.cell (i := 3) rfl
  have q4 := HCC.out.cell (i := 4) rfl
  have f0 := HCC.out.froz 0
  have f1 := HCC.out.froz 1
  have f2 := HCC.out.froz 2
  have f3 := HCC.out.froz 3
  have f4 := HCC.out.froz 4
  have hcl := HCC.out.lt
  refine wpAnyH_ready (rs := [11]) (by kernel_rfl) (by simp) ?_
  refine (AllReadyH.cons (o := ⟨_, _, _, _, _, _⟩) rfl (fun K hK => ?_) AllReadyH.nil)
  go_simp
  refine hK.out _ _ (((((hH.setCell (p := ⟨C, 0, none⟩) HCZ.out _).setCell (p := ⟨C, 1, none⟩) HCZ.out _).setCell (p := ⟨C, 2, none⟩) HCZ.out _).setCell (p := ⟨C, 3, none⟩) HCZ.out _).setCell (p := ⟨C, 4, none⟩) HCZ.out _) (fun hH => ?_)
  clear hK
  try simp only [Act.put, List.setIfInBounds_toArray, List.set_cons_zero, List.set_cons_succ]
  refine wpAnyH_done (by kernel_rfl) ?_ _
  have HB2 := hm7 hH
  have HC2 := hm7 (store5y HCC.out (a := .int .i64 tk) (b := .string tx) (c := .int .i64 tn) (d := .int .i64 ta) (e := .int .i64 te))
  clear hH q0 q1 q2 q3 q4 f0 f1 f2 f3 f4 hcl HCC
  revert HB2 HC2
  generalize ((((V1.setCell ⟨C, 0, none⟩ (.int .i64 tk)).setCell ⟨C, 1, none⟩ (.string tx)).setCell ⟨C, 2, none⟩ (.int .i64 tn)).setCell ⟨C, 3, none⟩ (.int .i64 ta)).setCell ⟨C, 4, none⟩ (.int .i64 te) = W2
  intro HB2 HC2
  have HB3 := hm7 (HB1.out.trans (HB2.out.mono HB1.out.size))
  have HZ2 := hm7 (HZ.out W2 HB3.out)
  have HR2 := hm7 (HR1.out.below HB2.out)
  have hnx1 : ((nx + 1 : Nat) : Int) = (nx : Int) + 1 := by omega
  have HG3 : Hid (Bk (W2.setCell ⟨g, 1, none⟩ (.int .i64 ((nx : Int) + 1))) g #[tv, .int .i64 ((nx + 1 : Nat) : Int), .int .i64 (L : Int), .int .i64 (s.op : Int), .map (some mb), .int .i64 (s.vs : Int)] 109) := by
    have := HZ2.out.b.set 1 (.int .i64 ((nx : Int) + 1))
    show Bk _ _ _ _
    rw [hnx1]
    simpa using this
  have HF3 : Hid (Fr (fun b => b = g) w (W2.setCell ⟨g, 1, none⟩ (.int .i64 ((nx : Int) + 1)))) := (Fr.of HB3.out).set (Or.inl rfl)
  clear hnx1
  have n0 := (HCY.out W2 HB3.out).2.1
  have fg := HZ2.out.b.froz 1
  have hgl := HZ2.out.b.lt
  have HC3 := hm7 (HC2.out.off (G := g) (i := 1) (v := .int .i64 ((nx : Int) + 1)) (fun e => by have := HCZ.out; have := HB1.out.size; omega))
  have HR3 := hm7 (HR2.out.off (G := g) (i := 1) (v := .int .i64 ((nx : Int) + 1)) (fun e => by have := HRQ.out; omega))
  go_upto_region 5 with fail
  clear n0 fg hgl
  revert HG3 HF3 HC3 HR3
  generalize W2.setCell ⟨g, 1, none⟩ (.int .i64 ((nx : Int) + 1)) = W3
  intro HG3 HF3 HC3 HR3
  have q0 := HC3.out.cell (i := 0) rfl
  have q1 := HC3.out.cell (i := 1) rfl
  have q2 := HC3.out.cell (i := 2) rfl
  have q3 := HC3.out.cell (i := 3) rfl
  have q4 := HC3.out.cell (i := 4) rfl
  have r0 := HR3.out.cell (i := 0) rfl
  have r1 := HR3.out.cell (i := 1) rfl
  have r2 := HR3.out.cell (i := 2) rfl
  have r3 := HR3.out.cell (i := 3) rfl
  have r4 := HR3.out.cell (i := 4) rfl
  have f0 := HR3.out.froz 0
  have f1 := HR3.out.froz 1
  have f2 := HR3.out.froz 2
  have f3 := HR3.out.froz 3
  have f4 := HR3.out.froz 4
  have hrl := HR3.out.lt
  have HRZ := hm7 (store5y HR3.out (a := .int .i64 tk) (b := .string tx) (c := .int .i64 tn) (d := .int .i64 ta) (e := .int .i64 te))
  have z0 := HRZ.out.cell (i := 0) rfl
  have z1 := HRZ.out.cell (i := 1) rfl
  have z2 := HRZ.out.cell (i := 2) rfl
  have z3 := HRZ.out.cell (i := 3) rfl
  have z4 := HRZ.out.cell (i := 4) rfl
  have HRW : Hid (w.heap.size ≤ r) := by show _ ≤ _; rw [HRQ.out]; exact Nat.le_refl _
  have HFZ := hm7 (((((HF3.out.set (i := 0) (v := .int .i64 tk) (Or.inr HRW.out)).set (i := 1) (v := .string tx) (Or.inr HRW.out)).set (i := 2) (v := .int .i64 tn) (Or.inr HRW.out)).set (i := 3) (v := .int .i64 ta) (Or.inr HRW.out)).set (i := 4) (v := .int .i64 te) (Or.inr HRW.out))
  have HGN : Hid (g ≠ r) := fun e => by have := HRW.out; omega
  have HGZ := hm7 (((((HG3.out.off (i := 0) (v := .int .i64 tk) HGN.out).off (i := 1) (v := .string tx) HGN.out).off (i := 2) (v := .int .i64 tn) HGN.out).off (i := 3) (v := .int .i64 ta) HGN.out).off (i := 4) (v := .int .i64 te) HGN.out)
  go_wp2
  refine bodyPost_ret (v := .agg #[.int .i64 tk, .string tx, .int .i64 tn, .int .i64 ta, .int .i64 te]) (by simp [results, Tryz.results85, go_sem, z0, z1, z2, z3, z4]) rfl ?_
  have h5 := HW.out.put HFZ.out HGZ.out (by have h1 : s.nx < T.length := HLT.out; have := HX.out; show nx + 1 ≤ T.length; omega) (by have := HW.out.vb; have := HX.out; omega) HW.out.ob (Nat.le_refl _)
  rw [← HX.out] at h5
  exact ⟨rfl, h5, HFZ.out.mono fun b _ e => Or.inl e⟩
end Go.Proofs.YtcpjiahdaplhlaaGreatDoor

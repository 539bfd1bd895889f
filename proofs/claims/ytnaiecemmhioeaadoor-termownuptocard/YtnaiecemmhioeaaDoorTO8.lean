/-
  TermOwn's lists, while one is put behind each. (Written by TO8.py.)
-/
import Derived.Test.YtnaiecemmhioeaaDoorTO6
namespace Go.Proofs.YtnaiecemmhioeaaDoor
open Go.RowKit

theorem Tryd.infoTerms9 : (Tryd.prog.info? 24).map (fun i => (i.zero, i.size, i.bytes)) = some (some (.slice none 0 0), 1, 24) := by kernel_rfl
theorem Tryd.infoBinding9 : (Tryd.prog.info? 28).map (fun i => (i.zero, i.size, i.bytes)) = some (some (.slice none 0 0), 1, 24) := by kernel_rfl
theorem Tryd.infoInts9 : (Tryd.prog.info? 48).map (fun i => (i.zero, i.size, i.bytes)) = some (some (.slice none 0 0), 1, 24) := by kernel_rfl
theorem Tryd.infoTerm9 : (Tryd.prog.info? 23).map (fun i => (i.zero, i.size, i.bytes)) = some (some (.agg #[.int .i64 0, .int .i64 0, .string ⟨#[]⟩]), 3, 32) := by kernel_rfl
theorem Tryd.infoBind9 : (Tryd.prog.info? 43).map (fun i => (i.zero, i.size, i.bytes)) = some (some (.agg #[.int .i64 0, .int .i64 0, .int .i64 0, .string ⟨#[]⟩]), 4, 40) := by kernel_rfl
theorem Tryd.infoInt9 : (Tryd.prog.info? 3).map (fun i => (i.zero, i.size, i.bytes)) = some (some (.int .i64 0), 1, 8) := by kernel_rfl

theorem gb_weak {X Y : World} (h : X.grownBy Y none) (row : Option Nat) : X.grownBy Y row := ⟨h.os, h.tape, h.output, h.size, fun k hk _ => h.block k hk (by simp)⟩
theorem gb_below {X Y : World} (hb : Below X.heap.size X Y) : X.grownBy Y none := ⟨hb.os, hb.tape, hb.output, hb.size, fun k hk _ => hb.block k hk⟩
theorem Blk.grown9 {w w' : World} {g : Nat} {c : Array Value} {t : TypeId} {row : Option Nat} (h : Blk w g c t) (hg : w.grownBy w' row) (hne : ∀ b, row = some b → ∃ cur ty, w.heap[b]? = some (.cells cur ty (0, 0)) ∧ ty ≠ t) : Blk w' g c t := by
  refine (hg.block g h.lt fun e => ?_).trans h
  obtain ⟨cur, ty, h1, h2⟩ := hne g e.symm
  unfold Blk at h
  rw [h1] at h
  simp only [Option.some.injEq, Obj.cells.injEq] at h
  exact h2 h.2.1
theorem Blk.other9 {W : World} {k G i : Nat} {c : Array Value} {t : TypeId} {a : Value} (h : Blk W k c t) (hk : k ≠ G) : Blk (W.setCell ⟨G, i, none⟩ a) k c t := (heap_setCell_other _ _ _ _ (fun e => hk (by rw [e]))).trans h
theorem one_G {X : World} {B n K : Nat} {ty : TypeId} {v : Value} {cs : List Value} (h : X.ownsRow B ty K v n cs) : v.oneCell' = true := by
  rcases h.2 with ⟨rfl, -⟩ | ⟨g, cap, cur, rfl, -⟩ <;> rfl
theorem own_form9 {X : World} {B n K : Nat} {ty : TypeId} {v : Value} {cs : List Value} (h : X.ownsRow B ty K v n cs) : ∃ a c, v = .slice a n c := by
  rcases h.2 with ⟨rfl, rfl⟩ | ⟨g, cap, cur, rfl, -⟩
  · exact ⟨_, _, rfl⟩
  · exact ⟨_, _, rfl⟩
theorem frz9 {X : World} {g : Nat} {c : Array Value} {t : TypeId} (h : Blk X g c t) (i : Nat) : X.frozen? ⟨g, i, none⟩ = false := by unfold Blk at h; simp [World.frozen?, h]
/-- What append of one answers. -/
def Ap (B : Nat) (ty : TypeId) (K : Nat) (X Y : World) (v : Value) (n : Nat) (G : Value) (cs : List Value) : Prop := Y.ownsRow B ty K G (n + 1) cs ∧ ((∃ g cap, v = .slice (some ⟨g, 0, none⟩) n cap ∧ G = .slice (some ⟨g, 0, none⟩) (n + 1) cap ∧ X.grownBy Y (some g)) ∨ (X.grownBy Y none ∧ ∀ k, G.ownBlock = some k → X.heap.size ≤ k))
theorem Ap.later {B K n : Nat} {ty : TypeId} {X Y Z : World} {v G : Value} {cs : List Value} (h : Ap B ty K X Y v n G cs) (hb : Below Y.heap.size Y Z) : Ap B ty K X Z v n G cs := by
  refine ⟨own_kept h.1 (gb_below hb) (fun b _ e => by cases e), ?_⟩
  rcases h.2 with ⟨g, cap, h1, h2, h3⟩ | ⟨h1, h2⟩
  · exact Or.inl ⟨g, cap, h1, h2, h3.trans (gb_weak (gb_below hb) _)⟩
  · exact Or.inr ⟨h1.trans (gb_below hb), h2⟩
theorem Ap.row {B K n : Nat} {ty : TypeId} {X Y : World} {v G : Value} {cs ds : List Value} (h : Ap B ty K X Y v n G cs) (hv : X.ownsRow B ty K v n ds) : ∃ row, X.grownBy Y row ∧ ∀ b, row = some b → B ≤ b ∧ ∃ cur, X.heap[b]? = some (.cells cur ty (0, 0)) := by
  rcases h.2 with ⟨g, cap, h1, h2, h3⟩ | ⟨h1, h2⟩
  · exact ⟨_, h3, fun b e => own_block hv (by cases e; rw [h1]; rfl)⟩
  · exact ⟨none, h1, fun b e => by cases e⟩
theorem Ap.own {B K n : Nat} {ty : TypeId} {X Y : World} {v G : Value} {cs : List Value} (h : Ap B ty K X Y v n G cs) : X.grownBy Y v.ownBlock := by
  rcases h.2 with ⟨g, cap, h1, h2, h3⟩ | ⟨h1, h2⟩
  · rw [h1]; exact h3
  · exact gb_weak h1 _
/-- What the walk wants of memory within one round. -/
structure Md (B W2 Lb Mb : Nat) (La Ma : Array Value) (oty : TypeId) (v u : Value) (xs gs : List (Value × Nat)) (n : Nat) (X : World) : Prop where
  l : Blk X Lb La 36
  m : Blk X Mb Ma 36
  o : X.ownsRow B oty 1 v xs.length (xs.map (·.1))
  u' : X.ownsRow W2 oty 1 u n (gs.map (·.1))
  z : W2 ≤ X.heap.size
  vl : ∀ b, v.ownBlock = some b → b < W2
section
variable {B W2 Lb Mb n : Nat} {La Ma : Array Value} {oty : TypeId} {v u : Value} {xs gs : List (Value × Nat)} {X Y : World}
theorem Md.kept {row : Option Nat} (h : Md B W2 Lb Mb La Ma oty v u xs gs n X) (hg : X.grownBy Y row) (hne : ∀ b, row = some b → ∃ cur ty, X.heap[b]? = some (.cells cur ty (0, 0)) ∧ ty ≠ oty ∧ ty ≠ 36) : Md B W2 Lb Mb La Ma oty v u xs gs n Y := by
  have hl : ∀ b, row = some b → ∃ cur ty, X.heap[b]? = some (.cells cur ty (0, 0)) ∧ ty ≠ 36 := fun b e => by obtain ⟨c, t, h1, -, h2⟩ := hne b e; exact ⟨c, t, h1, h2⟩
  have ho : ∀ {c m : Nat} {q : Value} {cs : List Value}, X.ownsRow c oty 1 q m cs → ∀ b, q.ownBlock = some b → row = some b → False := fun hq b hb e => by
    obtain ⟨c, t, h1, h2, -⟩ := hne b e
    obtain ⟨-, cur, hc⟩ := own_block hq hb
    rw [h1] at hc
    simp only [Option.some.injEq, Obj.cells.injEq] at hc
    exact h2 hc.2.1
  exact ⟨h.l.grown9 hg hl, h.m.grown9 hg hl, own_kept h.o hg (ho h.o), own_kept h.u' hg (ho h.u'), Nat.le_trans h.z hg.size, h.vl⟩
theorem Md.later (h : Md B W2 Lb Mb La Ma oty v u xs gs n X) (hb : Below X.heap.size X Y) : Md B W2 Lb Mb La Ma oty v u xs gs n Y := h.kept (gb_below hb) (fun b e => by cases e)
theorem Md.ap {ity : TypeId} {K m : Nat} {q G : Value} {cs ds : List Value} (h : Md B W2 Lb Mb La Ma oty v u xs gs n X) (ha : Ap B ity K X Y q m G cs) (hv : X.ownsRow B ity K q m ds) (h1 : ity ≠ oty) (h2 : ity ≠ 36) : Md B W2 Lb Mb La Ma oty v u xs gs n Y := by
  obtain ⟨row, hr, hb⟩ := ha.row hv
  exact h.kept hr (fun b e => by obtain ⟨-, cur, hc⟩ := hb b e; exact ⟨cur, ity, hc, h1, h2⟩)
theorem Md.ap2 {G u2 : Value} {m : Nat} (h : Md B W2 Lb Mb La Ma oty v u xs gs n X) (ha : Ap W2 oty 1 X Y u n u2 (gs.map (·.1) ++ [G])) (h2 : oty ≠ 36) : Md B W2 Lb Mb La Ma oty v u2 xs (gs ++ [(G, m)]) (n + 1) Y := by
  have hg := ha.own
  have hb : ∀ b, u.ownBlock = some b → W2 ≤ b ∧ ∃ cur, X.heap[b]? = some (.cells cur oty (0, 0)) := fun b e => own_block h.u' e
  have hl : ∀ b, u.ownBlock = some b → ∃ cur ty, X.heap[b]? = some (.cells cur ty (0, 0)) ∧ ty ≠ 36 := fun b e => by obtain ⟨-, c, h1⟩ := hb b e; exact ⟨c, oty, h1, h2⟩
  exact ⟨h.l.grown9 hg hl, h.m.grown9 hg hl, own_kept h.o hg (fun b e e2 => by have := h.vl b e; have := (hb b e2).1; omega), by rw [List.map_append]; exact ha.1, Nat.le_trans h.z hg.size, h.vl⟩
theorem Md.s {gb l c k : Nat} {x : Value × Nat} (h : Md B W2 Lb Mb La Ma oty (.slice (some ⟨gb, 0, none⟩) l c) u xs gs n X) (hx : xs[k]? = some x) : Blk X Lb La 36 ∧ gb < X.heap.size ∧ X.cell? ⟨gb, k, none⟩ = some x.1 := by
  obtain ⟨b, e, h1, h2⟩ := (ss_of h.o).get (j := k) (u := x.1) (by rw [List.getElem?_map, hx]; rfl)
  cases e
  exact ⟨h.l, h1, h2⟩
end
/-- All of the lists, and how far the second ones have come. -/
structure AM (W : World) (B W2 Lb Mb : Nat) (vT vB vN : Value) (ts bs ns : List (Value × Nat)) (X : World) (uT uB uN : Value) (gT gB gN : List (Value × Nat)) (kT kB kN : Nat) : Prop where
  t : Kp 23 24 3 Tm.cs oT X B W2 vT ts uT gT kT
  b' : Kp 43 28 4 Bd.cs oD X B W2 vB bs uB gB kB
  n : Kp 3 48 1 encI oI X B W2 vN ns uN gN kN
  l : Blk X Lb #[vT, vB, vN] 36
  m : Blk X Mb #[uT, uB, uN] 36
  b : Below B W X
  z : W2 ≤ X.heap.size
  w : B ≤ W2
  y : Lb ≠ Mb ∧ B ≤ Mb
section
variable {W X Y Z : World} {B W2 Lb Mb : Nat} {vT vB vN uT uB uN : Value} {ts bs ns gT gB gN : List (Value × Nat)} {kT kB kN : Nat}
theorem AM.later (h : AM W B W2 Lb Mb vT vB vN ts bs ns X uT uB uN gT gB gN kT kB kN) (hb : Below X.heap.size X Y) : AM W B W2 Lb Mb vT vB vN ts bs ns Y uT uB uN gT gB gN kT kB kN :=
  ⟨h.t.later hb, h.b'.later hb, h.n.later hb, h.l.later hb, h.m.later hb, h.b.trans (hb.mono (Nat.le_trans h.w h.z)), Nat.le_trans h.z hb.size, h.w, h.y⟩
theorem ne10 {X : World} {row : Option Nat} {ty a b : TypeId} (hr : ∀ k, row = some k → ∃ cur, X.heap[k]? = some (.cells cur ty (0, 0))) (h1 : ty ≠ a) (h2 : ty ≠ b) : ∀ k c, row = some k → X.heap[k]? ≠ some (.cells c a (0, 0)) ∧ X.heap[k]? ≠ some (.cells c b (0, 0)) := fun k c e => by
  obtain ⟨cur, hc⟩ := hr k e
  rw [hc]
  refine ⟨fun h => ?_, fun h => ?_⟩
  · simp only [Option.some.injEq, Obj.cells.injEq] at h; exact h1 h.2.1
  · simp only [Option.some.injEq, Obj.cells.injEq] at h; exact h2 h.2.1
theorem AM.mdT (h : AM W B W2 Lb Mb vT vB vN ts bs ns X uT uB uN gT gB gN kT kB kN) : Md B W2 Lb Mb #[vT, vB, vN] #[uT, uB, uN] 24 vT uT ts gT kT X := ⟨h.l, h.m, h.t.o', h.t.m, h.z, h.t.vl⟩
theorem AM.stepT {x : Value × Nat} {G u2 : Value} (h : AM W B W2 Lb Mb vT vB vN ts bs ns X uT uB uN gT gB gN kT kB kN) (hx : ts[kT]? = some x)
    (ha : Ap B 23 3 X Y x.1 x.2 G ((List.replicate x.2 (oT kT)).flatMap Tm.cs ++ Tm.cs (oT kT))) (ha2 : Ap W2 24 1 Y Z uT kT u2 (gT.map (·.1) ++ [G])) :
    AM W B W2 Lb Mb vT vB vN ts bs ns (Z.setCell ⟨Mb, 0, none⟩ u2) u2 uB uN (gT ++ [(G, x.2 + 1)]) gB gN (kT + 1) kB kN := by
  have hxo := h.t.r kT x (Nat.le_refl _) hx
  obtain ⟨row, hr, hb⟩ := ha.row hxo
  have hm1 := h.mdT.ap ha hxo (by decide) (by decide)
  have hm2 : Md B W2 Lb Mb #[vT, vB, vN] #[uT, uB, uN] 24 vT u2 ts (gT ++ [(G, x.2 + 1)]) (kT + 1) Z := hm1.ap2 ha2 (by decide)
  have hu : ∀ b, uT.ownBlock = some b → W2 ≤ b ∧ ∃ cur, Y.heap[b]? = some (.cells cur 24 (0, 0)) := fun b e => own_block hm1.u' e
  have hg2 := ha2.own
  have hg3 := grown_put Z Mb 0 u2
  have hM : Z.heap[Mb]? = some (.cells #[uT, uB, uN] 36 (0, 0)) := hm2.m
  have hs := h.t.step (by decide) hx h.z ha.1 ha.2 ha2.1 hg2
  have hb1 : Below B W Y := h.b.grown hr (Nat.le_trans h.w h.z) (fun k e => (hb k e).1)
  have hb2 : Below B W Z := hb1.grown hg2 (Nat.le_trans h.w hm1.z) (fun k e => Nat.le_trans h.w (hu k e).1)
  refine ⟨hs.kept hg3 (ne9 hM (by decide) (by decide)), ((h.b'.kept hr (ne10 (fun k e => (hb k e).2) (by decide) (by decide))).kept hg2 (ne10 (fun k e => (hu k e).2) (by decide) (by decide))).kept hg3 (ne9 hM (by decide) (by decide)), ((h.n.kept hr (ne10 (fun k e => (hb k e).2) (by decide) (by decide))).kept hg2 (ne10 (fun k e => (hu k e).2) (by decide) (by decide))).kept hg3 (ne9 hM (by decide) (by decide)), hm2.l.other9 h.y.1, ?_, hb2.grown hg3 (Nat.le_trans h.w hm2.z) (fun k e => by cases e; exact h.y.2), Nat.le_trans hm2.z hg3.size, h.w, h.y⟩
  exact heap_setCell_same _ _ _ _ _ _ hM
theorem AM.mdB (h : AM W B W2 Lb Mb vT vB vN ts bs ns X uT uB uN gT gB gN kT kB kN) : Md B W2 Lb Mb #[vT, vB, vN] #[uT, uB, uN] 28 vB uB bs gB kB X := ⟨h.l, h.m, h.b'.o', h.b'.m, h.z, h.b'.vl⟩
theorem AM.stepB {x : Value × Nat} {G u2 : Value} (h : AM W B W2 Lb Mb vT vB vN ts bs ns X uT uB uN gT gB gN kT kB kN) (hx : bs[kB]? = some x)
    (ha : Ap B 43 4 X Y x.1 x.2 G ((List.replicate x.2 (oD kB)).flatMap Bd.cs ++ Bd.cs (oD kB))) (ha2 : Ap W2 28 1 Y Z uB kB u2 (gB.map (·.1) ++ [G])) :
    AM W B W2 Lb Mb vT vB vN ts bs ns (Z.setCell ⟨Mb, 1, none⟩ u2) uT u2 uN gT (gB ++ [(G, x.2 + 1)]) gN kT (kB + 1) kN := by
  have hxo := h.b'.r kB x (Nat.le_refl _) hx
  obtain ⟨row, hr, hb⟩ := ha.row hxo
  have hm1 := h.mdB.ap ha hxo (by decide) (by decide)
  have hm2 : Md B W2 Lb Mb #[vT, vB, vN] #[uT, uB, uN] 28 vB u2 bs (gB ++ [(G, x.2 + 1)]) (kB + 1) Z := hm1.ap2 ha2 (by decide)
  have hu : ∀ b, uB.ownBlock = some b → W2 ≤ b ∧ ∃ cur, Y.heap[b]? = some (.cells cur 28 (0, 0)) := fun b e => own_block hm1.u' e
  have hg2 := ha2.own
  have hg3 := grown_put Z Mb 1 u2
  have hM : Z.heap[Mb]? = some (.cells #[uT, uB, uN] 36 (0, 0)) := hm2.m
  have hs := h.b'.step (by decide) hx h.z ha.1 ha.2 ha2.1 hg2
  have hb1 : Below B W Y := h.b.grown hr (Nat.le_trans h.w h.z) (fun k e => (hb k e).1)
  have hb2 : Below B W Z := hb1.grown hg2 (Nat.le_trans h.w hm1.z) (fun k e => Nat.le_trans h.w (hu k e).1)
  refine ⟨((h.t.kept hr (ne10 (fun k e => (hb k e).2) (by decide) (by decide))).kept hg2 (ne10 (fun k e => (hu k e).2) (by decide) (by decide))).kept hg3 (ne9 hM (by decide) (by decide)), hs.kept hg3 (ne9 hM (by decide) (by decide)), ((h.n.kept hr (ne10 (fun k e => (hb k e).2) (by decide) (by decide))).kept hg2 (ne10 (fun k e => (hu k e).2) (by decide) (by decide))).kept hg3 (ne9 hM (by decide) (by decide)), hm2.l.other9 h.y.1, ?_, hb2.grown hg3 (Nat.le_trans h.w hm2.z) (fun k e => by cases e; exact h.y.2), Nat.le_trans hm2.z hg3.size, h.w, h.y⟩
  exact heap_setCell_same _ _ _ _ _ _ hM
theorem AM.mdN (h : AM W B W2 Lb Mb vT vB vN ts bs ns X uT uB uN gT gB gN kT kB kN) : Md B W2 Lb Mb #[vT, vB, vN] #[uT, uB, uN] 48 vN uN ns gN kN X := ⟨h.l, h.m, h.n.o', h.n.m, h.z, h.n.vl⟩
theorem AM.stepN {x : Value × Nat} {G u2 : Value} (h : AM W B W2 Lb Mb vT vB vN ts bs ns X uT uB uN gT gB gN kT kB kN) (hx : ns[kN]? = some x)
    (ha : Ap B 3 1 X Y x.1 x.2 G ((List.replicate x.2 (oI kN)).flatMap encI ++ encI (oI kN))) (ha2 : Ap W2 48 1 Y Z uN kN u2 (gN.map (·.1) ++ [G])) :
    AM W B W2 Lb Mb vT vB vN ts bs ns (Z.setCell ⟨Mb, 2, none⟩ u2) uT uB u2 gT gB (gN ++ [(G, x.2 + 1)]) kT kB (kN + 1) := by
  have hxo := h.n.r kN x (Nat.le_refl _) hx
  obtain ⟨row, hr, hb⟩ := ha.row hxo
  have hm1 := h.mdN.ap ha hxo (by decide) (by decide)
  have hm2 : Md B W2 Lb Mb #[vT, vB, vN] #[uT, uB, uN] 48 vN u2 ns (gN ++ [(G, x.2 + 1)]) (kN + 1) Z := hm1.ap2 ha2 (by decide)
  have hu : ∀ b, uN.ownBlock = some b → W2 ≤ b ∧ ∃ cur, Y.heap[b]? = some (.cells cur 48 (0, 0)) := fun b e => own_block hm1.u' e
  have hg2 := ha2.own
  have hg3 := grown_put Z Mb 2 u2
  have hM : Z.heap[Mb]? = some (.cells #[uT, uB, uN] 36 (0, 0)) := hm2.m
  have hs := h.n.step (by decide) hx h.z ha.1 ha.2 ha2.1 hg2
  have hb1 : Below B W Y := h.b.grown hr (Nat.le_trans h.w h.z) (fun k e => (hb k e).1)
  have hb2 : Below B W Z := hb1.grown hg2 (Nat.le_trans h.w hm1.z) (fun k e => Nat.le_trans h.w (hu k e).1)
  refine ⟨((h.t.kept hr (ne10 (fun k e => (hb k e).2) (by decide) (by decide))).kept hg2 (ne10 (fun k e => (hu k e).2) (by decide) (by decide))).kept hg3 (ne9 hM (by decide) (by decide)), ((h.b'.kept hr (ne10 (fun k e => (hb k e).2) (by decide) (by decide))).kept hg2 (ne10 (fun k e => (hu k e).2) (by decide) (by decide))).kept hg3 (ne9 hM (by decide) (by decide)), hs.kept hg3 (ne9 hM (by decide) (by decide)), hm2.l.other9 h.y.1, ?_, hb2.grown hg3 (Nat.le_trans h.w hm2.z) (fun k e => by cases e; exact h.y.2), Nat.le_trans hm2.z hg3.size, h.w, h.y⟩
  exact heap_setCell_same _ _ _ _ _ _ hM
end
theorem in9T {w : World} {ops : Array Oper} {o : Oper} {a : Act} {Kn : Act → World → Prop} {Q : Exit → Act → World → Prop} {E : Prop} (hgd : o.guard = none) (s x : Operand)
    (ho : o.op = .call { callee := .builtin .append, args := #[s, x], argTypes := #[24, 24] }) (base : Nat)
    (v : Value) (n : Nat) (xs : List Value) (hs : a.eval s = v) (hown : w.ownsRow base 23 3 v n xs)
    (b : Nat) (news : Array Value) (hx : a.eval x = .slice (some ⟨b, 0, none⟩) 1 1) (hl : news.size = 3) (hblk : w.heap[b]? = some (.cells news 23 (0, 0))) (h1 : ∀ u ∈ news.toList, u.oneCell' = true)
    (h63 : n + 1 ≤ 1200000000000) (hbase : base ≤ w.heap.size)
    (h : ∀ v' w', Ap base 23 3 w w' v n v' (xs ++ news.toList) → Kn (a.put o.dst v') w') :
    if Region.wanted o (yielded ops a.tmps) = true then Oper.wp Tryd.prog o a w Kn Q else E := by
  obtain ⟨i0, hi0, hz0, hz1, hz2⟩ := info_parts Tryd.infoTerm9
  exact step_pair hgd s x 24 ho base 23 i0 _ 3 32 Tryd.underlying24 hi0 hz0 hz1 hz2 rfl (by omega) v n xs hs hown b news hx hl hblk h1 h63 (by omega) hbase (fun v' w' h2 h3 => h v' w' ⟨h2, h3⟩)
theorem out9T {w : World} {ops : Array Oper} {o : Oper} {a : Act} {Kn : Act → World → Prop} {Q : Exit → Act → World → Prop} {E : Prop} (hgd : o.guard = none) (s x : Operand)
    (ho : o.op = .call { callee := .builtin .append, args := #[s, x], argTypes := #[32, 32] }) (base : Nat)
    (v : Value) (n : Nat) (xs : List Value) (hs : a.eval s = v) (hown : w.ownsRow base 24 1 v n xs)
    (b : Nat) (news : Array Value) (hx : a.eval x = .slice (some ⟨b, 0, none⟩) 1 1) (hl : news.size = 1) (hblk : w.heap[b]? = some (.cells news 24 (0, 0))) (h1 : ∀ u ∈ news.toList, u.oneCell' = true)
    (h63 : n + 1 ≤ 1200000000000) (hbase : base ≤ w.heap.size)
    (h : ∀ v' w', Ap base 24 1 w w' v n v' (xs ++ news.toList) → Kn (a.put o.dst v') w') :
    if Region.wanted o (yielded ops a.tmps) = true then Oper.wp Tryd.prog o a w Kn Q else E := by
  obtain ⟨i0, hi0, hz0, hz1, hz2⟩ := info_parts Tryd.infoTerms9
  exact step_pair hgd s x 32 ho base 24 i0 _ 1 24 Tryd.underlying32 hi0 hz0 hz1 hz2 rfl (by omega) v n xs hs hown b news hx hl hblk h1 h63 (by omega) hbase (fun v' w' h2 h3 => h v' w' ⟨h2, h3⟩)
theorem in9B {w : World} {ops : Array Oper} {o : Oper} {a : Act} {Kn : Act → World → Prop} {Q : Exit → Act → World → Prop} {E : Prop} (hgd : o.guard = none) (s x : Operand)
    (ho : o.op = .call { callee := .builtin .append, args := #[s, x], argTypes := #[28, 28] }) (base : Nat)
    (v : Value) (n : Nat) (xs : List Value) (hs : a.eval s = v) (hown : w.ownsRow base 43 4 v n xs)
    (b : Nat) (news : Array Value) (hx : a.eval x = .slice (some ⟨b, 0, none⟩) 1 1) (hl : news.size = 4) (hblk : w.heap[b]? = some (.cells news 43 (0, 0))) (h1 : ∀ u ∈ news.toList, u.oneCell' = true)
    (h63 : n + 1 ≤ 1200000000000) (hbase : base ≤ w.heap.size)
    (h : ∀ v' w', Ap base 43 4 w w' v n v' (xs ++ news.toList) → Kn (a.put o.dst v') w') :
    if Region.wanted o (yielded ops a.tmps) = true then Oper.wp Tryd.prog o a w Kn Q else E := by
  obtain ⟨i0, hi0, hz0, hz1, hz2⟩ := info_parts Tryd.infoBind9
  exact step_pair hgd s x 28 ho base 43 i0 _ 4 40 Tryd.underlying28 hi0 hz0 hz1 hz2 rfl (by omega) v n xs hs hown b news hx hl hblk h1 h63 (by omega) hbase (fun v' w' h2 h3 => h v' w' ⟨h2, h3⟩)
theorem out9B {w : World} {ops : Array Oper} {o : Oper} {a : Act} {Kn : Act → World → Prop} {Q : Exit → Act → World → Prop} {E : Prop} (hgd : o.guard = none) (s x : Operand)
    (ho : o.op = .call { callee := .builtin .append, args := #[s, x], argTypes := #[33, 33] }) (base : Nat)
    (v : Value) (n : Nat) (xs : List Value) (hs : a.eval s = v) (hown : w.ownsRow base 28 1 v n xs)
    (b : Nat) (news : Array Value) (hx : a.eval x = .slice (some ⟨b, 0, none⟩) 1 1) (hl : news.size = 1) (hblk : w.heap[b]? = some (.cells news 28 (0, 0))) (h1 : ∀ u ∈ news.toList, u.oneCell' = true)
    (h63 : n + 1 ≤ 1200000000000) (hbase : base ≤ w.heap.size)
    (h : ∀ v' w', Ap base 28 1 w w' v n v' (xs ++ news.toList) → Kn (a.put o.dst v') w') :
    if Region.wanted o (yielded ops a.tmps) = true then Oper.wp Tryd.prog o a w Kn Q else E := by
  obtain ⟨i0, hi0, hz0, hz1, hz2⟩ := info_parts Tryd.infoBinding9
  exact step_pair hgd s x 33 ho base 28 i0 _ 1 24 Tryd.underlying33 hi0 hz0 hz1 hz2 rfl (by omega) v n xs hs hown b news hx hl hblk h1 h63 (by omega) hbase (fun v' w' h2 h3 => h v' w' ⟨h2, h3⟩)
theorem in9N {w : World} {ops : Array Oper} {o : Oper} {a : Act} {Kn : Act → World → Prop} {Q : Exit → Act → World → Prop} {E : Prop} (hgd : o.guard = none) (s x : Operand)
    (ho : o.op = .call { callee := .builtin .append, args := #[s, x], argTypes := #[48, 48] }) (base : Nat)
    (v : Value) (n : Nat) (xs : List Value) (hs : a.eval s = v) (hown : w.ownsRow base 3 1 v n xs)
    (b : Nat) (news : Array Value) (hx : a.eval x = .slice (some ⟨b, 0, none⟩) 1 1) (hl : news.size = 1) (hblk : w.heap[b]? = some (.cells news 3 (0, 0))) (h1 : ∀ u ∈ news.toList, u.oneCell' = true)
    (h63 : n + 1 ≤ 1200000000000) (hbase : base ≤ w.heap.size)
    (h : ∀ v' w', Ap base 3 1 w w' v n v' (xs ++ news.toList) → Kn (a.put o.dst v') w') :
    if Region.wanted o (yielded ops a.tmps) = true then Oper.wp Tryd.prog o a w Kn Q else E := by
  obtain ⟨i0, hi0, hz0, hz1, hz2⟩ := info_parts Tryd.infoInt9
  exact step_pair hgd s x 48 ho base 3 i0 _ 1 8 Tryd.underlying48 hi0 hz0 hz1 hz2 rfl (by omega) v n xs hs hown b news hx hl hblk h1 h63 (by omega) hbase (fun v' w' h2 h3 => h v' w' ⟨h2, h3⟩)
theorem out9N {w : World} {ops : Array Oper} {o : Oper} {a : Act} {Kn : Act → World → Prop} {Q : Exit → Act → World → Prop} {E : Prop} (hgd : o.guard = none) (s x : Operand)
    (ho : o.op = .call { callee := .builtin .append, args := #[s, x], argTypes := #[34, 34] }) (base : Nat)
    (v : Value) (n : Nat) (xs : List Value) (hs : a.eval s = v) (hown : w.ownsRow base 48 1 v n xs)
    (b : Nat) (news : Array Value) (hx : a.eval x = .slice (some ⟨b, 0, none⟩) 1 1) (hl : news.size = 1) (hblk : w.heap[b]? = some (.cells news 48 (0, 0))) (h1 : ∀ u ∈ news.toList, u.oneCell' = true)
    (h63 : n + 1 ≤ 1200000000000) (hbase : base ≤ w.heap.size)
    (h : ∀ v' w', Ap base 48 1 w w' v n v' (xs ++ news.toList) → Kn (a.put o.dst v') w') :
    if Region.wanted o (yielded ops a.tmps) = true then Oper.wp Tryd.prog o a w Kn Q else E := by
  obtain ⟨i0, hi0, hz0, hz1, hz2⟩ := info_parts Tryd.infoInts9
  exact step_pair hgd s x 34 ho base 48 i0 _ 1 24 Tryd.underlying34 hi0 hz0 hz1 hz2 rfl (by omega) v n xs hs hown b news hx hl hblk h1 h63 (by omega) hbase (fun v' w' h2 h3 => h v' w' ⟨h2, h3⟩)
end Go.Proofs.YtnaiecemmhioeaaDoor

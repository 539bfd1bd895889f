/-
  law 7: what RelParts carries.
-/
import Derived.Test.YtofopfjmcbgfjaaRC4
namespace Go.Proofs.Ytofopfjmcbgfjaa
open Go.RowKit Go.Shelf

/-- The relation, the four lists (old, fresh, next, the batch), the columns, the result's cell, the batch's box, the marks. -/
structure ZL (w : World) (k g m : Nat) (s : St7) (T R : Nat → Prop) (ov fv nv uv cv : Value) (O F N U : List (List Int × Value)) (Es : List Nat) (Y : World) : Prop where
  p : PT w T g m s Y
  rt : RT w Y T R
  o : PL w Y T R ov O
  f : PL w Y T R fv F
  n : PL w Y T R nv N
  u : PL w Y T R uv U
  e1 : ∀ b, nv.ownBlock = some b → ov.ownBlock ≠ some b ∧ fv.ownBlock ≠ some b ∧ uv.ownBlock ≠ some b
  e2 : ∀ b, ov.ownBlock = some b → fv.ownBlock ≠ some b ∧ uv.ownBlock ≠ some b
  c : Li R Y cv (cls7 k)
  res : Bk Y w.heap.size #[.bool false] 4
  tw : ∀ b, T b → w.heap.size < b
  mks : Mk7 Y Es
  me : ∀ E ∈ Es, w.heap.size < E ∧ ¬ T E
theorem Mk7.ne {Y : World} {Es : List Nat} (h : Mk7 Y Es) {g : Nat} {c : Array Value} {t : TypeId} (hb : Bk Y g c t) : ∀ E ∈ Es, E ≠ g := fun E hE e => by
  have h1 := h.bl E hE
  rw [e] at h1
  unfold Bk at hb
  rw [h1] at hb
  cases hb
theorem ZL.px {w : World} {k g m m' : Nat} {s s' : St7} {T R : Nat → Prop} {ov fv nv uv cv : Value} {O F N U : List (List Int × Value)} {Es : List Nat} {Y Y' : World} (h : ZL w k g m s T R ov fv nv uv cv O F N U Es Y) (hp : PX w T g m' s' Y Y') : ∃ T', ZL w k g m' s' T' R ov fv nv uv cv O F N U Es Y' ∧ Fr T Y Y' ∧ ∀ b, T' b → T b ∨ Y.heap.size ≤ b := by
  obtain ⟨hf, T', hpt, ht⟩ := hp
  have hl := h.res.lt
  refine ⟨T', ⟨hpt, h.rt.px hf.size ht, h.o.px h.rt hf ht, h.f.px h.rt hf ht, h.n.px h.rt hf ht, h.u.px h.rt hf ht, h.e1, h.e2, h.c.same hf.size fun b hb hl => hf.block b hl (h.rt b hb).1, h.res.fr hf fun hc => by have := h.tw _ hc; omega, fun b hb => (ht b hb).elim (h.tw b) fun h' => by omega, h.mks.same fun E hE => hf.block E (h.mks.lt E hE) (h.me E hE).2, fun E hE => ⟨(h.me E hE).1, fun hc => (ht E hc).elim (h.me E hE).2 fun h' => by have := h.mks.lt E hE; omega⟩⟩, hf, ht⟩
theorem ZL.below {w : World} {k g m : Nat} {s : St7} {T R : Nat → Prop} {ov fv nv uv cv : Value} {O F N U : List (List Int × Value)} {Es : List Nat} {Y Y' : World} (h : ZL w k g m s T R ov fv nv uv cv O F N U Es Y) (hb : Below Y.heap.size Y Y') : ZL w k g m s T R ov fv nv uv cv O F N U Es Y' :=
  ⟨h.p.below hb, h.rt.px hb.size fun _ hb => Or.inl hb, h.o.below hb, h.f.below hb, h.n.below hb, h.u.below hb, h.e1, h.e2, h.c.below hb, h.res.below hb, h.tw, h.mks.same fun E hE => hb.block E (h.mks.lt E hE), h.me⟩
/-- A block that is none of these is written. -/
theorem ZL.off {w : World} {k g m : Nat} {s : St7} {T R : Nat → Prop} {ov fv nv uv cv : Value} {O F N U : List (List Int × Value)} {Es : List Nat} {Y Y' : World} {x : Nat} (h : ZL w k g m s T R ov fv nv uv cv O F N U Es Y) (hf : Fr (fun b => b = x) Y Y') (hx : w.heap.size < x) (hT : ¬ T x) (hR : ¬ R x) (ho : ov.ownBlock ≠ some x) (hfv : fv.ownBlock ≠ some x) (hn : nv.ownBlock ≠ some x) (hu : uv.ownBlock ≠ some x) (hE : x ∉ Es) : ZL w k g m s T R ov fv nv uv cv O F N U Es Y' := by
  have hr : ∀ b, R b → b < Y.heap.size → Y'.heap[b]? = Y.heap[b]? := fun b hb hl => hf.block b hl fun e => hR (by rw [← e]; exact hb)
  have hs : ∀ {v : Value} {P : List (List Int × Value)}, PL w Y T R v P → v.ownBlock ≠ some x → PL w Y' T R v P := fun hv hne => hv.same hf.size (fun b hb => ⟨hf.block b (hv.o.lt b hb).2 fun e => hne (by rw [← e]; exact hb), (hv.t b hb).1⟩) hr
  refine ⟨h.p.fr hf fun b hb _ => ?_, h.rt.px hf.size fun _ hb => Or.inl hb, hs h.o ho, hs h.f hfv, hs h.n hn, hs h.u hu, h.e1, h.e2, h.c.same hf.size hr, h.res.fr hf (show ¬ w.heap.size = x by omega), h.tw, h.mks.same fun E hE' => hf.block E (h.mks.lt E hE') fun e => hE (by rw [← e]; exact hE'), h.me⟩
  rw [hb]; exact ⟨by omega, hT⟩
theorem PL.ne {w Y : World} {T R : Nat → Prop} {v : Value} {P : List (List Int × Value)} (h : PL w Y T R v P) {g : Nat} {c : Array Value} {t : TypeId} (hb : Bk Y g c t) (ht : t ≠ 23) : v.ownBlock ≠ some g := fun e => by
  obtain ⟨cur, hc⟩ := row7_blk h.o e
  exact ht (Bk.ty hb hc)
/-- A box of the law's own is written. -/
theorem ZL.set {w : World} {k g m : Nat} {s : St7} {T R : Nat → Prop} {ov fv nv uv cv : Value} {O F N U : List (List Int × Value)} {Es : List Nat} {Y Y' : World} {x : Nat} {c : Array Value} {t : TypeId} (h : ZL w k g m s T R ov fv nv uv cv O F N U Es Y) (hb : Bk Y x c t) (ht : t ≠ 23) (hf : Fr (fun b => b = x) Y Y') (hx : w.heap.size < x) (hT : ¬ T x) (hR : ¬ R x) : ZL w k g m s T R ov fv nv uv cv O F N U Es Y' :=
  h.off hf hx hT hR (h.o.ne hb ht) (h.f.ne hb ht) (h.n.ne hb ht) (h.u.ne hb ht) fun hE => h.mks.ne hb x hE rfl
/-- One row more in next. -/
theorem ZL.next {w : World} {k g m : Nat} {s : St7} {T R : Nat → Prop} {ov fv nv uv cv v' y : Value} {O F N U : List (List Int × Value)} {Es : List Nat} {Y Y1 Y5 : World} {x : List Int} (h : ZL w k g m s T R ov fv nv uv cv O F N U Es Y) (hu : Li R Y y x) (hb : Below Y.heap.size Y Y1) (ho : Y5.ownsRow (w.heap.size + 1) 23 1 v' (N.length + 1) (N.map Prod.snd ++ [y])) (hg : Y1.grownBy Y5 nv.ownBlock) (hv : ∀ b, v'.ownBlock = some b → nv.ownBlock = some b ∨ Y.heap.size ≤ b) :
    ZL w k g m s T R ov fv v' uv cv O F (N ++ [(x, y)]) U Es Y5 ∧ Fr (fun b => nv.ownBlock = some b) Y Y5 := by
  obtain ⟨h1, hf⟩ := h.n.more h.rt (fun b hb => (h.p.t b hb).2) hu hb ho hg hv
  have hown : ∀ b, nv.ownBlock = some b → w.heap.size < b ∧ ∃ c, Bk Y b c 23 := fun b hb => ⟨by have := (h.n.o.lt b hb).1; omega, row7_blk h.n.o hb⟩
  have hr : ∀ b, R b → b < Y.heap.size → Y5.heap[b]? = Y.heap[b]? := fun b hb hl => hf.block b hl fun e => (h.n.t b e).2 hb
  have hs : ∀ {v : Value} {P : List (List Int × Value)}, PL w Y T R v P → (∀ b, nv.ownBlock = some b → v.ownBlock ≠ some b) → PL w Y5 T R v P := fun hv hne => hv.same hf.size (fun b hb => ⟨hf.block b (hv.o.lt b hb).2 fun e => hne b e hb, (hv.t b hb).1⟩) hr
  refine ⟨⟨h.p.fr hf fun b hb _ => ⟨by have := (hown b hb).1; omega, (h.n.t b hb).1⟩, h.rt.px hf.size fun _ hb => Or.inl hb, hs h.o fun b hb => (h.e1 b hb).1, hs h.f fun b hb => (h.e1 b hb).2.1, h1, hs h.u fun b hb => (h.e1 b hb).2.2, fun b hb' => ?_, h.e2, h.c.same hf.size hr, h.res.fr hf fun hc => by have := (hown _ hc).1; omega, h.tw, h.mks.same fun E hE => hf.block E (h.mks.lt E hE) fun hc => ?_, h.me⟩, hf⟩
  · rcases hv b hb' with hb' | hb'
    · exact h.e1 b hb'
    · exact ⟨fun e => by have := (h.o.o.lt b e).2; omega, fun e => by have := (h.f.o.lt b e).2; omega, fun e => by have := (h.u.o.lt b e).2; omega⟩
  · obtain ⟨c, hc⟩ := (hown E hc).2
    exact h.mks.ne hc E hE rfl
/-- A batch is brought. -/
def RB5 (R : Nat → Prop) (Y Y1 : World) (uv : Value) : Nat → Prop := fun b => R b ∨ (Y.heap.size ≤ b ∧ b < Y1.heap.size ∧ uv.ownBlock ≠ some b)
theorem ZL.batch {w : World} {k g m : Nat} {s : St7} {T R : Nat → Prop} {ov fv uv cv : Value} {O F U : List (List Int × Value)} {Es : List Nat} {Y Y1 : World} (h : ZL w k g m s T R ov fv (.slice none 0 0) (.slice none 0 0) cv O F [] [] Es Y) (hu : OL Y1 Y.heap.size uv U) (hb : Below Y.heap.size Y Y1) : ZL w k g m s T (RB5 R Y Y1 uv) ov fv (.slice none 0 0) uv cv O F [] U Es Y1 := by
  have h1 := h.below hb
  have hw := h.res.lt
  have hT : ∀ b, T b → b < Y.heap.size := fun b hb => (h.p.t b hb).2
  have hRl : ∀ b, R b → b < Y.heap.size := fun b hb => (h.rt b hb).2.2
  have hnew : ∀ b, b < Y.heap.size → ¬ R b → ¬ RB5 R Y Y1 uv b := fun b hl hr hc => hc.elim hr fun hc => by omega
  refine ⟨h1.p, fun b hb' => ?_, h1.o.mono (fun b hb => Or.inl hb) fun b hb => hnew b (h.o.o.lt b hb).2 (h.o.t b hb).2, h1.f.mono (fun b hb => Or.inl hb) fun b hb => hnew b (h.f.o.lt b hb).2 (h.f.t b hb).2, PL.nil _ _ _ _, (PL.of hu hw hT).mono (fun b hb => Or.inr hb) fun b hb hc => ?_, (fun b hb => by cases hb), fun b hb => ⟨(h.e2 b hb).1, fun e => ?_⟩, h1.c.mono fun b _ hb => Or.inl hb, h1.res, h.tw, h1.mks, h.me⟩
  · rcases hb' with hb' | hb'
    · exact h1.rt b hb'
    · exact ⟨fun hc => by have := hT b hc; omega, by omega, hb'.2.1⟩
  · rcases hc with hc | hc
    · have := hRl b hc; have := (hu.o.lt b hb).1; omega
    · exact hc.2.2 hb
  · have := (h.o.o.lt b hb).2; have := (hu.o.lt b e).1; omega
/-- A range is behind: only the counter's box was written. -/
theorem ZL.range {w : World} {k g m m' : Nat} {s : St7} {T R : Nat → Prop} {ov fv nv uv cv : Value} {O F N U : List (List Int × Value)} {Es : List Nat} {Y V : World} {nb D : Nat} (h : ZL w k g m s T R ov fv nv uv cv O F N U Es Y) (hk : KR w (fun b => (w.heap.size ≤ b ∧ b < Y.heap.size ∧ ¬ T b) ∨ b = D ∨ b = D + 1) g m' s V) (hD : Y.heap.size ≤ D) (hdf : V.heap[D]? = some (.deferred (some []))) (hz : Y.heap.size ≤ V.heap.size) (hs : ∀ b, (w.heap.size ≤ b ∧ b < Y.heap.size ∧ ¬ T b) → b ≠ nb → V.heap[b]? = Y.heap[b]?)
    {c : Array Value} {t : TypeId} (hb : Bk Y nb c t) (ht : t ≠ 23) (hw : w.heap.size < nb) (hR : ¬ R nb) : ∃ T', ZL w k g m' s T' R ov fv nv uv cv O F N U (D :: Es) V ∧ ∀ b, T' b → T b ∨ Y.heap.size ≤ b := by
  obtain ⟨F', S', k1, k2, k3⟩ := hk
  have hl := h.res.lt
  have hTT : ∀ b, ((T b ∨ Y.heap.size ≤ b) ∧ w.heap.size ≤ b ∧ b < V.heap.size ∧ b ≠ D ∧ b ≠ D + 1) → T b ∨ Y.heap.size ≤ b := fun b hb => hb.1
  have hr : ∀ b, R b → b < Y.heap.size → V.heap[b]? = Y.heap[b]? := fun b hb hl => hs b ⟨by have := (h.rt b hb).2.1; omega, hl, (h.rt b hb).1⟩ fun e => hR (by rw [← e]; exact hb)
  have hp : ∀ {v : Value} {P : List (List Int × Value)}, PL w Y T R v P → PL w V (fun b => (T b ∨ Y.heap.size ≤ b) ∧ w.heap.size ≤ b ∧ b < V.heap.size ∧ b ≠ D ∧ b ≠ D + 1) R v P := fun hv => hv.same hz (fun b hb' => ⟨hs b ⟨by have := (hv.o.lt b hb').1; omega, (hv.o.lt b hb').2, (hv.t b hb').1⟩ fun e => hv.ne hb ht (by rw [← e]; exact hb'), fun hc => hc.1.elim (hv.t b hb').1 fun h' => by have := (hv.o.lt b hb').2; omega⟩) hr
  refine ⟨_, ⟨⟨F', S', k1, fun b hb' => ?_, fun b hb => ⟨hb.2.1, hb.2.2.1⟩, k3⟩, h.rt.px hz hTT, hp h.o, hp h.f, hp h.n, hp h.u, h.e1, h.e2, h.c.same hz hr, h.res.same (hs _ ⟨Nat.le_refl _, hl, fun hc => by have := h.tw _ hc; omega⟩ (by omega)), fun b hb => hb.1.elim (h.tw b) fun h' => by omega, ?_, fun E hE => ?_⟩, hTT⟩
  · have h1 := k2 b hb'
    have h2 : b < V.heap.size := hb'.elim (fun h => (k1.q b h).2) (k1.q2 b)
    refine ⟨?_, h1.1, h2, fun e => h1.2 (Or.inr (Or.inl e)), fun e => h1.2 (Or.inr (Or.inr e))⟩
    by_cases hlb : Y.heap.size ≤ b
    · exact Or.inr hlb
    · exact Or.inl (Classical.byContradiction fun hc => h1.2 (Or.inl ⟨h1.1, by omega, hc⟩))
  · refine (h.mks.same fun E hE => hs E ⟨by have := (h.me E hE).1; omega, h.mks.lt E hE, (h.me E hE).2⟩ (h.mks.ne hb E hE)).cons (fun hE => by have := h.mks.lt D hE; omega) hdf
  · rcases List.mem_cons.1 hE with rfl | hE
    · exact ⟨by omega, fun hc => hc.2.2.2.1 rfl⟩
    · exact ⟨(h.me E hE).1, fun hc => hc.1.elim (h.me E hE).2 fun h' => by have := h.mks.lt E hE; omega⟩
/-- With the batch's box and the counter's. -/
def ZK (w : World) (k g : Nat) (s : St7) (R : Nat → Prop) (ov fv nv uv cv : Value) (O F N U : List (List Int × Value)) (b14 kb j m : Nat) (T : Nat → Prop) (Es : List Nat) (Z : World) : Prop :=
  ZL w k g m s T R ov fv nv uv cv O F N U Es Z ∧ (Bk Z b14 #[uv] 29 ∧ ¬ T b14) ∧ (Bk Z kb #[.int .i64 (j : Int)] 3 ∧ ¬ T kb ∧ ¬ R kb ∧ w.heap.size < kb) ∧ w.heap.size < b14
theorem ZK.below {w : World} {k g : Nat} {s : St7} {R : Nat → Prop} {ov fv nv uv cv : Value} {O F N U : List (List Int × Value)} {b14 kb j m : Nat} {T : Nat → Prop} {Es : List Nat} {Z Z' : World} (h : ZK w k g s R ov fv nv uv cv O F N U b14 kb j m T Es Z) (hb : Below Z.heap.size Z Z') : ZK w k g s R ov fv nv uv cv O F N U b14 kb j m T Es Z' :=
  ⟨h.1.below hb, ⟨h.2.1.1.below hb, h.2.1.2⟩, ⟨h.2.2.1.1.below hb, h.2.2.1.2⟩, h.2.2.2⟩
def mu19 (n : Nat) (ac : Act) (Z : World) : Nat := match ac.tmps[19]? with
  | some (Value.pointer (some a)) => n - cn7 a.block Z
  | _ => 0
def mu21 (ac : Act) : Nat := match ac.tmps[21]? with
  | some (Value.int _ k) => 8 - k.toNat
  | _ => 0
/-- The batch is behind: old takes fresh in, next becomes fresh. -/
theorem ZL.over {w : World} {k g m : Nat} {s : St7} {T R : Nat → Prop} {ov fv nv uv cv v' : Value} {O F N U : List (List Int × Value)} {Es : List Nat} {Y Y5 : World} (h : ZL w k g m s T R ov fv nv uv cv O F N U Es Y) (ho : Y5.ownsRow (w.heap.size + 1) 23 1 v' (O.length + F.length) (O.map Prod.snd ++ F.map Prod.snd)) (hg : Y.grownBy Y5 ov.ownBlock) (hv : v'.ownBlock = ov.ownBlock ∨ v'.ownBlock = some Y.heap.size) :
    ZL w k g m s T R v' nv (.slice none 0 0) (.slice none 0 0) cv (O ++ F) N [] [] Es Y5 := by
  have hf : Fr (fun b => ov.ownBlock = some b) Y Y5 := Fr.grown hg fun b hb => hb
  have hown : ∀ b, ov.ownBlock = some b → w.heap.size < b ∧ ∃ c, Bk Y b c 23 := fun b hb => ⟨by have := (h.o.o.lt b hb).1; omega, row7_blk h.o.o hb⟩
  have hr : ∀ b, R b → b < Y.heap.size → Y5.heap[b]? = Y.heap[b]? := fun b hb hl => hf.block b hl fun e => (h.o.t b e).2 hb
  have hrow : ∀ (z : Value) (y : List Int), Li R Y z y → Li R Y5 z y := fun z y hz => hz.same hf.size hr
  have hvb : ∀ b, v'.ownBlock = some b → ov.ownBlock = some b ∨ Y.heap.size = b := fun b hb => hv.elim (fun e => Or.inl (by rw [← e]; exact hb)) fun e => Or.inr (by rw [e] at hb; exact Option.some.inj hb)
  refine ⟨h.p.fr hf fun b hb _ => ⟨by have := (hown b hb).1; omega, (h.o.t b hb).1⟩, h.rt.px hf.size fun _ hb => Or.inl hb, ⟨by rw [List.length_append, List.map_append]; exact ho, fun b hb => ?_, fun p hp => ?_⟩, h.n.same hf.size (fun b hb => ⟨hf.block b (h.n.o.lt b hb).2 fun e => (h.e1 b hb).1 e, (h.n.t b hb).1⟩) hr, PL.nil _ _ _ _, PL.nil _ _ _ _, (fun b hb => by cases hb), fun b hb => ⟨fun e => ?_, (fun e => by cases e)⟩, h.c.same hf.size hr, h.res.fr hf fun hc => by have := (hown _ hc).1; omega, h.tw, h.mks.same fun E hE => hf.block E (h.mks.lt E hE) fun hc => ?_, h.me⟩
  · rcases hvb b hb with hb | hb
    · exact h.o.t b hb
    · exact ⟨fun hc => by have := (h.p.t b hc).2; omega, fun hc => by have := (h.rt b hc).2.2; omega⟩
  · rcases List.mem_append.1 hp with hp | hp
    · exact hrow _ _ (h.o.r p hp)
    · exact hrow _ _ (h.f.r p hp)
  · rcases hvb b hb with hb | hb
    · exact (h.e1 b e).1 hb
    · have := (h.n.o.lt b e).2; omega
  · obtain ⟨c, hc⟩ := (hown E hc).2
    exact h.mks.ne hc E hE rfl
/-- What is plain of a batch: j of its rows are in. -/
structure ZP (s0 s : St7) (O F N : List (List Int × Value)) (L : List (List Int)) (j : Nat) : Prop where
  se : s = adL s0 (L.take j)
  x : s0.xf = s0.rows.length
  o : O.map Prod.fst = s0.rows.take s0.nf
  f : F.map Prod.fst = (s0.rows.take s0.xf).drop s0.nf
  n : N.map Prod.fst = s.rows.drop s0.rows.length
theorem ZP.mem {s0 s : St7} {O F N : List (List Int × Value)} {L : List (List Int)} {j : Nat} (h : ZP s0 s O F N L j) (h0 : s0.Ok) (x : List Int) : x ∈ s.rows ↔ x ∈ O.map Prod.fst ∨ x ∈ F.map Prod.fst ∨ x ∈ N.map Prod.fst := by
  have h1 : s0.rows <+: s.rows := by rw [h.se]; exact adL_pre _ _
  obtain ⟨t, ht⟩ := h1
  have e : s.rows = s0.rows.take s0.nf ++ ((s0.rows.take s0.xf).drop s0.nf ++ s.rows.drop s0.rows.length) := by
    have q1 := List.take_append_drop s0.nf (s0.rows.take s0.xf)
    rw [List.take_take, Nat.min_eq_left h0.a] at q1
    rw [← List.append_assoc, q1, h.x, List.take_length]
    rw [← ht, List.drop_left]
  rw [h.o, h.f, h.n]
  conv => lhs; rw [e]
  rw [List.mem_append, List.mem_append]
theorem ZP.yes {s0 s : St7} {O F N : List (List Int × Value)} {L : List (List Int)} {j : Nat} {r : List Int} (h : ZP s0 s O F N L j) (hr : L[j]? = some r) (hm : r ∈ s.rows) : ZP s0 (ad7 s r) O F N L (j + 1) := by
  have e : ad7 s r = s := if_pos hm
  refine ⟨?_, h.x, h.o, h.f, by rw [e]; exact h.n⟩
  rw [take_next0 hr, adL_snoc, ← h.se]
theorem ZP.no {s0 s : St7} {O F N : List (List Int × Value)} {L : List (List Int)} {j : Nat} {r : List Int} {y : Value} (h : ZP s0 s O F N L j) (hr : L[j]? = some r) (hm : r ∉ s.rows) : ZP s0 (ad7 s r) O F (N ++ [(r, y)]) L (j + 1) := by
  have e : (ad7 s r).rows = s.rows ++ [r] := by unfold ad7; rw [if_neg hm]; rfl
  have hl : s0.rows.length ≤ s.rows.length := by rw [h.se]; exact (adL_pre _ _).length_le
  refine ⟨by rw [take_next0 hr, adL_snoc, ← h.se], h.x, h.o, h.f, ?_⟩
  rw [e, List.drop_append_of_le_length hl, List.map_append, h.n]
  rfl
theorem ZP.all {s0 s : St7} {O F N : List (List Int × Value)} {L : List (List Int)} {j : Nat} (h : ZP s0 s O F N L j) (hj : L.length ≤ j) : ∀ r ∈ L, r ∈ s.rows := fun r hr => by
  rw [h.se, adL_mem]
  right
  rw [List.take_of_length_le hj]
  exact hr
/-- What the parts hold when all of a batch is in. -/
theorem ZP.parts {s0 s : St7} {O F N : List (List Int × Value)} {L : List (List Int)} {j : Nat} (h : ZP s0 s O F N L j) (h0 : s0.Ok) (ho : s.Ok) : s.nf = s0.nf ∧ s.xf = s0.rows.length ∧ sel7 s 1 [] [] = O.map Prod.fst ∧ sel7 s 2 [] [] = F.map Prod.fst ∧ sel7 s 4 [] [] = N.map Prod.fst := by
  have h1 := adL_wd (L.take j) s0
  rw [← h.se] at h1
  have h2 : s0.rows <+: s.rows := by rw [h.se]; exact adL_pre _ _
  refine ⟨h1.2.1, by rw [h1.2.2, h.x], ?_, ?_, ?_⟩
  · rw [sel_one ho, h1.2.1, take_pre h2 (Nat.le_trans h0.a h0.b), h.o]
  · rw [sel_two ho, h1.2.1, h1.2.2, take_pre h2 h0.b, h.f]
  · rw [sel_four ho, h1.2.2, h.x, h.n]
end Go.Proofs.Ytofopfjmcbgfjaa

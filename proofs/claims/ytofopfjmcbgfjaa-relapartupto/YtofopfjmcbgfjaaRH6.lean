/-
  law 7: RelApart: its ground. (Written by RH6.py.)
-/
import Derived.Test.YtofopfjmcbgfjaaRH5
namespace Go.Proofs.Ytofopfjmcbgfjaa
open Go.RowKit

/-- A list of rows at hand. -/
structure LS7 where
  B : Nat
  E : Nat
  u : Value
  Q : List (List Int × Value)
/-- Two relations, what the law holds, lists of rows at hand, lists of lists at hand; each in blocks of its own. -/
structure GD (w : World) (T1 T2 X : Nat → Prop) (g1 g2 m1 m2 : Nat) (s1 s2 : St7) (kv : Value) (Ks : List Kp) (ov : Value) (Os : List Value) (lv : Value) (Lq : List (List Int × Value)) (Z : List LS7) (PL : List (Value × List Value)) (W : World) : Prop where
  p1 : PT w T1 g1 m1 s1 W
  p2 : PT w T2 g2 m2 s2 W
  d : ∀ b, T1 b → ¬ T2 b
  dl : ∀ b, LB X kv ov b → ¬ T1 b ∧ ¬ T2 b
  z : FZ w X kv Ks ov Os lv Lq W
  zs : ∀ z ∈ Z, OE W z.B z.E z.u z.Q ∧ (w.heap.size ≤ z.B ∧ z.B ≤ z.E) ∧ z.E ≤ W.heap.size ∧ ∀ b, z.B ≤ b → b < z.E → ¬ T1 b ∧ ¬ T2 b ∧ ¬ LB X kv ov b
  zd : Z.Pairwise fun z y => ∀ b, z.B ≤ b → b < z.E → y.B ≤ b → ¬ b < y.E
  pl : ∀ a ∈ PL, W.ownsRow w.heap.size 23 1 a.1 a.2.length a.2 ∧ ∀ b, a.1.ownBlock = some b → ¬ T1 b ∧ ¬ T2 b ∧ ¬ LB X kv ov b ∧ ∀ z ∈ Z, z.B ≤ b → ¬ b < z.E
theorem GD.swap {w : World} {T1 T2 X : Nat → Prop} {g1 g2 m1 m2 : Nat} {s1 s2 : St7} {kv : Value} {Ks : List Kp} {ov : Value} {Os : List Value} {lv : Value} {Lq : List (List Int × Value)} {Z : List LS7} {PL : List (Value × List Value)} {W : World} (h : GD w T1 T2 X g1 g2 m1 m2 s1 s2 kv Ks ov Os lv Lq Z PL W) : GD w T2 T1 X g2 g1 m2 m1 s2 s1 kv Ks ov Os lv Lq Z PL W :=
  ⟨h.p2, h.p1, fun b h1 h2 => h.d b h2 h1, fun b hb => (h.dl b hb).symm, h.z, fun z hz => ⟨(h.zs z hz).1, (h.zs z hz).2.1, (h.zs z hz).2.2.1, fun b h1 h2 => by have := (h.zs z hz).2.2.2 b h1 h2; exact ⟨this.2.1, this.1, this.2.2⟩⟩, h.zd, fun a ha => ⟨(h.pl a ha).1, fun b hb => by have := (h.pl a ha).2 b hb; exact ⟨this.2.1, this.1, this.2.2⟩⟩⟩
/-- Blocks that are nobody's are written. -/
theorem GD.fr {w : World} {T1 T2 X : Nat → Prop} {g1 g2 m1 m2 : Nat} {s1 s2 : St7} {kv : Value} {Ks : List Kp} {ov : Value} {Os : List Value} {lv : Value} {Lq : List (List Int × Value)} {Z : List LS7} {PL : List (Value × List Value)} {W : World} {P : Nat → Prop} {W' : World} (h : GD w T1 T2 X g1 g2 m1 m2 s1 s2 kv Ks ov Os lv Lq Z PL W) (hf : Fr P W W') (hw : ∀ b, P b → w.heap.size ≤ b) (hP : ∀ b, P b → b < W.heap.size → ¬ T1 b ∧ ¬ T2 b ∧ ¬ LB X kv ov b ∧ (∀ z ∈ Z, z.B ≤ b → ¬ b < z.E) ∧ ∀ a ∈ PL, a.1.ownBlock ≠ some b) : GD w T1 T2 X g1 g2 m1 m2 s1 s2 kv Ks ov Os lv Lq Z PL W' := by
  have hz := hf.size
  refine ⟨h.p1.fr hf fun b hb hl => ⟨hw b hb, (hP b hb hl).1⟩, h.p2.fr hf fun b hb hl => ⟨hw b hb, (hP b hb hl).2.1⟩, h.d, h.dl, h.z.fr hf fun b hb hc => (hP b hc (h.z.lb hb).2).2.2.1 hb, fun z hz' => ⟨(h.zs z hz').1.fr hf fun b h1 h2 hc => (hP b hc (by have := (h.zs z hz').2.2.1; omega)).2.2.2.1 z hz' h1 h2, (h.zs z hz').2.1, by have := (h.zs z hz').2.2.1; omega, (h.zs z hz').2.2.2⟩, h.zd, fun a ha => ⟨row7_fr (h.pl a ha).1 hf fun b hb hc => (hP b hc ((h.pl a ha).1.lt b hb).2).2.2.2.2 a ha hb, (h.pl a ha).2⟩⟩
theorem GD.below {w : World} {T1 T2 X : Nat → Prop} {g1 g2 m1 m2 : Nat} {s1 s2 : St7} {kv : Value} {Ks : List Kp} {ov : Value} {Os : List Value} {lv : Value} {Lq : List (List Int × Value)} {Z : List LS7} {PL : List (Value × List Value)} {W : World} {W' : World} (h : GD w T1 T2 X g1 g2 m1 m2 s1 s2 kv Ks ov Os lv Lq Z PL W) (hb : Below W.heap.size W W') : GD w T1 T2 X g1 g2 m1 m2 s1 s2 kv Ks ov Os lv Lq Z PL W' := h.fr (P := fun _ => False) (Fr.of hb) (fun _ h => h.elim) fun _ h => h.elim
theorem GD.init {w : World} {T1 T2 X : Nat → Prop} {g1 g2 m1 m2 : Nat} {s1 s2 : St7} {kv : Value} {Ks : List Kp} {ov : Value} {Os : List Value} {lv : Value} {Lq : List (List Int × Value)} {Z : List LS7} {PL : List (Value × List Value)} {W : World} {z : LS7} (h : GD w T1 T2 X g1 g2 m1 m2 s1 s2 kv Ks ov Os lv Lq (Z ++ [z]) PL W) : GD w T1 T2 X g1 g2 m1 m2 s1 s2 kv Ks ov Os lv Lq Z PL W :=
  ⟨h.p1, h.p2, h.d, h.dl, h.z, fun y hy => h.zs y (List.mem_append_left _ hy), (List.pairwise_append.1 h.zd).1, fun a ha => ⟨(h.pl a ha).1, fun b hb => by have := (h.pl a ha).2 b hb; exact ⟨this.1, this.2.1, this.2.2.1, fun y hy => this.2.2.2 y (List.mem_append_left _ hy)⟩⟩⟩
theorem GD.sub {w : World} {T1 T2 X : Nat → Prop} {g1 g2 m1 m2 : Nat} {s1 s2 : St7} {kv : Value} {Ks : List Kp} {ov : Value} {Os : List Value} {lv : Value} {Lq : List (List Int × Value)} {Z : List LS7} {PL : List (Value × List Value)} {W : World} {PL' : List (Value × List Value)} (h : GD w T1 T2 X g1 g2 m1 m2 s1 s2 kv Ks ov Os lv Lq Z PL W) (hs : ∀ a ∈ PL', a ∈ PL) : GD w T1 T2 X g1 g2 m1 m2 s1 s2 kv Ks ov Os lv Lq Z PL' W := ⟨h.p1, h.p2, h.d, h.dl, h.z, h.zs, h.zd, fun a ha => h.pl a (hs a ha)⟩
theorem GD.up {w : World} {T1 T2 X : Nat → Prop} {g1 g2 m1 m2 : Nat} {s1 s2 : St7} {kv : Value} {Ks : List Kp} {ov : Value} {Os : List Value} {lv : Value} {Lq : List (List Int × Value)} {Z : List LS7} {PL : List (Value × List Value)} {W : World} {n1 n2 : Nat} (h : GD w T1 T2 X g1 g2 m1 m2 s1 s2 kv Ks ov Os lv Lq Z PL W) (h1 : m1 ≤ n1) (h2 : m2 ≤ n2) : GD w T1 T2 X g1 g2 n1 n2 s1 s2 kv Ks ov Os lv Lq Z PL W := ⟨h.p1.up h1, h.p2.up h2, h.d, h.dl, h.z, h.zs, h.zd, h.pl⟩
def R9 (s : St7) : List (List Int) := srt7 (sel7 s 7 [] [])
/-- A call of the first relation that hands out rows. -/
def GQ (w : World) (T2 X : Nat → Prop) (g1 g2 m1 m2 : Nat) (s1 s2 : St7) (kv : Value) (Ks : List Kp) (ov : Value) (Os : List Value) (lv : Value) (Lq : List (List Int × Value)) (Z : List LS7) (PL : List (Value × List Value)) (e : Ending) (W' : World) : Prop := ∃ T u Q B, e = .returned u ∧ GD w T T2 X g1 g2 (m1 + 1) m2 s1 s2 kv Ks ov Os lv Lq (Z ++ [⟨B, W'.heap.size, u, Q⟩]) PL W' ∧ Q.map Prod.fst = R9 s1
theorem GD.take {w : World} {T1 T2 X : Nat → Prop} {g1 g2 m1 m2 : Nat} {s1 s2 : St7} {kv : Value} {Ks : List Kp} {ov : Value} {Os : List Value} {lv : Value} {Lq : List (List Int × Value)} {Z : List LS7} {PL : List (Value × List Value)} {W : World} {e : Ending} {W' : World} (h : GD w T1 T2 X g1 g2 m1 m2 s1 s2 kv Ks ov Os lv Lq Z PL W) (hr : RQ9 w T1 g1 m1 s1 W 7 e W') : GQ w T2 X g1 g2 m1 m2 s1 s2 kv Ks ov Os lv Lq Z PL e W' := by
  obtain ⟨u, Q, B, rfl, k1, k2, k3, k4, k5, T, k6, k7⟩ := hr
  have hz := k5.size
  have hw := h.p1.b.size
  have hTl : ∀ b, T1 b → w.heap.size ≤ b ∧ b < W.heap.size := h.p1.t
  have hT2 : ∀ b, T2 b → b < W.heap.size := fun b hb => (h.p2.t b hb).2
  have hLl : ∀ b, LB X kv ov b → b < W.heap.size := fun b hb => (h.z.lb hb).2
  refine ⟨T, u, Q, B, rfl, ⟨k6, h.p2.fr k5 fun b hb _ => ⟨(hTl b hb).1, h.d b hb⟩, fun b hb hc => ?_, fun b hb => ⟨fun hc => ?_, (h.dl b hb).2⟩, h.z.fr k5 fun b hb hc => (h.dl b hb).1 hc, fun z hz' => ?_, ?_, fun a ha => ?_⟩, k4⟩
  · rcases (k7 b hb).1 with h1 | h1
    · exact h.d b h1 hc
    · have := hT2 b hc; omega
  · rcases (k7 b hc).1 with h1 | h1
    · exact (h.dl b hb).1 h1
    · have := hLl b hb; omega
  · rcases List.mem_append.1 hz' with hz' | hz'
    · obtain ⟨q1, q2, q3, q4⟩ := h.zs z hz'
      refine ⟨q1.fr k5 fun b h1 h2 hc => (q4 b h1 h2).1 hc, q2, by omega, fun b h1 h2 => ⟨fun hc => ?_, (q4 b h1 h2).2⟩⟩
      rcases (k7 b hc).1 with h3 | h3
      · exact (q4 b h1 h2).1 h3
      · omega
    · rw [List.mem_singleton] at hz'
      subst hz'
      exact ⟨OE.of k1, ⟨by show w.heap.size ≤ B; omega, k3⟩, Nat.le_refl _, fun b h1 h2 => ⟨fun hc => by have := (k7 b hc).2; simp only at h1; omega, fun hc => by have := hT2 b hc; simp only at h1; omega, fun hc => by have := hLl b hc; simp only at h1; omega⟩⟩
  · rw [List.pairwise_append]
    refine ⟨h.zd, by simp, fun z hz' y hy b h1 h2 h3 _ => ?_⟩
    rw [List.mem_singleton] at hy
    subst hy
    have := (h.zs z hz').2.2.1
    simp only at h3
    omega
  · obtain ⟨q1, q2⟩ := h.pl a ha
    refine ⟨row7_fr q1 k5 fun b hb hc => (q2 b hb).1 hc, fun b hb => ⟨fun hc => ?_, (q2 b hb).2.1, (q2 b hb).2.2.1, fun z hz' h1 h2 => ?_⟩⟩
    · rcases (k7 b hc).1 with h3 | h3
      · exact (q2 b hb).1 h3
      · have := (q1.lt b hb).2; omega
    · rcases List.mem_append.1 hz' with hz' | hz'
      · exact (q2 b hb).2.2.2 z hz' h1 h2
      · rw [List.mem_singleton] at hz'
        subst hz'
        have := (q1.lt b hb).2
        simp only at h1
        omega
theorem GD.rows {w : World} {T1 T2 X : Nat → Prop} {g1 g2 m1 m2 : Nat} {s1 s2 : St7} {kv : Value} {Ks : List Kp} {ov : Value} {Os : List Value} {lv : Value} {Lq : List (List Int × Value)} {Z : List LS7} {PL : List (Value × List Value)} {W : World} (h : GD w T1 T2 X g1 g2 m1 m2 s1 s2 kv Ks ov Os lv Lq Z PL W) (hm : m1 ≤ 1000000) : Calls Try.prog 12 #[.pointer (some ⟨g1, 0, none⟩), .int .i64 7] W (GQ w T2 X g1 g2 m1 m2 s1 s2 kv Ks ov Os lv Lq Z PL) := (h.p1.rows9 7 (by omega)).mono fun _ _ hr => h.take hr
theorem GD.given {w : World} {T1 T2 X : Nat → Prop} {g1 g2 m1 m2 : Nat} {s1 s2 : St7} {kv : Value} {Ks : List Kp} {ov : Value} {Os : List Value} {lv : Value} {Lq : List (List Int × Value)} {Z : List LS7} {PL : List (Value × List Value)} {W : World} (h : GD w T1 T2 X g1 g2 m1 m2 s1 s2 kv Ks ov Os lv Lq Z PL W) (hm : m1 ≤ 1000000) : Calls Try.prog 23 #[.pointer (some ⟨g1, 0, none⟩)] W (GQ w T2 X g1 g2 m1 m2 s1 s2 kv Ks ov Os lv Lq Z PL) := (h.p1.given9 (by omega)).mono fun _ _ hr => h.take hr
/-- The first list at hand is lent. -/
def GL (w : World) (T1 T2 : Nat → Prop) (g1 g2 m1 m2 : Nat) (s1 s2 : St7) (kv : Value) (Ks : List Kp) (ov : Value) (Os : List Value) (lv : Value) (Lq : List (List Int × Value)) (z : LS7) (Z : List LS7) (PL : List (Value × List Value)) (W : World) (e : Ending) (W' : World) : Prop := ∃ va KA, e = .returned va ∧ W'.ownsRow W.heap.size 86 3 va KA.length (kps KA) ∧ KA.length = z.Q.length ∧ W'.ownsRow w.heap.size 86 3 kv Ks.length (kps Ks) ∧ w.heap.size ≤ W'.heap.size ∧ (∀ k ∈ KA, k.L.oneCell' = true ∧ k.G.oneCell' = true) ∧
  ∀ kv' W7, W7.ownsRow w.heap.size 86 3 kv' (Ks.length + KA.length) (kps Ks ++ kps KA) → W'.grownBy W7 kv.ownBlock → (kv'.ownBlock = kv.ownBlock ∨ kv'.ownBlock = some W'.heap.size) → ∃ X', GD w T1 T2 X' g1 g2 m1 m2 s1 s2 kv' (Ks ++ KA) ov Os lv Lq Z ((z.u, z.Q.map Prod.snd) :: PL) W7
theorem GD.lend {w : World} {T1 T2 X : Nat → Prop} {g1 g2 m1 m2 : Nat} {s1 s2 : St7} {kv : Value} {Ks : List Kp} {ov : Value} {Os : List Value} {lv : Value} {Lq : List (List Int × Value)} {Z : List LS7} {PL : List (Value × List Value)} {W : World} {z : LS7} (h : GD w T1 T2 X g1 g2 m1 m2 s1 s2 kv Ks ov Os lv Lq (z :: Z) PL W) (mm : Int) (h0 : 0 ≤ mm) (h1 : mm ≤ 100) (hq : z.Q.length ≤ 100000000000) (hl : ∀ p ∈ z.Q, p.1.length ≤ 100000000000) : Calls Try.prog 24 #[z.u, .int .i64 mm] W (GL w T1 T2 g1 g2 m1 m2 s1 s2 kv Ks ov Os lv Lq z Z PL W) := by
  obtain ⟨q1, ⟨q2, q2'⟩, q3, q4⟩ := h.zs z (List.mem_cons_self ..)
  have hzd := List.pairwise_cons.1 h.zd
  have hB : z.B ≤ W.heap.size := by omega
  · refine (lend7_any mm h0 h1 z.B z.u z.Q W q1.h hB hq hl).mono ?_
    rintro e W' ⟨va, KA, rfl, hln⟩
    have hz := hln.f.size
    have hw := h.p1.b.size
    have hRt : ∀ b, (∃ p ∈ z.Q, p.2.ownBlock = some b) → z.B ≤ b ∧ b < z.E := fun b hb => q1.t b (Or.inr hb)
    have hf := hln.f
    have hZ : ∀ y ∈ Z, OE W' y.B y.E y.u y.Q := fun y hy => (h.zs y (List.mem_cons_of_mem _ hy)).1.fr hf fun b h2 h3 hc => hzd.1 y hy b (hRt b hc).1 (hRt b hc).2 h2 h3
    have hfz : FZ w X kv Ks ov Os lv Lq W' := h.z.fr hf fun b hb hc => (q4 b (hRt b hc).1 (hRt b hc).2).2.2 hb
    refine ⟨va, KA, rfl, by rw [hln.kl]; exact hln.o, hln.kl, hfz.ko, by omega, fun k hk => ?_, fun kv' W7 ho hg hv => ?_⟩
    · obtain ⟨i, hi⟩ := List.mem_iff_getElem?.1 hk
      obtain ⟨p, -, -, k3⟩ := hln.k i k hi
      obtain ⟨⟨a, c, e1, -⟩, ⟨a', c', e2, -⟩⟩ := k3
      rw [e1, e2]
      exact ⟨rfl, rfl⟩
    · have hLl : ∀ b, LB X kv ov b → b < W.heap.size := fun b hb => (h.z.lb hb).2
      have hkeep := hfz.keep hln hRt q3 q2 (fun b hb => ⟨fun h2 h3 => (q4 b h2 h3).2.2 hb, hLl b hb⟩) ho hg hv
      have hfr : Fr (fun b => kv.ownBlock = some b) W' W7 := Fr.grown hg fun b hb => hb
      have hz7 := hfr.size
      have hk2 : ∀ b, kv.ownBlock = some b → LB X kv ov b := fun b hb => Or.inr (Or.inl hb)
      -- the law's blocks, anew
      have hLB : ∀ b, LB (fun b => X b ∨ (∃ p ∈ z.Q, p.2.ownBlock = some b) ∨ (W.heap.size ≤ b ∧ b < W'.heap.size ∧ va.ownBlock ≠ some b)) kv' ov b → LB X kv ov b ∨ (∃ p ∈ z.Q, p.2.ownBlock = some b) ∨ W.heap.size ≤ b := fun b hb => by
        rcases hb with (hb | hb | hb) | hb | hb
        · exact Or.inl (Or.inl hb)
        · exact Or.inr (Or.inl hb)
        · exact Or.inr (Or.inr hb.1)
        · rcases hv with hv | hv
          · rw [hv] at hb; exact Or.inl (Or.inr (Or.inl hb))
          · rw [hv] at hb; cases hb; exact Or.inr (Or.inr hz)
        · exact Or.inl (Or.inr (Or.inr hb))
      have hf2 : Fr (fun b => (∃ p ∈ z.Q, p.2.ownBlock = some b) ∨ kv.ownBlock = some b) W W7 := (hf.mono fun b _ hb => Or.inl hb).tr (hfr.mono fun b _ hb => Or.inr hb)
      have hP : ∀ b, ((∃ p ∈ z.Q, p.2.ownBlock = some b) ∨ kv.ownBlock = some b) → w.heap.size ≤ b ∧ ¬ T1 b ∧ ¬ T2 b := fun b hb => by
        rcases hb with hb | hb
        · have h2 := hRt b hb; have h3 := q4 b h2.1 h2.2; exact ⟨by omega, h3.1, h3.2.1⟩
        · exact ⟨(h.z.lb (hk2 b hb)).1, (h.dl b (hk2 b hb)).1, (h.dl b (hk2 b hb)).2⟩
      refine ⟨_, ⟨h.p1.fr hf2 fun b hb _ => ⟨(hP b hb).1, (hP b hb).2.1⟩, h.p2.fr hf2 fun b hb _ => ⟨(hP b hb).1, (hP b hb).2.2⟩, h.d, fun b hb => ?_, hkeep, fun y hy => ?_, hzd.2, fun a ha => ?_⟩⟩
      · rcases hLB b hb with h2 | h2 | h2
        · exact h.dl b h2
        · have h3 := hRt b h2; exact ⟨(q4 b h3.1 h3.2).1, (q4 b h3.1 h3.2).2.1⟩
        · exact ⟨fun hc => by have := (h.p1.t b hc).2; omega, fun hc => by have := (h.p2.t b hc).2; omega⟩
      · obtain ⟨y1, y2, y3, y4⟩ := h.zs y (List.mem_cons_of_mem _ hy)
        refine ⟨(hZ y hy).fr hfr fun b h2 h3 hc => (y4 b h2 h3).2.2 (hk2 b hc), y2, by omega, fun b h2 h3 => ⟨(y4 b h2 h3).1, (y4 b h2 h3).2.1, fun hc => ?_⟩⟩
        rcases hLB b hc with h4 | h4 | h4
        · exact (y4 b h2 h3).2.2 h4
        · have h5 := hRt b h4; exact hzd.1 y hy b h5.1 h5.2 h2 h3
        · omega
      · rcases List.mem_cons.1 ha with rfl | ha
        · refine ⟨?_, fun b hb => ?_⟩
          · have h2 : W'.ownsRow z.B 23 1 z.u (z.Q.map Prod.snd).length (z.Q.map Prod.snd) := by
              have h3 := hln.od.o
              rw [mrkd_len, mrkd_snd] at h3
              rw [List.length_map]; exact h3
            exact row7_mono (row7_fr h2 hfr fun b hb hc => (q4 b (q1.t b (Or.inl hb)).1 (q1.t b (Or.inl hb)).2).2.2 (hk2 b hc)) q2
          · have h2 := q1.t b (Or.inl hb)
            have h3 := q4 b h2.1 h2.2
            refine ⟨h3.1, h3.2.1, fun hc => ?_, fun y hy => hzd.1 y hy b h2.1 h2.2⟩
            rcases hLB b hc with h4 | ⟨p, hp, h4⟩ | h4
            · exact h3.2.2 h4
            · exact q1.h.n p hp b h4 hb
            · omega
        · obtain ⟨a1, a2⟩ := h.pl a ha
          refine ⟨row7_fr a1 hf2 fun b hb hc => ?_, fun b hb => ⟨(a2 b hb).1, (a2 b hb).2.1, fun hc => ?_, fun y hy => (a2 b hb).2.2.2 y (List.mem_cons_of_mem _ hy)⟩⟩
          · rcases hc with hc | hc
            · have h5 := hRt b hc; exact (a2 b hb).2.2.2 z (List.mem_cons_self ..) h5.1 h5.2
            · exact (a2 b hb).2.2.1 (hk2 b hc)
          · rcases hLB b hc with h4 | h4 | h4
            · exact (a2 b hb).2.2.1 h4
            · have h5 := hRt b h4; exact (a2 b hb).2.2.2 z (List.mem_cons_self ..) h5.1 h5.2
            · have := (a1.lt b hb).2; omega
end Go.Proofs.Ytofopfjmcbgfjaa

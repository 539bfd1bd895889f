import Derived.Test.YtelcoihmiglceaaMP1
import Derived.Test.YtelcoihmiglceaaCL29
import Derived.Test.YtelcoihmiglceaaMD14
/-
  Numbers of variables; constants for variables. (Plain.)
-/
namespace Go.Proofs.Ytelcoihmiglceaa
open Go.RowKit

/-- The numbers below n. -/
def ints (n : Nat) : List Int := (List.range n).map fun i : Nat => (i : Int)
theorem mem_ints {n : Nat} {v : Int} : v ∈ ints n ↔ 0 ≤ v ∧ v < n := by
  simp only [ints, List.mem_map, List.mem_range]
  exact ⟨fun ⟨i, h, e⟩ => by omega, fun ⟨h1, h2⟩ => ⟨v.toNat, by omega, by omega⟩⟩
theorem ints_succ (n : Nat) : ints (n + 1) = ints n ++ [(n : Int)] := by simp [ints, List.range_succ]
theorem mis_ints : ∀ (l : List Int) (n : Nat), (∀ v ∈ l, 0 ≤ v) → mis n l = false → ∃ m, n ≤ m ∧ l.foldl dstep (ints n) = ints m ∧ ∀ v ∈ l, v < m
  | [], n, _, _ => ⟨n, Nat.le_refl _, rfl, fun v hv => by cases hv⟩
  | v :: l, n, h0, h => by
    rw [mis] at h
    by_cases h1 : (n : Int) < v
    · rw [if_pos h1] at h; cases h
    · rw [if_neg h1] at h
      have hv := h0 v (by simp)
      rw [List.foldl_cons]
      by_cases h2 : v = n
      · rw [if_pos h2] at h
        have e : dstep (ints n) v = ints (n + 1) := by
          unfold dstep; rw [if_neg (by rw [mem_ints]; omega), ints_succ, h2]
        obtain ⟨m, k1, k2, k3⟩ := mis_ints l (n + 1) (fun u hu => h0 u (by simp [hu])) (by exact_mod_cast h)
        rw [e]
        refine ⟨m, by omega, k2, fun u hu => ?_⟩
        rcases List.mem_cons.1 hu with rfl | hu
        · omega
        · exact k3 u hu
      · rw [if_neg h2] at h
        have e : dstep (ints n) v = ints n := by
          unfold dstep; rw [if_pos (by rw [mem_ints]; omega)]
        obtain ⟨m, k1, k2, k3⟩ := mis_ints l n (fun u hu => h0 u (by simp [hu])) h
        rw [e]
        refine ⟨m, k1, k2, fun u hu => ?_⟩
        rcases List.mem_cons.1 hu with rfl | hu
        · omega
        · exact k3 u hu
theorem ints_sub : ∀ {m : Nat} {L : List Int}, (∀ v ∈ ints m, v ∈ L) → m ≤ L.length
  | 0, _, _ => Nat.zero_le _
  | m + 1, L, h => by
    have hm : (m : Int) ∈ L := h _ (by rw [mem_ints]; omega)
    have := ints_sub (m := m) (L := L.erase (m : Int)) fun v hv => by
      have h2 := mem_ints.1 hv
      exact (List.mem_erase_of_ne (by omega)).2 (h v (by rw [mem_ints]; omega))
    rw [List.length_erase_of_mem hm] at this
    have := List.length_pos_of_mem hm
    omega
theorem var_nn {t : Tm} (h : t.var = true) : 0 ≤ t.n := by simp only [Tm.var, decide_eq_true_eq] at h; exact h.2.1
/-- A valid clause's variables: those below their number. -/
theorem num_vars {x : Ck} (hm : mis 0 (vrs (Ck.terms x)) = false) : ∃ m, dis (vrs (Ck.terms x)) = ints m ∧ ∀ t ∈ Ck.terms x, t.var = true → t.n < m := by
  obtain ⟨m, -, h2, h3⟩ := mis_ints (vrs (Ck.terms x)) 0 (fun v hv => by
    obtain ⟨t, ht, rfl⟩ := List.mem_map.1 hv
    exact var_nn (List.mem_filter.1 ht).2) hm
  exact ⟨m, h2, fun t ht hv => h3 _ (List.mem_map.2 ⟨t, List.mem_filter.2 ⟨ht, hv⟩, rfl⟩)⟩
theorem dis_mem {l : List Int} {v : Int} : v ∈ dis l ↔ v ∈ l := by
  unfold dis
  have : ∀ (l acc : List Int), v ∈ l.foldl dstep acc ↔ v ∈ acc ∨ v ∈ l := by
    intro l
    induction l with
    | nil => intro acc; simp
    | cons a l ih =>
      intro acc
      rw [List.foldl_cons, ih, List.mem_cons, dstep]
      by_cases h : a ∈ acc
      · rw [if_pos h]
        exact ⟨fun e => e.elim Or.inl fun e => Or.inr (Or.inr e), fun e => e.elim Or.inl fun e => e.elim (fun e => Or.inl (e ▸ h)) Or.inr⟩
      · rw [if_neg h, List.mem_append, List.mem_singleton, or_assoc]
  rw [this]; simp
theorem body_len {x : Ck} (h : Val0 x) : (x.2.1.flatMap At.pl).length ≤ 72 := by
  have hl := h.bl
  have he : ∀ a ∈ x.2.1, a.pl.length ≤ 9 := fun a ha => by
    have := (err_zero' (h.e a (by simp [ha]))).2.1
    simp [At.pl]; omega
  have : ∀ l : List At, (∀ a ∈ l, a.pl.length ≤ 9) → (l.flatMap At.pl).length ≤ l.length * 9 := by
    intro l
    induction l with
    | nil => intro _; simp
    | cons a l ih =>
      intro h
      rw [List.flatMap_cons, List.length_append, List.length_cons]
      have h1 := h a (by simp)
      have h2 := ih fun b hb => h b (by simp [hb])
      omega
  have := this _ he
  omega
theorem num_le {x : Ck} (h : Val0 x) {m : Nat} (hd : dis (vrs (Ck.terms x)) = ints m) : m ≤ 72 := by
  have h2 := body_len h
  have : m ≤ (vrs (x.2.1.flatMap At.pl)).length := ints_sub fun v hv => by
    rw [← hd, dis_mem] at hv
    obtain ⟨t, ht, rfl⟩ := List.mem_map.1 hv
    obtain ⟨ht, hvt⟩ := List.mem_filter.1 ht
    refine List.mem_map.2 ⟨t, List.mem_filter.2 ⟨?_, hvt⟩, rfl⟩
    unfold Ck.terms at ht
    rcases List.mem_append.1 ht with ht | ht
    · exact h.s t (by simp [ht]) hvt
    · rcases List.mem_append.1 ht with ht | ht
      · exact ht
      · exact h.s t (by simp [ht]) hvt
  have h3 : (vrs (x.2.1.flatMap At.pl)).length ≤ (x.2.1.flatMap At.pl).length := by
    unfold vrs; rw [List.length_map]; exact List.length_filter_le _ _
  omega
end Go.Proofs.Ytelcoihmiglceaa
/-
  consts; Instance, Vars of small clauses.
-/
namespace Go.Proofs.Ytelcoihmiglceaa
open Go.RowKit
attribute [local go_sem ↓] Go.wp_at_zero Go.wp_at_succ

/-- A clause of few and short lists. -/
structure KS (x : Ck) : Prop where
  h : x.1.args.length ≤ 8
  b : x.2.1.length ≤ 8
  t : x.2.2.length ≤ 8
  x : ∀ a ∈ x.2.1, a.args.length ≤ 8
theorem Val0.ks {x : Ck} (h : Val0 x) : KS x := ⟨(err_zero' (h.e _ (by simp))).2.1, h.bl, h.tl, fun a ha => (err_zero' (h.e a (by simp [ha]))).2.1⟩
theorem KS.map {x : Ck} (h : KS x) (f : Tm → Tm) : KS (mapC f x) := ⟨by simpa [mapC, mapA] using h.h, by simpa [mapC] using h.b, by simpa [mapC] using h.t, fun a ha => by obtain ⟨b, hb, rfl⟩ := List.mem_map.1 ha; simpa [mapA] using h.x b hb⟩
theorem KS.len {x : Ck} (h : KS x) : (Ck.terms x).length ≤ 100 := by
  have h1 := h.h; have h2 := h.b; have h3 := h.t
  have := flat_len9 x.2.1 fun a ha => by have := h.x a ha; simp [At.pl]; omega
  unfold Ck.terms
  rw [List.length_append, List.length_append, tls_len]
  simp [At.pl] at this ⊢
  omega
theorem KS.lens {c : Cm} (h : KS c.key) : c.head.1.args.length ≤ 8 ∧ c.body.length ≤ 8 ∧ c.tests.length ≤ 8 ∧ ∀ x ∈ c.body, x.1.args.length ≤ 8 :=
  ⟨h.h, by have := h.b; simpa [Cm.key, fsts] using this, h.t, fun x hx => h.x x.1 (List.mem_map.2 ⟨x, hx, rfl⟩)⟩
theorem MCl.ok8 {B : Nat} {X : World} {d : Cm} (h : MCl B X d) (hs : KS d.key) : d.ok X := by
  obtain ⟨h1, h2, h3, h4⟩ := hs.lens
  exact h.ok (by omega) (by omega) (fun y hy => by have := h4 y hy; omega) (by omega)
theorem wf_small {v : Int} (h : 0 ≤ v) (h' : v < 100000) : (Lit.int .i64 v).wf = true := by
  simp only [Lit.wf, IntKind.min, IntKind.max, IntKind.signed, IntKind.bits, Bool.and_eq_true, decide_eq_true_eq, if_true]
  omega
end Go.Proofs.Ytelcoihmiglceaa
/-
  Clauses that lie above a block: Instance and Made answer such.
-/
namespace Go.Proofs.Ytelcoihmiglceaa
open Go.RowKit

/-- The clause d lies in the blocks of X from B on: wherever these are as in X, it is there. -/
def Kp (B : Nat) (X : World) (d : Cm) : Prop := ∀ X' : World, X.heap.size ≤ X'.heap.size → (∀ b, B ≤ b → b < X.heap.size → X'.heap[b]? = X.heap[b]?) → d.ok X'
theorem Kp.ok {B : Nat} {X : World} {d : Cm} (h : Kp B X d) : d.ok X := h X (Nat.le_refl _) fun _ _ _ => rfl
theorem Kp.later {B : Nat} {X X' : World} {d : Cm} (h : Kp B X d) (hb : Below X.heap.size X X') : Kp B X' d := fun Y hs ha =>
  h Y (Nat.le_trans hb.size hs) fun b h1 h2 => (ha b h1 (Nat.lt_of_lt_of_le h2 hb.size)).trans (hb.block b h2)
theorem Kp.mono {B B' : Nat} {X : World} {d : Cm} (h : Kp B X d) (hB : B' ≤ B) : Kp B' X d := fun Y hs ha => h Y hs fun b h1 h2 => ha b (Nat.le_trans hB h1) h2
theorem Kp.off {B G i : Nat} {X : World} {d : Cm} {c : Value} (h : Kp B X d) (hG : G < B) : Kp B (X.setCell ⟨G, i, none⟩ c) d := fun Y hs ha =>
  h Y (by simpa [World.setCell] using hs) fun b h1 h2 => (ha b h1 (by simpa [World.setCell] using h2)).trans (heap_setCell_other _ _ _ _ (show b ≠ G by omega))
/-- A clause in its box. -/
structure Bx (X : World) (G : Nat) (d : Cm) : Prop where
  b : CBlk X G d.cs 38
  o : d.ok X
theorem Bx.later {X X' : World} {G : Nat} {d : Cm} (h : Bx X G d) (hb : Below X.heap.size X X') : Bx X' G d := ⟨h.b.later hb, h.o.later hb⟩
theorem Bx.new {X : World} {d : Cm} (h : d.ok X) : Bx (X.alloc (.cells d.cs 38)) X.heap.size d := ⟨CBlk.new _ _ _, h.later (below1 _ _)⟩
end Go.Proofs.Ytelcoihmiglceaa

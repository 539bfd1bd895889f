import Derived.Test.YtelcoihmiglceaaGreatCL27
import Derived.Test.YtelcoihmiglceaaGreatMP1
import Derived.Test.YtelcoihmiglceaaGreatMD14
/-
  replaced, with what Instance makes of a term. (Written by CL29.py.)
-/
namespace Go.Proofs.YtelcoihmiglceaaGreat
open Go.RowKit
attribute [local go_sem ↓] Go.wp_at_zero Go.wp_at_succ

def insA (vs : List Tm) (x : At) : At := ⟨ins vs x.by_, x.name, x.args.map (ins vs)⟩
def insE (vs : List Tm) (x : Te) : Te := ⟨x.op, ins vs x.l, ins vs x.r⟩
/-- How far replaced has come: its boxes, the head, the atoms so far. -/
structure RI (w X : World) (o : Array Value) (k1 kb : Nat) (hd : Tm) (nm : ByteArray) (L1 : List Tm) (M1 Bh M2 : Nat) (l : List (At × Value)) : Prop where
  bc : CBlk X w.heap.size o 30
  br : CBlk X (w.heap.size + 1) zcs 30
  bh : CBlk X Bh #[.int .i64 hd.k, .int .i64 hd.n, .string hd.s, .string nm, .slice (some ⟨M1, 0, none⟩) k1 k1] 26
  a : ABlk X M2 kb l
  t1 : TsN X M2 (.slice (some ⟨M1, 0, none⟩) k1 k1) L1
  ts : ∀ x ∈ l, TsN X M2 x.2 x.1.args ∧ ∀ b, x.2.ownBlock = some b → b < X.heap.size ∧ w.heap.size + 2 ≤ b
  bw : Below w.heap.size w X
  o1 : w.heap.size + 1 < Bh
  o2 : Bh < M2
  m1 : w.heap.size + 2 ≤ M1
  m2 : M1 < Bh
/-- .. and the tests so far. -/
structure QI (w X : World) (o : Array Value) (k1 kb kt : Nat) (hd : Tm) (nm : ByteArray) (L1 : List Tm) (M1 Bh M2 : Nat) (lb : List (At × Value)) (M3 : Nat) (lt : List Te) : Prop where
  bc : CBlk X w.heap.size o 30
  br : CBlk X (w.heap.size + 1) zcs 30
  bh : CBlk X Bh #[.int .i64 hd.k, .int .i64 hd.n, .string hd.s, .string nm, .slice (some ⟨M1, 0, none⟩) k1 k1] 26
  a : ABlk X M2 kb lb
  t1 : TsN X M3 (.slice (some ⟨M1, 0, none⟩) k1 k1) L1
  t2 : M1 ≠ M2
  ts : ∀ x ∈ lb, TsN X M3 x.2 x.1.args ∧ x.2.ownBlock ≠ some M2 ∧ ∀ b, x.2.ownBlock = some b → w.heap.size + 2 ≤ b
  e : EBlk X M3 kt lt
  bw : Below w.heap.size w X
  o1 : w.heap.size + 1 < Bh
  o2 : Bh < M2
  o3 : M2 < M3
  m1 : w.heap.size + 2 ≤ M1
theorem RI.later {w X X' : World} {o : Array Value} {k1 kb : Nat} {hd : Tm} {nm : ByteArray} {L1 : List Tm} {M1 Bh M2 : Nat} {l : List (At × Value)} (h : RI w X o k1 kb hd nm L1 M1 Bh M2 l) (hb : Below X.heap.size X X') : RI w X' o k1 kb hd nm L1 M1 Bh M2 l :=
  ⟨h.bc.later hb, h.br.later hb, h.bh.later hb, h.a.later hb, h.t1.later hb, fun x hx => ⟨(h.ts x hx).1.later hb, fun b e => ⟨Nat.lt_of_lt_of_le ((h.ts x hx).2 b e).1 hb.size, ((h.ts x hx).2 b e).2⟩⟩, below_step h.bw hb, h.o1, h.o2, h.m1, h.m2⟩
theorem RI.put {w X : World} {o : Array Value} {k1 kb : Nat} {hd : Tm} {nm : ByteArray} {L1 : List Tm} {M1 Bh M2 : Nat} {l : List (At × Value)} (h : RI w X o k1 kb hd nm L1 M1 Bh M2 l) (hl : l.length < kb) (x : At × Value) (hx : TsN X M2 x.2 x.1.args) (hx' : ∀ b, x.2.ownBlock = some b → b < X.heap.size ∧ w.heap.size + 2 ≤ b) : RI w (Aput X M2 l.length x) o k1 kb hd nm L1 M1 Bh M2 (l ++ [x]) := by
  have o1 := h.o1
  have o2 := h.o2
  have n1 : w.heap.size ≠ M2 := by omega
  have n2 : w.heap.size + 1 ≠ M2 := by omega
  have n3 : Bh ≠ M2 := by omega
  have n4 : w.heap.size ≤ M2 := by omega
  refine ⟨((((h.bc.off n1).off n1).off n1).off n1).off n1, ((((h.br.off n2).off n2).off n2).off n2).off n2, ((((h.bh.off n3).off n3).off n3).off n3).off n3, h.a.put hl x, ((((h.t1.off).off).off).off).off, fun y hy => ?_, ((((h.bw.setCell n4 _).setCell n4 _).setCell n4 _).setCell n4 _).setCell n4 _, o1, o2, h.m1, h.m2⟩
  rcases List.mem_append.1 hy with hy | hy
  · exact ⟨((((((h.ts y hy).1).off).off).off).off).off, fun b e => ⟨by simpa [World.setCell] using ((h.ts y hy).2 b e).1, ((h.ts y hy).2 b e).2⟩⟩
  · rw [List.mem_singleton] at hy; subst hy; exact ⟨((((hx.off).off).off).off).off, fun b e => ⟨by simpa [World.setCell] using (hx' b e).1, (hx' b e).2⟩⟩
theorem QI.later {w X X' : World} {o : Array Value} {k1 kb kt : Nat} {hd : Tm} {nm : ByteArray} {L1 : List Tm} {M1 Bh M2 M3 : Nat} {l : List (At × Value)} {lt : List Te} (h : QI w X o k1 kb kt hd nm L1 M1 Bh M2 l M3 lt) (hb : Below X.heap.size X X') : QI w X' o k1 kb kt hd nm L1 M1 Bh M2 l M3 lt :=
  ⟨h.bc.later hb, h.br.later hb, h.bh.later hb, h.a.later hb, h.t1.later hb, h.t2, fun x hx => ⟨(h.ts x hx).1.later hb, (h.ts x hx).2⟩, h.e.later hb, below_step h.bw hb, h.o1, h.o2, h.o3, h.m1⟩
theorem QI.put {w X : World} {o : Array Value} {k1 kb kt : Nat} {hd : Tm} {nm : ByteArray} {L1 : List Tm} {M1 Bh M2 M3 : Nat} {l : List (At × Value)} {lt : List Te} (h : QI w X o k1 kb kt hd nm L1 M1 Bh M2 l M3 lt) (hl : lt.length < kt) (x : Te) : QI w (Eput X M3 lt.length x) o k1 kb kt hd nm L1 M1 Bh M2 l M3 (lt ++ [x]) := by
  have o1 := h.o1
  have o2 := h.o2
  have o3 := h.o3
  have n1 : w.heap.size ≠ M3 := by omega
  have n2 : w.heap.size + 1 ≠ M3 := by omega
  have n3 : Bh ≠ M3 := by omega
  have n5 : M2 ≠ M3 := by omega
  have n4 : w.heap.size ≤ M3 := by omega
  exact ⟨((((((h.bc.off n1).off n1).off n1).off n1).off n1).off n1).off n1, ((((((h.br.off n2).off n2).off n2).off n2).off n2).off n2).off n2, ((((((h.bh.off n3).off n3).off n3).off n3).off n3).off n3).off n3, ((((((h.a.other n5).other n5).other n5).other n5).other n5).other n5).other n5, ((((((h.t1.off).off).off).off).off).off).off, h.t2, fun y hy => ⟨(((((((h.ts y hy).1.off).off).off).off).off).off).off, (h.ts y hy).2⟩, h.e.put hl x, ((((((h.bw.setCell n4 _).setCell n4 _).setCell n4 _).setCell n4 _).setCell n4 _).setCell n4 _).setCell n4 _, o1, o2, o3, h.m1⟩
/-- A clause instanced, at and above B. -/
structure RJ (B : Nat) (X : World) (k1 kb kt : Nat) (L1 : List Tm) (F : List At) (E : List Te) (M1 M2 M3 : Nat) (lb : List (At × Value)) : Prop where
  f : fsts lb = F
  a : ABlk X M2 kb lb
  t1 : Ts X (.slice (some ⟨M1, 0, none⟩) k1 k1) L1
  n1 : M1 ≠ M2
  ts : ∀ x ∈ lb, TsN X M2 x.2 x.1.args ∧ ∀ b, x.2.ownBlock = some b → B ≤ b
  e : EBlk X M3 kt E
  b1 : B ≤ M1
  b2 : B ≤ M2
  b3 : M2 < M3
theorem RJ.later {B : Nat} {X X' : World} {k1 kb kt : Nat} {L1 : List Tm} {F : List At} {E : List Te} {M1 M2 M3 : Nat} {lb : List (At × Value)} (h : RJ B X k1 kb kt L1 F E M1 M2 M3 lb) (hb : Below X.heap.size X X') : RJ B X' k1 kb kt L1 F E M1 M2 M3 lb :=
  ⟨h.f, h.a.later hb, h.t1.later hb, h.n1, fun x hx => ⟨(h.ts x hx).1.later hb, (h.ts x hx).2⟩, h.e.later hb, h.b1, h.b2, h.b3⟩
theorem RJ.mono {B B' : Nat} {X : World} {k1 kb kt : Nat} {L1 : List Tm} {F : List At} {E : List Te} {M1 M2 M3 : Nat} {lb : List (At × Value)} (h : RJ B X k1 kb kt L1 F E M1 M2 M3 lb) (hB : B' ≤ B) : RJ B' X k1 kb kt L1 F E M1 M2 M3 lb :=
  ⟨h.f, h.a, h.t1, h.n1, fun x hx => ⟨(h.ts x hx).1, fun b e => Nat.le_trans hB ((h.ts x hx).2 b e)⟩, h.e, Nat.le_trans hB h.b1, Nat.le_trans hB h.b2, h.b3⟩
theorem RJ.off {B g i : Nat} {v : Value} {X : World} {k1 kb kt : Nat} {L1 : List Tm} {F : List At} {E : List Te} {M1 M2 M3 : Nat} {lb : List (At × Value)} (h : RJ B X k1 kb kt L1 F E M1 M2 M3 lb) (hg : g < B) : RJ B (X.setCell ⟨g, i, none⟩ v) k1 kb kt L1 F E M1 M2 M3 lb := by
  have b1 := h.b1
  have b2 := h.b2
  have b3 := h.b3
  exact ⟨h.f, h.a.other (by omega), h.t1.off (fun e => by have : M1 = g := Option.some.inj e; omega), h.n1, fun x hx => ⟨⟨(h.ts x hx).1.1.off (fun e => by have := (h.ts x hx).2 _ e; omega), (h.ts x hx).1.2⟩, (h.ts x hx).2⟩, h.e.other (by omega), b1, b2, b3⟩
def Cm.cpI (c : Cm) (vs : List Tm) (M1 M2 M3 : Nat) (lb : List (At × Value)) : Cm := ⟨(insA vs c.head.1, .slice (some ⟨M1, 0, none⟩) c.head.1.args.length c.head.1.args.length), lb, .slice (some ⟨M2, 0, none⟩) c.body.length c.body.length, c.tests.map (insE vs), .slice (some ⟨M3, 0, none⟩) c.tests.length c.tests.length⟩
end Go.Proofs.YtelcoihmiglceaaGreat
/-
  Numbers of variables; constants for variables. (Plain.)
-/
namespace Go.Proofs.YtelcoihmiglceaaGreat
open Go.RowKit

/-- The numbers below n. -/
def ints (n : Nat) : List Int := (List.range n).map fun i : Nat => (i : Int)
theorem mem_ints {n : Nat} {v : Int} : v ∈ ints n ↔ 0 ≤ v ∧ v < n := by
  simp only [ints, List.mem_map, List.mem_range]
  exact ⟨fun ⟨i, h, e⟩ => by omega, fun ⟨h1, h2⟩ => ⟨v.toNat, by omega, by omega⟩⟩
theorem ints_succ (n : Nat) : ints (n + 1) = ints n ++ [(n : Int)] := by simp [ints, List.range_succ]
theorem mis_ints : ∀ (l : List Int) (n : Nat), (∀ v ∈ l, 0 ≤ v) → mis n l = false → ∃ m, n ≤ m ∧ l.foldl dstep (ints n) = ints m ∧ ∀ v ∈ l, v < m
  | [], n, _, _ => ⟨n, Nat.le_refl _, rfl, fun v hv => by cases hv⟩
  | v :: l, n, h0, h => by
    rw [mis] at h
    by_cases h1 : (n : Int) < v
    · rw [if_pos h1] at h; cases h
    · rw [if_neg h1] at h
      have hv := h0 v (by simp)
      rw [List.foldl_cons]
      by_cases h2 : v = n
      · rw [if_pos h2] at h
        have e : dstep (ints n) v = ints (n + 1) := by
          unfold dstep; rw [if_neg (by rw [mem_ints]; omega), ints_succ, h2]
        obtain ⟨m, k1, k2, k3⟩ := mis_ints l (n + 1) (fun u hu => h0 u (by simp [hu])) (by exact_mod_cast h)
        rw [e]
        refine ⟨m, by omega, k2, fun u hu => ?_⟩
        rcases List.mem_cons.1 hu with rfl | hu
        · omega
        · exact k3 u hu
      · rw [if_neg h2] at h
        have e : dstep (ints n) v = ints n := by
          unfold dstep; rw [if_pos (by rw [mem_ints]; omega)]
        obtain ⟨m, k1, k2, k3⟩ := mis_ints l n (fun u hu => h0 u (by simp [hu])) h
        rw [e]
        refine ⟨m, k1, k2, fun u hu => ?_⟩
        rcases List.mem_cons.1 hu with rfl | hu
        · omega
        · exact k3 u hu
theorem ints_sub : ∀ {m : Nat} {L : List Int}, (∀ v ∈ ints m, v ∈ L) → m ≤ L.length
  | 0, _, _ => Nat.zero_le _
  | m + 1, L, h => by
    have hm : (m : Int) ∈ L := h _ (by rw [mem_ints]; omega)
    have := ints_sub (m := m) (L := L.erase (m : Int)) fun v hv => by
      have h2 := mem_ints.1 hv
      exact (List.mem_erase_of_ne (by omega)).2 (h v (by rw [mem_ints]; omega))
    rw [List.length_erase_of_mem hm] at this
    have := List.length_pos_of_mem hm
    omega
theorem var_nn {t : Tm} (h : t.var = true) : 0 ≤ t.n := by simp only [Tm.var, decide_eq_true_eq] at h; exact h.2.1
/-- A valid clause's variables: those below their number. -/
theorem num_vars {x : Ck} (hm : mis 0 (vrs (Ck.terms x)) = false) : ∃ m, dis (vrs (Ck.terms x)) = ints m ∧ ∀ t ∈ Ck.terms x, t.var = true → t.n < m := by
  obtain ⟨m, -, h2, h3⟩ := mis_ints (vrs (Ck.terms x)) 0 (fun v hv => by
    obtain ⟨t, ht, rfl⟩ := List.mem_map.1 hv
    exact var_nn (List.mem_filter.1 ht).2) hm
  exact ⟨m, h2, fun t ht hv => h3 _ (List.mem_map.2 ⟨t, List.mem_filter.2 ⟨ht, hv⟩, rfl⟩)⟩
theorem dis_mem {l : List Int} {v : Int} : v ∈ dis l ↔ v ∈ l := by
  unfold dis
  have : ∀ (l acc : List Int), v ∈ l.foldl dstep acc ↔ v ∈ acc ∨ v ∈ l := by
    intro l
    induction l with
    | nil => intro acc; simp
    | cons a l ih =>
      intro acc
      rw [List.foldl_cons, ih, List.mem_cons, dstep]
      by_cases h : a ∈ acc
      · rw [if_pos h]
        exact ⟨fun e => e.elim Or.inl fun e => Or.inr (Or.inr e), fun e => e.elim Or.inl fun e => e.elim (fun e => Or.inl (e ▸ h)) Or.inr⟩
      · rw [if_neg h, List.mem_append, List.mem_singleton, or_assoc]
  rw [this]; simp
theorem body_len {x : Ck} (h : Val0 x) : (x.2.1.flatMap At.pl).length ≤ 72 := by
  have hl := h.bl
  have he : ∀ a ∈ x.2.1, a.pl.length ≤ 9 := fun a ha => by
    have := (err_zero' (h.e a (by simp [ha]))).2.1
    simp [At.pl]; omega
  have : ∀ l : List At, (∀ a ∈ l, a.pl.length ≤ 9) → (l.flatMap At.pl).length ≤ l.length * 9 := by
    intro l
    induction l with
    | nil => intro _; simp
    | cons a l ih =>
      intro h
      rw [List.flatMap_cons, List.length_append, List.length_cons]
      have h1 := h a (by simp)
      have h2 := ih fun b hb => h b (by simp [hb])
      omega
  have := this _ he
  omega
theorem num_le {x : Ck} (h : Val0 x) {m : Nat} (hd : dis (vrs (Ck.terms x)) = ints m) : m ≤ 72 := by
  have h2 := body_len h
  have : m ≤ (vrs (x.2.1.flatMap At.pl)).length := ints_sub fun v hv => by
    rw [← hd, dis_mem] at hv
    obtain ⟨t, ht, rfl⟩ := List.mem_map.1 hv
    obtain ⟨ht, hvt⟩ := List.mem_filter.1 ht
    refine List.mem_map.2 ⟨t, List.mem_filter.2 ⟨?_, hvt⟩, rfl⟩
    unfold Ck.terms at ht
    rcases List.mem_append.1 ht with ht | ht
    · exact h.s t (by simp [ht]) hvt
    · rcases List.mem_append.1 ht with ht | ht
      · exact ht
      · exact h.s t (by simp [ht]) hvt
  have h3 : (vrs (x.2.1.flatMap At.pl)).length ≤ (x.2.1.flatMap At.pl).length := by
    unfold vrs; rw [List.length_map]; exact List.length_filter_le _ _
  omega
end Go.Proofs.YtelcoihmiglceaaGreat
/-
  consts; Instance, Vars of small clauses.
-/
namespace Go.Proofs.YtelcoihmiglceaaGreat
open Go.RowKit
attribute [local go_sem ↓] Go.wp_at_zero Go.wp_at_succ

/-- A clause of few and short lists. -/
structure KS (x : Ck) : Prop where
  h : x.1.args.length ≤ 8
  b : x.2.1.length ≤ 8
  t : x.2.2.length ≤ 8
  x : ∀ a ∈ x.2.1, a.args.length ≤ 8
theorem Val0.ks {x : Ck} (h : Val0 x) : KS x := ⟨(err_zero' (h.e _ (by simp))).2.1, h.bl, h.tl, fun a ha => (err_zero' (h.e a (by simp [ha]))).2.1⟩
theorem KS.map {x : Ck} (h : KS x) (f : Tm → Tm) : KS (mapC f x) := ⟨by simpa [mapC, mapA] using h.h, by simpa [mapC] using h.b, by simpa [mapC] using h.t, fun a ha => by obtain ⟨b, hb, rfl⟩ := List.mem_map.1 ha; simpa [mapA] using h.x b hb⟩
theorem KS.len {x : Ck} (h : KS x) : (Ck.terms x).length ≤ 100 := by
  have h1 := h.h; have h2 := h.b; have h3 := h.t
  have := flat_len9 x.2.1 fun a ha => by have := h.x a ha; simp [At.pl]; omega
  unfold Ck.terms
  rw [List.length_append, List.length_append, tls_len]
  simp [At.pl] at this ⊢
  omega
theorem KS.lens {c : Cm} (h : KS c.key) : c.head.1.args.length ≤ 8 ∧ c.body.length ≤ 8 ∧ c.tests.length ≤ 8 ∧ ∀ x ∈ c.body, x.1.args.length ≤ 8 :=
  ⟨h.h, by have := h.b; simpa [Cm.key, fsts] using this, h.t, fun x hx => h.x x.1 (List.mem_map.2 ⟨x, hx, rfl⟩)⟩
theorem MCl.ok8 {B : Nat} {X : World} {d : Cm} (h : MCl B X d) (hs : KS d.key) : d.ok X := by
  obtain ⟨h1, h2, h3, h4⟩ := hs.lens
  exact h.ok (by omega) (by omega) (fun y hy => by have := h4 y hy; omega) (by omega)
theorem wf_small {v : Int} (h : 0 ≤ v) (h' : v < 100000) : (Lit.int .i64 v).wf = true := by
  simp only [Lit.wf, IntKind.min, IntKind.max, IntKind.signed, IntKind.bits, Bool.and_eq_true, decide_eq_true_eq, if_true]
  omega
end Go.Proofs.YtelcoihmiglceaaGreat
/-
  Clauses that lie above a block: Instance and Made answer such.
-/
namespace Go.Proofs.YtelcoihmiglceaaGreat
open Go.RowKit

/-- The clause d lies in the blocks of X from B on: wherever these are as in X, it is there. -/
def Kp (B : Nat) (X : World) (d : Cm) : Prop := ∀ X' : World, X.heap.size ≤ X'.heap.size → (∀ b, B ≤ b → b < X.heap.size → X'.heap[b]? = X.heap[b]?) → d.ok X'
theorem Kp.ok {B : Nat} {X : World} {d : Cm} (h : Kp B X d) : d.ok X := h X (Nat.le_refl _) fun _ _ _ => rfl
theorem Kp.later {B : Nat} {X X' : World} {d : Cm} (h : Kp B X d) (hb : Below X.heap.size X X') : Kp B X' d := fun Y hs ha =>
  h Y (Nat.le_trans hb.size hs) fun b h1 h2 => (ha b h1 (Nat.lt_of_lt_of_le h2 hb.size)).trans (hb.block b h2)
theorem Kp.mono {B B' : Nat} {X : World} {d : Cm} (h : Kp B X d) (hB : B' ≤ B) : Kp B' X d := fun Y hs ha => h Y hs fun b h1 h2 => ha b (Nat.le_trans hB h1) h2
theorem Kp.off {B G i : Nat} {X : World} {d : Cm} {c : Value} (h : Kp B X d) (hG : G < B) : Kp B (X.setCell ⟨G, i, none⟩ c) d := fun Y hs ha =>
  h Y (by simpa [World.setCell] using hs) fun b h1 h2 => (ha b h1 (by simpa [World.setCell] using h2)).trans (heap_setCell_other _ _ _ _ (show b ≠ G by omega))
theorem Ts.agree {X X' : World} {v : Value} {l : List Tm} (h : Ts X v l) (hs : X.heap.size ≤ X'.heap.size) (hb : ∀ b, v.ownBlock = some b → b < X.heap.size → X'.heap[b]? = X.heap[b]?) : Ts X' v l := by
  obtain ⟨a, cap, rfl, hl, hm⟩ := h
  refine ⟨a, cap, rfl, hl, ?_⟩
  rcases hm with hm | ⟨b, o, rfl, hlt, hm⟩
  · exact Or.inl hm
  · have hc : ∀ j, X'.cell? ⟨b, j, none⟩ = X.cell? ⟨b, j, none⟩ := fun j => World.cell?_of_block (w := X) (a := ⟨b, j, none⟩) (hb b rfl hlt)
    refine Or.inr ⟨b, o, rfl, Nat.lt_of_lt_of_le hlt hs, fun q t ht => ?_⟩
    simp only [hc]
    exact hm q t ht
theorem RJ.kp {B : Nat} {X : World} {c : Cm} {vs : List Tm} {M1 M2 M3 : Nat} {lb : List (At × Value)} (h : RJ B X c.head.1.args.length c.body.length c.tests.length (c.head.1.args.map (ins vs)) ((fsts c.body).map (insA vs)) (c.tests.map (insE vs)) M1 M2 M3 lb)
    (h2 : c.body.length < 1000000000000000000) (h3 : c.tests.length < 1000000000000000000) : Kp B X (c.cpI vs M1 M2 M3 lb) := fun Y hs ha => by
  have hl : lb.length = c.body.length := by have := congrArg List.length h.f; simpa [fsts] using this
  have hA : ABlk Y M2 c.body.length lb := by
    obtain ⟨C, e1, e2, e3⟩ := h.a
    exact ⟨C, (ha M2 h.b2 h.a.lt).trans e1, e2, e3⟩
  have hE : EBlk Y M3 c.tests.length (c.tests.map (insE vs)) := by
    obtain ⟨C, e1, e2, e3⟩ := h.e
    exact ⟨C, (ha M3 (by have := h.b2; have := h.b3; omega) h.e.lt).trans e1, e2, e3⟩
  refine ⟨?_, hA.as hl h2 fun x hx => (h.ts x hx).1.1.agree hs fun b e hlt => ha b ((h.ts x hx).2 b e) hlt, hE.es (by simp) h3⟩
  exact h.t1.agree hs fun b e hlt => by obtain rfl : M1 = b := Option.some.inj e; exact ha M1 h.b1 hlt
theorem OwnT.agree {X X' : World} {B : Nat} {v : Value} {l : List Tm} (h : OwnT X B v l) (hb : ∀ b, B ≤ b → b < X.heap.size → X'.heap[b]? = X.heap[b]?) : OwnT X' B v l := by
  refine ⟨h.1, ?_⟩
  rcases h.2 with hn | ⟨g, cap, cur, hv, hbb, hg, rest⟩
  · exact Or.inl hn
  · exact Or.inr ⟨g, cap, cur, hv, hbb, (hb g hbb (Array.getElem?_eq_some_iff.1 hg).1).trans hg, rest⟩
theorem OwnA.agree {X X' : World} {B : Nat} {v : Value} {l : List (At × Value)} (h : OwnA X B v l) (hb : ∀ b, B ≤ b → b < X.heap.size → X'.heap[b]? = X.heap[b]?) : OwnA X' B v l := by
  refine ⟨h.1, ?_⟩
  rcases h.2 with hn | ⟨g, cap, cur, hv, hbb, hg, rest⟩
  · exact Or.inl hn
  · exact Or.inr ⟨g, cap, cur, hv, hbb, (hb g hbb (Array.getElem?_eq_some_iff.1 hg).1).trans hg, rest⟩
theorem OwnE.agree {X X' : World} {B : Nat} {v : Value} {l : List Te} (h : OwnE X B v l) (hb : ∀ b, B ≤ b → b < X.heap.size → X'.heap[b]? = X.heap[b]?) : OwnE X' B v l := by
  refine ⟨h.1, ?_⟩
  rcases h.2 with hn | ⟨g, cap, cur, hv, hbb, hg, rest⟩
  · exact Or.inl hn
  · exact Or.inr ⟨g, cap, cur, hv, hbb, (hb g hbb (Array.getElem?_eq_some_iff.1 hg).1).trans hg, rest⟩
theorem MCl.kp {B : Nat} {X : World} {d : Cm} (h : MCl B X d) (hs : KS d.key) : Kp B X d := fun Y _ ha =>
  (show MCl B Y d from ⟨h.h.agree ha, h.b.agree ha, fun y hy => (h.x y hy).agree ha, h.t.agree ha, h.s⟩).ok8 hs
/-- A clause in its box. -/
structure Bx (X : World) (G : Nat) (d : Cm) : Prop where
  b : CBlk X G d.cs 30
  o : d.ok X
theorem Bx.later {X X' : World} {G : Nat} {d : Cm} (h : Bx X G d) (hb : Below X.heap.size X X') : Bx X' G d := ⟨h.b.later hb, h.o.later hb⟩
theorem Bx.new {X : World} {d : Cm} (h : d.ok X) : Bx (X.alloc (.cells d.cs 30)) X.heap.size d := ⟨CBlk.new _ _ _, h.later (below1 _ _)⟩
end Go.Proofs.YtelcoihmiglceaaGreat

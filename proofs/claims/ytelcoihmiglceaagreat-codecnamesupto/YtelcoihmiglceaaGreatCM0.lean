import Derived.Test.YtelcoihmiglceaaGreatCD2
import Derived.Test.YtelcoihmiglceaaGreatCG1
import Derived.Test.YtelcoihmiglceaaGreatLE2
import Derived.Defers
import Derived.Recover
import Derived.Test.YtelcoihmiglceaaGreatCK1
import Derived.Test.YtelcoihmiglceaaGreatCD3
import Derived.Test.YtelcoihmiglceaaGreatCK2
import Derived.Test.YtelcoihmiglceaaGreatCL27
/-
  The codec, plain: clauses that are written are read back.
-/
namespace Go.Proofs.YtelcoihmiglceaaGreat
open Go.RowKit

theorem chk_errs {c : Cm} (h : c.chk = 0) : (∀ a ∈ c.key.1 :: c.key.2.1, a.err = 0) ∧ (∀ e ∈ c.key.2.2, e.ok = true) ∧ c.key.2.1.length ≤ 8 ∧ c.key.2.2.length ≤ 8 := by
  have h1 : long c = false := by
    cases e : long c
    · rfl
    · rw [chk_1 e] at h; cases h
  have h2 : aErr c.atoms = 0 := by
    by_cases e : aErr c.atoms = 0
    · exact e
    · rw [chk_2 h1 e] at h; exact absurd h e
  have h3 : badT c = false := by
    cases e : badT c
    · rfl
    · rw [chk_3 h1 h2 e] at h; cases h
  have hall := aErr_all h2
  have h4 := chk_fit h
  refine ⟨fun a ha => ?_, fun e he => ?_, h4.2.2.1, h4.2.2.2⟩
  · rcases List.mem_cons.1 ha with rfl | ha
    · exact hall c.head (by simp [Cm.atoms])
    · obtain ⟨x, hx, rfl⟩ := List.mem_map.1 ha
      exact hall x (by simp [Cm.atoms, hx])
  · have := List.any_eq_false.1 h3 e he
    simpa only [Bool.not_eq_true, Bool.not_eq_false'] using this
theorem rTest_eB {e : Te} (r : List Int) (h : e.ok = true) (hl : rng e.l) (hr : rng e.r) : rTest (eB e ++ r) = .ok (e, r) := by
  obtain ⟨op, x, y⟩ := e
  unfold Te.ok at h
  simp only [Bool.and_eq_true, decide_eq_true_eq] at h
  obtain ⟨⟨h1, h2⟩, h3, h4⟩ := h
  have hk : op ∈ [(1 : Int), 2, 3, 4] := by
    simp only [List.mem_cons, List.mem_nil_iff, or_false]
    omega
  unfold rTest eB
  simp only [List.cons_append, List.append_assoc]
  rw [rOne_one _ hk]
  simp only [Rd.and]
  rw [rArg_tB _ h3 hl]
  simp only
  rw [rArg_tB _ h4 hr]
/-- All numbers of a clause are of 64 bits. -/
structure Rng (x : Ck) : Prop where
  a : ∀ a ∈ x.1 :: x.2.1, ∀ t ∈ a.pl, rng t
  e : ∀ e ∈ x.2.2, rng e.l ∧ rng e.r
theorem rClause_cB {c : Cm} (r : List Int) (h : c.chk = 0) (hr : Rng c.key) : rClause (cB c.key ++ r) = .ok (c.key, r) := by
  obtain ⟨h1, h2, h3, h4⟩ := chk_errs h
  rw [chk_keyK] at h
  generalize c.key = x at *
  obtain ⟨a, b, ts⟩ := x
  obtain ⟨ra, re⟩ := hr
  simp only at h1 h2 h3 h4 ra re
  unfold rClause cB
  simp only [List.append_assoc, List.cons_append]
  rw [rAtom_aB _ (h1 a (by simp)) (ra a (by simp))]
  simp only [Rd.and]
  rw [rBnd_one _ (by omega) (by omega)]
  simp only [Int.toNat_natCast]
  rw [rMany_flat b _ (fun y hy r => rAtom_aB r (h1 y (by simp [hy])) (ra y (by simp [hy])))]
  simp only
  rw [rBnd_one _ (by omega) (by omega)]
  simp only [Int.toNat_natCast]
  rw [rMany_flat ts _ (fun y hy r => rTest_eB r (h2 y hy) (re y hy).1 (re y hy).2)]
  simp only
  rw [if_pos h]
end Go.Proofs.YtelcoihmiglceaaGreat
/-
  The codec, plain: the numbers of what Made makes are of 64 bits.
-/
namespace Go.Proofs.YtelcoihmiglceaaGreat
open Go.RowKit

theorem rng_mkC {t : Tm} (h : rng t) : rng (mkC t) := by
  unfold mkC
  split
  · exact h
  · split
    · exact ⟨by simp only; omega, by simp only; omega⟩
    · exact h
theorem rng_fixT {t : Tm} (h : rng t) : rng (fixT t) := by
  unfold fixT
  split
  · exact h
  · exact rng_mkC h
theorem rng_zt : rng zt := ⟨by simp [zt], by simp [zt]⟩
theorem rng_sf {l : List Tm} {t : Tm} (h : rng t) : rng (sf l t) := by
  unfold sf grd
  split
  · exact h
  · split
    · exact h
    · exact h
theorem rng_mkA {a : At} (h : ∀ t ∈ a.pl, rng t) : ∀ t ∈ (mkA a).pl, rng t := fun t ht => by
  simp only [mkA, At.pl, List.mem_cons, List.mem_map] at ht
  rcases ht with rfl | ⟨u, hu, rfl⟩
  · split
    · exact h _ (by simp [At.pl])
    · exact rng_zt
  · exact rng_fixT (h u (by simp only [At.pl, List.mem_cons]; exact .inr (List.mem_of_mem_take hu)))
theorem made0_rng {x : Ck} (h : Rng x) : Rng (made0 x) := by
  refine ⟨fun a ha t ht => ?_, fun e he => ?_⟩
  · rcases List.mem_cons.1 ha with rfl | ha
    · have hm := rng_mkA (h.a x.1 (by simp))
      simp only [made0, At.pl, List.mem_cons, List.mem_map] at ht
      rcases ht with rfl | ⟨u, hu, rfl⟩
      · split
        · exact rng_zt
        · exact hm _ (by simp [At.pl])
      · exact rng_sf (hm u (by simp [At.pl, hu]))
    · simp only [made0, List.mem_map] at ha
      obtain ⟨b, hb, rfl⟩ := ha
      exact rng_mkA (h.a b (List.mem_cons_of_mem _ (List.mem_of_mem_take hb))) t ht
  · simp only [made0, List.mem_map] at he
    obtain ⟨b, hb, rfl⟩ := he
    have := h.e b (List.mem_of_mem_take hb)
    exact ⟨rng_sf (rng_fixT this.1), rng_sf (rng_fixT this.2)⟩
theorem dstep_len (l : List Tm) : ∀ acc : List Tm, (l.foldl dstepT acc).length ≤ acc.length + l.length := by
  induction l with
  | nil => intro acc; simp
  | cons x l ih =>
    intro acc
    have h1 := ih (dstepT acc x)
    have h2 : (dstepT acc x).length ≤ acc.length + 1 := by
      unfold dstepT
      split
      · omega
      · simp
    simp only [List.foldl_cons, List.length_cons]
    omega
theorem disT_len9 (l : List Tm) : (disT l).length ≤ l.length := by
  have h1 := dstep_len (l.filter Tm.var) []
  have h2 := List.length_filter_le Tm.var l
  unfold disT
  simp only [List.length_nil] at h1
  omega
theorem flat_lenK {α β : Type} {f : α → List β} {k : Nat} : ∀ {l : List α}, (∀ x ∈ l, (f x).length ≤ k) → (l.flatMap f).length ≤ l.length * k
  | [], _ => by simp
  | x :: l, h => by
    have h1 := h x (by simp)
    have h2 := flat_lenK (l := l) (fun y hy => h y (by simp [hy]))
    simp only [List.flatMap_cons, List.length_append, List.length_cons, Nat.add_mul, Nat.one_mul]
    omega
theorem val_terms {x : Ck} (h : Val0 x) : (Ck.terms x).length ≤ 97 := by
  have ha : ∀ a ∈ x.1 :: x.2.1, a.pl.length ≤ 9 := fun a ha => by
    have := (fit_of (h.e a ha)).len
    simp only [At.pl, List.length_cons]
    omega
  have h1 := ha x.1 (by simp)
  have h2 := flat_lenK (f := At.pl) (l := x.2.1) (fun a hx => ha a (List.mem_cons_of_mem _ hx))
  have h3 : (tls x.2.2).length ≤ x.2.2.length * 2 := flat_lenK (fun a _ => by simp)
  have h4 := h.bl
  have h5 := h.tl
  simp only [Ck.terms, List.length_append]
  omega
theorem rng_nmT {vs : List Tm} {t : Tm} (hv : vs.length ≤ 97) (h : rng t) : rng (nmT vs t) := by
  unfold nmT
  split
  · rename_i hm
    have := ix_lt hm
    exact ⟨by simp only; omega, by simp only; omega⟩
  · exact h
theorem made_rng (hp : nameOk nmP = true) {x : Ck} (h : Rng x) : Rng (madeK x) := by
  have hr := made0_rng h
  have hv := Nat.le_trans (disT_len9 (Ck.terms (made0 x))) (val_terms (made0_val hp x))
  unfold madeK normC
  generalize disT (Ck.terms (made0 x)) = vs at *
  generalize made0 x = y at *
  refine ⟨fun a ha t ht => ?_, fun e he => ?_⟩
  · obtain ⟨b, hb, rfl⟩ : ∃ b ∈ y.1 :: y.2.1, a = mapA (nmT vs) b := by
      simp only [mapC, List.mem_cons, List.mem_map] at ha
      rcases ha with rfl | ⟨b, hb, rfl⟩
      · exact ⟨y.1, by simp, rfl⟩
      · exact ⟨b, by simp [hb], rfl⟩
    rw [mapA_pl, List.mem_map] at ht
    obtain ⟨u, hu, rfl⟩ := ht
    exact rng_nmT hv (hr.a b hb u hu)
  · simp only [mapC, List.mem_map] at he
    obtain ⟨b, hb, rfl⟩ := he
    have := hr.e b hb
    exact ⟨rng_nmT hv this.1, rng_nmT hv this.2⟩
end Go.Proofs.YtelcoihmiglceaaGreat
/-
  The codec reads: read of an atom, with what it gives up; ReadAtom.
-/
namespace Go.Proofs.YtelcoihmiglceaaGreat
open Go.RowKit

/-- Bytes that are handed to a reader. -/
def Bh (w : World) (v : Value) (l : List Int) : Prop := byt l ∧ ∃ b o cap, v = .slice (some ⟨b, o, none⟩) l.length cap ∧ l.length < cap ∧ l.length < 1000000000000000000 ∧ b < w.heap.size ∧ ∀ (i : Nat) (x : Int), l[i]? = some x → w.cell? ⟨b, o + i, none⟩ = some (.int .u8 x)
/-- The atom of nothing. -/
def a0 : At := ⟨zt, ⟨#[]⟩, []⟩
theorem Bh.later {w w' : World} {v : Value} {l : List Int} (h : Bh w v l) (hb : Below w.heap.size w w') : Bh w' v l := by
  obtain ⟨hy, b, o, cap, rfl, h0, h1, h2, h3⟩ := h
  exact ⟨hy, b, o, cap, rfl, h0, h1, Nat.lt_of_lt_of_le h2 hb.size, fun i x hx => cell_step hb h2 (h3 i x hx)⟩
end Go.Proofs.YtelcoihmiglceaaGreat
/-
  Bytes lent, for a seat without the reader of ref06. (Written by CJ6.py.)
-/
namespace Go.Proofs.YtelcoihmiglceaaGreat
open Go.RowKit

/-- Bytes that are handed in. -/
def Br (w : World) (v : Value) (B : List Int) : Prop := byt B ∧ ∃ a cap, v = .slice a B.length cap ∧ B.length ≤ cap ∧ B.length < 1000000000000000000 ∧ (a = none → cap = 0) ∧ (B = [] ∨ ∃ b o, a = some ⟨b, o, none⟩ ∧ b < w.heap.size ∧ ∀ (i : Nat) (x : Int), B[i]? = some x → w.cell? ⟨b, o + i, none⟩ = some (.int .u8 x))
theorem Br.later {w w' : World} {v : Value} {B : List Int} (h : Br w v B) (hb : Below w.heap.size w w') : Br w' v B := by
  obtain ⟨hy, a, cap, rfl, h0, h1, hn, h⟩ := h
  refine ⟨hy, a, cap, rfl, h0, h1, hn, h.imp id ?_⟩
  rintro ⟨b, o, rfl, h2, h3⟩
  exact ⟨b, o, rfl, Nat.lt_of_lt_of_le h2 hb.size, fun i x hx => cell_step hb h2 (h3 i x hx)⟩
theorem Br.bn {w : World} {v : Value} {B : List Int} (h : Br w v B) : Bn w v B := by
  obtain ⟨hy, a, cap, rfl, h0, h1, -, h⟩ := h
  exact ⟨a, cap, rfl, h0, by omega, h⟩
/-- Bytes lent, with three more behind them. -/
def LentB (X : World) (base : Nat) (v : Value) (B : List Int) : Prop := ∃ g cap, v = .slice (some ⟨g, 0, none⟩) B.length cap ∧ B.length + 3 ≤ cap ∧ OwnB X base (.slice (some ⟨g, 0, none⟩) (B.length + 3) cap) (B ++ [91, 92, 93])
theorem LentB.later {X X' : World} {base : Nat} {v : Value} {B : List Int} (h : LentB X base v B) (hb : Below X.heap.size X X') : LentB X' base v B := by
  obtain ⟨g, cap, rfl, h1, h2⟩ := h
  exact ⟨g, cap, rfl, h1, h2.later hb⟩
theorem LentB.cells {X : World} {base g cap : Nat} {B : List Int} (h : OwnB X base (.slice (some ⟨g, 0, none⟩) (B.length + 3) cap) (B ++ [91, 92, 93])) : g < X.heap.size ∧ ∀ (i : Nat) (x : Int), (B ++ [91, 92, 93])[i]? = some x → X.cell? ⟨g, i, none⟩ = some (.int .u8 x) := by
  refine ⟨(World.ownsRow.lt h g rfl).2, fun i x hx => ?_⟩
  have := World.ownsRow.cells h (g := g) rfl i (.int .u8 x) (by simp only [ibs, List.getElem?_map, hx, Option.map_some])
  rw [Addr.add_mid, Nat.zero_add] at this
  exact this
theorem LentB.bh {X : World} {base : Nat} {v : Value} {B : List Int} (h : LentB X base v B) (hy : byt B) (hl : B.length < 1000000000000000000) : Bh X v B := by
  obtain ⟨g, cap, rfl, h1, h2⟩ := h
  obtain ⟨h3, h4⟩ := LentB.cells h2
  refine ⟨hy, g, 0, cap, rfl, by omega, hl, h3, fun i x hx => ?_⟩
  rw [Nat.zero_add]
  exact h4 i x (by rw [List.getElem?_append_left (List.getElem?_eq_some_iff.1 hx).1]; exact hx)
theorem Bh.bn {w : World} {v : Value} {l : List Int} (h : Bh w v l) : Bn w v l := by
  obtain ⟨h1, b, o, cap, rfl, h2, h3, h4, h5⟩ := h
  exact ⟨_, cap, rfl, by omega, h3, Or.inr ⟨b, o, rfl, h4, h5⟩⟩
theorem ownB_form {w : World} {base : Nat} {v : Value} {l : List Int} (h : OwnB w base v l) : ∃ a n cap, v = .slice a n cap := by
  rcases h.2 with ⟨hv, -⟩ | ⟨g, cap, cur, hv, -⟩
  · exact ⟨_, _, _, hv⟩
  · exact ⟨_, _, _, hv⟩
end Go.Proofs.YtelcoihmiglceaaGreat
/-
  The codec, plain: a clause that Check lets pass is valid, and Made leaves it; bytes that a call answered can be lent.
-/
namespace Go.Proofs.YtelcoihmiglceaaGreat
open Go.RowKit

theorem Bn.br {w : World} {v : Value} {l : List Int} (h : Bn w v l) (hb : byt l) (hl : l ≠ []) : Br w v l := by
  obtain ⟨a, cap, rfl, h0, h1, h⟩ := h
  rcases h with h | ⟨b, o, rfl, h2, h3⟩
  · exact absurd h hl
  · exact ⟨hb, _, cap, rfl, h0, h1, (fun h => by cases h), Or.inr ⟨b, o, rfl, h2, h3⟩⟩
end Go.Proofs.YtelcoihmiglceaaGreat
/-
  The codec reads: read of a clause; ReadClause. (Written by CG4.py.)
-/
namespace Go.Proofs.YtelcoihmiglceaaGreat
open Go.RowKit

/-- The clause of nothing. -/
def c0 : Cm := ⟨(⟨zt, ⟨#[]⟩, []⟩, .slice none 0 0), [], .slice none 0 0, [], .slice none 0 0⟩
end Go.Proofs.YtelcoihmiglceaaGreat
/-
  The codec, plain: an error of reading is never 0; the bytes of a clause and of an atom.
-/
namespace Go.Proofs.YtelcoihmiglceaaGreat
open Go.RowKit

theorem aB_byt9 {a : At} (h : Fit a) : byt (aB a) := by
  unfold aB
  refine (tB_byt h.by_).app ((sB_byt (by have := h.nm; omega)).app ?_)
  intro x hx
  rcases List.mem_cons.1 hx with rfl | hx
  · have := h.len; omega
  · obtain ⟨t, ht, hx⟩ := List.mem_flatMap.1 hx
    exact tB_byt (h.args t ht) x hx
theorem eB_byt9 {e : Te} (h : FitE e) : byt (eB e) := by
  intro x hx
  unfold eB at hx
  rcases List.mem_cons.1 hx with rfl | hx
  · have := h.op; omega
  · rcases List.mem_append.1 hx with hx | hx
    · exact tB_byt h.l x hx
    · exact tB_byt h.r x hx
theorem cB_byt9 {c : Cm} (h : c.chk = 0) : byt (cB c.key) := by
  obtain ⟨g1, g2, g3, g4⟩ := chk_fit h
  unfold cB
  refine (aB_byt9 (g1 _ (by simp))).app (byt.app ?_ ?_)
  · intro x hx
    rcases List.mem_cons.1 hx with rfl | hx
    · omega
    · obtain ⟨a, ha, hx⟩ := List.mem_flatMap.1 hx
      exact aB_byt9 (g1 a (List.mem_cons_of_mem _ ha)) x hx
  · intro x hx
    rcases List.mem_cons.1 hx with rfl | hx
    · omega
    · obtain ⟨a, ha, hx⟩ := List.mem_flatMap.1 hx
      exact eB_byt9 (g2 a ha) x hx
/-- A clause of this key. -/
def kC (x : Ck) : Cm := ⟨(x.1, .slice none 0 0), x.2.1.map fun a => (a, .slice none 0 0), .slice none 0 0, x.2.2, .slice none 0 0⟩
theorem kC_key (x : Ck) : (kC x).key = x := by
  obtain ⟨h, b, t⟩ := x
  simp [kC, Cm.key, fsts, Function.comp_def]
abbrev Aput5 (X : World) (G : Nat) (a b c d e : Value) : World := ((((X.setCell ⟨G, 0, none⟩ a).setCell ⟨G, 1, none⟩ b).setCell ⟨G, 2, none⟩ c).setCell ⟨G, 3, none⟩ d).setCell ⟨G, 4, none⟩ e
theorem OwnT.put5 {w : World} {base G : Nat} {v : Value} {l : List Tm} (h : OwnT w base v l) (hG : G < base) (a b c d e : Value) : OwnT (Aput5 w G a b c d e) base v l :=
  ((((h.set hG).set hG).set hG).set hG).set hG
end Go.Proofs.YtelcoihmiglceaaGreat

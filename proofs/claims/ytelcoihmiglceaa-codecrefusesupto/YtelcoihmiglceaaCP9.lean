/-
  CodecRefuses: the law's state in memory, and what Proof answers to it.
-/
import Derived.Test.YtelcoihmiglceaaCP8
namespace Go.Proofs.Ytelcoihmiglceaa
open Go.RowKit

/-- How far the law has come: rules and steps, each list of the call's own; the box of the derivation, the box of the spoiling. -/
structure LSt (w : World) (B M G : Nat) (X : World) (rv sv : Value) (R : List Cm) (S : List St) (kd at_ to_ : Int) : Prop where
  om : OM B X rv R
  os : OSt M X sv S
  lo : ∀ c ∈ R, Lo M c
  bp : CBlk X G #[rv, sv] 25
  bb : CBlk X (w.heap.size + 1) #[.int .i64 kd, .int .i64 at_, .int .i64 to_] 27
  bw : Below w.heap.size w X
  hB : w.heap.size ≤ B
  hM : B ≤ M
  hX : M ≤ X.heap.size
  hG : w.heap.size ≤ G
theorem LSt.later {w : World} {B M G : Nat} {X X' : World} {rv sv : Value} {R : List Cm} {S : List St} {kd at_ to_ : Int} (h : LSt w B M G X rv sv R S kd at_ to_) (hb : Below X.heap.size X X') : LSt w B M G X' rv sv R S kd at_ to_ :=
  ⟨h.om.later hb, h.os.later hb, h.lo, h.bp.later hb, h.bb.later hb, below_step h.bw hb, h.hB, h.hM, Nat.le_trans h.hX hb.size, h.hG⟩
theorem LSt.rule {w : World} {B M G : Nat} {X w' : World} {rv sv v' : Value} {R : List Cm} {S : List St} {kd at_ to_ : Int} (h : LSt w B M G X rv sv R S kd at_ to_) (ho : OwnC w' B v' (R ++ [cP])) (hk : Kt 38 X w') (hb : Below B X w') :
    LSt w B M G (w'.setCell ⟨G, 0, none⟩ v') v' sv (R ++ [cP]) S kd at_ to_ := by
  have hp := h.bp.kt hk (by decide)
  have k2 : Kt 25 w' (w'.setCell ⟨G, 0, none⟩ v') := Kt.set hp
  have hs := hp.set 0 v'
  refine ⟨⟨row_kt ho k2 (by decide), fun c hc => ?_⟩, (h.os.kt hk (by decide) (by decide) (by decide)).kt k2 (by decide) (by decide) (by decide), fun c hc => ?_, by simpa using hs, (h.bb.kt hk (by decide)).kt k2 (by decide), (h.bw.trans (hb.mono h.hB)).setCell h.hG _, h.hB, h.hM, ?_, h.hG⟩
  · rcases List.mem_append.1 hc with hc | hc
    · exact ((h.om.m c hc).kt hk (by decide) (by decide) (by decide)).kt k2 (by decide) (by decide) (by decide)
    · rw [List.mem_singleton] at hc; subst hc; exact cP_mcl _ _
  · rcases List.mem_append.1 hc with hc | hc
    · exact h.lo c hc
    · rw [List.mem_singleton] at hc; subst hc
      exact ⟨fun k hk => by simp [cP, Value.ownBlock] at hk, fun k hk => by simp [cP, Value.ownBlock] at hk, fun y hy => by simp [cP] at hy, fun k hk => by simp [cP, Value.ownBlock] at hk⟩
  · have := Nat.le_trans h.hX hb.size
    simpa [World.setCell] using this
theorem LSt.step {w : World} {B M G : Nat} {X X2 w' : World} {rv sv v' : Value} {R : List Cm} {S : List St} {kd at_ to_ : Int} {s : St} (h : LSt w B M G X rv sv R S kd at_ to_) (hX2 : Below X.heap.size X X2) (ht : OwnT X2 X.heap.size s.vv s.vals) (hu : OwnN X2 X.heap.size s.uv s.uses)
    (ho : OwnS w' M v' (S ++ [s])) (hk : Kt 41 X2 w') (hb : Below M X2 w') : LSt w B M G (w'.setCell ⟨G, 1, none⟩ v') rv v' R (S ++ [s]) kd at_ to_ := by
  have h2 := h.later hX2
  have hp := h2.bp.kt hk (by decide)
  have k2 : Kt 25 w' (w'.setCell ⟨G, 1, none⟩ v') := Kt.set hp
  have hs := hp.set 1 v'
  refine ⟨(h2.om.kt hk (by decide) (by decide) (by decide) (by decide)).kt k2 (by decide) (by decide) (by decide) (by decide), ⟨row_kt ho k2 (by decide), fun c hc => ?_, ?_⟩, h.lo, by simpa using hs, (h2.bb.kt hk (by decide)).kt k2 (by decide), (h2.bw.trans (hb.mono (Nat.le_trans h.hB h.hM))).setCell h.hG _, h.hB, h.hM, ?_, h.hG⟩
  · rcases List.mem_append.1 hc with hc | hc
    · exact ⟨row_kt (row_kt (h2.os.t c hc).1 hk (by decide)) k2 (by decide), row_kt (row_kt (h2.os.t c hc).2 hk (by decide)) k2 (by decide)⟩
    · rw [List.mem_singleton] at hc; subst hc
      exact ⟨row_kt (row_kt (row_mono ht h.hX) hk (by decide)) k2 (by decide), row_kt (row_kt (row_mono hu h.hX) hk (by decide)) k2 (by decide)⟩
  · refine List.pairwise_append.2 ⟨h.os.d, List.pairwise_singleton _ _, fun a ha c hc => ?_⟩
    rw [List.mem_singleton] at hc; subst hc
    have h1 := h.os.t a ha
    exact ⟨fun k hk1 hk2 => by have q1 := (World.ownsRow.lt h1.1 k hk1).2; have q2 := (World.ownsRow.lt ht k hk2).1; omega, fun k hk1 hk2 => by have q1 := (World.ownsRow.lt h1.2 k hk1).2; have q2 := (World.ownsRow.lt hu k hk2).1; omega⟩
  · have := Nat.le_trans h2.hX hb.size
    simpa [World.setCell] using this
/-- What is asked at the end: the box, and the lists in memory. -/
structure FN (w : World) (G : Nat) (X : World) (rv sv : Value) (R : List Cm) (S : List St) : Prop where
  bp : CBlk X G #[rv, sv] 25
  cs : CsP X rv R
  ss : SsP X sv S
  bw : Below w.heap.size w X
theorem mem_set {α : Type} {l : List α} {k : Nat} {x y : α} (h : y ∈ l.set k x) : y = x ∨ ∃ i, i ≠ k ∧ l[i]? = some y := by
  obtain ⟨i, hi⟩ := List.mem_iff_getElem?.1 h
  by_cases e : i = k
  · subst e
    left
    rw [List.getElem?_set_self' ] at hi
    cases hl : l[i]? with
    | none => rw [hl] at hi; simp at hi
    | some z => rw [hl] at hi; simpa using hi.symm
  · right
    rw [List.getElem?_set_ne (fun e' => e e'.symm)] at hi
    exact ⟨i, e, hi⟩
theorem dj_at {l : List St} (h : l.Pairwise Dj) {i k : Nat} {a b : St} (hi : l[i]? = some a) (hk : l[k]? = some b) (hne : i ≠ k) : Dj a b ∧ Dj b a := by
  have sym : ∀ {a b : St}, Dj a b → Dj b a := fun h => ⟨fun k h1 h2 => h.1 k h2 h1, fun k h1 h2 => h.2 k h2 h1⟩
  obtain ⟨hi', rfl⟩ := List.getElem?_eq_some_iff.1 hi
  obtain ⟨hk', rfl⟩ := List.getElem?_eq_some_iff.1 hk
  rw [List.pairwise_iff_getElem] at h
  rcases Nat.lt_or_gt_of_ne hne with hlt | hlt
  · exact ⟨h i k hi' hk' hlt, sym (h i k hi' hk' hlt)⟩
  · exact ⟨sym (h k i hk' hi' hlt), h k i hk' hi' hlt⟩
/-- Lists short enough. -/
def Sh (S : List St) : Prop := ∀ s ∈ S, s.vals.length ≤ 1000000000 ∧ s.uses.length ≤ 1000000000
theorem LSt.fn {w : World} {B M G : Nat} {X : World} {rv sv : Value} {R : List Cm} {S : List St} {kd at_ to_ : Int} (h : LSt w B M G X rv sv R S kd at_ to_) (hks : ∀ c ∈ R, KS c.key) (hsh : Sh S) : FN w G X rv sv R S :=
  ⟨h.bp, h.om.csp hks, h.os.ssp (fun s hs => by have := hsh s hs; omega), h.bw⟩
theorem sh_set {S : List St} {k : Nat} {s s' : St} (h : Sh S) (hk : S[k]? = some s) (h1 : s'.vals.length ≤ s.vals.length + 1) (h2 : s'.uses.length ≤ s.uses.length + 1) : ∀ x ∈ S.set k s', x.vals.length ≤ 1000000000000 ∧ x.uses.length ≤ 1000000000000 := fun x hx => by
  rcases mem_set hx with rfl | ⟨i, -, hi⟩
  · have := h s (List.mem_of_getElem? hk); omega
  · have := h x (List.mem_of_getElem? hi); omega
/-- The rule's number of one step is written. -/
theorem LSt.setRule {w : World} {B M G g cap n k : Nat} {X : World} {rv : Value} {R : List Cm} {S : List St} {s : St} {kd at_ to_ N : Int} (h : LSt w B M G X rv (.slice (some ⟨g, 0, none⟩) n cap) R S kd at_ to_) (hk : S[k]? = some s) (hks : ∀ c ∈ R, KS c.key) (hsh : Sh S) :
    FN w G (X.setCell ⟨g, k * 3, none⟩ (.int .i64 N)) rv (.slice (some ⟨g, 0, none⟩) n cap) R (S.set k ⟨N, s.vals, s.vv, s.uses, s.uv⟩) ∧ OM B (X.setCell ⟨g, k * 3, none⟩ (.int .i64 N)) rv R := by
  obtain ⟨h1, k1⟩ := h.os.o.put (i := 0) (v := .int .i64 N) (s' := ⟨N, s.vals, s.vv, s.uses, s.uv⟩) hk (by omega) rfl
  rw [Nat.add_zero] at h1 k1
  have hom := h.om.kt k1 (by decide) (by decide) (by decide) (by decide)
  have hb := (World.ownsRow.lt h.os.o g rfl).1
  refine ⟨⟨h.bp.kt k1 (by decide), hom.csp hks, ssp_of h1 (fun x hx => ?_) (sh_set hsh hk (by simp) (by simp)), h.bw.setCell (Nat.le_trans (Nat.le_trans h.hB h.hM) hb) _⟩, hom⟩
  rcases mem_set hx with rfl | ⟨i, -, hi⟩
  · have := h.os.t s (List.mem_of_getElem? hk)
    exact ⟨row_kt this.1 k1 (by decide), row_kt this.2 k1 (by decide)⟩
  · have := h.os.t x (List.mem_of_getElem? hi)
    exact ⟨row_kt this.1 k1 (by decide), row_kt this.2 k1 (by decide)⟩
/-- One number more behind the uses of one step. -/
theorem LSt.setUses {w : World} {B M G g cap n k : Nat} {X Y : World} {rv v' : Value} {R : List Cm} {S : List St} {s : St} {kd at_ to_ : Int} {U : List Int} (h : LSt w B M G X rv (.slice (some ⟨g, 0, none⟩) n cap) R S kd at_ to_) (hk : S[k]? = some s) (hks : ∀ c ∈ R, KS c.key) (hsh : Sh S)
    (ho : OwnN Y M v' U) (hl : U.length ≤ s.uses.length + 1) (hb : Below M X Y) (hg : X.grownBy Y s.uv.ownBlock) : FN w G (Y.setCell ⟨g, k * 3 + 2, none⟩ v') rv (.slice (some ⟨g, 0, none⟩) n cap) R (S.set k ⟨s.rule, s.vals, s.vv, U, v'⟩) := by
  have hsm := h.os.t s (List.mem_of_getElem? hk)
  have kN : Kt 3 X Y := row_grown hsm.2 hg
  have ho2 : OwnS Y M (.slice (some ⟨g, 0, none⟩) n cap) S := row_kt h.os.o kN (by decide)
  obtain ⟨h1, k1⟩ := ho2.put (i := 2) (v := v') (s' := ⟨s.rule, s.vals, s.vv, U, v'⟩) hk (by omega) rfl
  have hom := (h.om.kt kN (by decide) (by decide) (by decide) (by decide)).kt k1 (by decide) (by decide) (by decide) (by decide)
  have hbg := (World.ownsRow.lt h.os.o g rfl).1
  refine ⟨(h.bp.kt kN (by decide)).kt k1 (by decide), hom.csp hks, ssp_of h1 (fun x hx => ?_) (sh_set hsh hk (by simp) hl), (h.bw.trans (hb.mono (Nat.le_trans h.hB h.hM))).setCell (Nat.le_trans (Nat.le_trans h.hB h.hM) hbg) _⟩
  rcases mem_set hx with rfl | ⟨i, hne, hi⟩
  · exact ⟨row_kt (row_kt hsm.1 kN (by decide)) k1 (by decide), row_kt ho k1 (by decide)⟩
  · have hx' := h.os.t x (List.mem_of_getElem? hi)
    have hd := (dj_at h.os.d hi hk hne).1
    refine ⟨row_kt (row_kt hx'.1 kN (by decide)) k1 (by decide), row_kt (row_agree hx'.2 fun q hq => ?_) k1 (by decide)⟩
    exact hg.block q (World.ownsRow.lt hx'.2 q hq).2 fun e => hd.2 q hq e.symm
/-- One term more behind the values of one step. -/
theorem LSt.setVals {w : World} {B M G g cap n k : Nat} {X Y : World} {rv v' : Value} {R : List Cm} {S : List St} {s : St} {kd at_ to_ : Int} {U : List Tm} (h : LSt w B M G X rv (.slice (some ⟨g, 0, none⟩) n cap) R S kd at_ to_) (hk : S[k]? = some s) (hks : ∀ c ∈ R, KS c.key) (hsh : Sh S)
    (ho : OwnT Y M v' U) (hl : U.length ≤ s.vals.length + 1) (hb : Below M X Y) (hg : X.grownBy Y s.vv.ownBlock) : FN w G (Y.setCell ⟨g, k * 3 + 1, none⟩ v') rv (.slice (some ⟨g, 0, none⟩) n cap) R (S.set k ⟨s.rule, U, v', s.uses, s.uv⟩) := by
  have hsm := h.os.t s (List.mem_of_getElem? hk)
  have kN : Kt 31 X Y := row_grown hsm.1 hg
  have ho2 : OwnS Y M (.slice (some ⟨g, 0, none⟩) n cap) S := row_kt h.os.o kN (by decide)
  obtain ⟨h1, k1⟩ := ho2.put (i := 1) (v := v') (s' := ⟨s.rule, U, v', s.uses, s.uv⟩) hk (by omega) rfl
  have low : ∀ {e : TypeId} {base n m : Nat} {v : Value} {xs : List Value}, X.ownsRow base e n v m xs → (∀ q, v.ownBlock = some q → q < M) → Y.ownsRow base e n v m xs := fun {e} {base} {n} {m} {v} {xs} hr hlo => row_agree hr fun q hq => hb.block q (hlo q hq)
  have hmc : ∀ c ∈ R, MCl B Y c := fun c hc => by
    have hm := h.om.m c hc
    have hl := h.lo c hc
    exact ⟨low hm.h hl.h, low hm.b hl.b, fun y hy => low (hm.x y hy) (hl.x y hy), low hm.t hl.t, hm.s⟩
  have hom : OM B (Y.setCell ⟨g, k * 3 + 1, none⟩ v') rv R := (⟨row_kt h.om.o kN (by decide), hmc⟩ : OM B Y rv R).kt k1 (by decide) (by decide) (by decide) (by decide)
  have hbg := (World.ownsRow.lt h.os.o g rfl).1
  refine ⟨(h.bp.kt kN (by decide)).kt k1 (by decide), hom.csp hks, ssp_of h1 (fun x hx => ?_) (sh_set hsh hk hl (by simp)), (h.bw.trans (hb.mono (Nat.le_trans h.hB h.hM))).setCell (Nat.le_trans (Nat.le_trans h.hB h.hM) hbg) _⟩
  rcases mem_set hx with rfl | ⟨i, hne, hi⟩
  · exact ⟨row_kt ho k1 (by decide), row_kt (row_kt hsm.2 kN (by decide)) k1 (by decide)⟩
  · have hx' := h.os.t x (List.mem_of_getElem? hi)
    have hd := (dj_at h.os.d hi hk hne).1
    refine ⟨row_kt (row_agree hx'.1 fun q hq => ?_) k1 (by decide), row_kt (row_kt hx'.2 kN (by decide)) k1 (by decide)⟩
    exact hg.block q (World.ownsRow.lt hx'.1 q hq).2 fun e => hd.1 q hq e.symm
/-- The last rule's head gets a variable ahead of it. -/
theorem fn_head {w : World} {B G g cap n : Nat} {X : World} {sv : Value} {R : List Cm} {S : List St} (h : FN w G X (.slice (some ⟨g, 0, none⟩) n cap) sv (R ++ [cP]) S) (hom : OM B X (.slice (some ⟨g, 0, none⟩) n cap) (R ++ [cP])) (hks : ∀ c ∈ R, KS c.key) (hS : ∀ Y : World, Kt 38 X Y → SsP Y sv S) (hB : w.heap.size ≤ B) :
    FN w G (((X.setCell ⟨g, R.length * 7, none⟩ (.int .i64 3)).setCell ⟨g, R.length * 7 + 1, none⟩ (.int .i64 0)).setCell ⟨g, R.length * 7 + 2, none⟩ (.string ⟨#[]⟩)) (.slice (some ⟨g, 0, none⟩) n cap) sv (R ++ [cV]) S := by
  have hl : (R ++ [cP])[R.length]? = some cP := by simp
  obtain ⟨h1, k1⟩ := hom.o.put (i := 0) (v := .int .i64 3) (s' := ⟨(⟨⟨3, 0, ⟨#[]⟩⟩, nmP, []⟩, .slice none 0 0), [], .slice none 0 0, [], .slice none 0 0⟩) hl (by omega) rfl
  have e1 : (R ++ [cP]).set R.length ⟨(⟨⟨3, 0, ⟨#[]⟩⟩, nmP, []⟩, .slice none 0 0), [], .slice none 0 0, [], .slice none 0 0⟩ = R ++ [cV] := by simp [cV]
  rw [e1, Nat.add_zero] at h1
  rw [Nat.add_zero] at k1
  have hl2 : (R ++ [cV])[R.length]? = some cV := by simp
  have e2 : (R ++ [cV]).set R.length cV = R ++ [cV] := by simp
  obtain ⟨h2, k2⟩ := h1.put (i := 1) (v := .int .i64 0) (s' := cV) hl2 (by omega) rfl
  rw [e2] at h2
  obtain ⟨h3, k3⟩ := h2.put (i := 2) (v := .string ⟨#[]⟩) (s' := cV) hl2 (by omega) rfl
  rw [e2] at h3
  have hk := (k1.trans k2).trans k3
  have hbg := (World.ownsRow.lt hom.o g rfl).1
  refine ⟨h.bp.kt hk (by decide), (⟨h3, fun c hc => ?_⟩ : OM B _ _ _).csp (fun c hc => ?_), hS _ hk, ((h.bw.setCell (Nat.le_trans hB hbg) _).setCell (Nat.le_trans hB hbg) _).setCell (Nat.le_trans hB hbg) _⟩
  · rcases List.mem_append.1 hc with hc | hc
    · exact (hom.m c (List.mem_append_left _ hc)).kt hk (by decide) (by decide) (by decide)
    · rw [List.mem_singleton] at hc; subst hc; exact cV_mcl _ _
  · rcases List.mem_append.1 hc with hc | hc
    · exact hks c hc
    · rw [List.mem_singleton] at hc; subst hc; exact cV_ks
end Go.Proofs.Ytelcoihmiglceaa

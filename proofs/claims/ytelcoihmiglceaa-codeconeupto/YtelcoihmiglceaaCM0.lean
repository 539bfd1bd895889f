/-
  The codec, plain: an error of reading is never 0; the bytes of a clause and of an atom.
-/
import Derived.Test.YtelcoihmiglceaaCJ8
import Derived.Test.YtelcoihmiglceaaCG4
import Derived.Test.YtelcoihmiglceaaLE2
namespace Go.Proofs.Ytelcoihmiglceaa
open Go.RowKit

/-- Its errors are never 0. -/
def Nz {α : Type} (x : Rd α) : Prop := ∀ c, x = .error c → c ≠ 0
theorem nz_ok {α : Type} (a : α) (r : List Int) : Nz (.ok (a, r)) := fun c h => by cases h
theorem nz_err {α : Type} {e : Int} (h : e ≠ 0) : Nz (.error e : Rd α) := fun c hc => by cases hc; exact h
theorem nz_and {α β : Type} {x : Rd α} {f : α → List Int → Rd β} (h : Nz x) (hf : ∀ a r, Nz (f a r)) : Nz (x.and f) := fun c hc => by
  rcases x with e | ⟨a, r⟩
  · simp only [Rd.and] at hc; exact h c (by cases hc; rfl)
  · exact hf a r c hc
theorem nz_take (n : Nat) (l : List Int) : Nz (rTake n l) := by
  unfold rTake; split
  · exact nz_err (by decide)
  · exact nz_ok _ _
theorem nz_num (k : Nat) (l : List Int) : Nz (rNum k l) := nz_and (nz_take _ _) fun _ _ => nz_ok _ _
theorem nz_bnd (lo hi : Int) (l : List Int) : Nz (rBnd lo hi l) := nz_and (nz_num _ _) fun n r => by
  split
  · exact nz_err (by decide)
  · exact nz_ok _ _
theorem nz_one (cs : List Int) (l : List Int) : Nz (rOne cs l) := nz_and (nz_num _ _) fun n r => by
  split
  · exact nz_ok _ _
  · exact nz_err (by decide)
theorem nz_nat (l : List Int) : Nz (rNat l) := nz_and (nz_num _ _) fun n r => by
  split
  · exact nz_err (by decide)
  · exact nz_ok _ _
theorem nz_text (lo hi : Int) (l : List Int) : Nz (rText lo hi l) := nz_and (nz_bnd _ _ _) fun _ _ => nz_and (nz_take _ _) fun _ _ => nz_ok _ _
theorem nz_termOf (k lo : Int) (l : List Int) : Nz (rTermOf k lo l) := by
  unfold rTermOf
  split
  · exact nz_and (nz_num _ _) fun _ _ => nz_ok _ _
  · split
    · exact nz_and (nz_text _ _ _) fun _ _ => nz_ok _ _
    · split
      · exact nz_and (nz_nat _) fun _ _ => nz_ok _ _
      · exact nz_ok _ _
theorem nz_qual (l : List Int) : Nz (rQual l) := nz_and (nz_one _ _) fun _ _ => nz_termOf _ _ _
theorem nz_arg (l : List Int) : Nz (rArg l) := nz_and (nz_one _ _) fun _ _ => nz_termOf _ _ _
theorem nz_name (l : List Int) : Nz (rName l) := nz_and (nz_text _ _ _) fun _ _ => by
  split
  · exact nz_ok _ _
  · exact nz_err (by decide)
theorem nz_many {α : Type} {one : List Int → Rd α} (h : ∀ l, Nz (one l)) : ∀ (n : Nat) (l : List Int), Nz (rMany one n l)
  | 0, _ => nz_ok _ _
  | n + 1, l => nz_and (h l) fun _ r => nz_and (nz_many h n r) fun _ _ => nz_ok _ _
theorem nz_atom (l : List Int) : Nz (rAtom l) := nz_and (nz_qual _) fun _ _ => nz_and (nz_name _) fun _ _ => nz_and (nz_bnd _ _ _) fun _ _ => nz_and (nz_many nz_arg _ _) fun _ _ => nz_ok _ _
theorem nz_test (l : List Int) : Nz (rTest l) := nz_and (nz_one _ _) fun _ _ => nz_and (nz_arg _) fun _ _ => nz_and (nz_arg _) fun _ _ => nz_ok _ _
theorem nz_clause (l : List Int) : Nz (rClause l) := nz_and (nz_atom _) fun _ _ => nz_and (nz_bnd _ _ _) fun _ _ => nz_and (nz_many nz_atom _ _) fun _ _ => nz_and (nz_bnd _ _ _) fun _ _ => nz_and (nz_many nz_test _ _) fun _ _ => by
  split
  · exact nz_ok _ _
  · exact nz_err (by decide)
theorem nz_whole {α : Type} {one : List Int → Rd α} (h : ∀ l, Nz (one l)) {l : List Int} {c : Int} (e : rWhole one l = .error c) : c ≠ 0 := by
  unfold rWhole at e
  rcases hr : one l with d | ⟨a, r⟩
  · rw [hr] at e; cases e; exact h l c hr
  · rw [hr] at e
    simp only at e
    split at e
    · cases e
    · cases e; decide
theorem aB_byt9 {a : At} (h : Fit a) : byt (aB a) := by
  unfold aB
  refine (tB_byt h.by_).app ((sB_byt (by have := h.nm; omega)).app ?_)
  intro x hx
  rcases List.mem_cons.1 hx with rfl | hx
  · have := h.len; omega
  · obtain ⟨t, ht, hx⟩ := List.mem_flatMap.1 hx
    exact tB_byt (h.args t ht) x hx
theorem eB_byt9 {e : Te} (h : FitE e) : byt (eB e) := by
  intro x hx
  unfold eB at hx
  rcases List.mem_cons.1 hx with rfl | hx
  · have := h.op; omega
  · rcases List.mem_append.1 hx with hx | hx
    · exact tB_byt h.l x hx
    · exact tB_byt h.r x hx
theorem cB_byt9 {c : Cm} (h : c.chk = 0) : byt (cB c.key) := by
  obtain ⟨g1, g2, g3, g4⟩ := chk_fit h
  unfold cB
  refine (aB_byt9 (g1 _ (by simp))).app (byt.app ?_ ?_)
  · intro x hx
    rcases List.mem_cons.1 hx with rfl | hx
    · omega
    · obtain ⟨a, ha, hx⟩ := List.mem_flatMap.1 hx
      exact aB_byt9 (g1 a (List.mem_cons_of_mem _ ha)) x hx
  · intro x hx
    rcases List.mem_cons.1 hx with rfl | hx
    · omega
    · obtain ⟨a, ha, hx⟩ := List.mem_flatMap.1 hx
      exact eB_byt9 (g2 a ha) x hx
theorem aB_ne (a : At) : aB a ≠ [] := fun h => by
  have := congrArg List.length h
  simp [aB, sB] at this
theorem cB_ne (x : Ck) : cB x ≠ [] := fun h => by
  have := congrArg List.length h
  simp [cB] at this
/-- A clause of this key. -/
def kC (x : Ck) : Cm := ⟨(x.1, .slice none 0 0), x.2.1.map fun a => (a, .slice none 0 0), .slice none 0 0, x.2.2, .slice none 0 0⟩
theorem kC_key (x : Ck) : (kC x).key = x := by
  obtain ⟨h, b, t⟩ := x
  simp [kC, Cm.key, fsts, Function.comp_def]
theorem rng_wf {x : Ck} (h : Rng x) : ∀ t ∈ Ck.terms x, (Lit.int .i64 t.n).wf = true := fun t ht => by
  have hr : rng t := by
    unfold Ck.terms at ht
    rcases List.mem_append.1 ht with ht | ht
    · exact h.a x.1 (by simp) t ht
    · rcases List.mem_append.1 ht with ht | ht
      · obtain ⟨a, ha, ht⟩ := List.mem_flatMap.1 ht
        exact h.a a (List.mem_cons_of_mem _ ha) t ht
      · unfold tls at ht
        obtain ⟨e, he, ht⟩ := List.mem_flatMap.1 ht
        have := h.e e he
        simp at ht
        rcases ht with rfl | rfl
        · exact this.1
        · exact this.2
  exact wfN_of hr.1 hr.2
theorem emptyL9 : (⟨#[]⟩ : ByteArray).toList = [] := by rw [ByteArray.toList_eq]
theorem CBlk.put7g {X : World} {G : Nat} {t : TypeId} {a' b' c' d' e' f' g' : Value} (h : CBlk X G #[a', b', c', d', e', f', g'] t) (a b c d e f g : Value) : CBlk (Cput X G a b c d e f g) G #[a, b, c, d, e, f, g] t := by
  have := ((((((h.set 0 a).set 1 b).set 2 c).set 3 d).set 4 e).set 5 f).set 6 g
  simpa using this
theorem CBlk.far7 {X : World} {G g : Nat} {t : TypeId} {k : Array Value} (h : CBlk X G k t) (hn : G ≠ g) (a b c d e f i : Value) : CBlk (Cput X g a b c d e f i) G k t :=
  ((((((h.off hn).off hn).off hn).off hn).off hn).off hn).off hn
theorem MC8.put7 {B G : Nat} {X : World} {d : Cm} (h : MC8 B X d) (hG : G < B) (a b c e f g i : Value) : MC8 B (Cput X G a b c e f g i) d :=
  ((((((h.set hG).set hG).set hG).set hG).set hG).set hG).set hG
abbrev Aput5 (X : World) (G : Nat) (a b c d e : Value) : World := ((((X.setCell ⟨G, 0, none⟩ a).setCell ⟨G, 1, none⟩ b).setCell ⟨G, 2, none⟩ c).setCell ⟨G, 3, none⟩ d).setCell ⟨G, 4, none⟩ e
theorem CBlk.put5g {X : World} {G : Nat} {t : TypeId} {a' b' c' d' e' : Value} (h : CBlk X G #[a', b', c', d', e'] t) (a b c d e : Value) : CBlk (Aput5 X G a b c d e) G #[a, b, c, d, e] t := by
  have := ((((h.set 0 a).set 1 b).set 2 c).set 3 d).set 4 e
  simpa using this
theorem bput5 {W X : World} {B G : Nat} (h : Below B W X) (hG : B ≤ G) (a b c d e : Value) : Below B W (Aput5 X G a b c d e) :=
  ((((h.setCell (show B ≤ G from hG) _).setCell (show B ≤ G from hG) _).setCell (show B ≤ G from hG) _).setCell (show B ≤ G from hG) _).setCell (show B ≤ G from hG) _
theorem OwnT.put5 {w : World} {base G : Nat} {v : Value} {l : List Tm} (h : OwnT w base v l) (hG : G < base) (a b c d e : Value) : OwnT (Aput5 w G a b c d e) base v l :=
  ((((h.set hG).set hG).set hG).set hG).set hG
end Go.Proofs.Ytelcoihmiglceaa

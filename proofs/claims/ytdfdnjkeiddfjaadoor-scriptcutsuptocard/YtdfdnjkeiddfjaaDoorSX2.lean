import Derived.Test.YtdfdnjkeiddfjaaDoorK37
import Derived.Test.YtdfdnjkeiddfjaaDoorK40
import Derived.Test.YtdfdnjkeiddfjaaDoorSC7
import Derived.Deep.Cut
import Derived.Test.YtdfdnjkeiddfjaaDoorK24
import Derived.Test.YtdfdnjkeiddfjaaDoorK30
import Derived.Test.YtdfdnjkeiddfjaaDoorKR9
/-
  PLAIN: what is written is cut into its tokens, with their places (stage 25).
-/
namespace Go.Proofs.YtdfdnjkeiddfjaaDoor
open Go.RowKit

/-- What goes on with no run and with no sign. -/
def StS (y : List Int) : Prop := rl y = 0 ∧ ∀ r, ¬ y = 61 :: r
/-- Bytes that are cut into these tokens, whatever stands behind them; b: if it doesn't go on with the last one. -/
def CzP (b : Bool) (z : List Int) (T : Nat → List Tk) : Prop :=
  byt z ∧ ∀ y, byt y → (b = true → StS y) → ∀ (f off : Nat) (acc : List Tk), (z ++ y).length < f → ∃ g : Nat, y.length < g ∧ ct f (z ++ y) off acc = ct g y (off + z.length) (acc ++ T off)
theorem CzP.app {b c : Bool} {z y : List Int} {T U : Nat → List Tk} (h : CzP b z T) (k : CzP c y U) (hs : b = true → ∃ x r, y = x :: r ∧ rnb x = false ∧ x ≠ 61) : CzP c (z ++ y) (fun o => T o ++ U (o + z.length)) := by
  refine ⟨fun x hx => (List.mem_append.1 hx).elim (h.1 x) (k.1 x), fun u hu hc f off acc hf => ?_⟩
  rw [List.append_assoc] at hf ⊢
  have hyu : byt (y ++ u) := fun x hx => (List.mem_append.1 hx).elim (k.1 x) (hu x)
  obtain ⟨g, hg, e⟩ := h.2 (y ++ u) hyu (fun hb => by
    obtain ⟨x, r, rfl, h1, h2⟩ := hs hb
    exact ⟨by show rl (x :: (r ++ u)) = 0; rw [rl_cons, if_neg (by rw [h1]; simp)], fun q e => by simp at e; exact h2 e.1⟩) f off acc hf
  obtain ⟨g', hg', e'⟩ := k.2 u hu hc g (off + z.length) (acc ++ T off) hg
  refine ⟨g', hg', ?_⟩
  rw [e, e', List.length_append, List.append_assoc, Nat.add_assoc]
theorem CzP.weak {b : Bool} {z : List Int} {T : Nat → List Tk} (h : CzP b z T) : CzP true z T := ⟨h.1, fun y hy hs => h.2 y hy fun _ => hs rfl⟩
theorem CzP.eq {b : Bool} {z z' : List Int} {T U : Nat → List Tk} (h : CzP b z T) (hz : z = z') (hT : ∀ o, T o = U o) : CzP b z' U := by
  have : T = U := funext hT
  rw [← hz, ← this]; exact h
/-- A token that stands at a place. -/
def atP (t : Tk) (n o : Nat) : Tk := ⟨t.k, t.x, t.n, (o : Nat), (o + n : Nat)⟩
theorem CzP.tok {t : Tk} {s : ByteArray} (hs : spl t = some s) (ho : okt t) : CzP (enr t.k || decide (t.k = 15)) (blK s) (fun o => [atP t s.size o]) := by
  refine ⟨bl_byt s, fun y hy hst f off acc hf => ?_⟩
  have hst2 : stp t y := ⟨fun he => (hst (by rw [he]; rfl)).1, fun hk => (hst (by simp [hk])).2⟩
  obtain ⟨c, r, ec, n1, n2, -, -⟩ := spl_head hs
  obtain ⟨ht, hx⟩ := tok_spl hs ho hst2 hy
  have hd : (blK s ++ y).drop s.size = y := by rw [← bl_len]; exact List.drop_left
  have hl : (blK s).length = s.size := bl_len s
  rw [List.length_append, hl] at hf
  have hsz : 0 < s.size := by rw [← bl_len, ec]; simp
  obtain ⟨f, rfl⟩ : ∃ g, f = g + 1 := ⟨f - 1, by omega⟩
  refine ⟨f, by omega, ?_⟩
  rw [hl]
  rw [ec, List.cons_append] at ht hd ⊢
  rw [ct_cons, if_neg n1, if_neg n2, ht]
  show ct f ((c :: (r ++ y)).drop s.size) (off + s.size) (acc ++ [⟨t.k, ofL (tbs t), t.n, off, (off + s.size : Nat)⟩]) = _
  rw [hd, ← hx]
  rfl
theorem CzP.gap (c : Int) (h : c = 32 ∨ c = 9 ∨ c = 10 ∨ c = 13) : CzP false [c] (fun _ => []) := by
  refine ⟨by intro x hx; simp at hx; omega, fun y hy _ f off acc hf => ?_⟩
  simp only [List.singleton_append, List.length_cons] at hf
  obtain ⟨f, rfl⟩ : ∃ g, f = g + 1 := ⟨f - 1, by omega⟩
  refine ⟨f, by omega, ?_⟩
  show ct (f + 1) (c :: y) off acc = _
  rw [ct_cons, if_pos h]
  simp
/-- The whole text's tokens. -/
theorem CzP.cut {s : ByteArray} {T : Nat → List Tk} {most : Int} (h : CzP true (blK s) T) (hm : (s.size : Int) ≤ most) : cutL (blK s) most = (T 0, 0, 0) := by
  obtain ⟨g, hg, e⟩ := h.2 [] (fun x hx => by cases hx) (fun _ => ⟨rfl, fun r hr => by cases hr⟩) ((blK s).length + 1) 0 [] (by simp)
  unfold cutL
  rw [if_neg (by rw [bl_len]; omega)]
  rw [List.append_nil] at e
  obtain ⟨g, rfl⟩ : ∃ k, g = k + 1 := ⟨g - 1, by simp at hg; omega⟩
  rw [e, ct_end, List.nil_append]
theorem le_none : ∀ (r : List Int), (∀ x ∈ r, x ≠ 10) → le_ r = r.length
  | [], _ => rfl
  | c :: r, h => by
    rw [le_cons, if_neg (h c (List.mem_cons_self ..)), le_none r fun x hx => h x (List.mem_cons_of_mem _ hx), List.length_cons]
/-- A text with a remark behind it. -/
theorem CzP.remark {s : ByteArray} {T : Nat → List Tk} {most : Int} {z r : List Int} (h : CzP true z T) (hs : blK s = z ++ (32 :: 37 :: r)) (hr : ∀ x ∈ r, x ≠ 10) (hm : (s.size : Int) ≤ most) : cutL (blK s) most = (T 0, 0, 0) := by
  have hb : byt (32 :: 37 :: r) := fun x hx => bl_byt s x (by rw [hs]; exact List.mem_append_right _ hx)
  obtain ⟨g, hg, e⟩ := h.2 (32 :: 37 :: r) hb (fun _ => ⟨by rw [rl_cons]; rfl, fun q hq => by cases hq⟩) ((blK s).length + 1) 0 [] (by rw [hs]; omega)
  unfold cutL
  rw [if_neg (by rw [bl_len]; omega), hs]
  rw [hs] at e
  rw [e]
  simp only [List.length_cons] at hg
  obtain ⟨g, rfl⟩ : ∃ k, g = k + 1 + 1 + 1 := ⟨g - 3, by omega⟩
  rw [ct_blank (Or.inl rfl), ct_rem, le_none r hr, List.drop_length, ct_end, List.nil_append]
end Go.Proofs.YtdfdnjkeiddfjaaDoor
/-
  script (stage 25): the document's clean.
-/
namespace Go.Proofs.YtdfdnjkeiddfjaaDoor
open Go.RowKit
attribute [local go_sem ↓] Go.wp_at_zero Go.wp_at_succ

/-- Is a field that isn't zero one of the row's parts? -/
def okS (z : Bool) (ps : ByteArray) (p : Int) : Bool := z || inS ps p
def clS (ps : ByteArray) (d : SdO) (bn : Nat) : Bool :=
  (okS (decide (d.who = ⟨#[]⟩)) ps 119 && okS (decide (d.too = ⟨#[]⟩)) ps 111 && okS (decide (d.tx = ⟨#[]⟩)) ps 116 && okS (decide (bn = 0)) ps 98) && (okS (decide (d.n = 0)) ps 110 && okS (decide (d.m = 0)) ps 109 && okS (decide (d.q = 0)) ps 107)
theorem strS {s : ByteArray} {ps : ByteArray} {p : Int} : (s.toList = [] ∧ decide (s = ⟨#[]⟩) = true) ∨ (¬ s.toList = [] ∧ decide (s = ⟨#[]⟩) = false ∧ inS ps p = true) ∨ (¬ s.toList = [] ∧ decide (s = ⟨#[]⟩) = false ∧ inS ps p = false) := by
  by_cases h : s = ⟨#[]⟩
  · exact Or.inl ⟨by rw [h]; exact emptyL, by simpa using h⟩
  · have h2 : ¬ s.toList = [] := fun e => h (toList_injK (e.trans emptyL.symm))
    cases hu : inS ps p
    · exact Or.inr (Or.inr ⟨h2, by simpa using h, rfl⟩)
    · exact Or.inr (Or.inl ⟨h2, by simpa using h, rfl⟩)
theorem lenS {bn : Nat} {ps : ByteArray} {p : Int} : (¬ (bn : Int) > 0 ∧ decide (bn = 0) = true) ∨ ((bn : Int) > 0 ∧ decide (bn = 0) = false ∧ inS ps p = true) ∨ ((bn : Int) > 0 ∧ decide (bn = 0) = false ∧ inS ps p = false) := by
  by_cases h : bn = 0
  · exact Or.inl ⟨by omega, by simpa using h⟩
  · cases hu : inS ps p
    · exact Or.inr (Or.inr ⟨by omega, by simpa using h, rfl⟩)
    · exact Or.inr (Or.inl ⟨by omega, by simpa using h, rfl⟩)
theorem intS {n : Int} {ps : ByteArray} {p : Int} : ((n == 0) = true ∧ decide (n = 0) = true) ∨ ((n == 0) = false ∧ decide (n = 0) = false ∧ inS ps p = true) ∨ ((n == 0) = false ∧ decide (n = 0) = false ∧ inS ps p = false) := by
  by_cases h : n = 0
  · exact Or.inl ⟨by simpa using h, by simpa using h⟩
  · cases hu : inS ps p
    · exact Or.inr (Or.inr ⟨by simpa using h, by simpa using h, rfl⟩)
    · exact Or.inr (Or.inl ⟨by simpa using h, by simpa using h, rfl⟩)
end Go.Proofs.YtdfdnjkeiddfjaaDoor
/-
  spelt.
-/
namespace Go.Proofs.YtdfdnjkeiddfjaaDoor
open Go.RowKit

/-- Numbers that lie in memory. -/
def Is (w : World) (v : Value) (h : List Int) : Prop :=
  ∃ a cap, v = .slice a h.length cap ∧ (h = [] ∨ ∃ b o, a = some ⟨b, o, none⟩ ∧ b < w.heap.size ∧ ∀ (i : Nat) (x : Int), h[i]? = some x → w.cell? ⟨b, o + i, none⟩ = some (.int .i64 x))
/-- The way in which a byte is written. -/
def kf (h : List Int) (i : Nat) : Int := match h[i % h.length]? with
  | some x => bits BinOp.and IntKind.i64 x 3
  | none => 0
def spB (s : ByteArray) (h : List Int) : ByteArray := ofL (34 :: (rpl (kf h) 0 (blK s) ++ [34]))
end Go.Proofs.YtdfdnjkeiddfjaaDoor
/-
  hearsaylaw04.TokensPlaces: the walk.
-/
namespace Go.Proofs.YtdfdnjkeiddfjaaDoor
open Go.RowKit

theorem places_plain (s : ByteArray) (h : (cutL (blK s) s.size).2.1 = 0) : Pl (blK s) 0 (cutL (blK s) s.size).1 := by
  rw [cutL_all] at h ⊢
  obtain ⟨T, hT, hP⟩ := ct_places (blK s) (s.size + 1) 0 0 [] false (by rw [List.drop_zero, bl_len]; omega) (Nat.le_refl _) (Nat.zero_le _) rfl (fun h => by cases h) (by rw [List.drop_zero]; exact h)
  rw [List.drop_zero, List.nil_append] at hT
  rw [hT]; exact hP
theorem pl_len (l : List Int) : ∀ (T : List Tk) (off : Nat), Pl l off T → T.length + off ≤ l.length
  | [], off, h => by simpa using h.1
  | t :: T, off, ⟨a, len, _, _, h1, h2, _, _, _, h3⟩ => by
    have := pl_len l T (a + len) h3
    simp only [List.length_cons]; omega
theorem bl_seg (s : ByteArray) (i j : Nat) : blK (s.extract i j) = ((blK s).drop i).take (j - i) := by
  rw [extract_eq, bl_ofL (byt_take (byt_drop (bl_byt s) i) _)]
theorem ks_zero {w : World} {g cap : Nat} {t : Tk} (h : Ks w (.slice (some ⟨g, 0, none⟩) 1 cap) [t]) : g < w.heap.size ∧ w.cell? ⟨g, 0, none⟩ = some (.int .i64 t.k) ∧ w.cell? ⟨g, 1, none⟩ = some (.string t.x) ∧ w.cell? ⟨g, 2, none⟩ = some (.int .i64 t.n) ∧ w.cell? ⟨g, 3, none⟩ = some (.int .i64 t.a) ∧ w.cell? ⟨g, 4, none⟩ = some (.int .i64 t.e) := by
  obtain ⟨a, cap', hv, h⟩ := h
  simp only [Value.slice.injEq] at hv
  obtain ⟨rfl, -, rfl⟩ := hv
  rcases h with h | ⟨b, o, hbo, hlt, hm⟩
  · cases h
  · simp only [Option.some.injEq, Addr.mk.injEq, and_true] at hbo
    obtain ⟨rfl, rfl⟩ := hbo
    have := hm 0 t rfl
    exact ⟨hlt, this⟩
end Go.Proofs.YtdfdnjkeiddfjaaDoor
/-
  hearsaylaw04.TokensQuoted: the walk.
-/
namespace Go.Proofs.YtdfdnjkeiddfjaaDoor
open Go.RowKit

theorem cut_quoted (K : Nat → Int) (s S : ByteArray) (h : blK S = 34 :: (rpl K 0 (blK s) ++ [34])) : cutL (blK S) S.size = ([⟨3, s, 0, 0, (S.size : Int)⟩], 0, 0) := by
  have hl : S.size = (rpl K 0 (blK s)).length + 2 := by rw [← bl_len, h]; simp
  rw [cutL_all, h, ct_quoted K s _ (by rw [← h, bl_len]; omega), hl]
theorem bl_spB (s : ByteArray) (h : List Int) : blK (spB s h) = 34 :: (rpl (kf h) 0 (blK s) ++ [34]) := by
  unfold spB
  refine bl_ofL (fun x hx => ?_)
  rcases List.mem_cons.1 hx with rfl | hx
  · omega
  · rcases List.mem_append.1 hx with hx | hx
    · exact rpl_byt _ _ _ (bl_byt s) x hx
    · simp at hx; omega
theorem hxd_vis (v : Int) (h0 : 0 ≤ v) (h1 : v ≤ 15) : 32 ≤ hxd v ∧ hxd v ≤ 126 := by unfold hxd; split <;> omega
theorem qb_vis (c : Int) (h0 : 0 ≤ c) (h1 : c ≤ 255) : ∀ x ∈ qb c, 32 ≤ x ∧ x ≤ 126 := by
  have a := hxd_vis (c / 16) (by omega) (by omega)
  have b := hxd_vis (c % 16) (by omega) (by omega)
  intro x hx
  unfold qb at hx
  repeat' split at hx
  all_goals (simp at hx; omega)
theorem qt_vis (s : ByteArray) (i : Nat) (h : i < (qtB s).size) : 32 ≤ atK_ (qtB s) i ∧ atK_ (qtB s) i ≤ 126 := by
  have e : blK (qtB s) = qtl s s.size ++ [34] := by
    have e : qtB s = ofL (qtl s s.size ++ [34]) := rfl
    rw [e]
    refine bl_ofL (fun x hx => ?_)
    rcases List.mem_append.1 hx with hx | hx
    · exact qtl_byt s _ x hx
    · simp at hx; omega
  have hm : atK_ (qtB s) i ∈ blK (qtB s) := by
    have := bl_drop h
    exact List.mem_of_mem_drop (by rw [this]; exact List.mem_cons_self)
  rw [e] at hm
  rcases List.mem_append.1 hm with hm | hm
  · rcases List.mem_cons.1 hm with hm | hm
    · omega
    · obtain ⟨j, -, hj⟩ := List.mem_flatMap.1 hm
      exact qb_vis _ (at_range s j).1 (at_range s j).2 _ hj
  · simp at hm; omega
theorem qt_size (s : ByteArray) : (qtB s).size ≤ 4 * s.size + 2 := by
  have := qtl_len s s.size
  have e : (qtB s).size = (qtl s s.size).length + 1 := by show (i2b (qtl s s.size ++ [34])).toArray.size = _; simp [i2b]
  omega
theorem sp_size (s : ByteArray) (h : List Int) : (spB s h).size ≤ 4 * s.size + 2 := by
  have := (rpl_len (kf h) (blK s) 0).2
  rw [← bl_len (spB s h), bl_spB]
  rw [bl_len] at this
  simp; omega
end Go.Proofs.YtdfdnjkeiddfjaaDoor
/-
  script (stage 25): PLAIN: what is read of a line, what is printed of a step.
-/
namespace Go.Proofs.YtdfdnjkeiddfjaaDoor
open Go.RowKit

/-- What Read answers: a step, its bytes, the fault. -/
structure RsS where
  d : SdO
  b : ByteArray
  e : Int
  p : Int
def zdS : SdO := ⟨0, ⟨#[]⟩, ⟨#[]⟩, ⟨#[]⟩, 0, 0, 0⟩
def noS (e p : Int) : RsS := ⟨zdS, ⟨#[]⟩, e, p⟩
def zrS : RwS := ⟨⟨#[]⟩, 0, ⟨#[]⟩⟩
/-- The last of the first i rows that has this name. -/
def lsS (x : ByteArray) : Nat → RwS
  | 0 => zrS
  | i + 1 => if (rwS.getD i zrS).x = x then rwS.getD i zrS else lsS x i
/-- The row that a token names. -/
def rwT (t : Tk) : RwS := if t.k = 1 then lsS t.x 24 else zrS
def putB (p : Int) (b : ByteArray) (t : Tk) : ByteArray := if p = 98 then t.x else b
/-- The parts, one after the other. -/
def goS (L : Int) : List Int → List Tk → SdO → ByteArray → RsS
  | [], [], d, b => ⟨d, b, 0, 0⟩
  | [], t :: _, _, _ => noS 253 t.a
  | _ :: _, [], _, _ => noS 253 L
  | p :: ps, t :: l, d, b => if ftS p t.k = true then goS L ps l (putS p d t) (putB p b t) else noS 253 t.a
def rlS (L : Int) : List Tk → RsS
  | [] => noS 252 L
  | t :: l => if (rwT t).k = 0 then noS 252 t.a else goS L (blK (rwT t).p) l { zdS with k := (rwT t).k } ⟨#[]⟩
def rdS (s : ByteArray) : RsS :=
  if 65536 < s.size then noS 251 0 else
    if (cutL (blK s) (s.size : Int)).2.1 = 0 then rlS s.size (cutL (blK s) (s.size : Int)).1 else noS (cutL (blK s) (s.size : Int)).2.1 (cutL (blK s) (s.size : Int)).2.2
/-- A part as it is written. -/
def shS (d : SdO) (b : ByteArray) (p : Int) : ByteArray :=
  if p = 119 then nmS d.who else if p = 111 then nmS d.too else if p = 116 then qtB d.tx else if p = 98 then qtB b else if p = 110 then ibS d.n else if p = 109 then ibS d.m else ibS d.q
/-- The parts, a blank ahead of each. -/
def joS (d : SdO) (b : ByteArray) : List Int → ByteArray → ByteArray
  | [], s => s
  | p :: ps, s => joS d b ps (s ++ (⟨#[32]⟩ : ByteArray) ++ shS d b p)
def roK (k : Int) : Option RwS := rwS.find? fun r => decide (r.k = k)
def prS (d : SdO) (b : ByteArray) : Option ByteArray :=
  match roK d.k with
  | none => none
  | some r => if clS r.p d b.size = true then (if (joS d b (blK r.p) r.x).size ≤ 65536 then some (joS d b (blK r.p) r.x) else none) else none
theorem rw_get {i : Nat} (h : i < 24) : rwS[i]? = some (rwS.getD i zrS) := by
  rw [List.getD_eq_getElem?_getD, List.getElem?_eq_getElem (show i < rwS.length from h)]; rfl
theorem rw_k {i : Nat} (h : i < 24) : (rwS.getD i zrS).k = (i : Int) + 1 := by
  have : ∀ i : Nat, i < 24 → (rwS.getD i zrS).k = (i : Int) + 1 := by decide
  exact this i h
theorem rw_le (i : Nat) : (rwS.getD i zrS).x.size ≤ 9 ∧ (rwS.getD i zrS).p.size ≤ 3 := by
  by_cases h : i < 24
  · have : ∀ i : Nat, i < 24 → (rwS.getD i zrS).x.size ≤ 9 ∧ (rwS.getD i zrS).p.size ≤ 3 := by decide
    exact this i h
  · rw [List.getD_eq_getElem?_getD, List.getElem?_eq_none (show rwS.length ≤ i from Nat.le_of_not_lt h)]
    decide
theorem ls_any (x : ByteArray) : ∀ i, lsS x i = zrS ∨ ∃ j, j < i ∧ lsS x i = rwS.getD j zrS ∧ (rwS.getD j zrS).x = x
  | 0 => Or.inl rfl
  | i + 1 => by
    unfold lsS
    split
    · exact Or.inr ⟨i, by omega, rfl, by assumption⟩
    · rcases ls_any x i with h | ⟨j, h1, h2, h3⟩
      · exact Or.inl h
      · exact Or.inr ⟨j, by omega, h2, h3⟩
theorem rwT_any (t : Tk) : rwT t = zrS ∨ ∃ j, j < 24 ∧ rwT t = rwS.getD j zrS ∧ (rwS.getD j zrS).x = t.x ∧ t.k = 1 := by
  unfold rwT
  split
  · rcases ls_any t.x 24 with h | ⟨j, h1, h2, h3⟩
    · exact Or.inl h
    · exact Or.inr ⟨j, h1, h2, h3, by assumption⟩
  · exact Or.inl rfl
theorem rwT_le (t : Tk) : (rwT t).p.size ≤ 3 := by
  rcases rwT_any t with h | ⟨j, -, h, -⟩
  · rw [h]; decide
  · rw [h]; exact (rw_le j).2
theorem roK_at {i : Nat} (h : i < 24) : roK ((i : Int) + 1) = some (rwS.getD i zrS) := by
  have h2 : ∀ i : Nat, i < 24 → (rwS.findIdx? fun r => decide (r.k = (i : Int) + 1)) = some i := by decide
  have h3 := h2 i h
  unfold roK
  rw [List.findIdx?_eq_some_iff_getElem] at h3
  obtain ⟨hl, h4, h5⟩ := h3
  rw [List.find?_eq_some_iff_getElem]
  refine ⟨by simpa using rw_k h, i, hl, ?_, fun j hj => ?_⟩
  · have := rw_get h
    rw [List.getElem?_eq_getElem hl] at this
    exact Option.some.inj this
  · have := h5 j hj
    simpa using this
theorem roK_any (k : Int) : (roK k = none ∧ ∀ i : Nat, i < 24 → (rwS.getD i zrS).k ≠ k) ∨ ∃ i : Nat, i < 24 ∧ k = (i : Int) + 1 ∧ roK k = some (rwS.getD i zrS) := by
  by_cases h : 1 ≤ k ∧ k ≤ 24
  · obtain ⟨i, hi⟩ : ∃ i : Nat, k = (i : Int) + 1 := ⟨(k - 1).toNat, by omega⟩
    exact Or.inr ⟨i, by omega, hi, by rw [hi]; exact roK_at (by omega)⟩
  · refine Or.inl ⟨?_, fun i hi => by rw [rw_k hi]; omega⟩
    unfold roK
    rw [List.find?_eq_none]
    intro r hr
    obtain ⟨i, hi, rfl⟩ := List.mem_iff_getElem.1 hr
    have hi2 : i < 24 := hi
    have := rw_get hi2
    rw [List.getElem?_eq_getElem hi] at this
    rw [Option.some.inj this, rw_k hi2]
    simp
    omega
end Go.Proofs.YtdfdnjkeiddfjaaDoor

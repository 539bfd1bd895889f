import Derived.Test.YtcpjiahdaplhlaaGreatDoorK37
import Derived.Test.YtcpjiahdaplhlaaGreatDoorK24B
import Derived.Test.YtcpjiahdaplhlaaGreatDoorST1
import Derived.Laws.AppendOwnNone
import Derived.Laws.AppendOwn
import Derived.Test.YtcpjiahdaplhlaaGreatDoorSV5
import Derived.Test.YtcpjiahdaplhlaaGreatDoorK9
import Derived.Defers
import Derived.Recover
/-
  SyntaxTokens: PLAIN: tokens spelt one behind the other, with something between, are cut as these tokens, each where it was put.
-/
namespace Go.Proofs.YtcpjiahdaplhlaaGreatDoor
open Go.RowKit

/-- What stands behind a token. -/
def fl5 (k : Int) : ByteArray :=
  if k = 0 then ⟨#[32]⟩ else if k = 1 then ⟨#[10, 9, 13, 32]⟩ else if k = 2 then ⟨#[32, 37, 32, 112, 46, 32, 34, 32, 58, 45, 32, 40, 10]⟩ else ⟨#[32, 37, 10, 37, 37, 10, 32, 32]⟩
theorem fl5_cases (k : Int) : fl5 k = ⟨#[32]⟩ ∨ fl5 k = ⟨#[10, 9, 13, 32]⟩ ∨ fl5 k = ⟨#[32, 37, 32, 112, 46, 32, 34, 32, 58, 45, 32, 40, 10]⟩ ∨ fl5 k = ⟨#[32, 37, 10, 37, 37, 10, 32, 32]⟩ := by
  unfold fl5
  split
  · exact Or.inl rfl
  · split
    · exact Or.inr (Or.inl rfl)
    · split
      · exact Or.inr (Or.inr (Or.inl rfl))
      · exact Or.inr (Or.inr (Or.inr rfl))
theorem ct_blank5 {c : Int} (h : c = 32 ∨ c = 9 ∨ c = 10 ∨ c = 13) (f : Nat) (y : List Int) (off : Nat) (acc : List Tk) : ct (f + 1) (c :: y) off acc = ct f y (off + 1) acc := by rw [ct_cons, if_pos h]
theorem ct_rem5 (f : Nat) (y : List Int) (off : Nat) (acc : List Tk) : ct (f + 1) (37 :: y) off acc = ct f (y.drop (le_ y)) (off + (le_ y + 1)) acc := by
  rw [ct_cons, if_neg (by decide), if_pos rfl]
  have e : le_ (37 :: y) = le_ y + 1 := by rw [le_cons, if_neg (by decide)]
  rw [e, List.drop_succ_cons]
theorem fl5_ct (k : Int) (y : List Int) (f off : Nat) (acc : List Tk) (hf : (blK (fl5 k) ++ y).length < f) : ct f (blK (fl5 k) ++ y) off acc = ct (y.length + 1) y (off + (fl5 k).size) acc := by
  rw [List.length_append, bl_len] at hf
  rcases fl5_cases k with e | e | e | e <;> rw [e] at hf ⊢
  · have hs : (⟨#[32]⟩ : ByteArray).size = 1 := rfl
    rw [hs] at hf ⊢
    obtain ⟨g, rfl⟩ : ∃ g, f = g + 1 := ⟨f - 1, by omega⟩
    show ct (g + 1) (32 :: y) off acc = _
    rw [ct_blank5 (by decide)]
    exact ct_fuel _ _ _ _ (by omega) _ (by omega)
  · have hs : (⟨#[10, 9, 13, 32]⟩ : ByteArray).size = 4 := rfl
    rw [hs] at hf ⊢
    obtain ⟨g, rfl⟩ : ∃ g, f = g + 4 := ⟨f - 4, by omega⟩
    show ct (g + 1 + 1 + 1 + 1) (10 :: 9 :: 13 :: 32 :: y) off acc = _
    rw [ct_blank5 (by decide), ct_blank5 (by decide), ct_blank5 (by decide), ct_blank5 (by decide)]
    exact ct_fuel _ _ _ _ (by omega) _ (by omega)
  · have hs : (⟨#[32, 37, 32, 112, 46, 32, 34, 32, 58, 45, 32, 40, 10]⟩ : ByteArray).size = 13 := rfl
    rw [hs] at hf ⊢
    obtain ⟨g, rfl⟩ : ∃ g, f = g + 3 := ⟨f - 3, by omega⟩
    show ct (g + 1 + 1 + 1) (32 :: 37 :: 32 :: 112 :: 46 :: 32 :: 34 :: 32 :: 58 :: 45 :: 32 :: 40 :: 10 :: y) off acc = _
    rw [ct_blank5 (by decide), ct_rem5]
    have e2 : le_ (32 :: 112 :: 46 :: 32 :: 34 :: 32 :: 58 :: 45 :: 32 :: 40 :: 10 :: y) = 10 := by
      simp [le_cons]
    rw [e2]
    show ct (g + 1) (10 :: y) _ acc = _
    rw [ct_blank5 (by decide)]
    exact ct_fuel _ _ _ _ (by omega) _ (by omega)
  · have hs : (⟨#[32, 37, 10, 37, 37, 10, 32, 32]⟩ : ByteArray).size = 8 := rfl
    rw [hs] at hf ⊢
    obtain ⟨g, rfl⟩ : ∃ g, f = g + 7 := ⟨f - 7, by omega⟩
    show ct (g + 5 + 1 + 1) (32 :: 37 :: 10 :: 37 :: 37 :: 10 :: 32 :: 32 :: y) off acc = _
    rw [ct_blank5 (by decide), ct_rem5]
    have e2 : le_ (10 :: 37 :: 37 :: 10 :: 32 :: 32 :: y) = 0 := by simp [le_cons]
    rw [e2]
    show ct (g + 1 + 1 + 1 + 1 + 1) (10 :: 37 :: 37 :: 10 :: 32 :: 32 :: y) _ acc = _
    rw [ct_blank5 (by decide), ct_rem5]
    have e3 : le_ (37 :: 10 :: 32 :: 32 :: y) = 1 := by simp [le_cons]
    rw [e3]
    show ct (g + 1 + 1 + 1) (10 :: 32 :: 32 :: y) _ acc = _
    rw [ct_blank5 (by decide), ct_blank5 (by decide), ct_blank5 (by decide)]
    exact ct_fuel _ _ _ _ (by omega) _ (by omega)
theorem fl5_head (k : Int) : ∃ c r, blK (fl5 k) = c :: r ∧ (c = 10 ∨ c = 32) := by
  rcases fl5_cases k with e | e | e | e <;> rw [e]
  · exact ⟨32, _, rfl, by decide⟩
  · exact ⟨10, _, rfl, by decide⟩
  · exact ⟨32, _, rfl, by decide⟩
  · exact ⟨32, _, rfl, by decide⟩
theorem fl5_size (k : Int) : 1 ≤ (fl5 k).size ∧ (fl5 k).size ≤ 13 := by
  rcases fl5_cases k with e | e | e | e <;> rw [e] <;> decide
/-- A token's spelling. -/
def sp5 (t : Tk) : ByteArray := (spl t).getD ⟨#[]⟩
/-- The text. -/
def bt5 (K : Nat → Int) : Nat → List Tk → List Int
  | _, [] => []
  | i, t :: r => blK (sp5 t) ++ (blK (fl5 (K i)) ++ bt5 K (i + 1) r)
/-- What it is to be read as. -/
def wt5 (K : Nat → Int) : Nat → Nat → List Tk → List Tk
  | _, _, [] => []
  | i, off, t :: r => ⟨t.k, t.x, t.n, (off : Int), ((off + (sp5 t).size : Nat) : Int)⟩ :: wt5 K (i + 1) (off + (sp5 t).size + (fl5 (K i)).size) r
theorem bt5_byt (K : Nat → Int) : ∀ (l : List Tk) (i : Nat), byt (bt5 K i l)
  | [], _ => fun x hx => by cases hx
  | t :: r, i => fun x hx => by
    rcases List.mem_append.1 hx with hx | hx
    · exact bl_byt _ x hx
    · rcases List.mem_append.1 hx with hx | hx
      · exact bl_byt _ x hx
      · exact bt5_byt K r (i + 1) x hx
theorem ct_bt5 (K : Nat → Int) : ∀ (l : List Tk) (i f off : Nat) (acc : List Tk), (∀ t ∈ l, okt t ∧ (spl t).isSome = true) → (bt5 K i l).length < f → ct f (bt5 K i l) off acc = (acc ++ wt5 K i off l, 0, 0)
  | [], i, f, off, acc, _, hf => by
    obtain ⟨g, rfl⟩ : ∃ g, f = g + 1 := ⟨f - 1, by omega⟩
    show ct (g + 1) [] off acc = (acc ++ [], 0, 0)
    rw [List.append_nil]
    exact ct_end _ _ _
  | t :: r, i, f, off, acc, ho, hf => by
    obtain ⟨hk, hs⟩ := ho t (List.mem_cons_self ..)
    obtain ⟨s, e⟩ := Option.isSome_iff_exists.1 hs
    have es : sp5 t = s := by unfold sp5; rw [e]; rfl
    show ct f (blK (sp5 t) ++ (blK (fl5 (K i)) ++ bt5 K (i + 1) r)) off acc = (acc ++ (⟨t.k, t.x, t.n, (off : Int), ((off + (sp5 t).size : Nat) : Int)⟩ :: wt5 K (i + 1) (off + (sp5 t).size + (fl5 (K i)).size) r), 0, 0)
    have hf : (blK (sp5 t) ++ (blK (fl5 (K i)) ++ bt5 K (i + 1) r)).length < f := hf
    rw [es] at hf ⊢
    obtain ⟨c0, r0, e0, hc0⟩ := fl5_head (K i)
    have hst : stp t (blK (fl5 (K i)) ++ bt5 K (i + 1) r) := by
      rw [e0]
      refine ⟨fun _ => ?_, fun _ y hy => ?_⟩
      · show rl (c0 :: (r0 ++ _)) = 0
        rw [rl_cons]
        have : ¬ rnb c0 = true := by rcases hc0 with rfl | rfl <;> decide
        rw [if_neg this]
      · have := (List.cons.inj hy).1; omega
    have hby : byt (blK (fl5 (K i)) ++ bt5 K (i + 1) r) := fun x hx => by
      rcases List.mem_append.1 hx with hx | hx
      · exact bl_byt _ x hx
      · exact bt5_byt K r _ x hx
    have ih := fun f off acc => ct_bt5 K r (i + 1) f off acc (fun u hu => ho u (List.mem_cons_of_mem _ hu))
    have hfl := fun f off acc hf => fl5_ct (K i) (bt5 K (i + 1) r) f off acc hf
    obtain ⟨Y, hY⟩ : ∃ Y, blK (fl5 (K i)) ++ bt5 K (i + 1) r = Y := ⟨_, rfl⟩
    rw [hY] at hst hby hf ⊢
    simp only [hY] at hfl
    obtain ⟨ht, hx⟩ := tok_spl e hk hst hby
    obtain ⟨c, y, ec, n1, n2, -, -⟩ := spl_head e
    have hd : (blK s ++ Y).drop s.size = Y := by rw [← bl_len]; exact List.drop_left
    have hsz : 0 < s.size := by rw [← bl_len, ec]; simp
    rw [List.length_append, bl_len] at hf
    obtain ⟨g, rfl⟩ : ∃ g, f = g + 1 := ⟨f - 1, by omega⟩
    rw [ec, List.cons_append] at ht hd ⊢
    rw [ct_cons, if_neg n1, if_neg n2, ht]
    show ct g ((c :: (y ++ Y)).drop s.size) (off + s.size) (acc ++ [⟨t.k, ofL (tbs t), t.n, (off : Int), ((off + s.size : Nat) : Int)⟩]) = _
    rw [hd, ← hx, hfl _ _ _ (by omega), ih _ _ _ (Nat.lt_succ_self _)]
    simp
theorem wt5_len (K : Nat → Int) : ∀ (l : List Tk) (i off : Nat), (wt5 K i off l).length = l.length
  | [], _, _ => rfl
  | t :: r, i, off => by
    show (_ :: wt5 K (i + 1) _ r).length = _
    rw [List.length_cons, List.length_cons, wt5_len K r]
/-- Where the token i begins; where the text ends. -/
def of5 (K : Nat → Int) : Nat → List Tk → Nat → Nat
  | _, [], off => off
  | i, t :: r, off => of5 K (i + 1) r (off + (sp5 t).size + (fl5 (K i)).size)
theorem of5_len (K : Nat → Int) : ∀ (l : List Tk) (i off : Nat), of5 K i l off = off + (bt5 K i l).length
  | [], _, off => rfl
  | t :: r, i, off => by
    show of5 K (i + 1) r _ = off + (blK (sp5 t) ++ (blK (fl5 (K i)) ++ bt5 K (i + 1) r)).length
    rw [of5_len K r, List.length_append, List.length_append, bl_len, bl_len]
    omega
theorem bt5_snoc (K : Nat → Int) : ∀ (l : List Tk) (i : Nat) (t : Tk), bt5 K i (l ++ [t]) = bt5 K i l ++ (blK (sp5 t) ++ blK (fl5 (K (i + l.length))))
  | [], i, t => by show blK (sp5 t) ++ (blK (fl5 (K i)) ++ []) = _; rw [List.append_nil]; rfl
  | u :: r, i, t => by
    show blK (sp5 u) ++ (blK (fl5 (K i)) ++ bt5 K (i + 1) (r ++ [t])) = (blK (sp5 u) ++ (blK (fl5 (K i)) ++ bt5 K (i + 1) r)) ++ _
    rw [bt5_snoc K r, List.length_cons, show i + 1 + r.length = i + (r.length + 1) by omega, List.append_assoc, List.append_assoc]
theorem wt5_get (K : Nat → Int) : ∀ (l : List Tk) (i off j : Nat) (t : Tk), l[j]? = some t → (wt5 K i off l)[j]? = some ⟨t.k, t.x, t.n, (of5 K i (l.take j) off : Int), ((of5 K i (l.take j) off + (sp5 t).size : Nat) : Int)⟩
  | [], _, _, j, t, h => by simp at h
  | u :: r, i, off, 0, t, h => by
    obtain rfl : u = t := by simpa using h
    rfl
  | u :: r, i, off, j + 1, t, h => wt5_get K r (i + 1) _ j t (by simpa using h)
/-- Places rise. -/
def Up5 (L : Nat) : Nat → List Tk → Prop
  | off, [] => off ≤ L
  | off, t :: T => (off : Int) ≤ t.a ∧ ∃ e : Nat, t.a < (e : Int) ∧ Up5 L e T
theorem up_pl (l : List Int) : ∀ (T : List Tk) (off : Nat), Pl l off T → Up5 l.length off T
  | [], off, h => h.1
  | t :: T, off, ⟨a, len, ha, _, h1, h2, _, _, _, h3⟩ => ⟨by omega, a + len, by omega, up_pl l T (a + len) h3⟩
theorem up_lo {L : Nat} : ∀ (T : List Tk) (off : Nat), Up5 L off T → off ≤ L ∧ ∀ t ∈ T, (off : Int) ≤ t.a ∧ t.a < (L : Int)
  | [], off, h => ⟨h, fun t ht => by cases ht⟩
  | u :: T, off, ⟨h1, e, h2, h3⟩ => by
    obtain ⟨h4, h5⟩ := up_lo T e h3
    refine ⟨by omega, fun t ht => ?_⟩
    rcases List.mem_cons.1 ht with rfl | ht
    · exact ⟨h1, by omega⟩
    · have := h5 t ht
      exact ⟨by omega, this.2⟩
/-- The number of the token at a place. -/
def wh5 (p : Int) : List Tk → Nat
  | [] => 0
  | t :: T => if t.a < p then wh5 p T + 1 else 0
theorem wh5_end {L : Nat} : ∀ (T : List Tk) (off : Nat), Up5 L off T → wh5 (L : Int) T = T.length
  | [], _, _ => rfl
  | t :: T, off, h => by
    have h1 := ((up_lo _ _ h).2 t (List.mem_cons_self ..)).2
    obtain ⟨-, e, -, h3⟩ := h
    show (if t.a < (L : Int) then wh5 (L : Int) T + 1 else 0) = _
    rw [if_pos h1, wh5_end T e h3]
    rfl
theorem wh5_at {L : Nat} : ∀ (T : List Tk) (off i : Nat) (t : Tk), Up5 L off T → T[i]? = some t → wh5 t.a T = i
  | [], _, i, t, _, h => by simp at h
  | u :: T, off, 0, t, _, h => by
    obtain rfl : u = t := by simpa using h
    show (if u.a < u.a then _ else _) = 0
    rw [if_neg (by omega)]
  | u :: T, off, i + 1, t, ⟨h1, e, h2, h3⟩, h => by
    have h : T[i]? = some t := by simpa using h
    have h4 := ((up_lo _ _ h3).2 t (List.mem_of_getElem? h)).1
    show (if u.a < t.a then wh5 t.a T + 1 else 0) = i + 1
    rw [if_pos (by omega), wh5_at T e i t h3 h]
end Go.Proofs.YtcpjiahdaplhlaaGreatDoor
/-
  syntax: how great tokens can be; what is caught.
-/
namespace Go.Proofs.YtcpjiahdaplhlaaGreatDoor
open Go.RowKit

theorem qd_x : ∀ (f : Nat) (r : List Int) (off : Nat) (acc : List Int) {k : Int} {x : List Int} {n : Int} {len : Nat}, qd f r off acc = .ok k x n len → x.length ≤ acc.length + r.length
  | 0, r, off, acc, k, x, n, len, h => by cases h
  | f + 1, [], off, acc, k, x, n, len, h => by cases h
  | f + 1, c :: r, off, acc, k, x, n, len, h => by
    unfold qd at h
    by_cases h1 : c = 34
    · rw [if_pos h1] at h
      cases h
      omega
    · rw [if_neg h1] at h
      by_cases h2 : c = 92
      · rw [if_pos h2] at h
        cases he : esc r with
        | none => rw [he] at h; cases h
        | some p =>
          obtain ⟨b, kk⟩ := p
          rw [he] at h
          have h3 := qd_x f (r.drop kk) (off + 1 + kk) (acc ++ [b]) h
          rw [List.length_append, List.length_singleton, List.length_drop] at h3
          rw [List.length_cons]
          omega
      · rw [if_neg h2] at h
        by_cases h3 : c < 32 ∨ c = 127
        · rw [if_pos h3] at h; cases h
        · rw [if_neg h3] at h
          have h4 := qd_x f r (off + 1) (acc ++ [c]) h
          rw [List.length_append, List.length_singleton] at h4
          rw [List.length_cons]
          omega
theorem tok_x {l : List Int} {k : Int} {x : List Int} {n : Int} {len : Nat} (h : tok l = .ok k x n len) : x.length ≤ l.length := by
  cases l with
  | nil => cases h
  | cons c r =>
    simp only [tok] at h
    have ht : ((c :: r).take (rl (c :: r))).length ≤ (c :: r).length := by rw [List.length_take]; exact Nat.min_le_right _ _
    have hn : ∀ (m : Nat) (l' : List Int), numt m l' = .ok k x n len → x.length ≤ (c :: r).length := fun m l' h => by
      unfold numt at h
      cases hv : num (l'.take m) with
      | none => rw [hv] at h; cases h
      | some v => rw [hv] at h; cases h; exact Nat.zero_le _
    have hs : ∀ m, sgF (c :: r) m = .ok k x n len → x.length ≤ (c :: r).length := fun m => by
      induction m with
      | zero => intro h; cases h
      | succ m ih =>
        intro h
        unfold sgF at h
        split at h
        · exact ih h
        · cases h; exact Nat.zero_le _
    repeat' split at h
    · cases h; exact Nat.zero_le _
    · cases h; exact ht
    · cases h; exact ht
    · exact hn _ _ h
    · exact hn _ _ h
    · have := qd_x _ _ _ _ h
      rw [List.length_nil] at this
      rw [List.length_cons]
      omega
    · exact hs _ h
theorem ofL_sz (x : List Int) : (ofL x).size = x.length := by
  unfold ofL
  simp [ByteArray.size, i2b]
theorem ct_small : ∀ (f : Nat) (l : List Int) (off : Nat) (acc : List Tk) (M : Nat), l.length ≤ M → (∀ t ∈ acc, t.x.size ≤ M) → (ct f l off acc).1.length ≤ acc.length + l.length ∧ ∀ t ∈ (ct f l off acc).1, t.x.size ≤ M
  | 0, l, off, acc, M, hl, ha => ⟨Nat.le_add_right _ _, ha⟩
  | f + 1, [], off, acc, M, hl, ha => ⟨Nat.le_add_right _ _, ha⟩
  | f + 1, c :: r, off, acc, M, hl, ha => by
    rw [List.length_cons] at hl
    unfold ct
    by_cases h1 : c = 32 ∨ c = 9 ∨ c = 10 ∨ c = 13
    · rw [if_pos h1]
      have := ct_small f r (off + 1) acc M (by omega) ha
      exact ⟨by rw [List.length_cons]; omega, this.2⟩
    · rw [if_neg h1]
      by_cases h2 : c = 37
      · rw [if_pos h2]
        have := ct_small f ((c :: r).drop (le_ (c :: r))) (off + le_ (c :: r)) acc M (by rw [List.length_drop, List.length_cons]; omega) ha
        rw [List.length_drop] at this
        exact ⟨by omega, this.2⟩
      · rw [if_neg h2]
        cases ht : tok (c :: r) with
        | bad e o => exact ⟨Nat.zero_le _, fun t ht => by cases ht⟩
        | ok k x n len =>
          have hx := tok_x ht
          obtain ⟨hlen, -⟩ := (tok_len c r).1 k x n len ht
          have := ct_small f ((c :: r).drop len) (off + len) (acc ++ [⟨k, ofL x, n, off, (off + len : Nat)⟩]) M (by rw [List.length_drop, List.length_cons]; omega) (fun t hm => by
            rcases List.mem_append.1 hm with hm | hm
            · exact ha t hm
            · rw [List.mem_singleton.1 hm]
              show (ofL x).size ≤ M
              rw [ofL_sz]
              rw [List.length_cons] at hx
              omega)
          rw [List.length_drop, List.length_append, List.length_singleton, List.length_cons] at this
          exact ⟨by rw [List.length_cons]; dsimp only; omega, this.2⟩
theorem cut_small {s : ByteArray} {most : Int} (hm : most ≤ 2000000) (h0 : (cutL (blK s) most).2.1 = 0) : Tok5 (cutL (blK s) most).1 s.size := by
  unfold cutL at h0 ⊢
  by_cases hl : most < ((blK s).length : Int)
  · rw [if_pos hl] at h0
    exact absurd h0 (by decide)
  · rw [if_neg hl]
    rw [bl_len] at hl ⊢
    have h1 := ct_small (s.size + 1) (blK s) 0 [] 2000000 (by rw [bl_len]; omega) (fun t h => by cases h)
    rw [bl_len, List.length_nil] at h1
    exact ⟨by omega, by omega, h1.2⟩
theorem kcs_get5 : ∀ {l : List Tk} {j : Nat} {t : Tk}, l[j]? = some t → (kcs l)[j * 5]? = some (.int .i64 t.k) ∧ (kcs l)[j * 5 + 1]? = some (.string t.x) ∧ (kcs l)[j * 5 + 2]? = some (.int .i64 t.n) ∧ (kcs l)[j * 5 + 3]? = some (.int .i64 t.a) ∧ (kcs l)[j * 5 + 4]? = some (.int .i64 t.e)
  | [], j, t, h => by simp at h
  | y :: l, 0, t, h => by
    simp only [List.getElem?_cons_zero, Option.some.injEq] at h
    subst h
    exact ⟨rfl, rfl, rfl, rfl, rfl⟩
  | y :: l, j + 1, t, h => by
    rw [List.getElem?_cons_succ] at h
    have ih := kcs_get5 h
    rw [show (j + 1) * 5 = j * 5 + 5 by omega]
    exact ih
theorem tz_of_own {w : World} {base : Nat} {v : Value} {T : List Tk} (h : OwnK w base v T) : Tz (fun b => base ≤ b) w v T := by
  obtain ⟨a, cap, rfl, -⟩ := row7_form h
  refine ⟨a, cap, rfl, ?_⟩
  cases T with
  | nil => exact Or.inl rfl
  | cons t T =>
    obtain ⟨g, rfl, hb, hg, -, -⟩ := row7_at h (kcs_get5 (j := 0) rfl).1
    refine Or.inr ⟨g, rfl, hg, hb, fun i u hu => ?_⟩
    obtain ⟨c0, c1, c2, c3, c4⟩ := kcs_get5 hu
    have e0 := row5_cell h c0
    have e1 := row5_cell h c1
    have e2 := row5_cell h c2
    have e3 := row5_cell h c3
    have e4 := row5_cell h c4
    rw [Nat.zero_add] at e0 e1 e2 e3 e4
    exact ⟨e0, e1, e2, e3, e4⟩
theorem run_assert5 (w : World) (v : Value) (x : TypeId) : (Instr.typeAssert (.iface 26 v) x 26 false).run Tryz.prog w = .ok v w := by
  simp [Instr.typeAssert, run_underlying Tryz.underlying26]
theorem catchC_panic (g : Nat) (c a : Int) (older : List PanicEntry) (w : World) (hb : ∃ x y, Bk w g #[x, y] 26) :
    CallsD Tryz.prog 80 #[.pointer (some ⟨g, 0, none⟩)] (.panicking (pF (c, a) :: older)) w fun e u' w' =>
      e = .returned (.tuple #[]) ∧ u' = .panicking ({ v := .iface 26 (.agg #[.int .i64 c, .int .i64 a]), recovered := true } :: older) ∧ w' = (w.setCell ⟨g, 0, none⟩ (.int .i64 c)).setCell ⟨g, 1, none⟩ (.int .i64 a) := by
  obtain ⟨x, y, hb⟩ := hb
  have c0 := hb.cell (i := 0) rfl
  have c1 := hb.cell (i := 1) rfl
  have f0 := hb.froz 0
  have f1 := hb.froz 1
  have hl := hb.lt
  refine callsD_of_wpS Tryz.func80 rfl fun c₀ cs hu => ?_
  unfold pF at hu
  apply wpS_seq
  apply wpS_region
  simp [wpOpsS, go_sem, recoverD, hu, Tryz.ntmps80, Exit.thenS]
  have hta := run_assert5
  refine wpS_of_wp ?_
  change Code.wp _ _ _ { tmps := #[.pointer (some ⟨g, 0, none⟩), .iface 26 (.agg #[.int .i64 c, .int .i64 a]), .iface 26 (.agg #[.int .i64 c, .int .i64 a]), undef, undef, undef, undef], defers := [] } w
  go_wp2
  exact ⟨rfl, _, rfl, _, by simp [results, Tryz.results80], rfl, rfl, rfl⟩
theorem catchC_idle (p : Addr) (w : World) :
    CallsD Tryz.prog 80 #[.pointer (some p)] .returning w fun e u' w' => e = .returned (.tuple #[]) ∧ u' = .returning ∧ w' = w := by
  refine callsD_of_wpS Tryz.func80 rfl fun c₀ cs hu => ?_
  apply wpS_seq
  apply wpS_region
  simp [wpOpsS, go_sem, recoverD, hu, Tryz.ntmps80, Exit.thenS]
  refine wpS_of_wp ?_
  change Code.wp _ _ _ { tmps := #[.pointer (some p), .nilIface, .nilIface, undef, undef, undef, undef], defers := [] } w
  go_wp2
  exact ⟨rfl, .returning, by rw [← hu], _, by simp [results, Tryz.results80], rfl, rfl, rfl⟩
end Go.Proofs.YtcpjiahdaplhlaaGreatDoor
/-
  syntax: read of clauses; Program.
-/
namespace Go.Proofs.YtcpjiahdaplhlaaGreatDoor
open Go.RowKit
attribute [local go_sem ↓] Go.wp_at_zero Go.wp_at_succ

/-- What a text says as a program. -/
def pg5 (s : ByteArray) (most : Int) : Except (Int × Int) (List Ck) := if (cutL (blK s) most).2.1 = 0 then pr5 (cutL (blK s) most).1 s.size ((cutL (blK s) most).1.length + 1) [] 0 else .error ((cutL (blK s) most).2.1, (cutL (blK s) most).2.2)
def ReP (w : World) (R : Except (Int × Int) (List Ck)) (e : Ending) (w' : World) : Prop :=
  Below w.heap.size w w' ∧ ∃ v c a, e = .returned (.tuple #[v, .agg #[.int .i64 c, .int .i64 a]]) ∧ match R with
    | .error f => v = .slice none 0 0 ∧ c = f.1 ∧ a = f.2
    | .ok ks => c = 0 ∧ a = 0 ∧ ∃ l, l.map Cm.key = ks ∧ RL (fun b => w.heap.size ≤ b) w' v l
theorem PB.new {w : World} {base : Nat} {tv : Value} {T : List Tk} {L : Nat} (h : OwnK w base tv T) (hok : Tok5 T L) (ho : OpsOk w) : PB w.heap.size (w.heap.size + 1) tv T L (w.alloc (.cells #[tv, .int .i64 0, .int .i64 (L : Int), .int .i64 0, .map none, .int .i64 0] 109)) 0 := by
  have hz : (w.alloc (.cells #[tv, .int .i64 0, .int .i64 (L : Int), .int .i64 0, .map none, .int .i64 0] 109)).heap.size = w.heap.size + 1 := by simp
  have hb := below1 w (.cells #[tv, .int .i64 0, .int .i64 (L : Int), .int .i64 0, .map none, .int .i64 0] 109)
  have hl := ho.lt
  refine ⟨⟨none, 0, Bk.new w _ _⟩, ?_, Nat.zero_le _, Nat.lt_succ_self _, by omega, hok, ho.fr (P := fun _ => False) (Fr.of hb) (fun h => h), by omega, by omega⟩
  exact ((tz_of_own h).mono (G := fun b => b ≠ w.heap.size ∧ b < w.heap.size + 1) fun b hb _ => ⟨by omega, by omega⟩).fr (P := fun _ => False) (Fr.of hb) fun _ _ _ h => h
theorem PrP.err {g : Nat} {w : World} {R : Except (Int × Int) (List Ck)} {f : Int × Int} {fn : Nat} {args : Array Value} (h : Calls Tryz.prog fn args w (PrP g w R)) (hr : R = .error f) : Calls Tryz.prog fn args w fun e w' => e = .panicked [pF f] ∧ Fr (fun b => b = g) w w' := by
  subst hr
  exact h.mono fun e w' ⟨h1, h2⟩ => ⟨h2, h1⟩
theorem PrP.ok {g : Nat} {w : World} {R : Except (Int × Int) (List Ck)} {ks : List Ck} {fn : Nat} {args : Array Value} (h : Calls Tryz.prog fn args w (PrP g w R)) (hr : R = .ok ks) : Calls Tryz.prog fn args w fun e w' => ∃ v l, e = .returned v ∧ l.map Cm.key = ks ∧ RL (fun b => w.heap.size ≤ b) w' v l ∧ Fr (fun b => b = g) w w' := by
  subst hr
  exact h.mono fun e w' ⟨h1, v, l, h2, h3, h4⟩ => ⟨v, l, h2, h3, h4, h1⟩
set_option maxRecDepth 20000 in
set_option maxHeartbeats 4000000 in
theorem readC_any (s : ByteArray) (most : Int) (hs : s.size ≤ 9000000) (hm : most ≤ 2000000) (w : World) (hE : EnvOk w) (hO : OpsOk w) :
    Calls Tryz.prog 39 #[.string s, .int .i64 most, .func (.func 40) #[] #[]] w (ReP w (pg5 s most)) := by
  have hmf : ∀ (fn : Fn) (first cap : Array Value) (w : World), (Instr.makeFunc fn first cap).run Tryz.prog w = .ok (.func fn first cap) w := fun _ _ _ _ => rfl
  have HB0 := hm7 (below1 w (.cells #[.int .i64 0, .int .i64 0] 26))
  have HR0 := hm7 (Bk.new w #[.int .i64 0, .int .i64 0] 26)
  have HCU := hm7 (cut_any s most hs _ (hE.later HB0.out))
  have HO0 := hm7 (hO.fr (P := fun _ => False) (Fr.of HB0.out) fun h => h)
  obtain ⟨Y0, hY0⟩ : ∃ Y0, w.alloc (.cells #[.int .i64 0, .int .i64 0] 26) = Y0 := ⟨_, rfl⟩
  rw [hY0] at HB0 HR0 HCU HO0
  have HY0 := hm7 hY0
  obtain ⟨q, hq⟩ : ∃ q, w.heap.size = q := ⟨_, rfl⟩
  rw [hq] at HR0
  have HQ := hm7 hq
  have HQW : Hid (w.heap.size ≤ q) := by show _ ≤ _; rw [hq]; exact Nat.le_refl _
  obtain ⟨R, hR⟩ : ∃ R, pg5 s most = R := ⟨_, rfl⟩
  rw [hR]
  unfold pg5 at hR
  have HTK : Hid ((cutL (blK s) most).2.1 = 0 → Tok5 (cutL (blK s) most).1 s.size) := cut_small hm
  obtain ⟨⟨T, c, a⟩, hcl⟩ : ∃ X, cutL (blK s) most = X := ⟨_, rfl⟩
  rw [hcl] at HCU HTK hR
  dsimp only at HTK hR
  have HGQ : Hid (3 ≠ q) := fun e => by have := hO.lt; omega
  clear hY0 hq hcl hE hO
  go_enter_defers Tryz.func39, Tryz.ntmps39
  go_upto_region 1 with fail
  rw [HY0.out, HQ.out]
  clear HY0
  go_upto_region 2 with (go_at_call 7; refine HCU.out.mono ?_; rintro e W1 ⟨tv, rfl, hk, hb⟩; obtain ⟨ta, tc, htf, -⟩ := row7_form hk; generalize htn : List.length _ = tn at htf; subst htf; have HTN := hm7 htn; have HK1 := hm7 hk; have HR1 := hm7 (HR0.out.below hb); have HB1 := hm7 (HB0.out.trans (hb.mono HB0.out.size)); have HO1 := hm7 (HO0.out.fr (P := fun _ => False) (Fr.of hb) fun h => h); have r0 := HR1.out.cell (i := 0) rfl; have r1 := HR1.out.cell (i := 1) rfl; have f0 := HR1.out.froz 0; have f1 := HR1.out.froz 1; have hrl := HR1.out.lt; clear hk hb htn)
  have HR2 : Hid (Bk ((W1.setCell ⟨q, 0, none⟩ (.int .i64 c)).setCell ⟨q, 1, none⟩ (.int .i64 a)) q #[.int .i64 c, .int .i64 a] 26) := by
    have := (HR1.out.set 0 (.int .i64 c)).set 1 (.int .i64 a)
    show Bk _ _ _ _
    simpa using this
  have HFQ : Hid (Fr (fun b => b = q) W1 ((W1.setCell ⟨q, 0, none⟩ (.int .i64 c)).setCell ⟨q, 1, none⟩ (.int .i64 a))) := ((Fr.refl (fun b => b = q) _).set (Or.inl rfl)).set (Or.inl rfl)
  have HB2 : Hid (Below w.heap.size w ((W1.setCell ⟨q, 0, none⟩ (.int .i64 c)).setCell ⟨q, 1, none⟩ (.int .i64 a))) := (HB1.out.setCell (p := ⟨q, 0, none⟩) HQW.out _).setCell (p := ⟨q, 1, none⟩) HQW.out _
  clear r0 r1 f0 f1 hrl
  have HQY : Hid (q < Y0.heap.size) := HR0.out.lt
  have HK2 : Hid (OwnK ((W1.setCell ⟨q, 0, none⟩ (.int .i64 c)).setCell ⟨q, 1, none⟩ (.int .i64 a)) Y0.heap.size (.slice ta tn tc) T) := row7_fr HK1.out HFQ.out fun b hb e => by have := (World.ownsRow.lt HK1.out b hb).1; have := HQY.out; omega
  have HO2 : Hid (OpsOk ((W1.setCell ⟨q, 0, none⟩ (.int .i64 c)).setCell ⟨q, 1, none⟩ (.int .i64 a))) := HO1.out.fr HFQ.out HGQ.out
  revert HR2 HFQ HB2 HK2 HO2
  generalize (W1.setCell ⟨q, 0, none⟩ (.int .i64 c)).setCell ⟨q, 1, none⟩ (.int .i64 a) = W2
  intro HR2 HFQ HB2 HK2 HO2
  have c0 := HR2.out.cell (i := 0) rfl
  have c1 := HR2.out.cell (i := 1) rfl
  have f0 := HR2.out.froz 0
  have f1 := HR2.out.froz 1
  have hrl := HR2.out.lt
  by_cases hc : c = 0
  · subst hc
    rw [if_pos rfl] at hR
    have hsl : (s.size : Int) = (s.size : Int) := rfl
    have HPB := hm7 (PB.new HK2.out (HTK.out rfl) HO2.out)
    have HPR := hm7 (program5_any _ _ _ _ _ _ HPB.out)
    have HQ2 : Hid (q < W2.heap.size) := hrl
    have HB3 := hm7 (below1 W2 (.cells #[.slice ta tn tc, .int .i64 0, .int .i64 (s.size : Int), .int .i64 0, .map none, .int .i64 0] 109))
    clear hsl HPB HTK HK1 HR1 HK2 HFQ
    obtain ⟨gp, hgp⟩ : ∃ gp, W2.heap.size = gp := ⟨_, rfl⟩
    obtain ⟨sl, hsl⟩ : ∃ sl, s.size = sl := ⟨_, rfl⟩
    have HWG : Hid (w.heap.size ≤ W2.heap.size) := HB2.out.size
    cases hr : pr5 T s.size (T.length + 1) [] 0 with
    | error f =>
      rw [hr] at hR
      subst hR
      have HE := hm7 (PrP.err HPR.out hr)
      clear hr HPR hgp hsl
      go_wp2_with (go_at_call 40; refine HE.out.mono ?_; rintro e W4 ⟨rfl, hf⟩; have HR4 := hm7 ((HR2.out.below HB3.out).fr hf fun e => by have := HQ2.out; omega); have HB4 := hm7 (Fr.low ((Fr.of (P := fun b => w.heap.size ≤ b) (HB2.out.trans (HB3.out.mono HWG.out))).trans hf fun b _ e => by have := HWG.out; omega) (Nat.le_refl _)); clear hf c0 c1 f0 f1 hrl)
      refine leaves_cons (f := 80) (args := #[.pointer (some ⟨q, 0, none⟩)]) (by simp) (by simp [go_sem]) ?_
      refine (catchC_panic q f.1 f.2 [] _ ⟨_, _, HR4.out⟩).mono ?_
      rintro e u' w'' ⟨rfl, rfl, rfl⟩
      have HR5 : Hid (Bk ((W4.setCell ⟨q, 0, none⟩ (.int .i64 f.1)).setCell ⟨q, 1, none⟩ (.int .i64 f.2)) q #[.int .i64 f.1, .int .i64 f.2] 26) := by
        have := (HR4.out.set 0 (.int .i64 f.1)).set 1 (.int .i64 f.2)
        show Bk _ _ _ _
        simpa using this
      have z0 := HR5.out.cell (i := 0) rfl
      have z1 := HR5.out.cell (i := 1) rfl
      have HB5 : Hid (Below w.heap.size w ((W4.setCell ⟨q, 0, none⟩ (.int .i64 f.1)).setCell ⟨q, 1, none⟩ (.int .i64 f.2))) := (HB4.out.setCell (p := ⟨q, 0, none⟩) HQW.out _).setCell (p := ⟨q, 1, none⟩) HQW.out _
      simp [Leaves, settle, results, Tryz.results39, go_sem, z0, z1]
      exact ⟨HB5.out, _, f.1, f.2, rfl, rfl, rfl, rfl⟩
    | ok ks =>
      rw [hr] at hR
      subst hR
      have HE := hm7 (PrP.ok HPR.out hr)
      clear hr HPR hgp hsl
      go_wp2_with (go_at_call 40; refine HE.out.mono ?_; rintro e W4 ⟨v4, l, rfl, hk, hrl4, hf⟩; have HKS := hm7 hk; have HRL := hm7 hrl4; have HR4 := hm7 ((HR2.out.below HB3.out).fr hf fun e => by have := HQ2.out; omega); have HB4 := hm7 (Fr.low ((Fr.of (P := fun b => w.heap.size ≤ b) (HB2.out.trans (HB3.out.mono HWG.out))).trans hf fun b _ e => by have := HWG.out; omega) (Nat.le_refl _)); clear hf c0 c1 f0 f1 hrl hk hrl4; have r0 := HR4.out.cell (i := 0) rfl; have r1 := HR4.out.cell (i := 1) rfl; have f0 := HR4.out.froz 0; have f1 := HR4.out.froz 1; have hrl := HR4.out.lt)
      refine leaves_cons (f := 80) (args := #[.pointer (some ⟨q, 0, none⟩)]) (by simp) (by simp [go_sem]) ?_
      refine (catchC_idle ⟨q, 0, none⟩ _).mono ?_
      rintro e u' w'' ⟨rfl, rfl, rfl⟩
      have HR5 : Hid (Bk ((W4.setCell ⟨q, 0, none⟩ (.int .i64 0)).setCell ⟨q, 1, none⟩ (.int .i64 0)) q #[.int .i64 0, .int .i64 0] 26) := by
        have := (HR4.out.set 0 (.int .i64 0)).set 1 (.int .i64 0)
        show Bk _ _ _ _
        simpa using this
      have z0 := HR5.out.cell (i := 0) rfl
      have z1 := HR5.out.cell (i := 1) rfl
      have HB5 : Hid (Below w.heap.size w ((W4.setCell ⟨q, 0, none⟩ (.int .i64 0)).setCell ⟨q, 1, none⟩ (.int .i64 0))) := (HB4.out.setCell (p := ⟨q, 0, none⟩) HQW.out _).setCell (p := ⟨q, 1, none⟩) HQW.out _
      have HRL5 : Hid (RL (fun b => w.heap.size ≤ b) ((W4.setCell ⟨q, 0, none⟩ (.int .i64 0)).setCell ⟨q, 1, none⟩ (.int .i64 0)) v4 l) := ((HRL.out.fr (Q := fun b => b = q) (((Fr.refl (fun b => b = q) _).set (Or.inl rfl)).set (Or.inl rfl)) fun b hb e => by have := HB3.out.size; have := HQ2.out; omega)).mono fun b _ hb => Nat.le_trans HWG.out (Nat.le_trans HB3.out.size hb)
      simp [Leaves, settle, results, Tryz.results39, go_sem, z0, z1]
      exact ⟨HB5.out, _, 0, 0, rfl, rfl, rfl, l, HKS.out, HRL5.out⟩
  · have hc1 : (c == 0) = false := by simp [hc]
    have hc2 : (c != 0) = true := by simp [hc]
    rw [if_neg hc] at hR
    subst hR
    have HR5 : Hid (Bk ((W2.setCell ⟨q, 0, none⟩ (.int .i64 c)).setCell ⟨q, 1, none⟩ (.int .i64 a)) q #[.int .i64 c, .int .i64 a] 26) := by
      have := (HR2.out.set 0 (.int .i64 c)).set 1 (.int .i64 a)
      show Bk _ _ _ _
      simpa using this
    have HR6 := hm7 (HR5.out.below (below_drewN (Below.refl _ _) 1))
    have HB5 : Hid (Below w.heap.size w ((W2.setCell ⟨q, 0, none⟩ (.int .i64 c)).setCell ⟨q, 1, none⟩ (.int .i64 a)).drew) := ((HB2.out.setCell (p := ⟨q, 0, none⟩) HQW.out _).setCell (p := ⟨q, 1, none⟩) HQW.out _).drew
    go_upto_region 3 with fail
    go_region
    go_wp2
    clear c0 c1 f0 f1 hrl
    have z0 := HR6.out.cell (i := 0) rfl
    have z1 := HR6.out.cell (i := 1) rfl
    have z2 : ((W2.setCell ⟨q, 0, none⟩ (.int .i64 c)).setCell ⟨q, 1, none⟩ (.int .i64 a)).drew.cell? ⟨q, 0, none⟩ = some (.int .i64 c) := z0
    have z3 : ((W2.setCell ⟨q, 0, none⟩ (.int .i64 c)).setCell ⟨q, 1, none⟩ (.int .i64 a)).drew.cell? ⟨q, 1, none⟩ = some (.int .i64 a) := z1
    show Leaves _ _ _ _ _ _ _
    simp [Leaves, results, Tryz.results39, go_sem, z2, z3]
    exact ⟨HB5.out, _, c, a, rfl, rfl, rfl, rfl⟩
end Go.Proofs.YtcpjiahdaplhlaaGreatDoor

import Derived.Test.YtnikmcmkbjjcdaaGreatDoorSJ2
import Derived.Test.YtnikmcmkbjjcdaaGreatDoorK16
import Derived.Test.YtnikmcmkbjjcdaaGreatDoorSJ1
import Derived.Test.YtnikmcmkbjjcdaaGreatDoorK9
import Derived.Defers
import Derived.Recover
/-
  PLAIN: the tokens of two texts with a line's end between them.
-/
namespace Go.Proofs.YtnikmcmkbjjcdaaGreatDoor
open Go.RowKit

theorem rl_nl5 : ∀ (l m : List Int), rl (l ++ 10 :: m) = rl l
  | [], m => by show rl (10 :: m) = 0; rw [rl_cons, if_neg (by decide)]
  | c :: l, m => by rw [List.cons_append, rl_cons, rl_cons, rl_nl5 l m]
theorem le_nl5 : ∀ (l m : List Int), le_ (l ++ 10 :: m) = le_ l
  | [], m => by show le_ (10 :: m) = 0; rw [le_cons, if_pos rfl]
  | c :: l, m => by rw [List.cons_append, le_cons, le_cons, le_nl5 l m]
theorem sign_nl5 : ∀ t ∈ signL, ¬ t.data.toList[1]? = some 10 := by decide
theorem sk_nl5 (c : Int) : sk (ofL [c, 10]) = 0 := skG_none _ _ _ fun t ht e => sign_nl5 t ht (by rw [e]; rfl)
theorem sgt_nl5 (c : Int) (r m : List Int) : sgt (c :: (r ++ 10 :: m)) = sgt (c :: r) := by
  unfold sgt
  cases r with
  | nil =>
    have e : min 2 (c :: ([] ++ 10 :: m)).length = 2 := by simp
    have e' : min 2 [c].length = 1 := by simp
    rw [e, e', sgF_no (m := 1) (by show sk (ofL [c, 10]) = 0; exact sk_nl5 c)]
    exact sgF_congr 1 fun i hi => by
      rcases i with _ | _ | i
      · rfl
      · rfl
      · omega
  | cons d r =>
    have e : min 2 (c :: (d :: r ++ 10 :: m)).length = 2 := by simp
    have e' : min 2 (c :: d :: r).length = 2 := by simp
    rw [e, e']
    exact sgF_congr 2 fun i hi => by
      rcases i with _ | _ | _ | i
      · rfl
      · rfl
      · rfl
      · omega
theorem tok_nl5 {c : Int} {r m : List Int} {k : Int} {x : List Int} {n : Int} {len : Nat} (h : tok (c :: r) = .ok k x n len) : tok (c :: (r ++ 10 :: m)) = .ok k x n len := by
  have e1 : c :: (r ++ 10 :: m) = (c :: r) ++ 10 :: m := rfl
  have hr : rl (c :: (r ++ 10 :: m)) = rl (c :: r) := by rw [e1, rl_nl5]
  have hr2 : rl (r ++ 10 :: m) = rl r := rl_nl5 r m
  have hle := rl_le (c :: r)
  have hle2 := rl_le r
  cases a : sml c with
  | true => rw [tok_small a] at h ⊢; rw [hr, e1, take_app_le _ _ _ hle]; exact h
  | false =>
    cases b : grt c with
    | true => rw [tok_great a b] at h ⊢; rw [hr, e1, take_app_le _ _ _ hle]; exact h
    | false =>
      by_cases q : c = 45
      · rw [tok_minus a b q] at h ⊢
        rw [hr2, e1, ← h]
        exact numt_congr (take_app_le _ _ _ (by simp only [List.length_cons]; omega))
      · cases d : dig c with
        | true =>
          rw [tok_dig a b q d] at h ⊢
          rw [hr, e1, ← h]
          exact numt_congr (take_app_le _ _ _ hle)
        | false =>
          by_cases q2 : c = 34
          · rw [tok_quote a b q d q2] at h ⊢
            have hl := (qd_len (r.length + 1) r 1 []).1 _ _ _ _ h
            exact qd_ok _ _ _ _ _ _ _ _ h _ _ (by omega) (take_app_le _ _ _ (by omega))
          · rw [tok_sign a b q d q2] at h ⊢
            rw [sgt_nl5]; exact h
/-- Behind a text that is cut well, the cutting goes on. -/
theorem ct_nl5 : ∀ (f : Nat) (l m : List Int) (off : Nat) (acc T : List Tk), l.length < f → ct f l off acc = (T, 0, 0) → ∀ f', (l ++ 10 :: m).length < f' → ∃ g, m.length < g ∧ ct f' (l ++ 10 :: m) off acc = ct g m (off + l.length + 1) T
  | 0, _, _, _, _, _, h, _, _, _ => by omega
  | f + 1, [], m, off, acc, T, _, h, f', hf => by
    simp only [List.nil_append, List.length_cons] at hf
    obtain ⟨f', rfl⟩ : ∃ g, f' = g + 1 := ⟨f' - 1, by omega⟩
    rw [ct_end] at h
    refine ⟨f', by omega, ?_⟩
    rw [List.nil_append, ct_cons, if_pos (by decide), (Prod.mk.inj h).1]
    rfl
  | f + 1, c :: r, m, off, acc, T, hl, h, f', hf => by
    simp only [List.length_cons] at hl
    simp only [List.cons_append, List.length_cons, List.length_append] at hf
    obtain ⟨f', rfl⟩ : ∃ g, f' = g + 1 := ⟨f' - 1, by omega⟩
    rw [ct_cons] at h
    rw [List.cons_append, ct_cons]
    by_cases q1 : c = 32 ∨ c = 9 ∨ c = 10 ∨ c = 13
    · rw [if_pos q1] at h ⊢
      obtain ⟨g, g1, g2⟩ := ct_nl5 f r m (off + 1) acc T (by omega) h f' (by simp only [List.length_append, List.length_cons]; omega)
      refine ⟨g, g1, ?_⟩
      rw [g2]
      congr 1
      simp only [List.length_cons]; omega
    · rw [if_neg q1] at h ⊢
      by_cases q2 : c = 37
      · rw [if_pos q2] at h ⊢
        have hle := le_le (c :: r)
        have hle1 : le_ (c :: r) = le_ r + 1 := by rw [le_cons, if_neg (by omega)]
        rw [← List.cons_append, le_nl5]
        obtain ⟨e, he'⟩ : ∃ e, le_ (c :: r) = e := ⟨_, rfl⟩
        rw [he'] at h hle hle1 ⊢
        simp only [List.length_cons] at hle
        have hdl : ((c :: r).drop e).length = r.length + 1 - e := by simp
        rw [drop_app_le _ _ _ (by simp only [List.length_cons]; exact hle)]
        obtain ⟨g, g1, g2⟩ := ct_nl5 f ((c :: r).drop e) m (off + e) acc T (by omega) h f' (by simp only [List.length_append, List.length_cons, hdl]; omega)
        refine ⟨g, g1, ?_⟩
        rw [g2, hdl]
        congr 1
        simp only [List.length_cons]; omega
      · rw [if_neg q2] at h ⊢
        cases et : tok (c :: r) with
        | bad e o =>
          rw [et] at h
          exact absurd (Prod.mk.inj (Prod.mk.inj h).2).1 ((tok_len c r).2 e o et)
        | ok k x n len =>
          have htl := (tok_len c r).1 k x n len et
          rw [et] at h
          rw [tok_nl5 et]
          have hdl : ((c :: r).drop len).length = r.length + 1 - len := by simp
          show ∃ g, _ ∧ ct f' ((c :: (r ++ 10 :: m)).drop len) (off + len) (acc ++ [⟨k, ofL x, n, off, (off + len : Nat)⟩]) = _
          rw [← List.cons_append, drop_app_le _ _ _ (by simp only [List.length_cons]; omega)]
          obtain ⟨g, g1, g2⟩ := ct_nl5 f ((c :: r).drop len) m (off + len) _ T (by omega) h f' (by simp only [List.length_append, List.length_cons, hdl]; omega)
          refine ⟨g, g1, ?_⟩
          rw [g2, hdl]
          congr 1
          simp only [List.length_cons]; omega
/-- Further on the tokens are the same, further on. -/
theorem ct_sh5 (D : Nat) (a0 : List Tk) : ∀ (f f' : Nat) (l : List Int) (off : Nat) (acc T : List Tk), l.length < f → l.length < f' → ct f l off acc = (T, 0, 0) → ct f' l (off + D) (a0 ++ acc.map (shT D)) = (a0 ++ T.map (shT D), 0, 0)
  | 0, _, _, _, _, _, h, _, _ => by omega
  | _, 0, _, _, _, _, _, h, _ => by omega
  | f + 1, f' + 1, [], off, acc, T, _, _, h => by
    rw [ct_end] at h ⊢
    rw [(Prod.mk.inj h).1]
  | f + 1, f' + 1, c :: r, off, acc, T, hl, hl', h => by
    simp only [List.length_cons] at hl hl'
    rw [ct_cons] at h ⊢
    by_cases q1 : c = 32 ∨ c = 9 ∨ c = 10 ∨ c = 13
    · rw [if_pos q1] at h ⊢
      rw [show off + D + 1 = off + 1 + D by omega]
      exact ct_sh5 D a0 f f' r (off + 1) acc T (by omega) (by omega) h
    · rw [if_neg q1] at h ⊢
      by_cases q2 : c = 37
      · rw [if_pos q2] at h ⊢
        have hle1 : le_ (c :: r) = le_ r + 1 := by rw [le_cons, if_neg (by omega)]
        obtain ⟨e, he'⟩ : ∃ e, le_ (c :: r) = e := ⟨_, rfl⟩
        rw [he'] at h hle1 ⊢
        have hdl : ((c :: r).drop e).length = r.length + 1 - e := by simp
        rw [show off + D + e = off + e + D by omega]
        exact ct_sh5 D a0 f f' _ (off + e) acc T (by omega) (by omega) h
      · rw [if_neg q2] at h ⊢
        cases et : tok (c :: r) with
        | bad e o =>
          rw [et] at h
          exact absurd (Prod.mk.inj (Prod.mk.inj h).2).1 ((tok_len c r).2 e o et)
        | ok k x n len =>
          have htl := (tok_len c r).1 k x n len et
          rw [et] at h
          have hdl : ((c :: r).drop len).length = r.length + 1 - len := by simp
          have := ct_sh5 D a0 f f' ((c :: r).drop len) (off + len) (acc ++ [⟨k, ofL x, n, off, (off + len : Nat)⟩]) T (by omega) (by omega) h
          rw [List.map_append, ← List.append_assoc] at this
          show ct f' ((c :: r).drop len) (off + D + len) (a0 ++ acc.map (shT D) ++ [⟨k, ofL x, n, ((off + D : Nat) : Int), ((off + D + len : Nat) : Int)⟩]) = _
          rw [show off + D + len = off + len + D by omega]
          have e3 : ([⟨k, ofL x, n, (off : Int), ((off + len : Nat) : Int)⟩] : List Tk).map (shT D) = [⟨k, ofL x, n, ((off + D : Nat) : Int), ((off + len + D : Nat) : Int)⟩] := by
            show [(⟨k, ofL x, n, (off : Int) + (D : Int), ((off + len : Nat) : Int) + (D : Int)⟩ : Tk)] = _
            rw [← Int.natCast_add, ← Int.natCast_add]
          rw [e3] at this
          exact this
theorem bl_appJ5 (s t : ByteArray) : blK (s ++ t) = blK s ++ blK t := by
  unfold blK
  rw [← List.map_append]
  have : (s ++ t).data = s.data ++ t.data := ByteArray.data_append
  rw [this, Array.toList_append]
/-- Two texts with a line's end between them. -/
def two_ (a b : ByteArray) : ByteArray := a ++ ⟨#[10]⟩ ++ b
theorem two_size (a b : ByteArray) : (two_ a b).size = b.size + (a.size + 1) := by
  unfold two_
  rw [ByteArray.size_append, ByteArray.size_append]
  show a.size + 1 + b.size = _
  omega
theorem cut_two5 {a b : ByteArray} {most : Int} {A B : List Tk} (hm : ((two_ a b).size : Int) ≤ most) (ha : cutL (blK a) most = (A, 0, 0)) (hb : cutL (blK b) most = (B, 0, 0)) : cutL (blK (two_ a b)) most = (A ++ B.map (shT (a.size + 1)), 0, 0) := by
  have hs := two_size a b
  have e0 : blK (two_ a b) = blK a ++ 10 :: blK b := by unfold two_; rw [bl_appJ5, bl_appJ5, List.append_assoc]; rfl
  unfold cutL at ha hb ⊢
  rw [bl_len] at ha hb ⊢
  rw [if_neg (by omega)] at ha hb ⊢
  rw [e0]
  obtain ⟨g, g1, g2⟩ := ct_nl5 _ (blK a) (blK b) 0 [] A (by rw [bl_len]; omega) ha ((two_ a b).size + 1) (by rw [← e0, bl_len]; omega)
  rw [g2, bl_len, Nat.zero_add]
  have := ct_sh5 (a.size + 1) A _ g (blK b) 0 [] B (by rw [bl_len]; omega) g1 hb
  rw [List.map_nil, List.append_nil, Nat.zero_add] at this
  exact this
end Go.Proofs.YtnikmcmkbjjcdaaGreatDoor
/-
  syntax: how great tokens can be; what is caught.
-/
namespace Go.Proofs.YtnikmcmkbjjcdaaGreatDoor
open Go.RowKit

theorem qd_x : ∀ (f : Nat) (r : List Int) (off : Nat) (acc : List Int) {k : Int} {x : List Int} {n : Int} {len : Nat}, qd f r off acc = .ok k x n len → x.length ≤ acc.length + r.length
  | 0, r, off, acc, k, x, n, len, h => by cases h
  | f + 1, [], off, acc, k, x, n, len, h => by cases h
  | f + 1, c :: r, off, acc, k, x, n, len, h => by
    unfold qd at h
    by_cases h1 : c = 34
    · rw [if_pos h1] at h
      cases h
      omega
    · rw [if_neg h1] at h
      by_cases h2 : c = 92
      · rw [if_pos h2] at h
        cases he : esc r with
        | none => rw [he] at h; cases h
        | some p =>
          obtain ⟨b, kk⟩ := p
          rw [he] at h
          have h3 := qd_x f (r.drop kk) (off + 1 + kk) (acc ++ [b]) h
          rw [List.length_append, List.length_singleton, List.length_drop] at h3
          rw [List.length_cons]
          omega
      · rw [if_neg h2] at h
        by_cases h3 : c < 32 ∨ c = 127
        · rw [if_pos h3] at h; cases h
        · rw [if_neg h3] at h
          have h4 := qd_x f r (off + 1) (acc ++ [c]) h
          rw [List.length_append, List.length_singleton] at h4
          rw [List.length_cons]
          omega
theorem tok_x {l : List Int} {k : Int} {x : List Int} {n : Int} {len : Nat} (h : tok l = .ok k x n len) : x.length ≤ l.length := by
  cases l with
  | nil => cases h
  | cons c r =>
    simp only [tok] at h
    have ht : ((c :: r).take (rl (c :: r))).length ≤ (c :: r).length := by rw [List.length_take]; exact Nat.min_le_right _ _
    have hn : ∀ (m : Nat) (l' : List Int), numt m l' = .ok k x n len → x.length ≤ (c :: r).length := fun m l' h => by
      unfold numt at h
      cases hv : num (l'.take m) with
      | none => rw [hv] at h; cases h
      | some v => rw [hv] at h; cases h; exact Nat.zero_le _
    have hs : ∀ m, sgF (c :: r) m = .ok k x n len → x.length ≤ (c :: r).length := fun m => by
      induction m with
      | zero => intro h; cases h
      | succ m ih =>
        intro h
        unfold sgF at h
        split at h
        · exact ih h
        · cases h; exact Nat.zero_le _
    repeat' split at h
    · cases h; exact Nat.zero_le _
    · cases h; exact ht
    · cases h; exact ht
    · exact hn _ _ h
    · exact hn _ _ h
    · have := qd_x _ _ _ _ h
      rw [List.length_nil] at this
      rw [List.length_cons]
      omega
    · exact hs _ h
theorem ofL_sz (x : List Int) : (ofL x).size = x.length := by
  unfold ofL
  simp [ByteArray.size, i2b]
theorem ct_small : ∀ (f : Nat) (l : List Int) (off : Nat) (acc : List Tk) (M : Nat), l.length ≤ M → (∀ t ∈ acc, t.x.size ≤ M) → (ct f l off acc).1.length ≤ acc.length + l.length ∧ ∀ t ∈ (ct f l off acc).1, t.x.size ≤ M
  | 0, l, off, acc, M, hl, ha => ⟨Nat.le_add_right _ _, ha⟩
  | f + 1, [], off, acc, M, hl, ha => ⟨Nat.le_add_right _ _, ha⟩
  | f + 1, c :: r, off, acc, M, hl, ha => by
    rw [List.length_cons] at hl
    unfold ct
    by_cases h1 : c = 32 ∨ c = 9 ∨ c = 10 ∨ c = 13
    · rw [if_pos h1]
      have := ct_small f r (off + 1) acc M (by omega) ha
      exact ⟨by rw [List.length_cons]; omega, this.2⟩
    · rw [if_neg h1]
      by_cases h2 : c = 37
      · rw [if_pos h2]
        have := ct_small f ((c :: r).drop (le_ (c :: r))) (off + le_ (c :: r)) acc M (by rw [List.length_drop, List.length_cons]; omega) ha
        rw [List.length_drop] at this
        exact ⟨by omega, this.2⟩
      · rw [if_neg h2]
        cases ht : tok (c :: r) with
        | bad e o => exact ⟨Nat.zero_le _, fun t ht => by cases ht⟩
        | ok k x n len =>
          have hx := tok_x ht
          obtain ⟨hlen, -⟩ := (tok_len c r).1 k x n len ht
          have := ct_small f ((c :: r).drop len) (off + len) (acc ++ [⟨k, ofL x, n, off, (off + len : Nat)⟩]) M (by rw [List.length_drop, List.length_cons]; omega) (fun t hm => by
            rcases List.mem_append.1 hm with hm | hm
            · exact ha t hm
            · rw [List.mem_singleton.1 hm]
              show (ofL x).size ≤ M
              rw [ofL_sz]
              rw [List.length_cons] at hx
              omega)
          rw [List.length_drop, List.length_append, List.length_singleton, List.length_cons] at this
          exact ⟨by rw [List.length_cons]; dsimp only; omega, this.2⟩
theorem cut_small {s : ByteArray} {most : Int} (hm : most ≤ 2000000) (h0 : (cutL (blK s) most).2.1 = 0) : Tok5 (cutL (blK s) most).1 s.size := by
  unfold cutL at h0 ⊢
  by_cases hl : most < ((blK s).length : Int)
  · rw [if_pos hl] at h0
    exact absurd h0 (by decide)
  · rw [if_neg hl]
    rw [bl_len] at hl ⊢
    have h1 := ct_small (s.size + 1) (blK s) 0 [] 2000000 (by rw [bl_len]; omega) (fun t h => by cases h)
    rw [bl_len, List.length_nil] at h1
    exact ⟨by omega, by omega, h1.2⟩
theorem kcs_get5 : ∀ {l : List Tk} {j : Nat} {t : Tk}, l[j]? = some t → (kcs l)[j * 5]? = some (.int .i64 t.k) ∧ (kcs l)[j * 5 + 1]? = some (.string t.x) ∧ (kcs l)[j * 5 + 2]? = some (.int .i64 t.n) ∧ (kcs l)[j * 5 + 3]? = some (.int .i64 t.a) ∧ (kcs l)[j * 5 + 4]? = some (.int .i64 t.e)
  | [], j, t, h => by simp at h
  | y :: l, 0, t, h => by
    simp only [List.getElem?_cons_zero, Option.some.injEq] at h
    subst h
    exact ⟨rfl, rfl, rfl, rfl, rfl⟩
  | y :: l, j + 1, t, h => by
    rw [List.getElem?_cons_succ] at h
    have ih := kcs_get5 h
    rw [show (j + 1) * 5 = j * 5 + 5 by omega]
    exact ih
theorem tz_of_own {w : World} {base : Nat} {v : Value} {T : List Tk} (h : OwnK w base v T) : Tz (fun b => base ≤ b) w v T := by
  obtain ⟨a, cap, rfl, -⟩ := row7_form h
  refine ⟨a, cap, rfl, ?_⟩
  cases T with
  | nil => exact Or.inl rfl
  | cons t T =>
    obtain ⟨g, rfl, hb, hg, -, -⟩ := row7_at h (kcs_get5 (j := 0) rfl).1
    refine Or.inr ⟨g, rfl, hg, hb, fun i u hu => ?_⟩
    obtain ⟨c0, c1, c2, c3, c4⟩ := kcs_get5 hu
    have e0 := row5_cell h c0
    have e1 := row5_cell h c1
    have e2 := row5_cell h c2
    have e3 := row5_cell h c3
    have e4 := row5_cell h c4
    rw [Nat.zero_add] at e0 e1 e2 e3 e4
    exact ⟨e0, e1, e2, e3, e4⟩
theorem run_assert5 (w : World) (v : Value) (x : TypeId) : (Instr.typeAssert (.iface 26 v) x 26 false).run Tryz.prog w = .ok v w := by
  simp [Instr.typeAssert, run_underlying Tryz.underlying26]
theorem catchC_panic (g : Nat) (c a : Int) (older : List PanicEntry) (w : World) (hb : ∃ x y, Bk w g #[x, y] 26) :
    CallsD Tryz.prog 48 #[.pointer (some ⟨g, 0, none⟩)] (.panicking (pF (c, a) :: older)) w fun e u' w' =>
      e = .returned (.tuple #[]) ∧ u' = .panicking ({ v := .iface 26 (.agg #[.int .i64 c, .int .i64 a]), recovered := true } :: older) ∧ w' = (w.setCell ⟨g, 0, none⟩ (.int .i64 c)).setCell ⟨g, 1, none⟩ (.int .i64 a) := by
  obtain ⟨x, y, hb⟩ := hb
  have c0 := hb.cell (i := 0) rfl
  have c1 := hb.cell (i := 1) rfl
  have f0 := hb.froz 0
  have f1 := hb.froz 1
  have hl := hb.lt
  refine callsD_of_wpS Tryz.func48 rfl fun c₀ cs hu => ?_
  unfold pF at hu
  apply wpS_seq
  apply wpS_region
  simp [wpOpsS, go_sem, recoverD, hu, Tryz.ntmps48, Exit.thenS]
  have hta := run_assert5
  refine wpS_of_wp ?_
  change Code.wp _ _ _ { tmps := #[.pointer (some ⟨g, 0, none⟩), .iface 26 (.agg #[.int .i64 c, .int .i64 a]), .iface 26 (.agg #[.int .i64 c, .int .i64 a]), undef, undef, undef, undef], defers := [] } w
  go_wp2
  exact ⟨rfl, _, rfl, _, by simp [results, Tryz.results48], rfl, rfl, rfl⟩
theorem catchC_idle (p : Addr) (w : World) :
    CallsD Tryz.prog 48 #[.pointer (some p)] .returning w fun e u' w' => e = .returned (.tuple #[]) ∧ u' = .returning ∧ w' = w := by
  refine callsD_of_wpS Tryz.func48 rfl fun c₀ cs hu => ?_
  apply wpS_seq
  apply wpS_region
  simp [wpOpsS, go_sem, recoverD, hu, Tryz.ntmps48, Exit.thenS]
  refine wpS_of_wp ?_
  change Code.wp _ _ _ { tmps := #[.pointer (some p), .nilIface, .nilIface, undef, undef, undef, undef], defers := [] } w
  go_wp2
  exact ⟨rfl, .returning, by rw [← hu], _, by simp [results, Tryz.results48], rfl, rfl, rfl⟩
end Go.Proofs.YtnikmcmkbjjcdaaGreatDoor
/-
  syntax: read of clauses; Program.
-/
namespace Go.Proofs.YtnikmcmkbjjcdaaGreatDoor
open Go.RowKit
attribute [local go_sem ↓] Go.wp_at_zero Go.wp_at_succ

/-- What a text says as a program. -/
def pg5 (s : ByteArray) (most : Int) : Except (Int × Int) (List Ck) := if (cutL (blK s) most).2.1 = 0 then pr5 (cutL (blK s) most).1 s.size ((cutL (blK s) most).1.length + 1) [] 0 else .error ((cutL (blK s) most).2.1, (cutL (blK s) most).2.2)
def ReP (w : World) (R : Except (Int × Int) (List Ck)) (e : Ending) (w' : World) : Prop :=
  Below w.heap.size w w' ∧ ∃ v c a, e = .returned (.tuple #[v, .agg #[.int .i64 c, .int .i64 a]]) ∧ match R with
    | .error f => v = .slice none 0 0 ∧ c = f.1 ∧ a = f.2
    | .ok ks => c = 0 ∧ a = 0 ∧ ∃ l, l.map Cm.key = ks ∧ RL (fun b => w.heap.size ≤ b) w' v l
theorem PB.new {w : World} {base : Nat} {tv : Value} {T : List Tk} {L : Nat} (h : OwnK w base tv T) (hok : Tok5 T L) (ho : OpsOk w) : PB w.heap.size (w.heap.size + 1) tv T L (w.alloc (.cells #[tv, .int .i64 0, .int .i64 (L : Int), .int .i64 0, .map none, .int .i64 0] 110)) 0 := by
  have hz : (w.alloc (.cells #[tv, .int .i64 0, .int .i64 (L : Int), .int .i64 0, .map none, .int .i64 0] 110)).heap.size = w.heap.size + 1 := by simp
  have hb := below1 w (.cells #[tv, .int .i64 0, .int .i64 (L : Int), .int .i64 0, .map none, .int .i64 0] 110)
  have hl := ho.lt
  refine ⟨⟨none, 0, Bk.new w _ _⟩, ?_, Nat.zero_le _, Nat.lt_succ_self _, by omega, hok, ho.fr (P := fun _ => False) (Fr.of hb) (fun h => h), by omega, by omega⟩
  exact ((tz_of_own h).mono (G := fun b => b ≠ w.heap.size ∧ b < w.heap.size + 1) fun b hb _ => ⟨by omega, by omega⟩).fr (P := fun _ => False) (Fr.of hb) fun _ _ _ h => h
theorem PrP.err {g : Nat} {w : World} {R : Except (Int × Int) (List Ck)} {f : Int × Int} {fn : Nat} {args : Array Value} (h : Calls Tryz.prog fn args w (PrP g w R)) (hr : R = .error f) : Calls Tryz.prog fn args w fun e w' => e = .panicked [pF f] ∧ Fr (fun b => b = g) w w' := by
  subst hr
  exact h.mono fun e w' ⟨h1, h2⟩ => ⟨h2, h1⟩
theorem PrP.ok {g : Nat} {w : World} {R : Except (Int × Int) (List Ck)} {ks : List Ck} {fn : Nat} {args : Array Value} (h : Calls Tryz.prog fn args w (PrP g w R)) (hr : R = .ok ks) : Calls Tryz.prog fn args w fun e w' => ∃ v l, e = .returned v ∧ l.map Cm.key = ks ∧ RL (fun b => w.heap.size ≤ b) w' v l ∧ Fr (fun b => b = g) w w' := by
  subst hr
  exact h.mono fun e w' ⟨h1, v, l, h2, h3, h4⟩ => ⟨v, l, h2, h3, h4, h1⟩
set_option maxRecDepth 20000 in
set_option maxHeartbeats 4000000 in
theorem readC_any (s : ByteArray) (most : Int) (hs : s.size ≤ 9000000) (hm : most ≤ 2000000) (w : World) (hE : EnvOk w) (hO : OpsOk w) :
    Calls Tryz.prog 28 #[.string s, .int .i64 most, .func (.func 29) #[] #[]] w (ReP w (pg5 s most)) := by
  have hmf : ∀ (fn : Fn) (first cap : Array Value) (w : World), (Instr.makeFunc fn first cap).run Tryz.prog w = .ok (.func fn first cap) w := fun _ _ _ _ => rfl
  have HB0 := hm7 (below1 w (.cells #[.int .i64 0, .int .i64 0] 26))
  have HR0 := hm7 (Bk.new w #[.int .i64 0, .int .i64 0] 26)
  have HCU := hm7 (cut_any s most hs _ (hE.later HB0.out))
  have HO0 := hm7 (hO.fr (P := fun _ => False) (Fr.of HB0.out) fun h => h)
  obtain ⟨Y0, hY0⟩ : ∃ Y0, w.alloc (.cells #[.int .i64 0, .int .i64 0] 26) = Y0 := ⟨_, rfl⟩
  rw [hY0] at HB0 HR0 HCU HO0
  have HY0 := hm7 hY0
  obtain ⟨q, hq⟩ : ∃ q, w.heap.size = q := ⟨_, rfl⟩
  rw [hq] at HR0
  have HQ := hm7 hq
  have HQW : Hid (w.heap.size ≤ q) := by show _ ≤ _; rw [hq]; exact Nat.le_refl _
  obtain ⟨R, hR⟩ : ∃ R, pg5 s most = R := ⟨_, rfl⟩
  rw [hR]
  unfold pg5 at hR
  have HTK : Hid ((cutL (blK s) most).2.1 = 0 → Tok5 (cutL (blK s) most).1 s.size) := cut_small hm
  obtain ⟨⟨T, c, a⟩, hcl⟩ : ∃ X, cutL (blK s) most = X := ⟨_, rfl⟩
  rw [hcl] at HCU HTK hR
  dsimp only at HTK hR
  have HGQ : Hid (1 ≠ q) := fun e => by have := hO.lt; omega
  clear hY0 hq hcl hE hO
  go_enter_defers Tryz.func28, Tryz.ntmps28
  go_upto_region 1 with fail
  rw [HY0.out, HQ.out]
  clear HY0
  go_upto_region 2 with (go_at_call 13; refine HCU.out.mono ?_; rintro e W1 ⟨tv, rfl, hk, hb⟩; obtain ⟨ta, tc, htf, -⟩ := row7_form hk; generalize htn : List.length _ = tn at htf; subst htf; have HTN := hm7 htn; have HK1 := hm7 hk; have HR1 := hm7 (HR0.out.below hb); have HB1 := hm7 (HB0.out.trans (hb.mono HB0.out.size)); have HO1 := hm7 (HO0.out.fr (P := fun _ => False) (Fr.of hb) fun h => h); have r0 := HR1.out.cell (i := 0) rfl; have r1 := HR1.out.cell (i := 1) rfl; have f0 := HR1.out.froz 0; have f1 := HR1.out.froz 1; have hrl := HR1.out.lt; clear hk hb htn)
  have HR2 : Hid (Bk ((W1.setCell ⟨q, 0, none⟩ (.int .i64 c)).setCell ⟨q, 1, none⟩ (.int .i64 a)) q #[.int .i64 c, .int .i64 a] 26) := by
    have := (HR1.out.set 0 (.int .i64 c)).set 1 (.int .i64 a)
    show Bk _ _ _ _
    simpa using this
  have HFQ : Hid (Fr (fun b => b = q) W1 ((W1.setCell ⟨q, 0, none⟩ (.int .i64 c)).setCell ⟨q, 1, none⟩ (.int .i64 a))) := ((Fr.refl (fun b => b = q) _).set (Or.inl rfl)).set (Or.inl rfl)
  have HB2 : Hid (Below w.heap.size w ((W1.setCell ⟨q, 0, none⟩ (.int .i64 c)).setCell ⟨q, 1, none⟩ (.int .i64 a))) := (HB1.out.setCell (p := ⟨q, 0, none⟩) HQW.out _).setCell (p := ⟨q, 1, none⟩) HQW.out _
  clear r0 r1 f0 f1 hrl
  have HQY : Hid (q < Y0.heap.size) := HR0.out.lt
  have HK2 : Hid (OwnK ((W1.setCell ⟨q, 0, none⟩ (.int .i64 c)).setCell ⟨q, 1, none⟩ (.int .i64 a)) Y0.heap.size (.slice ta tn tc) T) := row7_fr HK1.out HFQ.out fun b hb e => by have := (World.ownsRow.lt HK1.out b hb).1; have := HQY.out; omega
  have HO2 : Hid (OpsOk ((W1.setCell ⟨q, 0, none⟩ (.int .i64 c)).setCell ⟨q, 1, none⟩ (.int .i64 a))) := HO1.out.fr HFQ.out HGQ.out
  revert HR2 HFQ HB2 HK2 HO2
  generalize (W1.setCell ⟨q, 0, none⟩ (.int .i64 c)).setCell ⟨q, 1, none⟩ (.int .i64 a) = W2
  intro HR2 HFQ HB2 HK2 HO2
  have c0 := HR2.out.cell (i := 0) rfl
  have c1 := HR2.out.cell (i := 1) rfl
  have f0 := HR2.out.froz 0
  have f1 := HR2.out.froz 1
  have hrl := HR2.out.lt
  by_cases hc : c = 0
  · subst hc
    rw [if_pos rfl] at hR
    have hsl : (s.size : Int) = (s.size : Int) := rfl
    have HPB := hm7 (PB.new HK2.out (HTK.out rfl) HO2.out)
    have HPR := hm7 (program5_any _ _ _ _ _ _ HPB.out)
    have HQ2 : Hid (q < W2.heap.size) := hrl
    have HB3 := hm7 (below1 W2 (.cells #[.slice ta tn tc, .int .i64 0, .int .i64 (s.size : Int), .int .i64 0, .map none, .int .i64 0] 110))
    clear hsl HPB HTK HK1 HR1 HK2 HFQ
    obtain ⟨gp, hgp⟩ : ∃ gp, W2.heap.size = gp := ⟨_, rfl⟩
    obtain ⟨sl, hsl⟩ : ∃ sl, s.size = sl := ⟨_, rfl⟩
    have HWG : Hid (w.heap.size ≤ W2.heap.size) := HB2.out.size
    cases hr : pr5 T s.size (T.length + 1) [] 0 with
    | error f =>
      rw [hr] at hR
      subst hR
      have HE := hm7 (PrP.err HPR.out hr)
      clear hr HPR hgp hsl
      go_wp2_with (go_at_call 29; refine HE.out.mono ?_; rintro e W4 ⟨rfl, hf⟩; have HR4 := hm7 ((HR2.out.below HB3.out).fr hf fun e => by have := HQ2.out; omega); have HB4 := hm7 (Fr.low ((Fr.of (P := fun b => w.heap.size ≤ b) (HB2.out.trans (HB3.out.mono HWG.out))).trans hf fun b _ e => by have := HWG.out; omega) (Nat.le_refl _)); clear hf c0 c1 f0 f1 hrl)
      refine leaves_cons (f := 48) (args := #[.pointer (some ⟨q, 0, none⟩)]) (by simp) (by simp [go_sem]) ?_
      refine (catchC_panic q f.1 f.2 [] _ ⟨_, _, HR4.out⟩).mono ?_
      rintro e u' w'' ⟨rfl, rfl, rfl⟩
      have HR5 : Hid (Bk ((W4.setCell ⟨q, 0, none⟩ (.int .i64 f.1)).setCell ⟨q, 1, none⟩ (.int .i64 f.2)) q #[.int .i64 f.1, .int .i64 f.2] 26) := by
        have := (HR4.out.set 0 (.int .i64 f.1)).set 1 (.int .i64 f.2)
        show Bk _ _ _ _
        simpa using this
      have z0 := HR5.out.cell (i := 0) rfl
      have z1 := HR5.out.cell (i := 1) rfl
      have HB5 : Hid (Below w.heap.size w ((W4.setCell ⟨q, 0, none⟩ (.int .i64 f.1)).setCell ⟨q, 1, none⟩ (.int .i64 f.2))) := (HB4.out.setCell (p := ⟨q, 0, none⟩) HQW.out _).setCell (p := ⟨q, 1, none⟩) HQW.out _
      simp [Leaves, settle, results, Tryz.results28, go_sem, z0, z1]
      exact ⟨HB5.out, _, f.1, f.2, rfl, rfl, rfl, rfl⟩
    | ok ks =>
      rw [hr] at hR
      subst hR
      have HE := hm7 (PrP.ok HPR.out hr)
      clear hr HPR hgp hsl
      go_wp2_with (go_at_call 29; refine HE.out.mono ?_; rintro e W4 ⟨v4, l, rfl, hk, hrl4, hf⟩; have HKS := hm7 hk; have HRL := hm7 hrl4; have HR4 := hm7 ((HR2.out.below HB3.out).fr hf fun e => by have := HQ2.out; omega); have HB4 := hm7 (Fr.low ((Fr.of (P := fun b => w.heap.size ≤ b) (HB2.out.trans (HB3.out.mono HWG.out))).trans hf fun b _ e => by have := HWG.out; omega) (Nat.le_refl _)); clear hf c0 c1 f0 f1 hrl hk hrl4; have r0 := HR4.out.cell (i := 0) rfl; have r1 := HR4.out.cell (i := 1) rfl; have f0 := HR4.out.froz 0; have f1 := HR4.out.froz 1; have hrl := HR4.out.lt)
      refine leaves_cons (f := 48) (args := #[.pointer (some ⟨q, 0, none⟩)]) (by simp) (by simp [go_sem]) ?_
      refine (catchC_idle ⟨q, 0, none⟩ _).mono ?_
      rintro e u' w'' ⟨rfl, rfl, rfl⟩
      have HR5 : Hid (Bk ((W4.setCell ⟨q, 0, none⟩ (.int .i64 0)).setCell ⟨q, 1, none⟩ (.int .i64 0)) q #[.int .i64 0, .int .i64 0] 26) := by
        have := (HR4.out.set 0 (.int .i64 0)).set 1 (.int .i64 0)
        show Bk _ _ _ _
        simpa using this
      have z0 := HR5.out.cell (i := 0) rfl
      have z1 := HR5.out.cell (i := 1) rfl
      have HB5 : Hid (Below w.heap.size w ((W4.setCell ⟨q, 0, none⟩ (.int .i64 0)).setCell ⟨q, 1, none⟩ (.int .i64 0))) := (HB4.out.setCell (p := ⟨q, 0, none⟩) HQW.out _).setCell (p := ⟨q, 1, none⟩) HQW.out _
      have HRL5 : Hid (RL (fun b => w.heap.size ≤ b) ((W4.setCell ⟨q, 0, none⟩ (.int .i64 0)).setCell ⟨q, 1, none⟩ (.int .i64 0)) v4 l) := ((HRL.out.fr (Q := fun b => b = q) (((Fr.refl (fun b => b = q) _).set (Or.inl rfl)).set (Or.inl rfl)) fun b hb e => by have := HB3.out.size; have := HQ2.out; omega)).mono fun b _ hb => Nat.le_trans HWG.out (Nat.le_trans HB3.out.size hb)
      simp [Leaves, settle, results, Tryz.results28, go_sem, z0, z1]
      exact ⟨HB5.out, _, 0, 0, rfl, rfl, rfl, l, HKS.out, HRL5.out⟩
  · have hc1 : (c == 0) = false := by simp [hc]
    have hc2 : (c != 0) = true := by simp [hc]
    rw [if_neg hc] at hR
    subst hR
    have HR5 : Hid (Bk ((W2.setCell ⟨q, 0, none⟩ (.int .i64 c)).setCell ⟨q, 1, none⟩ (.int .i64 a)) q #[.int .i64 c, .int .i64 a] 26) := by
      have := (HR2.out.set 0 (.int .i64 c)).set 1 (.int .i64 a)
      show Bk _ _ _ _
      simpa using this
    have HR6 := hm7 (HR5.out.below (below_drewN (Below.refl _ _) 1))
    have HB5 : Hid (Below w.heap.size w ((W2.setCell ⟨q, 0, none⟩ (.int .i64 c)).setCell ⟨q, 1, none⟩ (.int .i64 a)).drew) := ((HB2.out.setCell (p := ⟨q, 0, none⟩) HQW.out _).setCell (p := ⟨q, 1, none⟩) HQW.out _).drew
    go_upto_region 3 with fail
    go_region
    go_wp2
    clear c0 c1 f0 f1 hrl
    have z0 := HR6.out.cell (i := 0) rfl
    have z1 := HR6.out.cell (i := 1) rfl
    have z2 : ((W2.setCell ⟨q, 0, none⟩ (.int .i64 c)).setCell ⟨q, 1, none⟩ (.int .i64 a)).drew.cell? ⟨q, 0, none⟩ = some (.int .i64 c) := z0
    have z3 : ((W2.setCell ⟨q, 0, none⟩ (.int .i64 c)).setCell ⟨q, 1, none⟩ (.int .i64 a)).drew.cell? ⟨q, 1, none⟩ = some (.int .i64 a) := z1
    show Leaves _ _ _ _ _ _ _
    simp [Leaves, results, Tryz.results28, go_sem, z2, z3]
    exact ⟨HB5.out, _, c, a, rfl, rfl, rfl, rfl⟩
end Go.Proofs.YtnikmcmkbjjcdaaGreatDoor
/-
  PLAIN: what is read of two texts laid together.
-/
namespace Go.Proofs.YtnikmcmkbjjcdaaGreatDoor
open Go.RowKit

theorem pg5_cut {s : ByteArray} {most : Int} {T : List Tk} (h : cutL (blK s) most = (T, 0, 0)) : pg5 s most = pp5 T s.size [] 0 := by
  unfold pg5 pp5
  rw [h]
  rfl
theorem two_back {a b : ByteArray} {most : Int} {A B : List Tk} (hm : ((two_ a b).size : Int) ≤ most) (ha : cutL (blK a) most = (A, 0, 0)) (hb : cutL (blK b) most = (B, 0, 0)) {ks : List Ck} (h : pg5 a most = .ok ks) : pg5 (two_ a b) most = acE ks (shE (a.size + 1) (pg5 b most)) := by
  have hc := cut_two5 hm ha hb
  have h1 := front5 (A := A) (T := A ++ B.map (shT (a.size + 1))) ⟨_, rfl⟩ a.size (two_ a b).size A.length [] 0 (Nat.zero_le _) rfl
  rw [pg5_cut ha] at h
  rw [h] at h1
  have h2 := back5 (A := A) (B := B) (T := A ++ B.map (shT (a.size + 1))) (D := a.size + 1) ⟨rfl⟩ b.size B.length ks [] 0 (Nat.zero_le _) rfl
  rw [List.append_nil, Nat.zero_add, ← two_size] at h2
  rw [pg5_cut hc, pg5_cut hb]
  exact h1.trans h2
end Go.Proofs.YtnikmcmkbjjcdaaGreatDoor

import Derived.Test.YtdfdnjkeiddfjaaDoorK18
/-
  gap, bare; the places of tokens, plain.
-/
namespace Go.Proofs.YtdfdnjkeiddfjaaDoor
open Go.RowKit

/-- Blanks and remarks: whether one is inside of a remark at the end; none, if something else stands there. -/
def gpS : Bool → List Int → Option Bool
  | b, [] => some b
  | true, c :: r => gpS (!decide (c = 10)) r
  | false, c :: r => if c = 37 then gpS true r else if c = 32 ∨ c = 9 ∨ c = 10 ∨ c = 13 then gpS false r else none
def gpB (l : List Int) (e : Bool) : Bool := match gpS false l with
  | none => false
  | some b => !b || e
theorem gpS_true (c : Int) (r : List Int) : gpS true (c :: r) = gpS (!decide (c = 10)) r := rfl
theorem gpS_false (c : Int) (r : List Int) : gpS false (c :: r) = if c = 37 then gpS true r else if c = 32 ∨ c = 9 ∨ c = 10 ∨ c = 13 then gpS false r else none := rfl
theorem gpS_app : ∀ (b : Bool) (u v : List Int), gpS b (u ++ v) = (gpS b u).bind fun b' => gpS b' v
  | _, [], _ => rfl
  | true, c :: u, v => by rw [List.cons_append, gpS_true, gpS_true, gpS_app]
  | false, c :: u, v => by
    rw [List.cons_append, gpS_false, gpS_false]
    by_cases q1 : c = 37
    · rw [if_pos q1, if_pos q1, gpS_app]
    · rw [if_neg q1, if_neg q1]
      by_cases q2 : c = 32 ∨ c = 9 ∨ c = 10 ∨ c = 13
      · rw [if_pos q2, if_pos q2, gpS_app]
      · rw [if_neg q2, if_neg q2]; rfl
theorem gpS_rem : ∀ (r : List Int), gpS true (r.take (le_ r)) = some true
  | [] => rfl
  | c :: r => by
    rw [le_cons]
    by_cases q : c = 10
    · rw [if_pos q]; rfl
    · rw [if_neg q, List.take_succ_cons, gpS_true, decide_eq_false q]
      exact gpS_rem r
theorem le_next : ∀ (r : List Int), r.drop (le_ r) = [] ∨ ∃ y, r.drop (le_ r) = 10 :: y
  | [] => Or.inl rfl
  | c :: r => by
    rw [le_cons]
    by_cases q : c = 10
    · rw [if_pos q]; exact Or.inr ⟨r, by rw [q]; rfl⟩
    · rw [if_neg q, List.drop_succ_cons]; exact le_next r
/-- Where tokens lie in a text, from a place on. -/
def Pl (l : List Int) : Nat → List Tk → Prop
  | off, [] => off ≤ l.length ∧ gpB (l.drop off) true = true
  | off, t :: T => ∃ a len : Nat, t.a = (a : Int) ∧ t.e = ((a + len : Nat) : Int) ∧ off ≤ a ∧ 1 ≤ len ∧ a + len ≤ l.length ∧ gpB ((l.drop off).take (a - off)) false = true ∧
      (∀ f, len < f → ct f ((l.drop a).take len) 0 [] = ([⟨t.k, t.x, t.n, 0, (len : Int)⟩], 0, 0)) ∧ Pl l (a + len) T
theorem ct_places (l : List Int) : ∀ (f off off0 : Nat) (acc : List Tk) (b : Bool), (l.drop off).length < f → off0 ≤ off → off ≤ l.length →
    gpS false ((l.drop off0).take (off - off0)) = some b → (b = true → l.drop off = [] ∨ ∃ y, l.drop off = 10 :: y) →
    (ct f (l.drop off) off acc).2.1 = 0 → ∃ T, (ct f (l.drop off) off acc).1 = acc ++ T ∧ Pl l off0 T
  | 0, _, _, _, _, h, _, _, _, _, _ => by omega
  | f + 1, off, off0, acc, b, hf, h0, hl, hg, hb, he => by
    have seg : ∀ n, off + n ≤ l.length → (l.drop off0).take (off + n - off0) = (l.drop off0).take (off - off0) ++ (l.drop off).take n := fun n hn => by
      have e1 : l.drop off = (l.drop off0).drop (off - off0) := by rw [List.drop_drop]; congr 1; omega
      rw [e1, show off + n - off0 = (off - off0) + n by omega, List.take_add]
    cases hd : l.drop off with
    | nil =>
      rw [hd] at he
      refine ⟨[], by simp [ct_end], by omega, ?_⟩
      have hle : l.length ≤ off := by
        have := congrArg List.length hd
        rw [List.length_drop] at this; simp at this; omega
      have e2 : (l.drop off0).take (off - off0) = l.drop off0 := List.take_of_length_le (by rw [List.length_drop]; omega)
      rw [e2] at hg
      unfold gpB; rw [hg]; simp
    | cons c r =>
      rw [hd] at hf hb he
      simp only [List.length_cons] at hf
      have hlt : off < l.length := by
        have := congrArg List.length hd
        rw [List.length_drop] at this; simp at this; omega
      have hr : r = l.drop (off + 1) := by
        have := congrArg List.tail hd
        rw [List.tail_drop] at this; simpa using this.symm
      have hrl : r.length = l.length - (off + 1) := by rw [hr, List.length_drop]
      rw [ct_cons] at he ⊢
      by_cases q1 : c = 32 ∨ c = 9 ∨ c = 10 ∨ c = 13
      · rw [if_pos q1] at he ⊢
        rw [hr] at he ⊢
        refine ct_places l f (off + 1) off0 acc false (by rw [← hr]; omega) (by omega) (by omega) ?_ (fun h => by cases h) he
        rw [seg 1 (by omega), gpS_app, hg, hd, List.take_succ_cons, List.take_zero]
        show gpS b [c] = some false
        cases b with
        | true =>
          rcases hb rfl with h | ⟨y, h⟩
          · cases h
          · cases h; rfl
        | false => rw [gpS_false, if_neg (by omega), if_pos q1]; rfl
      · rw [if_neg q1] at he ⊢
        have hbf : b = false := by
          cases b with
          | false => rfl
          | true =>
            rcases hb rfl with h | ⟨y, h⟩
            · cases h
            · cases h; omega
        subst hbf
        by_cases q2 : c = 37
        · rw [if_pos q2] at he ⊢
          have hle := le_le (c :: r)
          have hle1 : le_ (c :: r) = le_ r + 1 := by rw [le_cons, if_neg (by omega)]
          simp only [List.length_cons] at hle
          have ed : (c :: r).drop (le_ (c :: r)) = l.drop (off + le_ (c :: r)) := by rw [← hd, List.drop_drop]
          rw [ed] at he ⊢
          refine ct_places l f (off + le_ (c :: r)) off0 acc true (by rw [List.length_drop]; omega) (by omega) (by omega) ?_ (fun _ => ?_) he
          · rw [seg _ (by omega), gpS_app, hg, hd]
            show gpS false ((c :: r).take (le_ (c :: r))) = some true
            rw [hle1, List.take_succ_cons, gpS_false, if_pos q2]
            exact gpS_rem r
          · rw [← ed]; exact le_next (c :: r)
        · rw [if_neg q2] at he ⊢
          cases et : tok (c :: r) with
          | bad e o =>
            rw [et] at he
            exact absurd he ((tok_len c r).2 e o et)
          | ok k x n len =>
            rw [et] at he
            have htl := (tok_len c r).1 k x n len et
            have ed : (c :: r).drop len = l.drop (off + len) := by rw [← hd, List.drop_drop]
            have he2 : (ct f (l.drop (off + len)) (off + len) (acc ++ [⟨k, ofL x, n, off, (off + len : Nat)⟩])).2.1 = 0 := by rw [← ed]; exact he
            obtain ⟨T, hT, hP⟩ := ct_places l f (off + len) (off + len) (acc ++ [⟨k, ofL x, n, off, (off + len : Nat)⟩]) false (by rw [List.length_drop]; omega) (Nat.le_refl _) (by omega) (by rw [Nat.sub_self]; rfl) (fun h => by cases h) he2
            refine ⟨⟨k, ofL x, n, off, (off + len : Nat)⟩ :: T, ?_, off, len, rfl, rfl, h0, htl.1, by omega, ?_, fun f' hf' => ?_, hP⟩
            · show (ct f ((c :: r).drop len) (off + len) (acc ++ [⟨k, ofL x, n, off, (off + len : Nat)⟩])).1 = _
              rw [ed, hT]; simp
            · unfold gpB; rw [hg]; rfl
            · obtain ⟨z, rfl⟩ : ∃ z, len = z + 1 := ⟨len - 1, by omega⟩
              obtain ⟨f', rfl⟩ : ∃ g, f' = g + 1 := ⟨f' - 1, by omega⟩
              obtain ⟨f', rfl⟩ : ∃ g, f' = g + 1 := ⟨f' - 1, by omega⟩
              rw [hd, List.take_succ_cons, ct_cons, if_neg q1, if_neg q2, tok_take et z (Nat.le_refl _)]
              have hz : (c :: r.take z).drop (z + 1) = [] := List.drop_eq_nil_of_le (by simp only [List.length_cons, List.length_take]; omega)
              show ct (f' + 1) ((c :: r.take z).drop (z + 1)) (0 + (z + 1)) ([] ++ [⟨k, ofL x, n, (0 : Nat), ((0 + (z + 1) : Nat) : Int)⟩]) = _
              rw [hz, ct_end]
              simp
end Go.Proofs.YtdfdnjkeiddfjaaDoor
/-
  The ways to write a text in quotes, plain; spelt.
-/
namespace Go.Proofs.YtdfdnjkeiddfjaaDoor
open Go.RowKit

def hxD (v : Int) : Int := if v < 10 then 48 + v else 55 + v
theorem hxD_all : ∀ m : Nat, (h : m < 16) → (((⟨#[48, 49, 50, 51, 52, 53, 54, 55, 56, 57, 65, 66, 67, 68, 69, 70]⟩ : ByteArray)[m]'h).toNat : Int) = hxD m := by decide
theorem run_index_hX (w : World) (k : IntKind) (i : Int) (h0 : 0 ≤ i) (h1 : i ≤ 15) :
    (Instr.index 9 (.string ⟨#[48, 49, 50, 51, 52, 53, 54, 55, 56, 57, 65, 66, 67, 68, 69, 70]⟩) (.int k i)).run Tryd.prog w = .ok (.int .u8 (hxD i)) w := by
  obtain ⟨n, rfl⟩ : ∃ n : Nat, i = n := ⟨i.toNat, by omega⟩
  have hn : n < 16 := by omega
  rw [run_index_string w 9 _ k _ Tryd.underlying9]
  have hs : (⟨#[48, 49, 50, 51, 52, 53, 54, 55, 56, 57, 65, 66, 67, 68, 69, 70]⟩ : ByteArray).size = 16 := rfl
  rw [dif_pos (by rw [hs]; omega)]
  have := hxD_all n hn
  simp only [Int.toNat_natCast]
  rw [this]
theorem hexv_hxd (v : Int) (h0 : 0 ≤ v) (h1 : v ≤ 15) : hexv (hxd v) = some v := by
  unfold hexv hxd
  by_cases q : v < 10
  · rw [if_pos q, if_pos (by omega)]; congr 1; omega
  · rw [if_neg q, if_neg (by omega), if_pos (by omega)]; congr 1; omega
theorem hexv_hxD (v : Int) (h0 : 0 ≤ v) (h1 : v ≤ 15) : hexv (hxD v) = some v := by
  unfold hexv hxD
  by_cases q : v < 10
  · rw [if_pos q, if_pos (by omega)]; congr 1; omega
  · rw [if_neg q, if_neg (by omega), if_neg (by omega), if_pos (by omega)]; congr 1; omega
theorem hxD_rng (v : Int) (h0 : 0 ≤ v) (h1 : v ≤ 15) : 0 ≤ hxD v ∧ hxD v ≤ 255 := by unfold hxD; split <;> omega
/-- One of the ways to write a byte in quotes. -/
def rep (c K : Int) : List Int :=
  if K < 2 ∧ (32 ≤ c ∧ ¬ c = 127 ∧ ¬ c = 34 ∧ ¬ c = 92) then [c]
  else if K < 2 ∧ (c = 34 ∨ c = 92) then [92, c]
  else if K < 2 ∧ c = 10 then [92, 110]
  else if K < 2 ∧ c = 9 then [92, 116]
  else if K = 3 then [92, 120, hxD (c / 16), hxD (c % 16)]
  else [92, 120, hxd (c / 16), hxd (c % 16)]
theorem qd_hex {f : Nat} {a b x y : Int} {r : List Int} {off : Nat} {acc : List Int} (ha : hexv a = some x) (hb : hexv b = some y) : qd (f + 1) (92 :: 120 :: a :: b :: r) off acc = qd f r (off + 4) (acc ++ [x * 16 + y]) := by
  rw [qd_cons, if_neg (by decide), if_pos rfl]
  have e : esc (120 :: a :: b :: r) = some (x * 16 + y, 3) := by
    rw [esc_cons, if_neg (by decide), if_neg (by decide), if_neg (by decide), if_pos rfl]
    simp [hex2, ha, hb]
  rw [e]
  rfl
theorem rep_step (c K : Int) (h0 : 0 ≤ c) (h1 : c ≤ 255) (f : Nat) (r : List Int) (off : Nat) (acc : List Int) : qd (f + 1) (rep c K ++ r) off acc = qd f r (off + (rep c K).length) (acc ++ [c]) := by
  unfold rep
  by_cases q1 : K < 2 ∧ (32 ≤ c ∧ ¬ c = 127 ∧ ¬ c = 34 ∧ ¬ c = 92)
  · rw [if_pos q1]
    show qd (f + 1) (c :: r) off acc = _
    rw [qd_cons, if_neg (by omega), if_neg (by omega), if_neg (by omega)]; rfl
  · rw [if_neg q1]
    by_cases q2 : K < 2 ∧ (c = 34 ∨ c = 92)
    · rw [if_pos q2]
      show qd (f + 1) (92 :: c :: r) off acc = _
      rw [qd_cons, if_neg (by decide), if_pos rfl, esc_cons, if_pos q2.2]; rfl
    · rw [if_neg q2]
      by_cases q3 : K < 2 ∧ c = 10
      · rw [if_pos q3]
        show qd (f + 1) (92 :: 110 :: r) off acc = _
        rw [qd_cons, if_neg (by decide), if_pos rfl, esc_cons, if_neg (by decide), if_pos rfl, q3.2]; rfl
      · rw [if_neg q3]
        by_cases q4 : K < 2 ∧ c = 9
        · rw [if_pos q4]
          show qd (f + 1) (92 :: 116 :: r) off acc = _
          rw [qd_cons, if_neg (by decide), if_pos rfl, esc_cons, if_neg (by decide), if_neg (by decide), if_pos rfl, q4.2]; rfl
        · rw [if_neg q4]
          have e : c / 16 * 16 + c % 16 = c := by omega
          by_cases q5 : K = 3
          · rw [if_pos q5]
            show qd (f + 1) (92 :: 120 :: hxD (c / 16) :: hxD (c % 16) :: r) off acc = _
            rw [qd_hex (hexv_hxD _ (by omega) (by omega)) (hexv_hxD _ (by omega) (by omega)), e]; rfl
          · rw [if_neg q5]
            show qd (f + 1) (92 :: 120 :: hxd (c / 16) :: hxd (c % 16) :: r) off acc = _
            rw [qd_hex (hexv_hxd _ (by omega) (by omega)) (hexv_hxd _ (by omega) (by omega)), e]; rfl
theorem rep_len (c K : Int) : 0 < (rep c K).length ∧ (rep c K).length ≤ 4 := by
  unfold rep
  repeat' split
  all_goals simp
theorem rep_byt (c K : Int) (h0 : 0 ≤ c) (h1 : c ≤ 255) : byt (rep c K) := by
  have a := hxd_rng (c / 16) (by omega) (by omega)
  have b := hxd_rng (c % 16) (by omega) (by omega)
  have a' := hxD_rng (c / 16) (by omega) (by omega)
  have b' := hxD_rng (c % 16) (by omega) (by omega)
  intro x hx
  unfold rep at hx
  repeat' split at hx
  all_goals (simp at hx; omega)
/-- A text's bytes, each in its way. -/
def rpl (K : Nat → Int) : Nat → List Int → List Int
  | _, [] => []
  | i, c :: r => rep c (K i) ++ rpl K (i + 1) r
theorem rpl_snoc (K : Nat → Int) : ∀ (l : List Int) (i : Nat) (c : Int), rpl K i (l ++ [c]) = rpl K i l ++ rep c (K (i + l.length))
  | [], i, c => by simp [rpl]
  | d :: l, i, c => by
    show rep d (K i) ++ rpl K (i + 1) (l ++ [c]) = (rep d (K i) ++ rpl K (i + 1) l) ++ _
    rw [rpl_snoc K l (i + 1) c, List.append_assoc, List.length_cons, show i + 1 + l.length = i + (l.length + 1) by omega]
theorem rpl_len (K : Nat → Int) : ∀ (l : List Int) (i : Nat), l.length ≤ (rpl K i l).length ∧ (rpl K i l).length ≤ 4 * l.length
  | [], _ => by simp [rpl]
  | c :: l, i => by
    have := rpl_len K l (i + 1)
    have := rep_len c (K i)
    simp only [rpl, List.length_append, List.length_cons]; omega
theorem rpl_byt (K : Nat → Int) : ∀ (l : List Int) (i : Nat), byt l → byt (rpl K i l)
  | [], _, _ => fun x hx => by simp [rpl] at hx
  | c :: l, i, h => fun x hx => by
    rcases List.mem_append.1 hx with hx | hx
    · have := h c (by simp); exact rep_byt c _ this.1 this.2 x hx
    · exact rpl_byt K l (i + 1) (fun y hy => h y (by simp [hy])) x hx
theorem qd_rpl (K : Nat → Int) : ∀ (l : List Int) (i f off : Nat) (acc : List Int), l.length < f → byt l → qd f (rpl K i l ++ [34]) off acc = .ok 3 (acc ++ l) 0 (off + (rpl K i l).length + 1)
  | [], i, f, off, acc, h, _ => by
    obtain ⟨f, rfl⟩ : ∃ g, f = g + 1 := ⟨f - 1, by simp at h; omega⟩
    show qd (f + 1) [34] off acc = _
    rw [qd_cons, if_pos rfl]; simp [rpl]
  | c :: l, i, f, off, acc, h, hb => by
    simp only [List.length_cons] at h
    obtain ⟨f, rfl⟩ : ∃ g, f = g + 1 := ⟨f - 1, by omega⟩
    have hc := hb c (by simp)
    show qd (f + 1) ((rep c (K i) ++ rpl K (i + 1) l) ++ [34]) off acc = _
    rw [List.append_assoc, rep_step c (K i) hc.1 hc.2, qd_rpl K l (i + 1) f _ _ (by omega) (fun y hy => hb y (by simp [hy]))]
    simp only [rpl, List.append_assoc, List.length_append, List.cons_append, List.nil_append]
    congr 1; omega
theorem ct_quoted (K : Nat → Int) (s : ByteArray) (f : Nat) (h : (34 :: (rpl K 0 (blK s) ++ [34])).length < f) : ct f (34 :: (rpl K 0 (blK s) ++ [34])) 0 [] = ([⟨3, s, 0, 0, ((rpl K 0 (blK s)).length + 2 : Nat)⟩], 0, 0) := by
  have hl := (rpl_len K (blK s) 0).1
  simp only [List.length_cons, List.length_append, List.length_nil] at h
  obtain ⟨f, rfl⟩ : ∃ g, f = g + 2 := ⟨f - 2, by omega⟩
  have et : tok (34 :: (rpl K 0 (blK s) ++ [34])) = .ok 3 (blK s) 0 ((rpl K 0 (blK s)).length + 2) := by
    rw [tok_quote (by decide) (by decide) (by decide) (by decide) rfl, qd_rpl K (blK s) 0 _ 1 [] (by simp only [List.length_append, List.length_cons, List.length_nil]; omega) (bl_byt s)]
    rw [List.nil_append]; congr 1; omega
  rw [ct_cons, if_neg (by decide), if_neg (by decide), et]
  have hz : (34 :: (rpl K 0 (blK s) ++ [34])).drop ((rpl K 0 (blK s)).length + 2) = [] := List.drop_eq_nil_of_le (by simp)
  show ct (f + 1) ((34 :: (rpl K 0 (blK s) ++ [34])).drop ((rpl K 0 (blK s)).length + 2)) (0 + ((rpl K 0 (blK s)).length + 2)) ([] ++ [⟨3, ofL (blK s), 0, (0 : Nat), ((0 + ((rpl K 0 (blK s)).length + 2) : Nat) : Int)⟩]) = _
  rw [hz, ct_end, ofL_bl]
  simp
/-- How Quote writes a byte. -/
def kq (c : Int) : Int := if (c < 32 ∧ ¬ c = 10 ∧ ¬ c = 9) ∨ 126 < c then 2 else 0
theorem qb_rep (c : Int) : qb c = rep c (kq c) := by
  unfold qb rep kq
  by_cases q : (c < 32 ∧ ¬ c = 10 ∧ ¬ c = 9) ∨ 126 < c
  · rw [if_pos q, if_neg (by omega), if_neg (by omega), if_neg (by omega), if_neg (by omega), if_neg (by omega), if_neg (by omega), if_neg (by omega), if_neg (by omega), if_neg (by omega)]
  · rw [if_neg q]
    by_cases q1 : c = 34 ∨ c = 92
    · rw [if_pos q1, if_neg (by omega), if_pos ⟨by omega, q1⟩]
    · rw [if_neg q1]
      by_cases q2 : c = 10
      · rw [if_pos q2, if_neg (by omega), if_neg (by omega), if_pos ⟨by omega, q2⟩]
      · rw [if_neg q2]
        by_cases q3 : c = 9
        · rw [if_pos q3, if_neg (by omega), if_neg (by omega), if_neg (by omega), if_pos ⟨by omega, q3⟩]
        · rw [if_neg q3, if_pos (by omega), if_pos (by omega)]
theorem take_snoc (s : ByteArray) (j : Nat) (h : j < s.size) : (blK s).take (j + 1) = (blK s).take j ++ [atK_ s j] := by
  have hl : j < (blK s).length := by rw [bl_len]; exact h
  have e := bl_drop h
  rw [List.drop_eq_getElem_cons hl] at e
  rw [List.take_succ_eq_append_getElem hl, (List.cons.inj e).1]
theorem qtl_rpl (s : ByteArray) : ∀ j, j ≤ s.size → qtl s j = 34 :: rpl (fun i => kq (atK_ s i)) 0 ((blK s).take j)
  | 0, _ => by simp [qtl, rpl]
  | j + 1, h => by
    rw [qtl_succ, qtl_rpl s j (by omega), take_snoc s j (by omega), rpl_snoc, qb_rep]
    have : ((blK s).take j).length = j := by rw [List.length_take, bl_len]; omega
    rw [this, Nat.zero_add]; rfl
end Go.Proofs.YtdfdnjkeiddfjaaDoor

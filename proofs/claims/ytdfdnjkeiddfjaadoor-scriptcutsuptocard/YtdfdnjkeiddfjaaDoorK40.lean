import Derived.Test.YtdfdnjkeiddfjaaDoorK31
import Derived.Laws.AppendOwnNone
import Derived.Laws.AppendOwn
/-
  alike: two lists of tokens that are the same but for their places.
-/
namespace Go.Proofs.YtdfdnjkeiddfjaaDoor
open Go.RowKit

end Go.Proofs.YtdfdnjkeiddfjaaDoor
/-
  copied: a list of tokens of its own; what Join answers of a list, by its tokens (plain).
-/
namespace Go.Proofs.YtdfdnjkeiddfjaaDoor
open Go.RowKit

/-- Tokens that lie in memory, as they are handed in. -/
def KsO (w : World) (v : Value) (l : List Tk) : Prop := (v = .slice none 0 0 ∧ l = []) ∨ ∃ ad cap, v = .slice (some ad) l.length cap ∧ l.length ≤ 2000000 ∧
  (l = [] ∨ ∃ b o, ad = ⟨b, o, none⟩ ∧ b < w.heap.size ∧ ∀ (i : Nat) (t : Tk), l[i]? = some t → w.cell? ⟨b, o + i * 5, none⟩ = some (.int .i64 t.k) ∧ w.cell? ⟨b, o + i * 5 + 1, none⟩ = some (.string t.x) ∧ w.cell? ⟨b, o + i * 5 + 2, none⟩ = some (.int .i64 t.n) ∧ w.cell? ⟨b, o + i * 5 + 3, none⟩ = some (.int .i64 t.a) ∧ w.cell? ⟨b, o + i * 5 + 4, none⟩ = some (.int .i64 t.e))
theorem KsO.ks {w : World} {v : Value} {l : List Tk} (h : KsO w v l) : Ks w v l := by
  rcases h with ⟨rfl, rfl⟩ | ⟨ad, cap, rfl, -, h⟩
  · exact ⟨none, 0, rfl, Or.inl rfl⟩
  · refine ⟨some ad, cap, rfl, h.imp id ?_⟩
    rintro ⟨b, o, rfl, hlt, hc⟩
    exact ⟨b, o, rfl, hlt, hc⟩
theorem kcs_cell {w : World} {b o : Nat} {l : List Tk} (h : ∀ (i : Nat) (t : Tk), l[i]? = some t → w.cell? ⟨b, o + i * 5, none⟩ = some (.int .i64 t.k) ∧ w.cell? ⟨b, o + i * 5 + 1, none⟩ = some (.string t.x) ∧ w.cell? ⟨b, o + i * 5 + 2, none⟩ = some (.int .i64 t.n) ∧ w.cell? ⟨b, o + i * 5 + 3, none⟩ = some (.int .i64 t.a) ∧ w.cell? ⟨b, o + i * 5 + 4, none⟩ = some (.int .i64 t.e)) (j : Nat) (u : Value) (hj : (kcs l)[j]? = some u) : w.cell? ((⟨b, o, none⟩ : Addr).add j) = some u := by
  rw [Addr.add_mid]
  have hlt := (List.getElem?_eq_some_iff.1 hj).1
  rw [kcs_len] at hlt
  have hi : j / 5 < l.length := by omega
  obtain ⟨t, ht⟩ : ∃ t, l[j / 5]? = some t := ⟨_, List.getElem?_eq_getElem hi⟩
  have hc := h (j / 5) t ht
  have hk := kcs_get l (j / 5) t ht
  have hm : j % 5 = 0 ∨ j % 5 = 1 ∨ j % 5 = 2 ∨ j % 5 = 3 ∨ j % 5 = 4 := by omega
  rcases hm with h5 | h5 | h5 | h5 | h5
  · obtain e : j = j / 5 * 5 := by omega
    rw [e] at hj ⊢; rw [hk.1] at hj; rw [← hj]; exact hc.1
  · obtain e : j = j / 5 * 5 + 1 := by omega
    rw [e] at hj ⊢; rw [hk.2.1] at hj; rw [← hj]; exact hc.2.1
  · obtain e : j = j / 5 * 5 + 2 := by omega
    rw [e] at hj ⊢; rw [hk.2.2.1] at hj; rw [← hj]; exact hc.2.2.1
  · obtain e : j = j / 5 * 5 + 3 := by omega
    rw [e] at hj ⊢; rw [hk.2.2.2.1] at hj; rw [← hj]; exact hc.2.2.2.1
  · obtain e : j = j / 5 * 5 + 4 := by omega
    rw [e] at hj ⊢; rw [hk.2.2.2.2] at hj; rw [← hj]; exact hc.2.2.2.2
theorem kcs_one (l : List Tk) : ∀ u ∈ kcs l, u.oneCell' = true := by
  intro u hu
  simp only [kcs, List.mem_flatMap] at hu
  obtain ⟨t, -, ht⟩ := hu
  simp at ht
  rcases ht with rfl | rfl | rfl | rfl | rfl <;> rfl
/-- Whether all have a spelling is whether the list has a text. -/
theorem jz_some : ∀ (l : List Tk) (p : Option Tk), (jz p l).isSome = l.all (fun t => (spl t).isSome)
  | [], _ => rfl
  | t :: r, p => by
    rw [jz_cons, List.all_cons]
    cases spl t with
    | none => rfl
    | some s => simp only [Option.isSome_map, Option.isSome_some, Bool.true_and]; exact jz_some r (some t)
/-- How long the text is at most. -/
theorem jz_len : ∀ (l : List Tk) (p : Option Tk) (z : List Int), jz p l = some z → z.length ≤ (l.map fun t => ((spl t).getD ⟨#[]⟩).size + 1).sum
  | [], _, z, h => by cases h; simp
  | t :: r, p, z, h => by
    rw [jz_cons] at h
    cases e : spl t with
    | none => rw [e] at h; cases h
    | some s =>
      rw [e] at h
      cases ez : jz (some t) r with
      | none => rw [ez] at h; cases h
      | some z' =>
        rw [ez] at h
        simp only [Option.map_some, Option.some.injEq] at h
        have ih := jz_len r (some t) z' ez
        have hg : (gp p t).length ≤ 1 := by
          unfold gp
          cases p with
          | none => simp
          | some q => simp only; split <;> simp
        rw [← h]
        simp only [List.length_append, bl_len, List.map_cons, List.sum_cons, e, Option.getD_some]
        omega
end Go.Proofs.YtdfdnjkeiddfjaaDoor
/-
  copied: a list of tokens of its own.
-/
namespace Go.Proofs.YtdfdnjkeiddfjaaDoor
open Go.RowKit

theorem OwnK.kso {w : World} {base : Nat} {v : Value} {l : List Tk} (h : OwnK w base v l) (hl : l.length ≤ 2000000) : KsO w v l := by
  rcases h.2 with ⟨hv, hn⟩ | ⟨g, cap, cur, hv, -⟩
  · exact Or.inl ⟨hv, List.eq_nil_of_length_eq_zero hn⟩
  · obtain ⟨a, cap', hva, hm⟩ := h.ks
    rw [hv] at hva
    simp only [Value.slice.injEq, true_and] at hva
    obtain ⟨rfl, rfl⟩ := hva
    refine Or.inr ⟨⟨g, 0, none⟩, cap, hv, hl, hm.imp id ?_⟩
    rintro ⟨b, o, hbo, hlt, hc⟩
    simp only [Option.some.injEq] at hbo
    exact ⟨b, o, hbo, hlt, hc⟩
theorem KsO.later {w w' : World} {v : Value} {l : List Tk} (h : KsO w v l) (hb : Below w.heap.size w w') : KsO w' v l := by
  rcases h with h | ⟨ad, cap, rfl, hl, h⟩
  · exact Or.inl h
  · refine Or.inr ⟨ad, cap, rfl, hl, h.imp id ?_⟩
    rintro ⟨b, o, rfl, hlt, hc⟩
    refine ⟨b, o, rfl, Nat.lt_of_lt_of_le hlt hb.size, fun i t ht => ?_⟩
    obtain ⟨h0, h1, h2, h3, h4⟩ := hc i t ht
    exact ⟨cell_stepK hb hlt h0, cell_stepK hb hlt h1, cell_stepK hb hlt h2, cell_stepK hb hlt h3, cell_stepK hb hlt h4⟩
theorem spl_ne {t : Tk} {s : ByteArray} (h : spl t = some s) : ¬ s = ⟨#[]⟩ := by
  obtain ⟨c, r, e, -⟩ := spl_head h
  intro hs
  rw [hs] at e
  cases e
/-- The joined text, cut again. -/
theorem cut_back {l : List Tk} {z : List Int} (h : jz none l = some z) (ho : ∀ t ∈ l, okt t) : ∃ T, cutL (blK (ofL z)) (ofL z).size = (T, 0, 0) ∧ T.map Tk.bar = l.map Tk.bar := by
  have hb := bl_ofL (jz_byt l none z h)
  obtain ⟨T, hT, hm⟩ := ct_jz l none z ((ofL z).size + 1) 0 [] h ho (by rw [ofL_size]; omega)
  refine ⟨T, ?_, hm⟩
  rw [cutL_all, hb, hT, List.nil_append]
end Go.Proofs.YtdfdnjkeiddfjaaDoor
/-
  Tokens with blanks and remarks between them are read as these tokens (plain).
-/
namespace Go.Proofs.YtdfdnjkeiddfjaaDoor

/-- What stands between two tokens, by the number's last three bits. -/
def filM (m : Int) : ByteArray :=
  if m = 1 then ⟨#[9]⟩ else if m = 2 then ⟨#[13, 10]⟩ else if m = 3 then ⟨#[32, 37, 32, 40, 32, 34, 32, 115, 97, 121, 115, 10]⟩ else if m = 4 then ⟨#[37, 10]⟩ else if m = 5 then ⟨#[32, 32, 10, 32]⟩ else ⟨#[32]⟩
def fil (k : Int) : ByteArray := filM (bits BinOp.and IntKind.i64 k 7)
theorem filM_cases (m : Int) : filM m = ⟨#[9]⟩ ∨ filM m = ⟨#[13, 10]⟩ ∨ filM m = ⟨#[32, 37, 32, 40, 32, 34, 32, 115, 97, 121, 115, 10]⟩ ∨ filM m = ⟨#[37, 10]⟩ ∨ filM m = ⟨#[32, 32, 10, 32]⟩ ∨ filM m = ⟨#[32]⟩ := by
  unfold filM
  split
  · exact Or.inl rfl
  · split
    · exact Or.inr (Or.inl rfl)
    · split
      · exact Or.inr (Or.inr (Or.inl rfl))
      · split
        · exact Or.inr (Or.inr (Or.inr (Or.inl rfl)))
        · split
          · exact Or.inr (Or.inr (Or.inr (Or.inr (Or.inl rfl))))
          · exact Or.inr (Or.inr (Or.inr (Or.inr (Or.inr rfl))))
theorem ct_blank {c : Int} (h : c = 32 ∨ c = 9 ∨ c = 10 ∨ c = 13) (f : Nat) (y : List Int) (off : Nat) (acc : List Tk) : ct (f + 1) (c :: y) off acc = ct f y (off + 1) acc := by rw [ct_cons, if_pos h]
theorem ct_rem (f : Nat) (y : List Int) (off : Nat) (acc : List Tk) : ct (f + 1) (37 :: y) off acc = ct f (y.drop (le_ y)) (off + (le_ y + 1)) acc := by
  rw [ct_cons, if_neg (by decide), if_pos rfl]
  have e : le_ (37 :: y) = le_ y + 1 := by rw [le_cons, if_neg (by decide)]
  rw [e, List.drop_succ_cons]
theorem fil_ct (k : Int) (y : List Int) (f off : Nat) (acc : List Tk) (hf : (blK (fil k) ++ y).length < f) : ct f (blK (fil k) ++ y) off acc = ct (y.length + 1) y (off + (fil k).size) acc := by
  unfold fil at hf ⊢
  rw [List.length_append, bl_len] at hf
  rcases filM_cases (bits BinOp.and IntKind.i64 k 7) with e | e | e | e | e | e <;> rw [e] at hf ⊢
  · have hs : (⟨#[9]⟩ : ByteArray).size = 1 := rfl
    rw [hs] at hf ⊢
    obtain ⟨g, rfl⟩ : ∃ g, f = g + 1 := ⟨f - 1, by omega⟩
    show ct (g + 1) (9 :: y) off acc = _
    rw [ct_blank (by decide)]
    exact ct_fuel _ _ _ _ (by omega) _ (by omega)
  · have hs : (⟨#[13, 10]⟩ : ByteArray).size = 2 := rfl
    rw [hs] at hf ⊢
    obtain ⟨g, rfl⟩ : ∃ g, f = g + 2 := ⟨f - 2, by omega⟩
    show ct (g + 1 + 1) (13 :: 10 :: y) off acc = _
    rw [ct_blank (by decide), ct_blank (by decide)]
    exact ct_fuel _ _ _ _ (by omega) _ (by omega)
  · have hs : (⟨#[32, 37, 32, 40, 32, 34, 32, 115, 97, 121, 115, 10]⟩ : ByteArray).size = 12 := rfl
    rw [hs] at hf ⊢
    obtain ⟨g, rfl⟩ : ∃ g, f = g + 3 := ⟨f - 3, by omega⟩
    show ct (g + 1 + 1 + 1) (32 :: 37 :: 32 :: 40 :: 32 :: 34 :: 32 :: 115 :: 97 :: 121 :: 115 :: 10 :: y) off acc = _
    rw [ct_blank (by decide), ct_rem]
    have e2 : le_ (32 :: 40 :: 32 :: 34 :: 32 :: 115 :: 97 :: 121 :: 115 :: 10 :: y) = 9 := by
      simp [le_cons]
    rw [e2]
    show ct (g + 1) (10 :: y) _ acc = _
    rw [ct_blank (by decide)]
    exact ct_fuel _ _ _ _ (by omega) _ (by omega)
  · have hs : (⟨#[37, 10]⟩ : ByteArray).size = 2 := rfl
    rw [hs] at hf ⊢
    obtain ⟨g, rfl⟩ : ∃ g, f = g + 2 := ⟨f - 2, by omega⟩
    show ct (g + 1 + 1) (37 :: 10 :: y) off acc = _
    rw [ct_rem]
    have e2 : le_ (10 :: y) = 0 := by simp [le_cons]
    rw [e2]
    show ct (g + 1) (10 :: y) _ acc = _
    rw [ct_blank (by decide)]
    exact ct_fuel _ _ _ _ (by omega) _ (by omega)
  · have hs : (⟨#[32, 32, 10, 32]⟩ : ByteArray).size = 4 := rfl
    rw [hs] at hf ⊢
    obtain ⟨g, rfl⟩ : ∃ g, f = g + 4 := ⟨f - 4, by omega⟩
    show ct (g + 1 + 1 + 1 + 1) (32 :: 32 :: 10 :: 32 :: y) off acc = _
    rw [ct_blank (by decide), ct_blank (by decide), ct_blank (by decide), ct_blank (by decide)]
    exact ct_fuel _ _ _ _ (by omega) _ (by omega)
  · have hs : (⟨#[32]⟩ : ByteArray).size = 1 := rfl
    rw [hs] at hf ⊢
    obtain ⟨g, rfl⟩ : ∃ g, f = g + 1 := ⟨f - 1, by omega⟩
    show ct (g + 1) (32 :: y) off acc = _
    rw [ct_blank (by decide)]
    exact ct_fuel _ _ _ _ (by omega) _ (by omega)
theorem fil_head (k : Int) : ∃ c r, blK (fil k) = c :: r ∧ (c = 9 ∨ c = 13 ∨ c = 32 ∨ c = 37) := by
  unfold fil
  rcases filM_cases (bits BinOp.and IntKind.i64 k 7) with e | e | e | e | e | e <;> rw [e]
  · exact ⟨9, _, rfl, by decide⟩
  · exact ⟨13, _, rfl, by decide⟩
  · exact ⟨32, _, rfl, by decide⟩
  · exact ⟨37, _, rfl, by decide⟩
  · exact ⟨32, _, rfl, by decide⟩
  · exact ⟨32, _, rfl, by decide⟩
theorem fil_size (k : Int) : 1 ≤ (fil k).size ∧ (fil k).size ≤ 12 := by
  unfold fil
  rcases filM_cases (bits BinOp.and IntKind.i64 k 7) with e | e | e | e | e | e <;> rw [e] <;> decide
def endL : List Int := [32, 37, 32, 116, 104, 101, 32, 101, 110, 100]
theorem ct_endL (f off : Nat) (acc : List Tk) (hf : 10 < f) : ct f endL off acc = (acc, 0, 0) := by
  obtain ⟨g, rfl⟩ : ∃ g, f = g + 3 := ⟨f - 3, by omega⟩
  show ct (g + 1 + 1 + 1) (32 :: 37 :: [32, 116, 104, 101, 32, 101, 110, 100]) off acc = _
  rw [ct_blank (by decide), ct_rem]
  have e2 : le_ [32, 116, 104, 101, 32, 101, 110, 100] = 8 := by simp [le_]
  rw [e2]
  exact ct_end _ _ _
/-- The text: each token that has a spelling, with something ahead of it. -/
def bkt (K : Nat → Int) : Nat → List Tk → List Int
  | _, [] => []
  | i, t :: r => match spl t with
    | none => bkt K (i + 1) r
    | some s => blK (fil (K i)) ++ (blK s ++ bkt K (i + 1) r)
/-- What it is to be read as. -/
def wnt (K : Nat → Int) : Nat → Nat → List Tk → List Tk
  | _, _, [] => []
  | i, off, t :: r => match spl t with
    | none => wnt K (i + 1) off r
    | some s => ⟨t.k, t.x, t.n, ((off + (fil (K i)).size : Nat) : Int), ((off + (fil (K i)).size + s.size : Nat) : Int)⟩ :: wnt K (i + 1) (off + (fil (K i)).size + s.size) r
theorem bkt_cons (K : Nat → Int) (i : Nat) (t : Tk) (r : List Tk) : bkt K i (t :: r) = match spl t with
    | none => bkt K (i + 1) r
    | some s => blK (fil (K i)) ++ (blK s ++ bkt K (i + 1) r) := rfl
theorem wnt_cons (K : Nat → Int) (i off : Nat) (t : Tk) (r : List Tk) : wnt K i off (t :: r) = match spl t with
    | none => wnt K (i + 1) off r
    | some s => ⟨t.k, t.x, t.n, ((off + (fil (K i)).size : Nat) : Int), ((off + (fil (K i)).size + s.size : Nat) : Int)⟩ :: wnt K (i + 1) (off + (fil (K i)).size + s.size) r := rfl
theorem bkt_byt (K : Nat → Int) : ∀ (l : List Tk) (i : Nat), byt (bkt K i l)
  | [], _ => fun x hx => by cases hx
  | t :: r, i => by
    rw [bkt_cons]
    cases spl t with
    | none => exact bkt_byt K r (i + 1)
    | some s =>
      intro x hx
      rcases List.mem_append.1 hx with hx | hx
      · exact bl_byt _ x hx
      · rcases List.mem_append.1 hx with hx | hx
        · exact bl_byt _ x hx
        · exact bkt_byt K r (i + 1) x hx
theorem endL_byt : byt endL := fun x hx => by
  simp only [endL, List.mem_cons, List.not_mem_nil, or_false] at hx
  omega
theorem bkt_head (K : Nat → Int) : ∀ (l : List Tk) (i : Nat), ∃ c r, bkt K i l ++ endL = c :: r ∧ (c = 9 ∨ c = 13 ∨ c = 32 ∨ c = 37)
  | [], _ => ⟨32, _, rfl, by decide⟩
  | t :: r, i => by
    rw [bkt_cons]
    cases spl t with
    | none => exact bkt_head K r (i + 1)
    | some s =>
      obtain ⟨c, y, e, h⟩ := fil_head (K i)
      exact ⟨c, y ++ (blK s ++ bkt K (i + 1) r) ++ endL, by simp only [e, List.cons_append], h⟩
theorem bkt_stp (K : Nat → Int) (l : List Tk) (i : Nat) (t : Tk) : stp t (bkt K i l ++ endL) := by
  obtain ⟨c, r, e, h⟩ := bkt_head K l i
  rw [e]
  refine ⟨fun _ => ?_, fun _ y hy => ?_⟩
  · rw [rl_cons]
    have : ¬ rnb c = true := by rcases h with rfl | rfl | rfl | rfl <;> decide
    rw [if_neg this]
  · have := (List.cons.inj hy).1; omega
theorem ct_bkt (K : Nat → Int) : ∀ (l : List Tk) (i f off : Nat) (acc : List Tk), (∀ t ∈ l, okt t) → (bkt K i l ++ endL).length < f → ct f (bkt K i l ++ endL) off acc = (acc ++ wnt K i off l, 0, 0)
  | [], i, f, off, acc, _, hf => by
    show ct f endL off acc = (acc ++ [], 0, 0)
    rw [List.append_nil]
    exact ct_endL f off acc (by simpa [bkt, endL] using hf)
  | t :: r, i, f, off, acc, ho, hf => by
    rw [bkt_cons] at hf ⊢
    rw [wnt_cons]
    cases e : spl t with
    | none =>
      rw [e] at hf
      exact ct_bkt K r (i + 1) f off acc (fun u hu => ho u (by simp [hu])) hf
    | some s =>
      rw [e] at hf
      simp only [List.append_assoc] at hf ⊢
      rw [fil_ct _ _ _ _ _ hf]
      obtain ⟨Y, hY⟩ : ∃ Y, bkt K (i + 1) r ++ endL = Y := ⟨_, rfl⟩
      have hst := bkt_stp K r (i + 1) t
      have hby : byt (bkt K (i + 1) r ++ endL) := fun x hx => by
        rcases List.mem_append.1 hx with hx | hx
        · exact bkt_byt K r _ x hx
        · exact endL_byt x hx
      have ih := fun f off acc => ct_bkt K r (i + 1) f off acc (fun u hu => ho u (by simp [hu]))
      rw [hY] at hst hby ih ⊢
      obtain ⟨ht, hx⟩ := tok_spl e (ho t (by simp)) hst hby
      obtain ⟨c, y, ec, n1, n2, -, -⟩ := spl_head e
      have hd : (blK s ++ Y).drop s.size = Y := by rw [← bl_len]; exact List.drop_left
      have hsz : 0 < s.size := by rw [← bl_len, ec]; simp
      have hll : (blK s ++ Y).length = s.size + Y.length := by rw [List.length_append, bl_len]
      rw [hll]
      rw [ec, List.cons_append] at ht hd ⊢
      rw [ct_cons, if_neg n1, if_neg n2, ht]
      show ct (s.size + Y.length) ((c :: (y ++ Y)).drop s.size) (off + (fil (K i)).size + s.size) (acc ++ [⟨t.k, ofL (tbs t), t.n, ((off + (fil (K i)).size : Nat) : Int), ((off + (fil (K i)).size + s.size : Nat) : Int)⟩]) = _
      rw [hd, ← hx, ih _ _ _ (by omega)]
      simp
end Go.Proofs.YtdfdnjkeiddfjaaDoor

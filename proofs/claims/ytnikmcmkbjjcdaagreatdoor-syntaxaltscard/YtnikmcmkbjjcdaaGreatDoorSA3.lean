import Derived.Test.YtnikmcmkbjjcdaaGreatDoorSA1
/-
  SyntaxAlts: PLAIN: what the text says.
-/
namespace Go.Proofs.YtnikmcmkbjjcdaaGreatDoor
open Go.RowKit

/-- Tokens of a part. -/
def tP (l : List ByteArray) : List Tk := tS 6 :: (jq5 9 (l.map fun x => [tN x]) ++ [tS 7])
/-- An atom that is its name alone. -/
def nAt (x : ByteArray) : At := ⟨⟨0, 0, ⟨#[]⟩⟩, x, []⟩
theorem cz_part {l : List ByteArray} (h : ∀ x ∈ l, nameOk x = true) : Cz5 true (40 :: (jy5 59 (l.map blK) ++ [41])) (tP l) := by
  have hj := cq_join sgn_9 ⟨by decide, by decide⟩ (ps := l.map fun x => (blK x, [tN x])) (fun p hp => by
    obtain ⟨x, hx, rfl⟩ := List.mem_map.1 hp
    exact cz_name (h x hx))
  refine ((sgn_6.app (hj.app sgn_7 fun _ => ⟨41, _, rfl, by decide, by decide⟩) fun h => by cases h).eq ?_ ?_).weak
  · simp only [List.map_map, Function.comp_def, List.cons_append, List.nil_append]
  · unfold tP
    simp only [List.map_map, Function.comp_def, List.cons_append, List.nil_append]
def hTk : Tk := ⟨1, ofL [104], 0, 2, 3⟩
/-- The whole text's tokens. -/
theorem cut_txA (bs : List ByteArray) (h8 : bs.length ≤ 8) : ∃ T, cutL (blK (txA bs)) 1048576 = (hTk :: T, 0, 0) ∧ T.map Tk.bar = tS 11 :: (jq5 8 (bs.map fun s => tP (nm5 s)) ++ [tS 10]) := by
  have hb : blK (txA bs) = 32 :: 32 :: 104 :: ([32] ++ ([58, 45] ++ ([32] ++ (jy5 44 (bs.map fun s => blK (ptx s)) ++ [46])))) := by
    have e1 : blK ⟨#[32, 32]⟩ = [32, 32] := rfl
    have e2 : blK ⟨#[46]⟩ = [46] := rfl
    unfold txA
    rw [bl_appJ5, bl_appJ5, e1, e2, bl_tu5 bs _ (Nat.le_refl _), List.take_length]
    simp
  have hj := cq_join sgn_8 ⟨by decide, by decide⟩ (ps := bs.map fun s => (blK (ptx s), tP (nm5 s))) (fun p hp => by
    obtain ⟨s, hs, rfl⟩ := List.mem_map.1 hp
    rw [bl_ptx]
    exact cz_part (nm5_ok s))
  have g := Cz5.gap 32 (Or.inl rfl)
  have hz : Cz5 true ([32] ++ ([58, 45] ++ ([32] ++ (jy5 44 (bs.map fun s => blK (ptx s)) ++ [46])))) (tS 11 :: (jq5 8 (bs.map fun s => tP (nm5 s)) ++ [tS 10])) := by
    refine ((g.app (sgn_11.app (g.app (hj.app sgn_10 fun _ => ⟨46, _, rfl, by decide, by decide⟩) fun h => by cases h) fun h => by cases h) fun h => by cases h).eq ?_ ?_).weak
    · simp only [List.map_map, Function.comp_def]
    · simp only [List.map_map, Function.comp_def, List.cons_append, List.nil_append]
  have hsz : (blK (txA bs)).length ≤ 1048576 := by
    rw [bl_len]
    unfold txA
    rw [ByteArray.size_append, ByteArray.size_append]
    have h1 := tu5_size bs bs.length
    have e1 : (⟨#[32, 32]⟩ : ByteArray).size = 2 := rfl
    have e2 : (⟨#[46]⟩ : ByteArray).size = 1 := rfl
    omega
  revert hsz
  rw [hb]
  generalize [32] ++ ([58, 45] ++ ([32] ++ (jy5 44 (bs.map fun s => blK (ptx s)) ++ [46]))) = z at hz hb
  intro hsz
  obtain ⟨zt', hzt⟩ : ∃ r, z = 32 :: r := by
    have h1 := hb
    have : blK (txA bs) = 32 :: 32 :: 104 :: ([32] ++ ([58, 45] ++ ([32] ++ (jy5 44 (bs.map fun s => blK (ptx s)) ++ [46])))) := by
      have e1 : blK ⟨#[32, 32]⟩ = [32, 32] := rfl
      have e2 : blK ⟨#[46]⟩ = [46] := rfl
      unfold txA
      rw [bl_appJ5, bl_appJ5, e1, e2, bl_tu5 bs _ (Nat.le_refl _), List.take_length]
      simp
    rw [this] at h1
    simp only [List.cons.injEq, true_and] at h1
    exact ⟨_, h1.symm⟩
  have ht : tok (104 :: z) = .ok 1 [104] 0 1 := by
    have h1 : wrd ⟨#[104]⟩ = true := by decide
    have := tok_word (x := ⟨#[104]⟩) (y := z) h1 (by rw [hzt, rl_cons, if_neg (by decide)])
    exact this
  obtain ⟨g2, T, hg, e, hT⟩ := hz.2 [] (fun x hx => by cases hx) (fun _ => ⟨rfl, fun r hr => by cases hr⟩) (z.length + 1) 3 [hTk] (by simp)
  obtain ⟨g2, rfl⟩ : ∃ k, g2 = k + 1 := ⟨g2 - 1, by simp at hg; omega⟩
  rw [List.append_nil, ct_end] at e
  refine ⟨T, ?_, hT⟩
  unfold cutL
  rw [if_neg (by omega)]
  show ct (z.length + 3 + 1) (32 :: 32 :: 104 :: z) 0 [] = _
  rw [ct_cons, if_pos (Or.inl rfl), ct_cons, if_pos (Or.inl rfl), ct_cons, if_neg (by decide), if_neg (by decide), ht]
  exact e
theorem kA_some {T : List Tk} {i : Nat} {k : Int} (h : kA5 T i = k) (h0 : k ≠ 0) : ∃ u, T[i]? = some u ∧ u.k = k := by
  unfold kA5 at h
  cases e : T[i]? with
  | none => rw [e] at h; exact absurd h.symm h0
  | some u => rw [e] at h; exact ⟨u, rfl, h⟩
theorem name_conj {T : List Tk} {L f : Nat} {s : Ps} {x : ByteArray} (hl : Ly5 T s.nx [tN x]) (hn : kA5 T (s.nx + 1) = 9 ∨ kA5 T (s.nx + 1) = 7) :
    conjOf5 (lit5 T L (f + 1)) T L s = .ok ([[.a (nAt x)]], ⟨s.nx + 1, s.op, s.vs, s.nm⟩) := by
  obtain ⟨u, hu, eu⟩ := hl.head
  have ek : u.k = 1 := congrArg Tk.k eu
  have ex : u.x = x := congrArg Tk.x eu
  obtain ⟨v, hv, h5, h6, h8, ho⟩ : ∃ v, T[s.nx + 1]? = some v ∧ v.k ≠ 5 ∧ v.k ≠ 6 ∧ v.k ≠ 8 ∧ op5 v.k = 0 := by
    rcases hn with h | h
    · obtain ⟨v, h1, h2⟩ := kA_some h (by decide)
      exact ⟨v, h1, by rw [h2]; decide, by rw [h2]; decide, by rw [h2]; decide, by rw [h2]; decide⟩
    · obtain ⟨v, h1, h2⟩ := kA_some h (by decide)
      exact ⟨v, h1, by rw [h2]; decide, by rw [h2]; decide, by rw [h2]; decide, by rw [h2]; decide⟩
  have hat := at_bare (L := L) hu ek hv h5 h6
  rw [ex] at hat
  have hlit : lit5 T L (f + 1) s = .ok ([[.a (nAt x)]], ⟨s.nx + 1, s.op, s.vs, s.nm⟩) := by
    unfold lit5
    have k0 : kd5 T s 0 = 1 := by rw [kd_at (k := 0) hu]; exact ek
    have k1 : kd5 T s 1 = v.k := kd_at (k := 1) hv
    rw [if_neg (by rw [k0]; decide), if_pos (by unfold ba5; rw [if_pos k0, k1, ho]; decide), R5.and_ok hat]
    rfl
  unfold conjOf5
  rw [R5.and_ok (list_one hlit (by rw [kd_at (s := ⟨s.nx + 1, s.op, s.vs, s.nm⟩) (k := 0) hv]; exact h8))]
  rfl
/-- A bracket's ways. -/
def wy5 (l : List ByteArray) : List (List Lf5) := l.map fun x => [.a (nAt x)]
theorem part_lit {T : List Tk} {L f : Nat} {s : Ps} {l : List ByteArray} (hne : l ≠ []) (hop : s.op ≠ 16) (hl : Ly5 T s.nx (tP l)) :
    ∃ s', lit5 T L (f + 2) s = .ok (wy5 l, s') ∧ s'.nx = s.nx + (tP l).length ∧ Gn5 s s' := by
  cases l with
  | nil => exact absurd rfl hne
  | cons x r =>
    unfold tP at hl ⊢
    obtain ⟨u, hu, eu⟩ := hl.head
    have ek : u.k = 6 := congrArg Tk.k eu
    have hl1 := hl.tail
    have hl2 := hl1.right
    have k7 := kA_ly hl2
    obtain ⟨u7, hu7, eu7⟩ := hl2.head
    have ek7 : u7.k = 7 := congrArg Tk.k eu7
    obtain ⟨s2, h1, h2, h3, -⟩ := listQ (one := conjOf5 (lit5 T L (f + 1)) T L) (T := T) (L := L) (b := 9) (fun y : ByteArray => [tN y]) (fun _ y => [[Lf5.a (nAt y)]]) (fun _ _ => True) (fun k => k = 9 ∨ k = 7) (s.op + 1) (fun _ _ _ _ _ => ⟨trivial, rfl⟩) (by decide) (Or.inl rfl) x r ⟨s.nx + 1, s.op + 1, s.vs, s.nm⟩ rfl (fun y hy s' _ hs hq => ⟨_, name_conj hs hq, rfl, Gn5.nx s' _, trivial⟩) hl1.left (by
      show kA5 T (s.nx + 1 + _) ≠ 9
      rw [k7]; decide) (by
      show kA5 T (s.nx + 1 + _) = 9 ∨ kA5 T (s.nx + 1 + _) = 7
      rw [k7]; exact Or.inr rfl)
    have h2' : s2.nx = s.nx + 1 + (jq5 9 ((x :: r).map fun y => [tN y])).length := h2
    have ha : altOf5 (lit5 T L (f + 1)) T L ⟨s.nx + 1, s.op + 1, s.vs, s.nm⟩ = .ok (wy5 (x :: r), s2) := by
      unfold altOf5
      rw [R5.and_ok h1]
      have : ((x :: r).map fun y => [[Lf5.a (nAt y)]]).flatten = wy5 (x :: r) := by
        unfold wy5
        induction (x :: r) with
        | nil => rfl
        | cons z q ih => rw [List.map_cons, List.flatten_cons, ih]; rfl
      rw [this]
    refine ⟨⟨s2.nx + 1, s2.op - 1, s2.vs, s2.nm⟩, ?_, ?_, ⟨?_, h3.n, h3.i⟩⟩
    · unfold lit5
      rw [if_pos (by rw [kd_at (k := 0) hu]; exact ek)]
      unfold brOf5
      rw [if_neg hop, R5.and_ok (tk_at hu (by rw [ek]; simp)), R5.and_ok ha, R5.and_ok (tk_at (t := u7) (by rw [h2']; exact hu7) (by rw [ek7]; simp))]
    · show s2.nx + 1 = _
      rw [h2', List.length_cons, List.length_append, List.length_cons, List.length_nil]
      omega
    · show s2.op - 1 = s.op
      have := h3.o
      have e : s2.op = s.op + 1 := this
      omega
/-- All ways. -/
def cr5 (ls : List (List ByteArray)) : List (List Lf5) := cross5 (ls.map wy5)
def hAt : At := nAt (ofL [104])
theorem rh_txA {T : List Tk} {L : Nat} {ls : List (List ByteArray)} (hls : ls ≠ []) (hne : ∀ l ∈ ls, l ≠ []) (hT : T.map Tk.bar = tS 11 :: (jq5 8 (ls.map tP) ++ [tS 10])) :
    ∃ s', rh5 (hTk :: T) L (s05 0) = .ok ((hAt, cr5 ls), s') ∧ s'.nx = (hTk :: T).length := by
  have hl0 : Ly5 (hTk :: T) 1 (tS 11 :: (jq5 8 (ls.map tP) ++ [tS 10])) := fun k t ht => by
    have := Ly5.all hT k t ht
    rw [show 1 + k = k + 1 by omega, List.getElem?_cons_succ]
    rw [Nat.zero_add] at this
    exact this
  obtain ⟨u, hu, eu⟩ := hl0.head
  have ek : u.k = 11 := congrArg Tk.k eu
  have hat : at5 (hTk :: T) L (s05 0) = .ok (hAt, ⟨1, 0, 0, fun _ => none⟩) := at_bare (T := hTk :: T) (L := L) (s := s05 0) (t := hTk) (u := u) rfl rfl hu (by rw [ek]; decide) (by rw [ek]; decide)
  have hl1 := hl0.tail
  have hl2 := hl1.right
  have k10 := kA_ly hl2
  obtain ⟨u10, hu10, eu10⟩ := hl2.head
  have ek10 : u10.k = 10 := congrArg Tk.k eu10
  cases ls with
  | nil => exact absurd rfl hls
  | cons x r =>
    obtain ⟨s2, h1, h2, h3, -⟩ := listQ (one := lit5 (hTk :: T) L 17) (T := hTk :: T) (L := L) (b := 8) tP (fun _ y => wy5 y) (fun _ _ => True) (fun _ => True) 0 (fun _ _ _ _ _ => ⟨trivial, rfl⟩) (by decide) trivial x r ⟨2, 0, 0, fun _ => none⟩ rfl (fun y hy s' ho hs _ => by
      obtain ⟨s3, q1, q2, q3⟩ := part_lit (L := L) (f := 15) (hne y hy) (by rw [ho]; decide) hs
      exact ⟨s3, q1, q2, q3, trivial⟩) hl1.left (by
      show kA5 (hTk :: T) (2 + _) ≠ 8
      rw [k10]; decide) trivial
    have h2' : s2.nx = 2 + (jq5 8 ((x :: r).map tP)).length := h2
    have hc : conjOf5 (lit5 (hTk :: T) L 17) (hTk :: T) L ⟨2, 0, 0, fun _ => none⟩ = .ok (cr5 (x :: r), s2) := by
      unfold conjOf5
      rw [R5.and_ok h1]
      rfl
    have hb : bd5 (hTk :: T) L ⟨1, 0, 0, fun _ => none⟩ = .ok (cr5 (x :: r), s2) := by
      unfold bd5
      rw [if_pos (by rw [kd_at (s := ⟨1, 0, 0, fun _ => none⟩) (k := 0) hu]; exact ek), R5.and_ok (tk_at (s := ⟨1, 0, 0, fun _ => none⟩) hu (by rw [ek]; simp))]
      unfold altOf5
      rw [R5.and_ok (list_one hc (by rw [kd_kA]; show kA5 (hTk :: T) s2.nx ≠ 9; rw [h2', k10]; decide))]
      show Except.ok ([cr5 (x :: r)].flatten, s2) = _
      simp
    refine ⟨⟨s2.nx + 1, s2.op, s2.vs, s2.nm⟩, ?_, ?_⟩
    · unfold rh5
      rw [R5.and_ok hat, R5.and_ok hb, R5.and_ok (tk_at (t := u10) (by rw [h2']; exact hu10) (by rw [ek10]; simp))]
    · show s2.nx + 1 = _
      have := congrArg List.length hT
      rw [List.length_map, List.length_cons, List.length_append] at this
      rw [h2', List.length_cons, this]
      simp only [List.length_cons, List.length_nil]
      omega
end Go.Proofs.YtnikmcmkbjjcdaaGreatDoor
/-
  SyntaxAlts: PLAIN: the clauses that the text stands for are the law's list.
-/
namespace Go.Proofs.YtnikmcmkbjjcdaaGreatDoor
open Go.RowKit

/-- What the law lists, bracket by bracket. -/
def wl5 (bs : List ByteArray) : Nat → List (List ByteArray)
  | 0 => [[]]
  | j + 1 => (wl5 bs j).flatMap fun a => (nm5 ((bs[j]?).getD ⟨#[]⟩)).map fun x => a ++ [x]
theorem cross5_snoc {α : Type} (m : List (List α)) : ∀ l : List (List (List α)), cross5 (l ++ [m]) = (cross5 l).flatMap fun a => m.map fun b => a ++ b
  | [] => by
    rw [List.nil_append, cross5_cons, cross5_nil]
    simp
  | k :: l => by
    rw [List.cons_append, cross5_cons, cross5_snoc m l, cross5_cons, List.flatMap_assoc]
    congr 1
    funext a
    rw [List.map_flatMap, List.flatMap_map]
    congr 1
    funext b
    rw [List.map_map]
    simp [Function.comp_def]
theorem cr_wl (bs : List ByteArray) : ∀ j, j ≤ bs.length → cr5 ((bs.take j).map nm5) = (wl5 bs j).map fun l => l.map fun x => Lf5.a (nAt x)
  | 0, _ => rfl
  | j + 1, h => by
    have ih := cr_wl bs j (by omega)
    have hg : bs[j]? = some bs[j] := List.getElem?_eq_getElem (by omega)
    unfold cr5 at ih ⊢
    rw [List.take_add_one, hg, List.map_append, List.map_append]
    show cross5 (_ ++ [wy5 (nm5 bs[j])]) = _
    have e : wl5 bs (j + 1) = (wl5 bs j).flatMap fun a => (nm5 bs[j]).map fun x => a ++ [x] := by rw [wl5, hg]; rfl
    rw [cross5_snoc, ih, e, List.map_flatMap, List.flatMap_map]
    congr 1
    funext a
    unfold wy5
    rw [List.map_map, List.map_map]
    simp [Function.comp_def]
theorem flat_mul {α β γ : Type} (l : List α) (m : List β) (f : α → β → γ) : (l.flatMap fun a => m.map fun b => f a b).length = l.length * m.length := by
  induction l with
  | nil => simp
  | cons a l ih => rw [List.flatMap_cons, List.length_append, ih, List.length_map, List.length_cons, Nat.add_mul, Nat.one_mul, Nat.add_comm]
theorem wl5_len (bs : List ByteArray) (j : Nat) : (wl5 bs (j + 1)).length = (wl5 bs j).length * (nm5 ((bs[j]?).getD ⟨#[]⟩)).length := flat_mul _ _ _
theorem wl5_el (bs : List ByteArray) : ∀ j, ∀ l ∈ wl5 bs j, l.length = j ∧ ∀ x ∈ l, nameOk x = true
  | 0, l, h => by rw [List.mem_singleton.1 h]; exact ⟨rfl, fun x hx => by cases hx⟩
  | j + 1, l, h => by
    unfold wl5 at h
    obtain ⟨a, ha, h⟩ := List.mem_flatMap.1 h
    obtain ⟨x, hx, rfl⟩ := List.mem_map.1 h
    have ih := wl5_el bs j a ha
    refine ⟨by rw [List.length_append, ih.1]; rfl, fun y hy => ?_⟩
    rcases List.mem_append.1 hy with hy | hy
    · exact ih.2 y hy
    · rw [List.mem_singleton.1 hy]; exact nm5_ok _ x hx
theorem wl5_pos (bs : List ByteArray) : ∀ j, 1 ≤ (wl5 bs j).length
  | 0 => Nat.le_refl _
  | j + 1 => by
    rw [wl5_len]
    exact Nat.mul_pos (wl5_pos bs j) (nm5_len _).1
theorem wl5_le (bs : List ByteArray) : ∀ j, (wl5 bs j).length ≤ 9 ^ j
  | 0 => Nat.le_refl _
  | j + 1 => by
    rw [wl5_len, Nat.pow_succ]
    exact Nat.mul_le_mul (wl5_le bs j) (nm5_len _).2
theorem wl5_mono (bs : List ByteArray) (j : Nat) : (wl5 bs j).length ≤ (wl5 bs (j + 1)).length := by
  rw [wl5_len]
  exact Nat.le_mul_of_pos_right _ (nm5_len _).1
/-- A clause of names alone. -/
def kA (l : List ByteArray) : Ck := (hAt, l.map nAt, [])
theorem fa5_n : ∀ l : List ByteArray, fa5 (l.map fun x => Lf5.a (nAt x)) = l.map nAt ∧ ft5 (l.map fun x => Lf5.a (nAt x)) = []
  | [] => ⟨rfl, rfl⟩
  | x :: l => ⟨by show nAt x :: _ = _; rw [(fa5_n l).1]; rfl, (fa5_n l).2⟩
theorem ck_kA (l : List ByteArray) : ck5 hAt (l.map fun x => Lf5.a (nAt x)) = kA l := by unfold ck5 kA; rw [(fa5_n l).1, (fa5_n l).2]
theorem kA_terms (l : List ByteArray) : ∀ t ∈ Ck.terms (kA l), t = zt := fun t ht => by
  unfold Ck.terms kA at ht
  rcases List.mem_append.1 ht with ht | ht
  · exact List.mem_singleton.1 ht
  · rcases List.mem_append.1 ht with ht | ht
    · obtain ⟨a, ha, hta⟩ := List.mem_flatMap.1 ht
      obtain ⟨x, hx, rfl⟩ := List.mem_map.1 (show a ∈ l.map nAt from ha)
      exact List.mem_singleton.1 hta
    · cases ht
theorem kA_vrs (l : List ByteArray) : vrs (Ck.terms (kA l)) = [] := by
  unfold vrs
  rw [List.map_eq_nil_iff, List.filter_eq_nil_iff]
  intro t ht
  rw [kA_terms l t ht]
  decide
theorem kA_norm (l : List ByteArray) : normC (kA l) = kA l := norm_id (by rw [kA_vrs]; rfl)
theorem hAt_ok : nameOk (ofL [104]) = true := by decide
theorem nAt_err {x : ByteArray} (h : nameOk x = true) : (nAt x).err = 0 := err_zero h (Nat.zero_le _) qual_zt (fun t ht => by cases ht)
theorem kA_ch {l : List ByteArray} (h8 : l.length ≤ 8) (hn : ∀ x ∈ l, nameOk x = true) : ch5 (kA l) = 0 := by
  have e : Cm.key ⟨((kA l).1, .slice none 0 0), (kA l).2.1.map fun a => (a, .slice none 0 0), .slice none 0 0, (kA l).2.2, .slice none 0 0⟩ = kA l := by simp [Cm.key, fsts, Function.comp_def]
  unfold ch5
  refine chk_zero ?_ ?_ ?_ ?_ ?_ ?_ ?_
  · rw [e]
    intro a ha
    rcases List.mem_cons.1 ha with rfl | ha
    · exact nAt_err hAt_ok
    · obtain ⟨x, hx, rfl⟩ := List.mem_map.1 (show a ∈ l.map nAt from ha)
      exact nAt_err (hn x hx)
  · rw [e]; intro a ha; cases ha
  · rw [e]; show (l.map nAt).length ≤ 8; rw [List.length_map]; exact h8
  · rw [e]; exact Nat.zero_le _
  · rw [e]; rfl
  · rw [e]
    intro t ht hv
    have h1 : t ∈ Ck.terms (kA l) := by
      unfold Ck.terms
      rcases List.mem_append.1 ht with ht | ht
      · exact List.mem_append_left _ ht
      · exact List.mem_append_right _ (List.mem_append_right _ ht)
    rw [kA_terms l t h1] at hv
    cases hv
  · rw [e, kA_vrs]; rfl
theorem cls_kA (p : Int) : ∀ (ls : List (List ByteArray)) (acc : List Ck), (∀ l ∈ ls, l.length ≤ 8 ∧ ∀ x ∈ l, nameOk x = true) → cls5 p hAt (ls.map fun l => l.map fun x => Lf5.a (nAt x)) acc = .ok (acc ++ ls.map kA)
  | [], acc, _ => by show Except.ok acc = _; rw [List.map_nil, List.append_nil]
  | l :: ls, acc, h => by
    obtain ⟨h1, h2⟩ := h l (List.mem_cons_self ..)
    rw [List.map_cons, cls5, ck_kA, kA_norm, if_pos (kA_ch h1 h2), cls_kA p ls _ fun x hx => h x (List.mem_cons_of_mem _ hx)]
    simp
/-- What the text says. -/
theorem pg_txA {bs : List ByteArray} (h0 : bs ≠ []) (h8 : bs.length ≤ 8) : pg5 (txA bs) 1048576 = if 64 < (wl5 bs bs.length).length then .error (53, 2) else .ok ((wl5 bs bs.length).map kA) := by
  obtain ⟨T, hc, hT⟩ := cut_txA bs h8
  obtain ⟨s', h1, h2⟩ := rh_txA (L := (txA bs).size) (ls := bs.map nm5) (by simpa using h0) (fun l hl => by
    obtain ⟨s, -, rfl⟩ := List.mem_map.1 hl
    have := (nm5_len s).1
    intro e
    rw [e] at this
    exact absurd this (by decide)) (by rw [hT, List.map_map]; rfl)
  have hw := cr_wl bs bs.length (Nat.le_refl _)
  rw [List.take_length] at hw
  rw [hw] at h1
  have hp : pl5 (hTk :: T) (txA bs).size (s05 0) = 2 := rfl
  rw [pg5_cut hc]
  by_cases hm : 64 < (wl5 bs bs.length).length
  · rw [if_pos hm, pp5_err (e := (53, 2)) (by simp)]
    unfold rl5
    rw [h1]
    simp only [List.length_map]
    rw [if_pos hm, hp]
  · rw [if_neg hm]
    have hr : rl5 (hTk :: T) (txA bs).size 0 = .ok ((wl5 bs bs.length).map kA, (hTk :: T).length) := by
      unfold rl5
      rw [h1]
      simp only [List.length_map]
      rw [if_neg hm, cls_kA _ _ _ fun l hl => ⟨by rw [(wl5_el bs _ l hl).1]; exact h8, (wl5_el bs _ l hl).2⟩, h2]
      rfl
    rw [pp5_ok (by simp) hr, pp5_end (Nat.le_refl _)]
    rfl
end Go.Proofs.YtnikmcmkbjjcdaaGreatDoor

/-
  law 7: lists that are kept (plain); append that leaves the elder list as it was.
-/
import Derived.Test.YtofopfjmcbgfjaaRH0
import Derived.Deep.RegionLawGrows
namespace Go.Proofs.Ytofopfjmcbgfjaa
open Go.RowKit Go.Shelf

/-- One more behind a list of the call's own: in its block, or in a new one. -/
theorem step_pair7 {P : Program} {w : World} {ops : Array Oper} {o : Oper} {a : Act} {Kn : Act → World → Prop} {Q : Exit → Act → World → Prop} {E : Prop} (hgd : o.guard = none) (s x : Operand) (t : TypeId)
    (ho : o.op = .call { callee := .builtin .append, args := #[s, x], argTypes := #[t, t] })
    (base : Nat) (e : TypeId) (i : TypeInfo) (z : Value) (size bytes : Nat) (ht : P.underlying t = some (.slice e)) (hi : P.info? e = some i) (hz : i.zero = some z)
    (hsize : i.size = size) (hby : i.bytes = bytes) (hzs : z.cells.size = size) (hsz : 0 < size)
    (v : Value) (n : Nat) (xs : List Value) (hs : a.eval s = v) (hown : w.ownsRow base e size v n xs)
    (b : Nat) (news : Array Value) (hx : a.eval x = .slice (some ⟨b, 0, none⟩) 1 1) (hl : news.size = size) (hblk : w.heap[b]? = some (.cells news e (0, 0))) (h1 : ∀ u ∈ news.toList, u.oneCell' = true)
    (h63 : n + 1 ≤ 1200000000000) (hby2 : bytes ≤ 100) (hbase : base ≤ w.heap.size)
    (h : ∀ v' w', w'.ownsRow base e size v' (n + 1) (xs ++ news.toList) → ((∃ g cap, v = .slice (some ⟨g, 0, none⟩) n cap ∧ v' = .slice (some ⟨g, 0, none⟩) (n + 1) cap ∧ w.grownBy w' (some g)) ∨ (w.grownBy w' none ∧ ∀ k, v'.ownBlock = some k → w.heap.size ≤ k)) → Kn (a.put o.dst v') w') :
    if Region.wanted o (yielded ops a.tmps) = true then Oper.wp P o a w Kn Q else E := by
  have hnews : ∀ j u, news.toList[j]? = some u → w.cell? ((⟨b, 0, none⟩ : Addr).add j) = some u := World.news_of_block hblk
  have hlen : news.toList.length = 1 * size := by rw [Array.length_toList, hl, Nat.one_mul]
  have hb63 : n + 1 ≤ maxLen := by unfold maxLen; omega
  have hbb : (n + 1) * bytes ≤ 140737488355328 := Nat.le_trans (Nat.mul_le_mul h63 hby2) (by decide)
  have grows : ∀ (ao : Option Addr) (cap : Nat), v = .slice ao n cap → (ao = none → n = 0 ∧ cap = 0) → (∀ b, ao = some b → ∀ j u, xs[j]? = some u → w.cell? (b.add j) = some u) → cap < n + 1 → if Region.wanted o (yielded ops a.tmps) = true then Oper.wp P o a w Kn Q else E := fun ao cap hv hno hold hfull => by
    refine step_append_grows hgd s x t ho e i z size bytes ht hi hz hsize hby hzs hsz ao n cap xs (hs.trans hv) hno hown.1 hold ⟨b, 0, none⟩ 1 1 news.toList hx hlen hnews h1 hfull hb63 hbb fun v' w' h2 h3 => ?_
    refine h v' w' ?_ (Or.inr ⟨h3, fun k hk => (World.ownsRow.lt h2 k hk).1⟩)
    refine ⟨h2.1, ?_⟩
    rcases h2.2 with h4 | ⟨g, c, cur, h5, h6, h7⟩
    · exact Or.inl h4
    · exact Or.inr ⟨g, c, cur, h5, Nat.le_trans hbase h6, h7⟩
  rcases hown.2 with ⟨hv, hn⟩ | ⟨g, cap, cur, hv, hbg, hg, hnc, hcm, hcs, htake⟩
  · subst hn
    exact grows none 0 hv (fun _ => ⟨rfl, rfl⟩) (fun b e => by cases e) (by omega)
  · by_cases hroom : n + 1 ≤ cap
    · have hw : Region.wanted o (yielded ops a.tmps) = true := by simp [Region.wanted, hgd]
      rw [if_pos hw]
      have hown2 : w.ownsRow base e size (.slice (some ⟨g, 0, none⟩) n cap) n xs := by rw [← hv]; exact hown
      obtain ⟨w', hrun, r1, r2⟩ := run_append_fits (P := P) w base t o.type e i size ht hi hsize g n cap xs hown2 ⟨b, 0, none⟩ 1 1 news.toList hlen hnews h1 hroom
      have hs2 : a.eval s = .slice (some ⟨g, 0, none⟩) n cap := hs.trans hv
      unfold Oper.wp
      simp [execOp, ho, resolve, invoke, builtin, hs2, hx, hrun, Result.andThen]
      exact h _ _ r1 (Or.inl ⟨g, cap, hv, rfl, r2⟩)
    · refine grows (some ⟨g, 0, none⟩) cap hv (fun e => by cases e) (fun b e j u hu => ?_) (by omega)
      cases e
      have hj : j < n * size := by rw [← hown.1]; exact (List.getElem?_eq_some_iff.1 hu).1
      have hadd : (⟨g, 0, none⟩ : Addr).add j = ⟨g, j, none⟩ := by unfold Addr.add; split <;> simp_all
      rw [hadd, cell_of_row w g j cur e (0, 0) hg]
      rw [← htake, List.getElem?_take_of_lt hj] at hu
      simpa using hu
theorem row7_front {w : World} {base size g n k cap : Nat} {e : TypeId} {xs ys : List Value} (h : w.ownsRow base e size (.slice (some ⟨g, 0, none⟩) (n + k) cap) (n + k) (xs ++ ys)) (hx : xs.length = n * size) : w.ownsRow base e size (.slice (some ⟨g, 0, none⟩) n cap) n xs := by
  refine ⟨hx, ?_⟩
  rcases h.2 with ⟨hv, -⟩ | ⟨g', cap', cur, hv, hb, hg, hn, hc, hs, ht⟩
  · simp at hv
  · simp only [Value.slice.injEq, Option.some.injEq, Addr.mk.injEq] at hv
    obtain ⟨⟨rfl, -⟩, -, rfl⟩ := hv
    refine Or.inr ⟨g, cap, cur, rfl, hb, hg, by omega, hc, hs, ?_⟩
    have h1 := congrArg (List.take (n * size)) ht
    rw [List.take_take, List.take_left' hx] at h1
    rw [Nat.min_eq_left (Nat.mul_le_mul_right _ (by omega))] at h1
    exact h1
/-- The mark of the list number j. -/
def mrk (m : Int) (j : Nat) : Int := -1000 * m - (j : Int) - 1
theorem mrk_wf {m : Int} {j : Nat} (h0 : 0 ≤ m) (h1 : m ≤ 100) (hj : j ≤ 1000000000000) : (Lit.int .i64 (mrk m j)).wf = true := by
  simp only [Lit.wf, mrk, Bool.and_eq_true]
  refine ⟨decide_eq_true ?_, decide_eq_true ?_⟩
  · show -9223372036854775808 ≤ _; omega
  · show _ ≤ 9223372036854775807; omega
theorem rep_wf {n : Nat} {M : Int} (h : (Lit.int .i64 M).wf = true) : w64 (List.replicate n M) := fun x hx => by rw [List.eq_of_mem_replicate hx]; exact h
theorem OD.apart {w : World} {B i j b : Nat} {v : Value} {P : List (List Int × Value)} {p q : List Int × Value} (h : OD w B v P) (hp : P[i]? = some p) (hq : P[j]? = some q) (hij : i ≠ j) (hb : p.2.ownBlock = some b) : q.2.ownBlock ≠ some b := by
  have hd := List.pairwise_iff_getElem.1 h.d
  have hi := (List.getElem?_eq_some_iff.1 hp)
  have hj := (List.getElem?_eq_some_iff.1 hq)
  obtain ⟨hi1, hi2⟩ := hi
  obtain ⟨hj1, hj2⟩ := hj
  rcases Nat.lt_or_gt_of_ne hij with hl | hl
  · have := hd i j (by simpa using hi1) (by simpa using hj1) hl b
    simp only [List.getElem_map, hi2, hj2] at this
    exact this hb
  · have := hd j i (by simpa using hj1) (by simpa using hi1) hl b
    simp only [List.getElem_map, hi2, hj2] at this
    exact fun hc => this hc hb
theorem set_snd {P : List (List Int × Value)} {i : Nat} {p : List Int × Value} (hp : P[i]? = some p) (x : List Int) : (P.set i (x, p.2)).map Prod.snd = P.map Prod.snd := by
  apply List.ext_getElem?
  intro j
  rw [List.getElem?_map, List.getElem?_map, List.getElem?_set]
  by_cases h : i = j
  · subst h
    rw [if_pos rfl, if_pos (List.getElem?_eq_some_iff.1 hp).1, hp]
    rfl
  · rw [if_neg h]
/-- One row written over in its own block. -/
theorem OD.set {w w' : World} {B i : Nat} {v : Value} {P : List (List Int × Value)} {p : List Int × Value} {x : List Int} (h : OD w B v P) (hp : P[i]? = some p) (hf : Fr (fun b => p.2.ownBlock = some b) w w') (ho : OwI w' B p.2 x) (hw : w64 x) : OD w' B v (P.set i (x, p.2)) := by
  have hs := set_snd hp x
  have hmem := List.mem_of_getElem? hp
  refine ⟨?_, fun q hq => ?_, fun q hq b hb => ?_, by rw [hs]; exact h.d⟩
  · rw [hs, List.length_set]; exact row7_fr h.o hf fun b hb hc => h.n p hmem b hc hb
  · obtain ⟨j, hj⟩ := List.mem_iff_getElem?.1 hq
    rw [List.getElem?_set] at hj
    by_cases e : i = j
    · rw [if_pos e] at hj
      split at hj
      · cases hj; exact ⟨ho, hw⟩
      · cases hj
    · rw [if_neg e] at hj
      have hq' := h.l q (List.mem_of_getElem? hj)
      exact ⟨row7_fr hq'.1 hf fun b hb hc => h.apart hp hj e hc hb, hq'.2⟩
  · obtain ⟨j, hj⟩ := List.mem_iff_getElem?.1 hq
    rw [List.getElem?_set] at hj
    by_cases e : i = j
    · rw [if_pos e] at hj
      split at hj
      · cases hj; exact h.n p hmem b hb
      · cases hj
    · rw [if_neg e] at hj
      exact h.n q (List.mem_of_getElem? hj) b hb
/-- The first i rows bear their marks. -/
def mrkd (m : Int) : Nat → List (List Int × Value) → List (List Int × Value)
  | 0, P => P
  | i + 1, P => match P[i]? with
    | some p => (mrkd m i P).set i (List.replicate p.1.length (mrk m i), p.2)
    | none => mrkd m i P
theorem mrkd_len (m : Int) (P : List (List Int × Value)) : ∀ i, (mrkd m i P).length = P.length
  | 0 => rfl
  | i + 1 => by
    unfold mrkd
    split
    · rw [List.length_set]; exact mrkd_len m P i
    · exact mrkd_len m P i
theorem mrkd_at (m : Int) (P : List (List Int × Value)) {j : Nat} {p : List Int × Value} (hp : P[j]? = some p) : ∀ i, (mrkd m i P)[j]? = some (if j < i then (List.replicate p.1.length (mrk m j), p.2) else p)
  | 0 => by rw [if_neg (by omega)]; exact hp
  | i + 1 => by
    have ih := mrkd_at m P hp i
    have hl := (List.getElem?_eq_some_iff.1 hp).1
    unfold mrkd
    cases hq : P[i]? with
    | some q =>
      simp only
      rw [List.getElem?_set]
      by_cases e : i = j
      · subst e
        rw [hq] at hp
        cases hp
        rw [if_pos rfl, if_pos (by rw [mrkd_len]; exact hl), if_pos (by omega)]
      · rw [if_neg e, ih]
        by_cases h : j < i
        · rw [if_pos h, if_pos (by omega)]
        · rw [if_neg h, if_neg (by omega)]
    | none =>
      simp only
      rw [ih]
      have := List.getElem?_eq_none_iff.1 hq
      rw [if_pos (by omega), if_pos (by omega)]
theorem mrkd_snd (m : Int) (P : List (List Int × Value)) : ∀ i, (mrkd m i P).map Prod.snd = P.map Prod.snd
  | 0 => rfl
  | i + 1 => by
    unfold mrkd
    cases hq : P[i]? with
    | some q =>
      simp only
      have h := mrkd_at m P hq i
      rw [if_neg (by omega)] at h
      rw [set_snd h]
      exact mrkd_snd m P i
    | none => exact mrkd_snd m P i
/-- What lend lays for a list: the list, the list and one more, the mark. -/
structure Kp where
  L : Value
  G : Value
  M : Int
  n : Nat
def Kp.cs (k : Kp) : List Value := [k.L, k.G, .int .i64 k.M]
def kps (l : List Kp) : List Value := l.flatMap Kp.cs
theorem kps_len (l : List Kp) : (kps l).length = l.length * 3 := by
  induction l with
  | nil => rfl
  | cons a l ih => simp only [kps, List.flatMap_cons, List.length_append] at ih ⊢; rw [ih]; simp [Kp.cs]; omega
theorem kps_app (l k : List Kp) : kps (l ++ k) = kps l ++ kps k := by simp [kps]
def Kp.ok (X : Nat → Prop) (W : World) (k : Kp) : Prop := Li X W k.L (List.replicate k.n k.M) ∧ Li X W k.G (List.replicate (k.n + 1) k.M)
theorem Kp.ok.fr {X Pd : Nat → Prop} {W W' : World} {k : Kp} (h : Kp.ok X W k) (hf : Fr Pd W W') (hn : ∀ b, b < W.heap.size → X b → ¬ Pd b) : Kp.ok X W' k := ⟨h.1.fr hf hn, h.2.fr hf hn⟩
theorem Kp.ok.mono {X Y : Nat → Prop} {W : World} {k : Kp} (h : Kp.ok X W k) (hn : ∀ b, b < W.heap.size → X b → Y b) : Kp.ok Y W k := ⟨h.1.mono hn, h.2.mono hn⟩
end Go.Proofs.Ytofopfjmcbgfjaa

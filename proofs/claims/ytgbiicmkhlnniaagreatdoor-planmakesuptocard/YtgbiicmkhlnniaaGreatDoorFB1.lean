import Derived.Test.YtgbiicmkhlnniaaGreatDoorFA8
/-
  plan: best.
-/
namespace Go.Proofs.YtgbiicmkhlnniaaGreatDoor
open Go.RowKit
attribute [local go_sem ↓] Go.wp_at_zero Go.wp_at_succ

/-- The better of two. -/
def bt9 (c : Cm) (met : List Bool) (m y : Int) : Int := if bc9 c met y.toNat m.toNat < 0 then y else m
/-- The best of a list. -/
def mn9 (c : Cm) (met : List Bool) : List Int → Int
  | [] => 0
  | x :: l => l.foldl (bt9 c met) x
theorem mn9_take {c : Cm} {met : List Bool} {A : List Int} {j : Nat} {y : Int} (hj : 0 < j) (hy : A[j]? = some y) : mn9 c met (A.take (j + 1)) = bt9 c met (mn9 c met (A.take j)) y := by
  cases A with
  | nil => simp at hy
  | cons x l =>
    obtain ⟨j, rfl⟩ : ∃ j', j = j' + 1 := ⟨j - 1, by omega⟩
    rw [List.getElem?_cons_succ] at hy
    rw [List.take_succ_cons, List.take_succ_cons, List.take_add_one, hy]
    simp [mn9]
theorem mn9_mem (c : Cm) (met : List Bool) {A : List Int} (h : A ≠ []) : mn9 c met A ∈ A := by
  cases A with
  | nil => exact absurd rfl h
  | cons x l =>
    have : ∀ (l : List Int) (m : Int), l.foldl (bt9 c met) m = m ∨ l.foldl (bt9 c met) m ∈ l := by
      intro l
      induction l with
      | nil => intro m; exact Or.inl rfl
      | cons y l ih =>
        intro m
        rw [List.foldl_cons]
        rcases ih (bt9 c met m y) with e | e
        · rw [e]
          unfold bt9
          split
          · exact Or.inr (List.mem_cons_self ..)
          · exact Or.inl rfl
        · exact Or.inr (List.mem_cons_of_mem _ e)
    show l.foldl (bt9 c met) x ∈ x :: l
    rcases this l x with e | e
    · rw [e]; exact List.mem_cons_self ..
    · exact List.mem_cons_of_mem _ e
set_option maxRecDepth 20000 in
set_option maxHeartbeats 4000000 in
theorem min9_any (w0 : World) (g : Nat) (c : Cm) (mv tv : Value) (va : Option Addr) (cap : Nat) (met : List Bool) (A T : List Int) (Y : World) (h : PN9 w0 g c mv (.slice va A.length cap) tv met A T Y) (s : Nat) (hs : s < Y.heap.size) (hsc : Y.cell? ⟨s, 0, none⟩ = some (.pointer (some ⟨g, 0, none⟩))) (hA : A ≠ []) (hl : A.length ≤ 1000000) (hd : Bd9 c met.length A) :
    Calls Tryz.prog 61 #[.slice va A.length cap, .func (.func 62) #[] #[.pointer (some ⟨s, 0, none⟩)]] Y fun e Y' => e = .returned (.int .i64 (mn9 c met A)) ∧ Below Y.heap.size Y Y' := by
  have H := hm7 h
  have HD := hm7 hd
  have HS := hm7 (And.intro hs hsc)
  have hpos : 0 < A.length := List.length_pos_iff.2 hA
  obtain ⟨x0, hx0⟩ : ∃ x0, A[0]? = some x0 := ⟨_, List.getElem?_eq_getElem hpos⟩
  have HZ : Hid (mn9 c met (A.take 1) = x0) := by show _ = _; cases A with
    | nil => simp at hx0
    | cons a l => simp at hx0; simp [mn9, hx0]
  have ha := h.a
  obtain ⟨gb, rfl, -, hgb, p0, -⟩ := row7_at ha (i := 0) (u := .int .i64 x0) (by simp only [ibs7, List.getElem?_map, hx0]; rfl)
  have HA := hm7 ha
  obtain ⟨N, hN⟩ : ∃ N, A.length = N := ⟨_, rfl⟩
  have HN := hm7 hN
  rw [hN] at hl hpos ⊢
  have hk1 : ¬ (N : Int) < 1 := by omega
  have hk2 : (0 : Int) < (N : Int) := by omega
  clear h hd hs hsc hA ha hx0 hN
  go_enter Tryz.func61, Tryz.ntmps61
  go_upto_region 5 with fail
  go_loopg [6, 5] (N - 1) (fun gg iv m wr => ∃ j : Nat, j + gg = N ∧ 0 < j ∧ iv = .int .i64 j ∧ m = .int .i64 (mn9 c met (A.take j)) ∧ Below Y.heap.size Y wr)
  case atStart => exact ⟨1, by omega, by omega, rfl, by rw [HZ.out], Below.refl _ _⟩
  case round =>
    obtain ⟨j, hj, hj0, rfl, rfl, hb⟩ := hrel
    have HB := hm7 hb
    cases gk with
    | succ gg =>
      have hlt : (j : Int) < (N : Int) := by omega
      have j0 : (0 : Int) ≤ (j : Int) := by omega
      obtain ⟨y, hy⟩ : ∃ y, A[j]? = some y := ⟨_, List.getElem?_eq_getElem (by have := HN.out; omega)⟩
      have hmm : mn9 c met (A.take j) ∈ A := List.mem_of_mem_take (mn9_mem c met (A := A.take j) (by
        intro e
        have h1 := congrArg List.length e
        rw [List.length_take, List.length_nil] at h1
        have h2 := HN.out
        omega))
      obtain ⟨i, x, rfl, hbx, hvx⟩ := HD.out y (List.mem_of_getElem? hy)
      obtain ⟨m, z, hm, hbz, hvz⟩ := HD.out _ hmm
      obtain ⟨q0, q1⟩ : gb < Y.heap.size ∧ Y.cell? ⟨gb, j, none⟩ = some (.int .i64 (i : Int)) := by
        obtain ⟨g', e, -, h1, h2, -⟩ := row7_at HA.out (i := j) (u := .int .i64 (i : Int)) (by simp only [ibs7, List.getElem?_map, hy]; rfl)
        simp only [Option.some.injEq, Addr.mk.injEq, and_true] at e
        rw [← e] at h1 h2
        exact ⟨h1, h2⟩
      have p1 := cell_step hb q0 q1
      have HNX : Hid (mn9 c met (A.take (j + 1)) = if bc9 c met i m < 0 then (i : Int) else (m : Int)) := by show _ = _; rw [mn9_take hj0 hy, hm]; simp [bt9]
      have HCB := hm7 (bcmp9_any w0 g c mv _ tv met A T wr (H.out.below hb) s (Nat.lt_of_lt_of_le HS.out.1 hb.size) (cell_step hb HS.out.1 HS.out.2) i m x z hbx hbz hvx hvz)
      obtain ⟨o, ho⟩ : ∃ o, bc9 c met i m = o := ⟨_, rfl⟩
      rw [ho] at HCB HNX
      rw [hm]
      clear hb hmm hbx hvx hbz hvz hm hy q0 q1 ho
      by_cases hc : o < 0
      · have HNY : Hid (mn9 c met (A.take (j + 1)) = (i : Int)) := by have := HNX.out; rwa [if_pos hc] at this
        go_wp2_with (go_at_call 62; refine HCB.out.mono ?_; rintro e w1 ⟨rfl, hb1⟩; have HB1 := hm7 (HB.out.trans (hb1.mono HB.out.size)); have p2 := cell_step hb1 (Nat.lt_of_lt_of_le (World.ownsRow.lt HA.out gb rfl).2 HB.out.size) p1; clear hb1)
        go_roundg gg
        case measure => omega
        case rel => exact ⟨j + 1, by omega, by omega, by go_num, by rw [HNY.out], HB1.out⟩
      · have HNY : Hid (mn9 c met (A.take (j + 1)) = (m : Int)) := by have := HNX.out; rwa [if_neg hc] at this
        go_wp2_with (go_at_call 62; refine HCB.out.mono ?_; rintro e w1 ⟨rfl, hb1⟩; have HB1 := hm7 (HB.out.trans (hb1.mono HB.out.size)); clear hb1)
        go_roundg gg
        case measure => omega
        case rel => exact ⟨j + 1, by omega, by omega, by go_num, by rw [HNY.out], HB1.out⟩
    | zero =>
      have hlt : ¬ (j : Int) < (N : Int) := by omega
      obtain rfl : j = N := by omega
      have HT : Hid (A.take j = A) := List.take_of_length_le (by have := HN.out; omega)
      clear hb
      go_wp2
      go_ret
      exact ⟨ret_i (by rw [HT.out]), HB.out⟩
set_option maxRecDepth 20000 in
set_option maxHeartbeats 4000000 in
theorem best9_any (w0 : World) (g : Nat) (c : Cm) (mv av tv : Value) (met : List Bool) (A T : List Int) (Y : World) (h : PN9 w0 g c mv av tv met A T Y) (hA : A ≠ []) (hl : A.length ≤ 1000000) (hd : Bd9 c met.length A) :
    Calls Tryz.prog 35 #[.pointer (some ⟨g, 0, none⟩)] Y fun e Y' => e = .returned (.int .i64 (mn9 c met A)) ∧ Below Y.heap.size Y Y' := by
  obtain ⟨va, cap, hav, -⟩ := row7_form h.a
  subst hav
  have hb0 := below1 Y (.cells #[.pointer (some ⟨g, 0, none⟩)] 48)
  have bk := Bk.new Y #[.pointer (some ⟨g, 0, none⟩)] 48
  have HM := hm7 (min9_any w0 g c mv tv va cap met A T (Y.alloc (.cells #[.pointer (some ⟨g, 0, none⟩)] 48)) (h.below hb0) Y.heap.size bk.lt (bk.cell rfl) hA hl hd)
  have c8 := (h.below hb0).b.cell (i := 8) rfl
  have HB0 := hm7 hb0
  clear h hd bk hb0
  go_enter Tryz.func35, Tryz.ntmps35
  go_wp2_with (go_at_call 61; refine HM.out.mono ?_; rintro e w1 ⟨rfl, hb1⟩; have HB1 := hm7 hb1; clear hb1)
  go_ret
  exact ⟨rfl, HB0.out.trans (HB1.out.mono HB0.out.size)⟩
end Go.Proofs.YtgbiicmkhlnniaaGreatDoor
/-
  plan: the joins in memory; plan's state.
-/
namespace Go.Proofs.YtgbiicmkhlnniaaGreatDoor
open Go.RowKit
attribute [local go_sem ↓] Go.wp_at_zero Go.wp_at_succ

/-- A join: its atom, its known columns, its tests. -/
structure Js9 where
  n : Int
  k : List Int
  t : List Int
def pls9 (c : Cm) (n : Nat) : List Tm := match c.body[n]? with
  | some x => x.1.pl
  | none => []
def jm9 (c : Cm) (met : List Bool) (n : Nat) : List Bool := mt9 met (vs (pls9 c n))
def jA9 (A : List Int) (n : Nat) : List Int := A.filter fun x => !decide (x = (n : Int))
def jT9 (c : Cm) (met : List Bool) (T : List Int) (n : Nat) : List Int := T.filter fun m => !tk9 c (jm9 c met n) m
def jr9 (c : Cm) (met : List Bool) (T : List Int) (n : Nat) : Js9 := ⟨n, kc9 met (pls9 c n) (pls9 c n).length, T.filter (tk9 c (jm9 c met n))⟩
/-- The joins from a state on. -/
def pln9 (c : Cm) : Nat → List Bool → List Int → List Int → List Js9
  | 0, _, _, _ => []
  | f + 1, met, A, T => jr9 c met T (mn9 c met A).toNat :: pln9 c f (jm9 c met (mn9 c met A).toNat) (jA9 A (mn9 c met A).toNat) (jT9 c met T (mn9 c met A).toNat)
def jc9 (l : List (Js9 × Value × Value)) : List Value := l.flatMap fun x => [.int .i64 x.1.n, x.2.1, x.2.2]
theorem row9_fr {P : Nat → Prop} {w w' : World} {base n m : Nat} {e : TypeId} {v : Value} {xs : List Value} (h : w.ownsRow base e n v m xs) (hf : Fr P w w') (hP : ∀ b, P b → b < base ∨ ∃ cur t, Bk w b cur t ∧ e ≠ t) : w'.ownsRow base e n v m xs := row7_fr h hf fun b hb hc => by
  rcases hP b hc with h1 | ⟨cur, t, h1, h2⟩
  · have := (World.ownsRow.lt h b hb).1; omega
  · obtain ⟨c', hk⟩ := row7_blk h hb
    exact h2 (hk.ty h1)
/-- A row of joins, each with lists of its own. -/
structure PJ9 (Y : World) (base : Nat) (v : Value) (l : List (Js9 × Value × Value)) : Prop where
  o : Y.ownsRow base 57 3 v l.length (jc9 l)
  k : ∀ x ∈ l, OwI Y base x.2.1 x.1.k
  t : ∀ x ∈ l, OwI Y base x.2.2 x.1.t
theorem PJ9.fr {P : Nat → Prop} {Y Y' : World} {base : Nat} {v : Value} {l : List (Js9 × Value × Value)} (h : PJ9 Y base v l) (hf : Fr P Y Y') (hP : ∀ b, P b → b < base ∨ ∃ cur t, Bk Y b cur t ∧ 3 ≠ t ∧ 57 ≠ t) : PJ9 Y' base v l :=
  ⟨row9_fr h.o hf fun b hb => (hP b hb).imp id fun ⟨cur, t, h1, _, h3⟩ => ⟨cur, t, h1, h3⟩,
    fun x hx => row9_fr (h.k x hx) hf fun b hb => (hP b hb).imp id fun ⟨cur, t, h1, h2, _⟩ => ⟨cur, t, h1, h2⟩,
    fun x hx => row9_fr (h.t x hx) hf fun b hb => (hP b hb).imp id fun ⟨cur, t, h1, h2, _⟩ => ⟨cur, t, h1, h2⟩⟩
theorem PJ9.mono {Y : World} {base base' : Nat} {v : Value} {l : List (Js9 × Value × Value)} (h : PJ9 Y base v l) (hb : base' ≤ base) : PJ9 Y base' v l := ⟨row7_mono h.o hb, fun x hx => OwI.mono (h.k x hx) hb, fun x hx => OwI.mono (h.t x hx) hb⟩
theorem PJ9.app {Y Y' : World} {base m : Nat} {v v' : Value} {l : List (Js9 × Value × Value)} {x : Js9 × Value × Value} (h : PJ9 Y base v l) (hm : l.length = m) (hk : OwI Y base x.2.1 x.1.k) (ht : OwI Y base x.2.2 x.1.t) (ho : Y'.ownsRow base 57 3 v' (m + 1) (jc9 l ++ [.int .i64 x.1.n, x.2.1, x.2.2])) (hf : Fr (fun b => v.ownBlock = some b) Y Y') : PJ9 Y' base v' (l ++ [x]) := by
  have hP : ∀ b, v.ownBlock = some b → b < base ∨ ∃ cur t, Bk Y b cur t ∧ 3 ≠ t := fun b hb => by
    obtain ⟨cur, hk⟩ := row7_blk h.o hb
    exact Or.inr ⟨cur, _, hk, by decide⟩
  refine ⟨?_, fun y hy => ?_, fun y hy => ?_⟩
  · rw [List.length_append, hm, show jc9 (l ++ [x]) = jc9 l ++ [.int .i64 x.1.n, x.2.1, x.2.2] by simp [jc9]]
    exact ho
  · rcases List.mem_append.1 hy with hy | hy
    · exact row9_fr (h.k y hy) hf hP
    · rw [List.mem_singleton.1 hy]; exact row9_fr hk hf hP
  · rcases List.mem_append.1 hy with hy | hy
    · exact row9_fr (h.t y hy) hf hP
    · rw [List.mem_singleton.1 hy]; exact row9_fr ht hf hP
theorem PN9.offP {P : Nat → Prop} {w0 : World} {g : Nat} {c : Cm} {mv av tv : Value} {met : List Bool} {A T : List Int} {Y Y' : World} (h : PN9 w0 g c mv av tv met A T Y) (hf : Fr P Y Y') (hP : ∀ b, P b → w0.heap.size ≤ b ∧ ∃ cur t, Bk Y b cur t ∧ 3 ≠ t ∧ 4 ≠ t ∧ 80 ≠ t) : PN9 w0 g c mv av tv met A T Y' := by
  refine ⟨h.b.fr hf fun e => ?_, row9_fr h.m hf fun b hb => ?_, row9_fr h.a hf fun b hb => ?_, row9_fr h.t hf fun b hb => ?_, h.ne, h.ok, h.tp, h.lo, h.be.trans (Fr.low (hf.mono (Q := fun b => w0.heap.size ≤ b) fun b _ e => (hP b e).1) h.be.size)⟩
  · obtain ⟨-, cur, t, h1, -, -, h2⟩ := hP g e
    exact h2 (h.b.ty h1)
  · obtain ⟨-, cur, t, h1, -, h2, -⟩ := hP b hb
    exact Or.inr ⟨cur, t, h1, h2⟩
  · obtain ⟨-, cur, t, h1, h2, -⟩ := hP b hb
    exact Or.inr ⟨cur, t, h1, h2⟩
  · obtain ⟨-, cur, t, h1, h2, -⟩ := hP b hb
    exact Or.inr ⟨cur, t, h1, h2⟩
/-- plan amid its work: the planner in block g, what is answered in block ob, the result's block rb. -/
structure LS9 (w0 : World) (g ob rb B0 mn : Nat) (c : Cm) (mv ahv : Value) (AH : List Int) (av tv : Value) (met : List Bool) (A T : List Int) (jv : Value) (l : List (Js9 × Value × Value)) (Y : World) : Prop where
  pn : PN9 w0 g c mv av tv met A T Y
  bd : Bd9 c mn A
  ts : ∀ n ∈ T, ∃ (i : Nat) (t : Te), n = (i : Int) ∧ c.tests[i]? = some t
  tl : T.length ≤ 1000000
  al : A.length ≤ 1000000
  nd : A.Nodup
  ml : met.length = mn
  gl : g < B0
  lm : ∀ b, mv.ownBlock = some b → b < B0
  la : ∀ b, av.ownBlock = some b → b < B0
  w : w0.heap.size ≤ B0
  o : Bk Y ob #[ahv, jv] 35
  ol : B0 ≤ ob
  r : Bk Y rb #[.slice none 0 0, .slice none 0 0] 35
  rl : B0 ≤ rb
  ro : rb ≠ ob
  ah : OwI Y B0 ahv AH
  pj : PJ9 Y B0 jv l
theorem LS9.below {w0 : World} {g ob rb B0 mn : Nat} {c : Cm} {mv ahv : Value} {AH : List Int} {av tv : Value} {met : List Bool} {A T : List Int} {jv : Value} {l : List (Js9 × Value × Value)} {Y Y' : World} (h : LS9 w0 g ob rb B0 mn c mv ahv AH av tv met A T jv l Y) (hb : Below Y.heap.size Y Y') : LS9 w0 g ob rb B0 mn c mv ahv AH av tv met A T jv l Y' :=
  ⟨h.pn.below hb, h.bd, h.ts, h.tl, h.al, h.nd, h.ml, h.gl, h.lm, h.la, h.w, h.o.below hb, h.ol, h.r.below hb, h.rl, h.ro, row7_below h.ah hb, h.pj.fr (Fr.of (P := fun _ => False) hb) fun _ e => e.elim⟩
theorem Bd9.filter {c : Cm} {n : Nat} {A : List Int} (h : Bd9 c n A) (p : Int → Bool) : Bd9 c n (A.filter p) := fun m hm => h m ((List.mem_filter.1 hm).1)
/-- Behind join's call. -/
theorem LS9.join {w0 : World} {g ob rb B0 mn : Nat} {c : Cm} {mv ahv : Value} {AH : List Int} {av tv : Value} {met : List Bool} {A T : List Int} {jv : Value} {l : List (Js9 × Value × Value)} {Y Y' : World} (h : LS9 w0 g ob rb B0 mn c mv ahv AH av tv met A T jv l Y) (hB : B0 ≤ Y.heap.size) {n : Nat} {x : At × Value} (hx : c.body[n]? = some x) {e : Ending} (hq : JQ9 w0 g c mv av met A T n x.1.pl Y e Y') :
    ∃ kv rv av' tv', e = .returned (.agg #[.int .i64 (n : Int), kv, rv]) ∧ LS9 w0 g ob rb B0 mn c mv ahv AH av' tv' (jm9 c met n) (jA9 A n) (jT9 c met T n) jv l Y' ∧ OwI Y' B0 kv (jr9 c met T n).k ∧ OwI Y' B0 rv (jr9 c met T n).t ∧ Y.heap.size ≤ Y'.heap.size := by
  obtain ⟨kv, rv, av', tv', rfl, hk, ht, -, hp, hf, hs⟩ := hq
  have hpl : pls9 c n = x.1.pl := by unfold pls9; rw [hx]
  have hP : ∀ b, (b = g ∨ mv.ownBlock = some b ∨ av.ownBlock = some b) → b < B0 := fun b e => by
    rcases e with rfl | e | e
    · exact h.gl
    · exact h.lm b e
    · exact h.la b e
  have hno : ∀ b, B0 ≤ b → ¬ (b = g ∨ mv.ownBlock = some b ∨ av.ownBlock = some b) := fun b h1 e => by have := hP b e; omega
  refine ⟨kv, rv, av', tv', rfl, ⟨?_, h.bd.filter _, fun m hm => h.ts m ((List.mem_filter.1 hm).1), Nat.le_trans (List.length_filter_le _ _) h.tl, Nat.le_trans (List.length_filter_le _ _) h.al, h.nd.filter _, ?_, h.gl, h.lm, fun b hb => h.la b (hs b hb), h.w, h.o.fr hf (hno _ h.ol), h.ol, h.r.fr hf (hno _ h.rl), h.rl, h.ro, row9_fr h.ah hf fun b hb => Or.inl (hP b hb), h.pj.fr hf fun b hb => Or.inl (hP b hb)⟩, ?_, ?_, hf.size⟩
  · unfold jm9 jT9 jA9 jm9; rw [hpl]; exact hp
  · unfold jm9; rw [mt9_len]; exact h.ml
  · unfold jr9; rw [hpl]; exact OwI.mono hk hB
  · unfold jr9 jm9; rw [hpl]; exact OwI.mono ht.a hB
/-- Behind the append and its store. -/
theorem LS9.app {w0 : World} {g ob rb B0 mn m : Nat} {c : Cm} {mv ahv : Value} {AH : List Int} {av tv : Value} {met : List Bool} {A T : List Int} {jv jv' : Value} {l : List (Js9 × Value × Value)} {x : Js9 × Value × Value} {Y Y' : World} (h : LS9 w0 g ob rb B0 mn c mv ahv AH av tv met A T jv l Y) (hm : l.length = m) (hk : OwI Y B0 x.2.1 x.1.k) (ht : OwI Y B0 x.2.2 x.1.t) (ho : Y'.ownsRow B0 57 3 jv' (m + 1) (jc9 l ++ [.int .i64 x.1.n, x.2.1, x.2.2])) (hg : Y.grownBy Y' jv.ownBlock) : LS9 w0 g ob rb B0 mn c mv ahv AH av tv met A T jv' (l ++ [x]) (Y'.setCell ⟨ob, 1, none⟩ jv') := by
  have hf : Fr (fun b => jv.ownBlock = some b) Y Y' := Fr.grown hg fun b hb => hb
  have hj : ∀ b, jv.ownBlock = some b → B0 ≤ b ∧ ∃ cur, Bk Y b cur 57 := fun b hb => ⟨(World.ownsRow.lt h.pj.o b hb).1, row7_blk h.pj.o hb⟩
  have hn : ∀ {b cur}, Bk Y b cur 35 → ¬ jv.ownBlock = some b := fun hb e => by
    obtain ⟨-, cur', hc⟩ := hj _ e
    exact absurd (hb.ty hc) (by decide)
  have o1 := h.o.fr hf (hn h.o)
  have r1 := h.r.fr hf (hn h.r)
  have hs : Fr (fun b => b = ob) Y' (Y'.setCell ⟨ob, 1, none⟩ jv') := (Fr.refl _ _).set (Or.inl rfl)
  have hw := h.w
  have hol := h.ol
  refine ⟨(h.pn.offP hf fun b hb => ?_).offP hs fun b hb => ?_, h.bd, h.ts, h.tl, h.al, h.nd, h.ml, h.gl, h.lm, h.la, h.w, o1.set 1 jv', h.ol, r1.fr hs h.ro, h.rl, h.ro, row9_fr (row9_fr h.ah hf fun b hb => ?_) hs fun b hb => ?_, (h.pj.app hm hk ht ho hf).fr hs fun b hb => ?_⟩
  · obtain ⟨h1, cur, h2⟩ := hj b hb
    exact ⟨by omega, cur, _, h2, by decide, by decide, by decide⟩
  · rw [hb]; exact ⟨by omega, _, _, o1, by decide, by decide, by decide⟩
  · obtain ⟨h1, cur, h2⟩ := hj b hb
    exact Or.inr ⟨cur, _, h2, by decide⟩
  · rw [hb]; exact Or.inr ⟨_, _, o1, by decide⟩
  · rw [hb]; exact Or.inr ⟨_, _, o1, by decide, by decide⟩
theorem jA9_len {A : List Int} {n : Nat} (hn : A.Nodup) (hm : (n : Int) ∈ A) : (jA9 A n).length + 1 = A.length := by
  unfold jA9
  have h1 : (A.filter fun x => !decide (x = (n : Int))) = A.erase (n : Int) := by
    rw [hn.erase_eq_filter]
    refine List.filter_congr fun x _ => ?_
    by_cases hx : x = (n : Int) <;> simp [hx]
  rw [h1, List.length_erase_of_mem hm]
  have := List.length_pos_of_mem hm
  omega
theorem LS9.og {w0 : World} {g ob rb B0 mn : Nat} {c : Cm} {mv ahv : Value} {AH : List Int} {av tv : Value} {met : List Bool} {A T : List Int} {jv : Value} {l : List (Js9 × Value × Value)} {Y Y' : World} (h : LS9 w0 g ob rb B0 mn c mv ahv AH av tv met A T jv l Y) (hg : Y.grownBy Y' jv.ownBlock) : Bk Y' ob #[ahv, jv] 35 :=
  h.o.fr (Fr.grown (P := fun b => jv.ownBlock = some b) hg fun b hb => hb) fun e => by
    obtain ⟨cur, hc⟩ := row7_blk h.pj.o e
    exact absurd (h.o.ty hc) (by decide)
theorem LS9.start {w0 : World} {g : Nat} {c : Cm} {mv ahv : Value} {av tv tv' : Value} {met : List Bool} {A T : List Int} {Y Y1 w1 : World} (h : PN9 w0 g c mv av tv met A T Y) (hr : Bk Y1 Y.heap.size #[.slice none 0 0, .slice none 0 0] 35) (hz : Y1.heap.size = Y.heap.size + 1) (ht : TL9 w1 Y1.heap.size ahv tv' (T.filter (tk9 c met)) (T.filter fun n => !tk9 c met n)) (hp : PN9 w0 g c mv av tv' met A (T.filter fun n => !tk9 c met n) w1) (hf : Fr (fun b => b = g) Y1 w1)
    (hd : Bd9 c met.length A) (hT : ∀ n ∈ T, ∃ (i : Nat) (t : Te), n = (i : Int) ∧ c.tests[i]? = some t) (hl : T.length ≤ 1000000) (hA : A.length ≤ 1000000) (hn : A.Nodup) :
    LS9 w0 g w1.heap.size Y.heap.size Y.heap.size met.length c mv ahv (T.filter (tk9 c met)) av tv' met A (T.filter fun n => !tk9 c met n) (.slice none 0 0) [] (w1.alloc (.cells #[ahv, .slice none 0 0] 35)) := by
  have hg := h.b.lt
  have hzz := hf.size
  have hb := below1 w1 (.cells #[ahv, .slice none 0 0] 35)
  refine ⟨hp.below hb, hd, fun m hm => hT m (List.mem_filter.1 hm).1, Nat.le_trans (List.length_filter_le _ _) hl, hA, hn, rfl, hg, fun b hb => (h.apart (Or.inl hb)).2.2, fun b hb => (h.apart (Or.inr (Or.inl hb))).2.2, h.be.size, ?_, by omega, (hr.fr hf (by omega)).below hb, Nat.le_refl _, by omega, OwI.mono (row7_below ht.a hb) (by omega), ⟨World.ownsRow_nil _ _ _ _, fun x hx => (by cases hx), fun x hx => (by cases hx)⟩⟩
  exact Bk.new _ _ _
theorem Tryz.infoJoin9 : (Tryz.prog.info? 57).map (fun i => (i.zero, i.size, i.bytes)) = some (some (.agg #[.int .i64 0, .slice none 0 0, .slice none 0 0]), 3, 56) := by kernel_rfl
/-- What plan leaves. -/
def PlQ9 (w0 : World) (AH : List Int) (J : List Js9) (e : Ending) (Y' : World) : Prop := ∃ av jv l, e = .returned (.agg #[av, jv]) ∧ OwI Y' w0.heap.size av AH ∧ PJ9 Y' w0.heap.size jv l ∧ l.map Prod.fst = J ∧ Below w0.heap.size w0 Y'
end Go.Proofs.YtgbiicmkhlnniaaGreatDoor

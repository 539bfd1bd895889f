import Derived.Test.YtnikmcmkbjjcdaaGreatDoorSV3
import Derived.Test.YtnikmcmkbjjcdaaGreatDoorSY22
/-
  PLAIN: an atom, a test, a rule, a clause's text read back.
-/
namespace Go.Proofs.YtnikmcmkbjjcdaaGreatDoor
open Go.RowKit

theorem args_back {T : List Tk} {L : Nat} {s : Ps} {l : List Tm} (hc : ∀ t ∈ l, t.cov = true) (hl : Ly5 T s.nx (tG l)) (hn : kA5 T (s.nx + (tG l).length) ≠ 6) :
    ∃ s', args5 T L s = .ok (l.map (rv5 s'), s') ∧ s'.nx = s.nx + (tG l).length ∧ Gn5 s s' ∧ ∀ t ∈ l, Kn5 s' t := by
  cases l with
  | nil =>
    refine ⟨s, ?_, rfl, Gn5.refl s, fun t ht => by cases ht⟩
    unfold args5
    rw [if_neg (show ¬ kd5 T s 0 = 6 from hn)]
    rfl
  | cons x l =>
    have eg : tG (x :: l) = tS 6 :: (jt5 ((x :: l).map fun t => [tT t]) ++ [tS 7]) := rfl
    rw [eg] at hl ⊢
    obtain ⟨u, hu, e⟩ := hl.head
    have ek : u.k = 6 := congrArg Tk.k e
    have hl1 := hl.tail
    have hl2 := hl1.right
    have k7 := kA_ly hl2
    obtain ⟨s2, h1, h2, h3, h4⟩ := list_back (one := tm5 T L) (T := T) (L := L) (fun t : Tm => [tT t]) rv5 Kn5 (fun _ => True) (fun s s' t h k => h.kn k) trivial x l ⟨s.nx + 1, s.op, s.vs, s.nm⟩ (fun y hy s' hs _ => tm_back (hc y hy) hs) hl1.left (by
      show kA5 T (s.nx + 1 + _) ≠ 8
      rw [k7]; decide) trivial
    have h2' : s2.nx = s.nx + 1 + (jt5 ((x :: l).map fun t => [tT t])).length := h2
    obtain ⟨u7, hu7, e7⟩ := hl2.head
    have ek7 : u7.k = 7 := congrArg Tk.k e7
    refine ⟨⟨s2.nx + 1, s2.op, s2.vs, s2.nm⟩, ?_, ?_, (Gn5.nx s _).trans (h3.trans (Gn5.nx s2 _)), fun t ht => ((Gn5.nx s2 (s2.nx + 1)).kn (h4 t ht)).1⟩
    · unfold args5
      rw [if_pos (by rw [kd_at (k := 0) hu]; exact ek), R5.and_ok (tk_at hu (by rw [ek]; simp)), R5.and_ok h1, R5.and_ok (tk_at (t := u7) (by rw [h2']; exact hu7) (by rw [ek7]; simp))]
      rw [(kn_map (Gn5.nx s2 (s2.nx + 1)) h4).2]
    · show s2.nx + 1 = _
      rw [h2', List.length_cons, List.length_append, List.length_cons, List.length_nil]
      omega
/-- What may stand behind an atom. -/
def Nx5 (k : Int) : Prop := k ≠ 5 ∧ k ≠ 6 ∧ op5 k = 0
theorem at_back {T : List Tk} {L : Nat} {s : Ps} {a : At} (he : a.err = 0) (hl : Ly5 T s.nx (tA a)) (hn : Nx5 (kA5 T (s.nx + (tA a).length))) :
    ∃ s', at5 T L s = .ok (mapA (rv5 s') a, s') ∧ s'.nx = s.nx + (tA a).length ∧ Gn5 s s' ∧ ∀ t ∈ a.pl, Kn5 s' t := by
  obtain ⟨-, -, hq, hc⟩ := err_zero' he
  have hla : (tA a).length = (tQ a.by_).length + (1 + (tG a.args).length) := by unfold tA; rw [List.length_append, List.length_cons]; omega
  unfold tA at hl
  have hl1 := hl.right
  obtain ⟨u, hu, e⟩ := hl1.head
  have ek : u.k = 1 := congrArg Tk.k e
  have ex : u.x = a.name := congrArg Tk.x e
  have hl2 := hl1.tail
  -- who says it
  have hby : ∃ s1, by5 T L s = .ok (rv5 s1 a.by_, s1) ∧ s1.nx = s.nx + (tQ a.by_).length ∧ Gn5 s s1 ∧ Kn5 s1 a.by_ := by
    by_cases hk : a.by_.k = 0
    · have ez : a.by_ = zt := qual_zt0 hq hk
      have eq0 : tQ a.by_ = [] := by unfold tQ; rw [if_pos hk]
      rw [eq0] at hl1 hu hl2 ⊢
      refine ⟨s, ?_, rfl, Gn5.refl s, fun h => by rw [ez] at h; cases h⟩
      unfold by5
      have k0 : kd5 T s 0 = 1 := by rw [kd_kA]; exact kA_ly hl1
      have k1 : kd5 T s 1 ≠ 5 := by
        rw [kd_kA]
        have hl3 : Ly5 T (s.nx + 1) (tG a.args) := hl2
        by_cases ha : a.args = []
        · have hl0 : (tA a).length = 1 := by rw [hla, eq0, ha]; rfl
          rw [hl0] at hn
          exact hn.1
        · unfold tG at hl3
          rw [if_neg ha] at hl3
          rw [kA_ly hl3]; decide
      rw [if_pos ⟨k0, k1⟩, ez]
      rfl
    · have eq1 : tQ a.by_ = [tT a.by_, tS 5] := by unfold tQ; rw [if_neg hk]
      have hl0 := hl.left
      rw [eq1] at hl0 ⊢
      have hcov := qual_cov hq hk
      have hk123 : (tT a.by_).k ∈ [(1 : Int), 3, 2] := by
        unfold qualOk at hq
        simp only [Bool.or_eq_true, decide_eq_true_eq] at hq
        unfold tT
        rcases hq with h | h | h
        · rw [h] at hk; exact absurd rfl hk
        · simp only [Tm.prin, decide_eq_true_eq] at h
          split
          · simp
          · rw [if_neg (by omega)]; split <;> simp
        · rw [if_pos h]; simp
      have hl01 : Ly5 T s.nx [tT a.by_] := Ly5.left (l := [tT a.by_]) (m := [tS 5]) hl0
      obtain ⟨s1, h1, h2, h3, h4⟩ := tk_back (L := L) hcov hl01 hk123
      obtain ⟨u5, hu5, e5⟩ := hl0.tail.head
      have ek5 : u5.k = 5 := congrArg Tk.k e5
      refine ⟨⟨s1.nx + 1, s1.op, s1.vs, s1.nm⟩, ?_, ?_, h3.trans (Gn5.nx s1 _), ((Gn5.nx s1 (s1.nx + 1)).kn h4).1⟩
      · unfold by5
        rw [if_neg (fun h => h.2 (by rw [kd_at (k := 1) hu5]; exact ek5))]
        have hw : who5 T L s = .ok (rv5 s1 a.by_, s1) := h1
        rw [R5.and_ok hw, R5.and_ok (tk_at (t := u5) (by rw [h2]; exact hu5) (by rw [ek5]; simp)), ((Gn5.nx s1 (s1.nx + 1)).kn h4).2]
      · show s1.nx + 1 = _
        rw [h2]; rfl
  obtain ⟨s1, h1, h2, h3, h4⟩ := hby
  rw [← h2] at hu hl2
  obtain ⟨s3, h5, h6, h7, h8⟩ := args_back (L := L) (s := ⟨s1.nx + 1, s1.op, s1.vs, s1.nm⟩) hc hl2 (by
    show kA5 T (s1.nx + 1 + _) ≠ 6
    have : s1.nx + 1 + (tG a.args).length = s.nx + (tA a).length := by rw [h2, hla]; omega
    rw [this]
    exact hn.2.1)
  have g13 : Gn5 s1 s3 := (Gn5.nx s1 _).trans h7
  refine ⟨s3, ?_, ?_, h3.trans g13, fun t ht => ?_⟩
  · unfold at5
    rw [R5.and_ok h1, R5.and_ok (tk_at hu (by rw [ek]; simp)), R5.and_ok h5, ex]
    unfold mapA
    rw [(g13.kn h4).2]
  · have h6' : s3.nx = s1.nx + 1 + (tG a.args).length := h6
    rw [h6', h2, hla]; omega
  · rcases List.mem_cons.1 ht with rfl | ht
    · exact (g13.kn h4).1
    · exact h8 t ht
theorem te_back {T : List Tk} {L : Nat} {s : Ps} {t : Te} (ho : t.ok = true) (hl : Ly5 T s.nx (tE t)) :
    ∃ s', te5 T L s = .ok (mapE (rv5 s') t, s') ∧ s'.nx = s.nx + (tE t).length ∧ Gn5 s s' ∧ Kn5 s' t.l ∧ Kn5 s' t.r := by
  unfold Te.ok at ho
  simp only [Bool.and_eq_true, decide_eq_true_eq] at ho
  obtain ⟨h1, h2, h3⟩ := ho
  unfold tE at hl ⊢
  have hl0 : Ly5 T s.nx [tT t.l] := Ly5.left (l := [tT t.l]) (m := [tS (12 + t.op), tT t.r]) hl
  obtain ⟨s1, e1, n1, g1, k1⟩ := tm_back (L := L) h2 hl0
  obtain ⟨u, hu, e⟩ := hl.tail.head
  have ek : u.k = 12 + t.op := congrArg Tk.k e
  have hl2 : Ly5 T (s.nx + 1 + 1) [tT t.r] := hl.tail.tail
  obtain ⟨s3, e3, n3, g3, k3⟩ := tm_back (L := L) (s := ⟨s1.nx + 1, s1.op, s1.vs, s1.nm⟩) h3 (by show Ly5 T (s1.nx + 1) _; rw [n1]; exact hl2)
  have g13 : Gn5 s1 s3 := (Gn5.nx s1 _).trans g3
  refine ⟨s3, ?_, ?_, g1.trans g13, (g13.kn k1).1, k3⟩
  · unfold te5
    rw [R5.and_ok e1, R5.and_ok (tk_at (t := u) (by rw [n1]; exact hu) (by rw [ek]; simp; omega)), R5.and_ok e3]
    unfold mapE
    have eo : op5 u.k = t.op := by
      rw [ek]
      have : t.op = 1 ∨ t.op = 2 ∨ t.op = 3 ∨ t.op = 4 := by omega
      rcases this with h | h | h | h <;> rw [h] <;> rfl
    rw [eo, (g13.kn k1).2]
  · have : s3.nx = s1.nx + 1 + 1 := n3
    rw [this, n1]; rfl
/-- The parts of a body: their tokens, and what they are read as. -/
def tFk : Lf5 → List Tk
  | .a x => tA x
  | .t x => tE x
def mapF (f : Tm → Tm) : Lf5 → Lf5
  | .a x => .a (mapA f x)
  | .t x => .t (mapE f x)
def okF5 : Lf5 → Prop
  | .a x => x.err = 0
  | .t x => x.ok = true
def knF (s : Ps) : Lf5 → Prop
  | .a x => ∀ t ∈ x.pl, Kn5 s t
  | .t x => Kn5 s x.l ∧ Kn5 s x.r
theorem mapA_kn {s s' : Ps} {a : At} (h : Gn5 s s') (k : ∀ t ∈ a.pl, Kn5 s t) : mapA (rv5 s') a = mapA (rv5 s) a := mapA_congr fun t ht => (h.kn (k t ht)).2
theorem knF_mono (s s' : Ps) (x : Lf5) (h : Gn5 s s') (k : knF s x) : knF s' x ∧ ([[mapF (rv5 s') x]] : List (List Lf5)) = [[mapF (rv5 s) x]] := by
  cases x with
  | a x => exact ⟨fun t ht => (h.kn (k t ht)).1, by show [[Lf5.a _]] = [[Lf5.a _]]; rw [mapA_kn h k]⟩
  | t x =>
    refine ⟨⟨(h.kn k.1).1, (h.kn k.2).1⟩, ?_⟩
    show [[Lf5.t _]] = [[Lf5.t _]]
    unfold mapE
    rw [(h.kn k.1).2, (h.kn k.2).2]
theorem lit_back {T : List Tk} {L f : Nat} {s : Ps} {x : Lf5} (ho : okF5 x) (hl : Ly5 T s.nx (tFk x)) (hn : Nx5 (kA5 T (s.nx + (tFk x).length))) :
    ∃ s', lit5 T L (f + 1) s = .ok ([[mapF (rv5 s') x]], s') ∧ s'.nx = s.nx + (tFk x).length ∧ Gn5 s s' ∧ knF s' x := by
  cases x with
  | a x =>
    obtain ⟨s', h1, h2, h3, h4⟩ := at_back (L := L) (show x.err = 0 from ho) hl hn
    refine ⟨s', ?_, h2, h3, h4⟩
    obtain ⟨-, -, hq, -⟩ := err_zero' (show x.err = 0 from ho)
    have hba : kd5 T s 0 ≠ 6 ∧ ba5 T s = true := by
      have hl' : Ly5 T s.nx (tA x) := hl
      unfold tA at hl'
      by_cases hk : x.by_.k = 0
      · have eq0 : tQ x.by_ = [] := by unfold tQ; rw [if_pos hk]
        rw [eq0, List.nil_append] at hl'
        have k0 : kd5 T s 0 = 1 := by rw [kd_kA]; exact kA_ly hl'
        refine ⟨by rw [k0]; decide, ?_⟩
        unfold ba5
        rw [if_pos k0]
        have k1 : op5 (kd5 T s 1) = 0 := by
          rw [kd_kA]
          have hl3 : Ly5 T (s.nx + 1) (tG x.args) := hl'.tail
          by_cases ha : x.args = []
          · have hl0 : (tFk (.a x)).length = 1 := by show (tA x).length = 1; unfold tA tG; rw [eq0, ha]; rfl
            rw [hl0] at hn
            exact hn.2.2
          · unfold tG at hl3
            rw [if_neg ha] at hl3
            rw [kA_ly hl3]; rfl
        simp [k1]
      · have eq1 : tQ x.by_ = [tT x.by_, tS 5] := by unfold tQ; rw [if_neg hk]
        rw [eq1] at hl'
        have k0 : kd5 T s 0 = (tT x.by_).k := by rw [kd_kA]; exact kA_ly hl'
        have k1 : kd5 T s 1 = 5 := by rw [kd_kA]; exact kA_ly hl'.tail
        have hk123 : (tT x.by_).k = 1 ∨ (tT x.by_).k = 3 ∨ (tT x.by_).k = 2 := by
          unfold qualOk at hq
          simp only [Bool.or_eq_true, decide_eq_true_eq] at hq
          unfold tT
          rcases hq with h | h | h
          · rw [h] at hk; exact absurd rfl hk
          · simp only [Tm.prin, decide_eq_true_eq] at h
            split
            · simp
            · rw [if_neg (by omega)]; split <;> simp
          · rw [if_pos h]; simp
        refine ⟨by rw [k0]; omega, ?_⟩
        unfold ba5
        rw [k0, k1]
        rcases hk123 with h | h | h <;> rw [h] <;> decide
    unfold lit5
    rw [if_neg hba.1, if_pos hba.2, R5.and_ok h1]
    rfl
  | t x =>
    obtain ⟨s', h1, h2, h3, h4⟩ := te_back (L := L) (show x.ok = true from ho) hl
    refine ⟨s', ?_, h2, h3, h4⟩
    have hl' : Ly5 T s.nx (tE x) := hl
    unfold tE at hl'
    have ho' : x.ok = true := ho
    unfold Te.ok at ho'
    simp only [Bool.and_eq_true, decide_eq_true_eq] at ho'
    have k0 : kd5 T s 0 = (tT x.l).k := by rw [kd_kA]; exact kA_ly hl'
    have k1 : kd5 T s 1 = 12 + x.op := by rw [kd_kA]; exact kA_ly hl'.tail
    have hk := tT_kind x.l
    have hb : ba5 T s = false := by
      unfold ba5
      rw [k0, k1]
      have : x.op = 1 ∨ x.op = 2 ∨ x.op = 3 ∨ x.op = 4 := by omega
      rcases hk with h | h | h | h <;> rw [h] <;> rcases this with q | q | q | q <;> rw [q] <;> decide
    unfold lit5
    rw [if_neg (by rw [k0]; omega), if_neg (by rw [hb]; simp), R5.and_ok h1]
    rfl
theorem cross_one {α : Type} : ∀ l : List α, cross5 (l.map fun x => [[x]]) = [l]
  | [] => rfl
  | x :: l => by rw [List.map_cons, cross5_cons, cross_one l]; rfl
/-- The parts of a clause. -/
def lf5 (x : Ck) : List Lf5 := x.2.1.map .a ++ x.2.2.map .t
theorem lf5_tk (x : Ck) : (lf5 x).map tFk = tLs x := by
  unfold lf5 tLs
  rw [List.map_append, List.map_map, List.map_map]
  rfl
theorem fa5_app : ∀ a b : List Lf5, fa5 (a ++ b) = fa5 a ++ fa5 b
  | [], b => rfl
  | .a x :: a, b => by show x :: fa5 (a ++ b) = _; rw [fa5_app a b]; rfl
  | .t x :: a, b => fa5_app a b
theorem ft5_app : ∀ a b : List Lf5, ft5 (a ++ b) = ft5 a ++ ft5 b
  | [], b => rfl
  | .a x :: a, b => ft5_app a b
  | .t x :: a, b => by show x :: ft5 (a ++ b) = _; rw [ft5_app a b]; rfl
theorem fa5_as (f : Tm → Tm) : ∀ l : List At, fa5 ((l.map Lf5.a).map (mapF f)) = l.map (mapA f) ∧ ft5 ((l.map Lf5.a).map (mapF f)) = []
  | [] => ⟨rfl, rfl⟩
  | x :: l => ⟨by show mapA f x :: _ = _; rw [(fa5_as f l).1]; rfl, (fa5_as f l).2⟩
theorem ft5_ts (f : Tm → Tm) : ∀ l : List Te, fa5 ((l.map Lf5.t).map (mapF f)) = [] ∧ ft5 ((l.map Lf5.t).map (mapF f)) = l.map (mapE f)
  | [] => ⟨rfl, rfl⟩
  | x :: l => ⟨(ft5_ts f l).1, by show mapE f x :: _ = _; rw [(ft5_ts f l).2]; rfl⟩
theorem ck_lf5 (f : Tm → Tm) (x : Ck) : ck5 (mapA f x.1) ((lf5 x).map (mapF f)) = mapC f x := by
  unfold ck5 lf5 mapC
  rw [List.map_append, fa5_app, ft5_app, (fa5_as f _).1, (fa5_as f _).2, (ft5_ts f _).1, (ft5_ts f _).2, List.append_nil, List.nil_append]
theorem bd_back {T : List Tk} {L : Nat} {s : Ps} {x : Ck} (hv : Val0 x) (hl : Ly5 T s.nx (tB x)) (hn : kA5 T (s.nx + (tB x).length) = 10) :
    ∃ s', bd5 T L s = .ok ([(lf5 x).map (mapF (rv5 s'))], s') ∧ s'.nx = s.nx + (tB x).length ∧ Gn5 s s' ∧ ∀ l ∈ lf5 x, knF s' l := by
  have hok : ∀ l ∈ lf5 x, okF5 l := fun l hl => by
    unfold lf5 at hl
    rcases List.mem_append.1 hl with hl | hl
    · obtain ⟨a, ha, rfl⟩ := List.mem_map.1 hl
      exact hv.atom.2 a ha
    · obtain ⟨e, he, rfl⟩ := List.mem_map.1 hl
      exact hv.t e he
  have ht := lf5_tk x
  unfold tB at hl hn ⊢
  cases hx : lf5 x with
  | nil =>
    rw [hx] at ht
    rw [← ht] at hl hn ⊢
    refine ⟨s, ?_, rfl, Gn5.refl s, fun l hl => by cases hl⟩
    unfold bd5
    rw [if_neg (by rw [kd_kA]; intro h; have h2 : kA5 T (s.nx + 0) = 10 := hn; rw [h2] at h; cases h)]
    rfl
  | cons y r =>
    rw [hx] at ht hok
    rw [← ht] at hl hn ⊢
    have ei : (if (y :: r).map tFk = [] then [] else tS 11 :: jt5 ((y :: r).map tFk)) = tS 11 :: jt5 ((y :: r).map tFk) := rfl
    rw [ei] at hl hn ⊢
    obtain ⟨u, hu, e⟩ := hl.head
    have ek : u.k = 11 := congrArg Tk.k e
    have hn2 : kA5 T (s.nx + 1 + (jt5 ((y :: r).map tFk)).length) = 10 := by
      rw [List.length_cons] at hn
      rw [show s.nx + 1 + (jt5 ((y :: r).map tFk)).length = s.nx + ((jt5 ((y :: r).map tFk)).length + 1) by omega]
      exact hn
    obtain ⟨s2, h1, h2, h3, h4⟩ := list_back (one := lit5 T L 17) (T := T) (L := L) tFk (fun s l => [[mapF (rv5 s) l]]) knF Nx5 (fun s s' l h k => knF_mono s s' l h k) ⟨by decide, by decide, by decide⟩ y r ⟨s.nx + 1, s.op, s.vs, s.nm⟩ (fun z hz s' hs hq => lit_back (hok z hz) hs hq) hl.tail (by
      show kA5 T (s.nx + 1 + _) ≠ 8
      rw [hn2]; decide) (by
      show Nx5 (kA5 T (s.nx + 1 + _))
      rw [hn2]; exact ⟨by decide, by decide, by decide⟩)
    have h2' : s2.nx = s.nx + 1 + (jt5 ((y :: r).map tFk)).length := h2
    refine ⟨s2, ?_, by rw [h2', List.length_cons]; omega, (Gn5.nx s _).trans h3, h4⟩
    have hc : conjOf5 (lit5 T L 17) T L ⟨s.nx + 1, s.op, s.vs, s.nm⟩ = .ok ([(y :: r).map (mapF (rv5 s2))], s2) := by
      unfold conjOf5
      rw [R5.and_ok h1]
      have := cross_one ((y :: r).map (mapF (rv5 s2)))
      rw [List.map_map] at this
      rw [show ((y :: r).map fun l => [[mapF (rv5 s2) l]]) = (y :: r).map ((fun x => [[x]]) ∘ mapF (rv5 s2)) from rfl, this]
    unfold bd5
    rw [if_pos (by rw [kd_at (k := 0) hu]; exact ek), R5.and_ok (tk_at hu (by rw [ek]; simp))]
    unfold altOf5
    rw [R5.and_ok (list_one hc (by rw [kd_kA]; show kA5 T s2.nx ≠ 9; rw [h2', hn2]; decide))]
    rfl
theorem tC_ne (x : Ck) : 0 < (tC x).length := by unfold tC; rw [List.length_append, List.length_append]; simp; omega
theorem rh_back {T : List Tk} {L : Nat} {s : Ps} {x : Ck} (hv : Val0 x) (hl : Ly5 T s.nx (tC x)) :
    ∃ s', rh5 T L s = .ok ((mapA (rv5 s') x.1, [(lf5 x).map (mapF (rv5 s'))]), s') ∧ s'.nx = s.nx + (tC x).length ∧ Gn5 s s' ∧ ∀ t ∈ Ck.terms x, Kn5 s' t := by
  have hlen : (tC x).length = (tA x.1).length + ((tB x).length + 1) := by unfold tC; rw [List.length_append, List.length_append]; rfl
  unfold tC at hl
  have hb := hl.right
  have hd := hb.right
  obtain ⟨u, hu, e⟩ := hd.head
  have ek : u.k = 10 := congrArg Tk.k e
  have k10 := kA_ly hd
  obtain ⟨s1, h1, h2, h3, h4⟩ := at_back (L := L) hv.atom.1 hl.left (by
    by_cases hx : tLs x = []
    · have e0 : tB x = [] := by unfold tB; rw [if_pos hx]
      rw [e0] at k10
      have : kA5 T (s.nx + (tA x.1).length) = 10 := k10
      rw [this]
      exact ⟨by decide, by decide, by decide⟩
    · have e1 : tB x = tS 11 :: jt5 (tLs x) := by unfold tB; rw [if_neg hx]
      rw [e1] at hb
      rw [kA_ly hb]
      exact ⟨by decide, by decide, by decide⟩)
  rw [← h2] at hb hd hu k10
  obtain ⟨s2, h5, h6, h7, h8⟩ := bd_back (L := L) hv hb.left k10
  rw [← h6] at hu
  refine ⟨⟨s2.nx + 1, s2.op, s2.vs, s2.nm⟩, ?_, ?_, h3.trans (h7.trans (Gn5.nx s2 _)), fun t ht => ?_⟩
  · unfold rh5
    rw [R5.and_ok h1, R5.and_ok h5, R5.and_ok (tk_at hu (by rw [ek]; simp)), ← mapA_kn h7 h4]
    rfl
  · show s2.nx + 1 = _
    rw [h6, h2, hlen]; omega
  · unfold Ck.terms at ht
    have g2 := Gn5.nx s2 (s2.nx + 1)
    rcases List.mem_append.1 ht with ht | ht
    · exact ((h7.trans g2).kn (h4 t ht)).1
    · rcases List.mem_append.1 ht with ht | ht
      · obtain ⟨a, ha, hta⟩ := List.mem_flatMap.1 ht
        exact (g2.kn (h8 (.a a) (by unfold lf5; exact List.mem_append_left _ (List.mem_map.2 ⟨a, ha, rfl⟩)) t hta)).1
      · obtain ⟨e, he, hte⟩ := List.mem_flatMap.1 ht
        have := h8 (.t e) (by unfold lf5; exact List.mem_append_right _ (List.mem_map.2 ⟨e, he, rfl⟩))
        simp only [List.mem_cons, List.not_mem_nil, or_false] at hte
        rcases hte with rfl | rfl
        · exact (g2.kn this.1).1
        · exact (g2.kn this.2).1
/-- What is read is what was printed, its variables called otherwise. -/
theorem rv_ren {s : Ps} {l : List Tm} (hi : Ij5 s) (hk : ∀ t ∈ l, Kn5 s t) (hn : ∀ t ∈ l, N64 t.n) : Ren (rv5 s) l := by
  refine ⟨fun t ht hv => ?_, fun t ht hv => ?_, fun t ht u hu hv hw e => ?_⟩
  · unfold rv5
    rw [if_pos hv]
    simp [Tm.var]
  · unfold rv5
    rw [if_neg (by rw [hv]; simp)]
  · obtain ⟨k, hk1⟩ := hk t ht hv
    obtain ⟨m, hm1⟩ := hk u hu hw
    unfold rv5 at e
    rw [if_pos hv, if_pos hw, hk1, hm1] at e
    have e1 : ((k : Nat) : Int) = ((m : Nat) : Int) := congrArg Tm.n e
    have e2 : k = m := by omega
    rw [← e2] at hm1
    exact var_same5 hv hw (vn5_inj (hn t ht) (hn u hu) (hi.2 _ _ _ hk1 hm1))
theorem rl_back {T : List Tk} {L nx : Nat} {x : Ck} (h : ch5 x = 0) (hn : ∀ t ∈ Ck.terms x, N64 t.n) (hl : Ly5 T nx (tC x)) : rl5 T L nx = .ok ([x], nx + (tC x).length) := by
  obtain ⟨hv, hm⟩ := ch_val5 h
  obtain ⟨s', h1, h2, h3, h4⟩ := rh_back (L := L) (s := s05 nx) hv hl
  have hi : Ij5 s' := h3.i ⟨(fun x k e => by cases e), fun x y k e => by cases e⟩
  have hr := rv_ren hi h4 hn
  have e1 : normC (ck5 (mapA (rv5 s') x.1) ((lf5 x).map (mapF (rv5 s')))) = x := by rw [ck_lf5, ren_norm hr, norm_id hm]
  unfold rl5
  rw [h1]
  simp only [List.length_cons, List.length_nil]
  rw [if_neg (by omega)]
  unfold cls5
  rw [e1, if_pos h]
  unfold cls5
  show Except.ok ([x], s'.nx) = _
  rw [h2]
  rfl
/-- A valid clause is read back from its text. -/
theorem pg_back {x : Ck} {most : Int} (h : ch5 x = 0) (hn : ∀ t ∈ Ck.terms x, N64 t.n) (hm : 27000 ≤ most) : pg5 (pc5 x) most = .ok [x] := by
  obtain ⟨T, hc, hT⟩ := cut_cz (most := most) (cz_clause h hn) (by have := pc5_len h hn; omega)
  have hl : T.length = (tC x).length := by rw [← hT, List.length_map]
  have hp := tC_ne x
  rw [pg5_cut hc, pp5_ok (by omega) (rl_back h hn (Ly5.all hT)), pp5_end (by omega)]
  rfl
end Go.Proofs.YtnikmcmkbjjcdaaGreatDoor
/-
  syntax: query.
-/
namespace Go.Proofs.YtnikmcmkbjjcdaaGreatDoor
open Go.RowKit
attribute [local go_sem ↓] Go.wp_at_zero Go.wp_at_succ

/-- A query, in plain words. -/
def qy5 (T : List Tk) (L : Nat) : Except (Int × Int) At := match at5 T L (s05 0) with
  | .error e => .error e
  | .ok (a, s) => match tk5 T L [12] s with
    | .error e => .error e
    | .ok (_, s) => if s.nx < T.length then .error (51, pl5 T L s) else if a.err = 0 then .ok a else .error (a.err, pl5 T L (s05 0))
/-- What query answers. -/
def QyP (g : Nat) (w : World) (R : Except (Int × Int) At) (e : Ending) (w' : World) : Prop :=
  Fr (fun b => b = g) w w' ∧ match R with
    | .error f => e = .panicked [pF f]
    | .ok a => ∃ y, e = .returned (a.v y) ∧ Ot5 w' w.heap.size y a.args
theorem store5a {w : World} {g : Nat} {t : TypeId} {z0 z1 z2 z3 z4 a b c d e : Value} (h : Bk w g #[z0, z1, z2, z3, z4] t) : Bk (((((w.setCell ⟨g, 0, none⟩ a).setCell ⟨g, 1, none⟩ b).setCell ⟨g, 2, none⟩ c).setCell ⟨g, 3, none⟩ d).setCell ⟨g, 4, none⟩ e) g #[a, b, c, d, e] t := store5y h
set_option maxRecDepth 20000 in
set_option maxHeartbeats 4000000 in
theorem query5_any (g N : Nat) (tv : Value) (T : List Tk) (L : Nat) (w : World) (h : PB g N tv T L w 0) :
    Calls Tryz.prog 36 #[.pointer (some ⟨g, 0, none⟩)] w (QyP g w (qy5 T L)) := by
  have HB0 := hm7 (below1 w (.cells #[.int .i64 0, .int .i64 0, .string ⟨#[]⟩, .string ⟨#[]⟩, .slice none 0 0] 33))
  have HR0 := hm7 (Bk.new w #[.int .i64 0, .int .i64 0, .string ⟨#[]⟩, .string ⟨#[]⟩, .slice none 0 0] 33)
  have HZ0 : Hid ((w.alloc (.cells #[.int .i64 0, .int .i64 0, .string ⟨#[]⟩, .string ⟨#[]⟩, .slice none 0 0] 33)).heap.size = w.heap.size + 1) := by show _ = _; simp
  have HBG := hm7 (begin5_any g N tv T L 0 _ (h.below HB0.out))
  have hT := h.ok.l
  have HGS := hm7 (gs_05 h.le)
  have HGW : Hid (g < w.heap.size) := Nat.lt_of_lt_of_le h.gN h.Nw
  obtain ⟨c, hc⟩ : ∃ c : Pk, (⟨g, (w.alloc (.cells #[.int .i64 0, .int .i64 0, .string ⟨#[]⟩, .string ⟨#[]⟩, .slice none 0 0] 33)).heap.size, (w.alloc (.cells #[.int .i64 0, .int .i64 0, .string ⟨#[]⟩, .string ⟨#[]⟩, .slice none 0 0] 33)).heap.size + 1, tv, T, L⟩ : Pk) = c := ⟨_, rfl⟩
  have HFG : Hid (∀ w1 w2 : World, Fr (fun b => b = g) w w1 → Fr (W5 c) w1 w2 → Fr (fun b => b = g) w w2) := fun w1 w2 h1 h2 => by rw [← hc] at h2; exact fr_g5 h1 h2 (by have := HZ0.out; omega)
  have HNB : Hid (∀ b, w.heap.size ≤ b → b ≠ w.heap.size + 1 → ¬ W5 c b) := fun b hb hb2 e => by
    rw [← hc] at e
    have h1 := HGW.out
    have h2 := HZ0.out
    rcases e with e | e
    · have e1 : b = g := e
      omega
    · have e1 : b = (w.alloc (.cells #[.int .i64 0, .int .i64 0, .string ⟨#[]⟩, .string ⟨#[]⟩, .slice none 0 0] 33)).heap.size := e
      omega
  have HCN : Hid (c.N = w.heap.size + 2) := by rw [← hc]; show _ + 1 = _; rw [HZ0.out]
  have hcg : c.g = g := by rw [← hc]
  have hcT : c.T = T := by rw [← hc]
  have hcL : c.L = L := by rw [← hc]
  have HCV : Hid (c.tv = tv) := by rw [← hc]; exact rfl
  have HCG := hm7 hcg
  have HCL := hm7 hcL
  rw [hc] at HBG
  have HAT : Hid (∀ X : World, PZ c X (s05 0) → Calls Tryz.prog 68 #[.pointer (some ⟨g, 0, none⟩)] X (P5P c X (fun (a : At) v w' => ∃ y, v = a.v y ∧ Ot5 w' X.heap.size y a.args) (at5 T L (s05 0)))) := fun X hX => by
    have := atom5_any c (s05 0) X hX
    rw [hcg, hcT, hcL] at this
    exact this
  have HTK : Hid (∀ (X : World) (s : Ps), PZ c X s → Calls Tryz.prog 69 #[.pointer (some ⟨g, 0, none⟩), .slice (some ⟨X.heap.size, 0, none⟩) 1 1] (X.alloc (.cells #[.int .i64 12] 3)) (P5P c (X.alloc (.cells #[.int .i64 12] 3)) (fun (t : Tk) v _ => v = t.v) (tk5 T L [12] s))) := fun X s hX => by
    have := takeN5 12 (by decide) c s X hX
    rw [hcg, hcT, hcL] at this
    exact this
  have HPL : Hid (∀ (X : World) (s : Ps), PZ c X s → Calls Tryz.prog 71 #[.pointer (some ⟨g, 0, none⟩)] X fun e w' => e = .returned (.int .i64 (pl5 T L s)) ∧ Below X.heap.size X w') := fun X s hX => by
    have := place5_any c s X hX
    rw [hcg, hcT, hcL] at this
    exact this
  have HGU : Hid (∀ (k p : Int) (X : World), Calls Tryz.prog 70 #[.int .i64 k, .int .i64 p] X fun e w' => e = .panicked [pF (k, p)] ∧ w' = X) := fun k p X => giveUp5_any k p X
  obtain ⟨ta, tc, htv, -⟩ := h.t
  clear h hc hcg hcT hcL
  obtain ⟨tn, htn⟩ : ∃ tn, T.length = tn := ⟨_, rfl⟩
  rw [htn] at htv hT
  have HTN := hm7 htn
  obtain ⟨p0, hp0⟩ : ∃ p, pl5 T L (s05 0) = p := ⟨_, rfl⟩
  rw [hp0] at HBG
  obtain ⟨R, hR⟩ : ∃ R, qy5 T L = R := ⟨_, rfl⟩
  rw [hR]
  unfold qy5 at hR
  rw [hp0] at hR
  clear hp0 htn
  go_enter Tryz.func36, Tryz.ntmps36
  go_upto_region 2 with (go_at_call 67; refine HBG.out.mono ?_; rintro e W1 ⟨rfl, hz, hf⟩; have HZ1 := hm7 hz; have HF1 := hm7 ((Fr.of HB0.out).tr hf); have HR1 := hm7 (HR0.out.fr hf fun e => by have := HGW.out; omega); clear hz hf)
  clear HBG HR0 HB0 HZ0
  cases hr : at5 T L (s05 0) with
  | error e0 =>
    rw [hr] at hR
    subst hR
    have HE := hm7 (P5P.err (HAT.out W1 HZ1.out) hr)
    clear hr HAT
    go_wp2_with (go_at_call 68; refine HE.out.mono ?_; rintro e W2 ⟨rfl, hf⟩; have HF2 := hm7 (HFG.out _ _ HF1.out hf); clear hf)
    exact ⟨rfl, HF2.out, rfl⟩
  | ok p =>
    obtain ⟨ha, s1⟩ := p
    rw [hr] at hR
    have HE := hm7 (P5P.ok (HAT.out W1 HZ1.out) hr)
    have HQA := hm7 (wg_at T L _ _ _ HGS.out hr)
    clear hr HAT
    obtain ⟨⟨hk, hn, hs⟩, hm, hal⟩ := ha
    have HWW : Hid (w.heap.size + 1 < W1.heap.size) := by have h1 := HZ1.out.Nw; rw [HCN.out] at h1; exact h1
    go_upto_region 3 with (go_at_call 68; refine HE.out.mono ?_; rintro e W2 ⟨v2, rfl, ⟨y, rfl, hy⟩, hz, hf⟩; obtain ⟨ya, yc, hyf, -⟩ := row7_form hy; generalize hyn : List.length _ = yn at hyf; subst hyf; have HYN := hm7 hyn; have HY3 := hm7 (Ot5.below hy (below1 W2 (.cells #[.int .i64 hk, .int .i64 hn, .string hs, .string hm, .slice ya yn yc] 33))); have HZ3 := hm7 (hz.below (below1 W2 (.cells #[.int .i64 hk, .int .i64 hn, .string hs, .string hm, .slice ya yn yc] 33))); have HF3 := hm7 ((HFG.out _ _ HF1.out hf).then (below1 W2 (.cells #[.int .i64 hk, .int .i64 hn, .string hs, .string hm, .slice ya yn yc] 33))); have HH3 := hm7 (Bk.new W2 #[.int .i64 hk, .int .i64 hn, .string hs, .string hm, .slice ya yn yc] 33); have HR3 := hm7 ((HR1.out.fr hf (HNB.out _ (Nat.le_refl _) (by omega))).below (below1 W2 (.cells #[.int .i64 hk, .int .i64 hn, .string hs, .string hm, .slice ya yn yc] 33))); have HHB : Hid (w.heap.size + 1 < W2.heap.size) := Nat.lt_of_lt_of_le HWW.out hf.size; clear hz hf hy hyn)
    revert HY3 HZ3 HF3 HH3 HR3
    generalize W2.alloc (.cells #[.int .i64 hk, .int .i64 hn, .string hs, .string hm, .slice ya yn yc] 33) = W3
    generalize W2.heap.size = hb at *
    intro HY3 HZ3 HF3 HH3 HR3
    clear HE HZ1 HR1
    cases hr : tk5 T L [12] s1 with
    | error e0 =>
      rw [hr] at hR
      subst hR
      have HE3 := hm7 (P5P.err (HTK.out W3 s1 HZ3.out) hr)
      clear hr HTK
      go_wp2_with (go_at_call 69; refine HE3.out.mono ?_; rintro e W6 ⟨rfl, hf⟩; have HF6 := hm7 (HFG.out _ _ (HF3.out.then (below1 _ _)) hf); clear hf)
      exact ⟨rfl, HF6.out, rfl⟩
    | ok p =>
      obtain ⟨⟨tk0, tx0, tn0, ta0, te0⟩, s3⟩ := p
      rw [hr] at hR
      have HE3 := hm7 (P5P.ok (HTK.out W3 s1 HZ3.out) hr)
      have HQT := hm7 (wg_tk T L _ _ _ _ HQA.out.1 hr)
      clear hr HTK
      go_wp2_with (go_at_call 69; refine HE3.out.mono ?_; rintro e W6 ⟨v6, rfl, rfl, hz, hf⟩; have HZ6 := hm7 hz; have HF6 := hm7 (HFG.out _ _ (HF3.out.then (below1 _ _)) hf); have HY6 := hm7 ((HY3.out.below (below1 W3 (.cells #[.int .i64 12] 3))).fr hf fun b hb => HNB.out b (by have := HWW.out; omega) (by have := HWW.out; omega)); have HH6 := hm7 ((HH3.out.below (below1 _ _)).fr hf (HNB.out _ (by have := HHB.out; omega) (by have := HHB.out; omega))); have HR6 := hm7 ((HR3.out.below (below1 _ _)).fr hf (HNB.out _ (Nat.le_refl _) (by omega))); clear hz hf; have hpb := HZ6.out.b; rw [HCG.out, HCV.out, HCL.out, htv] at hpb; have q0 := hpb.cell (i := 0) rfl; have q1 := hpb.cell (i := 1) rfl; clear hpb)
      clear HE3 HZ3 HF3 HY3 HH3 HR3
      have HN6 : Hid (s3.nx ≤ T.length) := HQT.out.1.a
      by_cases hlt : s3.nx < tn
      · have hR2 : R = .error (51, pl5 T L s3) := by rw [← hR, HTN.out]; exact if_pos hlt
        subst hR2
        have i1 : (s3.nx : Int) < (tn : Int) := by omega
        go_quiet (fail)
        clear q0 q1
        have HDB : Hid (Below W6.heap.size W6 (W6.drewN nq)) := below_drewN (Below.refl _ W6) _
        revert HDB
        generalize W6.drewN nq = W7
        intro HDB
        have HPX := hm7 (HPL.out W7 s3 (HZ6.out.below HDB.out))
        go_wp2_with (first
          | (go_at_call 71; refine HPX.out.mono ?_; rintro e W8 ⟨rfl, hb8⟩; have HB8 := hm7 hb8; clear hb8)
          | (go_at_call 70; refine (HGU.out _ _ _).mono ?_; rintro e W9 ⟨rfl, hw9⟩; have HW9 := hm7 hw9; clear hw9))
        refine ⟨rfl, ?_, rfl⟩
        rw [HW9.out]
        exact (HF6.out.then HDB.out).then HB8.out
      · have hR2 : (if At.err ⟨⟨hk, hn, hs⟩, hm, hal⟩ = 0 then .ok ⟨⟨hk, hn, hs⟩, hm, hal⟩ else .error (At.err ⟨⟨hk, hn, hs⟩, hm, hal⟩, p0)) = R := by rw [← hR, HTN.out]; exact (if_neg hlt).symm
        have i1 : ¬ (s3.nx : Int) < (tn : Int) := by omega
        have hal7 : hal.length ≤ 2000000 := by
          obtain ⟨q1, -⟩ := HQA.out.2.2
          have n1 := HQA.out.2.1
          have n4 := HQA.out.1.a
          rw [HTN.out] at n4
          have q2 : hal.length + 1 ≤ s1.nx - (s05 0).nx := q1
          omega
        have HAL := hm7 hal7
        have HR2 := hm7 hR2
        clear hR hR2 hal7 HN6 HQA HQT
        go_quiet (fail)
        clear q0 q1
        have HDB : Hid (Below W6.heap.size W6 (W6.drewN nq)) := below_drewN (Below.refl _ W6) _
        revert HDB
        generalize W6.drewN nq = W7
        intro HDB
        have HY7 := hm7 (Ot5.below HY6.out HDB.out)
        have HH7 := hm7 (HH6.out.below HDB.out)
        have HR7 := hm7 (HR6.out.below HDB.out)
        have HF7 := hm7 (HF6.out.then HDB.out)
        have HTS : Hid (Ts W7 (.slice ya yn yc) hal) := ts_of_row HY7.out (by have := HAL.out; omega)
        have HCK := hm7 (chk_any ⟨⟨hk, hn, hs⟩, hm, hal⟩ (.slice ya yn yc) W7 HTS.out)
        clear HY6 HH6 HR6 HF6 HZ6 HDB
        have h0 := HH7.out.cell (i := 0) rfl
        have h1 := HH7.out.cell (i := 1) rfl
        have h2 := HH7.out.cell (i := 2) rfl
        have h3 := HH7.out.cell (i := 3) rfl
        have h4 := HH7.out.cell (i := 4) rfl
        obtain ⟨er, her⟩ : ∃ er, At.err ⟨⟨hk, hn, hs⟩, hm, hal⟩ = er := ⟨_, rfl⟩
        rw [her] at HCK HR2
        clear her
        have HXX : Hid (w.heap.size < W7.heap.size) := HR7.out.lt
        by_cases he : er = 0
        · subst he
          have hR3 : R = .ok ⟨⟨hk, hn, hs⟩, hm, hal⟩ := by rw [← HR2.out]; exact if_pos rfl
          subst hR3
          go_upto_region 7 with (go_at_call 21; refine HCK.out.mono ?_; rintro e W8 ⟨rfl, hb8⟩; have HB8 := hm7 hb8; clear hb8)
          clear h0 h1 h2 h3 h4
          have HH8 := hm7 (HH7.out.below HB8.out)
          have HR8 := hm7 (HR7.out.below HB8.out)
          have HY8 := hm7 (Ot5.below HY7.out HB8.out)
          have h0 := HH8.out.cell (i := 0) rfl
          have h1 := HH8.out.cell (i := 1) rfl
          have h2 := HH8.out.cell (i := 2) rfl
          have h3 := HH8.out.cell (i := 3) rfl
          have h4 := HH8.out.cell (i := 4) rfl
          have r0 := HR8.out.cell (i := 0) rfl
          have r1 := HR8.out.cell (i := 1) rfl
          have r2 := HR8.out.cell (i := 2) rfl
          have r3 := HR8.out.cell (i := 3) rfl
          have r4 := HR8.out.cell (i := 4) rfl
          have f0 := HR8.out.froz 0
          have f1 := HR8.out.froz 1
          have f2 := HR8.out.froz 2
          have f3 := HR8.out.froz 3
          have f4 := HR8.out.froz 4
          have hrl := HR8.out.lt
          go_wp2
          have HR9 := hm7 (store5a (a := .int .i64 hk) (b := .int .i64 hn) (c := .string hs) (d := .string hm) (e := .slice ya yn yc) HR8.out)
          have z0 := HR9.out.cell (i := 0) rfl
          have z1 := HR9.out.cell (i := 1) rfl
          have z2 := HR9.out.cell (i := 2) rfl
          have z3 := HR9.out.cell (i := 3) rfl
          have z4 := HR9.out.cell (i := 4) rfl
          refine bodyPost_ret (v := At.v ⟨⟨hk, hn, hs⟩, hm, hal⟩ (.slice ya yn yc)) (by simp [results, Tryz.results36, go_sem, z0, z1, z2, z3, z4]) rfl ?_
          have hfs : Fr (fun b => b = w.heap.size) W8 (((((W8.setCell ⟨w.heap.size, 0, none⟩ (.int .i64 hk)).setCell ⟨w.heap.size, 1, none⟩ (.int .i64 hn)).setCell ⟨w.heap.size, 2, none⟩ (.string hs)).setCell ⟨w.heap.size, 3, none⟩ (.string hm)).setCell ⟨w.heap.size, 4, none⟩ (.slice ya yn yc)) := (((((Fr.refl (fun b => b = w.heap.size) _).set (Or.inl rfl)).set (Or.inl rfl)).set (Or.inl rfl)).set (Or.inl rfl)).set (Or.inl rfl)
          refine ⟨(HF7.out.then HB8.out).trans hfs (fun b hb e => by omega), .slice ya yn yc, rfl, ?_⟩
          refine ((HY8.out.fr hfs fun b hb e => ?_)).mono5 ?_
          · have := HWW.out; omega
          · have := HWW.out; omega
        · have hR3 : R = .error (er, p0) := by rw [← HR2.out]; exact if_neg he
          subst hR3
          have he1 : (er == 0) = false := by simp [he]
          have he2 : (er != 0) = true := by simp [he]
          go_wp2_with (first
            | (go_at_call 21; refine HCK.out.mono ?_; rintro e W8 ⟨rfl, hb8⟩; have HB8 := hm7 hb8; clear hb8)
            | (go_at_call 70; refine (HGU.out _ _ _).mono ?_; rintro e W9 ⟨rfl, hw9⟩; have HW9 := hm7 hw9; clear hw9))
          refine ⟨rfl, ?_, rfl⟩
          rw [HW9.out]
          exact HF7.out.then HB8.out
end Go.Proofs.YtnikmcmkbjjcdaaGreatDoor

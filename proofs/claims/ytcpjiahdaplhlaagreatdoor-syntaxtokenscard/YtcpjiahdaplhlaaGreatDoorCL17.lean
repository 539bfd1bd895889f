import Derived.Test.YtcpjiahdaplhlaaGreatDoorD1
import Derived.Test.YtcpjiahdaplhlaaGreatDoorW2
import Derived.Deep.CutRange
import Derived.Test.YtcpjiahdaplhlaaGreatDoorCL2
import Derived.Deep.RegionHeld3
import Derived.BigQuiet
import Derived.Test.YtcpjiahdaplhlaaGreatDoorCL12
/-
  hearsaylaw02.TermDecides, for every two terms.
-/
namespace Go.Proofs.YtcpjiahdaplhlaaGreatDoor
open Go.RowKit
attribute [local go_sem ↓] Go.wp_at_zero Go.wp_at_succ

def x4 : Tm := ⟨3, 4, ⟨#[]⟩⟩
end Go.Proofs.YtcpjiahdaplhlaaGreatDoor
/-
  Compare of tests and of lists. (Written by CL13.py.)
-/
namespace Go.Proofs.YtcpjiahdaplhlaaGreatDoor
open Go.RowKit

theorem two_boxes {w w1 : World} {c d : Array Value} {t u : TypeId} (hb : Below ((w.alloc (.cells c t)).alloc (.cells d u)).heap.size ((w.alloc (.cells c t)).alloc (.cells d u)) w1) : CBlk w1 w.heap.size c t ∧ CBlk w1 (w.heap.size + 1) d u := by
  have h1 := ((CBlk.new w c t).later (below1 _ (.cells d u))).later hb
  have h2 := (CBlk.new (w.alloc (.cells c t)) d u).later hb
  rw [show (w.alloc (.cells c t)).heap.size = w.heap.size + 1 by simp] at h2
  exact ⟨h1, h2⟩
end Go.Proofs.YtcpjiahdaplhlaaGreatDoor
/-
  terms, same of the laws.
-/
namespace Go.Proofs.YtcpjiahdaplhlaaGreatDoor
open Go.RowKit
attribute [local go_sem ↓] Go.wp_at_zero Go.wp_at_succ

theorem drop_eq_step (a b : List Tm) (i : Nat) (t u : Tm) (ht : a[i]? = some t) (hu : b[i]? = some u) : (a.drop i = b.drop i) ↔ (t = u ∧ a.drop (i + 1) = b.drop (i + 1)) := by
  obtain ⟨h1, rfl⟩ := List.getElem?_eq_some_iff.1 ht
  obtain ⟨h2, rfl⟩ := List.getElem?_eq_some_iff.1 hu
  rw [List.drop_eq_getElem_cons h1, List.drop_eq_getElem_cons h2, List.cons.injEq]
instance : DecidableEq At := fun a b => decidable_of_iff (a.by_ = b.by_ ∧ a.name = b.name ∧ a.args = b.args) (by cases a; cases b; simp)
end Go.Proofs.YtcpjiahdaplhlaaGreatDoor
/-
  The same, of the laws: terms, atoms, tests, clauses. (Written by CL14.py.)
-/
namespace Go.Proofs.YtcpjiahdaplhlaaGreatDoor
open Go.RowKit
attribute [local go_sem ↓] Go.wp_at_zero Go.wp_at_succ

theorem run_neq_te (t u : Te) (w : World) : (binOp .neq 85 t.v u.v).run Tryz.prog w = .ok (.bool (!decide (t = u))) w := by
  obtain ⟨op, ⟨kl, ml, sl⟩, ⟨kr, mr, sr⟩⟩ := t
  obtain ⟨oq, ⟨kp, mp, sp⟩, ⟨kq, mq, sq⟩⟩ := u
  by_cases h0 : op = oq
  · subst h0
    by_cases h1 : kl = kp
    · subst h1
      by_cases h2 : ml = mp
      · subst h2
        by_cases h3 : sl = sp
        · subst h3
          by_cases h4 : kr = kq
          · subst h4
            by_cases h5 : mr = mq
            · subst h5
              by_cases h6 : sr = sq
              · subst h6; go_simp
              · have h7 : ¬ sr.toList = sq.toList := fun e => h6 (toList_inj e)
                go_simp
            · go_simp
          · go_simp
        · have h7 : ¬ sl.toList = sp.toList := fun e => h3 (toList_inj e)
          go_simp
      · go_simp
    · go_simp
  · go_simp
def fsts (l : List (At × Value)) : List At := l.map (·.1)
end Go.Proofs.YtcpjiahdaplhlaaGreatDoor
/-
  Clauses in their order, as plain mathematics. (Written by CL22.py.)
-/
namespace Go.Proofs.YtcpjiahdaplhlaaGreatDoor

/-- What a clause is, wherever it lies. -/
def Cm.key (c : Cm) : At × List At × List Te := (c.head.1, fsts c.body, c.tests)
end Go.Proofs.YtcpjiahdaplhlaaGreatDoor
/-
  Clauses as plain data: what Made makes; numbering. (Plain.)
-/
namespace Go.Proofs.YtcpjiahdaplhlaaGreatDoor
open Go.RowKit

/-- A clause as plain data. -/
abbrev Ck := At × List At × List Te
def Ck.terms (x : Ck) : List Tm := x.1.pl ++ (x.2.1.flatMap At.pl ++ tls x.2.2)
theorem key_terms (c : Cm) : c.terms = Ck.terms c.key := by
  rw [Cm.terms_eq, Ck.terms, Cm.key, flt, fsts, List.flatMap_map]; simp
def mapA (f : Tm → Tm) (a : At) : At := ⟨f a.by_, a.name, a.args.map f⟩
def mapE (f : Tm → Tm) (t : Te) : Te := ⟨t.op, f t.l, f t.r⟩
def mapC (f : Tm → Tm) (x : Ck) : Ck := (mapA f x.1, x.2.1.map (mapA f), x.2.2.map (mapE f))
theorem mapA_pl (f : Tm → Tm) (a : At) : (mapA f a).pl = a.pl.map f := rfl
theorem flat_mapA (f : Tm → Tm) (l : List At) : (l.map (mapA f)).flatMap At.pl = (l.flatMap At.pl).map f := by
  rw [List.flatMap_map, List.map_flatMap]; rfl
theorem tls_mapE (f : Tm → Tm) (l : List Te) : tls (l.map (mapE f)) = (tls l).map f := by
  unfold tls; rw [List.flatMap_map, List.map_flatMap]; rfl
theorem mapC_terms (f : Tm → Tm) (x : Ck) : Ck.terms (mapC f x) = (Ck.terms x).map f := by
  unfold Ck.terms mapC; simp only [mapA_pl, flat_mapA, tls_mapE, List.map_append]
theorem mapA_congr {f g : Tm → Tm} {a : At} (h : ∀ t ∈ a.pl, f t = g t) : mapA f a = mapA g a := by
  unfold mapA
  rw [h a.by_ (by simp [At.pl]), List.map_congr_left fun t ht => h t (by simp [At.pl, ht])]
theorem mapC_congr {f g : Tm → Tm} {x : Ck} (h : ∀ t ∈ Ck.terms x, f t = g t) : mapC f x = mapC g x := by
  unfold mapC
  have e1 : mapA f x.1 = mapA g x.1 := mapA_congr fun t ht => h t (by simp [Ck.terms, ht])
  have e2 : x.2.1.map (mapA f) = x.2.1.map (mapA g) := List.map_congr_left fun a ha => mapA_congr fun t ht => h t (List.mem_append_right _ (List.mem_append_left _ (List.mem_flatMap.2 ⟨a, ha, ht⟩)))
  have e3 : x.2.2.map (mapE f) = x.2.2.map (mapE g) := List.map_congr_left fun e he => by
    unfold mapE
    rw [h e.l, h e.r]
    · exact List.mem_append_right _ (List.mem_append_right _ (List.mem_flatMap.2 ⟨e, he, by simp⟩))
    · exact List.mem_append_right _ (List.mem_append_right _ (List.mem_flatMap.2 ⟨e, he, by simp⟩))
  rw [e1, e2, e3]
theorem mapA_id (a : At) : mapA (fun t => t) a = a := by cases a; simp [mapA]
theorem mapC_id (x : Ck) : mapC (fun t => t) x = x := by
  obtain ⟨h, b, t⟩ := x
  have e1 : (mapA fun t => t) = fun a => a := funext mapA_id
  have e2 : (mapE fun t => t) = fun a => a := funext fun a => by cases a; rfl
  simp [mapC, mapA_id, e1, e2]
theorem err_zero' {a : At} (h : a.err = 0) : nameOk a.name = true ∧ a.args.length ≤ 8 ∧ qualOk a.by_ = true ∧ ∀ t ∈ a.args, t.cov = true := by
  unfold At.err at h
  split at h
  · cases h
  split at h
  · cases h
  split at h
  · cases h
  split at h
  · rename_i a1 a2 a3 a4
    exact ⟨by simpa using a1, by omega, by simpa using a3, by rwa [List.all_eq_true] at a4⟩
  · cases h
/-- Terms, none twice. -/
def dstepT (acc : List Tm) (x : Tm) : List Tm := if x ∈ acc then acc else acc ++ [x]
def disT (l : List Tm) : List Tm := (l.filter Tm.var).foldl dstepT []
theorem dstepT_mem {acc : List Tm} {x y : Tm} : y ∈ dstepT acc x ↔ y ∈ acc ∨ y = x := by
  unfold dstepT
  by_cases h : x ∈ acc
  · rw [if_pos h]
    exact ⟨Or.inl, fun e => e.elim id fun e => e ▸ h⟩
  · rw [if_neg h]; simp
theorem foldT_mem : ∀ {l acc : List Tm} {y : Tm}, y ∈ l.foldl dstepT acc ↔ y ∈ acc ∨ y ∈ l
  | [], acc, y => by simp
  | x :: l, acc, y => by rw [List.foldl_cons, foldT_mem, dstepT_mem, List.mem_cons, or_assoc]
theorem disT_mem {l : List Tm} {y : Tm} : y ∈ disT l ↔ y ∈ l ∧ y.var = true := by
  unfold disT; rw [foldT_mem, List.mem_filter]; simp
/-- Where a term first stands. -/
def ix : List Tm → Tm → Nat
  | [], _ => 0
  | x :: l, t => if x = t then 0 else ix l t + 1
theorem ix_lt : ∀ {l : List Tm} {t : Tm}, t ∈ l → ix l t < l.length
  | x :: l, t, h => by
    rw [ix]
    by_cases e : x = t
    · rw [if_pos e]; simp
    · rw [if_neg e]
      have := ix_lt (l := l) (t := t) (by rcases List.mem_cons.1 h with h | h; exact absurd h.symm e; exact h)
      simp only [List.length_cons]; omega
theorem ix_get : ∀ {l : List Tm} {t : Tm}, t ∈ l → l[ix l t]? = some t
  | x :: l, t, h => by
    rw [ix]
    by_cases e : x = t
    · rw [if_pos e]; simp [e]
    · rw [if_neg e, List.getElem?_cons_succ]; exact ix_get (by rcases List.mem_cons.1 h with h | h; exact absurd h.symm e; exact h)
def nmT (vs : List Tm) (t : Tm) : Tm := if t ∈ vs then ⟨3, (ix vs t : Nat), ⟨#[]⟩⟩ else t
def normC (x : Ck) : Ck := mapC (nmT (disT (Ck.terms x))) x
theorem nmT_var (vs : List Tm) (t : Tm) (h : ∀ u ∈ vs, u.var = true) : (nmT vs t).var = t.var := by
  unfold nmT
  by_cases hm : t ∈ vs
  · rw [if_pos hm, h t hm]; simp [Tm.var]
  · rw [if_neg hm]
end Go.Proofs.YtcpjiahdaplhlaaGreatDoor
/-
  Apply. (Written by genA.py out of A1.head.)
-/
namespace Go.Proofs.YtcpjiahdaplhlaaGreatDoor
open Go.RowKit
attribute [local go_sem ↓] Go.wp_at_zero Go.wp_at_succ

theorem Tryz.infoTerm : (Tryz.prog.info? 39).map (fun i => (i.zero, i.size, i.bytes)) = some (some (.agg #[.int .i64 0, .int .i64 0, .string ⟨#[]⟩]), 3, 32) := by kernel_rfl
def MC (n : Nat) : Array Value := madeCells #[.int .i64 0, .int .i64 0, .string ⟨#[]⟩] (n * 3)
theorem mk_terms (n : Nat) (hn : n ≤ 4398046511104) (w : World) : (Instr.makeSlice 40 (.int .i64 (n : Int)) (.int .i64 (n : Int))).run Tryz.prog w = .ok (.slice (some ⟨w.heap.size, 0, none⟩) n n) (w.alloc (.cells (MC n) 39)) := by
  obtain ⟨i, hi, h0, h1, h2⟩ := info_parts Tryz.infoTerm
  have h := run_make (P := Tryz.prog) w 40 39 i _ Tryz.underlying40 hi h0 .i64 .i64 n n (by omega) (Int.le_refl _) (by rw [h2]; omega) (by omega)
  rw [h1, Int.toNat_natCast] at h
  exact h
theorem fiveF {w : World} {g : Nat} {a b c d f : Value} {t : TypeId} (h : w.heap[g]? = some (.cells #[a, b, c, d, f] t (0, 0))) :
    (w.cell? ⟨g, 0, none⟩ = some a ∧ w.cell? ⟨g, 1, none⟩ = some b ∧ w.cell? ⟨g, 2, none⟩ = some c ∧ w.cell? ⟨g, 3, none⟩ = some d ∧ w.cell? ⟨g, 4, none⟩ = some f) ∧
    w.frozen? ⟨g, 0, none⟩ = false ∧ w.frozen? ⟨g, 1, none⟩ = false ∧ w.frozen? ⟨g, 2, none⟩ = false ∧ w.frozen? ⟨g, 3, none⟩ = false ∧ w.frozen? ⟨g, 4, none⟩ = false :=
  ⟨five h, frozen_of_row _ _ _ _ _ h, frozen_of_row _ _ _ _ _ h, frozen_of_row _ _ _ _ _ h, frozen_of_row _ _ _ _ _ h, frozen_of_row _ _ _ _ _ h⟩
theorem store5 {W : World} {G : Nat} {a b c d e a' b' c' d' e' : Value} {t : TypeId} (h : W.heap[G]? = some (.cells #[a, b, c, d, e] t (0, 0))) :
    (((((W.setCell ⟨G, 0, none⟩ a').setCell ⟨G, 1, none⟩ b').setCell ⟨G, 2, none⟩ c').setCell ⟨G, 3, none⟩ d').setCell ⟨G, 4, none⟩ e').heap[G]? = some (.cells #[a', b', c', d', e'] t (0, 0)) := by
  have h1 := heap_setCell_same _ _ 0 _ _ a' h
  have h2 := heap_setCell_same _ _ 1 _ _ b' h1
  have h3 := heap_setCell_same _ _ 2 _ _ c' h2
  have h4 := heap_setCell_same _ _ 3 _ _ d' h3
  exact heap_setCell_same _ _ 4 _ _ e' h4
theorem store5_other {W : World} {G k : Nat} {o : Obj} (a' b' c' d' e' : Value) (hk : k ≠ G) (h : W.heap[k]? = some o) :
    (((((W.setCell ⟨G, 0, none⟩ a').setCell ⟨G, 1, none⟩ b').setCell ⟨G, 2, none⟩ c').setCell ⟨G, 3, none⟩ d').setCell ⟨G, 4, none⟩ e').heap[k]? = some o := by
  rw [heap_setCell_other _ _ _ _ hk, heap_setCell_other _ _ _ _ hk, heap_setCell_other _ _ _ _ hk, heap_setCell_other _ _ _ _ hk, heap_setCell_other _ _ _ _ hk]; exact h
/-- Block g holds the first k of the terms l, and has room for all. -/
def TBlk (w : World) (g : Nat) (l : List Tm) (k : Nat) : Prop := ∃ C : Array Value, w.heap[g]? = some (.cells C 39 (0, 0)) ∧ C.size = l.length * 3 ∧
  ∀ i t, i < k → l[i]? = some t → C[i * 3]? = some (.int .i64 t.k) ∧ C[i * 3 + 1]? = some (.int .i64 t.n) ∧ C[i * 3 + 2]? = some (.string t.s)
theorem TBlk.start {w : World} {g : Nat} {l : List Tm} {n : Nat} (hn : n = l.length) (h : w.heap[g]? = some (.cells (MC n) 39 (0, 0))) : TBlk w g l 0 :=
  ⟨_, h, by rw [MC, size_madeCells, hn], fun i t hi => absurd hi (Nat.not_lt_zero _)⟩
theorem TBlk.later {w w' : World} {g : Nat} {l : List Tm} {k : Nat} (h : TBlk w g l k) (hb : Below w.heap.size w w') : TBlk w' g l k := by
  obtain ⟨C, h1, h2⟩ := h
  exact ⟨C, (hb.block _ (Array.getElem?_eq_some_iff.1 h1).1).trans h1, h2⟩
theorem TBlk.other {w : World} {g G i : Nat} {a : Value} {l : List Tm} {k : Nat} (h : TBlk w g l k) (hk : g ≠ G) : TBlk (w.setCell ⟨G, i, none⟩ a) g l k := by
  obtain ⟨C, h1, h2⟩ := h
  exact ⟨C, by rw [heap_setCell_other _ _ _ _ hk]; exact h1, h2⟩
theorem TBlk.cells {w : World} {g : Nat} {l : List Tm} {k j : Nat} (h : TBlk w g l k) (hj : j < l.length * 3) : (∃ c, w.cell? ⟨g, j, none⟩ = some c) ∧ w.frozen? ⟨g, j, none⟩ = false := by
  obtain ⟨C, h1, h2, -⟩ := h
  refine ⟨⟨C[j], ?_⟩, frozen_of_row _ _ _ _ _ h1⟩
  rw [cell_of_row _ _ _ _ _ _ h1]; simp
theorem TBlk.put {w : World} {g : Nat} {l : List Tm} {k : Nat} {t : Tm} (h : TBlk w g l k) (ht : l[k]? = some t) :
    TBlk (((w.setCell ⟨g, k * 3, none⟩ (.int .i64 t.k)).setCell ⟨g, k * 3 + 1, none⟩ (.int .i64 t.n)).setCell ⟨g, k * 3 + 2, none⟩ (.string t.s)) g l (k + 1) := by
  obtain ⟨C, h1, h2, h3⟩ := h
  have hk := (List.getElem?_eq_some_iff.1 ht).1
  have e1 := heap_setCell_same _ _ (k * 3) _ _ (.int .i64 t.k) h1
  have e2 := heap_setCell_same _ _ (k * 3 + 1) _ _ (.int .i64 t.n) e1
  have e3 := heap_setCell_same _ _ (k * 3 + 2) _ _ (.string t.s) e2
  refine ⟨_, e3, by simp [h2], fun i u hi hu => ?_⟩
  by_cases hik : i = k
  · subst hik
    rw [ht] at hu
    obtain rfl := Option.some.inj hu
    refine ⟨?_, ?_, ?_⟩ <;> simp [Array.getElem?_setIfInBounds, h2] <;> omega
  · obtain ⟨a, b, c⟩ := h3 i u (by omega) hu
    refine ⟨?_, ?_, ?_⟩
    · rw [Array.getElem?_setIfInBounds_ne (by omega), Array.getElem?_setIfInBounds_ne (by omega), Array.getElem?_setIfInBounds_ne (by omega)]; exact a
    · rw [Array.getElem?_setIfInBounds_ne (by omega), Array.getElem?_setIfInBounds_ne (by omega), Array.getElem?_setIfInBounds_ne (by omega)]; exact b
    · rw [Array.getElem?_setIfInBounds_ne (by omega), Array.getElem?_setIfInBounds_ne (by omega), Array.getElem?_setIfInBounds_ne (by omega)]; exact c
theorem TBlk.ts {w : World} {g : Nat} {l : List Tm} {n cap : Nat} (hn : n = l.length) (hl : n ≤ 4398046511104) (h : TBlk w g l n) : Ts w (.slice (some ⟨g, 0, none⟩) n cap) l := by
  subst hn
  obtain ⟨C, h1, h2, h3⟩ := h
  refine ⟨_, cap, rfl, by omega, Or.inr ⟨g, 0, rfl, (Array.getElem?_eq_some_iff.1 h1).1, fun i t ht => ?_⟩⟩
  obtain ⟨a, b, c⟩ := h3 i t (List.getElem?_eq_some_iff.1 ht).1 ht
  rw [cell_of_row _ _ _ _ _ _ h1, cell_of_row _ _ _ _ _ _ h1, cell_of_row _ _ _ _ _ _ h1]
  simp only [Nat.zero_add]
  exact ⟨a, b, c⟩
theorem putO {W : World} {G k i j m : Nat} {o : Obj} (a' b' c' : Value) (hk : k ≠ G) (h : W.heap[k]? = some o) :
    (((W.setCell ⟨G, i, none⟩ a').setCell ⟨G, j, none⟩ b').setCell ⟨G, m, none⟩ c').heap[k]? = some o := by
  rw [heap_setCell_other _ _ _ _ hk, heap_setCell_other _ _ _ _ hk, heap_setCell_other _ _ _ _ hk]; exact h
end Go.Proofs.YtcpjiahdaplhlaaGreatDoor
/-
  Blocks that a loop fills with atoms, with tests. (Written by CL17.py.)
-/
namespace Go.Proofs.YtcpjiahdaplhlaaGreatDoor
open Go.RowKit

/-- Block g has room for n of them, and holds these. -/
def ABlk (w : World) (g n : Nat) (l : List (At × Value)) : Prop := ∃ C : Array Value, w.heap[g]? = some (.cells C 42 (0, 0)) ∧ C.size = n * 5 ∧
  ∀ i x, l[i]? = some x → C[i * 5]? = some (.int .i64 x.1.by_.k) ∧ C[i * 5 + 1]? = some (.int .i64 x.1.by_.n) ∧ C[i * 5 + 2]? = some (.string x.1.by_.s) ∧ C[i * 5 + 3]? = some (.string x.1.name) ∧ C[i * 5 + 4]? = some (x.2)
theorem ABlk.lt {w : World} {g n : Nat} {l : List (At × Value)} (h : ABlk w g n l) : g < w.heap.size := by obtain ⟨C, h1, -⟩ := h; exact (Array.getElem?_eq_some_iff.1 h1).1
theorem ABlk.later {w w' : World} {g n : Nat} {l : List (At × Value)} (h : ABlk w g n l) (hb : Below w.heap.size w w') : ABlk w' g n l := by
  obtain ⟨C, h1, h2⟩ := h
  exact ⟨C, (hb.block _ (Array.getElem?_eq_some_iff.1 h1).1).trans h1, h2⟩
theorem ABlk.other {w : World} {g n G i : Nat} {a : Value} {l : List (At × Value)} (h : ABlk w g n l) (hk : g ≠ G) : ABlk (w.setCell ⟨G, i, none⟩ a) g n l := by
  obtain ⟨C, h1, h2⟩ := h
  exact ⟨C, by rw [heap_setCell_other _ _ _ _ hk]; exact h1, h2⟩
theorem ABlk.cells {w : World} {g n j : Nat} {l : List (At × Value)} (h : ABlk w g n l) (hj : j < n * 5) : (∃ c, w.cell? ⟨g, j, none⟩ = some c) ∧ w.frozen? ⟨g, j, none⟩ = false := by
  obtain ⟨C, h1, h2, -⟩ := h
  refine ⟨⟨C[j], ?_⟩, frozen_of_row _ _ _ _ _ h1⟩
  rw [cell_of_row _ _ _ _ _ _ h1]; simp
abbrev Aput (w : World) (g k : Nat) (x : At × Value) : World := (((((w.setCell ⟨g, k * 5, none⟩ (.int .i64 x.1.by_.k)).setCell ⟨g, k * 5 + 1, none⟩ (.int .i64 x.1.by_.n)).setCell ⟨g, k * 5 + 2, none⟩ (.string x.1.by_.s)).setCell ⟨g, k * 5 + 3, none⟩ (.string x.1.name)).setCell ⟨g, k * 5 + 4, none⟩ (x.2))
theorem ABlk.put {w : World} {g n : Nat} {l : List (At × Value)} (h : ABlk w g n l) (hk : l.length < n) (x : At × Value) : ABlk (Aput w g l.length x) g n (l ++ [x]) := by
  obtain ⟨C, h1, h2, h3⟩ := h
  have e0 := heap_setCell_same _ _ (l.length * 5) _ _ (.int .i64 x.1.by_.k) h1
  have e1 := heap_setCell_same _ _ (l.length * 5 + 1) _ _ (.int .i64 x.1.by_.n) e0
  have e2 := heap_setCell_same _ _ (l.length * 5 + 2) _ _ (.string x.1.by_.s) e1
  have e3 := heap_setCell_same _ _ (l.length * 5 + 3) _ _ (.string x.1.name) e2
  have e4 := heap_setCell_same _ _ (l.length * 5 + 4) _ _ (x.2) e3
  refine ⟨_, e4, by simp [h2], fun i u hu => ?_⟩
  by_cases hik : i < l.length
  · rw [List.getElem?_append_left hik] at hu
    obtain ⟨q0, q1, q2, q3, q4⟩ := h3 i u hu
    refine ⟨?_, ?_, ?_, ?_, ?_⟩
    · rw [Array.getElem?_setIfInBounds_ne (by omega), Array.getElem?_setIfInBounds_ne (by omega), Array.getElem?_setIfInBounds_ne (by omega), Array.getElem?_setIfInBounds_ne (by omega), Array.getElem?_setIfInBounds_ne (by omega)]; exact q0
    · rw [Array.getElem?_setIfInBounds_ne (by omega), Array.getElem?_setIfInBounds_ne (by omega), Array.getElem?_setIfInBounds_ne (by omega), Array.getElem?_setIfInBounds_ne (by omega), Array.getElem?_setIfInBounds_ne (by omega)]; exact q1
    · rw [Array.getElem?_setIfInBounds_ne (by omega), Array.getElem?_setIfInBounds_ne (by omega), Array.getElem?_setIfInBounds_ne (by omega), Array.getElem?_setIfInBounds_ne (by omega), Array.getElem?_setIfInBounds_ne (by omega)]; exact q2
    · rw [Array.getElem?_setIfInBounds_ne (by omega), Array.getElem?_setIfInBounds_ne (by omega), Array.getElem?_setIfInBounds_ne (by omega), Array.getElem?_setIfInBounds_ne (by omega), Array.getElem?_setIfInBounds_ne (by omega)]; exact q3
    · rw [Array.getElem?_setIfInBounds_ne (by omega), Array.getElem?_setIfInBounds_ne (by omega), Array.getElem?_setIfInBounds_ne (by omega), Array.getElem?_setIfInBounds_ne (by omega), Array.getElem?_setIfInBounds_ne (by omega)]; exact q4
  · have hil : i = l.length := by
      have := (List.getElem?_eq_some_iff.1 hu).1
      simp at this; omega
    subst hil
    simp at hu
    subst hu
    refine ⟨?_, ?_, ?_, ?_, ?_⟩ <;> simp [Array.getElem?_setIfInBounds, h2] <;> omega

/-- Block g has room for n of them, and holds these. -/
def EBlk (w : World) (g n : Nat) (l : List (Te)) : Prop := ∃ C : Array Value, w.heap[g]? = some (.cells C 85 (0, 0)) ∧ C.size = n * 7 ∧
  ∀ i x, l[i]? = some x → C[i * 7]? = some (.int .i64 x.op) ∧ C[i * 7 + 1]? = some (.int .i64 x.l.k) ∧ C[i * 7 + 2]? = some (.int .i64 x.l.n) ∧ C[i * 7 + 3]? = some (.string x.l.s) ∧ C[i * 7 + 4]? = some (.int .i64 x.r.k) ∧ C[i * 7 + 5]? = some (.int .i64 x.r.n) ∧ C[i * 7 + 6]? = some (.string x.r.s)
theorem EBlk.lt {w : World} {g n : Nat} {l : List (Te)} (h : EBlk w g n l) : g < w.heap.size := by obtain ⟨C, h1, -⟩ := h; exact (Array.getElem?_eq_some_iff.1 h1).1
theorem EBlk.later {w w' : World} {g n : Nat} {l : List (Te)} (h : EBlk w g n l) (hb : Below w.heap.size w w') : EBlk w' g n l := by
  obtain ⟨C, h1, h2⟩ := h
  exact ⟨C, (hb.block _ (Array.getElem?_eq_some_iff.1 h1).1).trans h1, h2⟩
theorem EBlk.other {w : World} {g n G i : Nat} {a : Value} {l : List (Te)} (h : EBlk w g n l) (hk : g ≠ G) : EBlk (w.setCell ⟨G, i, none⟩ a) g n l := by
  obtain ⟨C, h1, h2⟩ := h
  exact ⟨C, by rw [heap_setCell_other _ _ _ _ hk]; exact h1, h2⟩
theorem EBlk.cells {w : World} {g n j : Nat} {l : List (Te)} (h : EBlk w g n l) (hj : j < n * 7) : (∃ c, w.cell? ⟨g, j, none⟩ = some c) ∧ w.frozen? ⟨g, j, none⟩ = false := by
  obtain ⟨C, h1, h2, -⟩ := h
  refine ⟨⟨C[j], ?_⟩, frozen_of_row _ _ _ _ _ h1⟩
  rw [cell_of_row _ _ _ _ _ _ h1]; simp
abbrev Eput (w : World) (g k : Nat) (x : Te) : World := (((((((w.setCell ⟨g, k * 7, none⟩ (.int .i64 x.op)).setCell ⟨g, k * 7 + 1, none⟩ (.int .i64 x.l.k)).setCell ⟨g, k * 7 + 2, none⟩ (.int .i64 x.l.n)).setCell ⟨g, k * 7 + 3, none⟩ (.string x.l.s)).setCell ⟨g, k * 7 + 4, none⟩ (.int .i64 x.r.k)).setCell ⟨g, k * 7 + 5, none⟩ (.int .i64 x.r.n)).setCell ⟨g, k * 7 + 6, none⟩ (.string x.r.s))
theorem EBlk.put {w : World} {g n : Nat} {l : List (Te)} (h : EBlk w g n l) (hk : l.length < n) (x : Te) : EBlk (Eput w g l.length x) g n (l ++ [x]) := by
  obtain ⟨C, h1, h2, h3⟩ := h
  have e0 := heap_setCell_same _ _ (l.length * 7) _ _ (.int .i64 x.op) h1
  have e1 := heap_setCell_same _ _ (l.length * 7 + 1) _ _ (.int .i64 x.l.k) e0
  have e2 := heap_setCell_same _ _ (l.length * 7 + 2) _ _ (.int .i64 x.l.n) e1
  have e3 := heap_setCell_same _ _ (l.length * 7 + 3) _ _ (.string x.l.s) e2
  have e4 := heap_setCell_same _ _ (l.length * 7 + 4) _ _ (.int .i64 x.r.k) e3
  have e5 := heap_setCell_same _ _ (l.length * 7 + 5) _ _ (.int .i64 x.r.n) e4
  have e6 := heap_setCell_same _ _ (l.length * 7 + 6) _ _ (.string x.r.s) e5
  refine ⟨_, e6, by simp [h2], fun i u hu => ?_⟩
  by_cases hik : i < l.length
  · rw [List.getElem?_append_left hik] at hu
    obtain ⟨q0, q1, q2, q3, q4, q5, q6⟩ := h3 i u hu
    refine ⟨?_, ?_, ?_, ?_, ?_, ?_, ?_⟩
    · rw [Array.getElem?_setIfInBounds_ne (by omega), Array.getElem?_setIfInBounds_ne (by omega), Array.getElem?_setIfInBounds_ne (by omega), Array.getElem?_setIfInBounds_ne (by omega), Array.getElem?_setIfInBounds_ne (by omega), Array.getElem?_setIfInBounds_ne (by omega), Array.getElem?_setIfInBounds_ne (by omega)]; exact q0
    · rw [Array.getElem?_setIfInBounds_ne (by omega), Array.getElem?_setIfInBounds_ne (by omega), Array.getElem?_setIfInBounds_ne (by omega), Array.getElem?_setIfInBounds_ne (by omega), Array.getElem?_setIfInBounds_ne (by omega), Array.getElem?_setIfInBounds_ne (by omega), Array.getElem?_setIfInBounds_ne (by omega)]; exact q1
    · rw [Array.getElem?_setIfInBounds_ne (by omega), Array.getElem?_setIfInBounds_ne (by omega), Array.getElem?_setIfInBounds_ne (by omega), Array.getElem?_setIfInBounds_ne (by omega), Array.getElem?_setIfInBounds_ne (by omega), Array.getElem?_setIfInBounds_ne (by omega), Array.getElem?_setIfInBounds_ne (by omega)]; exact q2
    · rw [Array.getElem?_setIfInBounds_ne (by omega), Array.getElem?_setIfInBounds_ne (by omega), Array.getElem?_setIfInBounds_ne (by omega), Array.getElem?_setIfInBounds_ne (by omega), Array.getElem?_setIfInBounds_ne (by omega), Array.getElem?_setIfInBounds_ne (by omega), Array.getElem?_setIfInBounds_ne (by omega)]; exact q3
    · rw [Array.getElem?_setIfInBounds_ne (by omega), Array.getElem?_setIfInBounds_ne (by omega), Array.getElem?_setIfInBounds_ne (by omega), Array.getElem?_setIfInBounds_ne (by omega), Array.getElem?_setIfInBounds_ne (by omega), Array.getElem?_setIfInBounds_ne (by omega), Array.getElem?_setIfInBounds_ne (by omega)]; exact q4
    · rw [Array.getElem?_setIfInBounds_ne (by omega), Array.getElem?_setIfInBounds_ne (by omega), Array.getElem?_setIfInBounds_ne (by omega), Array.getElem?_setIfInBounds_ne (by omega), Array.getElem?_setIfInBounds_ne (by omega), Array.getElem?_setIfInBounds_ne (by omega), Array.getElem?_setIfInBounds_ne (by omega)]; exact q5
    · rw [Array.getElem?_setIfInBounds_ne (by omega), Array.getElem?_setIfInBounds_ne (by omega), Array.getElem?_setIfInBounds_ne (by omega), Array.getElem?_setIfInBounds_ne (by omega), Array.getElem?_setIfInBounds_ne (by omega), Array.getElem?_setIfInBounds_ne (by omega), Array.getElem?_setIfInBounds_ne (by omega)]; exact q6
  · have hil : i = l.length := by
      have := (List.getElem?_eq_some_iff.1 hu).1
      simp at this; omega
    subst hil
    simp at hu
    subst hu
    refine ⟨?_, ?_, ?_, ?_, ?_, ?_, ?_⟩ <;> simp [Array.getElem?_setIfInBounds, h2] <;> omega

theorem ABlk.as {w : World} {g n : Nat} {l : List (At × Value)} (h : ABlk w g n l) (hn : l.length = n) (hl : n < 1000000000000000000) (ht : ∀ x ∈ l, Ts w x.2 x.1.args) : As w (.slice (some ⟨g, 0, none⟩) n n) l := by
  obtain ⟨C, h1, h2, h3⟩ := h
  refine ⟨some ⟨g, 0, none⟩, n, by rw [hn], by omega, Or.inr ⟨g, 0, rfl, (Array.getElem?_eq_some_iff.1 h1).1, fun i x hx => ?_⟩, ht⟩
  rw [cell_of_row _ _ _ _ _ _ h1, cell_of_row _ _ _ _ _ _ h1, cell_of_row _ _ _ _ _ _ h1, cell_of_row _ _ _ _ _ _ h1, cell_of_row _ _ _ _ _ _ h1]
  simp only [Nat.zero_add]
  exact h3 i x hx
theorem EBlk.es {w : World} {g n : Nat} {l : List Te} (h : EBlk w g n l) (hn : l.length = n) (hl : n < 1000000000000000000) : Es w (.slice (some ⟨g, 0, none⟩) n n) l := by
  obtain ⟨C, h1, h2, h3⟩ := h
  refine ⟨some ⟨g, 0, none⟩, n, by rw [hn], by omega, Or.inr ⟨g, 0, rfl, (Array.getElem?_eq_some_iff.1 h1).1, fun i x hx => ?_⟩⟩
  rw [cell_of_row _ _ _ _ _ _ h1, cell_of_row _ _ _ _ _ _ h1, cell_of_row _ _ _ _ _ _ h1, cell_of_row _ _ _ _ _ _ h1, cell_of_row _ _ _ _ _ _ h1, cell_of_row _ _ _ _ _ _ h1, cell_of_row _ _ _ _ _ _ h1]
  simp only [Nat.zero_add]
  exact h3 i x hx
theorem Tryz.infoAtom : (Tryz.prog.info? 42).map (fun i => (i.zero, i.size, i.bytes)) = some (some (.agg #[.int .i64 0, .int .i64 0, .string ⟨#[]⟩, .string ⟨#[]⟩, .slice none 0 0]), 5, 72) := by kernel_rfl
def MA (n : Nat) : Array Value := madeCells #[.int .i64 0, .int .i64 0, .string ⟨#[]⟩, .string ⟨#[]⟩, .slice none 0 0] (n * 5)
theorem mk_atoms (n : Nat) (hn : n ≤ 1900000000000) (w : World) : (Instr.makeSlice 50 (.int .i64 (n : Int)) (.int .i64 (n : Int))).run Tryz.prog w = .ok (.slice (some ⟨w.heap.size, 0, none⟩) n n) (w.alloc (.cells (MA n) 42)) := by
  obtain ⟨i, hi, h0, h1, h2⟩ := info_parts Tryz.infoAtom
  have h := run_make (P := Tryz.prog) w 50 42 i _ Tryz.underlying50 hi h0 .i64 .i64 n n (by omega) (Int.le_refl _) (by rw [h2]; omega) (by omega)
  rw [h1, Int.toNat_natCast] at h
  exact h
theorem Tryz.infoTest : (Tryz.prog.info? 85).map (fun i => (i.zero, i.size, i.bytes)) = some (some (.agg #[.int .i64 0, .int .i64 0, .int .i64 0, .string ⟨#[]⟩, .int .i64 0, .int .i64 0, .string ⟨#[]⟩]), 7, 72) := by kernel_rfl
def ME (n : Nat) : Array Value := madeCells #[.int .i64 0, .int .i64 0, .int .i64 0, .string ⟨#[]⟩, .int .i64 0, .int .i64 0, .string ⟨#[]⟩] (n * 7)
theorem mk_tests (n : Nat) (hn : n ≤ 1900000000000) (w : World) : (Instr.makeSlice 51 (.int .i64 (n : Int)) (.int .i64 (n : Int))).run Tryz.prog w = .ok (.slice (some ⟨w.heap.size, 0, none⟩) n n) (w.alloc (.cells (ME n) 85)) := by
  obtain ⟨i, hi, h0, h1, h2⟩ := info_parts Tryz.infoTest
  have h := run_make (P := Tryz.prog) w 51 85 i _ Tryz.underlying51 hi h0 .i64 .i64 n n (by omega) (Int.le_refl _) (by rw [h2]; omega) (by omega)
  rw [h1, Int.toNat_natCast] at h
  exact h
theorem ABlk.start {w : World} {g n : Nat} (h : w.heap[g]? = some (.cells (MA n) 42 (0, 0))) : ABlk w g n [] := ⟨_, h, by rw [MA, size_madeCells], fun i x hx => by simp at hx⟩
theorem EBlk.start {w : World} {g n : Nat} (h : w.heap[g]? = some (.cells (ME n) 85 (0, 0))) : EBlk w g n [] := ⟨_, h, by rw [ME, size_madeCells], fun i x hx => by simp at hx⟩
/-- A list of terms that doesn't lie in block g. -/
def TsN (w : World) (g : Nat) (v : Value) (l : List Tm) : Prop := Ts w v l ∧ v.ownBlock ≠ some g
theorem TsN.later {w w' : World} {g : Nat} {v : Value} {l : List Tm} (h : TsN w g v l) (hb : Below w.heap.size w w') : TsN w' g v l := ⟨h.1.later hb, h.2⟩
theorem Ts.off {w : World} {g i : Nat} {u v : Value} {l : List Tm} (h : Ts w v l) (hne : v.ownBlock ≠ some g) : Ts (w.setCell ⟨g, i, none⟩ u) v l := by
  obtain ⟨a, cap, rfl, hl, hm⟩ := h
  refine ⟨a, cap, rfl, hl, ?_⟩
  rcases hm with hm | ⟨b, o, rfl, hb, hm⟩
  · exact Or.inl hm
  · have hbg : b ≠ g := fun e => hne (by rw [e]; rfl)
    have hc : ∀ j, (w.setCell ⟨g, i, none⟩ u).cell? ⟨b, j, none⟩ = w.cell? ⟨b, j, none⟩ := fun j => World.cell?_of_block (w := w) (a := ⟨b, j, none⟩) (heap_setCell_other _ _ _ _ hbg)
    refine Or.inr ⟨b, o, rfl, by simpa [World.setCell] using hb, fun q t ht => ?_⟩
    simp only [hc]
    exact hm q t ht
theorem TsN.off {w : World} {g i : Nat} {u v : Value} {l : List Tm} (h : TsN w g v l) : TsN (w.setCell ⟨g, i, none⟩ u) g v l := ⟨h.1.off h.2, h.2⟩
end Go.Proofs.YtcpjiahdaplhlaaGreatDoor

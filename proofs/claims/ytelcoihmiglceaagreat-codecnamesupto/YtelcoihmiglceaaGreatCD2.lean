import Derived.Test.YtelcoihmiglceaaGreatCK1
import Derived.Test.YtelcoihmiglceaaGreatCL12
import Derived.Test.YtelcoihmiglceaaGreatCD6
/-
  The codec reads: lists of tests, clauses. (Written by CG3.py.)
-/
namespace Go.Proofs.YtelcoihmiglceaaGreat
open Go.RowKit

/-- What is read keeps its measure. -/
def Gd {α : Type} (Q : α → Prop) (f : List Int → Rd α) : Prop := ∀ l a r, byt l → f l = .ok (a, r) → byt r ∧ Q a
theorem Gd.bind {α β : Type} {Q : α → Prop} {R : β → Prop} {f : List Int → Rd α} {g : α → List Int → Rd β} (hf : Gd Q f) (hg : ∀ a, Q a → Gd R (g a)) : Gd R (fun l => (f l).and g) := by
  intro l b r hl h
  rcases hr : f l with c | ⟨a, r1⟩
  · simp only [hr, Rd.and] at h; cases h
  · simp only [hr, Rd.and] at h
    obtain ⟨h1, h2⟩ := hf l a r1 hl hr
    exact hg a h2 r1 b r h1 h
def wfN (t : Tm) : Prop := (Lit.int .i64 t.n).wf = true
def GA (a : At) : Prop := a.args.length ≤ 8 ∧ ∀ t ∈ a.pl, wfN t
def GE (e : Te) : Prop := wfN e.l ∧ wfN e.r
/-- What Check says of a clause's data. -/
def chkK (x : Ck) : Int := Cm.chk ⟨(x.1, .slice none 0 0), x.2.1.map fun a => (a, .slice none 0 0), .slice none 0 0, x.2.2, .slice none 0 0⟩
theorem chk_keyK (c : Cm) : c.chk = chkK c.key := by
  unfold chkK
  refine chk_key ?_
  simp [Cm.key, fsts]
def rClause (l : List Int) : Rd Ck := (rAtom l).and fun h r => (rBnd 0 8 r).and fun n r => (rMany rAtom n.toNat r).and fun b r => (rBnd 0 8 r).and fun k r => (rMany rTest k.toNat r).and fun ts r => if chkK (h, b, ts) = 0 then .ok ((h, b, ts), r) else .error 63
/-- A clause whose lists the call made. -/
structure MC8 (B : Nat) (X : World) (d : Cm) : Prop where
  h : OwnT X B d.head.2 d.head.1.args
  b : OAL X B d.bv d.body
  t : OwnE X B d.tv d.tests
theorem MC8.later {B : Nat} {X X' : World} {d : Cm} (h : MC8 B X d) (hb : Below X.heap.size X X') : MC8 B X' d := ⟨h.h.later hb, h.b.later hb, h.t.later hb⟩
theorem MC8.mono {B B' : Nat} {X : World} {d : Cm} (h : MC8 B X d) (hb : B' ≤ B) : MC8 B' X d := ⟨h.h.mono hb, h.b.mono hb, h.t.mono hb⟩
theorem MC8.set {B : Nat} {X : World} {d : Cm} {G i : Nat} {c : Value} (h : MC8 B X d) (hG : G < B) : MC8 B (X.setCell ⟨G, i, none⟩ c) d := ⟨h.h.set hG, h.b.set hG, h.t.set hG⟩
/-- The sizes of what was read. -/
structure GC (x : Ck) : Prop where
  h : GA x.1
  b : x.2.1.length ≤ 8 ∧ ∀ a ∈ x.2.1, GA a
  t : x.2.2.length ≤ 8 ∧ ∀ e ∈ x.2.2, GE e
theorem MC8.ok {B : Nat} {X : World} {d : Cm} (h : MC8 B X d) (hg : GC d.key) : d.ok X := by
  have h1 := hg.h.1
  have h2 := hg.b.1
  have h3 := hg.t.1
  simp only [Cm.key, fsts, List.length_map] at h1 h2 h3
  exact ⟨h.h.tsP.ts (by omega), h.b.1.as (by omega) fun y hy => (h.b.2 y hy).tsP.ts (by have := (hg.b.2 y.1 (List.mem_map_of_mem hy)).1; omega), h.t.es (by omega)⟩
theorem GC.wf {d : Cm} (hg : GC d.key) : d.wf := by
  have key : ∀ t ∈ d.terms, wfN t := fun t ht => by
    unfold Cm.terms at ht
    rcases List.mem_append.1 ht with ht | ht
    · obtain ⟨x, hx, ht⟩ := List.mem_flatMap.1 ht
      rcases List.mem_cons.1 hx with rfl | hx
      · exact hg.h.2 t ht
      · exact (hg.b.2 x.1 (List.mem_map_of_mem hx)).2 t ht
    · obtain ⟨x, hx, ht⟩ := List.mem_flatMap.1 ht
      have := hg.t.2 x hx
      simp only [List.mem_cons, List.not_mem_nil, or_false] at ht
      rcases ht with rfl | rfl
      · exact this.1
      · exact this.2
  refine ⟨fun t ht _ => key t ht, ?_⟩
  have l1 : (d.atoms.flatMap fun x => x.1.pl).length ≤ d.atoms.length * 9 := by
    have : ∀ L : List (At × Value), (∀ x ∈ L, GA x.1) → (L.flatMap fun x => x.1.pl).length ≤ L.length * 9 := by
      intro L
      induction L with
      | nil => intro _; simp
      | cons x L ih =>
        intro hL
        have h1 := (hL x (by simp)).1
        have h2 := ih (fun y hy => hL y (by simp [hy]))
        simp only [List.flatMap_cons, List.length_append, List.length_cons, At.pl] at h2 ⊢
        omega
    exact this _ (fun x hx => by
      rcases List.mem_cons.1 hx with rfl | hx
      · exact hg.h
      · exact hg.b.2 x.1 (List.mem_map_of_mem hx))
  have l2 : (d.tests.flatMap fun t => [t.l, t.r]).length ≤ d.tests.length * 2 := by
    have : ∀ L : List Te, (L.flatMap fun t => [t.l, t.r]).length ≤ L.length * 2 := by
      intro L
      induction L with
      | nil => simp
      | cons x L ih => simp only [List.flatMap_cons, List.length_append, List.length_cons, List.length_nil]; omega
    exact this _
  have h2 := hg.b.1
  have h3 := hg.t.1
  simp only [Cm.key, fsts, List.length_map] at h2 h3
  unfold Cm.terms
  rw [List.length_append]
  have e : d.atoms.length = d.body.length + 1 := by simp [Cm.atoms]
  omega
end Go.Proofs.YtelcoihmiglceaaGreat
/-
  The codec, plain: terms and atoms that are written are read back.
-/
namespace Go.Proofs.YtelcoihmiglceaaGreat
open Go.RowKit

/-- Its number is one of 64 bits. -/
def rng (t : Tm) : Prop := -9223372036854775808 ≤ t.n ∧ t.n ≤ 9223372036854775807
theorem wrap_back {n : Int} (h0 : -9223372036854775808 ≤ n) (h1 : n ≤ 9223372036854775807) : wrap64 (n % 18446744073709551616) = n := by
  unfold wrap64
  omega
theorem empty_size {s : ByteArray} (h : s.size = 0) : s = ⟨#[]⟩ := by
  obtain ⟨a⟩ := s
  have : a.size = 0 := h
  rw [Array.eq_empty_of_size_eq_zero this]
theorem rTermOf_tB {t : Tm} (r : List Int) (lo : Int) (h : t.cov = true) (hr : rng t) (hl : t.k = 2 → lo ≤ t.s.size) : ∃ l, tB t = t.k :: l ∧ rTermOf t.k lo (l ++ r) = .ok (t, r) := by
  obtain ⟨k, n, s⟩ := t
  unfold Tm.cov at h
  simp only [Tm.con, Tm.var, Bool.or_eq_true, decide_eq_true_eq] at h
  obtain ⟨g0, g1⟩ := hr
  simp only at g0 g1 hl
  have hp : (256 : Int) ^ 8 = 18446744073709551616 := by decide
  rcases h with (⟨rfl, rfl⟩ | ⟨rfl, rfl, h2⟩) | ⟨rfl, h0, rfl⟩
  · refine ⟨be 8 (n % 18446744073709551616), by simp [tB], ?_⟩
    unfold rTermOf
    rw [if_pos rfl, rNum_be 8 _ r (Int.emod_nonneg _ (by omega)) (by rw [hp]; exact Int.emod_lt_of_pos _ (by omega))]
    simp only [Rd.and]
    rw [wrap_back g0 g1]
  · refine ⟨sB s, by simp [tB], ?_⟩
    unfold rTermOf
    rw [if_neg (by simp), if_pos rfl, rText_sB r (hl rfl) (by omega)]
    simp only [Rd.and]
    rw [ofL_bl]
  · refine ⟨be 8 (n % 18446744073709551616), by simp [tB], ?_⟩
    unfold rTermOf rNat
    rw [if_neg (by simp), if_neg (by simp), if_pos rfl, rNum_be 8 _ r (Int.emod_nonneg _ (by omega)) (by rw [hp]; exact Int.emod_lt_of_pos _ (by omega))]
    simp only [Rd.and]
    rw [Int.emod_eq_of_lt h0 (by omega), if_neg (by omega)]
theorem rArg_tB {t : Tm} (r : List Int) (h : t.cov = true) (hr : rng t) : rArg (tB t ++ r) = .ok (t, r) := by
  obtain ⟨l, e, h2⟩ := rTermOf_tB r 0 h hr (fun _ => by omega)
  have hk : t.k ∈ [(1 : Int), 2, 3] := by
    unfold Tm.cov at h
    simp only [Tm.con, Tm.var, Bool.or_eq_true, decide_eq_true_eq] at h
    simp only [List.mem_cons, List.mem_nil_iff, or_false]
    omega
  unfold rArg
  rw [e, List.cons_append, rOne_one _ hk]
  exact h2
theorem rQual_tB {t : Tm} (r : List Int) (h : qualOk t = true) (hr : rng t) : rQual (tB t ++ r) = .ok (t, r) := by
  by_cases hz : t = zt
  · subst hz
    unfold rQual
    rw [show tB zt ++ r = 0 :: r from by simp [tB, zt], rOne_one _ (by simp)]
    simp [Rd.and, rTermOf]
  · have hc : t.cov = true ∧ (t.k = 2 ∧ 1 ≤ t.s.size ∨ t.k = 3) := by
      unfold qualOk at h
      simp only [Tm.prin, Tm.var, Bool.or_eq_true, decide_eq_true_eq] at h
      unfold Tm.cov
      simp only [Tm.con, Tm.var, Bool.or_eq_true, decide_eq_true_eq]
      rcases h with h | ⟨h1, h2, h3, h4⟩ | h
      · exact absurd h hz
      · refine ⟨.inl (.inr ⟨h1, h2, h3⟩), .inl ⟨h1, ?_⟩⟩
        rcases Nat.eq_zero_or_pos t.s.size with h5 | h5
        · exact absurd (empty_size h5) h4
        · exact h5
      · exact ⟨.inr h, .inr h.1⟩
    obtain ⟨l, e, h2⟩ := rTermOf_tB r 1 hc.1 hr (fun h2 => by have := hc.2; omega)
    have hk : t.k ∈ [(0 : Int), 2, 3] := by
      have := hc.2
      simp only [List.mem_cons, List.mem_nil_iff, or_false]
      omega
    unfold rQual
    rw [e, List.cons_append, rOne_one _ hk]
    exact h2
theorem rName_sB {s : ByteArray} (r : List Int) (h : nameOk s = true) (h0 : 1 ≤ s.size) (h1 : s.size ≤ 32) : rName (sB s ++ r) = .ok (s, r) := by
  unfold rName
  rw [rText_sB r (by omega) (by omega)]
  simp only [Rd.and, ofL_bl]
  rw [if_pos h]
theorem rAtom_aB {a : At} (r : List Int) (h : a.err = 0) (hr : ∀ t ∈ a.pl, rng t) : rAtom (aB a ++ r) = .ok (a, r) := by
  obtain ⟨b, nm, ts⟩ := a
  have hf : nameOk nm = true ∧ ts.length ≤ 8 ∧ qualOk b = true ∧ ∀ t ∈ ts, t.cov = true := by
    unfold At.err at h
    simp only at h
    split at h
    · cases h
    · rename_i h1
      split at h
      · cases h
      · rename_i h2
        split at h
        · cases h
        · rename_i h3
          split at h
          · rename_i h4
            exact ⟨by simpa using h1, by omega, by simpa using h3, fun t ht => List.all_eq_true.1 h4 t ht⟩
          · cases h
  obtain ⟨h1, h2, h3, h4⟩ := hf
  have hn : 1 ≤ nm.size ∧ nm.size ≤ 32 := by
    unfold nameOk nameHead at h1
    simp only [Bool.and_eq_true, decide_eq_true_eq] at h1
    refine ⟨?_, h1.1.1.2.1⟩
    rcases Nat.eq_zero_or_pos nm.size with h5 | h5
    · exact absurd (empty_size h5) h1.1.1.1
    · exact h5
  unfold rAtom aB
  simp only [List.append_assoc, List.cons_append]
  rw [rQual_tB _ h3 (hr b (by simp [At.pl]))]
  simp only [Rd.and]
  rw [rName_sB _ h1 hn.1 hn.2]
  simp only
  rw [rBnd_one _ (by omega) (by omega)]
  simp only [Int.toNat_natCast]
  rw [rMany_flat ts r (fun t ht r => rArg_tB r (h4 t ht) (hr t (by simp [At.pl, ht])))]
end Go.Proofs.YtelcoihmiglceaaGreat
/-
  The codec writes: numbers, texts, terms.
-/
namespace Go.Proofs.YtelcoihmiglceaaGreat
open Go.RowKit

/-- All that isn't bytes stays. -/
structure K8 (w w' : World) : Prop where
  size : w.heap.size ≤ w'.heap.size
  block : ∀ (k : Nat) (c : Array Value) (t : TypeId) (fr : Nat × Nat), w.heap[k]? = some (.cells c t fr) → t ≠ 5 → w'.heap[k]? = some (.cells c t fr)
theorem K8.refl (w : World) : K8 w w := ⟨Nat.le_refl _, fun _ _ _ _ h _ => h⟩
theorem K8.trans {a b c : World} (h : K8 a b) (k : K8 b c) : K8 a c := ⟨Nat.le_trans h.size k.size, fun i d t fr hi ht => k.block i d t fr (h.block i d t fr hi ht) ht⟩
theorem K8.of {w w' : World} (h : Below w.heap.size w w') : K8 w w' := ⟨h.size, fun k _ _ _ hk _ => (h.block k (Array.getElem?_eq_some_iff.1 hk).1).trans hk⟩
theorem K8.alloc (w : World) (o : Obj) : K8 w (w.alloc o) := K8.of (below1 _ _)
theorem OwnB.k8 {w w' : World} {base : Nat} {v : Value} {l : List Int} (h : OwnB w base v l) (hg : w.grownBy w' v.ownBlock) : K8 w w' := by
  refine ⟨hg.size, fun k c t fr hk ht => ?_⟩
  rw [hg.block k (Array.getElem?_eq_some_iff.1 hk).1 (fun e => ?_)]
  · exact hk
  · rcases h.2 with ⟨rfl, -⟩ | ⟨g, cap, cur, rfl, -, hgg, -⟩
    · cases e
    · cases e
      rw [hgg] at hk
      cases hk
      exact ht rfl
theorem Blk.k8 {w w' : World} {g : Nat} {c : Array Value} {t : TypeId} (h : Blk w g c t) (hk : K8 w w') (ht : t ≠ 5) : Blk w' g c t := hk.block _ _ _ _ h ht
/-- What a call that writes behind a list of bytes leaves. -/
structure Wr (w : World) (base : Nat) (l : List Int) (v' : Value) (w' : World) : Prop where
  own : OwnB w' base v' l
  low : Below base w w'
  k8 : K8 w w'
theorem app8 {ops : Array Oper} {rest : List Oper} {o : Oper} {a : Act} {Q : Exit → Act → World → Prop} {w : World} (hgd : o.guard = none) (s x : Operand)
    (ho : o.op = .call { callee := .builtin .append, args := #[s, x], argTypes := #[37, 37] }) (base : Nat) (v : Value) (l : List Int) (hs : a.eval s = v) (hown : OwnB w base v l)
    (b : Nat) (news : List Int) (hx : a.eval x = .slice (some ⟨b, 0, none⟩) news.length news.length) (hblk : w.heap[b]? = some (.cells (ibs news).toArray 5 (0, 0))) (hm : 0 < news.length) (hlen : l.length + news.length ≤ 1000000000000) (hbase : base ≤ w.heap.size)
    (h : ∀ v' w', Wr w base (l ++ news) v' w' → wpList Tryz.prog ops Q rest (a.put o.dst v') w') : wpList Tryz.prog ops Q (o :: rest) a w := by
  obtain ⟨i, z, hi, hz0, hz1, hz2, hz3⟩ := infoU8_parts
  refine wpList_append_lies _ hgd s x 37 ho base 5 i z 1 1 Tryz.underlying37 hi hz0 hz1 hz2 hz3 (by omega) v l.length (ibs l) hs hown ⟨b, 0, none⟩ news.length news.length (ibs news) hx (by simp [ibs]) ?_ (by simp [ibs, Value.oneCell']) hm (by unfold maxLen; omega) (by omega) hbase _ rfl ?_
  · intro j u hj
    have := World.news_of_block (cs := (ibs news).toArray) (t := 5) (fr := (0, 0)) hblk j u
    exact this (by simpa using hj)
  · intro g cap w' h1 h2 h3 h4
    refine h _ w' ⟨?_, grown_below h2 (fun k hk => (World.ownsRow.lt hown k hk).1) hbase, hown.k8 h2⟩
    unfold OwnB
    rw [List.length_append, show ibs (l ++ news) = ibs l ++ ibs news by simp [ibs]]
    exact h1
theorem app8s {ops : Array Oper} {rest : List Oper} {o : Oper} {a : Act} {Q : Exit → Act → World → Prop} {w : World} (hgd : o.guard = none) (sl x : Operand)
    (ho : o.op = .call { callee := .builtin .append, args := #[sl, x], argTypes := #[37, 9] }) (base : Nat) (v : Value) (l : List Int) (hs : a.eval sl = v) (hown : OwnB w base v l) (s : ByteArray) (hx : a.eval x = .string s)
    (hlen : l.length + s.size ≤ 1000000000000) (hbase : base ≤ w.heap.size)
    (h : ∀ v' w', Wr w base (l ++ bl s) v' w' → wpList Tryz.prog ops Q rest (a.put o.dst v') w') : wpList Tryz.prog ops Q (o :: rest) a w := by
  obtain ⟨i, hi, hz0, hz1, hz2⟩ := Tryz.zeroU8
  refine Lib.wpList_append_own_string _ hgd sl x 37 9 ho base 5 i Tryz.underlying37 Tryz.underlying9 hi hz0 hz1 hz2 v l.length (ibs l) hs hown s hx (by unfold maxLen; omega) (by omega) hbase ?_
  intro v' w' h1 h2 h3
  refine h v' w' ⟨?_, grown_below h2 (fun k hk => (World.ownsRow.lt hown k hk).1) hbase, hown.k8 h2⟩
  unfold OwnB
  rw [List.length_append, bl_len, show ibs (l ++ bl s) = ibs l ++ ibs (bl s) by simp [ibs], ibs_bl]
  exact h1
theorem be_take (k j : Nat) (n : Int) (h : j < k) : (be k n).take (j + 1) = (be k n).take j ++ [(n / (256 : Int) ^ (k - 1 - j)) % 256] := by
  induction k generalizing j with
  | zero => omega
  | succ k ih =>
    cases j with
    | zero => simp [be]
    | succ j =>
      simp only [be, List.take_succ_cons, List.cons_append, List.cons.injEq, true_and]
      rw [ih j (by omega)]
      congr 5
      omega
theorem pow8 (i : Nat) : (2 : Int) ^ (8 * i) = (256 : Int) ^ i := by
  rw [Int.pow_mul]; rfl
set_option maxRecDepth 20000 in
set_option maxHeartbeats 1000000 in
theorem putNumber_any (k : Nat) (hk : k ≤ 8) (n : Int) (v : Value) (l : List Int) (base : Nat) (w : World) (h : OwnB w base v l) (hl : l.length ≤ 900000000000) (hB : base ≤ w.heap.size) :
    Calls Tryz.prog 73 #[v, .int .i64 k, .int .u64 n] w fun e w' => ∃ v', e = .returned v' ∧ Wr w base (l ++ be k n) v' w' := by
  have HO : Hid (OwnB w base v l) := h
  clear h
  go_enter Tryz.func73, Tryz.ntmps73
  go_wp2
  go_loopg [0, 7] k (fun g u i wr => ∃ j : Nat, j + g = k ∧ i = .int .i64 ((g : Int) - 1) ∧ Wr w base (l ++ (be k n).take j) u wr)
  case atStart => exact ⟨0, by omega, by simp, by rw [List.take_zero, List.append_nil]; exact ⟨HO.out, Below.refl _ _, K8.refl _⟩⟩
  case round =>
    obtain ⟨j, hj, rfl, hw⟩ := hrel
    have HW : Hid (Wr w base (l ++ (be k n).take j) u0 wr) := hw
    have hsz := hw.low.size
    clear hw
    cases gk with
    | succ g =>
      have e1 : ((g + 1 : Nat) : Int) - 1 = (g : Int) := by omega
      rw [e1]
      have i0 : (0 : Int) ≤ (g : Int) := by omega
      have i8 : (g : Int) ≤ 7 := by omega
      have hlen : (l ++ (be k n).take j).length ≤ 900000080000 := by rw [List.length_append, List.length_take, be_len]; omega
      go_wp2_with (at_builtin; refine app8 rfl _ _ rfl base u0 (l ++ (be k n).take j) rfl (HW.out.own.later (below1 _ _)) wr.heap.size [n / 2 ^ (8 * g) % 256] rfl (heap_alloc_new wr _) (by simp) (by simp only [List.length_cons, List.length_nil]; omega) (by simp; omega) ?_; intro v' w1 ho1)
      go_roundg g
      case measure => omega
      case rel =>
        refine ⟨j + 1, by omega, by go_num, ?_⟩
        have e : l ++ (be k n).take (j + 1) = l ++ (be k n).take j ++ [n / 2 ^ (8 * g) % 256] := by rw [be_take k j n (by omega), pow8, ← List.append_assoc]; congr 5; omega
        rw [e]
        exact ⟨ho1.own, HW.out.low.trans (((below1 _ _).mono (by omega)).trans ho1.low), HW.out.k8.trans ((K8.alloc _ _).trans ho1.k8)⟩
    | zero =>
      obtain rfl : j = k := by omega
      go_wp2
      go_ret
      refine ⟨_, rfl, ?_⟩
      have := HW.out
      rwa [List.take_of_length_le (by rw [be_len]; exact Nat.le_refl _)] at this
theorem Wr.step {w w1 w2 : World} {base : Nat} {l m : List Int} {v v2 : Value} (h : Wr w base l v w1) (k : Wr w1 base m v2 w2) : Wr w base m v2 w2 := ⟨k.own, h.low.trans k.low, h.k8.trans k.k8⟩
theorem Wr.start {w : World} {base : Nat} {v : Value} {l : List Int} (h : OwnB w base v l) : Wr w base l v w := ⟨h, Below.refl _ _, K8.refl _⟩
theorem Wr.ahead {w w1 w2 : World} {base : Nat} {m : List Int} {v2 : Value} (h : Below w.heap.size w w1) (hB : base ≤ w.heap.size) (k : Wr w1 base m v2 w2) : Wr w base m v2 w2 := ⟨k.own, (h.mono hB).trans k.low, (K8.of h).trans k.k8⟩
theorem putInt_any (n : Int) (v : Value) (l : List Int) (base : Nat) (w : World) (h : OwnB w base v l) (hl : l.length ≤ 900000000000) (hB : base ≤ w.heap.size) :
    Calls Tryz.prog 84 #[v, .int .i64 n] w fun e w' => ∃ v', e = .returned v' ∧ Wr w base (l ++ be 8 (n % 18446744073709551616)) v' w' := by
  have HN : Hid (∀ x, Calls Tryz.prog 73 #[v, .int .i64 8, .int .u64 x] w fun e w' => ∃ v', e = .returned v' ∧ Wr w base (l ++ be 8 x) v' w') := fun x => putNumber_any 8 (Nat.le_refl _) x v l base w h hl hB
  clear h
  go_enter Tryz.func84, Tryz.ntmps84
  go_wp2_with (go_at_call 73; refine (HN.out _).mono ?_; rintro e w1 ⟨v1, rfl, hw⟩)
  go_ret
  exact ⟨_, rfl, hw⟩
theorem be_one (n : Int) (h0 : 0 ≤ n) (h1 : n ≤ 255) : be 1 n = [n] := by
  simp [be]; omega
theorem putText_any (s : ByteArray) (hs : s.size ≤ 255) (v : Value) (l : List Int) (base : Nat) (w : World) (h : OwnB w base v l) (hl : l.length ≤ 800000000000) (hB : base ≤ w.heap.size) :
    Calls Tryz.prog 79 #[v, .string s] w fun e w' => ∃ v', e = .returned v' ∧ Wr w base (l ++ sB s) v' w' := by
  have e1 : (s.size : Int) % 18446744073709551616 = (s.size : Int) := by omega
  have HN : Hid (Calls Tryz.prog 73 #[v, .int .i64 1, .int .u64 (s.size : Int)] w fun e w' => ∃ v', e = .returned v' ∧ Wr w base (l ++ [(s.size : Int)]) v' w') := by
    have := putNumber_any 1 (by omega) (s.size : Int) v l base w h (by omega) hB
    rw [be_one _ (by omega) (by omega)] at this
    exact this
  have HS : Hid (l ++ sB s = l ++ [(s.size : Int)] ++ bl s) := by show _ = _; simp [sB]
  clear h
  go_enter Tryz.func79, Tryz.ntmps79
  go_wp2_with (first
    | (go_at_call 73; refine HN.out.mono ?_; rintro e w1 ⟨v1, rfl, hw⟩; have HW : Hid (Wr w base (l ++ [(s.size : Int)]) v1 w1) := hw; have hsz := hw.low.size; clear hw)
    | (at_builtin; refine app8s rfl _ _ rfl base v1 (l ++ [(s.size : Int)]) rfl HW.out.own s rfl (by simp; omega) (by omega) ?_; intro v2 w2 hw2))
  go_ret
  exact ⟨_, rfl, by rw [HS.out]; exact HW.out.step hw2⟩
end Go.Proofs.YtelcoihmiglceaaGreat

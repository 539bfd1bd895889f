import Derived.Test.YtelcoihmiglceaaCD2
import Derived.Test.YtelcoihmiglceaaCG1
import Derived.Test.YtelcoihmiglceaaLE2
/-
  The codec, plain: clauses that are written are read back.
-/
namespace Go.Proofs.Ytelcoihmiglceaa
open Go.RowKit

theorem chk_errs {c : Cm} (h : c.chk = 0) : (∀ a ∈ c.key.1 :: c.key.2.1, a.err = 0) ∧ (∀ e ∈ c.key.2.2, e.ok = true) ∧ c.key.2.1.length ≤ 8 ∧ c.key.2.2.length ≤ 8 := by
  have h1 : long c = false := by
    cases e : long c
    · rfl
    · rw [chk_1 e] at h; cases h
  have h2 : aErr c.atoms = 0 := by
    by_cases e : aErr c.atoms = 0
    · exact e
    · rw [chk_2 h1 e] at h; exact absurd h e
  have h3 : badT c = false := by
    cases e : badT c
    · rfl
    · rw [chk_3 h1 h2 e] at h; cases h
  have hall := aErr_all h2
  have h4 := chk_fit h
  refine ⟨fun a ha => ?_, fun e he => ?_, h4.2.2.1, h4.2.2.2⟩
  · rcases List.mem_cons.1 ha with rfl | ha
    · exact hall c.head (by simp [Cm.atoms])
    · obtain ⟨x, hx, rfl⟩ := List.mem_map.1 ha
      exact hall x (by simp [Cm.atoms, hx])
  · have := List.any_eq_false.1 h3 e he
    simpa only [Bool.not_eq_true, Bool.not_eq_false'] using this
theorem rTest_eB {e : Te} (r : List Int) (h : e.ok = true) (hl : rng e.l) (hr : rng e.r) : rTest (eB e ++ r) = .ok (e, r) := by
  obtain ⟨op, x, y⟩ := e
  unfold Te.ok at h
  simp only [Bool.and_eq_true, decide_eq_true_eq] at h
  obtain ⟨⟨h1, h2⟩, h3, h4⟩ := h
  have hk : op ∈ [(1 : Int), 2, 3, 4] := by
    simp only [List.mem_cons, List.mem_nil_iff, or_false]
    omega
  unfold rTest eB
  simp only [List.cons_append, List.append_assoc]
  rw [rOne_one _ hk]
  simp only [Rd.and]
  rw [rArg_tB _ h3 hl]
  simp only
  rw [rArg_tB _ h4 hr]
/-- All numbers of a clause are of 64 bits. -/
structure Rng (x : Ck) : Prop where
  a : ∀ a ∈ x.1 :: x.2.1, ∀ t ∈ a.pl, rng t
  e : ∀ e ∈ x.2.2, rng e.l ∧ rng e.r
theorem rClause_cB {c : Cm} (r : List Int) (h : c.chk = 0) (hr : Rng c.key) : rClause (cB c.key ++ r) = .ok (c.key, r) := by
  obtain ⟨h1, h2, h3, h4⟩ := chk_errs h
  rw [chk_keyK] at h
  generalize c.key = x at *
  obtain ⟨a, b, ts⟩ := x
  obtain ⟨ra, re⟩ := hr
  simp only at h1 h2 h3 h4 ra re
  unfold rClause cB
  simp only [List.append_assoc, List.cons_append]
  rw [rAtom_aB _ (h1 a (by simp)) (ra a (by simp))]
  simp only [Rd.and]
  rw [rBnd_one _ (by omega) (by omega)]
  simp only [Int.toNat_natCast]
  rw [rMany_flat b _ (fun y hy r => rAtom_aB r (h1 y (by simp [hy])) (ra y (by simp [hy])))]
  simp only
  rw [rBnd_one _ (by omega) (by omega)]
  simp only [Int.toNat_natCast]
  rw [rMany_flat ts _ (fun y hy r => rTest_eB r (h2 y hy) (re y hy).1 (re y hy).2)]
  simp only
  rw [if_pos h]
theorem rWhole_cB {c : Cm} (h : c.chk = 0) (hr : Rng c.key) : rWhole rClause (cB c.key) = .ok c.key := by
  have := rClause_cB [] h hr
  rw [List.append_nil] at this
  unfold rWhole
  rw [this]
  simp
theorem rWhole_aB {a : At} (h : a.err = 0) (hr : ∀ t ∈ a.pl, rng t) : rWhole rAtom (aB a) = .ok a := by
  have := rAtom_aB [] h hr
  rw [List.append_nil] at this
  unfold rWhole
  rw [this]
  simp
end Go.Proofs.Ytelcoihmiglceaa
/-
  The codec, plain: what is read has just the bytes that were read.
-/
namespace Go.Proofs.Ytelcoihmiglceaa
open Go.RowKit

theorem fold_val (l : List Int) : ∀ v : Int, l.foldl (fun v b => v * 256 + b) v = v * (256 : Int) ^ l.length + val l := by
  induction l with
  | nil => intro v; simp [val]
  | cons b l ih =>
    intro v
    have e : (256 : Int) ^ (l.length + 1) = 256 ^ l.length * 256 := Int.pow_succ _ _
    have h2 : val (b :: l) = (0 * 256 + b) * 256 ^ l.length + val l := by unfold val; rw [List.foldl_cons, ih]; rfl
    rw [List.foldl_cons, ih, h2, List.length_cons, e]
    grind
theorem be_val {l : List Int} (h : byt l) : ∀ v : Int, be l.length (l.foldl (fun v b => v * 256 + b) v) = l := by
  induction l with
  | nil => intro v; rfl
  | cons b l ih =>
    intro v
    have hx := h b (by simp)
    have hl : byt l := fun x hx => h x (by simp [hx])
    obtain ⟨g0, g1⟩ := val_rng hl
    simp only [List.length_cons, be, List.foldl_cons]
    rw [ih hl]
    have hp : (0 : Int) < 256 ^ l.length := Int.pow_pos (by omega)
    rw [fold_val, Int.add_comm (_ * _), Int.add_mul_ediv_right _ _ (by omega), Int.ediv_eq_zero_of_lt g0 g1]
    rw [show (0 + (v * 256 + b)) % 256 = b by omega]
theorem byt_drop {l : List Int} (h : byt l) (n : Nat) : byt (l.drop n) := fun x hx => h x (List.mem_of_mem_drop hx)
theorem byt_take {l : List Int} (h : byt l) (n : Nat) : byt (l.take n) := fun x hx => h x (List.mem_of_mem_take hx)
theorem rTake_inv {n : Nat} {l b r : List Int} (hb : byt l) (h : rTake n l = .ok (b, r)) : l = b ++ r ∧ b.length = n ∧ byt b ∧ byt r := by
  unfold rTake at h
  split at h
  · cases h
  · cases h
    exact ⟨(List.take_append_drop n l).symm, by rw [List.length_take]; omega, byt_take hb n, byt_drop hb n⟩
theorem rNum_inv {k : Nat} {l r : List Int} {n : Int} (hb : byt l) (h : rNum k l = .ok (n, r)) : l = be k n ++ r ∧ byt r ∧ 0 ≤ n ∧ n < (256 : Int) ^ k := by
  unfold rNum at h
  rcases e : rTake k l with c | ⟨b, r'⟩
  · rw [e] at h; cases h
  · rw [e] at h
    simp only [Rd.and] at h
    cases h
    obtain ⟨h1, h2, h3, h4⟩ := rTake_inv hb e
    have := val_rng h3
    have h5 := be_val h3 0
    rw [h2] at this h5
    refine ⟨?_, h4, this⟩
    unfold val
    rw [h5]; exact h1
theorem rNum1_inv {l r : List Int} {n : Int} (hb : byt l) (h : rNum 1 l = .ok (n, r)) : l = n :: r ∧ byt r ∧ 0 ≤ n ∧ n < 256 := by
  obtain ⟨h1, h2, h3, h4⟩ := rNum_inv hb h
  refine ⟨?_, h2, h3, by simpa using h4⟩
  rw [h1]
  simp only [be, List.cons_append, List.nil_append, Int.pow_zero, Int.ediv_one]
  rw [Int.emod_eq_of_lt h3 (by simpa using h4)]
theorem rBnd_inv {lo hi n : Int} {l r : List Int} (hb : byt l) (h : rBnd lo hi l = .ok (n, r)) : l = n :: r ∧ byt r ∧ 0 ≤ n ∧ lo ≤ n ∧ n ≤ hi := by
  unfold rBnd at h
  rcases e : rNum 1 l with c | ⟨m, r'⟩
  · rw [e] at h; cases h
  · rw [e] at h
    simp only [Rd.and] at h
    obtain ⟨h1, h2, h3, -⟩ := rNum1_inv hb e
    split at h
    · cases h
    · cases h; exact ⟨h1, h2, h3, by omega, by omega⟩
theorem rOne_inv {cs : List Int} {n : Int} {l r : List Int} (hb : byt l) (h : rOne cs l = .ok (n, r)) : l = n :: r ∧ byt r ∧ n ∈ cs := by
  unfold rOne at h
  rcases e : rNum 1 l with c | ⟨m, r'⟩
  · rw [e] at h; cases h
  · rw [e] at h
    simp only [Rd.and] at h
    obtain ⟨h1, h2, h3, -⟩ := rNum1_inv hb e
    split at h
    · rename_i hm; cases h; exact ⟨h1, h2, hm⟩
    · cases h
theorem rText_inv {lo hi : Int} {s : ByteArray} {l r : List Int} (hb : byt l) (h : rText lo hi l = .ok (s, r)) : l = sB s ++ r ∧ byt r ∧ lo ≤ s.size ∧ (s.size : Int) ≤ hi := by
  unfold rText at h
  rcases e : rBnd lo hi l with c | ⟨n, r'⟩
  · rw [e] at h; cases h
  · rw [e] at h
    simp only [Rd.and] at h
    obtain ⟨h1, h2, h3, h4, h5⟩ := rBnd_inv hb e
    rcases e2 : rTake n.toNat r' with c | ⟨b, r2⟩
    · rw [e2] at h; cases h
    · rw [e2] at h
      simp only at h
      cases h
      obtain ⟨g1, g2, g3, g4⟩ := rTake_inv h2 e2
      have hs : ((ofL b).size : Int) = n := by rw [ofL_size, g2]; omega
      refine ⟨?_, g4, by omega, by omega⟩
      unfold sB
      rw [hs, bl_ofL g3, h1, g1]; rfl
theorem rTermOf_inv {k lo : Int} {t : Tm} {l r : List Int} (hb : byt l) (h : rTermOf k lo l = .ok (t, r)) (hk : k = 0 ∨ k = 1 ∨ k = 2 ∨ k = 3) : k :: l = tB t ++ r ∧ byt r ∧ (k = 0 → t = zt) ∧ (k ≠ 0 → t.cov = true) ∧ (k = 2 → t.k = 2 ∧ t.n = 0 ∧ lo ≤ t.s.size ∧ t.s.size ≤ 64) ∧ (k = 3 → t.var = true) ∧ rng t := by
  unfold rTermOf at h
  rcases hk with rfl | rfl | rfl | rfl
  · simp at h
    obtain ⟨rfl, rfl⟩ := h
    exact ⟨by simp [tB, zt], hb, fun _ => rfl, fun h => absurd rfl h, by simp, by simp, by simp [rng, zt]⟩
  · rw [if_pos rfl] at h
    rcases e : rNum 8 l with c | ⟨n, r'⟩
    · rw [e] at h; cases h
    · rw [e] at h
      simp only [Rd.and] at h
      cases h
      obtain ⟨h1, h2, h3, h4⟩ := rNum_inv hb e
      have hp : (256 : Int) ^ 8 = 18446744073709551616 := by decide
      rw [hp] at h4
      have hw : wrap64 n % 18446744073709551616 = n := by unfold wrap64; omega
      refine ⟨?_, h2, by simp, fun _ => by simp [Tm.cov, Tm.con], by simp, by simp, w64_rng n⟩
      unfold tB
      simp only [true_or, if_true]
      rw [hw, h1]; rfl
  · rw [if_neg (by simp), if_pos rfl] at h
    rcases e : rText lo 64 l with c | ⟨s, r'⟩
    · rw [e] at h; cases h
    · rw [e] at h
      simp only [Rd.and] at h
      cases h
      obtain ⟨h1, h2, h3, h4⟩ := rText_inv hb e
      refine ⟨?_, h2, by simp, fun _ => by simp only [Tm.cov, Tm.con, Bool.or_eq_true, decide_eq_true_eq]; exact .inl (.inr ⟨trivial, trivial, by omega⟩), fun _ => ⟨rfl, rfl, h3, by simp only; omega⟩, by simp, by simp [rng]⟩
      rw [h1]; simp [tB]
  · rw [if_neg (by simp), if_neg (by simp), if_pos rfl] at h
    unfold rNat at h
    rcases e : rNum 8 l with c | ⟨n, r'⟩
    · rw [e] at h; cases h
    · rw [e] at h
      simp only [Rd.and] at h
      obtain ⟨h1, h2, h3, h4⟩ := rNum_inv hb e
      by_cases hn : 9223372036854775807 < n
      · rw [if_pos hn] at h; cases h
      · rw [if_neg hn] at h
        cases h
        have hv : Tm.var ⟨3, n, ⟨#[]⟩⟩ = true := by simp only [Tm.var, decide_eq_true_eq]; exact ⟨trivial, h3, trivial⟩
        refine ⟨?_, h2, by simp, fun _ => by simp only [Tm.cov, Bool.or_eq_true]; exact .inr hv, by simp, fun _ => hv, ⟨by simp only; omega, by simp only; omega⟩⟩
        unfold tB
        simp only [or_true, if_true]
        rw [Int.emod_eq_of_lt h3 (by omega), h1]; rfl
end Go.Proofs.Ytelcoihmiglceaa
/-
  The codec, plain: atoms, tests and clauses that are read have just the bytes that were read, and are valid.
-/
namespace Go.Proofs.Ytelcoihmiglceaa
open Go.RowKit

/-- What a reader reads has the bytes that it took, and Q. -/
def Iv {α : Type} (f : List Int → Rd α) (g : α → List Int) (Q : α → Prop) : Prop := ∀ l a r, byt l → f l = .ok (a, r) → l = g a ++ r ∧ byt r ∧ Q a
theorem iv_many {α : Type} {f : List Int → Rd α} {g : α → List Int} {Q : α → Prop} (h : Iv f g Q) : ∀ n, Iv (rMany f n) (fun L => L.flatMap g) (fun L => L.length = n ∧ ∀ x ∈ L, Q x)
  | 0 => fun l a r hb e => by
    simp only [rMany] at e
    cases e
    exact ⟨by simp, hb, rfl, fun x hx => by simp at hx⟩
  | n + 1 => fun l a r hb e => by
    simp only [rMany] at e
    rcases e1 : f l with c | ⟨x, r1⟩
    · rw [e1] at e; cases e
    · rw [e1] at e
      simp only [Rd.and] at e
      obtain ⟨h1, h2, h3⟩ := h l x r1 hb e1
      rcases e2 : rMany f n r1 with c | ⟨L, r2⟩
      · rw [e2] at e; cases e
      · rw [e2] at e
        simp only at e
        cases e
        obtain ⟨g1, g2, g3, g4⟩ := iv_many h n r1 L _ h2 e2
        refine ⟨?_, g2, by simp [g3], fun y hy => ?_⟩
        · rw [h1, g1]; simp
        · rcases List.mem_cons.1 hy with rfl | hy
          · exact h3
          · exact g4 y hy
theorem iv_arg : Iv rArg tB (fun t => t.cov = true ∧ rng t) := fun l t r hb e => by
  unfold rArg at e
  rcases e1 : rOne [1, 2, 3] l with c | ⟨k, r1⟩
  · rw [e1] at e; cases e
  · rw [e1] at e
    simp only [Rd.and] at e
    obtain ⟨h1, h2, h3⟩ := rOne_inv hb e1
    simp only [List.mem_cons, List.mem_nil_iff, or_false] at h3
    obtain ⟨g1, g2, -, g4, -, -, g7⟩ := rTermOf_inv h2 e (by omega)
    exact ⟨by rw [h1, g1], g2, g4 (by omega), g7⟩
theorem iv_qual : Iv rQual tB (fun t => qualOk t = true ∧ rng t) := fun l t r hb e => by
  unfold rQual at e
  rcases e1 : rOne [0, 2, 3] l with c | ⟨k, r1⟩
  · rw [e1] at e; cases e
  · rw [e1] at e
    simp only [Rd.and] at e
    obtain ⟨h1, h2, h3⟩ := rOne_inv hb e1
    simp only [List.mem_cons, List.mem_nil_iff, or_false] at h3
    obtain ⟨g1, g2, g3, -, g5, g6, g7⟩ := rTermOf_inv h2 e (by omega)
    refine ⟨by rw [h1, g1], g2, ?_, g7⟩
    unfold qualOk
    simp only [Bool.or_eq_true, decide_eq_true_eq]
    rcases h3 with h3 | h3 | h3
    · exact .inl (g3 h3)
    · obtain ⟨a1, a2, a3, a4⟩ := g5 h3
      refine .inr (.inl ?_)
      simp only [Tm.prin, decide_eq_true_eq]
      refine ⟨a1, a2, a4, fun h => ?_⟩
      rw [h] at a3
      exact absurd a3 (by decide)
    · exact .inr (.inr (g6 h3))
theorem iv_name : Iv rName sB (fun s => nameOk s = true) := fun l s r hb e => by
  unfold rName at e
  rcases e1 : rText 1 32 l with c | ⟨s1, r1⟩
  · rw [e1] at e; cases e
  · rw [e1] at e
    simp only [Rd.and] at e
    obtain ⟨h1, h2, -, -⟩ := rText_inv hb e1
    split at e
    · rename_i hn; cases e; exact ⟨h1, h2, hn⟩
    · cases e
theorem iv_atom : Iv rAtom aB (fun a => a.err = 0 ∧ ∀ t ∈ a.pl, rng t) := fun l a r hb e => by
  unfold rAtom at e
  rcases e1 : rQual l with c | ⟨b, r1⟩
  · rw [e1] at e; cases e
  rw [e1] at e
  simp only [Rd.and] at e
  obtain ⟨a1, a2, a3, a4⟩ := iv_qual l b r1 hb e1
  rcases e2 : rName r1 with c | ⟨nm, r2⟩
  · rw [e2] at e; cases e
  rw [e2] at e
  simp only at e
  obtain ⟨b1, b2, b3⟩ := iv_name r1 nm r2 a2 e2
  rcases e3 : rBnd 0 8 r2 with c | ⟨n, r3⟩
  · rw [e3] at e; cases e
  rw [e3] at e
  simp only at e
  obtain ⟨c1, c2, c3, -, c5⟩ := rBnd_inv b2 e3
  rcases e4 : rMany rArg n.toNat r3 with c | ⟨ts, r4⟩
  · rw [e4] at e; cases e
  rw [e4] at e
  simp only at e
  cases e
  obtain ⟨d1, d2, d3, d4⟩ := iv_many iv_arg n.toNat r3 ts _ c2 e4
  have hn : (ts.length : Int) = n := by omega
  refine ⟨?_, d2, ?_, fun t ht => ?_⟩
  · unfold aB
    simp only [hn]
    rw [a1, b1, c1, d1]
    simp only [List.append_assoc, List.cons_append]
  · unfold At.err
    simp only
    rw [if_neg (by simp [b3]), if_neg (by omega), if_neg (by simp [a3]), if_pos (List.all_eq_true.2 fun t ht => (d4 t ht).1)]
  · simp only [At.pl, List.mem_cons] at ht
    rcases ht with rfl | ht
    · exact a4
    · exact (d4 t ht).2
theorem iv_test : Iv rTest eB (fun e => e.ok = true ∧ rng e.l ∧ rng e.r) := fun l a r hb e => by
  unfold rTest at e
  rcases e1 : rOne [1, 2, 3, 4] l with c | ⟨op, r1⟩
  · rw [e1] at e; cases e
  rw [e1] at e
  simp only [Rd.and] at e
  obtain ⟨a1, a2, a3⟩ := rOne_inv hb e1
  simp only [List.mem_cons, List.mem_nil_iff, or_false] at a3
  rcases e2 : rArg r1 with c | ⟨x, r2⟩
  · rw [e2] at e; cases e
  rw [e2] at e
  simp only at e
  obtain ⟨b1, b2, b3, b4⟩ := iv_arg r1 x r2 a2 e2
  rcases e3 : rArg r2 with c | ⟨y, r3⟩
  · rw [e3] at e; cases e
  rw [e3] at e
  simp only at e
  cases e
  obtain ⟨c1, c2, c3, c4⟩ := iv_arg r2 y _ b2 e3
  refine ⟨?_, c2, ?_, b4, c4⟩
  · unfold eB
    rw [a1, b1, c1]
    simp
  · unfold Te.ok
    simp only [b3, c3, Bool.and_true, decide_eq_true_eq]
    omega
theorem iv_clause : Iv rClause cB (fun x => chkK x = 0 ∧ Rng x) := fun l a r hb e => by
  unfold rClause at e
  rcases e1 : rAtom l with c | ⟨h, r1⟩
  · rw [e1] at e; cases e
  rw [e1] at e
  simp only [Rd.and] at e
  obtain ⟨a1, a2, a3, a4⟩ := iv_atom l h r1 hb e1
  rcases e2 : rBnd 0 8 r1 with c | ⟨n, r2⟩
  · rw [e2] at e; cases e
  rw [e2] at e
  simp only at e
  obtain ⟨b1, b2, b3, -, b5⟩ := rBnd_inv a2 e2
  rcases e3 : rMany rAtom n.toNat r2 with c | ⟨bs, r3⟩
  · rw [e3] at e; cases e
  rw [e3] at e
  simp only at e
  obtain ⟨c1, c2, c3, c4⟩ := iv_many iv_atom n.toNat r2 bs _ b2 e3
  rcases e4 : rBnd 0 8 r3 with c | ⟨k, r4⟩
  · rw [e4] at e; cases e
  rw [e4] at e
  simp only at e
  obtain ⟨d1, d2, d3, -, d5⟩ := rBnd_inv c2 e4
  rcases e5 : rMany rTest k.toNat r4 with c | ⟨ts, r5⟩
  · rw [e5] at e; cases e
  rw [e5] at e
  simp only at e
  obtain ⟨f1, f2, f3, f4⟩ := iv_many iv_test k.toNat r4 ts _ d2 e5
  have hn : (bs.length : Int) = n := by omega
  have hk : (ts.length : Int) = k := by omega
  split at e
  · rename_i hc
    cases e
    refine ⟨?_, f2, hc, ⟨fun x hx => ?_, fun x hx => (f4 x hx).2⟩⟩
    · unfold cB
      simp only [hn, hk]
      rw [a1, b1, c1, d1, f1]
      simp only [List.append_assoc, List.cons_append]
    · rcases List.mem_cons.1 hx with rfl | hx
      · exact a4
      · exact (c4 x hx).2
  · cases e
theorem iv_whole {α : Type} {f : List Int → Rd α} {g : α → List Int} {Q : α → Prop} (h : Iv f g Q) {l : List Int} {a : α} (hb : byt l) (e : rWhole f l = .ok a) : l = g a ∧ Q a := by
  unfold rWhole at e
  rcases e1 : f l with c | ⟨x, r⟩
  · rw [e1] at e; cases e
  · rw [e1] at e
    simp only at e
    split at e
    · rename_i hr
      cases e
      obtain ⟨h1, -, h3⟩ := h l _ r hb e1
      rw [hr, List.append_nil] at h1
      exact ⟨h1, h3⟩
    · cases e
end Go.Proofs.Ytelcoihmiglceaa
/-
  The codec, plain: the numbers of what Made makes are of 64 bits.
-/
namespace Go.Proofs.Ytelcoihmiglceaa
open Go.RowKit

theorem rng_mkC {t : Tm} (h : rng t) : rng (mkC t) := by
  unfold mkC
  split
  · exact h
  · split
    · exact ⟨by simp only; omega, by simp only; omega⟩
    · exact h
theorem rng_fixT {t : Tm} (h : rng t) : rng (fixT t) := by
  unfold fixT
  split
  · exact h
  · exact rng_mkC h
theorem rng_zt : rng zt := ⟨by simp [zt], by simp [zt]⟩
theorem rng_sf {l : List Tm} {t : Tm} (h : rng t) : rng (sf l t) := by
  unfold sf grd
  split
  · exact h
  · split
    · exact h
    · exact h
theorem rng_mkA {a : At} (h : ∀ t ∈ a.pl, rng t) : ∀ t ∈ (mkA a).pl, rng t := fun t ht => by
  simp only [mkA, At.pl, List.mem_cons, List.mem_map] at ht
  rcases ht with rfl | ⟨u, hu, rfl⟩
  · split
    · exact h _ (by simp [At.pl])
    · exact rng_zt
  · exact rng_fixT (h u (by simp only [At.pl, List.mem_cons]; exact .inr (List.mem_of_mem_take hu)))
theorem made0_rng {x : Ck} (h : Rng x) : Rng (made0 x) := by
  refine ⟨fun a ha t ht => ?_, fun e he => ?_⟩
  · rcases List.mem_cons.1 ha with rfl | ha
    · have hm := rng_mkA (h.a x.1 (by simp))
      simp only [made0, At.pl, List.mem_cons, List.mem_map] at ht
      rcases ht with rfl | ⟨u, hu, rfl⟩
      · split
        · exact rng_zt
        · exact hm _ (by simp [At.pl])
      · exact rng_sf (hm u (by simp [At.pl, hu]))
    · simp only [made0, List.mem_map] at ha
      obtain ⟨b, hb, rfl⟩ := ha
      exact rng_mkA (h.a b (List.mem_cons_of_mem _ (List.mem_of_mem_take hb))) t ht
  · simp only [made0, List.mem_map] at he
    obtain ⟨b, hb, rfl⟩ := he
    have := h.e b (List.mem_of_mem_take hb)
    exact ⟨rng_sf (rng_fixT this.1), rng_sf (rng_fixT this.2)⟩
theorem dstep_len (l : List Tm) : ∀ acc : List Tm, (l.foldl dstepT acc).length ≤ acc.length + l.length := by
  induction l with
  | nil => intro acc; simp
  | cons x l ih =>
    intro acc
    have h1 := ih (dstepT acc x)
    have h2 : (dstepT acc x).length ≤ acc.length + 1 := by
      unfold dstepT
      split
      · omega
      · simp
    simp only [List.foldl_cons, List.length_cons]
    omega
theorem disT_len9 (l : List Tm) : (disT l).length ≤ l.length := by
  have h1 := dstep_len (l.filter Tm.var) []
  have h2 := List.length_filter_le Tm.var l
  unfold disT
  simp only [List.length_nil] at h1
  omega
theorem flat_lenK {α β : Type} {f : α → List β} {k : Nat} : ∀ {l : List α}, (∀ x ∈ l, (f x).length ≤ k) → (l.flatMap f).length ≤ l.length * k
  | [], _ => by simp
  | x :: l, h => by
    have h1 := h x (by simp)
    have h2 := flat_lenK (l := l) (fun y hy => h y (by simp [hy]))
    simp only [List.flatMap_cons, List.length_append, List.length_cons, Nat.add_mul, Nat.one_mul]
    omega
theorem val_terms {x : Ck} (h : Val0 x) : (Ck.terms x).length ≤ 97 := by
  have ha : ∀ a ∈ x.1 :: x.2.1, a.pl.length ≤ 9 := fun a ha => by
    have := (fit_of (h.e a ha)).len
    simp only [At.pl, List.length_cons]
    omega
  have h1 := ha x.1 (by simp)
  have h2 := flat_lenK (f := At.pl) (l := x.2.1) (fun a hx => ha a (List.mem_cons_of_mem _ hx))
  have h3 : (tls x.2.2).length ≤ x.2.2.length * 2 := flat_lenK (fun a _ => by simp)
  have h4 := h.bl
  have h5 := h.tl
  simp only [Ck.terms, List.length_append]
  omega
theorem rng_nmT {vs : List Tm} {t : Tm} (hv : vs.length ≤ 97) (h : rng t) : rng (nmT vs t) := by
  unfold nmT
  split
  · rename_i hm
    have := ix_lt hm
    exact ⟨by simp only; omega, by simp only; omega⟩
  · exact h
theorem made_rng (hp : nameOk nmP = true) {x : Ck} (h : Rng x) : Rng (madeK x) := by
  have hr := made0_rng h
  have hv := Nat.le_trans (disT_len9 (Ck.terms (made0 x))) (val_terms (made0_val hp x))
  unfold madeK normC
  generalize disT (Ck.terms (made0 x)) = vs at *
  generalize made0 x = y at *
  refine ⟨fun a ha t ht => ?_, fun e he => ?_⟩
  · obtain ⟨b, hb, rfl⟩ : ∃ b ∈ y.1 :: y.2.1, a = mapA (nmT vs) b := by
      simp only [mapC, List.mem_cons, List.mem_map] at ha
      rcases ha with rfl | ⟨b, hb, rfl⟩
      · exact ⟨y.1, by simp, rfl⟩
      · exact ⟨b, by simp [hb], rfl⟩
    rw [mapA_pl, List.mem_map] at ht
    obtain ⟨u, hu, rfl⟩ := ht
    exact rng_nmT hv (hr.a b hb u hu)
  · simp only [mapC, List.mem_map] at he
    obtain ⟨b, hb, rfl⟩ := he
    have := hr.e b hb
    exact ⟨rng_nmT hv this.1, rng_nmT hv this.2⟩
end Go.Proofs.Ytelcoihmiglceaa

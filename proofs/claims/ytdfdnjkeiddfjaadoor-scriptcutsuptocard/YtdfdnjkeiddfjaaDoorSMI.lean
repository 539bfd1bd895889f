/-
  script (stage 25): the parts of a row of the program's table, in their order.
-/
import Derived.Test.YtdfdnjkeiddfjaaDoorSM4
import Derived.Test.YtdfdnjkeiddfjaaDoorSC7
namespace Go.Proofs.YtdfdnjkeiddfjaaDoor
open Go.RowKit
attribute [local go_sem ↓] Go.wp_at_zero Go.wp_at_succ
attribute [local go_sem] run_store_funcA

def RoA.l3 (r : RoA) : List Int := [r.a, r.b, r.c]
def RoA.ps (r : RoA) : List Int := r.l3.filter fun p => p != 0
def psJ (l : List Int) (j : Nat) : List Int := (l.take j).filter fun p => p != 0
theorem psJ_no {l : List Int} {j : Nat} {p : Int} (h : l[j]? = some p) (hp : p = 0) : psJ l (j + 1) = psJ l j := by
  unfold psJ
  rw [List.take_add_one, h, List.filter_append]
  simp [hp]
theorem psJ_yes {l : List Int} {j : Nat} {p : Int} (h : l[j]? = some p) (hp : p ≠ 0) : psJ l (j + 1) = psJ l j ++ [p] := by
  unfold psJ
  rw [List.take_add_one, h, List.filter_append]
  simp [hp]
theorem psJ_len (l : List Int) (j : Nat) : (psJ l j).length ≤ j := by
  unfold psJ
  have h1 := List.length_filter_le (fun p => p != 0) (l.take j)
  have h2 : (l.take j).length ≤ j := by rw [List.length_take]; omega
  omega
def c3A (x : Value × Value × Value) : List Value := [x.1, x.2.1, x.2.2]
def v3A (x : Value × Value × Value) : Value := .agg #[x.1, x.2.1, x.2.2]
/-- A list of parts of the call's own. -/
structure PLA (W : World) (B : Nat) (v : Value) (ps : List Int) (l : List (Value × Value × Value)) : Prop where
  r : W.ownsRow B 64 3 v ps.length (l.flatMap c3A)
  n : l.length = ps.length
  p : ∀ (i : Nat) (p : Int), ps[i]? = some p → ∃ x, l[i]? = some x ∧ PtA W p (v3A x)
theorem PLA.later {W W' : World} {B : Nat} {v : Value} {ps : List Int} {l : List (Value × Value × Value)} (h : PLA W B v ps l) (hb : Below W.heap.size W W') : PLA W' B v ps l :=
  ⟨rowS_below h.r hb, h.n, fun i p hi => (h.p i p hi).imp fun _ hx => ⟨hx.1, hx.2.later hb⟩⟩
theorem Tryd.infoPartA : (Tryd.prog.info? 64).map (fun i => (i.zero, i.size, i.bytes)) = some (some (.agg #[.nilFunc, .nilFunc, .nilFunc]), 3, 24) := by kernel_rfl
theorem PtA.form {W : World} {p : Int} {v : Value} (h : PtA W p v) : ∃ x, v = v3A x ∧ ∀ u ∈ c3A x, u.oneCell' = true := by
  rcases h with ⟨-, rfl⟩ | ⟨-, rfl⟩ | ⟨g, rfl, -⟩ | ⟨g, rfl, -⟩
  · exact ⟨(_, _, _), rfl, by intro u hu; simp [c3A] at hu; rcases hu with rfl | rfl | rfl <;> rfl⟩
  · exact ⟨(_, _, _), rfl, by intro u hu; simp [c3A] at hu; rcases hu with rfl | rfl | rfl <;> rfl⟩
  · exact ⟨(_, _, _), rfl, by intro u hu; simp [c3A] at hu; rcases hu with rfl | rfl | rfl <;> rfl⟩
  · exact ⟨(_, _, _), rfl, by intro u hu; simp [c3A] at hu; rcases hu with rfl | rfl | rfl <;> rfl⟩
theorem PtA.grow {W W' : World} {p : Int} {v : Value} {o : Option Nat} (h : PtA W p v) (hg : W.grownBy W' o) (hn : ∀ g c t, (t = 97 ∨ t = 100) → BlkK W g c t → some g ≠ o) : PtA W' p v := by
  have key : ∀ g c t, (t = 97 ∨ t = 100) → BlkK W g c t → BlkK W' g c t := fun g c t ht hb => (hg.block g hb.lt (fun q => hn g c t ht hb q)).trans hb
  rcases h with h | h | ⟨g, e, h⟩ | ⟨g, e, h⟩
  · exact Or.inl h
  · exact Or.inr (Or.inl h)
  · exact Or.inr (Or.inr (Or.inl ⟨g, e, h.imp (fun h => ⟨h.1, key _ _ _ (Or.inl rfl) h.2⟩) fun h => ⟨h.1, key _ _ _ (Or.inl rfl) h.2⟩⟩))
  · exact Or.inr (Or.inr (Or.inr ⟨g, e, h.imp (fun h => ⟨h.1, key _ _ _ (Or.inr rfl) h.2⟩) fun h => h.imp (fun h => ⟨h.1, key _ _ _ (Or.inr rfl) h.2⟩) fun h => ⟨h.1, key _ _ _ (Or.inr rfl) h.2⟩⟩))
theorem run_index_ordA (w : World) (a b c : Int) (j : Nat) (p : Int) (h : ([a, b, c] : List Int)[j]? = some p) : (Instr.index 53 (.agg #[.int .i64 a, .int .i64 b, .int .i64 c]) (.int .i64 j)).run Tryd.prog w = .ok (.int .i64 p) w := by
  have hs : (sizeOf 3).run Tryd.prog w = .ok 1 w := by kernel_rfl
  have hj : j < 3 := (List.getElem?_eq_some_iff.1 h).1
  match j, hj, h with
  | 0, _, h => cases h; simp [Instr.index, run_underlying Tryd.underlying53, asIntOf, go_sem, hs, part, Sem.run_bind]
  | 1, _, h => cases h; simp [Instr.index, run_underlying Tryd.underlying53, asIntOf, go_sem, hs, part, Sem.run_bind]
  | 2, _, h => cases h; simp [Instr.index, run_underlying Tryd.underlying53, asIntOf, go_sem, hs, part, Sem.run_bind]
theorem zero_partA (w : World) : (zeroValue 64).run Tryd.prog w = .ok (.agg #[.nilFunc, .nilFunc, .nilFunc]) w := by kernel_rfl
theorem three_srcA {w : World} {b : Nat} {x : Value × Value × Value} {e : TypeId} (h : BlkK w b #[x.1, x.2.1, x.2.2] e) : (Value.slice (some ⟨b, 0, none⟩) 1 1 = .slice none 0 0 ∧ 1 = 0 ∧ c3A x = []) ∨ ∃ (ad : Addr) (c : Nat), Value.slice (some ⟨b, 0, none⟩) 1 1 = .slice (some ad) 1 c ∧ (c3A x).length = 1 * 3 ∧ ∀ (j : Nat) u, (c3A x)[j]? = some u → w.cell? (ad.add j) = some u := by
  refine Or.inr ⟨⟨b, 0, none⟩, 1, rfl, rfl, fun j u hu => ?_⟩
  exact World.news_of_block (cs := #[x.1, x.2.1, x.2.2]) (t := e) (fr := (0, 0)) h j u (by simpa [c3A] using hu)
theorem wfI_of {p : Int} (h1 : 0 ≤ p) (h2 : p ≤ 1000) : wfI p := by
  have := wrap64_wf p
  rw [show wrap64 p = p by unfold wrap64; omega] at this
  exact this
theorem PsA.grow {W W' : World} {B b n : Nat} {f : Int → Option Value} {o : Option Nat} (h : PsA W B b n f) (hg : W.grownBy W' o) (hn : ∀ g c t, (t = 97 ∨ t = 100) → BlkK W g c t → some g ≠ o) (hm : some b ≠ o) : PsA W' B b n f :=
  ⟨h.m.same (hg.block b h.m.lt fun q => hm q), fun x v e => (h.p x v e).grow hg hn, h.b⟩
theorem row_other {W : World} {base n m : Nat} {v : Value} {xs : List Value} {g : Nat} {c : Array Value} {t : TypeId} (h : W.ownsRow base 64 n v m xs) (ht : t = 97 ∨ t = 100) (hb : BlkK W g c t) : some g ≠ v.ownBlock := by
  rcases h.2 with ⟨hv, -⟩ | ⟨g', cap, cur, rfl, -, hg, -⟩
  · rw [hv]; intro q; cases q
  · intro q
    cases q
    have := hb.symm.trans hg
    rcases ht with rfl | rfl <;> cases this
theorem row_map {P : Program} {k : TypeId} {W : World} {base n m b z : Nat} {v : Value} {xs : List Value} {f : Int → Option Value} (h : W.ownsRow base 64 n v m xs) (hb : MqI P k W b z f) : some b ≠ v.ownBlock := by
  rcases h.2 with ⟨hv, -⟩ | ⟨g', cap, cur, rfl, -, hg, -⟩
  · rw [hv]; intro q; cases q
  · intro q
    cases q
    obtain ⟨D, ⟨es, clock, h1, -⟩, -⟩ := hb.ex
    have := h1.symm.trans hg
    cases this
set_option maxRecDepth 20000 in
set_option maxHeartbeats 4000000 in
theorem rpartsA_any (r : RoA) (h0 : ∀ p ∈ r.l3, 0 ≤ p ∧ p ≤ 7) (w : World) : Calls Tryd.prog 24 #[r.v] w fun e w' => ∃ v l, e = .returned v ∧ PLA w' w.heap.size v r.ps l ∧ Below w.heap.size w w' := by
  obtain ⟨x, k, a, b, c⟩ := r
  have H0 := hm7 h0
  have hb1 := below1K w (.cells #[.string x, .int .i64 k, .int .i64 a, .int .i64 b, .int .i64 c] 55)
  have hk1 := BlkK.new w #[.string x, .int .i64 k, .int .i64 a, .int .i64 b, .int .i64 c] 55
  obtain ⟨W1, hW1⟩ : ∃ W, w.alloc (.cells #[.string x, .int .i64 k, .int .i64 a, .int .i64 b, .int .i64 c] 55) = W := ⟨_, rfl⟩
  rw [hW1] at hb1 hk1
  have HB1 := hm7 hb1
  have HK1 := hm7 hk1
  simp only [RoA.v]
  clear h0 hb1 hk1
  go_enter Tryd.func24, Tryd.ntmps24
  go_upto_region 3 with (go_at_call 33; refine (partsA_any _).mono ?_; rintro e w2 ⟨mb, f, rfl, hp2, hf2, hb2⟩; have HP2 := hm7 hp2; have HF2 := hm7 hf2; have HB2 := hm7 (below_stepK HB1.out hb2); have hk2 := HK1.out.later hb2; clear hp2 hf2 hb2)
  have c2 := cell8 hk2 2 _ rfl
  have c3 := cell8 hk2 3 _ rfl
  have c4 := cell8 hk2 4 _ rfl
  go_upto_region 4 with (fail)
  have HI : Hid (∀ (W : World) (j : Nat) (p : Int), ([a, b, c] : List Int)[j]? = some p → (Instr.index 53 (.agg #[.int .i64 a, .int .i64 b, .int .i64 c]) (.int .i64 j)).run Tryd.prog W = .ok (.int .i64 p) W) := fun W j p h => run_index_ordA W a b c j p h
  obtain ⟨V, hV⟩ : ∃ V, Value.agg #[.int .i64 a, .int .i64 b, .int .i64 c] = V := ⟨_, rfl⟩
  rw [hV] at HI ⊢
  clear hV c2 c3 c4 hk2
  go_loopg [3, 6, 10] 3 (fun g v _ i wr => ∃ (j : Nat) (l : List (Value × Value × Value)), j + g = 3 ∧ i = .int .i64 j ∧ PLA wr w.heap.size v (psJ [a, b, c] j) l ∧ PsA wr w.heap.size mb 7 f ∧ Below w.heap.size w wr)
  case atStart => exact ⟨0, [], by omega, rfl, ⟨World.ownsRow_nil _ _ _ _, rfl, fun i p h => by simp [psJ] at h⟩, ⟨HP2.out.m, HP2.out.p, by have := HP2.out.b; have := HB1.out.size; omega⟩, HB2.out⟩
  case round =>
    obtain ⟨j, l, hj, rfl, hpl, hps, hbw⟩ := hrel
    have HPL := hm7 hpl
    have HPS := hm7 hps
    have HBW := hm7 hbw
    have HJ := hm7 hj
    obtain ⟨va, vc, hv, -⟩ := rowS_form hpl.r
    subst hv
    clear hpl hps hbw hj
    cases gk with
    | succ g =>
      have hlt : j < 3 := by have := HJ.out; omega
      have i1 : (j : Int) < 3 := by omega
      obtain ⟨p, hp⟩ : ∃ p, ([a, b, c] : List Int)[j]? = some p := ⟨_, List.getElem?_eq_getElem hlt⟩
      have hidx := fun W => HI.out W j p hp
      have hp7 := H0.out p (List.mem_of_getElem? hp)
      have HP := hm7 hp
      clear hp
      by_cases hq : p = 0
      · have e1 : (p != 0) = false := by simpa using hq
        have HN := hm7 (psJ_no HP.out hq)
        clear hq
        go_wp2
        go_roundg g
        case measure => omega
        case rel => exact ⟨j + 1, l, by have := HJ.out; omega, by go_num, by rw [HN.out]; exact HPL.out, HPS.out, HBW.out⟩
      · have e1 : (p != 0) = true := by simpa using hq
        have HN := hm7 (psJ_yes HP.out hq)
        have hpp : 1 ≤ p ∧ p ≤ 7 := by omega
        obtain ⟨pv, hpv⟩ : ∃ pv, f p = some pv := Option.isSome_iff_exists.1 ((HF2.out p).2 hpp)
        have hpt := HPS.out.p p pv hpv
        obtain ⟨⟨tv, sv, ev⟩, rfl, hone⟩ := hpt.form
        have hlk := HPS.out.m.at0 (T := 84) (E := 64) Tryd.underlying3 Tryd.underlying84 (zero_partA wr) (x := p) (wfI_of (by omega) (by omega))
        rw [hpv] at hlk
        simp only [Option.getD_some, v3A] at hlk
        have HPT := hm7 hpt
        have HONE := hm7 hone
        have hn3 := psJ_len [a, b, c] j
        obtain ⟨n, hn⟩ : ∃ n, (psJ [a, b, c] j).length = n := ⟨_, rfl⟩
        have hn2 : n ≤ 3 := by omega
        have HNN := hm7 hn
        have hrr := rowS_below HPL.out.r (below1K wr (.cells #[tv, sv, ev] 64))
        rw [hn] at hrr ⊢
        have HRR := hm7 hrr
        clear hq hpv hpt hone hpp hn hrr hn3
        go_wp2_with (at_builtin; refine gappS Tryd.underlying59 Tryd.infoPartA rfl (by omega) rfl _ _ rfl w.heap.size (.slice va n vc) n (l.flatMap c3A) rfl HRR.out (.slice (some ⟨wr.heap.size, 0, none⟩) 1 1) 1 (c3A (tv, sv, ev)) rfl (three_srcA (x := (tv, sv, ev)) (BlkK.new wr #[tv, sv, ev] 64)) HONE.out (by omega) (by omega) (by have := HBW.out.size; simp; omega) ?_; intro v6 w6 ho6 hg6 hb6; have HO6 := hm7 ho6; have HG6 := hm7 hg6; clear ho6 hg6 hb6)
        go_roundg g
        case measure => omega
        case rel =>
          have hb0 := below1K wr (.cells #[tv, sv, ev] 64)
          have hnn : ∀ g c t, (t = 97 ∨ t = 100) → BlkK (wr.alloc (.cells #[tv, sv, ev] 64)) g c t → some g ≠ (Value.slice va n vc).ownBlock := fun g c t ht hb => row_other HRR.out ht hb
          refine ⟨j + 1, l ++ [(tv, sv, ev)], by have := HJ.out; omega, by go_num, ⟨?_, ?_, ?_⟩, ?_, ?_⟩
          · rw [HN.out, List.length_append, HNN.out, List.flatMap_append]
            simpa using HO6.out
          · rw [HN.out, List.length_append, List.length_append, HPL.out.n]
            rfl
          · intro i q hi
            rw [HN.out] at hi
            rcases Nat.lt_or_ge i (psJ [a, b, c] j).length with hlt | hge
            · rw [List.getElem?_append_left hlt] at hi
              obtain ⟨y, hy1, hy2⟩ := HPL.out.p i q hi
              exact ⟨y, by rw [List.getElem?_append_left (by rw [HPL.out.n]; exact hlt)]; exact hy1, (hy2.later hb0).grow HG6.out hnn⟩
            · have hi2 := (List.getElem?_eq_some_iff.1 hi).1
              rw [List.length_append, List.length_singleton] at hi2
              have hie : i = (psJ [a, b, c] j).length := by omega
              rw [hie, List.getElem?_append_right (Nat.le_refl _), Nat.sub_self] at hi
              cases hi
              exact ⟨(tv, sv, ev), by rw [hie, ← HPL.out.n, List.getElem?_append_right (Nat.le_refl _), Nat.sub_self]; rfl, (HPT.out.later hb0).grow HG6.out hnn⟩
          · exact (HPS.out.later hb0).grow HG6.out hnn (row_map HRR.out (HPS.out.later hb0).m)
          · exact (HBW.out.alloc HBW.out.size _).trans (grownS HRR.out HG6.out (by have := HBW.out.size; simp; omega))
    | zero =>
      have i1 : ¬ (j : Int) < 3 := by have := HJ.out; omega
      go_wp2
      go_ret
      refine ⟨_, rfl, ⟨l, ?_⟩, HBW.out⟩
      have hj3 : j = 3 := by have := HJ.out; omega
      subst hj3
      exact HPL.out
end Go.Proofs.YtdfdnjkeiddfjaaDoor

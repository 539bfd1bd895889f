/-
  law 7: brought.
-/
import Derived.Test.YtofopfjmcbgfjaaRA24
namespace Go.Proofs.Ytofopfjmcbgfjaa
open Go.RowKit
attribute [local go_sem ↓] Go.wp_at_zero Go.wp_at_succ

/-- A list of rows that came in. -/
def Rn7 (w : World) (v : Value) (P : List (List Int × Value)) : Prop :=
  ∃ a cap, v = .slice a P.length cap ∧ (P = [] ∨ ∃ b o, a = some ⟨b, o, none⟩ ∧ b < w.heap.size ∧ ∀ (i : Nat) p, P[i]? = some p → w.cell? ⟨b, o + i, none⟩ = some p.2) ∧ ∀ p ∈ P, Li Any w p.2 p.1
theorem Rn7.below {w w' : World} {v : Value} {P : List (List Int × Value)} (h : Rn7 w v P) (hb : Below w.heap.size w w') : Rn7 w' v P := by
  obtain ⟨a, cap, rfl, h1, h2⟩ := h
  refine ⟨a, cap, rfl, h1.imp id ?_, fun p hp => (h2 p hp).below hb⟩
  rintro ⟨b, o, rfl, hl, hc⟩
  exact ⟨b, o, rfl, Nat.lt_of_lt_of_le hl hb.size, fun i p hp => by rw [hb.cell (p := ⟨b, o + i, none⟩) hl]; exact hc i p hp⟩
/-- A list of rows that a call makes. -/
structure OL (w : World) (B : Nat) (v : Value) (P : List (List Int × Value)) : Prop where
  o : w.ownsRow B 23 1 v P.length (P.map Prod.snd)
  l : ∀ p ∈ P, Li (fun b => B ≤ b ∧ v.ownBlock ≠ some b) w p.2 p.1
theorem OL.nil (w : World) (B : Nat) : OL w B (.slice none 0 0) [] := ⟨World.ownsRow_nil _ _ _ _, by intro p hp; simp at hp⟩
theorem OL.below {w w' : World} {B : Nat} {v : Value} {P : List (List Int × Value)} (h : OL w B v P) (hb : Below w.heap.size w w') : OL w' B v P := ⟨row7_below h.o hb, fun p hp => (h.l p hp).below hb⟩
theorem OL.mono {w : World} {B B' : Nat} {v : Value} {P : List (List Int × Value)} (h : OL w B v P) (hb : B' ≤ B) : OL w B' v P := ⟨row7_mono h.o hb, fun p hp => (h.l p hp).mono fun _ _ hq => ⟨Nat.le_trans hb hq.1, hq.2⟩⟩
theorem OL.fr {Pd : Nat → Prop} {w w' : World} {B : Nat} {v : Value} {P : List (List Int × Value)} (h : OL w B v P) (hf : Fr Pd w w') (hn : ∀ b, B ≤ b → b < w.heap.size → ¬ Pd b) : OL w' B v P :=
  ⟨row7_fr h.o hf fun g hg => hn g (h.o.lt g hg).1 (h.o.lt g hg).2, fun p hp => (h.l p hp).fr hf fun b hl hb => hn b hb.1 hl⟩
theorem OL.ls {w : World} {B : Nat} {v : Value} {P : List (List Int × Value)} (h : OL w B v P) : Ls7 w v P := ⟨⟨B, h.o⟩, fun p hp => (h.l p hp).any⟩
theorem OL.more {w w5 : World} {B g2 c2 n : Nat} {v u : Value} {P : List (List Int × Value)} {x : List Int} (h : OL w B v P) (hn : P.length = n) (hu : Li (fun b => B ≤ b ∧ v.ownBlock ≠ some b) w u x)
    (ho : w5.ownsRow B 23 1 (.slice (some ⟨g2, 0, none⟩) (n + 1) c2) (n + 1) (P.map Prod.snd ++ [u])) (hg : (w.alloc (.cells #[u] 23)).grownBy w5 v.ownBlock) (hv : v.ownBlock = some g2 ∨ g2 = (w.alloc (.cells #[u] 23)).heap.size) :
    OL w5 B (.slice (some ⟨g2, 0, none⟩) (n + 1) c2) (P ++ [(x, u)]) ∧ Fr (fun b => B ≤ b) w w5 := by
  have hfr : Fr (fun b => v.ownBlock = some b) w w5 := (Fr.of (below1 _ _)).tr (Fr.grown hg fun b hb => hb)
  have hrow : ∀ (z : Value) (y : List Int), Li (fun b => B ≤ b ∧ v.ownBlock ≠ some b) w z y → Li (fun b => B ≤ b ∧ (Value.slice (some ⟨g2, 0, none⟩) (n + 1) c2).ownBlock ≠ some b) w5 z y := fun z y hz => by
    refine (Li.fr (hz.mono (G := fun b => B ≤ b ∧ v.ownBlock ≠ some b ∧ b < w.heap.size) fun b hl hb => ⟨hb.1, hb.2, hl⟩) hfr fun b _ hb hc => hb.2.1 hc).mono fun b _ hb => ⟨hb.1, fun e => ?_⟩
    have e2 : g2 = b := by simpa [Value.ownBlock] using e
    rcases hv with hv | hv
    · exact hb.2.1 (by rw [← e2]; exact hv)
    · simp at hv; omega
  refine ⟨⟨?_, fun p hp => ?_⟩, hfr.mono fun b _ hb => (h.o.lt b hb).1⟩
  · rw [List.length_append, List.map_append, hn]; exact ho
  · rcases List.mem_append.1 hp with hp | hp
    · exact hrow _ _ (h.l p hp)
    · rw [List.mem_singleton] at hp; rw [hp]; exact hrow _ _ hu
set_option maxRecDepth 20000 in
set_option maxHeartbeats 1000000 in
theorem brought7_any (P : List (List Int × Value)) (v : Value) (k : Nat) (w : World) (h : Rn7 w v P) (hk : k ≤ 10000000000) (hP : P.length ≤ 1048576) :
    Calls Try.prog 19 #[.agg #[v], .int .i64 (k : Int)] w fun e w' => ∃ u, e = .returned u ∧ ∃ Q, OL w' w.heap.size u Q ∧ Q.map Prod.fst = P.map (fun p => wd7 k p.1) ∧ Below w.heap.size w w' := by
  have H := hm7 h
  obtain ⟨a, cap, rfl, -, -⟩ := h
  obtain ⟨n, hn⟩ : ∃ n, P.length = n := ⟨_, rfl⟩
  rw [hn] at H hP ⊢
  have HN := hm7 hn
  clear hn
  obtain ⟨W0, hW0⟩ : ∃ W0, w.alloc (.cells #[.slice a n cap] 43) = W0 := ⟨_, rfl⟩
  have hz0 : W0.heap.size = w.heap.size + 1 := by rw [← hW0]; simp
  have hb0 : Below w.heap.size w W0 := by rw [← hW0]; exact below1 _ _
  have hbx : Bk W0 w.heap.size #[.slice a n cap] 43 := by rw [← hW0]; exact Bk.new _ _ _
  have HB0 := hm7 hb0
  have HBX := hm7 hbx
  clear hb0 hbx
  go_enter Try.func19, Try.ntmps19
  go_wp2
  go_loopg [5, 6] n (fun gg u i wr => ∃ (j : Nat) (Q : List (List Int × Value)), j + gg = n ∧ i = .int .i64 j ∧ OL wr W0.heap.size u Q ∧ Q.map Prod.fst = (P.take j).map (fun p => wd7 k p.1) ∧ Below W0.heap.size W0 wr)
  case atStart => exact ⟨0, [], by omega, rfl, OL.nil _ _, rfl, Below.refl _ _⟩
  case round =>
    obtain ⟨j, Q, hj, rfl, hol, hq, hb⟩ := hrel
    have HOL := hm7 hol
    have HQ := hm7 hq
    have HB := hm7 hb
    have c0 := (HBX.out.below hb).cell (i := 0) rfl
    obtain ⟨ua, uc, hu, -⟩ := row7_form hol.o
    have hql : Q.length = j := by have := congrArg List.length hq; simp at this; have := HN.out; omega
    rw [hql] at hu
    subst hu
    have HQL := hm7 hql
    clear hol hq hb hql
    cases gk with
    | succ gg =>
      have hlt : (j : Int) < (n : Int) := by omega
      have j0 : (0 : Int) ≤ (j : Int) := by omega
      have j1 : (j : Int) < 2147483648 := by omega
      obtain ⟨p, hp⟩ : ∃ p, P[j]? = some p := ⟨_, List.getElem?_eq_getElem (by have := HN.out; omega)⟩
      have hrn := (H.out.below HB0.out).below HB.out
      obtain ⟨a', cap', hv', hc', hl'⟩ := hrn
      rw [HN.out] at hv'
      simp only [Value.slice.injEq, true_and] at hv'
      obtain ⟨rfl, rfl⟩ := hv'
      rcases hc' with hc' | ⟨b, o, rfl, -, hc'⟩
      · rw [hc'] at hp; simp at hp
      have p0 := hc' j p hp
      have hli := hl' p (List.mem_of_getElem? hp)
      have HW := hm7 (wide7_any Any p.2 p.1 k wr hli hk)
      obtain ⟨pa, pc, hpv, -, -, hpw, -⟩ := hli
      generalize hpn : p.1.length = pn at hpv
      rw [hpv] at p0 HW
      have HP := hm7 hp
      have HPW := hm7 hpw
      clear hp hc' hl' hpv hpn hpw
      go_wp2_with (first | (go_at_call 17; refine HW.out.mono ?_; rintro e w3 ⟨v3, rfl, ho3, hb3⟩; obtain ⟨va, vc, hv3, -⟩ := row7_form ho3; obtain ⟨vn, hvn⟩ : ∃ vn, (wd7 k p.1).length = vn := ⟨_, rfl⟩; rw [hvn] at hv3; subst hv3; have HO3 := hm7 ho3; have HB3 := hm7 hb3; clear ho3 hb3 hvn) | (at_builtin; refine gapp Try.underlying29 Try.infoInts7 rfl (by omega) rfl _ _ rfl W0.heap.size (.slice ua j uc) j (Q.map Prod.snd) rfl (row7_below (row7_below (by have := HOL.out.o; rw [HQL.out] at this; exact this) HB3.out) (below1 _ _)) w3.heap.size (.slice va vn vc) rfl (Bk.new _ _ _) rfl (by omega) (by have := HB.out.size; have := HB3.out.size; simp; omega) ?_; intro g2 c2 w5 ho5 hg5 hv5 hl5; have HH5 := hm7 (And.intro ho5 (And.intro hg5 hv5)); clear ho5 hg5 hv5))
      have hm := (HOL.out.below HB3.out).more HQL.out (x := wd7 k p.1) ((OwI.li HO3.out (wd7_w HPW.out)).mono fun b _ hb => ⟨by have := HB.out.size; omega, fun e => by have := (HOL.out.o.lt b e).2; omega⟩) HH5.out.1 HH5.out.2.1 HH5.out.2.2
      go_roundg gg
      case measure => omega
      case rel => exact ⟨j + 1, _, by omega, by go_num, hm.1, by rw [List.map_append, HQ.out, List.take_add_one, HP.out]; simp, HB.out.trans ((HB3.out.mono HB.out.size).trans (hm.2.low (Nat.le_trans HB.out.size HB3.out.size)))⟩
    | zero =>
      have hlt : ¬ (j : Int) < (n : Int) := by omega
      obtain rfl : j = n := by omega
      go_wp2
      go_ret
      refine ⟨.slice ua j uc, rfl, Q, HOL.out.mono (by omega), ?_, HB0.out.trans (HB.out.mono (by omega))⟩
      rw [HQ.out, List.take_of_length_le (by have := HN.out; omega)]
end Go.Proofs.Ytofopfjmcbgfjaa

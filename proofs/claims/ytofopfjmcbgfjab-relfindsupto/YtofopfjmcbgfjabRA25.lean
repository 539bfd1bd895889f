import Derived.Test.YtofopfjmcbgfjabRA16
import Derived.Laws.Cover1
import Derived.Deep.QuietTactic
import Derived.BigQuiet
import Derived.Laws.CopyOwn
/-
  law 7: same, sameRows, small, wide.
-/
namespace Go.Proofs.Ytofopfjmcbgfjab
open Go.RowKit
attribute [local go_sem ↓] Go.wp_at_zero Go.wp_at_succ

theorem take_eq_next {α : Type} {a b : List α} {j : Nat} {x : α} (h : a.take j = b.take j) (hx : a[j]? = some x) (hy : b[j]? = some x) : a.take (j + 1) = b.take (j + 1) := by
  rw [List.take_add_one, List.take_add_one, h, hx, hy]
set_option maxRecDepth 20000 in
set_option maxHeartbeats 1000000 in
theorem same7_any (F G : Nat → Prop) (a b : List Int) (u v : Value) (w : World) (h : Li F w u a) (h' : Li G w v b) :
    Calls Try.prog 26 #[u, v] w fun e w' => e = .returned (.bool (decide (a = b))) ∧ ∃ n, w' = w.drewN n := by
  obtain ⟨ad, cap, rfl, g1, g2, -, h⟩ := h
  obtain ⟨ad', cap', rfl, -, -, -, h'⟩ := h'
  obtain ⟨n, hn⟩ : ∃ n, a.length = n := ⟨_, rfl⟩
  have hnb : n ≤ 9223372036854775807 := by omega
  clear g1 g2
  obtain ⟨n', hn'⟩ : ∃ n, b.length = n := ⟨_, rfl⟩
  rw [hn, hn']
  by_cases hnn : n = n'
  · subst hnn
    go_enter Try.func26, Try.ntmps26
    go_wp2
    go_loopg [5] n (fun g i wr => ∃ j m : Nat, j + g = n ∧ i = .int .i64 j ∧ a.take j = b.take j ∧ wr = w.drewN m)
    case atStart => exact ⟨0, 0, by omega, rfl, rfl, rfl⟩
    case round =>
      obtain ⟨j, m, hj, rfl, hp, rfl⟩ := hrel
      have HP := hm7 hp
      clear hp
      cases gk with
      | succ g =>
        have hlt : (j : Int) < (n : Int) := by omega
        have j0 : (0 : Int) ≤ (j : Int) := by omega
        obtain ⟨x, hx⟩ : ∃ x, a[j]? = some x := ⟨_, List.getElem?_eq_getElem (by omega)⟩
        obtain ⟨y, hy⟩ : ∃ y, b[j]? = some y := ⟨_, List.getElem?_eq_getElem (by omega)⟩
        rcases h with ⟨h, -⟩ | ⟨b1, o1, rfl, hb1, -, h⟩
        · rw [h] at hx; simp at hx
        rcases h' with ⟨h', -⟩ | ⟨b2, o2, rfl, hb2, -, h'⟩
        · rw [h'] at hy; simp at hy
        have p0 := h j x hx
        have q0 := h' j y hy
        have HX := hm7 hx
        have HY := hm7 hy
        clear h h' hx hy
        by_cases hxy : x = y
        · subst hxy
          go_wp2
          go_quiet (fail)
          go_wp2
          go_roundg g
          case measure => omega
          case rel => exact ⟨j + 1, _, by omega, by go_num, take_eq_next HP.out HX.out HY.out, rfl⟩
        · have hq : (x == y) = false := by simpa using hxy
          have hq2 : (x != y) = true := by simp [bne, hq]
          go_wp2
          go_quiet (fail)
          go_wp2
          go_ret
          refine ⟨?_, _, by rw [World.drewN_drewN]⟩
          rw [decide_eq_false]
          · rfl
          · intro e
            rw [e, HY.out] at HX
            exact hxy (Option.some.inj HX.out).symm
      | zero =>
        have hlt : ¬ (j : Int) < (n : Int) := by omega
        have e : a = b := by
          have := HP.out
          rwa [List.take_of_length_le (by omega), List.take_of_length_le (by omega)] at this
        have HE := hm7 e
        clear h h' e hn hn'
        go_wp2
        go_ret
        refine ⟨?_, _, rfl⟩
        rw [decide_eq_true HE.out]
        rfl
  · have HE : Hid (a ≠ b) := fun e => hnn (by rw [← hn, ← hn', e])
    have hq : ((n : Int) == (n' : Int)) = false := by simpa using fun e : (n : Int) = n' => hnn (by omega)
    clear h h' hn hn'
    go_enter Try.func26, Try.ntmps26
    go_wp2
    go_ret
    refine ⟨?_, 0, rfl⟩
    rw [decide_eq_false HE.out]
    rfl
theorem row7_len {w : World} {base m : Nat} {e : TypeId} {v : Value} {xs : List Value} (h : w.ownsRow base e 1 v m xs) : m ≤ 9223372036854775807 := by
  rcases h.2 with ⟨-, hn⟩ | ⟨g, cap', cur, hv, hb, hg, hn, hc, hs, ht⟩
  · omega
  · unfold maxLen at hc; omega
/-- A list of rows in memory. -/
def Ls7 (w : World) (v : Value) (P : List (List Int × Value)) : Prop := (∃ B, w.ownsRow B 32 1 v P.length (P.map Prod.snd)) ∧ ∀ p ∈ P, Li Any w p.2 p.1
theorem Ls7.drew {w : World} {v : Value} {P : List (List Int × Value)} (h : Ls7 w v P) (n : Nat) : Ls7 (w.drewN n) v P := by
  obtain ⟨⟨B, h⟩, hp⟩ := h
  exact ⟨⟨B, row7 h fun _ _ => by simp⟩, fun p hq => (hp p hq).same (by simp) fun _ _ _ => by simp⟩
set_option maxRecDepth 20000 in
set_option maxHeartbeats 1000000 in
theorem sameRows7_any (P Q : List (List Int × Value)) (u v : Value) (w : World) (h : Ls7 w u P) (h' : Ls7 w v Q) (he : P.map Prod.fst = Q.map Prod.fst) :
    Calls Try.prog 23 #[u, v] w fun e w' => e = .returned (.bool true) ∧ ∃ n, w' = w.drewN n := by
  have H := hm7 h
  have H' := hm7 h'
  obtain ⟨⟨B, h1⟩, -⟩ := h
  obtain ⟨⟨B', h1'⟩, -⟩ := h'
  obtain ⟨a, cap, hu, -⟩ := row7_form h1
  obtain ⟨a', cap', hv, -⟩ := row7_form h1'
  obtain ⟨n, hn⟩ : ∃ n, P.length = n := ⟨_, rfl⟩
  have hn' : Q.length = n := by have := congrArg List.length he; simp at this; omega
  have hb : n ≤ 9223372036854775807 := by rw [← hn]; exact row7_len h1
  rw [hn] at hu h1
  rw [hn'] at hv h1'
  subst hu hv
  have HO := hm7 h1
  have HO' := hm7 h1'
  have HE := hm7 he
  have HN := hm7 hn
  have HN' := hm7 hn'
  clear h1 h1' he hn hn'
  go_enter Try.func23, Try.ntmps23
  go_wp2
  go_loopg [5] n (fun g i wr => ∃ j m : Nat, j + g = n ∧ i = .int .i64 j ∧ wr = w.drewN m)
  case atStart => exact ⟨0, 0, by omega, rfl, rfl⟩
  case round =>
    obtain ⟨j, m, hj, rfl, rfl⟩ := hrel
    cases gk with
    | succ g =>
      have hlt : (j : Int) < (n : Int) := by omega
      have j0 : (0 : Int) ≤ (j : Int) := by omega
      obtain ⟨p, hp⟩ : ∃ x, P[j]? = some x := ⟨_, List.getElem?_eq_getElem (by have := HN.out; omega)⟩
      obtain ⟨q, hq⟩ : ∃ x, Q[j]? = some x := ⟨_, List.getElem?_eq_getElem (by have := HN'.out; omega)⟩
      have hpq : p.1 = q.1 := by
        have h1 : (P.map Prod.fst)[j]? = some p.1 := by rw [List.getElem?_map, hp]; rfl
        have h2 : (Q.map Prod.fst)[j]? = some q.1 := by rw [List.getElem?_map, hq]; rfl
        rw [HE.out, h2] at h1
        exact (Option.some.inj h1).symm
      obtain ⟨b1, rfl, -, -, p0, -⟩ := row7_at HO.out (i := j) (u := p.2) (by rw [List.getElem?_map, hp]; rfl)
      obtain ⟨b2, rfl, -, -, q0, -⟩ := row7_at HO'.out (i := j) (u := q.2) (by rw [List.getElem?_map, hq]; rfl)
      have hs : ∀ k, Calls Try.prog 26 #[p.2, q.2] (w.drewN k) fun e w' => e = .returned (.bool true) ∧ ∃ n, w' = w.drewN (k + n) := fun k => by
        have := same7_any Any Any p.1 q.1 p.2 q.2 (w.drewN k) ((H.out.drew k).2 p (List.mem_of_getElem? hp)) ((H'.out.drew k).2 q (List.mem_of_getElem? hq))
        rw [decide_eq_true hpq] at this
        exact this.mono fun e w' ⟨h1, n, h2⟩ => ⟨h1, n, by rw [h2, World.drewN_drewN]⟩
      obtain ⟨pa, pc, hpv, -⟩ := (H.out).2 p (List.mem_of_getElem? hp)
      obtain ⟨qa, qc, hqv, -⟩ := (H'.out).2 q (List.mem_of_getElem? hq)
      generalize p.1.length = pn at hpv
      generalize q.1.length = qn at hqv
      rw [hpv] at p0 hs
      rw [hqv] at q0 hs
      have HS := hm7 hs
      clear hs hp hq hpv hqv
      go_wp2
      go_quiet ((go_at_call 26; with_reducible refine (HS.out _).mono ?_; rintro e w2 ⟨rfl, n2, rfl⟩; exact ⟨rfl, _, by rw [Nat.add_assoc]⟩))
      go_wp2
      go_roundg g
      case measure => omega
      case rel => exact ⟨j + 1, _, by omega, by go_num, rfl⟩
    | zero =>
      have hlt : ¬ (j : Int) < (n : Int) := by omega
      go_wp2
      go_ret
      exact ⟨rfl, _, rfl⟩
end Go.Proofs.Ytofopfjmcbgfjab
/-
  law 7: small, wide.
-/
namespace Go.Proofs.Ytofopfjmcbgfjab
open Go.RowKit
attribute [local go_sem ↓] Go.wp_at_zero Go.wp_at_succ

def sm7 (x : Int) : Nat := (x.tmod 6).natAbs
theorem sm7_le (x : Int) : sm7 x ≤ 5 := by
  unfold sm7
  rw [Int.natAbs_tmod]
  exact Nat.le_of_lt_succ (Nat.mod_lt _ (by decide))
/-- A row brought to a width. -/
def wd7 (k : Nat) (l : List Int) : List Int := l.take k ++ List.replicate (k - l.length) 0
theorem wd7_len (k : Nat) (l : List Int) : (wd7 k l).length = k := by simp [wd7]; omega
theorem wd7_w {k : Nat} {l : List Int} (h : w64 l) : w64 (wd7 k l) := by
  intro x hx
  simp only [wd7, List.mem_append, List.mem_replicate] at hx
  rcases hx with hx | ⟨-, rfl⟩
  · exact h x (List.mem_of_mem_take hx)
  · rfl
theorem made_ints (k : Nat) : madeCells #[.int .i64 0] k = (List.replicate k (Value.int .i64 0)).toArray := by
  apply Array.ext
  · simp [madeCells]
  · intro i h1 h2
    simp [madeCells, Nat.mod_one]
theorem mk_ints (k : Nat) (hk : k ≤ 10000000000) (w : World) : (Instr.makeSlice 32 (.int .i64 (k : Int)) (.int .i64 (k : Int))).run Try.prog w = .ok (.slice (some ⟨w.heap.size, 0, none⟩) k k) (w.alloc (.cells (List.replicate k (Value.int .i64 0)).toArray 3)) := by
  obtain ⟨i, hi, h0, h1, h2⟩ := info7 Try.infoInt7
  have h := run_make (P := Try.prog) w 32 3 i _ Try.underlying32 hi h0 .i64 .i64 k k (by omega) (by omega) (by rw [h2]; omega) (by omega)
  rw [h1] at h
  rw [h]
  have e : madeCells (Value.int IntKind.i64 0).cells (Int.toNat (k : Int) * 1) = (List.replicate k (Value.int .i64 0)).toArray := by
    rw [Int.toNat_natCast, Nat.mul_one]; exact made_ints k
  rw [e]
  simp
theorem splice_wd (k : Nat) (l : List Int) : splice (List.replicate k (Value.int .i64 0)) 0 (ibs7 (l.take k)) = ibs7 (wd7 k l) := by
  unfold splice ibs7 wd7
  simp
  omega
end Go.Proofs.Ytofopfjmcbgfjab
/-
  law 7: brought.
-/
namespace Go.Proofs.Ytofopfjmcbgfjab
open Go.RowKit
attribute [local go_sem ↓] Go.wp_at_zero Go.wp_at_succ

/-- A list of rows that came in. -/
def Rn7 (w : World) (v : Value) (P : List (List Int × Value)) : Prop :=
  ∃ a cap, v = .slice a P.length cap ∧ (P = [] ∨ ∃ b o, a = some ⟨b, o, none⟩ ∧ b < w.heap.size ∧ ∀ (i : Nat) p, P[i]? = some p → w.cell? ⟨b, o + i, none⟩ = some p.2) ∧ ∀ p ∈ P, Li Any w p.2 p.1
theorem Rn7.below {w w' : World} {v : Value} {P : List (List Int × Value)} (h : Rn7 w v P) (hb : Below w.heap.size w w') : Rn7 w' v P := by
  obtain ⟨a, cap, rfl, h1, h2⟩ := h
  refine ⟨a, cap, rfl, h1.imp id ?_, fun p hp => (h2 p hp).below hb⟩
  rintro ⟨b, o, rfl, hl, hc⟩
  exact ⟨b, o, rfl, Nat.lt_of_lt_of_le hl hb.size, fun i p hp => by rw [hb.cell (p := ⟨b, o + i, none⟩) hl]; exact hc i p hp⟩
/-- A list of rows that a call makes. -/
structure OL (w : World) (B : Nat) (v : Value) (P : List (List Int × Value)) : Prop where
  o : w.ownsRow B 32 1 v P.length (P.map Prod.snd)
  l : ∀ p ∈ P, Li (fun b => B ≤ b ∧ v.ownBlock ≠ some b) w p.2 p.1
theorem OL.nil (w : World) (B : Nat) : OL w B (.slice none 0 0) [] := ⟨World.ownsRow_nil _ _ _ _, by intro p hp; simp at hp⟩
theorem OL.below {w w' : World} {B : Nat} {v : Value} {P : List (List Int × Value)} (h : OL w B v P) (hb : Below w.heap.size w w') : OL w' B v P := ⟨row7_below h.o hb, fun p hp => (h.l p hp).below hb⟩
theorem OL.mono {w : World} {B B' : Nat} {v : Value} {P : List (List Int × Value)} (h : OL w B v P) (hb : B' ≤ B) : OL w B' v P := ⟨row7_mono h.o hb, fun p hp => (h.l p hp).mono fun _ _ hq => ⟨Nat.le_trans hb hq.1, hq.2⟩⟩
theorem OL.fr {Pd : Nat → Prop} {w w' : World} {B : Nat} {v : Value} {P : List (List Int × Value)} (h : OL w B v P) (hf : Fr Pd w w') (hn : ∀ b, B ≤ b → b < w.heap.size → ¬ Pd b) : OL w' B v P :=
  ⟨row7_fr h.o hf fun g hg => hn g (h.o.lt g hg).1 (h.o.lt g hg).2, fun p hp => (h.l p hp).fr hf fun b hl hb => hn b hb.1 hl⟩
theorem OL.ls {w : World} {B : Nat} {v : Value} {P : List (List Int × Value)} (h : OL w B v P) : Ls7 w v P := ⟨⟨B, h.o⟩, fun p hp => (h.l p hp).any⟩
theorem OL.more {w w5 : World} {B g2 c2 n : Nat} {v u : Value} {P : List (List Int × Value)} {x : List Int} (h : OL w B v P) (hn : P.length = n) (hu : Li (fun b => B ≤ b ∧ v.ownBlock ≠ some b) w u x)
    (ho : w5.ownsRow B 32 1 (.slice (some ⟨g2, 0, none⟩) (n + 1) c2) (n + 1) (P.map Prod.snd ++ [u])) (hg : (w.alloc (.cells #[u] 32)).grownBy w5 v.ownBlock) (hv : v.ownBlock = some g2 ∨ g2 = (w.alloc (.cells #[u] 32)).heap.size) :
    OL w5 B (.slice (some ⟨g2, 0, none⟩) (n + 1) c2) (P ++ [(x, u)]) ∧ Fr (fun b => B ≤ b) w w5 := by
  have hfr : Fr (fun b => v.ownBlock = some b) w w5 := (Fr.of (below1 _ _)).tr (Fr.grown hg fun b hb => hb)
  have hrow : ∀ (z : Value) (y : List Int), Li (fun b => B ≤ b ∧ v.ownBlock ≠ some b) w z y → Li (fun b => B ≤ b ∧ (Value.slice (some ⟨g2, 0, none⟩) (n + 1) c2).ownBlock ≠ some b) w5 z y := fun z y hz => by
    refine (Li.fr (hz.mono (G := fun b => B ≤ b ∧ v.ownBlock ≠ some b ∧ b < w.heap.size) fun b hl hb => ⟨hb.1, hb.2, hl⟩) hfr fun b _ hb hc => hb.2.1 hc).mono fun b _ hb => ⟨hb.1, fun e => ?_⟩
    have e2 : g2 = b := by simpa [Value.ownBlock] using e
    rcases hv with hv | hv
    · exact hb.2.1 (by rw [← e2]; exact hv)
    · simp at hv; omega
  refine ⟨⟨?_, fun p hp => ?_⟩, hfr.mono fun b _ hb => (h.o.lt b hb).1⟩
  · rw [List.length_append, List.map_append, hn]; exact ho
  · rcases List.mem_append.1 hp with hp | hp
    · exact hrow _ _ (h.l p hp)
    · rw [List.mem_singleton] at hp; rw [hp]; exact hrow _ _ hu
end Go.Proofs.Ytofopfjmcbgfjab

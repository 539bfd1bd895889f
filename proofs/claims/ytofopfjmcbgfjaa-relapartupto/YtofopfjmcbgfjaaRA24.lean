import Derived.Test.YtofopfjmcbgfjaaRA16
import Derived.Laws.Cover1
import Derived.Deep.QuietTactic
import Derived.BigQuiet
import Derived.Laws.CopyOwn
/-
  law 7: same, sameRows, small, wide.
-/
namespace Go.Proofs.Ytofopfjmcbgfjaa
open Go.RowKit
attribute [local go_sem ↓] Go.wp_at_zero Go.wp_at_succ

theorem take_eq_next {α : Type} {a b : List α} {j : Nat} {x : α} (h : a.take j = b.take j) (hx : a[j]? = some x) (hy : b[j]? = some x) : a.take (j + 1) = b.take (j + 1) := by
  rw [List.take_add_one, List.take_add_one, h, hx, hy]
set_option maxRecDepth 20000 in
set_option maxHeartbeats 1000000 in
theorem same7_any (F G : Nat → Prop) (a b : List Int) (u v : Value) (w : World) (h : Li F w u a) (h' : Li G w v b) :
    Calls Try.prog 15 #[u, v] w fun e w' => e = .returned (.bool (decide (a = b))) ∧ ∃ n, w' = w.drewN n := by
  obtain ⟨ad, cap, rfl, g1, g2, -, h⟩ := h
  obtain ⟨ad', cap', rfl, -, -, -, h'⟩ := h'
  obtain ⟨n, hn⟩ : ∃ n, a.length = n := ⟨_, rfl⟩
  have hnb : n ≤ 9223372036854775807 := by omega
  clear g1 g2
  obtain ⟨n', hn'⟩ : ∃ n, b.length = n := ⟨_, rfl⟩
  rw [hn, hn']
  by_cases hnn : n = n'
  · subst hnn
    go_enter Try.func15, Try.ntmps15
    go_wp2
    go_loopg [5] n (fun g i wr => ∃ j m : Nat, j + g = n ∧ i = .int .i64 j ∧ a.take j = b.take j ∧ wr = w.drewN m)
    case atStart => exact ⟨0, 0, by omega, rfl, rfl, rfl⟩
    case round =>
      obtain ⟨j, m, hj, rfl, hp, rfl⟩ := hrel
      have HP := hm7 hp
      clear hp
      cases gk with
      | succ g =>
        have hlt : (j : Int) < (n : Int) := by omega
        have j0 : (0 : Int) ≤ (j : Int) := by omega
        obtain ⟨x, hx⟩ : ∃ x, a[j]? = some x := ⟨_, List.getElem?_eq_getElem (by omega)⟩
        obtain ⟨y, hy⟩ : ∃ y, b[j]? = some y := ⟨_, List.getElem?_eq_getElem (by omega)⟩
        rcases h with ⟨h, -⟩ | ⟨b1, o1, rfl, hb1, -, h⟩
        · rw [h] at hx; simp at hx
        rcases h' with ⟨h', -⟩ | ⟨b2, o2, rfl, hb2, -, h'⟩
        · rw [h'] at hy; simp at hy
        have p0 := h j x hx
        have q0 := h' j y hy
        have HX := hm7 hx
        have HY := hm7 hy
        clear h h' hx hy
        by_cases hxy : x = y
        · subst hxy
          go_wp2
          go_quiet (fail)
          go_wp2
          go_roundg g
          case measure => omega
          case rel => exact ⟨j + 1, _, by omega, by go_num, take_eq_next HP.out HX.out HY.out, rfl⟩
        · have hq : (x == y) = false := by simpa using hxy
          have hq2 : (x != y) = true := by simp [bne, hq]
          go_wp2
          go_quiet (fail)
          go_wp2
          go_ret
          refine ⟨?_, _, by rw [World.drewN_drewN]⟩
          rw [decide_eq_false]
          · rfl
          · intro e
            rw [e, HY.out] at HX
            exact hxy (Option.some.inj HX.out).symm
      | zero =>
        have hlt : ¬ (j : Int) < (n : Int) := by omega
        have e : a = b := by
          have := HP.out
          rwa [List.take_of_length_le (by omega), List.take_of_length_le (by omega)] at this
        have HE := hm7 e
        clear h h' e hn hn'
        go_wp2
        go_ret
        refine ⟨?_, _, rfl⟩
        rw [decide_eq_true HE.out]
        rfl
  · have HE : Hid (a ≠ b) := fun e => hnn (by rw [← hn, ← hn', e])
    have hq : ((n : Int) == (n' : Int)) = false := by simpa using fun e : (n : Int) = n' => hnn (by omega)
    clear h h' hn hn'
    go_enter Try.func15, Try.ntmps15
    go_wp2
    go_ret
    refine ⟨?_, 0, rfl⟩
    rw [decide_eq_false HE.out]
    rfl
theorem row7_len {w : World} {base m : Nat} {e : TypeId} {v : Value} {xs : List Value} (h : w.ownsRow base e 1 v m xs) : m ≤ 9223372036854775807 := by
  rcases h.2 with ⟨-, hn⟩ | ⟨g, cap', cur, hv, hb, hg, hn, hc, hs, ht⟩
  · omega
  · unfold maxLen at hc; omega
/-- A list of rows in memory. -/
def Ls7 (w : World) (v : Value) (P : List (List Int × Value)) : Prop := (∃ B, w.ownsRow B 23 1 v P.length (P.map Prod.snd)) ∧ ∀ p ∈ P, Li Any w p.2 p.1
theorem Ls7.drew {w : World} {v : Value} {P : List (List Int × Value)} (h : Ls7 w v P) (n : Nat) : Ls7 (w.drewN n) v P := by
  obtain ⟨⟨B, h⟩, hp⟩ := h
  exact ⟨⟨B, row7 h fun _ _ => by simp⟩, fun p hq => (hp p hq).same (by simp) fun _ _ _ => by simp⟩
set_option maxRecDepth 20000 in
set_option maxHeartbeats 1000000 in
theorem sameRows7_any (P Q : List (List Int × Value)) (u v : Value) (w : World) (h : Ls7 w u P) (h' : Ls7 w v Q) (he : P.map Prod.fst = Q.map Prod.fst) :
    Calls Try.prog 22 #[u, v] w fun e w' => e = .returned (.bool true) ∧ ∃ n, w' = w.drewN n := by
  have H := hm7 h
  have H' := hm7 h'
  obtain ⟨⟨B, h1⟩, -⟩ := h
  obtain ⟨⟨B', h1'⟩, -⟩ := h'
  obtain ⟨a, cap, hu, -⟩ := row7_form h1
  obtain ⟨a', cap', hv, -⟩ := row7_form h1'
  obtain ⟨n, hn⟩ : ∃ n, P.length = n := ⟨_, rfl⟩
  have hn' : Q.length = n := by have := congrArg List.length he; simp at this; omega
  have hb : n ≤ 9223372036854775807 := by rw [← hn]; exact row7_len h1
  rw [hn] at hu h1
  rw [hn'] at hv h1'
  subst hu hv
  have HO := hm7 h1
  have HO' := hm7 h1'
  have HE := hm7 he
  have HN := hm7 hn
  have HN' := hm7 hn'
  clear h1 h1' he hn hn'
  go_enter Try.func22, Try.ntmps22
  go_wp2
  go_loopg [5] n (fun g i wr => ∃ j m : Nat, j + g = n ∧ i = .int .i64 j ∧ wr = w.drewN m)
  case atStart => exact ⟨0, 0, by omega, rfl, rfl⟩
  case round =>
    obtain ⟨j, m, hj, rfl, rfl⟩ := hrel
    cases gk with
    | succ g =>
      have hlt : (j : Int) < (n : Int) := by omega
      have j0 : (0 : Int) ≤ (j : Int) := by omega
      obtain ⟨p, hp⟩ : ∃ x, P[j]? = some x := ⟨_, List.getElem?_eq_getElem (by have := HN.out; omega)⟩
      obtain ⟨q, hq⟩ : ∃ x, Q[j]? = some x := ⟨_, List.getElem?_eq_getElem (by have := HN'.out; omega)⟩
      have hpq : p.1 = q.1 := by
        have h1 : (P.map Prod.fst)[j]? = some p.1 := by rw [List.getElem?_map, hp]; rfl
        have h2 : (Q.map Prod.fst)[j]? = some q.1 := by rw [List.getElem?_map, hq]; rfl
        rw [HE.out, h2] at h1
        exact (Option.some.inj h1).symm
      obtain ⟨b1, rfl, -, -, p0, -⟩ := row7_at HO.out (i := j) (u := p.2) (by rw [List.getElem?_map, hp]; rfl)
      obtain ⟨b2, rfl, -, -, q0, -⟩ := row7_at HO'.out (i := j) (u := q.2) (by rw [List.getElem?_map, hq]; rfl)
      have hs : ∀ k, Calls Try.prog 15 #[p.2, q.2] (w.drewN k) fun e w' => e = .returned (.bool true) ∧ ∃ n, w' = w.drewN (k + n) := fun k => by
        have := same7_any Any Any p.1 q.1 p.2 q.2 (w.drewN k) ((H.out.drew k).2 p (List.mem_of_getElem? hp)) ((H'.out.drew k).2 q (List.mem_of_getElem? hq))
        rw [decide_eq_true hpq] at this
        exact this.mono fun e w' ⟨h1, n, h2⟩ => ⟨h1, n, by rw [h2, World.drewN_drewN]⟩
      obtain ⟨pa, pc, hpv, -⟩ := (H.out).2 p (List.mem_of_getElem? hp)
      obtain ⟨qa, qc, hqv, -⟩ := (H'.out).2 q (List.mem_of_getElem? hq)
      generalize p.1.length = pn at hpv
      generalize q.1.length = qn at hqv
      rw [hpv] at p0 hs
      rw [hqv] at q0 hs
      have HS := hm7 hs
      clear hs hp hq hpv hqv
      go_wp2
      go_quiet ((go_at_call 15; with_reducible refine (HS.out _).mono ?_; rintro e w2 ⟨rfl, n2, rfl⟩; exact ⟨rfl, _, by rw [Nat.add_assoc]⟩))
      go_wp2
      go_roundg g
      case measure => omega
      case rel => exact ⟨j + 1, _, by omega, by go_num, rfl⟩
    | zero =>
      have hlt : ¬ (j : Int) < (n : Int) := by omega
      go_wp2
      go_ret
      exact ⟨rfl, _, rfl⟩
end Go.Proofs.Ytofopfjmcbgfjaa
/-
  law 7: small, wide.
-/
namespace Go.Proofs.Ytofopfjmcbgfjaa
open Go.RowKit
attribute [local go_sem ↓] Go.wp_at_zero Go.wp_at_succ

def sm7 (x : Int) : Nat := (x.tmod 6).natAbs
theorem sm7_le (x : Int) : sm7 x ≤ 5 := by
  unfold sm7
  rw [Int.natAbs_tmod]
  exact Nat.le_of_lt_succ (Nat.mod_lt _ (by decide))
set_option maxHeartbeats 1000000 in
theorem small7_any (x : Int) (w : World) : Calls Try.prog 9 #[.int .i64 x] w fun e w' => e = .returned (.int .i64 (sm7 x : Int)) ∧ w' = w := by
  have h5 := sm7_le x
  unfold sm7 at h5 ⊢
  obtain ⟨r, hr⟩ : ∃ r, x.tmod 6 = r := ⟨_, rfl⟩
  rw [hr] at h5 ⊢
  have h6 : IntKind.i64.wrap r = r := by rw [IntKind.wrap_i64]; omega
  have h7 : IntKind.i64.wrap (-r) = -r := by rw [IntKind.wrap_i64]; omega
  by_cases h0 : r < 0
  · go_enter Try.func9, Try.ntmps9
    go_wp2
    go_ret
    exact ⟨ret_i (by omega), rfl⟩
  · go_enter Try.func9, Try.ntmps9
    go_wp2
    go_ret
    exact ⟨ret_i (by omega), rfl⟩
/-- A row brought to a width. -/
def wd7 (k : Nat) (l : List Int) : List Int := l.take k ++ List.replicate (k - l.length) 0
theorem wd7_len (k : Nat) (l : List Int) : (wd7 k l).length = k := by simp [wd7]; omega
theorem wd7_w {k : Nat} {l : List Int} (h : w64 l) : w64 (wd7 k l) := by
  intro x hx
  simp only [wd7, List.mem_append, List.mem_replicate] at hx
  rcases hx with hx | ⟨-, rfl⟩
  · exact h x (List.mem_of_mem_take hx)
  · rfl
theorem made_ints (k : Nat) : madeCells #[.int .i64 0] k = (List.replicate k (Value.int .i64 0)).toArray := by
  apply Array.ext
  · simp [madeCells]
  · intro i h1 h2
    simp [madeCells, Nat.mod_one]
theorem mk_ints (k : Nat) (hk : k ≤ 10000000000) (w : World) : (Instr.makeSlice 23 (.int .i64 (k : Int)) (.int .i64 (k : Int))).run Try.prog w = .ok (.slice (some ⟨w.heap.size, 0, none⟩) k k) (w.alloc (.cells (List.replicate k (Value.int .i64 0)).toArray 3)) := by
  obtain ⟨i, hi, h0, h1, h2⟩ := info7 Try.infoInt7
  have h := run_make (P := Try.prog) w 23 3 i _ Try.underlying23 hi h0 .i64 .i64 k k (by omega) (by omega) (by rw [h2]; omega) (by omega)
  rw [h1] at h
  rw [h]
  have e : madeCells (Value.int IntKind.i64 0).cells (Int.toNat (k : Int) * 1) = (List.replicate k (Value.int .i64 0)).toArray := by
    rw [Int.toNat_natCast, Nat.mul_one]; exact made_ints k
  rw [e]
  simp
theorem splice_wd (k : Nat) (l : List Int) : splice (List.replicate k (Value.int .i64 0)) 0 (ibs7 (l.take k)) = ibs7 (wd7 k l) := by
  unfold splice ibs7 wd7
  simp
  omega
set_option maxRecDepth 20000 in
set_option maxHeartbeats 1000000 in
theorem wide7_any (F : Nat → Prop) (v : Value) (l : List Int) (k : Nat) (w : World) (h : Li F w v l) (hk : k ≤ 10000000000) :
    Calls Try.prog 17 #[v, .int .i64 (k : Int)] w fun e w' => ∃ v', e = .returned v' ∧ OwI w' w.heap.size v' (wd7 k l) ∧ Below w.heap.size w w' := by
  have H := hm7 h
  obtain ⟨a, cap, rfl, -, -, -, h4⟩ := h
  have hmk := mk_ints k hk w
  obtain ⟨cs, hcs⟩ : ∃ cs, ibs7 (l.take k) = cs := ⟨_, rfl⟩
  obtain ⟨Z, hZ⟩ : ∃ Z, List.replicate k (Value.int .i64 0) = Z := ⟨_, rfl⟩
  rw [hZ] at hmk
  have hcl : cs.length = Nat.min l.length k := by rw [← hcs, ibs7_len, List.length_take, Nat.min_comm]
  have hZl : Z.length = k := by rw [← hZ]; simp
  have HSP : Hid (splice Z 0 cs = ibs7 (wd7 k l)) := by rw [← hZ, ← hcs]; exact splice_wd k l
  have h1c : ∀ v ∈ cs, v.oneCell' = true := by
    intro v hv
    rw [← hcs] at hv
    simp only [ibs7, List.mem_map] at hv
    obtain ⟨x, -, rfl⟩ := hv
    rfl
  have hpos : 0 < cs.length → ∃ ad, a = some ad ∧ ∀ j v, cs[j]? = some v → (w.alloc (.cells Z.toArray 3)).cell? (ad.add j) = some v := by
    intro h0
    rcases h4 with ⟨rfl, -⟩ | ⟨b, o, rfl, hb, -, hc⟩
    · rw [hcl] at h0; simp at h0
    · refine ⟨_, rfl, fun j v hj => ?_⟩
      rw [← hcs] at hj
      simp only [ibs7, List.getElem?_map, Option.map_eq_some_iff] at hj
      obtain ⟨x, hx, rfl⟩ := hj
      rw [Go.WideShapes.add_plain, (below1 w _).cell (p := ⟨b, o + j, none⟩) hb]
      refine hc j x ?_
      rw [List.getElem?_take] at hx
      split at hx
      · exact hx
      · cases hx
  have HH1 := hm7 h1c
  have HPOS := hm7 hpos
  have HCS := hm7 hcs
  have HZ := hm7 hZ
  have hfit : 0 + cs.length ≤ Z.length := by rw [hcl, hZl]; have : Nat.min l.length k ≤ k := Nat.min_le_right _ _; omega
  clear h4 hcs hZ h1c hpos
  obtain ⟨n, hn⟩ : ∃ n, l.length = n := ⟨_, rfl⟩
  rw [hn] at hcl ⊢
  have hsz : (Try.prog.info? 3).map (·.size) = some 1 := by kernel_rfl
  go_enter Try.func17, Try.ntmps17
  go_wp2_with (refine wpList_copy_splice rfl _ _ _ _ rfl 3 Try.underlying23 hsz _ _ _ _ _ _ rfl rfl w.heap.size 0 Z 3 (heap_alloc_new _ _) cs hcl (fun h0 => ⟨rfl, HPOS.out h0⟩) hfit HH1.out w.heap.size w (below1 _ _) (Nat.le_refl _) ?_; intro w2 HG hB2)
  go_ret
  refine ⟨_, rfl, ?_, hB2⟩
  unfold OwI
  rw [wd7_len]
  refine ⟨by rw [ibs7_len, wd7_len, Nat.mul_one], Or.inr ⟨w.heap.size, k, (splice Z 0 cs).toArray, rfl, Nat.le_refl _, HG.out, Nat.le_refl _, by unfold maxLen; omega, ?_, ?_⟩⟩
  · rw [HSP.out]; simp [ibs7_len, wd7_len]
  · rw [HSP.out, Nat.mul_one, List.take_of_length_le]
    simp [ibs7_len, wd7_len]
end Go.Proofs.Ytofopfjmcbgfjaa

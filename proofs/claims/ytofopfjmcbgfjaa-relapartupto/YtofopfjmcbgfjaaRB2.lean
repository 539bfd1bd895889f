/-
  law 7: has, subset, rising.
-/
import Derived.Test.YtofopfjmcbgfjaaRA25
namespace Go.Proofs.Ytofopfjmcbgfjaa
open Go.RowKit
attribute [local go_sem ↓] Go.wp_at_zero Go.wp_at_succ

theorem Rn7.drew {w : World} {v : Value} {P : List (List Int × Value)} (h : Rn7 w v P) (n : Nat) : Rn7 (w.drewN n) v P := h.below ⟨rfl, rfl, rfl, Nat.le_refl _, fun _ _ => rfl⟩
theorem Li.drewN {F : Nat → Prop} {w : World} {v : Value} {l : List Int} (h : Li F w v l) (n : Nat) : Li F (w.drewN n) v l := h.below ⟨rfl, rfl, rfl, Nat.le_refl _, fun _ _ => rfl⟩
theorem Rn7.get {w : World} {a : Option Addr} {n cap j : Nat} {P : List (List Int × Value)} {p : List Int × Value} (h : Rn7 w (.slice a n cap) P) (hp : P[j]? = some p) : ∃ b o, a = some ⟨b, o, none⟩ ∧ b < w.heap.size ∧ w.cell? ⟨b, o + j, none⟩ = some p.2 ∧ Li Any w p.2 p.1 := by
  obtain ⟨a', cap', e, h1, h2⟩ := h
  simp only [Value.slice.injEq] at e
  obtain ⟨rfl, -, rfl⟩ := e
  rcases h1 with rfl | ⟨b, o, rfl, hl, hc⟩
  · simp at hp
  · exact ⟨b, o, rfl, hl, hc j p hp, h2 p (List.mem_of_getElem? hp)⟩
set_option maxRecDepth 20000 in
set_option maxHeartbeats 1000000 in
theorem has7_any (G : Nat → Prop) (P : List (List Int × Value)) (x : List Int) (u v : Value) (w : World) (h : Rn7 w u P) (hx : Li G w v x) (hP : P.length ≤ 1000000000000) :
    Calls Try.prog 26 #[u, v] w fun e w' => e = .returned (.bool (decide (x ∈ P.map Prod.fst))) ∧ ∃ n, w' = w.drewN n := by
  have H := hm7 h
  have HX := hm7 hx
  obtain ⟨a, cap, rfl, -, -⟩ := h
  obtain ⟨xa, xn, xc, rfl⟩ : ∃ a n c, v = .slice a n c := by obtain ⟨a, c, e, -⟩ := hx; exact ⟨_, _, _, e⟩
  obtain ⟨n, hn⟩ : ∃ n, P.length = n := ⟨_, rfl⟩
  rw [hn] at H hP ⊢
  have HN := hm7 hn
  clear hn hx
  go_enter Try.func26, Try.ntmps26
  go_wp2
  go_loopg [5] n (fun g i wr => ∃ j m : Nat, j + g = n ∧ i = .int .i64 j ∧ x ∉ (P.take j).map Prod.fst ∧ wr = w.drewN m)
  case atStart => exact ⟨0, 0, by omega, rfl, by simp, rfl⟩
  case round =>
    obtain ⟨j, m, hj, rfl, hp, rfl⟩ := hrel
    have HP := hm7 hp
    clear hp
    cases gk with
    | succ g =>
      have hlt : (j : Int) < (n : Int) := by omega
      have j0 : (0 : Int) ≤ (j : Int) := by omega
      obtain ⟨p, hp⟩ : ∃ x, P[j]? = some x := ⟨_, List.getElem?_eq_getElem (by have := HN.out; omega)⟩
      obtain ⟨b1, o1, rfl, -, p0, hli⟩ := (H.out.drew m).get hp
      have HS := hm7 (same7_any Any G p.1 x p.2 (.slice xa xn xc) (w.drewN m) hli (HX.out.drewN m))
      obtain ⟨pa, pc, hpv, -⟩ := hli
      generalize p.1.length = pn at hpv
      rw [hpv] at p0 HS
      have HPJ := hm7 hp
      clear hp hpv
      by_cases hq : p.1 = x
      · rw [decide_eq_true hq] at HS
        have HE : Hid (x ∈ P.map Prod.fst) := by rw [← hq]; exact List.mem_map_of_mem (List.mem_of_getElem? HPJ.out)
        go_wp2_with (go_at_call 15; refine HS.out.mono ?_; rintro e w2 ⟨rfl, n2, rfl⟩)
        go_ret
        exact ⟨by rw [decide_eq_true HE.out]; rfl, _, rfl⟩
      · rw [decide_eq_false hq] at HS
        go_wp2_with (go_at_call 15; refine HS.out.mono ?_; rintro e w2 ⟨rfl, n2, rfl⟩)
        go_roundg g
        case measure => omega
        case rel =>
          refine ⟨j + 1, m + n2, by omega, by go_num, ?_, rfl⟩
          rw [List.take_add_one, HPJ.out, List.map_append, List.mem_append]
          rintro (h | h)
          · exact HP.out h
          · simp at h; exact hq h.symm
    | zero =>
      have hlt : ¬ (j : Int) < (n : Int) := by omega
      have HE : Hid (x ∉ P.map Prod.fst) := by
        have := HP.out
        rwa [List.take_of_length_le (by have := HN.out; omega)] at this
      go_wp2
      go_ret
      exact ⟨by rw [decide_eq_false HE.out]; rfl, _, rfl⟩
set_option maxRecDepth 20000 in
set_option maxHeartbeats 1000000 in
theorem subset7_yes (P Q : List (List Int × Value)) (u v : Value) (w : World) (h : Rn7 w u P) (h' : Rn7 w v Q) (hP : P.length ≤ 1000000000000) (hQ : Q.length ≤ 1000000000000) (hs : ∀ x ∈ P.map Prod.fst, x ∈ Q.map Prod.fst) :
    Calls Try.prog 38 #[u, v] w fun e w' => e = .returned (.bool true) ∧ ∃ n, w' = w.drewN n := by
  have H := hm7 h
  have H' := hm7 h'
  have HS := hm7 hs
  obtain ⟨a, cap, rfl, -, -⟩ := h
  obtain ⟨xa, xc, rfl, -, -⟩ := h'
  obtain ⟨n, hn⟩ : ∃ n, P.length = n := ⟨_, rfl⟩
  obtain ⟨n', hn'⟩ : ∃ n, Q.length = n := ⟨_, rfl⟩
  rw [hn] at H hP ⊢
  rw [hn'] at H' hQ ⊢
  have HN := hm7 hn
  have HN' := hm7 hn'
  clear hn hn' hs
  go_enter Try.func38, Try.ntmps38
  go_wp2
  go_loopg [5] n (fun g i wr => ∃ j m : Nat, j + g = n ∧ i = .int .i64 j ∧ wr = w.drewN m)
  case atStart => exact ⟨0, 0, by omega, rfl, rfl⟩
  case round =>
    obtain ⟨j, m, hj, rfl, rfl⟩ := hrel
    cases gk with
    | succ g =>
      have hlt : (j : Int) < (n : Int) := by omega
      have j0 : (0 : Int) ≤ (j : Int) := by omega
      obtain ⟨p, hp⟩ : ∃ x, P[j]? = some x := ⟨_, List.getElem?_eq_getElem (by have := HN.out; omega)⟩
      obtain ⟨b1, o1, rfl, -, p0, hli⟩ := (H.out.drew m).get hp
      have HC := hm7 (has7_any Any Q p.1 (.slice xa n' xc) p.2 (w.drewN m) (H'.out.drew m) hli (by have := HN'.out; omega))
      rw [decide_eq_true (HS.out p.1 (List.mem_map_of_mem (List.mem_of_getElem? hp)))] at HC
      obtain ⟨pa, pc, hpv, -⟩ := hli
      generalize p.1.length = pn at hpv
      rw [hpv] at p0 HC
      clear hp hpv
      go_wp2_with (go_at_call 26; refine HC.out.mono ?_; rintro e w2 ⟨rfl, n2, rfl⟩)
      go_roundg g
      case measure => omega
      case rel => exact ⟨j + 1, m + n2, by omega, by go_num, rfl⟩
    | zero =>
      have hlt : ¬ (j : Int) < (n : Int) := by omega
      go_wp2
      go_ret
      exact ⟨rfl, _, rfl⟩
/-- One row stands ahead of another: the first number that differs is smaller. -/
def lt7 (a b : List Int) : Prop := ∃ (k : Nat) (x y : Int), a.take k = b.take k ∧ a[k]? = some x ∧ b[k]? = some y ∧ x < y
set_option maxRecDepth 20000 in
set_option maxHeartbeats 2000000 in
theorem rising7_yes (P : List (List Int × Value)) (u : Value) (w : World) (h : Rn7 w u P) (hP : P.length ≤ 1000000000000) (hs : ∀ j p q, P[j]? = some p → P[j + 1]? = some q → lt7 p.1 q.1) :
    Calls Try.prog 37 #[u] w fun e w' => e = .returned (.bool true) ∧ ∃ n, w' = w.drewN n := by
  have H := hm7 h
  have HS := hm7 hs
  obtain ⟨a, cap, rfl, -, -⟩ := h
  obtain ⟨n, hn⟩ : ∃ n, P.length = n := ⟨_, rfl⟩
  rw [hn] at H hP ⊢
  have HN := hm7 hn
  clear hn hs
  go_enter Try.func37, Try.ntmps37
  go_wp2
  go_loopg [3, 4, 5, 6] n (fun g i _ _ _ wr => ∃ j m : Nat, j + g = n + 1 ∧ 0 < j ∧ j ≤ 1000000000001 ∧ i = .int .i64 j ∧ wr = w.drewN m)
  case atStart => exact ⟨1, 0, by omega, by omega, by omega, rfl, rfl⟩
  case round =>
    obtain ⟨j, m, hj, hj0, hj1, rfl, rfl⟩ := hrel
    by_cases hjn : j < n
    · obtain ⟨g, rfl⟩ : ∃ g, gk = g + 1 := ⟨gk - 1, by omega⟩
      have hlt : (j : Int) < (n : Int) := by omega
      have j0 : (0 : Int) ≤ (j : Int) := by omega
      have j1 : (0 : Int) ≤ (j : Int) - 1 := by omega
      have j2 : (j : Int) - 1 < (n : Int) := by omega
      have j3 : ((j : Int) - 1).toNat = j - 1 := by omega
      obtain ⟨p, hp⟩ : ∃ x, P[j - 1]? = some x := ⟨_, List.getElem?_eq_getElem (by have := HN.out; omega)⟩
      obtain ⟨q, hq⟩ : ∃ x, P[j]? = some x := ⟨_, List.getElem?_eq_getElem (by have := HN.out; omega)⟩
      obtain ⟨b1, o1, rfl, -, p0, hli⟩ := H.out.get hp
      obtain ⟨b2, o2, e2, -, q0, hlq⟩ := H.out.get hq
      cases e2
      obtain ⟨k, x, y, hk, hx, hy, hxy⟩ := HS.out (j - 1) p q hp (by rw [show j - 1 + 1 = j by omega]; exact hq)
      obtain ⟨pa, pc, hpv, pl1, pl2, -, hpc⟩ := hli
      obtain ⟨qa, qc, hqv, ql1, ql2, -, hqc⟩ := hlq
      obtain ⟨pn, hpn⟩ : ∃ pn, p.1.length = pn := ⟨_, rfl⟩
      obtain ⟨qn, hqn⟩ : ∃ pn, q.1.length = pn := ⟨_, rfl⟩
      rw [hpn] at hpv pl1
      rw [hqn] at hqv ql1
      have hkp : k < pn := by rw [← hpn]; exact (List.getElem?_eq_some_iff.1 hx).1
      have hkq : k < qn := by rw [← hqn]; exact (List.getElem?_eq_some_iff.1 hy).1
      rcases hpc with ⟨hpc, -⟩ | ⟨c1, z1, rfl, -, -, hpc⟩
      · rw [hpc] at hx; simp at hx
      rcases hqc with ⟨hqc, -⟩ | ⟨c2, z2, rfl, -, -, hqc⟩
      · rw [hqc] at hy; simp at hy
      rw [hpv] at p0
      rw [hqv] at q0
      have HK := hm7 (And.intro hk (And.intro hx (And.intro hy hxy)))
      have HPC := hm7 hpc
      have HQC := hm7 hqc
      clear hk hx hy hxy hpc hqc hp hq hpv hqv hpn hqn
      go_wp2
      go_loopg [6] k (fun g2 i wr => ∃ i2 m2 : Nat, i2 + g2 = k ∧ i = .int .i64 i2 ∧ wr = w.drewN m2)
      case atStart => exact ⟨0, m, by omega, by go_num, rfl⟩
      case round =>
        obtain ⟨i2, m2, hi2, rfl, rfl⟩ := hrel
        have l1 : (i2 : Int) < (pn : Int) := by omega
        have l2 : (i2 : Int) < (qn : Int) := by omega
        have l3 : (0 : Int) ≤ (i2 : Int) := by omega
        have l4 : decide (i2 < pn) = true := decide_eq_true (by omega)
        have l5 : decide (i2 < qn) = true := decide_eq_true (by omega)
        have l6 : decide (pn ≤ i2) = false := decide_eq_false (by omega)
        have l7 : decide (qn ≤ i2) = false := decide_eq_false (by omega)
        cases gk with
        | succ g2 =>
          obtain ⟨z, hz1⟩ : ∃ z, p.1[i2]? = some z := by
            have := (List.getElem?_eq_some_iff.1 HK.out.2.1).1
            exact ⟨_, List.getElem?_eq_getElem (by omega)⟩
          have hz2 : q.1[i2]? = some z := by
            have h1 : (p.1.take k)[i2]? = some z := by rw [List.getElem?_take_of_lt (by omega)]; exact hz1
            rw [HK.out.1, List.getElem?_take_of_lt (by omega)] at h1
            exact h1
          have r0 := HPC.out i2 z hz1
          have r1 := HQC.out i2 z hz2
          clear hz1 hz2
          go_wp2
          go_quiet (fail)
          go_wp2
          go_roundg g2
          case measure => omega
          case rel => exact ⟨i2 + 1, _, by omega, by go_num, by first | rfl | rw [World.drewN_drewN]⟩
        | zero =>
          obtain rfl : i2 = k := by omega
          have r0 := HPC.out i2 x HK.out.2.1
          have r1 := HQC.out i2 y HK.out.2.2.1
          have hxy := HK.out.2.2.2
          have x1 : (x == y) = false := by simpa using fun e : x = y => by omega
          have x2 : decide (x > y) = false := decide_eq_false (by omega)
          have x3 : decide (y < x) = false := decide_eq_false (by omega)
          clear hxy
          go_wp2
          go_quiet (fail)
          go_wp2
          go_quiet (fail)
          go_wp2
          go_roundg g
          case measure => omega
          case rel => exact ⟨j + 1, _, by omega, by omega, by omega, by go_num, by first | rfl | (rw [World.drewN_drewN]) | (rw [World.drewN_drewN, World.drewN_drewN])⟩
    · have hlt : ¬ (j : Int) < (n : Int) := by omega
      go_wp2
      go_ret
      exact ⟨rfl, _, rfl⟩
end Go.Proofs.Ytofopfjmcbgfjaa

/-
  law 7: whole.
-/
import Derived.Test.YtofopfjmcbgfjaaRH2
namespace Go.Proofs.Ytofopfjmcbgfjaa
open Go.RowKit
attribute [local go_sem ↓] Go.wp_at_zero Go.wp_at_succ

theorem kps_at : ∀ {Ks : List Kp} {i : Nat} {k : Kp}, Ks[i]? = some k → ∀ c, c < 3 → (kps Ks)[i * 3 + c]? = k.cs[c]?
  | a :: Ks, 0, k, h, c, hc => by
    simp only [List.getElem?_cons_zero, Option.some.injEq] at h
    subst h
    simp only [kps, List.flatMap_cons, Nat.zero_mul, Nat.zero_add]
    rw [List.getElem?_append_left (by simp [Kp.cs]; omega)]
  | a :: Ks, i + 1, k, h, c, hc => by
    simp only [List.getElem?_cons_succ] at h
    have ih := kps_at h c hc
    simp only [kps, List.flatMap_cons] at ih ⊢
    rw [List.getElem?_append_right (by simp [Kp.cs]; omega), ← ih]
    congr 1
    simp [Kp.cs]
    omega
  | [], i, k, h, _, _ => by simp at h
set_option maxRecDepth 20000 in
set_option maxHeartbeats 2000000 in
theorem whole7_any (Ks : List Kp) (v : Value) (B : Nat) (w : World) (h : w.ownsRow B 86 3 v Ks.length (kps Ks)) (hk : ∀ k ∈ Ks, Kp.ok Any w k) (hn : Ks.length ≤ 1000000000000) :
    Calls Try.prog 25 #[v] w fun e w' => e = .returned (.bool true) ∧ ∃ n, w' = w.drewN n := by
  obtain ⟨va, vc, hv, -⟩ := row7_form h
  obtain ⟨kn, hkn⟩ : ∃ n, Ks.length = n := ⟨_, rfl⟩
  rw [hkn] at hv h hn
  subst hv
  have HO := hm7 h
  have HK := hm7 hk
  have HN := hm7 hkn
  clear h hk hkn
  go_enter Try.func25, Try.ntmps25
  go_wp2
  go_loopg [3] kn (fun gg i wr => ∃ j m : Nat, j + gg = kn ∧ i = .int .i64 j ∧ wr = w.drewN m)
  case atStart => exact ⟨0, 0, by omega, rfl, rfl⟩
  case round =>
    obtain ⟨j, m, hj, rfl, rfl⟩ := hrel
    cases gk with
    | succ gg =>
      have hlt : (j : Int) < (kn : Int) := by omega
      have j0 : (0 : Int) ≤ (j : Int) := by omega
      obtain ⟨k, hk⟩ : ∃ k, Ks[j]? = some k := ⟨_, List.getElem?_eq_getElem (by have := HN.out; omega)⟩
      have hok := HK.out k (List.mem_of_getElem? hk)
      have r0 := kps_at hk 0 (by omega)
      have r1 := kps_at hk 1 (by omega)
      have r2 := kps_at hk 2 (by omega)
      obtain ⟨L, G, M, n⟩ := k
      simp only [Kp.ok] at hok
      obtain ⟨⟨la, lc, hL, l1, l2, -, hl⟩, ⟨ga, gc, hG, g1, g2, -, hg⟩⟩ := hok
      rw [List.length_replicate] at hL hG
      subst hL hG
      obtain ⟨vb, rfl, -, vl, c0, -⟩ := row7_at HO.out (i := j * 3 + 0) (u := .slice la n lc) (by rw [r0]; rfl)
      obtain ⟨vb', e1, -, -, c1, -⟩ := row7_at HO.out (i := j * 3 + 1) (u := .slice ga (n + 1) gc) (by rw [r1]; rfl)
      obtain ⟨vb2, e2, -, -, c2, -⟩ := row7_at HO.out (i := j * 3 + 2) (u := .int .i64 M) (by rw [r2]; rfl)
      cases e1
      cases e2
      rw [Nat.add_zero] at c0
      have hn1 : n + 1 ≤ 9223372036854775807 := by rw [List.length_replicate] at g1; omega
      have HLG := hm7 (And.intro hl hg)
      clear r0 r1 r2 hk hl hg l1 l2 g1 g2
      go_wp2
      go_quiet (fail)
      go_wp2
      go_loopg [4] (n + 1) (fun g2 i wr => ∃ t m2 : Nat, t + g2 = n + 1 ∧ i = .int .i64 t ∧ wr = w.drewN m2)
      case atStart => exact ⟨0, _, by omega, rfl, by rw [World.drewN_drewN]⟩
      case round =>
        obtain ⟨t, m2, ht, rfl, rfl⟩ := hrel
        cases gk with
        | succ g2 =>
          have tlt : (t : Int) < (n : Int) + 1 := by omega
          have tlt2 : (t : Int) < ((n + 1 : Nat) : Int) := by omega
          have t0 : (0 : Int) ≤ (t : Int) := by omega
          have hgt : (List.replicate (n + 1) M)[t]? = some M := by rw [List.getElem?_replicate, if_pos (by omega)]
          obtain ⟨gb, go, rfl, y0⟩ : ∃ b o, ga = some ⟨b, o, none⟩ ∧ w.cell? ⟨b, o + t, none⟩ = some (.int .i64 M) := by
            rcases HLG.out.2 with ⟨h, -⟩ | ⟨b, o, rfl, -, -, h⟩
            · simp at h
            · exact ⟨b, o, rfl, h t M hgt⟩
          have e0 : (M != M) = false := by simp
          by_cases htn : t < n
          · have hd1 : decide ((t : Int) < (n : Int)) = true := decide_eq_true (by omega)
            have hd2 : (t : Int) < (n : Int) := by omega
            have hlt2 : (List.replicate n M)[t]? = some M := by rw [List.getElem?_replicate, if_pos htn]
            obtain ⟨lb, lo, rfl, z0⟩ : ∃ b o, la = some ⟨b, o, none⟩ ∧ w.cell? ⟨b, o + t, none⟩ = some (.int .i64 M) := by
              rcases HLG.out.1 with ⟨h, -⟩ | ⟨b, o, rfl, -, -, h⟩
              · rw [List.replicate_eq_nil_iff] at h; omega
              · exact ⟨b, o, rfl, h t M hlt2⟩
            have hd3 : decide (t < n) = true := decide_eq_true htn
            go_wp2
            go_quiet (fail)
            go_wp2
            go_roundg g2
            case measure => omega
            case rel => exact ⟨t + 1, _, by omega, by go_num, by first | rfl | rw [World.drewN_drewN]⟩
          · have hd1 : decide ((t : Int) < (n : Int)) = false := decide_eq_false (by omega)
            have hd2 : ¬ (t : Int) < (n : Int) := by omega
            have hd3 : decide (t < n) = false := decide_eq_false htn
            go_wp2
            go_quiet (fail)
            go_wp2
            go_roundg g2
            case measure => omega
            case rel => exact ⟨t + 1, _, by omega, by go_num, by first | rfl | rw [World.drewN_drewN]⟩
        | zero =>
          have tlt : ¬ (t : Int) < (n : Int) + 1 := by omega
          have tlt2 : ¬ (t : Int) < ((n + 1 : Nat) : Int) := by omega
          go_wp2
          go_roundg gg
          case measure => omega
          case rel => exact ⟨j + 1, _, by omega, by go_num, rfl⟩
    | zero =>
      have hlt : ¬ (j : Int) < (kn : Int) := by omega
      go_wp2
      go_ret
      exact ⟨rfl, _, rfl⟩
end Go.Proofs.Ytofopfjmcbgfjaa

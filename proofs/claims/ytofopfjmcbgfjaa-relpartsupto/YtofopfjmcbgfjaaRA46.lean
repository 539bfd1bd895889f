/-
  law 7: fits.
-/
import Derived.Test.YtofopfjmcbgfjaaRA27
import Derived.Test.YtofopfjmcbgfjaaRA23
namespace Go.Proofs.Ytofopfjmcbgfjaa
open Go.RowKit
attribute [local go_sem ↓] Go.wp_at_zero Go.wp_at_succ

/-- What one column asks of a row. -/
def ask8 (row : List Int) (p : Int × Int) : Bool := decide (0 ≤ p.1 ∧ p.1 < (row.length : Int) ∧ row[p.1.toNat]?.getD 0 = p.2)
theorem fits8_no {cols keys row : List Int} {j : Nat} {c k : Int} (hc : cols[j]? = some c) (hk : keys[j]? = some k) (h : ask8 row (c, k) = false) : fits8 cols keys row = false := by
  have hz : (c, k) ∈ cols.zip keys := List.mem_of_getElem? (i := j) (by rw [List.getElem?_zip_eq_some]; exact ⟨hc, hk⟩)
  unfold fits8
  rw [Bool.and_eq_false_iff]
  right
  rw [List.all_eq_false]
  exact ⟨_, hz, by unfold ask8 at h; rw [h]; simp⟩
theorem fits8_yes {cols keys row : List Int} {n : Nat} (hl : cols.length = keys.length) (hn : (cols.zip keys).length ≤ n) (h : ∀ p ∈ (cols.zip keys).take n, ask8 row p = true) : fits8 cols keys row = true := by
  unfold fits8
  rw [decide_eq_true hl, Bool.true_and, List.all_eq_true]
  intro p hp
  exact h p (by rw [List.take_of_length_le hn]; exact hp)
set_option maxRecDepth 20000 in
set_option maxHeartbeats 600000 in
theorem fits7_any (F G N : Nat → Prop) (row cols keys : List Int) (rv cv kv : Value) (w : World) (hr : Li F w rv row) (hc : Li G w cv cols) (hk : Li N w kv keys) :
    Calls Try.prog 14 #[rv, cv, kv] w fun e w' => e = .returned (.bool (fits8 cols keys row)) ∧ ∃ n, w' = w.drewN n := by
  obtain ⟨ra, rc, rfl, -, -, -, hr⟩ := hr
  obtain ⟨ca, cc, rfl, g1, g2, -, hc⟩ := hc
  obtain ⟨ka, kc, rfl, -, -, -, hk⟩ := hk
  obtain ⟨rn, hrn⟩ : ∃ n, row.length = n := ⟨_, rfl⟩
  obtain ⟨n, hn⟩ : ∃ n, cols.length = n := ⟨_, rfl⟩
  obtain ⟨n', hn'⟩ : ∃ n, keys.length = n := ⟨_, rfl⟩
  have hnb : n ≤ 9223372036854775807 := by omega
  rw [hrn, hn, hn']
  clear g1 g2
  by_cases hnn : n = n'
  · subst hnn
    have HZL : Hid ((cols.zip keys).length = n) := by show _ = _; rw [List.length_zip, hn, hn', Nat.min_self]
    have HLL : Hid (cols.length = keys.length) := by show _ = _; rw [hn, hn']
    go_enter Try.func14, Try.ntmps14
    go_wp2
    go_loopg [7] n (fun gg i wr => ∃ j m : Nat, j + gg = n ∧ i = .int .i64 j ∧ wr = w.drewN m ∧ ∀ p ∈ (cols.zip keys).take j, ask8 row p = true)
    case atStart => exact ⟨0, 0, by omega, rfl, rfl, by simp⟩
    case round =>
      obtain ⟨j, m, hj, rfl, rfl, hall⟩ := hrel
      have HA := hm7 hall
      clear hall
      cases gk with
      | succ gg =>
        have hlt : (j : Int) < (n : Int) := by omega
        have j0 : (0 : Int) ≤ (j : Int) := by omega
        obtain ⟨c, hcj⟩ : ∃ c, cols[j]? = some c := ⟨_, List.getElem?_eq_getElem (by omega)⟩
        obtain ⟨k, hkj⟩ : ∃ c, keys[j]? = some c := ⟨_, List.getElem?_eq_getElem (by omega)⟩
        rcases hc with ⟨hc, -⟩ | ⟨b1, o1, rfl, -, -, hc⟩
        · rw [hc] at hcj; simp at hcj
        rcases hk with ⟨hk, -⟩ | ⟨b2, o2, rfl, -, -, hk⟩
        · rw [hk] at hkj; simp at hkj
        have p0 := hc j c hcj
        have q0 := hk j k hkj
        have HJ := hm7 (And.intro hcj hkj)
        clear hc hk hcj hkj
        by_cases i1 : c < 0
        · have HF : Hid (fits8 cols keys row = false) := fits8_no HJ.out.1 HJ.out.2 (decide_eq_false (by simp; omega))
          have hd1 : decide (c < 0) = true := decide_eq_true i1
          clear hr
          go_wp2
          go_quiet (fail)
          go_wp2
          go_ret
          exact ⟨by rw [HF.out]; rfl, _, by rw [World.drewN_drewN]⟩
        · have hd1 : decide (c < 0) = false := decide_eq_false i1
          by_cases i2 : (rn : Int) ≤ c
          · have hd2 : decide ((rn : Int) ≤ c) = true := decide_eq_true i2
            have hd3 : decide (c ≥ (rn : Int)) = true := decide_eq_true i2
            have HF : Hid (fits8 cols keys row = false) := fits8_no HJ.out.1 HJ.out.2 (decide_eq_false (by simp; omega))
            clear hr
            go_wp2
            go_quiet (fail)
            go_wp2
            go_ret
            exact ⟨by rw [HF.out]; rfl, _, by rw [World.drewN_drewN]⟩
          · obtain ⟨cn, rfl⟩ : ∃ cn : Nat, c = (cn : Int) := ⟨c.toNat, by omega⟩
            obtain ⟨x, hx⟩ : ∃ x, row[cn]? = some x := ⟨_, List.getElem?_eq_getElem (by omega)⟩
            rcases hr with ⟨hr, -⟩ | ⟨b3, o3, rfl, -, -, hr⟩
            · rw [hr] at hx; simp at hx
            have r0 := hr cn x hx
            have i3 : (cn : Int) < (rn : Int) := by omega
            have i4 : (0 : Int) ≤ (cn : Int) := by omega
            have hd2 : decide ((rn : Int) ≤ (cn : Int)) = false := decide_eq_false i2
            have hd3 : decide (rn ≤ cn) = false := decide_eq_false (by omega)
            have HX := hm7 hx
            clear hr hx
            by_cases i5 : x = k
            · subst i5
              go_wp2
              go_quiet (fail)
              go_wp2
              go_roundg gg
              case measure => omega
              case rel =>
                refine ⟨j + 1, _, by omega, by go_num, by first | rfl | rw [World.drewN_drewN], fun p hp => ?_⟩
                rw [take_next7 (y := ((cn : Int), x)) (by rw [List.getElem?_zip_eq_some]; exact HJ.out)] at hp
                rcases List.mem_append.1 hp with hp | hp
                · exact HA.out p hp
                · rw [List.mem_singleton] at hp
                  rw [hp]
                  exact decide_eq_true ⟨i4, by simp only; omega, by simp [HX.out]⟩
            · have HF : Hid (fits8 cols keys row = false) := fits8_no HJ.out.1 HJ.out.2 (decide_eq_false (by simp [HX.out, i5]))
              have hs1 : (x == k) = false := by simpa using i5
              go_wp2
              go_quiet (fail)
              go_wp2
              go_ret
              exact ⟨by rw [HF.out]; rfl, _, by rw [World.drewN_drewN]⟩
      | zero =>
        have hlt : ¬ (j : Int) < (n : Int) := by omega
        have HF : Hid (fits8 cols keys row = true) := fits8_yes HLL.out (n := j) (by have := HZL.out; omega) HA.out
        clear hr hc hk hn hn'
        go_wp2
        go_ret
        exact ⟨by rw [HF.out]; rfl, _, rfl⟩
  · have HF : Hid (fits8 cols keys row = false) := by
      show _ = _
      unfold fits8
      rw [decide_eq_false (by rw [hn, hn']; exact hnn)]; rfl
    have hq : ((n : Int) == (n' : Int)) = false := by simpa using fun e : (n : Int) = n' => hnn (by omega)
    clear hr hc hk hn hn'
    go_enter Try.func14, Try.ntmps14
    go_wp2
    go_ret
    exact ⟨by rw [HF.out]; rfl, 0, rfl⟩
end Go.Proofs.Ytofopfjmcbgfjaa

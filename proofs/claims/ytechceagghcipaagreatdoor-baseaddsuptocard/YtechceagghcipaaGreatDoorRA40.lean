import Derived.Test.YtechceagghcipaaGreatDoorRA39
import Derived.Lib.SlicesCompact
import Derived.Laws.CopyRow
import Derived.Laws.StructEq
import Derived.Laws.Cover1
import Derived.Deep.QuietTactic
import Derived.BigQuiet
namespace Go.Proofs.YtechceagghcipaaGreatDoor
open Go.RowKit Go.Lib
attribute [local go_sem ↓] Go.wp_at_zero Go.wp_at_succ

theorem eqc7_any (a1 a2 b1 b2 : Int) (w : World) : (binOp .eql 182 (.agg #[.int .i64 a1, .int .i64 a2]) (.agg #[.int .i64 b1, .int .i64 b2])).run Tryz.prog w = .ok (.bool (decide ((a1, a2) = (b1, b2)))) w := by
 by_cases h1 : a1 = b1
 ·by_cases h2 : a2 = b2
  ·subst h1 h2; go_simp
  ·subst h1; rw [decide_eq_false (by simpa using h2)]; go_simp
 ·rw [decide_eq_false (by simp [h1])]; go_simp
theorem nec7_any (a1 a2 b1 b2 : Int) (w : World) : (binOp .neq 182 (.agg #[.int .i64 a1, .int .i64 a2]) (.agg #[.int .i64 b1, .int .i64 b2])).run Tryz.prog w = .ok (.bool (!decide ((a1, a2) = (b1, b2)))) w := by
 by_cases h1 : a1 = b1
 ·by_cases h2 : a2 = b2
  ·subst h1 h2; go_simp
  ·subst h1; rw [decide_eq_false (by simpa using h2)]; go_simp
 ·rw [decide_eq_false (by simp [h1])]; go_simp
def zrs7 (m : Nat) : List Value := (Builtin.zeroCells #[.int .i64 0, .int .i64 0] m).toList
theorem zrs7_len (m : Nat) : (zrs7 m).length = m * 2 := by simp [zrs7, Builtin.zeroCells]
theorem zrs7_one (m : Nat) : ∀ v ∈ zrs7 m, v.oneCell' = true := by
 intro v hv
 simp only [zrs7, Builtin.zeroCells, Array.toList_map, List.mem_map] at hv
 obtain ⟨i, -, rfl⟩ := hv
 have : i % 2 = 0 ∨ i % 2 = 1 := by omega
 rcases this with h | h <;> simp [h] <;> rfl
theorem clear7_any (g i m c : Nat) (w : World) (cur : Array Value) (hg : w.heap[g]? = some (.cells cur 182 (0, 0))) (hm : 0 < m) (hfit : i * 2 + m * 2 <= cur.size) (ty : TypeId) :
  (Builtin.clear_ #[180] ty #[.slice (some ⟨g, i * 2, none⟩) m c]).run Tryz.prog w = .ok (.tuple #[]) (w.setRow g (cur.toList.take (i * 2) ++ zrs7 m ++ cur.toList.drop (i * 2 + (zrs7 m).length)).toArray) := by
 have hst := run_storeCells_at (P := Tryz.prog) g (i * 2) 182 (zrs7 m) 0 cur w hg (by rw [zrs7_len]; omega) (zrs7_one m)
 simp only [Nat.add_zero] at hst
 obtain ⟨q, rfl⟩ : ∃ q, m = q + 1 := ⟨m - 1, by omega⟩
 have hz : (Builtin.zeroCells (Value.agg #[Value.int .i64 0, Value.int .i64 0]).cells (q + 1)).toList = zrs7 (q + 1) := rfl
 simp [Builtin.clear_, run_underlying Tryz.underlying180, hz, hst]
def CK7 (w : World) (g : Nat) (M : List (Int × Int)) (R : List Value) : Prop := Bk w g (ces7 M ++ R).toArray 182
theorem CK7.at_ {w : World} {g : Nat} {M : List (Int × Int)} {R : List Value} (h : CK7 w g M R) {j : Nat} {p : Int × Int} (hp : M[j]? = some p) : w.cell? ⟨g, j * 2, none⟩ = some (.int .i64 p.1) /\ w.cell? ⟨g, j * 2 + 1, none⟩ = some (.int .i64 p.2) := by
 have hj := (List.getElem?_eq_some_iff.1 hp).1
 refine ⟨h.cell ?_, h.cell ?_⟩
 ·have := ces7_get M j p hp 0 (by omega)
  rw [List.getElem?_toArray, List.getElem?_append_left (by rw [ces7_len]; omega)]
  exact this
 ·have := ces7_get M j p hp 1 (by omega)
  rw [List.getElem?_toArray, List.getElem?_append_left (by rw [ces7_len]; omega)]
  exact this
theorem ces7_take : ∀ (M : List (Int × Int)) (k : Nat), (ces7 M).take (k * 2) = ces7 (M.take k)
 | [], k => by simp [ces7]
 | p :: M, 0 => by simp [ces7]
 | p :: M, k + 1 => by
  have ih := ces7_take M k
  have e : ces7 (p :: M) = .int .i64 p.1 :: .int .i64 p.2 :: ces7 M := by simp [ces7, cel7]
  have e2 : ces7 ((p :: M).take (k + 1)) = .int .i64 p.1 :: .int .i64 p.2 :: ces7 (M.take k) := by simp [ces7, cel7]
  rw [e, e2, <- ih, show (k + 1) * 2 = k * 2 + 1 + 1 by omega]
  simp
theorem ces7_set : ∀ (M : List (Int × Int)) (i : Nat) (x : Int × Int), i < M.length -> ((ces7 M).set (i * 2) (.int .i64 x.1)).set (i * 2 + 1) (.int .i64 x.2) = ces7 (M.set i x)
 | [], i, x, h => by simp at h
 | p :: M, 0, x, _ => by simp [ces7, cel7]
 | p :: M, i + 1, x, h => by
  have ih := ces7_set M i x (by simpa using h)
  have e : ces7 (p :: M) = .int .i64 p.1 :: .int .i64 p.2 :: ces7 M := by simp [ces7, cel7]
  have e2 : ces7 ((p :: M).set (i + 1) x) = .int .i64 p.1 :: .int .i64 p.2 :: ces7 (M.set i x) := by simp [ces7, cel7]
  rw [e, e2, <- ih, show (i + 1) * 2 = i * 2 + 1 + 1 by omega]
  simp
theorem CK7.put {w : World} {g : Nat} {M : List (Int × Int)} {R : List Value} (h : CK7 w g M R) {i : Nat} (x : Int × Int) (hi : i < M.length) : CK7 ((w.setCell ⟨g, i * 2, none⟩ (.int .i64 x.1)).setCell ⟨g, i * 2 + 1, none⟩ (.int .i64 x.2)) g (M.set i x) R := by
 have h1 := (Bk.set h (i * 2) (.int .i64 x.1)).set (i * 2 + 1) (.int .i64 x.2)
 unfold CK7
 rw [<- ces7_set M i x hi]
 have e : ((ces7 M ++ R).toArray.setIfInBounds (i * 2) (.int .i64 x.1)).setIfInBounds (i * 2 + 1) (.int .i64 x.2) = (((ces7 M).set (i * 2) (.int .i64 x.1)).set (i * 2 + 1) (.int .i64 x.2) ++ R).toArray := by
  rw [List.setIfInBounds_toArray, List.setIfInBounds_toArray, List.set_append_left _ _ (by rw [ces7_len]; omega), List.set_append_left _ _ (by simp [ces7_len]; omega)]
 rw [<- e]
 exact h1
theorem below_drewN7' (X : World) (n : Nat) : Below X.heap.size X (X.drewN n) := ⟨rfl, rfl, rfl, Nat.le_refl _, fun _ _ => rfl⟩
theorem arr7 {l : List (Int × Int)} {j : Nat} {p : Int × Int} (h : l[j]? = some p) : l.toArray[j]! = p := by
 obtain ⟨hj, rfl⟩ := List.getElem?_eq_some_iff.1 h
 simp [hj]
theorem get7 {d : Array (Int × Int)} {j : Nat} {p : Int × Int} (hj : j < d.size) (h : d[j]! = p) : d.toList[j]? = some p := by
 rw [<- h, getElem!_pos d j hj]
 simp [hj]
theorem compact_is {l : List (Int × Int)} {m kk : Nat} {dk : Array (Int × Int)} (h : CompInv l.toArray m kk dk) (hm : m = l.length) : compact l = dk.toList.take kk := by
 unfold compact
 rw [<- hm]
 have hs := h.size
 have hl := h.lt
 have : l.toArray.size = l.length := by simp
 apply List.ext_getElem?
 intro j
 by_cases hj : j < kk
 ·rw [h.low j hj, List.getElem?_take_of_lt hj]
  exact (get7 (by omega) rfl).symm
 ·rw [List.getElem?_eq_none (by rw [h.len]; omega), List.getElem?_take_eq_none (by omega)]
set_option maxRecDepth 20000 in
set_option maxHeartbeats 2000000 in
theorem compact7_any (g cap n base : Nat) (l : List (Int × Int)) (w : World) (h : OwC7 w base (.slice (some ⟨g, 0, none⟩) n cap) l) (hn : l.length = n) :
  Calls Tryz.prog 124 #[.slice (some ⟨g, 0, none⟩) n cap] w fun e w' => e = .returned (.slice (some ⟨g, 0, none⟩) (compact l).length cap) /\ OwC7 w' base (.slice (some ⟨g, 0, none⟩) (compact l).length cap) (compact l) /\ Fr (fun b => b = g) w w' := by
 have H := hm7 h
 obtain ⟨R, hck, hnc, hcm, hcs⟩ : ∃ R, CK7 w g l R /\ n <= cap /\ cap <= 9223372036854775807 /\ n * 2 + R.length = cap * 2 := by
  rcases h.2 with ⟨h, _⟩ | ⟨g', cap', cur, hv, hb, hg, hnn, hc, hs, ht⟩
  ·cases h
  ·simp only [Value.slice.injEq, Option.some.injEq, Addr.mk.injEq] at hv
   obtain ⟨⟨rfl, -⟩, -, rfl⟩ := hv
   refine ⟨cur.toList.drop (l.length * 2), ?_, by omega, by unfold maxLen at hc; omega, ?_⟩
   ·unfold CK7
    rw [<- ht, List.take_append_drop]
    exact hg
   ·rw [List.length_drop, Array.length_toList, hs, hn]; omega
 have HCK := hm7 hck
 have HN := hm7 hn
 clear h hck hn
 have qe := eqc7_any
 have qn := nec7_any
 by_cases h2 : n < 2
 ·have i1 : (n : Int) < 2 := by omega
  have HC : Hid (compact l = l) := compact_all l fun j hj => keeps_lt_one _ j (by have := HN.out; omega)
  go_enter Tryz.func124, Tryz.ntmps124
  go_wp2
  go_ret
  rw [HC.out, HN.out]
  exact ⟨rfl, H.out, Fr.refl _ _⟩
 ·have i1 : ¬ (n : Int) < 2 := by omega
  go_enter Tryz.func124, Tryz.ntmps124
  go_wp2
  go_loopg [3] (n - 1) (fun gg s3 wr => ∃ k q : Nat, 1 <= k /\ k + gg = n /\ s3 = .int .i64 k /\ wr = w.drewN q /\ ∀ j, j < k -> keeps l.toArray j = true)
  case atStart => exact ⟨1, 0, by omega, by omega, rfl, rfl, keeps_lt_one _⟩
  case round =>
   obtain ⟨k, q, hk1, hk, rfl, rfl, hall⟩ := hrel
   have HA := hm7 hall
   clear hall
   cases gk with
   | succ gg =>
    have hlt : (k : Int) < (n : Int) := by omega
    have k0 : (0 : Int) <= (k : Int) := by omega
    obtain ⟨⟨x1, x2⟩, hx⟩ : ∃ p, l[k]? = some p := ⟨_, List.getElem?_eq_getElem (by have := HN.out; omega)⟩
    obtain ⟨⟨y1, y2⟩, hy⟩ : ∃ p, l[k - 1]? = some p := ⟨_, List.getElem?_eq_getElem (by have := HN.out; omega)⟩
    obtain ⟨c0, c1⟩ := HCK.out.at_ hx
    obtain ⟨c2, c3⟩ := HCK.out.at_ hy
    have e1 : ((k : Int) - 1) = ((k - 1 : Nat) : Int) := by omega
    have HXY := hm7 (And.intro hx hy)
    simp only at c0 c1 c2 c3
    clear hx hy
    by_cases hd : (x1, x2) = (y1, y2)
    ·simp only [Prod.mk.injEq] at hd
     obtain ⟨rfl, rfl⟩ := hd
     go_wp2
     go_quiet (fail)
     go_wp2
     clear c0 c1 c2 c3
     go_loopg [3, 5] (n - k - 1) (fun gg2 s3 s5 wr => ∃ (kk k2 : Nat) (dk : Array (Int × Int)), s3 = .int .i64 kk /\ s5 = .int .i64 k2 /\ 1 <= k2 /\ k + k2 + gg2 = n /\ CK7 wr g dk.toList R /\ Fr (fun b => b = g) w wr /\ CompInv l.toArray (k + k2) kk dk)
     case atStart => exact ⟨k, 1, l.toArray, rfl, rfl, Nat.le_refl _, by omega, HCK.out, Fr.of (below_drewN7' w _), CompInv.start HA.out (keeps_neg (by omega) (by rw [arr7 HXY.out.1, arr7 HXY.out.2]))⟩
     case round =>
      obtain ⟨kk, k2, dk, rfl, rfl, h21, h2n, hck, hfr, hci⟩ := hrel
      have hkk := hci.lt
      have hds : dk.size = n := by rw [hci.size]; simpa using HN.out
      have HCK2 := hm7 hck
      have HFR := hm7 hfr
      have HCI := hm7 hci
      clear hck hfr hci
      cases gk with
      | succ gg2 =>
       have hlt2 : (k2 : Int) < ((n - k : Nat) : Int) := by omega
       have m0 : (0 : Int) <= (k2 : Int) := by omega
       obtain ⟨⟨u1, u2⟩, hu⟩ : ∃ u, dk[k + k2]! = u := ⟨_, rfl⟩
       obtain ⟨⟨v1, v2⟩, hv⟩ : ∃ u, dk[k + k2 - 1]! = u := ⟨_, rfl⟩
       obtain ⟨c0, c1⟩ := HCK2.out.at_ (get7 (by omega) hu)
       obtain ⟨c2, c3⟩ := HCK2.out.at_ (get7 (by omega) hv)
       rw [show (k + k2) * 2 = k * 2 + k2 * 2 by omega] at c0 c1
       rw [show (k + k2 - 1) * 2 = k * 2 + (k2 - 1) * 2 by omega] at c2 c3
       have e2 : ((k2 : Int) - 1) = ((k2 - 1 : Nat) : Int) := by omega
       rw [HCI.out.high _ (by omega)] at hu hv
       have HUV := hm7 (And.intro hu hv)
       simp only at c0 c1 c2 c3
       clear hu hv
       by_cases huv : (u1, u2) = (v1, v2)
       ·simp only [Prod.mk.injEq] at huv
        obtain ⟨rfl, rfl⟩ := huv
        go_wp2
        go_quiet (fail)
        go_wp2
        go_roundg gg2
        case measure => omega
        case rel => exact ⟨kk, k2 + 1, dk, rfl, by go_num, by omega, by omega, HCK2.out, HFR.out.then (below_drewN7' _ _), HCI.out.skip (keeps_neg (by omega) (by rw [HUV.out.1, HUV.out.2]))⟩
       ·have hdd : decide ((u1, u2) = (v1, v2)) = false := decide_eq_false huv
        have HQ := hm7 huv
        have f0 := HCK2.out.froz (kk * 2)
        have f1 := HCK2.out.froz (kk * 2 + 1)
        obtain ⟨⟨o1, o2⟩, ho⟩ : ∃ u, dk[kk]! = u := ⟨_, rfl⟩
        obtain ⟨c4, c5⟩ := HCK2.out.at_ (get7 (by omega) ho)
        have hkn : (kk : Int) < (n : Int) := by omega
        clear ho
        go_wp2
        go_quiet (fail)
        go_wp2
        go_roundg gg2
        case measure => omega
        case rel =>
         refine ⟨kk + 1, k2 + 1, dk.setIfInBounds kk (u1, u2), by go_num, by go_num, by omega, by omega, ?_, Fr.set (Fr.set (HFR.out.then (below_drewN7' _ _)) (Or.inl rfl)) (Or.inl rfl), ?_⟩
         ·rw [Array.toList_setIfInBounds]
          exact CK7.put (w := wr.drewN _) HCK2.out (u1, u2) (by rw [Array.length_toList]; omega)
         ·have := HCI.out.keep (by simp; have := HN.out; omega) (keeps_pos (by rw [HUV.out.1, HUV.out.2]; exact HQ.out))
          rwa [HUV.out.1] at this
      | zero =>
       have hlt2 : ¬ (k2 : Int) < ((n - k : Nat) : Int) := by omega
       have hsz : (ces7 dk.toList ++ R).toArray.size = cap * 2 := by
        simp only [List.size_toArray, List.length_append, ces7_len, Array.length_toList, hds]; exact hcs
       have hcl := clear7_any g kk (n - kk) (cap - kk) wr _ HCK2.out (by omega) (by rw [hsz]; omega)
       have hcp : compact l = dk.toList.take kk := compact_is HCI.out (by have := HN.out; omega)
       have HCP := hm7 hcp
       clear hcp
       have HKL : Hid ((dk.toList.take kk).length = kk) := by show _ = _; rw [List.length_take, Array.length_toList]; omega
       have hkn : (kk : Int) <= (n : Int) := by omega
       have hkc : (kk : Int) <= (cap : Int) := by omega
       go_wp2
       go_ret
       rw [HCP.out, HKL.out]
       have hbg := (H.out.lt g rfl).1
       refine ⟨rfl, ?_, HFR.out.tr ⟨rfl, rfl, rfl, by simp [World.setRow], fun b _ hb => setRow_other wr g b _ (fun e => hb (by omega))⟩⟩
       unfold OwC7
       rw [HKL.out]
       refine ⟨by rw [ces7_len, HKL.out], Or.inr ⟨g, cap, _, rfl, hbg, setRow_heap wr g _ _ 182 (0, 0) HCK2.out, by omega, by unfold maxLen; omega, ?_, ?_⟩⟩
       ·simp only [List.size_toArray, List.length_append, List.length_take, List.length_drop, zrs7_len, ces7_len, Array.length_toList, hds]
        omega
       ·try rw [List.append_assoc]
        rw [List.take_append_of_le_length (by simp only [List.length_take, List.length_append, ces7_len, Array.length_toList, hds]; omega), List.take_take, Nat.min_self, List.take_append_of_le_length (by rw [ces7_len, Array.length_toList]; omega)]
        exact ces7_take _ _
    ·have hdd : decide ((x1, x2) = (y1, y2)) = false := decide_eq_false hd
     have HD := hm7 hd
     go_wp2
     go_quiet (fail)
     go_wp2
     go_roundg gg
     case measure => omega
     case rel =>
      refine ⟨k + 1, _, by omega, by omega, by go_num, rfl, fun j hj => ?_⟩
      by_cases e : j = k
      ·subst e
       exact keeps_pos (by rw [arr7 HXY.out.1, arr7 HXY.out.2]; exact HD.out)
      ·exact HA.out j (by omega)
   | zero =>
    obtain rfl : k = n := by omega
    have hlt : ¬ (k : Int) < (k : Int) := by omega
    have HC : Hid (compact l = l) := compact_all l fun j hj => HA.out j (by have := HN.out; omega)
    go_wp2
    go_ret
    rw [HC.out, HN.out]
    exact ⟨rfl, row7_below H.out (below_drewN7' w _), Fr.of (below_drewN7' w _)⟩
end Go.Proofs.YtechceagghcipaaGreatDoor

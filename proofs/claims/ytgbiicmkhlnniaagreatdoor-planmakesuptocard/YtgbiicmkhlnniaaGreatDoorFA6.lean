import Derived.Test.YtgbiicmkhlnniaaGreatDoorFA4
import Derived.Lib.SlicesCompact
import Derived.Laws.CopyRow
import Derived.Laws.StructEq
import Derived.Laws.Cover1
import Derived.Deep.QuietTactic
import Derived.BigQuiet
import Derived.Test.YtgbiicmkhlnniaaGreatDoorCL8
import Derived.Test.YtgbiicmkhlnniaaGreatDoorShelf
import Derived.Sort.OwnSorted
import Derived.Laws.AppendOwn
/-
  plan: slices.DeleteFunc of one number.
-/
namespace Go.Proofs.YtgbiicmkhlnniaaGreatDoor
open Go.RowKit
attribute [local go_sem ↓] Go.wp_at_zero Go.wp_at_succ

set_option maxRecDepth 20000 in
theorem jdel9_any (i n : Int) (q : Nat) (Y : World) (hq : Y.cell? ⟨q, 0, none⟩ = some (.int .i64 n)) : Calls Tryz.prog 59 #[.int .i64 i, .pointer (some ⟨q, 0, none⟩)] Y fun e Y' => e = .returned (.bool (decide (i = n))) ∧ Y' = Y := by
  go_enter Tryz.func59, Tryz.ntmps59
  go_wp2
  go_ret
  exact ⟨ret_b (by by_cases h : i = n <;> simp [h]), rfl⟩
/-- A row of numbers, whole. -/
def IK9 (w : World) (g : Nat) (L : List Int) (R : List Value) : Prop := Bk w g (ibs7 L ++ R).toArray 3
theorem IK9.at_ {w : World} {g : Nat} {L : List Int} {R : List Value} (h : IK9 w g L R) {j : Nat} {x : Int} (hx : L[j]? = some x) : w.cell? ⟨g, j, none⟩ = some (.int .i64 x) := by
  refine Bk.cell h ?_
  rw [List.getElem?_toArray, List.getElem?_append_left (by rw [ibs7_len]; exact (List.getElem?_eq_some_iff.1 hx).1)]
  simp [ibs7, hx]
theorem IK9.put {w : World} {g : Nat} {L : List Int} {R : List Value} (h : IK9 w g L R) {j : Nat} (hj : j < L.length) (x : Int) : IK9 (w.setCell ⟨g, j, none⟩ (.int .i64 x)) g (L.set j x) R := by
  have := Bk.set h j (.int .i64 x)
  rw [List.setIfInBounds_toArray, List.set_append_left _ _ (by rw [ibs7_len]; exact hj)] at this
  unfold IK9
  rw [show ibs7 (L.set j x) = (ibs7 L).set j (.int .i64 x) by unfold ibs7; rw [List.map_set]]
  exact this
theorem OwI.ik {w : World} {base g cap : Nat} {A : List Int} (h : OwI w base (.slice (some ⟨g, 0, none⟩) A.length cap) A) : ∃ R, IK9 w g A R ∧ A.length + R.length = cap ∧ A.length ≤ cap ∧ cap ≤ maxLen := by
  rcases h.2 with ⟨hv, -⟩ | ⟨g', cap', cur, hv, -, hg, hn, hc, hs, ht⟩
  · cases hv
  · simp only [Value.slice.injEq, Option.some.injEq, Addr.mk.injEq, true_and, and_true] at hv
    obtain ⟨rfl, rfl⟩ := hv
    refine ⟨cur.toList.drop A.length, ?_, ?_, hn, hc⟩
    · unfold IK9
      have e : ibs7 A ++ cur.toList.drop A.length = cur.toList := by
        rw [Nat.mul_one] at ht
        rw [← ht, List.take_append_drop]
      rw [e]
      exact hg
    · have h1 : cur.size = cap := by rw [hs, Nat.mul_one]
      rw [List.length_drop, show cur.toList.length = cap from Array.length_toList.trans h1]
      exact Nat.add_sub_cancel' hn
theorem clear9 (g i m c : Nat) (w : World) (cur : Array Value) (hg : w.heap[g]? = some (.cells cur 3 (0, 0))) (hm : 0 < m) (hfit : i + m ≤ cur.size) (ty : TypeId) :
    (Builtin.clear_ #[32] ty #[.slice (some ⟨g, i, none⟩) m c]).run Tryz.prog w = .ok (.tuple #[]) (w.setRow g (cur.toList.take i ++ List.replicate m (Value.int .i64 0) ++ cur.toList.drop (i + m)).toArray) := by
  have hst := run_storeCells_at (P := Tryz.prog) g i 3 (List.replicate m (.int .i64 0)) 0 cur w hg (by rw [List.length_replicate]; omega) (fun v hv => by rw [(List.mem_replicate.1 hv).2]; rfl)
  simp only [Nat.add_zero, List.length_replicate] at hst
  obtain ⟨q, rfl⟩ : ∃ q, m = q + 1 := ⟨m - 1, by omega⟩
  have hz : (Builtin.zeroCells (Value.int .i64 0).cells (q + 1)).toList = List.replicate (q + 1) (.int .i64 0) := by
    refine List.ext_getElem? fun k => ?_
    by_cases hk : k < q + 1
    · simp [Builtin.zeroCells, Value.cells, hk, Nat.mod_one]
    · simp [Builtin.zeroCells, Value.cells, hk]
  simp [Builtin.clear_, run_underlying Tryz.underlying32, hz, hst]
set_option maxRecDepth 20000 in
set_option maxHeartbeats 1000000 in
theorem idx9_any (n : Int) (q base : Nat) (va : Option Addr) (cap : Nat) (A : List Int) (Y : World) (hA : OwI Y base (.slice va A.length cap) A) (hq : Y.cell? ⟨q, 0, none⟩ = some (.int .i64 n)) (hl : A.length ≤ 1000000) :
    Calls Tryz.prog 91 #[.slice va A.length cap, .func (.func 59) #[] #[.pointer (some ⟨q, 0, none⟩)]] Y fun e Y' => (∃ i : Nat, e = .returned (.int .i64 (i : Int)) ∧ A[i]? = some n ∧ n ∉ A.take i ∨ n ∉ A ∧ e = .returned (.int .i64 (-1))) ∧ Y' = Y := by
  have HA := hm7 hA
  have HQ := hm7 hq
  obtain ⟨N, hN⟩ : ∃ N, A.length = N := ⟨_, rfl⟩
  rw [hN] at HA hl ⊢
  have HN := hm7 hN
  clear hA hN
  go_enter Tryz.func91, Tryz.ntmps91
  go_wp2
  go_loopg [8, 5] N (fun gg i _ wr => ∃ j : Nat, j + gg = N ∧ i = .int .i64 j ∧ n ∉ A.take j ∧ wr = Y)
  case atStart => exact ⟨0, by omega, rfl, by simp, rfl⟩
  case round =>
    obtain ⟨j, hj, rfl, hno, rfl⟩ := hrel
    have HNO := hm7 hno
    clear hno
    cases gk with
    | succ gg =>
      have hlt : (j : Int) < (N : Int) := by omega
      have j0 : (0 : Int) ≤ (j : Int) := by omega
      obtain ⟨x, hx⟩ : ∃ x, A[j]? = some x := ⟨_, List.getElem?_eq_getElem (by have := HN.out; omega)⟩
      have ha : wr.ownsRow base 3 1 (.slice va N cap) N (ibs7 A) := by have := HA.out; unfold OwI at this; rw [HN.out] at this; exact this
      obtain ⟨gb, rfl, -, -, p0, -⟩ := row7_at ha (i := j) (u := .int .i64 x) (by simp [ibs7, hx])
      have HX := hm7 hx
      clear ha hx
      by_cases hxn : x = n
      · have HJ : Hid (Calls Tryz.prog 59 #[.int .i64 x, .pointer (some ⟨q, 0, none⟩)] wr fun e Y' => e = .returned (.bool true) ∧ Y' = wr) := by have := jdel9_any x n q wr HQ.out; rw [decide_eq_true hxn] at this; exact this
        have HXN := hm7 hxn
        clear hxn
        go_wp2_with (go_at_call 59; refine HJ.out.mono ?_; rintro e w1 ⟨rfl, rfl⟩)
        go_ret
        exact ⟨⟨j, Or.inl ⟨rfl, by rw [HX.out, HXN.out], HNO.out⟩⟩, rfl⟩
      · have HJ : Hid (Calls Tryz.prog 59 #[.int .i64 x, .pointer (some ⟨q, 0, none⟩)] wr fun e Y' => e = .returned (.bool false) ∧ Y' = wr) := by have := jdel9_any x n q wr HQ.out; rw [decide_eq_false hxn] at this; exact this
        have HXN := hm7 hxn
        clear hxn
        go_wp2_with (go_at_call 59; refine HJ.out.mono ?_; rintro e w1 ⟨rfl, rfl⟩)
        go_roundg gg
        case measure => omega
        case rel =>
          refine ⟨j + 1, by omega, by go_num, fun hc => ?_, rfl⟩
          rw [List.take_add_one, HX.out] at hc
          rcases List.mem_append.1 hc with hc | hc
          · exact HNO.out hc
          · have : n = x := by simpa using hc
            exact HXN.out this.symm
    | zero =>
      have hlt : ¬ (j : Int) < (N : Int) := by omega
      obtain rfl : j = N := by omega
      go_wp2
      go_ret
      exact ⟨⟨0, Or.inr ⟨by have := HNO.out; rwa [List.take_of_length_le (by have := HN.out; omega)] at this, rfl⟩⟩, rfl⟩
end Go.Proofs.YtgbiicmkhlnniaaGreatDoor
/-
  plan: slices.DeleteFunc of one number: the walk.
-/
namespace Go.Proofs.YtgbiicmkhlnniaaGreatDoor
open Go.RowKit
attribute [local go_sem ↓] Go.wp_at_zero Go.wp_at_succ

/-- How far DeleteFunc has come: j numbers seen, i of them kept. -/
structure DF9 (A : List Int) (n : Int) (i j : Nat) (L : List Int) : Prop where
  le : i ≤ j
  len : L.length = A.length
  t : L.take i = (A.take j).filter fun x => !decide (x = n)
  d : L.drop j = A.drop j
theorem DF9.at_ {A L : List Int} {n : Int} {i j : Nat} (h : DF9 A n i j L) {x : Int} (hx : A[j]? = some x) : L[j]? = some x := by
  have := congrArg (fun l => l[0]?) h.d
  simpa [List.getElem?_drop, hx] using this
theorem DF9.skip {A L : List Int} {n : Int} {i j : Nat} (h : DF9 A n i j L) {x : Int} (hx : A[j]? = some x) (hn : x = n) : DF9 A n i (j + 1) L := by
  refine ⟨Nat.le_succ_of_le h.le, h.len, ?_, ?_⟩
  · rw [h.t, List.take_add_one, hx, List.filter_append]
    simp [hn]
  · have := congrArg (List.drop 1) h.d
    simpa [List.drop_drop, Nat.add_comm] using this
theorem DF9.keep {A L : List Int} {n : Int} {i j : Nat} (h : DF9 A n i j L) {x : Int} (hx : A[j]? = some x) (hn : ¬ x = n) : DF9 A n (i + 1) (j + 1) (L.set i x) := by
  have hj := (List.getElem?_eq_some_iff.1 hx).1
  have hi : i < L.length := by have := h.le; have := h.len; omega
  refine ⟨Nat.succ_le_succ h.le, by rw [List.length_set]; exact h.len, ?_, ?_⟩
  · rw [List.take_add_one, List.take_set_of_le (Nat.le_refl _), h.t, List.getElem?_set_self hi, List.take_add_one, hx, List.filter_append]
    simp [hn]
  · rw [List.drop_set_of_lt (by have := h.le; omega)]
    have := congrArg (List.drop 1) h.d
    simpa [List.drop_drop, Nat.add_comm] using this
theorem DF9.start {A : List Int} {n : Int} {i : Nat} (hi : A[i]? = some n) (hn : n ∉ A.take i) : DF9 A n i (i + 1) A := by
  refine ⟨Nat.le_succ _, rfl, ?_, rfl⟩
  rw [List.take_add_one, hi, List.filter_append]
  have : (A.take i).filter (fun x => !decide (x = n)) = A.take i := List.filter_eq_self.2 fun x hx => by
    have : x ≠ n := fun e => hn (e ▸ hx)
    simp [this]
  rw [this]
  simp
set_option maxRecDepth 20000 in
set_option maxHeartbeats 2000000 in
theorem delf9_any (n : Int) (q base : Nat) (v : Value) (A : List Int) (Y : World) (hA : OwI Y base v A) (hq : Y.cell? ⟨q, 0, none⟩ = some (.int .i64 n)) (hqv : v.ownBlock ≠ some q) (hqs : q < Y.heap.size) (hl : A.length ≤ 1000000) :
    Calls Tryz.prog 58 #[v, .func (.func 59) #[] #[.pointer (some ⟨q, 0, none⟩)]] Y fun e Y' => ∃ v', e = .returned v' ∧ OwI Y' base v' (A.filter fun x => !decide (x = n)) ∧ Fr (fun b => v.ownBlock = some b) Y Y' ∧ ∀ b, v'.ownBlock = some b → v.ownBlock = some b := by
  obtain ⟨va, cap, hv, hcap⟩ := row7_form hA
  subst hv
  have HA := hm7 hA
  have HIX := hm7 (idx9_any n q base va cap A Y hA hq hl)
  have HQ := hm7 hq
  have HQV := hm7 hqv
  obtain ⟨N, hN⟩ : ∃ N, A.length = N := ⟨_, rfl⟩
  have HN := hm7 hN
  rw [hN] at HIX hl hcap ⊢
  by_cases hmem : n ∈ A
  · have HI1 : Hid (Calls Tryz.prog 91 #[.slice va N cap, .func (.func 59) #[] #[.pointer (some ⟨q, 0, none⟩)]] Y fun e Y' => ∃ i : Nat, e = .returned (.int .i64 (i : Int)) ∧ (A[i]? = some n ∧ n ∉ A.take i) ∧ Y' = Y) := by
      refine HIX.out.mono ?_
      rintro e Y' ⟨⟨i, ⟨h1, h2, h3⟩ | ⟨h1, -⟩⟩, rfl⟩
      · exact ⟨i, h1, ⟨h2, h3⟩, rfl⟩
      · exact absurd hmem h1
    obtain ⟨gb, rfl⟩ : ∃ gb, va = some ⟨gb, 0, none⟩ := by
      rcases hA.2 with ⟨e, e0⟩ | ⟨g', cap', cur, e, -⟩
      · rw [List.length_eq_zero_iff.1 e0] at hmem; simp at hmem
      · cases e; exact ⟨g', rfl⟩
    obtain ⟨R, hR, hRl, -, hmx⟩ := hA.ik
    have HIK := hm7 hR
    have HRL : Hid (N + R.length = cap) := by show _ = _; rw [← hN]; exact hRl
    have HMX := hm7 hmx
    have hbg : base ≤ gb ∧ gb < Y.heap.size := World.ownsRow.lt hA gb rfl
    have hqg : ¬ gb = q := fun e => hqv (by rw [← e]; rfl)
    clear hA hq hqv hN HIX hmem hR hRl hmx
    go_enter Tryz.func58, Tryz.ntmps58
    go_upto_region 2 with (go_at_call 91; refine HI1.out.mono ?_; rintro e w1 ⟨i, rfl, hi, rfl⟩; have HI := hm7 hi; clear hi)
    have hil : i < N := by have := (List.getElem?_eq_some_iff.1 HI.out.1).1; have := HN.out; omega
    have im : ¬ (i : Int) = -1 := by omega
    have im2 : ((i : Int) == -1) = false := by simp
    have HD0 := hm7 (DF9.start HI.out.1 HI.out.2)
    go_upto_region 5 with fail
    go_loopg [6, 5, 7] (N - (i + 1)) (fun gg jv iv _ wr => ∃ (j k : Nat) (L : List Int), j + gg = N ∧ jv = .int .i64 j ∧ iv = .int .i64 k ∧ DF9 A n k j L ∧ k < j ∧ IK9 wr gb L R ∧ Fr (fun b => b = gb) w1 wr)
    case atStart => exact ⟨i + 1, i, A, by omega, by go_num, rfl, HD0.out, by omega, HIK.out, Fr.refl _ _⟩
    case round =>
      obtain ⟨j, k, L, hj, rfl, rfl, hd, hkj, hik, hf⟩ := hrel
      have HD := hm7 hd
      have HK := hm7 hik
      have HF := hm7 hf
      cases gk with
      | succ gg =>
        have hlt : (j : Int) < (N : Int) := by omega
        have j0 : (0 : Int) ≤ (j : Int) := by omega
        obtain ⟨x, hx⟩ : ∃ x, A[j]? = some x := ⟨_, List.getElem?_eq_getElem (by have := HN.out; omega)⟩
        have p0 := hik.at_ (hd.at_ hx)
        have hqw : wr.cell? ⟨q, 0, none⟩ = some (.int .i64 n) := hf.cell hqs (fun e => hqg e.symm) HQ.out
        have HX := hm7 hx
        have hln := hd.len
        rw [HN.out] at hln
        by_cases hxn : x = n
        · have HJ : Hid (Calls Tryz.prog 59 #[.int .i64 x, .pointer (some ⟨q, 0, none⟩)] wr fun e Y' => e = .returned (.bool true) ∧ Y' = wr) := by have := jdel9_any x n q wr hqw; rw [decide_eq_true hxn] at this; exact this
          have HS := hm7 (hd.skip hx hxn)
          clear hxn hx hd hik hf hqw
          go_wp2_with (go_at_call 59; refine HJ.out.mono ?_; rintro e w2 ⟨rfl, rfl⟩)
          go_roundg gg
          case measure => omega
          case rel => exact ⟨j + 1, k, L, by omega, by go_num, rfl, HS.out, by omega, HK.out, HF.out⟩
        · have HJ : Hid (Calls Tryz.prog 59 #[.int .i64 x, .pointer (some ⟨q, 0, none⟩)] wr fun e Y' => e = .returned (.bool false) ∧ Y' = wr) := by have := jdel9_any x n q wr hqw; rw [decide_eq_false hxn] at this; exact this
          have HS := hm7 (hd.keep hx hxn)
          have HP := hm7 (hik.put (j := k) (by omega) x)
          obtain ⟨y, hy⟩ : ∃ y, L[k]? = some y := ⟨_, List.getElem?_eq_getElem (by omega)⟩
          have y0 := hik.at_ hy
          have z0 := Bk.froz hik k
          have k0 : (0 : Int) ≤ (k : Int) := by omega
          have k1 : (k : Int) < (N : Int) := by omega
          have HFS := hm7 (hf.set (g := gb) (i := k) (v := .int .i64 x) (Or.inl rfl))
          clear hxn hx hd hik hf hqw hy
          go_wp2_with (go_at_call 59; refine HJ.out.mono ?_; rintro e w2 ⟨rfl, rfl⟩)
          go_roundg gg
          case measure => omega
          case rel => exact ⟨j + 1, k + 1, L.set k x, by omega, by go_num, by go_num, HS.out, by omega, HP.out, HFS.out⟩
      | zero =>
        have hlt : ¬ (j : Int) < (N : Int) := by omega
        obtain rfl : j = N := by omega
        have hln := hd.len
        rw [HN.out] at hln
        have hsz : (ibs7 L ++ R).toArray.size = cap := by simp only [List.size_toArray, List.length_append, ibs7_len]; have := HRL.out; omega
        have hcl := clear9 gb k (j - k) (cap - k) wr _ hik (by omega) (by rw [hsz]; omega)
        have HFT : Hid (A.filter (fun x => !decide (x = n)) = L.take k) := by
          show _ = _
          rw [hd.t, List.take_of_length_le (by have := HN.out; omega)]
        have HKL : Hid ((L.take k).length = k) := by show _ = _; rw [List.length_take]; omega
        have hkn : (k : Int) ≤ (j : Int) := by omega
        have hkc : (k : Int) ≤ (cap : Int) := by omega
        have k0 : (0 : Int) ≤ (k : Int) := by omega
        have kck : ¬ cap = k := by omega
        clear hd hf
        go_wp2
        go_ret
        refine ⟨_, rfl, ?_, ?_, fun b hb => hb⟩
        · rw [HFT.out]
          unfold OwI
          rw [HKL.out]
          refine ⟨by rw [ibs7_len, HKL.out, Nat.mul_one], Or.inr ⟨gb, cap, _, rfl, hbg.1, setRow_heap wr gb _ _ 3 (0, 0) HK.out, by omega, HMX.out, ?_, ?_⟩⟩
          · simp only [List.size_toArray, List.length_append, List.length_take, List.length_drop, List.length_replicate, ibs7_len]
            have := HRL.out
            omega
          · rw [Nat.mul_one]
            try rw [List.append_assoc]
            rw [List.take_append_of_le_length (by simp only [List.length_take, List.length_append, ibs7_len]; omega), List.take_take, Nat.min_self, List.take_append_of_le_length (by rw [ibs7_len]; omega)]
            unfold ibs7
            rw [List.map_take]
        · refine Fr.mono (P := fun b => b = gb) (HF.out.tr ?_) (fun b _ e => by rw [e]; rfl)
          exact ⟨rfl, rfl, rfl, by simp [World.setRow], fun b _ hb => setRow_other wr gb b _ (fun e => hb (by omega))⟩
  · have HI1 : Hid (Calls Tryz.prog 91 #[.slice va N cap, .func (.func 59) #[] #[.pointer (some ⟨q, 0, none⟩)]] Y fun e Y' => e = .returned (.int .i64 (-1)) ∧ Y' = Y) := by
      refine HIX.out.mono ?_
      rintro e Y' ⟨⟨i, ⟨-, h2, -⟩ | ⟨-, h1⟩⟩, rfl⟩
      · exact absurd (List.mem_of_getElem? h2) hmem
      · exact ⟨h1, rfl⟩
    have HFT : Hid (A.filter (fun x => !decide (x = n)) = A) := List.filter_eq_self.2 fun x hx => by
      have : x ≠ n := fun e => hmem (e ▸ hx)
      simp [this]
    clear hA hq hqv hN HIX hmem
    go_enter Tryz.func58, Tryz.ntmps58
    go_wp2_with (go_at_call 91; refine HI1.out.mono ?_; rintro e w1 ⟨rfl, rfl⟩)
    go_ret
    exact ⟨_, rfl, by rw [HFT.out]; have := HA.out; rw [HN.out] at this; exact this, Fr.refl _ _, fun b hb => hb⟩
end Go.Proofs.YtgbiicmkhlnniaaGreatDoor

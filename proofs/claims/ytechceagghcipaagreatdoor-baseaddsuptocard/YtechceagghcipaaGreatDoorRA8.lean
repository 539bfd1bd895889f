import Derived.Test.YtechceagghcipaaGreatDoorRA7
namespace Go.Proofs.YtechceagghcipaaGreatDoor
open Go.RowKit
attribute [local go_sem ↓] Go.wp_at_zero Go.wp_at_succ

theorem mk_ints7 (n : Nat) (hn : n <= 10000000000000) (w : World) : (Instr.makeSlice 71 (.int .i64 (n : Int)) (.int .i64 (n : Int))).run Tryz.prog w = .ok (.slice (some ⟨w.heap.size, 0, none⟩) n n) (w.alloc (.cells (madeCells #[.int .i64 0] n) 3)) := by
 obtain ⟨i, hi, h0, h1, h2⟩ := info7 Tryz.infoInt7
 have h := run_make (P := Tryz.prog) w 71 3 i _ Tryz.underlying71 hi h0 .i64 .i64 n n (by omega) (by omega) (by rw [h2]; omega) (by omega)
 rw [h1, Nat.mul_one] at h
 exact h
def NB (w : World) (g n : Nat) (l : List Int) (j : Nat) : Prop := ∃ cur : Array Value, Bk w g cur 3 /\ cur.size = n /\ ∀ (i : Nat) (x : Int), i < j -> l[i]? = some x -> cur[i]? = some (.int .i64 x)
theorem NB.new (w : World) (n : Nat) (l : List Int) : NB (w.alloc (.cells (madeCells #[.int .i64 0] n) 3)) w.heap.size n l 0 := ⟨_, Bk.new _ _ _, by simp [madeCells], fun i x h => by omega⟩
theorem NB.put {w : World} {g n j : Nat} {l : List Int} {x : Int} (h : NB w g n l j) (hx : l[j]? = some x) (hj : j < n) : NB (w.setCell ⟨g, j, none⟩ (.int .i64 x)) g n l (j + 1) := by
 obtain ⟨cur, h1, h2, h3⟩ := h
 refine ⟨_, h1.set j _, by simp [h2], fun i y hi hy => ?_⟩
 by_cases e : i = j
 ·subst e
  rw [hx] at hy
  cases hy
  simp [h2, hj]
 ·rw [Array.getElem?_setIfInBounds_ne (fun h => e h.symm)]
  exact h3 i y (by omega) hy
theorem NB.cell {w : World} {g n j i : Nat} {l : List Int} (h : NB w g n l j) (hi : i < n) : ∃ v, w.cell? ⟨g, i, none⟩ = some v /\ w.frozen? ⟨g, i, none⟩ = false := by
 obtain ⟨cur, h1, h2, h3⟩ := h
 exact ⟨cur[i], h1.cell (by simp [h2, hi]), h1.froz i⟩
theorem NB.own {w : World} {g n base : Nat} {l : List Int} (h : NB w g n l n) (hn : l.length = n) (hl : n <= 1000000000000) (hb : base <= g) : OwI w base (.slice (some ⟨g, 0, none⟩) n n) l := by
 obtain ⟨cur, h1, h2, h3⟩ := h
 subst hn
 refine ⟨by simp [ibs7], Or.inr ⟨g, l.length, cur, rfl, hb, h1, Nat.le_refl _, by unfold maxLen; omega, by omega, ?_⟩⟩
 apply List.ext_getElem?
 intro i
 by_cases hi : i < l.length
 ·rw [List.getElem?_take_of_lt (by omega)]
  have := h3 i l[i] hi (by simp [hi])
  rw [<- Array.getElem?_toList] at this
  rw [this]
  simp [ibs7, hi]
 ·rw [List.getElem?_eq_none (by simp; omega), List.getElem?_eq_none (by simp [ibs7]; omega)]
theorem nums7_len (cols : List Nat) (r : List Int) : (nums7 cols r).length = cols.length := by simp [nums7]
theorem nums7_w {cols : List Nat} {r : List Int} (h : w64 r) : w64 (nums7 cols r) := by
 intro x hx
 simp only [nums7, List.mem_map] at hx
 obtain ⟨c, -, rfl⟩ := hx
 cases hc : r[c]? with
 | none => simp; decide
 | some y => simp; exact h y (List.mem_of_getElem? hc)
theorem nat7_len (l : List Nat) : (nat7 l).length = l.length := by simp [nat7]
set_option maxRecDepth 20000 in
set_option maxHeartbeats 1000000 in
theorem numbersOf7_any (gx : Nat) (S G : Nat -> Prop) (cv m k : Value) (cols : List Nat) (v : Value) (r : List Int) (w : World) (h : Bk w gx #[cv, m, k] 210) (hc : Li S w cv (nat7 cols)) (hv : Li G w v r) (hl : cols.length <= 10000000000) (hr : ∀ c ∈ cols, c < r.length) :
  Calls Tryz.prog 187 #[.pointer (some ⟨gx, 0, none⟩), v] w fun e w' => ∃ v', e = .returned v' /\ OwI w' w.heap.size v' (nums7 cols r) /\ Below w.heap.size w w' := by
 have c0 := h.cell (i := 0) rfl
 have hgx := h.lt
 have HW := hm7 hv.w
 obtain ⟨a, cap, rfl, -, -, -, h4⟩ := hc
 obtain ⟨a', cap', rfl, -, -, -, h5⟩ := hv
 obtain ⟨n, hn⟩ : ∃ n, cols.length = n := ⟨_, rfl⟩
 rw [nat7_len, hn] at c0
 have HN := hm7 hn
 have hmk := mk_ints7 n (by omega) w
 clear h
 go_enter Tryz.func187, Tryz.ntmps187
 have c0' := ((below1 w (.cells (madeCells #[.int .i64 0] n) 3)).cell (p := ⟨gx, 0, none⟩) hgx).trans c0
 go_wp2
 go_loopg [19] n (fun g i wr => ∃ j : Nat, j + g = n /\ i = .int .i64 j /\ NB wr w.heap.size n (nums7 cols r) j /\ Below w.heap.size w wr)
 case atStart => exact ⟨0, by omega, rfl, NB.new _ _ _, below1 _ _⟩
 case round =>
  obtain ⟨j, hj, rfl, hw, hb⟩ := hrel
  have HB := hm7 hb
  have HNB := hm7 hw
  cases gk with
  | succ g =>
   have hlt : (j : Int) < (n : Int) := by omega
   have j0 : (0 : Int) <= (j : Int) := by omega
   obtain ⟨c, hc⟩ : ∃ c, cols[j]? = some c := ⟨_, List.getElem?_eq_getElem (by omega)⟩
   have hcr := hr c (List.mem_of_getElem? hc)
   obtain ⟨x, hx⟩ : ∃ x, r[c]? = some x := ⟨_, List.getElem?_eq_getElem hcr⟩
   have HX : Hid ((nums7 cols r)[j]? = some x) := by show _ = _; simp [nums7, hc, hx]
   rcases h4 with ⟨h4, -⟩ | ⟨b, o, rfl, hb1, -, h4⟩
   ·have e : cols.length = 0 := by have q := congrArg List.length h4; rw [nat7_len] at q; exact q
    omega
   rcases h5 with ⟨h5, -⟩ | ⟨b', o', rfl, hb2, -, h5⟩
   ·rw [h5] at hcr; simp at hcr
   have p0 := h4 j (c : Int) (by simp [nat7, hc])
   have p1 := h5 c x hx
   rw [<- hb.cell (p := ⟨b, _, none⟩) hb1] at p0
   rw [<- hb.cell (p := ⟨b', _, none⟩) hb2] at p1
   obtain ⟨u, s0, s1⟩ := hw.cell (i := j) (by omega)
   have hcr2 : (c : Int) < (r.length : Int) := by omega
   have c00 : (0 : Int) <= (c : Int) := by omega
   clear h4 h5 hw hb hr hc hx
   go_wp2
   go_roundg g
   case measure => omega
   case rel => exact ⟨j + 1, by omega, by go_num, HNB.out.put HX.out (by omega), HB.out.setCell (p := ⟨w.heap.size, j, none⟩) (Nat.le_refl _) _⟩
  | zero =>
   have hlt : ¬ (j : Int) < (n : Int) := by omega
   obtain rfl : j = n := by omega
   clear h4 h5 hw hb
   go_wp2
   go_ret
   exact ⟨_, rfl, HNB.out.own (by rw [nums7_len]; exact HN.out) (by omega) (Nat.le_refl _), HB.out⟩
end Go.Proofs.YtechceagghcipaaGreatDoor

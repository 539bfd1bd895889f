/-
  law 7: RelAmid's walk. (Written by RB8.py.)
-/
import Derived.Test.YtofopfjmcbgfjaaRB7
import Derived.Test.YtofopfjmcbgfjaaRA30
import Derived.Stop.RegionWithIn
namespace Go.Proofs.Ytofopfjmcbgfjaa
open Go.RowKit Go.Shelf
attribute [local go_sem] Oper.semAt_some

theorem below_to {w a b : World} (h : Below w.heap.size w a) (k : Below a.heap.size a b) : Below w.heap.size w b := h.trans (k.mono h.size)
/-- The two numbers that RelAmid adds ahead of its range. -/
theorem li_two (X : World) : Li Any (X.alloc (.cells #[.int .i64 (-7), .int .i64 5] 3)) (.slice (some ⟨X.heap.size, 0, none⟩) 2 2) [-7, 5] := li_lit (Bk.new _ _ _) rfl rfl (by intro x hx; simp at hx; rcases hx with rfl | rfl <;> rfl) (by omega)
set_option maxRecDepth 100000 in
set_option maxHeartbeats 4000000 in
theorem relAmid7_any (x : Int) (Bs : List (List (List Int × Value) × Value)) (v mv : Value) (Pm : List (List Int × Value)) (parts : Int) (w : World) (h : Bt7 w v Bs) (hmv : Rn7 w mv Pm) (hB : tot7 Bs ≤ 1048576) (hBl : Bs.length ≤ 1048576) (hPm : Pm.length ≤ 1048576) :
    Calls Try.prog 4 #[.int .i64 x, v, .agg #[mv], .int .i64 parts] w fun e w' => e = .returned (.bool true) ∧ Below w.heap.size w w' := by
  obtain ⟨n, -⟩ : ∃ n : Nat, True := ⟨0, trivial⟩
  refine (callsIn_wide (n := n)).1 ?_
  refine callsIn_of_wp_marks Try.func4 rfl trivial ?_ rfl
  simp only [Try.ntmps4, List.size_toArray, List.length_cons, List.length_nil, Nat.reduceAdd, Nat.reduceSub, Array.replicate_succ, Array.replicate_zero, List.push_toArray, List.append_toArray, List.nil_append, List.cons_append]
  have HBT := hm7 h
  have HMV := hm7 hmv
  obtain ⟨va, vn, vc, rfl⟩ : ∃ a n c, v = .slice a n c := by obtain ⟨a, c, e, -⟩ := h; exact ⟨_, _, _, e⟩
  obtain ⟨ma, mn, mc, rfl⟩ : ∃ a n c, mv = .slice a n c := by obtain ⟨a, c, e, -⟩ := hmv; exact ⟨_, _, _, e⟩
  clear h hmv
  obtain ⟨W0, hW0⟩ : ∃ W0, ((w.alloc (.cells #[.slice ma mn mc] 43)).alloc (.cells #[.int .i64 parts] 3)).alloc (.cells #[.bool false] 4) = W0 := ⟨_, rfl⟩
  have hz0 : W0.heap.size = w.heap.size + 3 := by rw [← hW0]; simp
  have HW0 : Hid (Below w.heap.size w W0 ∧ Bk W0 w.heap.size #[.slice ma mn mc] 43 ∧ Bk W0 (w.heap.size + 1) #[.int .i64 parts] 3 ∧ Bk W0 (w.heap.size + 2) #[.bool false] 4) := by
    show _ ∧ _
    rw [← hW0]
    have e1 := Bk.new w #[.slice ma mn mc] 43
    have e2 := Bk.new (w.alloc (.cells #[.slice ma mn mc] 43)) #[.int .i64 parts] 3
    have e3 := Bk.new ((w.alloc (.cells #[.slice ma mn mc] 43)).alloc (.cells #[.int .i64 parts] 3)) #[.bool false] 4
    rw [World.size_alloc] at e2
    rw [World.size_alloc, World.size_alloc] at e3
    exact ⟨(below2 _ _ _).trans ((below1 _ _).mono (by simp; omega)), (e1.below (below1 _ _)).below (below1 _ _), e2.below (below1 _ _), e3⟩
  gi_wp2
  refine ⟨trivial, fun h => (by cases h), (callsIn_wide.2 (small7_any x W0)).mono ?_⟩
  rintro e W1 ⟨rfl, h1⟩
  rw [h1]
  clear h1 hW0 W1
  have hk5 := sm7_le x
  gi_wp2
  have HGR := hm7 (grown7_any Bs (.slice va vn vc) (sm7 x) W0 (HBT.out.below (by have := HW0.out.1; exact this)) hk5 hB hBl)
  refine ⟨trivial, fun h => (by cases h), (callsIn_wide.2 HGR.out).mono ?_⟩
  clear HGR
  rintro e W2 ⟨g, F, S, rfl, hr, hd, hb⟩
  have hs2 := hb.size
  have HK2 : Hid (KR w (fun b => w.heap.size ≤ b ∧ b < w.heap.size + 3) g 0 (grw (sm7 x) Bs Bs.length) W2) := ⟨F, S, hr, fun b hb => by have := hd b hb; omega, HW0.out.1.trans (hb.mono (by omega))⟩
  have HB2 : Hid (Bk W2 w.heap.size #[.slice ma mn mc] 43 ∧ Bk W2 (w.heap.size + 1) #[.int .i64 parts] 3 ∧ Bk W2 (w.heap.size + 2) #[.bool false] 4) := ⟨HW0.out.2.1.below hb, HW0.out.2.2.1.below hb, HW0.out.2.2.2.below hb⟩
  clear hr hd hb HW0 HBT
  obtain ⟨W3, hW3⟩ : ∃ W3, W2.alloc (.cells #[.pointer (some ⟨g, 0, none⟩)] 25) = W3 := ⟨_, rfl⟩
  have hz3 : W3.heap.size = W2.heap.size + 1 := by rw [← hW3]; simp
  have HB3 : Hid (Below W2.heap.size W2 W3 ∧ Bk W3 W2.heap.size #[.pointer (some ⟨g, 0, none⟩)] 25) := by
    show _ ∧ _
    rw [← hW3]; exact ⟨below1 _ _, Bk.new _ _ _⟩
  gi_wp2
  refine ⟨trivial, fun h => (by cases h), (callsIn_wide.2 (head7_any W3)).mono ?_⟩
  rintro e W4 ⟨rfl, hb4⟩
  have HB4 : Hid (Below W2.heap.size W2 W4 ∧ Bk W4 W2.heap.size #[.pointer (some ⟨g, 0, none⟩)] 25) := ⟨below_to HB3.out.1 hb4, HB3.out.2.below hb4⟩
  have hs4 := hb4.size
  clear hb4 hW3 HB3
  have d0 := HB2.out.1.below HB4.out.1
  have c6 : W4.cell? ⟨w.heap.size, 0, none⟩ = some (.slice ma mn mc) := d0.cell (i := 0) rfl
  have hbw4 : Below w.heap.size w W4 := below_to HK2.out.b HB4.out.1
  have HBR := hm7 (brought7_any Pm (.slice ma mn mc) (sm7 x) W4 (by obtain ⟨a, c, e, q1, q2⟩ := HMV.out; exact Rn7.below ⟨a, c, e, q1, q2⟩ hbw4) (by omega) hPm)
  clear d0
  gi_wp2
  refine ⟨trivial, fun h => (by cases h), (callsIn_wide.2 HBR.out).mono ?_⟩
  clear HBR c6
  rintro e W5 ⟨u, rfl, Q, hol, hqm, hb5⟩
  obtain ⟨ua, uc, hu, -⟩ := row7_form hol.o
  obtain ⟨un, hun⟩ : ∃ un, Q.length = un := ⟨_, rfl⟩
  rw [hun] at hu
  subst hu
  have hs5 := hb5.size
  have HUN := hm7 hun
  have HQM := hm7 hqm
  have hun2 : un ≤ 1048576 := by have h1 := congrArg List.length hqm; simp at h1; omega
  have HB5 : Hid (Below W2.heap.size W2 W5 ∧ Bk W5 W2.heap.size #[.pointer (some ⟨g, 0, none⟩)] 25) := ⟨below_to HB4.out.1 hb5, HB4.out.2.below hb5⟩
  have HLX : Hid (LX (fun b => W4.heap.size ≤ b ∧ b < W5.heap.size) W5 (.slice ua un uc) Q) := hol.lx
  clear hol hqm hb5 hun HB4 hbw4 HMV
  have c7 : W5.cell? ⟨w.heap.size + 1, 0, none⟩ = some (.int .i64 parts) := (HB2.out.2.1.below HB5.out.1).cell (i := 0) rfl
  have c10 : W5.cell? ⟨W2.heap.size, 0, none⟩ = some (.pointer (some ⟨g, 0, none⟩)) := HB5.out.2.cell (i := 0) rfl
  have p2 : w.heap.size + 1 < W5.heap.size := by omega
  have p3 : W2.heap.size < W5.heap.size := by omega
  obtain ⟨W6, hW6⟩ : ∃ W6, W5.alloc (.cells #[.slice ua un uc] 29) = W6 := ⟨_, rfl⟩
  have hz6 : W6.heap.size = W5.heap.size + 1 := by rw [← hW6]; simp
  have HB6 : Hid (Below W5.heap.size W5 W6 ∧ Bk W6 W5.heap.size #[.slice ua un uc] 29) := by
    show _ ∧ _
    rw [← hW6]; exact ⟨below1 _ _, Bk.new _ _ _⟩
  have HW6 := hm7 hW6
  clear hW6
  gi_wp2
  rw [HW6.out]
  clear HW6 c7 c10
  refine ⟨trivial, fun h => (by cases h), (callsIn_wide.2 (find0_any g parts W6)).mono ?_⟩
  rintro e W7 ⟨b1, b2, b3, b4, b5, rfl, hfb, hbs, hb7⟩
  have hs7 := hb7.size
  have HFB := hm7 hfb
  have HBL : Hid (b1 < W7.heap.size ∧ b2 < W7.heap.size ∧ b3 < W7.heap.size ∧ b4 < W7.heap.size ∧ b5 < W7.heap.size) := ⟨hfb.p.lt, hfb.r.lt, hfb.q.lt, hfb.s.lt, hfb.n.lt⟩
  -- all that was laid so far
  have hb27 : Below W2.heap.size W2 W7 := below_to (below_to HB5.out.1 HB6.out.1) hb7
  obtain ⟨X1, hX1⟩ : ∃ X1 : Nat → Prop, (fun b => (w.heap.size ≤ b ∧ b < w.heap.size + 3) ∨ (W2.heap.size ≤ b ∧ b < W7.heap.size)) = X1 := ⟨_, rfl⟩
  have HK7 : Hid (KR w X1 g 0 (grw (sm7 x) Bs Bs.length) W7) := HK2.out.more hb27 fun b hb => by
    rw [← hX1] at hb
    exact hb.imp id And.left
  have HX1 : Hid (∀ b, X1 b ↔ (w.heap.size ≤ b ∧ b < w.heap.size + 3) ∨ (W2.heap.size ≤ b ∧ b < W7.heap.size)) := fun b => by rw [← hX1]
  have HB7 : Hid (Bk W7 (w.heap.size + 1) #[.int .i64 parts] 3 ∧ Bk W7 (w.heap.size + 2) #[.bool false] 4 ∧ Bk W7 W2.heap.size #[.pointer (some ⟨g, 0, none⟩)] 25 ∧ Bk W7 W5.heap.size #[.slice ua un uc] 29 ∧ LX X1 W7 (.slice ua un uc) Q) := by
    refine ⟨HB2.out.2.1.below hb27, HB2.out.2.2.below hb27, (HB5.out.2.below HB6.out.1).below hb7, HB6.out.2.below hb7, ((HLX.out.same HB6.out.1.size fun b _ hl => HB6.out.1.block b hl).same hs7 fun b _ hl => hb7.block b hl).mono fun b _ hb => ?_⟩
    rw [HX1.out]
    omega
  clear hfb hX1 hb7 hb27 HB2 HB5 HB6 HLX HK2
  have qF : ∀ (w : World), (binOp .eql 32 (fnd7 b1 b2 b3 b4 b5) .nilFunc).run Try.prog w = .ok (.bool false) w := by intro w; rfl
  have qG : ∀ (w : World) (x y : Operand), (eqGuard .eql 32 x y (fnd7 b1 b2 b3 b4 b5) .nilFunc).run Try.prog w = .ok () w := by intro w x y; rfl
  gi_wp2
  clear qF qG
  have c10 : W7.cell? ⟨W2.heap.size, 0, none⟩ = some (.pointer (some ⟨g, 0, none⟩)) := HB7.out.2.2.1.cell (i := 0) rfl
  have p4 : W2.heap.size < W7.heap.size := by omega
  have HWD := hm7 (wide7_any Any _ [-7, 5] (sm7 x) (W7.alloc (.cells #[.int .i64 (-7), .int .i64 5] 3)).drew ((li_two W7).same (Nat.le_refl _) fun _ _ _ => rfl) (by omega))
  have HLE : Hid (W7.heap.size ≤ (W7.alloc (.cells #[.int .i64 (-7), .int .i64 5] 3)).drew.heap.size) := by
    show W7.heap.size ≤ (W7.alloc _).heap.size
    simp
  have hXl7 : ∀ b, X1 b → w.heap.size ≤ b ∧ b < W7.heap.size := fun b hb => by rw [HX1.out] at hb; omega
  obtain ⟨s1, hs1⟩ : ∃ s1, ad7 (grw (sm7 x) Bs Bs.length) (wd7 (sm7 x) [-7, 5]) = s1 := ⟨_, rfl⟩
  have HGL : Hid ((grw (sm7 x) Bs Bs.length).rows.length ≤ 1048576) := by
    have h1 := grw_len (sm7 x) Bs Bs.length (Nat.le_refl _)
    have h2 := tot7_le Bs Bs.length
    show _ ≤ _
    omega
  have HADD : Hid (∀ (W9 : World) (r1 : Value), Below W7.heap.size W7 W9 → OwI W9 W7.heap.size r1 (wd7 (sm7 x) [-7, 5]) → Calls Try.prog 16 #[.pointer (some ⟨g, 0, none⟩), r1] W9 fun e w' => (∃ t0, e = .returned (.tuple #[.bool t0, .int .i64 0])) ∧ KR w X1 g 0 s1 w' ∧ ∀ b, X1 b → w'.heap[b]? = W7.heap[b]?) := fun W9 r1 h9 ho => by
    refine ((HK7.out.below h9).add (fun b hb => by have := (hXl7 b hb).2; have := h9.size; omega) (ho.li (wd7_w (by intro y hy; simp at hy; rcases hy with rfl | rfl <;> rfl))) (by rw [wd7_len, grw_wd]) (by rw [wd7_len]; omega) (by have := HGL.out; omega)).mono ?_
    rintro e w' ⟨rfl, k1, k2⟩
    refine ⟨⟨_, rfl⟩, by rw [← hs1]; exact k1, fun b hb => ?_⟩
    have := (hXl7 b hb).2
    have := h9.size
    rw [k2.x hb (by omega), h9.block b (by omega)]
  refine wpIn_mono (Q := NQ fun a' W' => (a'.tmps.size = 112 ∧ a'.tmps[0]? = some (.int .i64 x) ∧ a'.tmps[1]? = some (.slice va vn vc) ∧ a'.tmps[2]? = some (.agg #[.slice ma mn mc]) ∧ a'.tmps[3]? = some (.int .i64 parts) ∧ a'.tmps[4]? = some (undef) ∧ a'.tmps[5]? = some (undef) ∧ a'.tmps[6]? = some (.pointer (some ⟨w.heap.size, 0, none⟩)) ∧ a'.tmps[7]? = some (.pointer (some ⟨w.heap.size + 1, 0, none⟩)) ∧ a'.tmps[8]? = some (.pointer (some ⟨w.heap.size + 1 + 1, 0, none⟩)) ∧ a'.tmps[9]? = some (.int .i64 (sm7 x : Int)) ∧ a'.tmps[10]? = some (.pointer (some ⟨W2.heap.size, 0, none⟩)) ∧ a'.tmps[11]? = some (.bool true) ∧ a'.tmps[12]? = some (.pointer (some ⟨W5.heap.size, 0, none⟩)) ∧ a'.tmps[13]? = some (fnd7 b1 b2 b3 b4 b5) ∧ a'.defers = []) ∧ KR w X1 g 0 s1 W' ∧ ∀ b, X1 b → W'.heap[b]? = W7.heap[b]?) ?_ ?_
  · have hf1 : ∀ i, Fence.wide.fn i := fun _ => trivial
    have hf2 : Fence.wide.depth = none := rfl
    gi_region_with (first | (gi_at_call 17; refine (callsIn_wide.2 HWD.out).mono ?_; rintro e W9 ⟨r1, rfl, ho9, hb9⟩; obtain ⟨ra, rc, hr1, -⟩ := row7_form ho9; rw [wd7_len] at hr1; subst hr1; have hb9' : Below W7.heap.size W7 W9 := (below1 W7 (.cells #[.int .i64 (-7), .int .i64 5] 3)).drew.trans (hb9.mono HLE.out); have c10' : W9.cell? ⟨W2.heap.size, 0, none⟩ = some (.pointer (some ⟨g, 0, none⟩)) := (HB7.out.2.2.1.below hb9').cell (i := 0) rfl; have HO9 := hm7 ho9; have HB9 := hm7 hb9'; clear ho9 hb9 hb9') | (gi_at_call 16; refine (callsIn_wide.2 (HADD.out _ _ HB9.out (HO9.out.mono HLE.out))).mono ?_; rintro e W10 ⟨⟨t0, rfl⟩, k1, k2⟩))
    all_goals exact ⟨⟨rfl, rfl, rfl, rfl, rfl, rfl, rfl, rfl, rfl, rfl, rfl, rfl, rfl, rfl, rfl, rfl⟩, k1, k2⟩
  intro e a9 W10 hq
  cases e <;> first | exact hq.elim | skip
  obtain ⟨hac, hk10, hx10⟩ := hq
  obtain ⟨tmps, defers⟩ := a9
  obtain ⟨f, hf⟩ : ∃ f : Nat → Value, tmps = #[.int .i64 x, .slice va vn vc, .agg #[.slice ma mn mc], .int .i64 parts, undef, undef, .pointer (some ⟨w.heap.size, 0, none⟩), .pointer (some ⟨w.heap.size + 1, 0, none⟩), .pointer (some ⟨w.heap.size + 1 + 1, 0, none⟩), .int .i64 (sm7 x : Int), .pointer (some ⟨W2.heap.size, 0, none⟩), .bool true, .pointer (some ⟨W5.heap.size, 0, none⟩), fnd7 b1 b2 b3 b4 b5, f 14, f 15, f 16, f 17, f 18, f 19, f 20, f 21, f 22, f 23, f 24, f 25, f 26, f 27, f 28, f 29, f 30, f 31, f 32, f 33, f 34, f 35, f 36, f 37, f 38, f 39, f 40, f 41, f 42, f 43, f 44, f 45, f 46, f 47, f 48, f 49, f 50, f 51, f 52, f 53, f 54, f 55, f 56, f 57, f 58, f 59, f 60, f 61, f 62, f 63, f 64, f 65, f 66, f 67, f 68, f 69, f 70, f 71, f 72, f 73, f 74, f 75, f 76, f 77, f 78, f 79, f 80, f 81, f 82, f 83, f 84, f 85, f 86, f 87, f 88, f 89, f 90, f 91, f 92, f 93, f 94, f 95, f 96, f 97, f 98, f 99, f 100, f 101, f 102, f 103, f 104, f 105, f 106, f 107, f 108, f 109, f 110, f 111] := by
    obtain ⟨hn, t0, t1, t2, t3, t4, t5, t6, t7, t8, t9, t10, t11, t12, t13, -⟩ := hac
    obtain ⟨f, hf, hi⟩ := arr_of 112 tmps hn
    refine ⟨f, ?_⟩
    have e : ∀ (i : Nat) (v : Value), i < 112 → tmps[i]? = some v → f i = v := fun i v h1 h2 => Option.some.inj ((hi i h1).symm.trans h2)
    rw [hf, show (List.range 112).map f = [f 0, f 1, f 2, f 3, f 4, f 5, f 6, f 7, f 8, f 9, f 10, f 11, f 12, f 13, f 14, f 15, f 16, f 17, f 18, f 19, f 20, f 21, f 22, f 23, f 24, f 25, f 26, f 27, f 28, f 29, f 30, f 31, f 32, f 33, f 34, f 35, f 36, f 37, f 38, f 39, f 40, f 41, f 42, f 43, f 44, f 45, f 46, f 47, f 48, f 49, f 50, f 51, f 52, f 53, f 54, f 55, f 56, f 57, f 58, f 59, f 60, f 61, f 62, f 63, f 64, f 65, f 66, f 67, f 68, f 69, f 70, f 71, f 72, f 73, f 74, f 75, f 76, f 77, f 78, f 79, f 80, f 81, f 82, f 83, f 84, f 85, f 86, f 87, f 88, f 89, f 90, f 91, f 92, f 93, f 94, f 95, f 96, f 97, f 98, f 99, f 100, f 101, f 102, f 103, f 104, f 105, f 106, f 107, f 108, f 109, f 110, f 111] from rfl, e 0 _ (by decide) t0, e 1 _ (by decide) t1, e 2 _ (by decide) t2, e 3 _ (by decide) t3, e 4 _ (by decide) t4, e 5 _ (by decide) t5, e 6 _ (by decide) t6, e 7 _ (by decide) t7, e 8 _ (by decide) t8, e 9 _ (by decide) t9, e 10 _ (by decide) t10, e 11 _ (by decide) t11, e 12 _ (by decide) t12, e 13 _ (by decide) t13]
  obtain rfl : defers = [] := by have := hac; simp only at this; exact this.2.2.2.2.2.2.2.2.2.2.2.2.2.2.2
  clear hac
  subst hf
  have HK10 := hm7 hk10
  have HX10 := hm7 hx10
  have hs10 : W7.heap.size ≤ W10.heap.size := by
    have h1 := HX10.out (W7.heap.size - 1) (by rw [HX1.out]; omega)
    have h2 : (W7.heap.size - 1) < W7.heap.size := by omega
    rw [Array.getElem?_eq_getElem h2] at h1
    have := (Array.getElem?_eq_some_iff.1 h1).1
    omega
  have c7 : W10.cell? ⟨w.heap.size + 1, 0, none⟩ = some (.int .i64 parts) := (HB7.out.1.same (hx10 _ (by rw [HX1.out]; omega))).cell (i := 0) rfl
  have c10b : W10.cell? ⟨W2.heap.size, 0, none⟩ = some (.pointer (some ⟨g, 0, none⟩)) := (HB7.out.2.2.1.same (hx10 _ (by rw [HX1.out]; omega))).cell (i := 0) rfl
  clear hk10 hx10 c10 HWD HADD HK7 HLE
  have hX10 : ∀ b, X1 b → b < W10.heap.size := fun b hb => by have := (hXl7 b hb).2; omega
  have HRW := hm7 (HK10.out.rows hX10 parts (by omega))
  gi_wp2
  refine ⟨trivial, fun h => (by cases h), (callsIn_wide.2 HRW.out).mono ?_⟩
  clear HRW c7 c10b
  rintro e W11 ⟨u2, rfl, Q2, B2, hol2, hB2, hq2, hk11, hf11⟩
  obtain ⟨ua2, uc2, hu2, -⟩ := row7_form hol2.o
  obtain ⟨un2, hun2'⟩ : ∃ un, Q2.length = un := ⟨_, rfl⟩
  rw [hun2'] at hu2
  subst hu2
  have hs11 := hf11.size
  have HUN2 := hm7 hun2'
  have HQ2 := hm7 hq2
  obtain ⟨W13, hW13⟩ : ∃ W13, (W11.alloc (.cells #[.slice ua2 un2 uc2] 29)).alloc (.cells #[.int .i64 0] 3) = W13 := ⟨_, rfl⟩
  have hz13 : W13.heap.size = W11.heap.size + 2 := by rw [← hW13]; simp
  have hb13 : Below W11.heap.size W11 W13 := by rw [← hW13]; exact below2 _ _ _
  obtain ⟨X3, hX3⟩ : ∃ X3 : Nat → Prop, (fun b => (X1 b ∨ (B2 ≤ b ∧ b < W11.heap.size)) ∨ b = W11.heap.size ∨ b = W11.heap.size + 1) = X3 := ⟨_, rfl⟩
  have HX3 : Hid (∀ b, X3 b ↔ (X1 b ∨ (B2 ≤ b ∧ b < W11.heap.size)) ∨ b = W11.heap.size ∨ b = W11.heap.size + 1) := fun b => by rw [← hX3]
  have HK13 : Hid (KR w X3 g 1 s1 W13) := hk11.more hb13 fun b hb => by
    rw [HX3.out] at hb
    exact hb.imp id (by omega)
  have hX3l : ∀ b, X3 b → w.heap.size ≤ b ∧ b < W13.heap.size := fun b hb => by
    rw [HX3.out] at hb
    rcases hb with (hb | hb) | hb
    · have := hXl7 b hb; omega
    · omega
    · omega
  have hsm : ∀ b, X1 b → W13.heap[b]? = W7.heap[b]? := fun b hb => by
    have h1 := hX10 b hb
    rw [hb13.block b (by omega), hf11.x hb h1, HX10.out b hb]
  have HB13 : Hid ((Bk W13 (w.heap.size + 1) #[.int .i64 parts] 3 ∧ Bk W13 (w.heap.size + 2) #[.bool false] 4 ∧ Bk W13 W2.heap.size #[.pointer (some ⟨g, 0, none⟩)] 25 ∧ Bk W13 W5.heap.size #[.slice ua un uc] 29 ∧ LX (fun b => X3 b ∧ b ≠ W11.heap.size + 1) W13 (.slice ua un uc) Q) ∧ Bk W13 W11.heap.size #[.slice ua2 un2 uc2] 29 ∧ Bk W13 (W11.heap.size + 1) #[.int .i64 ((0 : Nat) : Int)] 3 ∧ LX (fun b => X3 b ∧ b ≠ W11.heap.size + 1) W13 (.slice ua2 un2 uc2) Q2) := by
    have e1 : Bk W13 W11.heap.size #[.slice ua2 un2 uc2] 29 := by rw [← hW13]; exact (Bk.new _ _ _).below (below1 _ _)
    have e2 : Bk W13 (W11.heap.size + 1) #[.int .i64 ((0 : Nat) : Int)] 3 := by
      have := Bk.new (W11.alloc (.cells #[.slice ua2 un2 uc2] 29)) #[.int .i64 0] 3
      rw [World.size_alloc, hW13] at this
      exact this
    refine ⟨⟨HB7.out.1.same (hsm _ (by rw [HX1.out]; omega)), HB7.out.2.1.same (hsm _ (by rw [HX1.out]; omega)), HB7.out.2.2.1.same (hsm _ (by rw [HX1.out]; omega)), HB7.out.2.2.2.1.same (hsm _ (by rw [HX1.out]; omega)), (HB7.out.2.2.2.2.same (by omega) fun b hb _ => hsm b hb).mono fun b _ hb => ?_⟩, e1, e2, (hol2.lx.same hb13.size fun b _ hl => hb13.block b hl).mono fun b _ hb => ⟨?_, by omega⟩⟩
    · exact ⟨by rw [HX3.out]; exact Or.inl (Or.inl hb), by have := (hXl7 b hb).2; omega⟩
    · rw [HX3.out]; exact Or.inl (Or.inr hb)
  have HF13 : Hid (FB W13 g parts (.slice none 0 0) (.slice none 0 0) b1 b2 b3 b4 b5) := by
    have hh := HFB.out
    have k1 := hh.p.lt
    have k2 := hh.r.lt
    have k3 := hh.q.lt
    have k4 := hh.s.lt
    have k5 := hh.n.lt
    exact ⟨hh.p.same (hsm _ (by rw [HX1.out]; omega)), hh.r.same (hsm _ (by rw [HX1.out]; omega)), hh.q.same (hsm _ (by rw [HX1.out]; omega)), hh.s.same (hsm _ (by rw [HX1.out]; omega)), hh.n.same (hsm _ (by rw [HX1.out]; omega))⟩
  have HW13 := hm7 hW13
  clear hol2 hq2 hk11 hf11 hun2' hW13 hX3 HB7 HX10 HK10 HFB
  gi_wp2
  rw [HW13.out]
  clear HW13 hsm hb13
  obtain ⟨F, S, k1, k2, k3⟩ := HK13.out
  have HAX : Hid (AMX w W13 X3 S (W11.heap.size + 1)) := ⟨hX3l, fun b hb => ⟨k1.q2 b hb, (k2 b (Or.inr hb)).2⟩, by rw [HX3.out]; exact Or.inr (Or.inr rfl)⟩
  have HFS : Hid (∀ b, F b ∨ S b → b < W13.heap.size) := fun b hb => hb.elim (fun h => (k1.q b h).2) (k1.q2 b)
  have HRM := hm7 (And.intro k1 (And.intro k2 k3))
  have hs1w : s1.wd = sm7 x := by rw [← hs1, (ad7_wd _ _).1, grw_wd]
  have hs1l : s1.rows.length ≤ 1048577 := by have h1 := ad7_len (grw (sm7 x) Bs Bs.length) (wd7 (sm7 x) [-7, 5]); rw [hs1] at h1; have := HGL.out; omega
  have HS1 := hm7 (And.intro hs1w hs1l)
  have hmem : ∀ y ∈ Q2.map Prod.fst, y ∈ s1.rows := fun y hy => by rw [HQ2.out] at hy; exact sel_mem y ((srt7_perm _).mem_iff.1 hy)
  have hun3 : un2 ≤ 4000000 := by
    have h1 := congrArg List.length HQ2.out
    have h2 := HUN2.out
    simp at h1
    rw [(srt7_perm _).length_eq] at h1
    have h5 := sel_len s1.rows (pls7 s1 [] []) (sts7 s1 parts)
    have h6 := pls7_len k1.ok [] []
    have h7 := sts7_len s1 parts
    have h8 : (pls7 s1 [] []).length ≤ s1.rows.length := by rw [pls7_all]; simp [nat7]
    have := Nat.mul_le_mul h7 h8
    unfold sel7 at h1
    omega
  have HSW : Hid (∀ y ∈ Q2.map Prod.fst, w64 y ∧ y.length ≤ 5) := fun y hy => ⟨k1.ok.w y (hmem y hy), by rw [k1.ok.wid y (hmem y hy), hs1w]; exact hk5⟩
  have HSEQ := hm7 (find_seqY g F S (fun _ => False) (fun _ => False) 1 s1 parts [] [] (.slice none 0 0) (.slice none 0 0) b1 b2 b3 b4 b5 (Q2.map Prod.fst) (by rw [HQ2.out]; exact srt7_srt _) (by rw [HQ2.out]; exact srt7_perm _) (fun y hy => by have := (HSW.out y hy).2; omega) (by rw [List.length_map, HUN2.out]; omega) (by simp) (by simp) (by simp) (by omega))
  have HCL : Hid (∀ (U : World) (N B E j : Nat) (s' : St7), AMI w W13 (sm7 x) g 2 N X3 S (W11.heap.size + 1) B E j s' U → U.cell? ⟨W11.heap.size + 1, 0, none⟩ = some (.int .i64 (j : Int)) ∧ U.cell? ⟨W11.heap.size, 0, none⟩ = some (.slice ua2 un2 uc2) ∧ U.cell? ⟨W5.heap.size, 0, none⟩ = some (.slice ua un uc) ∧ U.cell? ⟨W2.heap.size, 0, none⟩ = some (.pointer (some ⟨g, 0, none⟩)) ∧ U.cell? ⟨w.heap.size + 1, 0, none⟩ = some (.int .i64 parts)) := fun U N B E j s' ha => by
    have q : ∀ b, X1 b → X3 b ∧ b ≠ W11.heap.size + 1 := fun b hb => ⟨by rw [HX3.out]; exact Or.inl (Or.inl hb), by have := (hXl7 b hb).2; omega⟩
    exact ⟨ha.n.cell (i := 0) rfl, (HB13.out.2.1.same (ha.f _ (Or.inl ⟨by rw [HX3.out]; exact Or.inr (Or.inl rfl), by omega⟩))).cell (i := 0) rfl, (HB13.out.1.2.2.2.1.same (ha.f _ (Or.inl (q _ (by rw [HX1.out]; omega))))).cell (i := 0) rfl, (HB13.out.1.2.2.1.same (ha.f _ (Or.inl (q _ (by rw [HX1.out]; omega))))).cell (i := 0) rfl, (HB13.out.1.1.same (ha.f _ (Or.inl (q _ (by rw [HX1.out]; omega))))).cell (i := 0) rfl⟩
  clear k1 k2 k3 hmem hs1w
  refine wpIn_seqY (gf := 32) (lb := #[.pointer (some ⟨b1, 0, none⟩), .pointer (some ⟨b2, 0, none⟩), .pointer (some ⟨b3, 0, none⟩), .pointer (some ⟨b4, 0, none⟩), .pointer (some ⟨b5, 0, none⟩)]) rfl (enters_of Try.func32 (by kernel_rfl) rfl) HSEQ.out rfl
    (fun B E pre W => ∃ s', AMI w W13 (sm7 x) g 2 1048577 X3 S (W11.heap.size + 1) B E pre.length s' W) (fun _ _ _ _ _ => False) ?ownI ?ownX ?start
    (fun B E pre xr z act W => (∃ s', AMI w W13 (sm7 x) g 2 1048577 X3 S (W11.heap.size + 1) B E pre.length s' W ∧ Li (fun b => E ≤ b) W z xr) ∧ act = { tmps := #[.int .i64 x, .slice va vn vc, .agg #[.slice ma mn mc], .int .i64 parts, undef, undef, .pointer (some ⟨w.heap.size, 0, none⟩), .pointer (some ⟨w.heap.size + 1, 0, none⟩), .pointer (some ⟨w.heap.size + 1 + 1, 0, none⟩), .int .i64 (sm7 x : Int), .pointer (some ⟨W2.heap.size, 0, none⟩), .bool true, .pointer (some ⟨W5.heap.size, 0, none⟩), fnd7 b1 b2 b3 b4 b5, .pointer (some ⟨W11.heap.size, 0, none⟩), .pointer (some ⟨W11.heap.size + 1, 0, none⟩), z, f 17, f 18, f 19, f 20, f 21, f 22, f 23, f 24, f 25, f 26, f 27, f 28, f 29, f 30, f 31, f 32, f 33, f 34, f 35, f 36, f 37, f 38, f 39, f 40, f 41, f 42, f 43, f 44, f 45, .pointer (some ⟨g, 0, none⟩), .int .i64 parts, .slice ua2 un2 uc2, fnd7 b1 b2 b3 b4 b5, z, f 51, f 52, f 53, f 54, f 55, f 56, f 57, f 58, f 59, f 60, f 61, f 62, f 63, f 64, f 65, f 66, f 67, f 68, f 69, f 70, f 71, f 72, f 73, f 74, f 75, f 76, f 77, f 78, f 79, f 80, f 81, f 82, f 83, f 84, f 85, f 86, f 87, f 88, f 89, f 90, f 91, f 92, f 93, f 94, f 95, f 96, f 97, f 98, f 99, f 100, f 101, f 102, f 103, f 104, f 105, f 106, f 107, f 108, f 109, f 110, f 111], defers := [] }) ?ownA ?assign ?body ?done ?stop
  case ownI =>
    rintro B E pre W o o' ⟨s', ha⟩ _ _
    exact ⟨s', ha.put HAX.out (by omega) _⟩
  case ownX =>
    rintro B E c pre W o o' h
    exact h.elim
  case ownA =>
    rintro B E pre xr z act _ W o o' ⟨⟨s', ha, hl⟩, he⟩ _ _
    have h1 := ha.b1
    have h2 := ha.b2
    exact ⟨⟨s', ha.put HAX.out (by omega) _, hl.same (by simp) fun b hb _ => World.putObj_heap_other (by omega)⟩, he⟩
  case start =>
    intro U1 hb1 hz
    refine ⟨⟨HF13.out.below hb1, HRM.out.1.below hb1, Li.nil _ _, by simp, Li.nil _ _, by simp⟩, ?_, ?_⟩
    · rintro B U2 ⟨F', q1, q2, q3, q4, q5, q6⟩
      rw [orF] at q1
      have hs := q2.size
      have hbx : ∀ b, b < W13.heap.size → ¬ F b → U2.heap[b]? = W13.heap[b]? := fun b hl hn => by rw [q2.block b (by omega) hn, hb1.block b hl]
      have hw0 := HRM.out.2.2.size
      refine ⟨⟨s1, ⟨F', S, q1, fun b hb => ?_, fun b hb => ?_, ?_⟩, HS1.out.1, by simpa using HS1.out.2, fun b hb => ?_, ?_, by omega, q6, Nat.le_refl _⟩, ?_, ?_⟩
      · obtain ⟨r1, r2⟩ := q4 b hb
        rcases r1 with r1 | r1
        · have h1 := HRM.out.2.1 b (Or.inl r1)
          have h2 := HFS.out b (Or.inl r1)
          have h3 := (HRM.out.1.q b r1).1
          refine ⟨h1.1, ?_⟩
          rintro ((hc | hc) | hc)
          · exact h1.2 hc
          · exact h3 hc
          · omega
        · refine ⟨by omega, ?_⟩
          rintro ((hc | hc) | hc)
          · have := (hX3l b hc).2; omega
          · have := HFS.out b (Or.inr hc); omega
          · omega
      · have h1 := HRM.out.2.1 b (Or.inr hb)
        have h2 := HFS.out b (Or.inr hb)
        refine ⟨h1.1, ?_⟩
        rintro (hc | hc)
        · exact h1.2 hc
        · omega
      · exact low7 (below_to HRM.out.2.2 hb1) q2 fun b hF => (HRM.out.2.1 b (Or.inl hF)).1
      · rcases hb with hb | hb
        · exact hbx b (hX3l b hb.1).2 fun hF => (HRM.out.2.1 b (Or.inl hF)).2 hb.1
        · exact hbx b (HFS.out b (Or.inr hb)) fun hF => (HRM.out.1.q b hF).1 hb
      · have h1 := hX3l _ HAX.out.n
        exact HB13.out.2.2.1.same (hbx _ h1.2 fun hF => (HRM.out.2.1 _ (Or.inl hF)).2 HAX.out.n)
      · exact q2.block _ (by omega) fun hF => by have := HFS.out _ (Or.inl hF); omega
      · exact q2.block _ (by omega) fun hF => by have := HFS.out _ (Or.inl hF); omega
    · rintro B E pre U2 ⟨s', ha⟩
      refine ⟨fun b hb => ?_, ha.b1⟩
      have hS : S b := hb.elim id False.elim
      rw [ha.f b (Or.inr hS), hb1.block b (HFS.out b (Or.inr hS))]
  case assign =>
    rintro l mm B E pre xr z U0 U K hpre ⟨s', ha⟩ hb hown hle hK
    have hli := (OwI.li hown (HSW.out xr (hpre.subset (by simp))).1).mono (G := fun b => E ≤ b) fun b _ hb => by have := ha.b3; omega
    have HA := hm7 (ha.below HAX.out hb)
    obtain ⟨za, zc, rfl, -⟩ := (show ∃ a c, z = .slice a xr.length c ∧ True by obtain ⟨a, c, e, -⟩ := hli; exact ⟨a, c, e, trivial⟩)
    have HLI := hm7 hli
    clear hli ha hown hb
    gi_wp2
    exact hK _ _ (Uz.refl _ _ _ _) ⟨⟨s', HA.out, HLI.out⟩, rfl⟩
  case body =>
    rintro l mm B E pre xr z act U hpre ⟨⟨s', ha, hl⟩, rfl⟩ hle
    have HA := hm7 ha
    have HLI := hm7 hl
    obtain ⟨za, zc, rfl, -⟩ := (show ∃ a c, z = .slice a xr.length c ∧ True by obtain ⟨a, c, e, -⟩ := hl; exact ⟨a, c, e, trivial⟩)
    generalize hzn : xr.length = zn at *
    have hpl : pre.length < un2 := by
      have h1 := hpre.length_le
      have h2 := HUN2.out
      simp at h1
      omega
    obtain ⟨p, hp, hpx⟩ : ∃ p, Q2[pre.length]? = some p ∧ p.1 = xr := by
      obtain ⟨t, ht⟩ := hpre
      have h1 : (Q2.map Prod.fst)[pre.length]? = some xr := by rw [← ht]; simp
      rw [List.getElem?_map] at h1
      cases hq : Q2[pre.length]? with
      | none => simp [hq] at h1
      | some p => exact ⟨p, rfl, by simpa [hq] using h1⟩
    have hlu : LX (fun b => X3 b ∧ b ≠ W11.heap.size + 1) U (.slice ua2 un2 uc2) Q2 := HB13.out.2.2.2.same (by have := ha.b1; have := ha.b2; have := ha.b3; omega) fun b hb _ => ha.f b (Or.inl hb)
    obtain ⟨ub, uo, hua, -, c4, hlp⟩ := hlu.rn.get hp
    have HSM := hm7 (same7_any Any Any xr p.1 _ p.2 U hl.any hlp)
    rw [decide_eq_true hpx.symm] at HSM
    obtain ⟨pa, pc, hpv, -⟩ := hlp
    generalize p.1.length = pn at hpv
    rw [hpv] at c4 HSM
    subst hua
    clear ha hl hpre hp hpx hpv hlu hzn
    obtain ⟨c15, c14, c12, c10, c7⟩ := HCL.out U _ _ _ _ _ HA.out
    have l1 : ¬ (un2 : Int) ≤ (pre.length : Int) := by omega
    have l2 : (pre.length : Int) < (un2 : Int) := by omega
    have l3 : (0 : Int) ≤ (pre.length : Int) := by omega
    have l4 : decide (un2 ≤ pre.length) = false := decide_eq_false (by omega)
    gi_wp2
    refine ⟨trivial, fun h => (by cases h), (CallsIn.inRound l (callsIn_wide.2 HSM.out)).mono ?_⟩
    rintro e U3 ⟨rfl, n5, rfl⟩
    have HA3 := hm7 (HA.out.below HAX.out (below_dn7 _ n5))
    have HL3 : Hid (Lv w W13 X3 S (W11.heap.size + 1) B E U (U.drewN n5)) := Lv.below (below_dn7 _ n5)
    clear HSM c4 c15 c14 c12 c10 c7
    by_cases hnl : pre.length < un
    · have l5 : (pre.length : Int) < (un : Int) := by omega
      have l6 : decide (pre.length < un) = true := decide_eq_true hnl
      obtain ⟨q, hq⟩ : ∃ q, Q[pre.length]? = some q := ⟨_, List.getElem?_eq_getElem (by rw [HUN.out]; exact hnl)⟩
      have hlu : LX (fun b => X3 b ∧ b ≠ W11.heap.size + 1) U (.slice ua un uc) Q := HB13.out.1.2.2.2.2.same (by have := HA.out.b1; have := HA.out.b2; have := HA.out.b3; omega) fun b hb _ => HA.out.f b (Or.inl hb)
      obtain ⟨qb, qo, hua2, -, c5, hlq⟩ := hlu.rn.get hq
      have hqw : q.1.length = sm7 x := by
        have h1 : q.1 ∈ Q.map Prod.fst := List.mem_map_of_mem (List.mem_of_getElem? hq)
        rw [HQM.out, List.mem_map] at h1
        obtain ⟨t, -, ht⟩ := h1
        rw [← ht]; exact wd7_len _ _
      have HAD : Hid (∀ V : World, Below (U.drewN n5).heap.size (U.drewN n5) V → Calls Try.prog 16 #[.pointer (some ⟨g, 0, none⟩), q.2] V fun e w' => (∃ t0, e = .returned (.tuple #[.bool t0, .int .i64 0])) ∧ KR2 w (AXF X3 S W13.heap.size B E) (AXS X3 W13.heap.size B E) g 2 (ad7 s' q.1) w' ∧ Fx w (AXF X3 S W13.heap.size B E) (U.drewN n5) w') := fun V hV => by
        refine ((HA3.out.r.below hV).add (fun b hb => Nat.lt_of_lt_of_le (HAX.out.lt HA3.out.b1 HA3.out.b2 HA3.out.b3 b hb) hV.size) ((hlq.drewN n5).below hV) (by rw [hqw, HA3.out.wd]) (by omega) (by have := HA3.out.l; omega)).mono ?_
        rintro e w' ⟨rfl, r1, r2⟩
        exact ⟨⟨_, rfl⟩, r1, (Fx.of hV).tr r2⟩
      obtain ⟨pa2, pc2, hpv, -⟩ := hlq
      clear hqw
      generalize q.1.length = pn2 at hpv
      rw [hpv] at c5 HAD
      subst hua2
      clear hlu hpv
      obtain ⟨c15, c14, c12, c10, c7⟩ := HCL.out U _ _ _ _ _ HA.out
      gi_wp2
      refine wpIn_mono (Q := NQ fun a' W' => (a'.tmps.size = 112 ∧ a'.tmps[0]? = some (.int .i64 x) ∧ a'.tmps[1]? = some (.slice va vn vc) ∧ a'.tmps[2]? = some (.agg #[.slice ma mn mc]) ∧ a'.tmps[3]? = some (.int .i64 parts) ∧ a'.tmps[4]? = some (undef) ∧ a'.tmps[5]? = some (undef) ∧ a'.tmps[6]? = some (.pointer (some ⟨w.heap.size, 0, none⟩)) ∧ a'.tmps[7]? = some (.pointer (some ⟨w.heap.size + 1, 0, none⟩)) ∧ a'.tmps[8]? = some (.pointer (some ⟨w.heap.size + 1 + 1, 0, none⟩)) ∧ a'.tmps[9]? = some (.int .i64 (sm7 x : Int)) ∧ a'.tmps[10]? = some (.pointer (some ⟨W2.heap.size, 0, none⟩)) ∧ a'.tmps[11]? = some (.bool true) ∧ a'.tmps[12]? = some (.pointer (some ⟨W5.heap.size, 0, none⟩)) ∧ a'.tmps[13]? = some (fnd7 b1 b2 b3 b4 b5) ∧ a'.tmps[14]? = some (.pointer (some ⟨W11.heap.size, 0, none⟩)) ∧ a'.tmps[15]? = some (.pointer (some ⟨W11.heap.size + 1, 0, none⟩)) ∧ a'.defers = []) ∧ KR2 w (AXF X3 S W13.heap.size B E) (AXS X3 W13.heap.size B E) g 2 (ad7 s' q.1) W' ∧ Fx w (AXF X3 S W13.heap.size B E) (U.drewN n5) W') ?_ ?_
      · have hf1 : ∀ i, Fence.wide.fn i := fun _ => trivial
        have hf2 : Fence.wide.depth = none := rfl
        gi_region_with (gi_at_call 16; refine (CallsIn.inRound l (callsIn_wide.2 (HAD.out _ (by exact ⟨rfl, rfl, rfl, Nat.le_refl _, fun _ _ => rfl⟩)))).mono ?_; rintro e W10 ⟨⟨t0, rfl⟩, k1, k2⟩)
        all_goals exact ⟨⟨rfl, rfl, rfl, rfl, rfl, rfl, rfl, rfl, rfl, rfl, rfl, rfl, rfl, rfl, rfl, rfl, rfl, rfl⟩, k1, k2⟩
      clear c15 c14 c12 c10 c7 c5 HAD
      intro e a7 U7 hq7
      cases e <;> first | exact hq7.elim | skip
      obtain ⟨hac, hk7, hf7⟩ := hq7
      obtain ⟨tmps, defers⟩ := a7
      obtain ⟨f2, hf⟩ : ∃ f2 : Nat → Value, tmps = #[.int .i64 x, .slice va vn vc, .agg #[.slice ma mn mc], .int .i64 parts, undef, undef, .pointer (some ⟨w.heap.size, 0, none⟩), .pointer (some ⟨w.heap.size + 1, 0, none⟩), .pointer (some ⟨w.heap.size + 1 + 1, 0, none⟩), .int .i64 (sm7 x : Int), .pointer (some ⟨W2.heap.size, 0, none⟩), .bool true, .pointer (some ⟨W5.heap.size, 0, none⟩), fnd7 b1 b2 b3 b4 b5, .pointer (some ⟨W11.heap.size, 0, none⟩), .pointer (some ⟨W11.heap.size + 1, 0, none⟩), f2 16, f2 17, f2 18, f2 19, f2 20, f2 21, f2 22, f2 23, f2 24, f2 25, f2 26, f2 27, f2 28, f2 29, f2 30, f2 31, f2 32, f2 33, f2 34, f2 35, f2 36, f2 37, f2 38, f2 39, f2 40, f2 41, f2 42, f2 43, f2 44, f2 45, f2 46, f2 47, f2 48, f2 49, f2 50, f2 51, f2 52, f2 53, f2 54, f2 55, f2 56, f2 57, f2 58, f2 59, f2 60, f2 61, f2 62, f2 63, f2 64, f2 65, f2 66, f2 67, f2 68, f2 69, f2 70, f2 71, f2 72, f2 73, f2 74, f2 75, f2 76, f2 77, f2 78, f2 79, f2 80, f2 81, f2 82, f2 83, f2 84, f2 85, f2 86, f2 87, f2 88, f2 89, f2 90, f2 91, f2 92, f2 93, f2 94, f2 95, f2 96, f2 97, f2 98, f2 99, f2 100, f2 101, f2 102, f2 103, f2 104, f2 105, f2 106, f2 107, f2 108, f2 109, f2 110, f2 111] := by
        obtain ⟨hn, t0, t1, t2, t3, t4, t5, t6, t7, t8, t9, t10, t11, t12, t13, t14, t15, -⟩ := hac
        obtain ⟨f, hf, hi⟩ := arr_of 112 tmps hn
        refine ⟨f, ?_⟩
        have e : ∀ (i : Nat) (v : Value), i < 112 → tmps[i]? = some v → f i = v := fun i v h1 h2 => Option.some.inj ((hi i h1).symm.trans h2)
        rw [hf, show (List.range 112).map f = [f 0, f 1, f 2, f 3, f 4, f 5, f 6, f 7, f 8, f 9, f 10, f 11, f 12, f 13, f 14, f 15, f 16, f 17, f 18, f 19, f 20, f 21, f 22, f 23, f 24, f 25, f 26, f 27, f 28, f 29, f 30, f 31, f 32, f 33, f 34, f 35, f 36, f 37, f 38, f 39, f 40, f 41, f 42, f 43, f 44, f 45, f 46, f 47, f 48, f 49, f 50, f 51, f 52, f 53, f 54, f 55, f 56, f 57, f 58, f 59, f 60, f 61, f 62, f 63, f 64, f 65, f 66, f 67, f 68, f 69, f 70, f 71, f 72, f 73, f 74, f 75, f 76, f 77, f 78, f 79, f 80, f 81, f 82, f 83, f 84, f 85, f 86, f 87, f 88, f 89, f 90, f 91, f 92, f 93, f 94, f 95, f 96, f 97, f 98, f 99, f 100, f 101, f 102, f 103, f 104, f 105, f 106, f 107, f 108, f 109, f 110, f 111] from rfl, e 0 _ (by decide) t0, e 1 _ (by decide) t1, e 2 _ (by decide) t2, e 3 _ (by decide) t3, e 4 _ (by decide) t4, e 5 _ (by decide) t5, e 6 _ (by decide) t6, e 7 _ (by decide) t7, e 8 _ (by decide) t8, e 9 _ (by decide) t9, e 10 _ (by decide) t10, e 11 _ (by decide) t11, e 12 _ (by decide) t12, e 13 _ (by decide) t13, e 14 _ (by decide) t14, e 15 _ (by decide) t15]
      obtain rfl : defers = [] := by have := hac; simp only at this; exact this.2.2.2.2.2.2.2.2.2.2.2.2.2.2.2.2.2
      clear hac
      subst hf
      have HA7 := hm7 (HA3.out.step (N' := 1048577 + 1) HAX.out hk7 hf7 (by rw [(ad7_wd _ _).1]; exact HA3.out.wd) (by have h1 := ad7_len s' q.1; have h2 := HA3.out.l; omega))
      have HL7 := hm7 (HL3.out.tr (Lv.of hf7))
      clear hk7 hf7
      by_cases hod : (pre.length : Int) % 2 = 1
      · have o1 : (((pre.length : Int) % 2) == 1) = true := by simpa using hod
        have o2 : Int.tmod (pre.length : Int) 2 = 1 := by rw [Int.tmod_eq_emod_of_nonneg (by omega)]; exact hod
        obtain ⟨c15, c14, c12, c10, c7⟩ := HCL.out U7 _ _ _ _ _ HA7.out
        have HTU := hm7 HA7.out.r.turn
        gi_wp2
        refine ⟨trivial, fun h => (by cases h), (CallsIn.inRound l (callsIn_wide.2 HTU.out)).mono ?_⟩
        rintro e U8 ⟨rfl, hk8, hf8⟩
        have HA8 := hm7 (HA7.out.step HAX.out hk8 hf8 HA7.out.wd HA7.out.l)
        have HL8 := hm7 (HL7.out.tr (Lv.of hf8))
        clear HTU hk8 hf8 c15 c14 c12 c10 c7
        obtain ⟨c15, c14, c12, c10, c7⟩ := HCL.out U8 _ _ _ _ _ HA8.out
        have HLN := hm7 (HA8.out.r.len parts)
        gi_wp2
        refine ⟨trivial, fun h => (by cases h), (CallsIn.inRound l (callsIn_wide.2 HLN.out)).mono ?_⟩
        rintro e U9 ⟨rfl, hb9⟩
        have HA9 := hm7 (HA8.out.below HAX.out hb9)
        have HL9 := hm7 (HL8.out.tr (Lv.below hb9))
        clear HLN hb9 c15 c14 c12 c10 c7
        obtain ⟨c15, c14, c12, c10, c7⟩ := HCL.out U9 _ _ _ _ _ HA9.out
        have d0 := HA9.out.n.froz 0
        have d1 := HA9.out.n.lt
        gi_wp2
        have hst := HA9.out.set HAX.out
        refine ⟨(HL9.out.tr hst.2).uz HAX.out HA9.out.b1, Turn7 (ad7 s' q.1), ?_⟩
        rw [List.length_append, List.length_singleton]
        exact hst.1
      · have o1 : (((pre.length : Int) % 2) == 1) = false := by simpa using hod
        have o2 : Int.tmod (pre.length : Int) 2 = 0 := by rw [Int.tmod_eq_emod_of_nonneg (by omega)]; omega
        obtain ⟨c15, c14, c12, c10, c7⟩ := HCL.out U7 _ _ _ _ _ HA7.out
        have HLN := hm7 (HA7.out.r.len parts)
        gi_wp2
        refine ⟨trivial, fun h => (by cases h), (CallsIn.inRound l (callsIn_wide.2 HLN.out)).mono ?_⟩
        rintro e U9 ⟨rfl, hb9⟩
        have HA9 := hm7 (HA7.out.below HAX.out hb9)
        have HL9 := hm7 (HL7.out.tr (Lv.below hb9))
        clear HLN hb9 c15 c14 c12 c10 c7
        obtain ⟨c15, c14, c12, c10, c7⟩ := HCL.out U9 _ _ _ _ _ HA9.out
        have d0 := HA9.out.n.froz 0
        have d1 := HA9.out.n.lt
        gi_wp2
        have hst := HA9.out.set HAX.out
        refine ⟨(HL9.out.tr hst.2).uz HAX.out HA9.out.b1, ad7 s' q.1, ?_⟩
        rw [List.length_append, List.length_singleton]
        exact hst.1

    · have l5 : ¬ (pre.length : Int) < (un : Int) := by omega
      have l6 : decide (pre.length < un) = false := decide_eq_false hnl
      have HA4 := hm7 (HA3.out.up (N' := 1048577 + 1) (by omega))
      by_cases hod : (pre.length : Int) % 2 = 1
      · have o1 : (((pre.length : Int) % 2) == 1) = true := by simpa using hod
        have o2 : Int.tmod (pre.length : Int) 2 = 1 := by rw [Int.tmod_eq_emod_of_nonneg (by omega)]; exact hod
        obtain ⟨c15, c14, c12, c10, c7⟩ := HCL.out (U.drewN n5) _ _ _ _ _ HA4.out
        have HTU := hm7 HA4.out.r.turn
        gi_wp2
        refine ⟨trivial, fun h => (by cases h), (CallsIn.inRound l (callsIn_wide.2 HTU.out)).mono ?_⟩
        rintro e U8 ⟨rfl, hk8, hf8⟩
        have HA8 := hm7 (HA4.out.step HAX.out hk8 hf8 HA4.out.wd HA4.out.l)
        have HL8 := hm7 (HL3.out.tr (Lv.of hf8))
        clear HTU hk8 hf8 c15 c14 c12 c10 c7
        obtain ⟨c15, c14, c12, c10, c7⟩ := HCL.out U8 _ _ _ _ _ HA8.out
        have HLN := hm7 (HA8.out.r.len parts)
        gi_wp2
        refine ⟨trivial, fun h => (by cases h), (CallsIn.inRound l (callsIn_wide.2 HLN.out)).mono ?_⟩
        rintro e U9 ⟨rfl, hb9⟩
        have HA9 := hm7 (HA8.out.below HAX.out hb9)
        have HL9 := hm7 (HL8.out.tr (Lv.below hb9))
        clear HLN hb9 c15 c14 c12 c10 c7
        obtain ⟨c15, c14, c12, c10, c7⟩ := HCL.out U9 _ _ _ _ _ HA9.out
        have d0 := HA9.out.n.froz 0
        have d1 := HA9.out.n.lt
        gi_wp2
        have hst := HA9.out.set HAX.out
        refine ⟨(HL9.out.tr hst.2).uz HAX.out HA9.out.b1, Turn7 (s'), ?_⟩
        rw [List.length_append, List.length_singleton]
        exact hst.1
      · have o1 : (((pre.length : Int) % 2) == 1) = false := by simpa using hod
        have o2 : Int.tmod (pre.length : Int) 2 = 0 := by rw [Int.tmod_eq_emod_of_nonneg (by omega)]; omega
        obtain ⟨c15, c14, c12, c10, c7⟩ := HCL.out (U.drewN n5) _ _ _ _ _ HA4.out
        have HLN := hm7 (HA4.out.r.len parts)
        gi_wp2
        refine ⟨trivial, fun h => (by cases h), (CallsIn.inRound l (callsIn_wide.2 HLN.out)).mono ?_⟩
        rintro e U9 ⟨rfl, hb9⟩
        have HA9 := hm7 (HA4.out.below HAX.out hb9)
        have HL9 := hm7 (HL3.out.tr (Lv.below hb9))
        clear HLN hb9 c15 c14 c12 c10 c7
        obtain ⟨c15, c14, c12, c10, c7⟩ := HCL.out U9 _ _ _ _ _ HA9.out
        have d0 := HA9.out.n.froz 0
        have d1 := HA9.out.n.lt
        gi_wp2
        have hst := HA9.out.set HAX.out
        refine ⟨(HL9.out.tr hst.2).uz HAX.out HA9.out.b1, s', ?_⟩
        rw [List.length_append, List.length_singleton]
        exact hst.1
  case stop =>
    rintro B E D c pre W rfl hpre h
    exact h.elim
  case done =>
    rintro B E D U hD ⟨s', ha⟩ hdf
    rw [List.length_map, HUN2.out] at ha
    have HA := hm7 ha
    have HDD := hm7 hD
    have HDF := hm7 hdf
    have hb1 := ha.b1
    have hb2 := ha.b2
    have hb3 := ha.b3
    clear ha hD hdf
    obtain ⟨c15, c14, c12, c10, c7⟩ := HCL.out U _ _ _ _ _ HA.out
    obtain ⟨X4, hX4⟩ : ∃ X4 : Nat → Prop, (fun b => X3 b ∨ b = D) = X4 := ⟨_, rfl⟩
    have HX4 : Hid (∀ b, X4 b ↔ X3 b ∨ b = D) := fun b => by rw [← hX4]
    have HKU : Hid (KR w X4 g 2 s' U) := HA.out.r.kr (fun b hb => by
      rw [HX4.out] at hb
      rcases hb with hb | hb
      · exact Or.inl (Or.inl hb)
      · exact Or.inr (Or.inl (by have := HDD.out; omega))) fun b hb => by
      rw [HX4.out] at hb
      rcases hb with hb | hb
      · exact Or.inl hb
      · exact Or.inr (Or.inl (by have := HDD.out; omega))
    have hX4l : ∀ b, X4 b → w.heap.size ≤ b ∧ b < U.heap.size := fun b hb => by
      rw [HX4.out] at hb
      have hd := HDD.out
      rcases hb with hb | hb
      · have := hX3l b hb; omega
      · omega
    have HRW := hm7 (HKU.out.rows (fun b hb => (hX4l b hb).2) parts (by omega))
    have l0 : ((un2 : Int) == (un2 : Int)) = true := by simp
    gi_wp2
    refine ⟨trivial, fun h => (by cases h), (callsIn_wide.2 HRW.out).mono ?_⟩
    clear HRW c15 c14 c12 c10 c7 l0
    rintro e W14 ⟨u3, rfl, Q3, B3, hol3, hB3, hq3, hk14, hf14⟩
    obtain ⟨ua3, uc3, hu3, -⟩ := row7_form hol3.o
    obtain ⟨un3, hun3'⟩ : ∃ un, Q3.length = un := ⟨_, rfl⟩
    rw [hun3'] at hu3
    subst hu3
    have hs14 := hf14.size
    have HUN3 := hm7 hun3'
    have HQ3 := hm7 hq3
    obtain ⟨W15, hW15⟩ : ∃ W15, W14.alloc (.cells #[.slice ua3 un3 uc3] 29) = W15 := ⟨_, rfl⟩
    have hz15 : W15.heap.size = W14.heap.size + 1 := by rw [← hW15]; simp
    have hb15 : Below W14.heap.size W14 W15 := by rw [← hW15]; exact below1 _ _
    have hbn := (hX3l _ HAX.out.n)
    have hsm : ∀ b, X4 b → W15.heap[b]? = U.heap[b]? := fun b hb => by
      have h1 := (hX4l b hb).2
      rw [hb15.block b (by omega), hf14.x hb h1]
    have HN15 : Hid (Bk W15 (W11.heap.size + 1) #[.int .i64 (un2 : Int)] 3) := HA.out.n.same (hsm _ (by rw [HX4.out]; exact Or.inl HAX.out.n))
    obtain ⟨W16, hW16⟩ : ∃ W16, W15.setCell ⟨W11.heap.size + 1, 0, none⟩ (.int .i64 0) = W16 := ⟨_, rfl⟩
    have hf16 : Fr (fun b => b = W11.heap.size + 1) W15 W16 := by rw [← hW16]; exact Fr.set (Fr.refl _ _) (Or.inl rfl)
    have hz16 := hf16.size
    obtain ⟨X5, hX5⟩ : ∃ X5 : Nat → Prop, (fun b => (b = w.heap.size + 2 ∨ b = W11.heap.size + 1 ∨ b = W14.heap.size) ∨ (B3 ≤ b ∧ b < W14.heap.size) ∨ b = D) = X5 := ⟨_, rfl⟩
    have HX5 : Hid (∀ b, X5 b ↔ (b = w.heap.size + 2 ∨ b = W11.heap.size + 1 ∨ b = W14.heap.size) ∨ (B3 ≤ b ∧ b < W14.heap.size) ∨ b = D) := fun b => by rw [← hX5]
    have hr2 : X3 (w.heap.size + 2) := by rw [HX3.out, HX1.out]; exact Or.inl (Or.inl (Or.inl ⟨by omega, by omega⟩))
    have HK15 : Hid (KR w X5 g 3 s' W15) := hk14.more hb15 fun b hb => by
      rw [HX5.out] at hb
      rcases hb with (hb | hb | hb) | hb | hb
      · exact Or.inl (Or.inl (by rw [HX4.out, hb]; exact Or.inl hr2))
      · exact Or.inl (Or.inl (by rw [HX4.out, hb]; exact Or.inl HAX.out.n))
      · exact Or.inr (by omega)
      · exact Or.inl (Or.inr hb)
      · exact Or.inl (Or.inl (by rw [HX4.out]; exact Or.inr hb))
    have hX5l : ∀ b, X5 b → w.heap.size ≤ b ∧ b < W16.heap.size := fun b hb => by
      rw [HX5.out] at hb
      have hd := HDD.out
      rcases hb with (hb | hb | hb) | hb | hb <;> omega
    have hfb := HF13.out
    have hbox : ∀ b, X1 b → W16.heap[b]? = W13.heap[b]? := fun b hb => by
      have h1 := (hXl7 b hb).2
      have hx3 : X3 b := by rw [HX3.out]; exact Or.inl (Or.inl hb)
      rw [hf16.block b (by omega) (show ¬ b = W11.heap.size + 1 by omega), hsm b (by rw [HX4.out]; exact Or.inl hx3), HA.out.f b (Or.inl ⟨hx3, by omega⟩)]
    have hin : ∀ b, b < W7.heap.size → W2.heap.size ≤ b → X1 b := fun b h1 h2 => by rw [HX1.out]; omega
    have hbi := hm7 hbs
    have hkk : ∀ b, W6.heap.size ≤ b → b < W7.heap.size → X1 b ∧ ¬ X5 b := fun b h1 h2 => ⟨hin b h2 (by omega), fun hc => by
      rw [HX5.out] at hc
      have hd := HDD.out
      rcases hc with (hc | hc | hc) | hc | hc <;> omega⟩
    have HLT : Hid (b1 < W7.heap.size ∧ b2 < W7.heap.size ∧ b3 < W7.heap.size ∧ b4 < W7.heap.size ∧ b5 < W7.heap.size) := HBL.out
    have HKF : Hid (KF w X5 g 3 s' parts [] [] b1 b2 b3 b4 b5 W16) := by
      obtain ⟨F', S', r1, r2, r3⟩ := HK15.out
      have q1 := hkk b1 hbi.out.1 HLT.out.1
      have q2 := hkk b2 hbi.out.2.1 HLT.out.2.1
      have q3 := hkk b3 hbi.out.2.2.1 HLT.out.2.2.1
      have q4 := hkk b4 hbi.out.2.2.2.1 HLT.out.2.2.2.1
      have q5 := hkk b5 hbi.out.2.2.2.2 HLT.out.2.2.2.2
      have hx5 : X5 (W11.heap.size + 1) := by rw [HX5.out]; exact Or.inl (Or.inr (Or.inl rfl))
      refine ⟨F', S', r1.fr hf16 fun b hb hc => (r2 b hb).2 (by rw [hc]; exact hx5), r2, low7 r3 hf16 fun b hb => by omega, Or.inr ⟨.slice none 0 0, .slice none 0 0, [], fun _ => False, fun _ => False, ⟨hfb.p.same (hbox _ q1.1), hfb.r.same (hbox _ q2.1), hfb.q.same (hbox _ q3.1), hfb.s.same (hbox _ q4.1), hfb.n.same (hbox _ q5.1)⟩, rfl, by simp, ⟨[], by simp, List.Pairwise.nil, rfl⟩, Li.nil _ _, Li.nil _ _, fun b hb => (hb.elim id id).elim, q1.2, q2.2, q3.2, q4.2, q5.2⟩⟩
    have HI0 : Hid (Bk W16 (W11.heap.size + 1) #[.int .i64 ((0 : Nat) : Int)] 3 ∧ Bk W16 W14.heap.size #[.slice ua3 un3 uc3] 29 ∧ LX (fun b => X5 b ∧ b ≠ W11.heap.size + 1) W16 (.slice ua3 un3 uc3) Q3 ∧ Bk W16 (w.heap.size + 2) #[.bool false] 4 ∧ W16.heap[D]? = some (.deferred (some []))) := by
      have e1 : Bk W16 (W11.heap.size + 1) #[.int .i64 ((0 : Nat) : Int)] 3 := by rw [← hW16]; exact HN15.out.set 0 _
      have e2 : Bk W15 W14.heap.size #[.slice ua3 un3 uc3] 29 := by rw [← hW15]; exact Bk.new _ _ _
      have hne : ∀ b, b ≠ W11.heap.size + 1 → b < W15.heap.size → W16.heap[b]? = W15.heap[b]? := fun b h1 h2 => hf16.block b h2 h1
      have hd := HDD.out
      refine ⟨e1, e2.same (hne _ (by omega) e2.lt), ((hol3.lx.same hb15.size fun b _ hl => hb15.block b hl).mono (Y := fun b => X5 b ∧ b ≠ W11.heap.size + 1) fun b _ hb => ⟨by rw [HX5.out]; exact Or.inr (Or.inl hb), by omega⟩).same hz16 fun b hb hl => hne b hb.2 hl, (HB13.out.1.2.1.same (HA.out.f _ (Or.inl ⟨hr2, by omega⟩))).same ((hne _ (by omega) (by omega)).trans (hsm _ (by rw [HX4.out]; exact Or.inl hr2))), ?_⟩
      rw [hne D (by omega) (by omega), hsm D (by rw [HX4.out]; exact Or.inr rfl)]
      exact HDF.out
    have d14 : Bk W14 (W11.heap.size + 1) #[.int .i64 (un2 : Int)] 3 := HA.out.n.same (hf14.x (by rw [HX4.out]; exact Or.inl HAX.out.n) HA.out.n.lt)
    have d0 := d14.froz 0
    have d1 := d14.lt
    have c15 : W14.cell? ⟨W11.heap.size + 1, 0, none⟩ = some (.int .i64 (un2 : Int)) := d14.cell (i := 0) rfl
    clear d14
    have HCM : Hid ((W14.setCell ⟨W11.heap.size + 1, 0, none⟩ (.int .i64 0)).alloc (.cells #[.slice ua3 un3 uc3] 29) = W16) := by
      show _ = _
      rw [← hW16, ← hW15]
      symm
      simp [go_sem, d1]
    clear hol3 hq3 hk14 hf14 hun3' hW15 hW16 hX5 hX4
    gi_wp2
    rw [HCM.out]
    clear HCM c15 d0 d1
    have HXN : Hid (X5 (W11.heap.size + 1) ∧ X5 W14.heap.size ∧ X5 (w.heap.size + 2) ∧ X5 D) := ⟨by rw [HX5.out]; exact Or.inl (Or.inr (Or.inl rfl)), by rw [HX5.out]; exact Or.inl (Or.inr (Or.inr rfl)), by rw [HX5.out]; exact Or.inl (Or.inl rfl), by rw [HX5.out]; exact Or.inr (Or.inr rfl)⟩
    have hun3b : un3 ≤ 100000000 := by
      have h1 := congrArg List.length HQ3.out
      have h2 := HUN3.out
      have h3 := HA.out.l
      simp at h1
      rw [(srt7_perm _).length_eq] at h1
      have h5 := sel_len s'.rows (pls7 s' [] []) (sts7 s' parts)
      have h7 := sts7_len s' parts
      have h8 : (pls7 s' [] []).length ≤ s'.rows.length := by rw [pls7_all]; simp [nat7]
      have := Nat.mul_le_mul h7 h8
      unfold sel7 at h1
      omega
    have HF8 : Hid (fnd8 s' parts [] [] = Q3.map Prod.fst) := by
      show _ = _
      unfold fnd8
      rw [HQ3.out]
      apply List.filter_eq_self.2
      intro r _
      simp [fits8]
    refine range_find (b1 := b1) (b2 := b2) (b3 := b3) (b4 := b4) (b5 := b5) rfl rfl HKF.out hX5l (by intro y hy; simp at hy) (by simp) (by omega)
      (fun pre V => Bk V (W11.heap.size + 1) #[.int .i64 (pre.length : Int)] 3 ∧ Bk V W14.heap.size #[.slice ua3 un3 uc3] 29 ∧ LX (fun b => X5 b ∧ b ≠ W11.heap.size + 1) V (.slice ua3 un3 uc3) Q3 ∧ Bk V (w.heap.size + 2) #[.bool false] 4 ∧ V.heap[D]? = some (.deferred (some [])))
      (fun pre V V' h hs hb => ⟨h.1.same (hb _ HXN.out.1), h.2.1.same (hb _ HXN.out.2.1), h.2.2.1.same hs fun b hx _ => hb b hx.1, h.2.2.2.1.same (hb _ HXN.out.2.2.1), (hb _ HXN.out.2.2.2).trans h.2.2.2.2⟩) HI0.out (fun _ _ _ => False) (fun _ _ _ _ h => h.elim)
      (fun z => { tmps := #[.int .i64 x, .slice va vn vc, .agg #[.slice ma mn mc], .int .i64 parts, undef, undef, .pointer (some ⟨w.heap.size, 0, none⟩), .pointer (some ⟨w.heap.size + 1, 0, none⟩), .pointer (some ⟨w.heap.size + 1 + 1, 0, none⟩), .int .i64 (sm7 x : Int), .pointer (some ⟨W2.heap.size, 0, none⟩), .bool true, .pointer (some ⟨W5.heap.size, 0, none⟩), fnd7 b1 b2 b3 b4 b5, .pointer (some ⟨W11.heap.size, 0, none⟩), .pointer (some ⟨W11.heap.size + 1, 0, none⟩), f 16, .pointer (some ⟨W14.heap.size, 0, none⟩), z, f 19, f 20, f 21, f 22, f 23, f 24, f 25, f 26, f 27, f 28, f 29, f 30, f 31, f 32, f 33, f 34, f 35, f 36, f 37, f 38, f 39, f 40, f 41, f 42, f 43, f 44, f 45, .pointer (some ⟨g, 0, none⟩), .int .i64 parts, .slice ua2 un2 uc2, fnd7 b1 b2 b3 b4 b5, f 50, f 51, f 52, f 53, f 54, f 55, f 56, f 57, f 58, f 59, f 60, f 61, f 62, f 63, f 64, f 65, f 66, f 67, f 68, f 69, f 70, f 71, f 72, f 73, f 74, f 75, f 76, f 77, f 78, f 79, f 80, f 81, f 82, f 83, .int .i64 (un2 : Int), .slice ua2 un2 uc2, .int .i64 (un2 : Int), .bool false, .pointer (some ⟨g, 0, none⟩), .int .i64 parts, .slice ua3 un3 uc3, fnd7 b1 b2 b3 b4 b5, z, f 93, f 94, f 95, f 96, f 97, f 98, f 99, f 100, f 101, f 102, f 103, f 104, f 105, f 106, f 107, f 108, f 109, f 110, f 111], defers := [] }) ?assign2 ?body2 ?done2 ?stop2
    case assign2 =>
      rintro l mm z V K ⟨za, zn, zc, rfl⟩ hK
      gi_wp2
      exact hK
    case body2 =>
      rintro l mm pre xr z V hpre ⟨e1, e2, e3, e4, e5⟩ hl hkr hVl
      rw [HF8.out] at hpre
      obtain ⟨za, zc, rfl, -⟩ := (show ∃ a c, z = .slice a xr.length c ∧ True by obtain ⟨a, c, e, -⟩ := hl; exact ⟨a, c, e, trivial⟩)
      generalize hzn : xr.length = zn at *
      have hpl : pre.length < un3 := by
        have h1 := hpre.length_le
        have h2 := HUN3.out
        simp at h1
        omega
      obtain ⟨p, hp, hpx⟩ : ∃ p, Q3[pre.length]? = some p ∧ p.1 = xr := by
        obtain ⟨t, ht⟩ := hpre
        have h1 : (Q3.map Prod.fst)[pre.length]? = some xr := by rw [← ht]; simp
        rw [List.getElem?_map] at h1
        cases hq : Q3[pre.length]? with
        | none => simp [hq] at h1
        | some p => exact ⟨p, rfl, by simpa [hq] using h1⟩
      obtain ⟨ub, uo, hua, -, c4, hlp⟩ := e3.rn.get hp
      have HSM := hm7 (same7_any Any Any xr p.1 _ p.2 V hl.any hlp)
      rw [decide_eq_true hpx.symm] at HSM
      obtain ⟨pa, pc, hpv, -⟩ := hlp
      generalize p.1.length = pn at hpv
      rw [hpv] at c4 HSM
      have c15 : V.cell? ⟨W11.heap.size + 1, 0, none⟩ = some (.int .i64 (pre.length : Int)) := e1.cell (i := 0) rfl
      have c17 : V.cell? ⟨W14.heap.size, 0, none⟩ = some (.slice ua3 un3 uc3) := e2.cell (i := 0) rfl
      have d0 := e1.froz 0
      have d1 := e1.lt
      have HE := hm7 (And.intro e1 (And.intro e2 (And.intro e3 (And.intro e4 e5))))
      subst hua
      clear hpre hp hpx hpv hl hkr hzn e1 e2 e3 e4 e5
      have l1 : ¬ (un3 : Int) ≤ (pre.length : Int) := by omega
      have l2 : (pre.length : Int) < (un3 : Int) := by omega
      have l3 : (0 : Int) ≤ (pre.length : Int) := by omega
      have l4 : decide (un3 ≤ pre.length) = false := decide_eq_false (by omega)
      gi_wp2
      refine ⟨trivial, fun h => (by cases h), (CallsIn.inRound l (callsIn_wide.2 HSM.out)).mono ?_⟩
      rintro e V3 ⟨rfl, n5, rfl⟩
      clear HSM
      gi_wp2
      have hfr : Fr (fun b => b = W11.heap.size + 1) V ((V.drewN n5).setCell ⟨W11.heap.size + 1, 0, none⟩ (.int .i64 ((pre.length : Int) + 1))) := Fr.set (Fr.of (below_dn7 _ _)) (Or.inl rfl)
      have hne : ∀ b, b ≠ W11.heap.size + 1 → ((V.drewN n5).setCell ⟨W11.heap.size + 1, 0, none⟩ (.int .i64 ((pre.length : Int) + 1))).heap[b]? = V.heap[b]? := fun b hb => heap_setCell_other _ _ _ _ hb
      have hd := HDD.out
      refine ⟨Fr.mono hfr fun b _ hb => by rw [hb]; exact HXN.out.1, ?_, HE.out.2.1.same (hne _ (by omega)), HE.out.2.2.1.same hfr.size fun b hb _ => hne b hb.2, HE.out.2.2.2.1.same (hne _ (by omega)), (hne _ (by omega)).trans HE.out.2.2.2.2⟩
      rw [List.length_append, List.length_singleton]
      exact (HE.out.1.same (w' := V.drewN n5) rfl).set 0 _
    case stop2 =>
      rintro D2 c pre V hD2 hpre h
      exact h.elim
    case done2 =>
      rintro D2 V hD2 ⟨e1, e2, e3, e4, e5⟩ hkr hdf
      rw [HF8.out, List.length_map, HUN3.out] at e1
      have c15 : V.cell? ⟨W11.heap.size + 1, 0, none⟩ = some (.int .i64 (un3 : Int)) := e1.cell (i := 0) rfl
      have c17 : V.cell? ⟨W14.heap.size, 0, none⟩ = some (.slice ua3 un3 uc3) := e2.cell (i := 0) rfl
      have c8 : V.cell? ⟨w.heap.size + 2, 0, none⟩ = some (.bool false) := e4.cell (i := 0) rfl
      have d0 := e4.froz 0
      have d1 := e4.lt
      have HE := hm7 (And.intro e4 (And.intro e5 hdf))
      have HBV := hm7 hkr.b
      have HD2 := hm7 hD2
      have l0 : ((un3 : Int) == (un3 : Int)) = true := by simp
      clear e1 e2 e3 e4 e5 hkr hdf hD2
      gi_wp2
      have hd := HDD.out
      have hd2 := HD2.out
      refine leaves7 (B := w.heap.size + 3) (fun Z => Bk Z (w.heap.size + 2) #[.bool true] 4 ∧ Below w.heap.size w Z) (fun Z E hZ hE hD => ⟨hZ.1.same (World.putObj_heap_other (by omega)), hZ.2.os, hZ.2.tape, hZ.2.output, by simpa using hZ.2.size, fun k hk => (World.putObj_heap_other (by omega)).trans (hZ.2.block k hk)⟩) (fun Z hZ => ?_) [D2, D] _ ⟨by simp; omega, fun E hE => ?_⟩ (fun E hE => by simp at hE; omega) ⟨HE.out.1.set 0 (.bool true), Below.setCell HBV.out (p := ⟨w.heap.size + 2, 0, none⟩) (by simp) _⟩
      · exact ⟨_, ret_bc7 Try.results4 _ _ (w.heap.size + 2) true rfl (hZ.1.cell (i := 0) rfl), rfl, hZ.2⟩
      · rw [heap_setCell_other _ _ _ _ (show E ≠ w.heap.size + 1 + 1 from fun e => by simp at hE; omega)]
        simp at hE
        rcases hE with rfl | rfl
        · exact HE.out.2.2
        · exact HE.out.2.1
end Go.Proofs.Ytofopfjmcbgfjaa

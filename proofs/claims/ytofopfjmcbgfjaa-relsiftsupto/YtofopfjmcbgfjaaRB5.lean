/-
  law 7: RelSifts' walk. (Written by RB5.py.)
-/
import Derived.Test.YtofopfjmcbgfjaaRB4
import Derived.Test.YtofopfjmcbgfjaaRA30
namespace Go.Proofs.Ytofopfjmcbgfjaa
open Go.RowKit Go.Shelf
attribute [local go_sem] Oper.semAt_some

/-- What RelSifts carries from round to round. -/
structure RS4 (w : World) (k g : Nat) (cvv kvv : Value) (q : Nat) (Es : List Nat) (m : Nat) (s : St7) (Y : World) : Prop where
  r : KR w (fun b => (w.heap.size ≤ b ∧ b < w.heap.size + 3) ∨ b ∈ Es) g m s Y
  c : Bk Y w.heap.size #[cvv] 23
  ky : Bk Y (w.heap.size + 1) #[kvv] 23
  o : Bk Y (w.heap.size + 2) #[.bool false] 4
  mks : Mk7 Y Es
  e : ∀ E ∈ Es, w.heap.size + 3 ≤ E
  qq : q ≤ 3
  mq : m ≤ 2 * q
  wd : s.wd = k
  l : s.rows.length ≤ 1048576 + q
def mu14 (ac : Act) : Nat := match ac.tmps[14]? with | some (Value.int _ k) => 3 - k.toNat | _ => 0
set_option maxRecDepth 100000 in
set_option maxHeartbeats 1000000 in
theorem relSifts7_any (x : Int) (Bs : List (List (List Int × Value) × Value)) (v : Value) (parts : Int) (cols keys : List Int) (cv kv : Value) (w : World) (h : Bt7 w v Bs) (hc : Li Any w cv cols) (hk : Li Any w kv keys) (hB : tot7 Bs ≤ 1048576) (hBl : Bs.length ≤ 1048576) (hcl : cols.length ≤ 1048576) :
    Calls Try.prog 3 #[.int .i64 x, v, .int .i64 parts, cv, kv] w fun e w' => e = .returned (.bool true) ∧ Below w.heap.size w w' := by
  obtain ⟨n, -⟩ : ∃ n : Nat, True := ⟨0, trivial⟩
  refine (callsIn_wide (n := n)).1 ?_
  refine callsIn_of_wp_marks Try.func3 rfl trivial ?_ rfl
  simp only [Try.ntmps3, List.size_toArray, List.length_cons, List.length_nil, Nat.reduceAdd, Nat.reduceSub, Array.replicate_succ, Array.replicate_zero, List.push_toArray, List.append_toArray, List.nil_append, List.cons_append]
  have HBT := hm7 h
  have HC := hm7 hc
  have HK := hm7 hk
  obtain ⟨va, vn, vc, rfl⟩ : ∃ a n c, v = .slice a n c := by obtain ⟨a, c, e, -⟩ := h; exact ⟨_, _, _, e⟩
  obtain ⟨ca, cn, cc, rfl⟩ : ∃ a n c, cv = .slice a n c := by obtain ⟨a, c, e, -⟩ := hc; exact ⟨_, _, _, e⟩
  obtain ⟨ka, kn, kc, rfl⟩ : ∃ a n c, kv = .slice a n c := by obtain ⟨a, c, e, -⟩ := hk; exact ⟨_, _, _, e⟩
  clear h hc hk
  obtain ⟨W0, hW0⟩ : ∃ W0, ((w.alloc (.cells #[.slice ca cn cc] 23)).alloc (.cells #[.slice ka kn kc] 23)).alloc (.cells #[.bool false] 4) = W0 := ⟨_, rfl⟩
  have hz0 : W0.heap.size = w.heap.size + 3 := by rw [← hW0]; simp
  have HW0 : Hid (Below w.heap.size w W0 ∧ Bk W0 w.heap.size #[.slice ca cn cc] 23 ∧ Bk W0 (w.heap.size + 1) #[.slice ka kn kc] 23 ∧ Bk W0 (w.heap.size + 2) #[.bool false] 4) := by
    show _ ∧ _
    rw [← hW0]
    have e1 := Bk.new w #[.slice ca cn cc] 23
    have e2 := Bk.new (w.alloc (.cells #[.slice ca cn cc] 23)) #[.slice ka kn kc] 23
    have e3 := Bk.new ((w.alloc (.cells #[.slice ca cn cc] 23)).alloc (.cells #[.slice ka kn kc] 23)) #[.bool false] 4
    rw [World.size_alloc] at e2
    rw [World.size_alloc, World.size_alloc] at e3
    exact ⟨(below2 _ _ _).trans ((below1 _ _).mono (by simp; omega)), (e1.below (below1 _ _)).below (below1 _ _), e2.below (below1 _ _), e3⟩
  gi_wp2
  refine ⟨trivial, fun h => (by cases h), (callsIn_wide.2 (small7_any x W0)).mono ?_⟩
  rintro e W1 ⟨rfl, h1⟩
  rw [h1]
  clear h1 hW0 W1
  have hk5 := sm7_le x
  gi_wp2
  have HGR := hm7 (grown7_any Bs (.slice va vn vc) (sm7 x) W0 (HBT.out.below (by have := HW0.out.1; exact this)) hk5 hB hBl)
  refine ⟨trivial, fun h => (by cases h), (callsIn_wide.2 HGR.out).mono ?_⟩
  clear HGR
  rintro e W2 ⟨g, F, S, rfl, hr, hd, hb⟩
  have HR : Hid (HD7 W0 g 0 (grw (sm7 x) Bs Bs.length) W2) := ⟨F, S, hr, hd, hb⟩
  clear hr hd hb
  gi_wp2
  refine ⟨trivial, fun h => (by cases h), (callsIn_wide.2 (head7_any W2)).mono ?_⟩
  rintro e W3 ⟨rfl, hb3⟩
  have HR3 : Hid (HD7 W0 g 0 (grw (sm7 x) Bs Bs.length) W3) := HR.out.below hb3
  clear HR hb3 W2
  gi_wp2
  have HR0 : Hid (RS4 w (sm7 x) g (.slice ca cn cc) (.slice ka kn kc) 0 [] 0 (grw (sm7 x) Bs Bs.length) W3) := by
    obtain ⟨F, S, k1, k2, k3⟩ := HR3.out
    have hs := HW0.out.1
    refine ⟨⟨F, S, k1, fun b hb => ⟨by have := k2 b hb; omega, fun hc => ?_⟩, hs.trans (k3.mono (by omega))⟩, HW0.out.2.1.below k3, HW0.out.2.2.1.below k3, HW0.out.2.2.2.below k3, ⟨List.nodup_nil, by simp⟩, by simp, by omega, Nat.le_refl _, grw_wd _ _ _, ?_⟩
    · have := k2 b hb
      simp at hc
      omega
    · have h1 := grw_len (sm7 x) Bs Bs.length (Nat.le_refl _)
      have h2 := tot7_le Bs Bs.length
      omega
  clear HR3 HW0 hz0 HBT
  refine wpIn_loop (fun ac X => ∃ (q : Nat) (Es : List Nat) (m : Nat) (s : St7), (ac.tmps.size = 100 ∧ ac.tmps[0]? = some (.int .i64 x) ∧ ac.tmps[1]? = some (.slice va vn vc) ∧ ac.tmps[2]? = some (.int .i64 parts) ∧ ac.tmps[3]? = some (.slice ca cn cc) ∧ ac.tmps[4]? = some (.slice ka kn kc) ∧ ac.tmps[5]? = some (undef) ∧ ac.tmps[6]? = some (undef) ∧ ac.tmps[7]? = some (undef) ∧ ac.tmps[8]? = some (.pointer (some ⟨w.heap.size, 0, none⟩)) ∧ ac.tmps[9]? = some (.pointer (some ⟨w.heap.size + 1, 0, none⟩)) ∧ ac.tmps[10]? = some (.pointer (some ⟨w.heap.size + 1 + 1, 0, none⟩)) ∧ ac.tmps[11]? = some (.int .i64 (sm7 x : Int)) ∧ ac.tmps[12]? = some (.pointer (some ⟨g, 0, none⟩)) ∧ ac.tmps[13]? = some (.bool true) ∧ ac.tmps[14]? = some (.int .i64 (q : Int)) ∧ ac.defers = mk7 Es) ∧ RS4 w (sm7 x) g (.slice ca cn cc) (.slice ka kn kc) q Es m s X) (fun ac _ => mu14 ac) ?_ (fun ac Y hI => ?_)
  · exact ⟨0, [], 0, _, ⟨rfl, rfl, rfl, rfl, rfl, rfl, rfl, rfl, rfl, rfl, rfl, rfl, rfl, rfl, rfl, rfl, rfl⟩, HR0.out⟩
  clear HR0 W3 W0
  obtain ⟨q, Es, m, s, hac, hrs⟩ := hI
  obtain ⟨tmps, defers⟩ := ac
  obtain ⟨f, hf⟩ : ∃ f : Nat → Value, tmps = #[.int .i64 x, .slice va vn vc, .int .i64 parts, .slice ca cn cc, .slice ka kn kc, undef, undef, undef, .pointer (some ⟨w.heap.size, 0, none⟩), .pointer (some ⟨w.heap.size + 1, 0, none⟩), .pointer (some ⟨w.heap.size + 1 + 1, 0, none⟩), .int .i64 (sm7 x : Int), .pointer (some ⟨g, 0, none⟩), .bool true, .int .i64 (q : Int), f 15, f 16, f 17, f 18, f 19, f 20, f 21, f 22, f 23, f 24, f 25, f 26, f 27, f 28, f 29, f 30, f 31, f 32, f 33, f 34, f 35, f 36, f 37, f 38, f 39, f 40, f 41, f 42, f 43, f 44, f 45, f 46, f 47, f 48, f 49, f 50, f 51, f 52, f 53, f 54, f 55, f 56, f 57, f 58, f 59, f 60, f 61, f 62, f 63, f 64, f 65, f 66, f 67, f 68, f 69, f 70, f 71, f 72, f 73, f 74, f 75, f 76, f 77, f 78, f 79, f 80, f 81, f 82, f 83, f 84, f 85, f 86, f 87, f 88, f 89, f 90, f 91, f 92, f 93, f 94, f 95, f 96, f 97, f 98, f 99] := by
    obtain ⟨hn, t0, t1, t2, t3, t4, t5, t6, t7, t8, t9, t10, t11, t12, t13, t14, -⟩ := hac
    obtain ⟨f, hf, hi⟩ := arr_of 100 tmps hn
    refine ⟨f, ?_⟩
    have e : ∀ (i : Nat) (v : Value), i < 100 → tmps[i]? = some v → f i = v := fun i v h1 h2 => Option.some.inj ((hi i h1).symm.trans h2)
    rw [hf, show (List.range 100).map f = [f 0, f 1, f 2, f 3, f 4, f 5, f 6, f 7, f 8, f 9, f 10, f 11, f 12, f 13, f 14, f 15, f 16, f 17, f 18, f 19, f 20, f 21, f 22, f 23, f 24, f 25, f 26, f 27, f 28, f 29, f 30, f 31, f 32, f 33, f 34, f 35, f 36, f 37, f 38, f 39, f 40, f 41, f 42, f 43, f 44, f 45, f 46, f 47, f 48, f 49, f 50, f 51, f 52, f 53, f 54, f 55, f 56, f 57, f 58, f 59, f 60, f 61, f 62, f 63, f 64, f 65, f 66, f 67, f 68, f 69, f 70, f 71, f 72, f 73, f 74, f 75, f 76, f 77, f 78, f 79, f 80, f 81, f 82, f 83, f 84, f 85, f 86, f 87, f 88, f 89, f 90, f 91, f 92, f 93, f 94, f 95, f 96, f 97, f 98, f 99] from rfl, e 0 _ (by decide) t0, e 1 _ (by decide) t1, e 2 _ (by decide) t2, e 3 _ (by decide) t3, e 4 _ (by decide) t4, e 5 _ (by decide) t5, e 6 _ (by decide) t6, e 7 _ (by decide) t7, e 8 _ (by decide) t8, e 9 _ (by decide) t9, e 10 _ (by decide) t10, e 11 _ (by decide) t11, e 12 _ (by decide) t12, e 13 _ (by decide) t13, e 14 _ (by decide) t14]
  obtain rfl : defers = mk7 Es := by have := hac; simp only at this; exact this.2.2.2.2.2.2.2.2.2.2.2.2.2.2.2.2
  clear hac
  subst hf
  have HRS := hm7 hrs
  have iq : (0 : Int) ≤ (q : Int) := by omega
  have hq3 := hrs.qq
  clear hrs
  have hXl : ∀ b, ((w.heap.size ≤ b ∧ b < w.heap.size + 3) ∨ b ∈ Es) → w.heap.size ≤ b ∧ b < Y.heap.size := fun b hb => by
    rcases hb with hb | hb
    · exact ⟨hb.1, by have := HRS.out.o.lt; omega⟩
    · have h1 := HRS.out.e b hb
      have h2 := HRS.out.mks.lt b hb
      omega
  by_cases hql : q < 3
  · have k1 : (q : Int) < 3 := by omega
    have HRW := hm7 (HRS.out.r.rows (fun b hb => (hXl b hb).2) parts (by have := HRS.out.mq; omega))
    gi_wp2
    refine ⟨trivial, fun h => (by cases h), (callsIn_wide.2 HRW.out).mono ?_⟩
    clear HRW
    rintro e Y1 ⟨u, rfl, Q, B, hol, hBY, hqf, hkr, hfx⟩
    obtain ⟨ua, uc, hu, -⟩ := row7_form hol.o
    obtain ⟨un, hun⟩ : ∃ un, Q.length = un := ⟨_, rfl⟩
    rw [hun] at hu
    subst hu
    have c0 : Y1.cell? ⟨w.heap.size, 0, none⟩ = some (.slice ca cn cc) := (HRS.out.c.same (hfx.x (Or.inl ⟨Nat.le_refl _, by omega⟩) HRS.out.c.lt)).cell (i := 0) rfl
    have c1 : Y1.cell? ⟨w.heap.size + 1, 0, none⟩ = some (.slice ka kn kc) := (HRS.out.ky.same (hfx.x (Or.inl ⟨by omega, by omega⟩) HRS.out.ky.lt)).cell (i := 0) rfl
    have p0 := HRS.out.o.lt
    have p1 := hfx.size
    have p2 : w.heap.size + 2 < Y1.heap.size := by omega
    have p3 : w.heap.size + 1 < Y1.heap.size := by omega
    have p4 : w.heap.size < Y1.heap.size := by omega
    have HOL := hm7 hol
    have HQF := hm7 hqf
    have HKR := hm7 hkr
    have HFX := hm7 hfx
    have HUN := hm7 hun
    clear hol hqf hkr hfx hun
    obtain ⟨Y2, hY2⟩ : ∃ Y2, (Y1.alloc (.cells #[.slice ua un uc] 29)).alloc (.cells #[.int .i64 0] 3) = Y2 := ⟨_, rfl⟩
    obtain ⟨X2, hX2⟩ : ∃ X2, SX w Es B Y1.heap.size = X2 := ⟨_, rfl⟩
    have hz2 : Y2.heap.size = Y1.heap.size + 2 := by rw [← hY2]; simp
    have hb2 : Below Y1.heap.size Y1 Y2 := by rw [← hY2]; exact below2 _ _ _
    have hEY : ∀ E ∈ Es, E < Y1.heap.size := fun E hE => by have := HRS.out.mks.lt E hE; omega
    have HSX : Hid (SFX w X2 Y1.heap.size (Y1.heap.size + 1) Es) := by rw [← hX2]; exact SX.sfx p2 hEY
    have hX2l : ∀ b, X2 b → w.heap.size ≤ b ∧ b < Y2.heap.size := fun b hb => by
      rw [← hX2] at hb
      rcases hb with (hb | hb) | hb
      · have := hXl b hb; omega
      · omega
      · omega
    have HK2 : Hid (KR w X2 g (m + 1) s Y2) := HKR.out.more hb2 fun b hb => by
      rw [← hX2] at hb
      rcases hb with hb | hb
      · exact Or.inl hb
      · exact Or.inr (by omega)
    have HS2 : Hid (Bk Y2 (Y1.heap.size + 1) #[.int .i64 0] 3 ∧ SF w X2 Y1.heap.size (Y1.heap.size + 1) (.slice ua un uc) (.slice ca cn cc) (.slice ka kn kc) Q Es Y2) := by
      have e1 : Bk Y2 Y1.heap.size #[.slice ua un uc] 29 := by rw [← hY2]; exact (Bk.new _ _ _).below (below1 _ _)
      have e2 : Bk Y2 (Y1.heap.size + 1) #[.int .i64 0] 3 := by
        have := Bk.new (Y1.alloc (.cells #[.slice ua un uc] 29)) #[.int .i64 0] 3
        rw [World.size_alloc, hY2] at this
        exact this
      have hsm : ∀ b, ((w.heap.size ≤ b ∧ b < w.heap.size + 3) ∨ b ∈ Es) → Y2.heap[b]? = Y.heap[b]? := fun b hb => by
        have h1 := (hXl b hb).2
        rw [hb2.block b (by omega), HFX.out.x hb h1]
      refine ⟨e2, e1, (HOL.out.lx.mono fun b _ hb => ⟨?_, by omega⟩).same hb2.size fun b hb hl => hb2.block b hl, HRS.out.c.same (hsm _ (Or.inl ⟨Nat.le_refl _, by omega⟩)), HRS.out.ky.same (hsm _ (Or.inl ⟨by omega, by omega⟩)), HRS.out.o.same (hsm _ (Or.inl ⟨by omega, by omega⟩)), HRS.out.mks.same fun E hE => hsm E (Or.inr hE)⟩
      rw [← hX2]
      exact Or.inl (Or.inr hb)
    have HFD := hm7 (HK2.out.find parts (HC.out.same (HK2.out.b.size) fun b _ hl => HK2.out.b.block b hl) (HK.out.same (HK2.out.b.size) fun b _ hl => HK2.out.b.block b hl) (by omega))
    have HW := hm7 (And.intro HK.out.w HC.out.w)
    have HY2 := hm7 hY2
    clear HKR HOL HFX hY2
    gi_wp2
    rw [HY2.out]
    clear HY2
    refine ⟨trivial, fun h => (by cases h), (callsIn_wide.2 HFD.out).mono ?_⟩
    rintro e Y3 hfi
    obtain ⟨b1, b2, b3, b4, b5, rfl, hkf, hb3⟩ := KF.mk HK2.out (fun b hb => (hX2l b hb).2) hfi HW.out.1 HW.out.2
    clear HFD hfi
    have p5 := hb3.size
    have HKF := hm7 hkf
    have HS3 : Hid (SIV w X2 Y1.heap.size (Y1.heap.size + 1) (.slice ua un uc) (.slice ca cn cc) (.slice ka kn kc) Q Es cols keys [] Y3) := ⟨0, HS2.out.1.below hb3, Nat.zero_le _, by simp, HS2.out.2.same HSX.out p5 fun b hb => hb3.block b (hX2l b hb).2⟩
    have hX3 : ∀ b, X2 b → w.heap.size ≤ b ∧ b < Y3.heap.size := fun b hb => by have := hX2l b hb; omega
    have HF8 : Hid (fnd8 s parts cols keys = (Q.map Prod.fst).filter (fits8 cols keys)) := by show _ = _; unfold fnd8; rw [HQF.out]
    have HXB : Hid (∀ b, w.heap.size ≤ b ∧ b < w.heap.size + 3 → X2 b) := by rw [← hX2]; exact fun b hb => Or.inl (Or.inl (Or.inl hb))
    clear hkf hb3 HK2 HS2 hX2 hb2 c0 c1
    have qF : ∀ (w : World), (binOp .eql 32 (fnd7 b1 b2 b3 b4 b5) .nilFunc).run Try.prog w = .ok (.bool false) w := by intro w; rfl
    have qG : ∀ (w : World) (x y : Operand), (eqGuard .eql 32 x y (fnd7 b1 b2 b3 b4 b5) .nilFunc).run Try.prog w = .ok () w := by intro w x y; rfl
    gi_wp2
    clear qF qG
    refine range_find (b1 := b1) (b2 := b2) (b3 := b3) (b4 := b4) (b5 := b5) rfl rfl HKF.out hX3 HW.out.1 (by omega) (by have := HRS.out.mq; omega)
      (SIV w X2 Y1.heap.size (Y1.heap.size + 1) (.slice ua un uc) (.slice ca cn cc) (.slice ka kn kc) Q Es cols keys) (fun pre => SIV.only HSX.out) HS3.out (fun _ _ _ => False) (fun _ _ _ _ h => h.elim)
      (fun z => { tmps := #[.int .i64 x, .slice va vn vc, .int .i64 parts, .slice ca cn cc, .slice ka kn kc, undef, undef, undef, .pointer (some ⟨w.heap.size, 0, none⟩), .pointer (some ⟨w.heap.size + 1, 0, none⟩), .pointer (some ⟨w.heap.size + 1 + 1, 0, none⟩), .int .i64 (sm7 x : Int), .pointer (some ⟨g, 0, none⟩), .bool true, .int .i64 (q : Int), .pointer (some ⟨Y1.heap.size, 0, none⟩), .pointer (some ⟨Y1.heap.size + 1, 0, none⟩), fnd7 b1 b2 b3 b4 b5, z, f 19, f 20, f 21, f 22, f 23, f 24, f 25, f 26, f 27, f 28, f 29, f 30, f 31, f 32, .int .i64 (q : Int), .bool true, f 35, f 36, .pointer (some ⟨g, 0, none⟩), .int .i64 parts, .slice ua un uc, .pointer (some ⟨g, 0, none⟩), .int .i64 parts, .slice ca cn cc, .slice ka kn kc, fnd7 b1 b2 b3 b4 b5, fnd7 b1 b2 b3 b4 b5, .bool false, fnd7 b1 b2 b3 b4 b5, z, f 49, f 50, f 51, f 52, f 53, f 54, f 55, f 56, f 57, f 58, f 59, f 60, f 61, f 62, f 63, f 64, f 65, f 66, f 67, f 68, f 69, f 70, f 71, f 72, f 73, f 74, f 75, f 76, f 77, f 78, f 79, f 80, f 81, f 82, f 83, f 84, f 85, f 86, f 87, f 88, f 89, f 90, f 91, f 92, f 93, f 94, f 95, f 96, f 97, f 98, f 99], defers := [] }) ?assign ?body ?done ?stop
    case assign =>
      rintro l mm z W K ⟨za, zn, zc, rfl⟩ hK
      gi_wp2
      exact hK
    case body =>
      rintro l mm pre xr z W hpre ⟨nn, hbn, hnl, hp, hsf⟩ hli hkr hWl
      rw [HF8.out] at hpre
      have HPRE := hm7 hpre
      have HLI := hm7 hli
      have HN0 : Hid (SIV w X2 Y1.heap.size (Y1.heap.size + 1) (.slice ua un uc) (.slice ca cn cc) (.slice ka kn kc) Q Es cols keys pre W) := ⟨nn, hbn, hnl, hp, hsf⟩
      have HKW := hm7 hkr.b
      obtain ⟨za, zn, zc, rfl⟩ : ∃ a n c, z = .slice a n c := by obtain ⟨a, c, e, -⟩ := hli; exact ⟨_, _, _, e⟩
      clear hpre hbn hnl hp hsf hli hkr
      gi_wp2
      gi_loopw [] (fun wr => SIV w X2 Y1.heap.size (Y1.heap.size + 1) (.slice ua un uc) (.slice ca cn cc) (.slice ka kn kc) Q Es cols keys pre wr ∧ Fr X2 W wr) (fun wr => un - cn7 (Y1.heap.size + 1) wr)
      case atStart => exact ⟨HN0.out, Fr.refl _ _⟩
      case round =>
        obtain ⟨⟨ni, hbn, hnl, hp, hsf⟩, hfr⟩ := hrel
        have HBN := hm7 hbn
        have HSF := hm7 hsf
        have HFR := hm7 hfr
        have HP := hm7 hp
        have hcn := cn7_of hbn
        obtain ⟨y, hy, hyes, hno⟩ := sieve_next hp HPRE.out
        have c0 : wr.cell? ⟨Y1.heap.size + 1, 0, none⟩ = some (.int .i64 (ni : Int)) := hbn.cell (i := 0) rfl
        have c1 : wr.cell? ⟨Y1.heap.size, 0, none⟩ = some (.slice ua un uc) := hsf.a.cell (i := 0) rfl
        have c2 : wr.cell? ⟨w.heap.size, 0, none⟩ = some (.slice ca cn cc) := hsf.c.cell (i := 0) rfl
        have c3 : wr.cell? ⟨w.heap.size + 1, 0, none⟩ = some (.slice ka kn kc) := hsf.k.cell (i := 0) rfl
        have d0 := hbn.froz 0
        have d1 := hbn.lt
        obtain ⟨p, hpq, hpy⟩ : ∃ p, Q[ni]? = some p ∧ p.1 = y := by
          rw [List.getElem?_map] at hy
          cases hq : Q[ni]? with
          | none => simp [hq] at hy
          | some p => exact ⟨p, rfl, by simpa [hq] using hy⟩
        have hnu : ni < un := by rw [← HUN.out]; exact (List.getElem?_eq_some_iff.1 hpq).1
        obtain ⟨ub, uo, hua, hubl, c4, hlp⟩ := hsf.l.rn.get hpq
        have hbw := low7 HKW.out hfr fun b hb => (hX3 b hb).1
        have HFT := hm7 (fun k => fits7_any Any Any Any y cols keys p.2 (.slice ca cn cc) (.slice ka kn kc) (wr.drewN k) (by rw [← hpy]; exact hlp.drewN k) (Li.drewN (HC.out.same hbw.size fun b _ hl => hbw.block b hl) k) (Li.drewN (HK.out.same hbw.size fun b _ hl => hbw.block b hl) k))
        have HLZ : Hid (Li Any wr (.slice za zn zc) xr) := (HLI.out.fr hfr fun b _ hb hc => by have := (hX3 b hc).2; omega).any
        have HLP := hm7 hlp
        obtain ⟨pa, pc, hpv, -⟩ := hlp
        generalize p.1.length = pn at hpv
        rw [hpv] at c4 HFT HLP
        have l1 : (ni : Int) < (un : Int) := by omega
        have l2 : (0 : Int) ≤ (ni : Int) := by omega
        have l3 : decide (ni < un) = true := decide_eq_true hnu
        have l4 : decide (un ≤ ni) = false := decide_eq_false (by omega)
        have l5 : ¬ (un : Int) ≤ (ni : Int) := by omega
        have l6 : ni ≤ 9000000000000000 := by have h1 := congrArg List.length HQF.out; have h2 := HUN.out; have h3 := HRS.out.l; have h4 := HRS.out.r.ok.c; simp at h1; rw [(srt7_perm _).length_eq] at h1; have h5 := sel_len s.rows (pls7 s [] []) (sts7 s parts); have h6 := pls7_len HRS.out.r.ok [] []; have h7 := sts7_len s parts; have := Nat.mul_le_mul h7 h6; unfold sel7 at h1; omega
        subst hua
        have HPY := hm7 hpy
        clear hbn hsf hfr hp hy hpv hpq hpy hbw
        cases hfy : fits8 cols keys y with
        | true =>
          rw [hfy] at HFT
          obtain ⟨hyx, hpe⟩ := hyes hfy
          have HPE := hm7 hpe
          have HYX := hm7 hyx
          clear hyes hno hfy hyx hpe
          gi_wp2
          have hfw : Fence.wide.fn 14 := trivial
          refine wpIn_region_quiet8 (by kernel_rfl) (by kernel_rfl) (by kernel_rfl) ?_
          repeat (gi_big_quiet_step ((exact ⟨fun h => (by cases h), CallsIn.quiet_of (CallsIn.inRound l (callsIn_wide.2 (HFT.out _)))⟩)))
          refine wpQuietIn_nil ?_
          intro _ hw'
          obtain ⟨nq, hw''⟩ := hw'
          subst hw''
          clear hfw
          gi_wp2
          have HSM := hm7 (same7_any Any Any xr p.1 _ _ (wr.drewN nq) (HLZ.out.drewN nq) (HLP.out.drewN nq))
          rw [decide_eq_true (by rw [HPY.out, HYX.out])] at HSM
          refine ⟨trivial, fun h => (by cases h), (CallsIn.inRound l (callsIn_wide.2 HSM.out)).mono ?_⟩
          clear HSM
          rintro e w5 ⟨rfl, n5, rfl⟩
          gi_wp2
          have hst := SIV.step HSX.out HBN.out HSF.out (by rw [HUN.out]; exact hnu) HPE.out (nq + n5)
          exact ⟨Fr.set (HFR.out.then (below_dn7 _ _)) (Or.inl HSX.out.n), hst.1⟩
        | false =>
          rw [hfy] at HFT
          have HPE := hm7 (hno hfy)
          clear hyes hno hfy
          gi_wp2
          have hfw : Fence.wide.fn 14 := trivial
          refine wpIn_region_quiet8 (by kernel_rfl) (by kernel_rfl) (by kernel_rfl) ?_
          repeat (gi_big_quiet_step ((exact ⟨fun h => (by cases h), CallsIn.quiet_of (CallsIn.inRound l (callsIn_wide.2 (HFT.out _)))⟩)))
          refine wpQuietIn_nil ?_
          intro _ hw'
          obtain ⟨nq, hw''⟩ := hw'
          subst hw''
          clear hfw
          gi_wp2
          have hst := SIV.step HSX.out HBN.out HSF.out (by rw [HUN.out]; exact hnu) HPE.out nq
          refine ⟨⟨hst.1, Fr.set (HFR.out.then (below_dn7 _ _)) (Or.inl HSX.out.n)⟩, ?_⟩
          rw [hst.2, hcn]
          omega
    case done =>
      rintro D W hD ⟨nn, hbn, hnl, hp, hsf⟩ hkr hdf
      rw [HF8.out] at hp
      have HSV : Hid (SIV w X2 Y1.heap.size (Y1.heap.size + 1) (.slice ua un uc) (.slice ca cn cc) (.slice ka kn kc) Q Es cols keys ((Q.map Prod.fst).filter (fits8 cols keys)) W) := ⟨nn, hbn, hnl, hp, hsf⟩
      have HKW : Hid (KR w (fun b => X2 b ∨ b = D) g (m + 1 + 1) s W) := hkr.mono fun b hb _ => hb.imp id Or.inl
      have HDF := hm7 hdf
      have HDD := hm7 hD
      clear hbn hnl hp hsf hkr hdf hD HS3 HKF
      gi_wp2
      gi_loopw [] (fun wr => SIV w X2 Y1.heap.size (Y1.heap.size + 1) (.slice ua un uc) (.slice ca cn cc) (.slice ka kn kc) Q Es cols keys ((Q.map Prod.fst).filter (fits8 cols keys)) wr ∧ Fr X2 W wr) (fun wr => un - cn7 (Y1.heap.size + 1) wr)
      case atStart => exact ⟨HSV.out, Fr.refl _ _⟩
      case round =>
        obtain ⟨⟨ni, hbn, hnl, hp, hsf⟩, hfr⟩ := hrel
        have HBN := hm7 hbn
        have HSF := hm7 hsf
        have HFR := hm7 hfr
        have HP := hm7 hp
        have hcn := cn7_of hbn
        have c0 : wr.cell? ⟨Y1.heap.size + 1, 0, none⟩ = some (.int .i64 (ni : Int)) := hbn.cell (i := 0) rfl
        have c1 : wr.cell? ⟨Y1.heap.size, 0, none⟩ = some (.slice ua un uc) := hsf.a.cell (i := 0) rfl
        have c2 : wr.cell? ⟨w.heap.size, 0, none⟩ = some (.slice ca cn cc) := hsf.c.cell (i := 0) rfl
        have c3 : wr.cell? ⟨w.heap.size + 1, 0, none⟩ = some (.slice ka kn kc) := hsf.k.cell (i := 0) rfl
        have d0 := hbn.froz 0
        have d1 := hbn.lt
        have l2 : (0 : Int) ≤ (ni : Int) := by omega
        have hKV := (HKW.out.fr (hfr.mono fun b _ hb => Or.inl hb) fun b hb => by rcases hb with hb | hb; exact (hX3 b hb).1; (have := HDD.out; omega))
        have hbw := hKV.b
        by_cases hnu : ni < un
        · obtain ⟨p, hpq⟩ : ∃ p, Q[ni]? = some p := ⟨_, List.getElem?_eq_getElem (by rw [HUN.out]; exact hnu)⟩
          have hend := sieve_end hp (y := p.1) (by rw [List.getElem?_map, hpq]; rfl)
          obtain ⟨ub, uo, hua, hubl, c4, hlp⟩ := hsf.l.rn.get hpq
          have HFT := hm7 (fun k => fits7_any Any Any Any p.1 cols keys p.2 (.slice ca cn cc) (.slice ka kn kc) (wr.drewN k) (hlp.drewN k) (Li.drewN (HC.out.same hbw.size fun b _ hl => hbw.block b hl) k) (Li.drewN (HK.out.same hbw.size fun b _ hl => hbw.block b hl) k))
          rw [hend.1] at HFT
          have HPE := hm7 hend.2
          obtain ⟨pa, pc, hpv, -⟩ := hlp
          generalize p.1.length = pn at hpv
          rw [hpv] at c4 HFT
          have l1 : (ni : Int) < (un : Int) := by omega
          have l3 : decide (ni < un) = true := decide_eq_true hnu
          have l6 : ni ≤ 9000000000000000 := by have h1 := congrArg List.length HQF.out; have h2 := HUN.out; have h3 := HRS.out.l; have h4 := HRS.out.r.ok.c; simp at h1; rw [(srt7_perm _).length_eq] at h1; have h5 := sel_len s.rows (pls7 s [] []) (sts7 s parts); have h6 := pls7_len HRS.out.r.ok [] []; have h7 := sts7_len s parts; have := Nat.mul_le_mul h7 h6; unfold sel7 at h1; omega
          subst hua
          clear hbn hsf hfr hp hpv hpq hbw hKV hend
          gi_wp2
          have hfw : Fence.wide.fn 14 := trivial
          refine wpIn_region_quiet8 (by kernel_rfl) (by kernel_rfl) (by kernel_rfl) ?_
          repeat (gi_big_quiet_step ((exact ⟨fun h => (by cases h), CallsIn.quiet_of (callsIn_wide.2 (HFT.out _))⟩)))
          refine wpQuietIn_nil ?_
          intro _ hw'
          obtain ⟨nq, hw''⟩ := hw'
          subst hw''
          clear hfw
          gi_wp2
          have hst := SIV.step HSX.out HBN.out HSF.out (by rw [HUN.out]; exact hnu) HPE.out nq
          refine ⟨⟨hst.1, Fr.set (HFR.out.then (below_dn7 _ _)) (Or.inl HSX.out.n)⟩, ?_⟩
          rw [hst.2, hcn]
          omega
        · have l1 : ¬ (ni : Int) < (un : Int) := by omega
          have l3 : decide (ni < un) = false := decide_eq_false hnu
          have HKV := hm7 hKV
          have HWD := hm7 (wide7_any Any (.slice ka kn kc) keys (sm7 x) wr (HK.out.same hbw.size fun b _ hl => hbw.block b hl) (by omega))
          clear hbn hsf hfr hp hbw hKV
          gi_wp2
          refine ⟨trivial, fun h => (by cases h), (callsIn_wide.2 HWD.out).mono ?_⟩
          clear HWD
          rintro e V1 ⟨r1, rfl, ho1, hb1⟩
          obtain ⟨ra, rc, hr1, -⟩ := row7_form ho1
          rw [wd7_len] at hr1
          subst hr1
          have z1 := hb1.size
          have hDl := (Array.getElem?_eq_some_iff.1 HDF.out).1
          have hXV : ∀ b, (X2 b ∨ b = D) → b < wr.heap.size := fun b hb => by
            have h1 := HDD.out
            have h2 := HFR.out.size
            rcases hb with hb | hb
            · have := (hX3 b hb).2; omega
            · omega
          have HAD := hm7 ((HKV.out.below hb1).add (fun b hb => Nat.lt_of_lt_of_le (hXV b hb) z1) (ho1.li (wd7_w HW.out.1)) (by rw [wd7_len, HRS.out.wd]) (by rw [wd7_len]; omega) (by have := HRS.out.l; omega))
          gi_wp2
          refine ⟨trivial, fun h => (by cases h), (callsIn_wide.2 HAD.out).mono ?_⟩
          clear HAD
          rintro e V2 ⟨rfl, hk2, hf2⟩
          have HTU := hm7 hk2.turn
          have HF2 := hm7 hf2
          have HB1 := hm7 hb1
          clear hk2 hf2 hb1 ho1
          gi_wp2
          refine ⟨trivial, fun h => (by cases h), (callsIn_wide.2 HTU.out).mono ?_⟩
          clear HTU
          rintro e V3 ⟨rfl, hk3, hf3⟩
          have HK3 := hm7 hk3
          have HF3 := hm7 hf3
          clear hk3 hf3
          gi_wp2
          have hD3 := HDD.out
          have hall : ∀ b, (X2 b ∨ b = D) → V3.heap[b]? = wr.heap[b]? := fun b hb => by
            have h1 := hXV b hb
            have h2 := HF2.out.size
            rw [HF3.out.x hb (by omega), HF2.out.x hb (by omega), HB1.out.block b h1]
          refine ⟨⟨q + 1, D :: Es, m + 1 + 1, Turn7 (ad7 s (wd7 (sm7 x) keys)), ⟨rfl, rfl, rfl, rfl, rfl, rfl, rfl, rfl, rfl, rfl, rfl, rfl, rfl, rfl, rfl, rfl, rfl⟩, ?_⟩, ?_⟩
          · refine ⟨HK3.out.mono fun b hb _ => ?_, HSF.out.c.same (hall _ (Or.inl HSX.out.c)), HSF.out.k.same (hall _ (Or.inl HSX.out.k)), HSF.out.o.same (hall _ (Or.inl HSX.out.o)), (HSF.out.m.same fun E hE => hall E (Or.inl (HSX.out.e E hE))).cons (fun hE => by have := hEY D hE; omega) ?_, fun E hE => ?_, by omega, by have := HRS.out.mq; omega, ?_, ?_⟩
            · rcases hb with hb | hb
              · exact Or.inl (HXB.out b hb)
              · rcases List.mem_cons.1 hb with rfl | hb
                · exact Or.inr rfl
                · exact Or.inl (HSX.out.e b hb)
            · rw [hall D (Or.inr rfl), HFR.out.block D hDl fun hc => by have := (hX3 D hc).2; omega]
              exact HDF.out
            · rcases List.mem_cons.1 hE with rfl | hE
              · omega
              · exact HRS.out.e E hE
            · show (ad7 s _).wd = _
              rw [(ad7_wd _ _).1]; exact HRS.out.wd
            · show (ad7 s _).rows.length ≤ _
              have h1 := ad7_len s (wd7 (sm7 x) keys)
              have h2 := HRS.out.l
              omega
          · show 3 - ((q : Int) + 1).toNat < 3 - (q : Int).toNat
            omega
    case stop =>
      rintro D c pre W hD hpre h
      exact h.elim
  · have k1 : ¬ (q : Int) < 3 := by omega
    have o1 := HRS.out.o.froz 0
    have o2 := HRS.out.o.lt
    have o3 := HRS.out.o.cell (i := 0) rfl
    gi_wp2
    refine leaves7 (B := w.heap.size + 3) (fun Z => Bk Z (w.heap.size + 2) #[.bool true] 4 ∧ Below w.heap.size w Z) (fun Z E hZ hE hD => ⟨hZ.1.same (World.putObj_heap_other (by omega)), hZ.2.os, hZ.2.tape, hZ.2.output, by simpa using hZ.2.size, fun k hk => (World.putObj_heap_other (by omega)).trans (hZ.2.block k hk)⟩) (fun Z hZ => ?_) Es _ (HRS.out.mks.same fun E hE => heap_setCell_other _ _ _ _ (show E ≠ w.heap.size + 1 + 1 from fun e => by have := HRS.out.e E hE; omega)) HRS.out.e ⟨HRS.out.o.set 0 (.bool true), Below.setCell HRS.out.r.b (p := ⟨w.heap.size + 2, 0, none⟩) (by simp) _⟩
    exact ⟨_, ret_bc7 Try.results3 _ _ (w.heap.size + 2) true rfl (hZ.1.cell (i := 0) rfl), rfl, hZ.2⟩
end Go.Proofs.Ytofopfjmcbgfjaa

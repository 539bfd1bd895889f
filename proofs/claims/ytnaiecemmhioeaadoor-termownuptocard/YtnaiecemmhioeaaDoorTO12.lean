/-
  alike. (Written by TO12.py.)
-/
import Derived.Test.YtnaiecemmhioeaaDoorT3
import Derived.Test.YtnaiecemmhioeaaDoorT5
import Derived.Test.YtnaiecemmhioeaaDoorT6
import Derived.Test.YtnaiecemmhioeaaDoorO2
import Derived.Test.YtnaiecemmhioeaaDoorL2
import Derived.Test.YtnaiecemmhioeaaDoorW3
import Derived.Test.YtnaiecemmhioeaaDoorW5
namespace Go.Proofs.YtnaiecemmhioeaaDoor
open Go.RowKit
attribute [local go_sem ↓] Go.wp_at_zero Go.wp_at_succ

theorem bso_later9 {w W : World} {v : Value} {s : List Bd} (hs : BsO w v s) (hb : Below w.heap.size w W) : BsO W v s := by
  rcases hs with h | ⟨ad, cap, h1, h2, h3⟩
  · exact Or.inl h
  · refine Or.inr ⟨ad, cap, h1, h2, ?_⟩
    rcases h3 with h3 | ⟨b, o, h3, h4⟩
    · exact Or.inl h3
    · exact Or.inr ⟨b, o, h3, h4.later hb⟩
/-- The four boxes and what they and the lists hold. -/
structure Lk9 (w : World) (M1 M2 : Nat) (C D E F : Array Value) (x y v x' y' v' : Value) (pl al : List Tm) (s : List Bd) (X : World) : Prop where
  p : Blk X w.heap.size C 26
  a : Blk X (w.heap.size + 1) D 26
  e : Blk X M1 E 26
  f : Blk X M2 F 26
  tx : Ts X x pl
  ty : Ts X y al
  tv : Bs X v s
  tx' : Ts X x' pl
  ty' : Ts X y' al
  tv' : Bs X v' s
  b : Below w.heap.size w X
theorem Lk9.later {w X Y : World} {M1 M2 : Nat} {C D E F : Array Value} {x y v x' y' v' : Value} {pl al : List Tm} {s : List Bd} (h : Lk9 w M1 M2 C D E F x y v x' y' v' pl al s X) (hb : Below X.heap.size X Y) : Lk9 w M1 M2 C D E F x y v x' y' v' pl al s Y :=
  ⟨h.p.later hb, h.a.later hb, h.e.later hb, h.f.later hb, h.tx.later hb, h.ty.later hb, h.tv.later hb, h.tx'.later hb, h.ty'.later hb, h.tv'.later hb, below_step h.b hb⟩
set_option maxRecDepth 20000 in
set_option maxHeartbeats 20000000 in
theorem alike_go (pk pn ak an : Int) (ps pm az am : ByteArray) (pl al : List Tm) (s : List Bd) (x y v : Value) (w : World)
    (hx : TsO w x pl) (hy : TsO w y al) (hv : BsO w v s) (hM : MarkOk w) (hL : LateOk w) (h1 : pl.length ≤ 100000000000) (h2 : s.length ≤ 100000000000) :
    Calls Tryd.prog 10 #[(At.mk ⟨pk, pn, ps⟩ pm pl).v x, (At.mk ⟨ak, an, az⟩ am al).v y, v] w fun e w' => e = .returned (.bool true) ∧ Below w.heap.size w w' := by
  obtain ⟨bo, lm, hma⟩ := match_fix ⟨⟨pk, pn, ps⟩, pm, pl⟩ ⟨⟨ak, an, az⟩, am, al⟩ s (by simp only; omega)
  obtain ⟨bu, lu, hun⟩ := unify_fix ⟨⟨pk, pn, ps⟩, pm, pl⟩ ⟨⟨ak, an, az⟩, am, al⟩ (by simp only; omega)
  have HMA : Hid (∀ (X : World) (x y v : Value), Ts X x pl → Ts X y al → Bs X v s → Calls Tryd.prog 13 #[.agg #[.int .i64 pk, .int .i64 pn, .string ps, .string pm, x], .agg #[.int .i64 ak, .int .i64 an, .string az, .string am, y], v] X fun e w' => Bf X.heap.size w' e bo lm ∧ Below X.heap.size X w') := hma
  have HUN : Hid (∀ (X : World) (x y : Value), Ts X x pl → Ts X y al → Calls Tryd.prog 14 #[.agg #[.int .i64 pk, .int .i64 pn, .string ps, .string pm, x], .agg #[.int .i64 ak, .int .i64 an, .string az, .string am, y]] X fun e w' => Bf X.heap.size w' e bu lu ∧ Below X.heap.size X w') := hun
  have HBD : Hid (∀ (X : World) (u u' : Value) (l : List Bd), Bs X u l → Bs X u' l → Calls Tryd.prog 19 #[u, u'] X fun e w' => e = .returned (.bool true) ∧ Below X.heap.size X w') := fun X u u' l hu hu' => (bindings_any l l u u' X hu hu').mono fun e w' h => by simpa using h
  obtain ⟨kc, hkc⟩ : ∃ k, (At.mk ⟨pk, pn, ps⟩ pm pl).cmp ⟨⟨ak, an, az⟩, am, al⟩ = k := ⟨_, rfl⟩
  have HCM : Hid (∀ (X : World) (x y : Value), Ts X x pl → Ts X y al → Calls Tryd.prog 20 #[.agg #[.int .i64 pk, .int .i64 pn, .string ps, .string pm, x], .agg #[.int .i64 ak, .int .i64 an, .string az, .string am, y]] X fun e w' => e = .returned (.int .i64 kc) ∧ Below X.heap.size X w') := fun X x y hx hy => by rw [← hkc]; exact cmpA_any ⟨⟨pk, pn, ps⟩, pm, pl⟩ ⟨⟨ak, an, az⟩, am, al⟩ x y X hx hy
  have HVA : Hid (∀ (X : World) (x : Value), Ts X x pl → Calls Tryd.prog 15 #[.agg #[.int .i64 pk, .int .i64 pn, .string ps, .string pm, x]] X fun e w' => ∃ v', e = .returned v' ∧ OwnI w' X.heap.size v' (vs (At.pl ⟨⟨pk, pn, ps⟩, pm, pl⟩)) ∧ Below X.heap.size X w') := fun X x hx => vars_any ⟨⟨pk, pn, ps⟩, pm, pl⟩ x X hx (by simp only; omega)
  have HVL : (vs (At.pl ⟨⟨pk, pn, ps⟩, pm, pl⟩)).length < 1000000000000000000 := by have := vs_len (At.pl ⟨⟨pk, pn, ps⟩, pm, pl⟩); have h9 : (At.pl ⟨⟨pk, pn, ps⟩, pm, pl⟩).length = pl.length + 1 := rfl; omega
  generalize vs (At.pl ⟨⟨pk, pn, ps⟩, pm, pl⟩) = LP at HVA HVL
  have HIN : Hid (∀ (X : World) (u u' : Value) (b b' : Nat), OwnI X b u LP → OwnI X b' u' LP → Calls Tryd.prog 21 #[u, u'] X fun e w' => e = .returned (.bool true) ∧ Below X.heap.size X w') := fun X u u' b b' hu hu' => lints_same LP u u' b b' X hu hu' HVL
  obtain ⟨ke, hke⟩ : ∃ k, At.err ⟨⟨pk, pn, ps⟩, pm, pl⟩ = k := ⟨_, rfl⟩
  have HCK : Hid (∀ (X : World) (x : Value), Ts X x pl → Calls Tryd.prog 22 #[.agg #[.int .i64 pk, .int .i64 pn, .string ps, .string pm, x]] X fun e w' => e = .returned (.int .i64 ke) ∧ Below X.heap.size X w') := fun X x hx => by rw [← hke]; exact chk_any ⟨⟨pk, pn, ps⟩, pm, pl⟩ x X hx
  obtain ⟨kf, hkf⟩ : ∃ k, At.fact ⟨⟨pk, pn, ps⟩, pm, pl⟩ = k := ⟨_, rfl⟩
  have HFA : Hid (∀ (X : World) (x : Value), Ts X x pl → Calls Tryd.prog 23 #[.agg #[.int .i64 pk, .int .i64 pn, .string ps, .string pm, x]] X fun e w' => e = .returned (.bool kf) ∧ Below X.heap.size X w') := fun X x hx => by rw [← hkf]; exact fact_any ⟨⟨pk, pn, ps⟩, pm, pl⟩ x X hx
  have HAP0 : ∀ (X : World) (x v : Value), Ts X x pl → Bs X v s → Calls Tryd.prog 12 #[v, .agg #[.int .i64 pk, .int .i64 pn, .string ps, .string pm, x]] X fun e w' => ∃ y, e = .returned ((At.mk (become s ⟨pk, pn, ps⟩) pm (pl.map (become s))).v y) ∧ Ts w' y (At.mk (become s ⟨pk, pn, ps⟩) pm (pl.map (become s))).args ∧ Below X.heap.size X w' := fun X x v hx hv => (applyO_any s v ⟨⟨pk, pn, ps⟩, pm, pl⟩ x X hv hx (by simp only; omega)).mono fun e w' h => by obtain ⟨z, h3, h4, h5⟩ := h; exact ⟨z, h3, ownT_ts9 h4 (by simp only [List.length_map]; omega), h5⟩
  generalize At.mk (become s ⟨pk, pn, ps⟩) pm (pl.map (become s)) = MD at HAP0
  obtain ⟨⟨mk, mn, ms⟩, mm, ml⟩ := MD
  have HAP : Hid (∀ (X : World) (x v : Value), Ts X x pl → Bs X v s → Calls Tryd.prog 12 #[v, .agg #[.int .i64 pk, .int .i64 pn, .string ps, .string pm, x]] X fun e w' => ∃ y, e = .returned (.agg #[.int .i64 mk, .int .i64 mn, .string ms, .string mm, y]) ∧ Ts w' y ml ∧ Below X.heap.size X w') := HAP0
  have HSA : Hid (∀ (X : World) (u u' : Value), Ts X u ml → Ts X u' ml → Calls Tryd.prog 18 #[.agg #[.int .i64 mk, .int .i64 mn, .string ms, .string mm, u], .agg #[.int .i64 mk, .int .i64 mn, .string ms, .string mm, u']] X fun e w' => e = .returned (.bool true) ∧ Below X.heap.size X w') := fun X u u' hu hu' => (same_any ⟨⟨mk, mn, ms⟩, mm, ml⟩ ⟨⟨mk, mn, ms⟩, mm, ml⟩ u u' X hu hu').mono fun e w' h => by simpa using h
  have HL1 : Hid (∀ X : World, Below w.heap.size w X → Calls Tryd.prog 4 #[.agg #[.int .i64 pk, .int .i64 pn, .string ps, .string pm, x]] X fun e w' => ∃ g cap, e = .returned (.agg #[.int .i64 pk, .int .i64 pn, .string ps, .string pm, (.slice (some ⟨g, 0, none⟩) pl.length cap)]) ∧ Ts w' (.slice (some ⟨g, 0, none⟩) pl.length cap) pl ∧ Below X.heap.size X w') := fun X hX => (lent_any ⟨⟨pk, pn, ps⟩, pm, pl⟩ x X (hx.later hX) (hM.later hX)).mono fun e w' h => by obtain ⟨g, cap, h3, h4, h5⟩ := h; exact ⟨g, cap, h3, ownT_pre h4 (by omega), h5⟩
  have HAL9 : al.length < 1000000000000000000 := by obtain ⟨_, _, _, h, _⟩ := hy.ts; exact h
  have HL2 : Hid (∀ X : World, Below w.heap.size w X → Calls Tryd.prog 4 #[.agg #[.int .i64 ak, .int .i64 an, .string az, .string am, y]] X fun e w' => ∃ g cap, e = .returned (.agg #[.int .i64 ak, .int .i64 an, .string az, .string am, (.slice (some ⟨g, 0, none⟩) al.length cap)]) ∧ Ts w' (.slice (some ⟨g, 0, none⟩) al.length cap) al ∧ Below X.heap.size X w') := fun X hX => (lent_any ⟨⟨ak, an, az⟩, am, al⟩ y X (hy.later hX) (hM.later hX)).mono fun e w' h => by obtain ⟨g, cap, h3, h4, h5⟩ := h; exact ⟨g, cap, h3, ownT_pre h4 HAL9, h5⟩
  have HL3 : Hid (∀ X : World, Below w.heap.size w X → Calls Tryd.prog 5 #[v] X fun e w' => ∃ g cap, e = .returned (.slice (some ⟨g, 0, none⟩) s.length cap) ∧ Bs w' (.slice (some ⟨g, 0, none⟩) s.length cap) s ∧ Below X.heap.size X w') := fun X hX => (lend_any s v X (bso_later9 hv hX) (hL.later hX)).mono fun e w' h => by obtain ⟨g, cap, h3, h4, h5⟩ := h; exact ⟨g, cap, h3, own_pre h4 (by omega), h5⟩
  have HG : Hid (Ts w x pl ∧ Ts w y al ∧ Bs w v s) := ⟨hx.ts, hy.ts, hv.bs⟩
  have HQ0 : Hid (Blk ((w.alloc (.cells #[.int .i64 pk, .int .i64 pn, .string ps, .string pm, x] 26)).alloc (.cells #[.int .i64 ak, .int .i64 an, .string az, .string am, y] 26)) w.heap.size #[.int .i64 pk, .int .i64 pn, .string ps, .string pm, x] 26 ∧ Blk ((w.alloc (.cells #[.int .i64 pk, .int .i64 pn, .string ps, .string pm, x] 26)).alloc (.cells #[.int .i64 ak, .int .i64 an, .string az, .string am, y] 26)) (w.heap.size + 1) #[.int .i64 ak, .int .i64 an, .string az, .string am, y] 26 ∧ Below w.heap.size w ((w.alloc (.cells #[.int .i64 pk, .int .i64 pn, .string ps, .string pm, x] 26)).alloc (.cells #[.int .i64 ak, .int .i64 an, .string az, .string am, y] 26))) := ⟨Blk.old _ _ _ _, Blk.new2 _ _ _ _, below2 _ _ _⟩
  clear hx hy hv hM hL hma hun hkc hke hkf HAP0 HVL HAL9
  rw [mk_v, mk_v]
  go_enter Tryd.func10, Tryd.ntmps10
  go_upto_region 1 with fail
  revert HQ0
  generalize (w.alloc (.cells #[.int .i64 pk, .int .i64 pn, .string ps, .string pm, x] 26)).alloc (.cells #[.int .i64 ak, .int .i64 an, .string az, .string am, y] 26) = V0
  intro HQ0
  obtain ⟨c0, c1, c2, c3, c4⟩ := five9 HQ0.out.1
  go_upto_region 2 with (go_at_call 4; refine (HL1.out _ HQ0.out.2.2).mono ?_; clear HL1; rintro e V1 ⟨gx, cx, rfl, ht, hb⟩; have HT1 : Hid (Ts V1 (.slice (some ⟨gx, 0, none⟩) pl.length cx) pl ∧ Below V0.heap.size V0 V1) := ⟨ht, hb⟩; clear ht hb)
  clear c0 c1 c2 c3 c4
  have HQ1 : Hid (Blk (V1.alloc (.cells #[.int .i64 pk, .int .i64 pn, .string ps, .string pm, (.slice (some ⟨gx, 0, none⟩) pl.length cx)] 26)) w.heap.size #[.int .i64 pk, .int .i64 pn, .string ps, .string pm, x] 26 ∧ Blk (V1.alloc (.cells #[.int .i64 pk, .int .i64 pn, .string ps, .string pm, (.slice (some ⟨gx, 0, none⟩) pl.length cx)] 26)) (w.heap.size + 1) #[.int .i64 ak, .int .i64 an, .string az, .string am, y] 26 ∧ Below w.heap.size w (V1.alloc (.cells #[.int .i64 pk, .int .i64 pn, .string ps, .string pm, (.slice (some ⟨gx, 0, none⟩) pl.length cx)] 26)) ∧ Blk (V1.alloc (.cells #[.int .i64 pk, .int .i64 pn, .string ps, .string pm, (.slice (some ⟨gx, 0, none⟩) pl.length cx)] 26)) V1.heap.size #[.int .i64 pk, .int .i64 pn, .string ps, .string pm, (.slice (some ⟨gx, 0, none⟩) pl.length cx)] 26 ∧ Ts (V1.alloc (.cells #[.int .i64 pk, .int .i64 pn, .string ps, .string pm, (.slice (some ⟨gx, 0, none⟩) pl.length cx)] 26)) (.slice (some ⟨gx, 0, none⟩) pl.length cx) pl) := ⟨(HQ0.out.1.later HT1.out.2).later (below1 _ _), (HQ0.out.2.1.later HT1.out.2).later (below1 _ _), below_step (below_step HQ0.out.2.2 HT1.out.2) (below1 _ _), Blk.new _ _ _, HT1.out.1.later (below1 _ _)⟩
  clear HQ0 HT1
  revert HQ1
  generalize V1.alloc (.cells #[.int .i64 pk, .int .i64 pn, .string ps, .string pm, (.slice (some ⟨gx, 0, none⟩) pl.length cx)] 26) = V2
  generalize V1.heap.size = M1
  intro HQ1
  obtain ⟨c0, c1, c2, c3, c4⟩ := five9 HQ1.out.2.1
  go_upto_region 3 with (go_at_call 4; refine (HL2.out _ HQ1.out.2.2.1).mono ?_; clear HL2; rintro e V3 ⟨gy, cy, rfl, ht, hb⟩; have HT2 : Hid (Ts V3 (.slice (some ⟨gy, 0, none⟩) al.length cy) al ∧ Below V2.heap.size V2 V3) := ⟨ht, hb⟩; clear ht hb)
  clear c0 c1 c2 c3 c4
  have HQ2 : Hid (Blk (V3.alloc (.cells #[.int .i64 ak, .int .i64 an, .string az, .string am, (.slice (some ⟨gy, 0, none⟩) al.length cy)] 26)) w.heap.size #[.int .i64 pk, .int .i64 pn, .string ps, .string pm, x] 26 ∧ Blk (V3.alloc (.cells #[.int .i64 ak, .int .i64 an, .string az, .string am, (.slice (some ⟨gy, 0, none⟩) al.length cy)] 26)) (w.heap.size + 1) #[.int .i64 ak, .int .i64 an, .string az, .string am, y] 26 ∧ Below w.heap.size w (V3.alloc (.cells #[.int .i64 ak, .int .i64 an, .string az, .string am, (.slice (some ⟨gy, 0, none⟩) al.length cy)] 26)) ∧ Blk (V3.alloc (.cells #[.int .i64 ak, .int .i64 an, .string az, .string am, (.slice (some ⟨gy, 0, none⟩) al.length cy)] 26)) M1 #[.int .i64 pk, .int .i64 pn, .string ps, .string pm, (.slice (some ⟨gx, 0, none⟩) pl.length cx)] 26 ∧ Ts (V3.alloc (.cells #[.int .i64 ak, .int .i64 an, .string az, .string am, (.slice (some ⟨gy, 0, none⟩) al.length cy)] 26)) (.slice (some ⟨gx, 0, none⟩) pl.length cx) pl ∧ Blk (V3.alloc (.cells #[.int .i64 ak, .int .i64 an, .string az, .string am, (.slice (some ⟨gy, 0, none⟩) al.length cy)] 26)) V3.heap.size #[.int .i64 ak, .int .i64 an, .string az, .string am, (.slice (some ⟨gy, 0, none⟩) al.length cy)] 26 ∧ Ts (V3.alloc (.cells #[.int .i64 ak, .int .i64 an, .string az, .string am, (.slice (some ⟨gy, 0, none⟩) al.length cy)] 26)) (.slice (some ⟨gy, 0, none⟩) al.length cy) al) := ⟨(HQ1.out.1.later HT2.out.2).later (below1 _ _), (HQ1.out.2.1.later HT2.out.2).later (below1 _ _), below_step (below_step HQ1.out.2.2.1 HT2.out.2) (below1 _ _), (HQ1.out.2.2.2.1.later HT2.out.2).later (below1 _ _), (HQ1.out.2.2.2.2.later HT2.out.2).later (below1 _ _), Blk.new _ _ _, HT2.out.1.later (below1 _ _)⟩
  clear HQ1 HT2
  revert HQ2
  generalize V3.alloc (.cells #[.int .i64 ak, .int .i64 an, .string az, .string am, (.slice (some ⟨gy, 0, none⟩) al.length cy)] 26) = V4
  generalize V3.heap.size = M2
  intro HQ2
  go_upto_region 4 with (go_at_call 5; refine (HL3.out _ HQ2.out.2.2.1).mono ?_; clear HL3; rintro e V5 ⟨gb, cb, rfl, ht, hb⟩; have HK : Hid (Lk9 w M1 M2 #[.int .i64 pk, .int .i64 pn, .string ps, .string pm, x] #[.int .i64 ak, .int .i64 an, .string az, .string am, y] #[.int .i64 pk, .int .i64 pn, .string ps, .string pm, (.slice (some ⟨gx, 0, none⟩) pl.length cx)] #[.int .i64 ak, .int .i64 an, .string az, .string am, (.slice (some ⟨gy, 0, none⟩) al.length cy)] x y v (.slice (some ⟨gx, 0, none⟩) pl.length cx) (.slice (some ⟨gy, 0, none⟩) al.length cy) (.slice (some ⟨gb, 0, none⟩) s.length cb) pl al s V5) := ⟨HQ2.out.1.later hb, HQ2.out.2.1.later hb, HQ2.out.2.2.2.1.later hb, HQ2.out.2.2.2.2.2.1.later hb, HG.out.1.later (below_step HQ2.out.2.2.1 hb), HG.out.2.1.later (below_step HQ2.out.2.2.1 hb), HG.out.2.2.later (below_step HQ2.out.2.2.1 hb), HQ2.out.2.2.2.2.1.later hb, HQ2.out.2.2.2.2.2.2.later hb, ht, below_step HQ2.out.2.2.1 hb⟩; clear ht hb)
  clear HQ2
  obtain ⟨c0, c1, c2, c3, c4⟩ := five9 HK.out.p
  obtain ⟨d0, d1, d2, d3, d4⟩ := five9 HK.out.a
  obtain ⟨e0, e1, e2, e3, e4⟩ := five9 HK.out.e
  obtain ⟨f0, f1, f2, f3, f4⟩ := five9 HK.out.f
  go_upto_region 5 with (go_at_call 13; refine (HMA.out _ _ _ _ HK.out.tx HK.out.ty HK.out.tv).mono ?_; rintro e V6 ⟨⟨ra1, rc1, rfl, hq, hl⟩, hb⟩; have HR1 : Hid (Bs V6 (.slice ra1 lm.length rc1) lm) := Bf.bs hq hl; have HK9 : Hid (Lk9 w M1 M2 #[.int .i64 pk, .int .i64 pn, .string ps, .string pm, x] #[.int .i64 ak, .int .i64 an, .string az, .string am, y] #[.int .i64 pk, .int .i64 pn, .string ps, .string pm, (.slice (some ⟨gx, 0, none⟩) pl.length cx)] #[.int .i64 ak, .int .i64 an, .string az, .string am, (.slice (some ⟨gy, 0, none⟩) al.length cy)] x y v (.slice (some ⟨gx, 0, none⟩) pl.length cx) (.slice (some ⟨gy, 0, none⟩) al.length cy) (.slice (some ⟨gb, 0, none⟩) s.length cb) pl al s V6) := HK.out.later hb; clear HK; have HK := HK9; clear HK9; clear hq hl hb)
  clear c0 c1 c2 c3 c4 d0 d1 d2 d3 d4 e0 e1 e2 e3 e4 f0 f1 f2 f3 f4
  obtain ⟨c0, c1, c2, c3, c4⟩ := five9 HK.out.p
  obtain ⟨d0, d1, d2, d3, d4⟩ := five9 HK.out.a
  obtain ⟨e0, e1, e2, e3, e4⟩ := five9 HK.out.e
  obtain ⟨f0, f1, f2, f3, f4⟩ := five9 HK.out.f
  go_upto_region 6 with (go_at_call 13; refine (HMA.out _ _ _ _ HK.out.tx' HK.out.ty' HK.out.tv').mono ?_; rintro e V7 ⟨⟨ra2, rc2, rfl, hq, hl⟩, hb⟩; have HR2 : Hid (Bs V7 (.slice ra2 lm.length rc2) lm) := Bf.bs hq hl; have HK9 : Hid (Lk9 w M1 M2 #[.int .i64 pk, .int .i64 pn, .string ps, .string pm, x] #[.int .i64 ak, .int .i64 an, .string az, .string am, y] #[.int .i64 pk, .int .i64 pn, .string ps, .string pm, (.slice (some ⟨gx, 0, none⟩) pl.length cx)] #[.int .i64 ak, .int .i64 an, .string az, .string am, (.slice (some ⟨gy, 0, none⟩) al.length cy)] x y v (.slice (some ⟨gx, 0, none⟩) pl.length cx) (.slice (some ⟨gy, 0, none⟩) al.length cy) (.slice (some ⟨gb, 0, none⟩) s.length cb) pl al s V7) := HK.out.later hb; clear HK; have HK := HK9; clear HK9; have HR1 : Hid (Bs V7 (.slice ra1 lm.length rc1) lm) := HR1.out.later hb; clear hq hl hb)
  clear c0 c1 c2 c3 c4 d0 d1 d2 d3 d4 e0 e1 e2 e3 e4 f0 f1 f2 f3 f4
  obtain ⟨c0, c1, c2, c3, c4⟩ := five9 HK.out.p
  obtain ⟨d0, d1, d2, d3, d4⟩ := five9 HK.out.a
  obtain ⟨e0, e1, e2, e3, e4⟩ := five9 HK.out.e
  obtain ⟨f0, f1, f2, f3, f4⟩ := five9 HK.out.f
  go_upto_region 7 with (go_at_call 14; refine (HUN.out _ _ _ HK.out.tx HK.out.ty).mono ?_; rintro e V8 ⟨⟨ra3, rc3, rfl, hq, hl⟩, hb⟩; have HR3 : Hid (Bs V8 (.slice ra3 lu.length rc3) lu) := Bf.bs hq hl; have HK9 : Hid (Lk9 w M1 M2 #[.int .i64 pk, .int .i64 pn, .string ps, .string pm, x] #[.int .i64 ak, .int .i64 an, .string az, .string am, y] #[.int .i64 pk, .int .i64 pn, .string ps, .string pm, (.slice (some ⟨gx, 0, none⟩) pl.length cx)] #[.int .i64 ak, .int .i64 an, .string az, .string am, (.slice (some ⟨gy, 0, none⟩) al.length cy)] x y v (.slice (some ⟨gx, 0, none⟩) pl.length cx) (.slice (some ⟨gy, 0, none⟩) al.length cy) (.slice (some ⟨gb, 0, none⟩) s.length cb) pl al s V8) := HK.out.later hb; clear HK; have HK := HK9; clear HK9; have HR1 : Hid (Bs V8 (.slice ra1 lm.length rc1) lm) := HR1.out.later hb; have HR2 : Hid (Bs V8 (.slice ra2 lm.length rc2) lm) := HR2.out.later hb; clear hq hl hb)
  clear c0 c1 c2 c3 c4 d0 d1 d2 d3 d4 e0 e1 e2 e3 e4 f0 f1 f2 f3 f4
  obtain ⟨c0, c1, c2, c3, c4⟩ := five9 HK.out.p
  obtain ⟨d0, d1, d2, d3, d4⟩ := five9 HK.out.a
  obtain ⟨e0, e1, e2, e3, e4⟩ := five9 HK.out.e
  obtain ⟨f0, f1, f2, f3, f4⟩ := five9 HK.out.f
  go_upto_region 8 with (go_at_call 14; refine (HUN.out _ _ _ HK.out.tx' HK.out.ty').mono ?_; rintro e V9 ⟨⟨ra4, rc4, rfl, hq, hl⟩, hb⟩; have HR4 : Hid (Bs V9 (.slice ra4 lu.length rc4) lu) := Bf.bs hq hl; have HK9 : Hid (Lk9 w M1 M2 #[.int .i64 pk, .int .i64 pn, .string ps, .string pm, x] #[.int .i64 ak, .int .i64 an, .string az, .string am, y] #[.int .i64 pk, .int .i64 pn, .string ps, .string pm, (.slice (some ⟨gx, 0, none⟩) pl.length cx)] #[.int .i64 ak, .int .i64 an, .string az, .string am, (.slice (some ⟨gy, 0, none⟩) al.length cy)] x y v (.slice (some ⟨gx, 0, none⟩) pl.length cx) (.slice (some ⟨gy, 0, none⟩) al.length cy) (.slice (some ⟨gb, 0, none⟩) s.length cb) pl al s V9) := HK.out.later hb; clear HK; have HK := HK9; clear HK9; have HR1 : Hid (Bs V9 (.slice ra1 lm.length rc1) lm) := HR1.out.later hb; have HR2 : Hid (Bs V9 (.slice ra2 lm.length rc2) lm) := HR2.out.later hb; have HR3 : Hid (Bs V9 (.slice ra3 lu.length rc3) lu) := HR3.out.later hb; clear hq hl hb)
  clear c0 c1 c2 c3 c4 d0 d1 d2 d3 d4 e0 e1 e2 e3 e4 f0 f1 f2 f3 f4
  have HV : Hid (Below V9.heap.size V9 V9.drew) := (Below.refl _ _).drew
  refine wp_region_held_drew (S := fun w' => Blk w' w.heap.size #[.int .i64 pk, .int .i64 pn, .string ps, .string pm, x] 26 ∧ Blk w' (w.heap.size + 1) #[.int .i64 ak, .int .i64 an, .string az, .string am, y] 26 ∧ Blk w' M1 #[.int .i64 pk, .int .i64 pn, .string ps, .string pm, (.slice (some ⟨gx, 0, none⟩) pl.length cx)] 26 ∧ Blk w' M2 #[.int .i64 ak, .int .i64 an, .string az, .string am, (.slice (some ⟨gy, 0, none⟩) al.length cy)] 26) (by kernel_rfl) ⟨HK.out.p, HK.out.a, HK.out.e, HK.out.f⟩ (fun hH => ?_)
  have HK9 : Hid (Lk9 w M1 M2 #[.int .i64 pk, .int .i64 pn, .string ps, .string pm, x] #[.int .i64 ak, .int .i64 an, .string az, .string am, y] #[.int .i64 pk, .int .i64 pn, .string ps, .string pm, (.slice (some ⟨gx, 0, none⟩) pl.length cx)] #[.int .i64 ak, .int .i64 an, .string az, .string am, (.slice (some ⟨gy, 0, none⟩) al.length cy)] x y v (.slice (some ⟨gx, 0, none⟩) pl.length cx) (.slice (some ⟨gy, 0, none⟩) al.length cy) (.slice (some ⟨gb, 0, none⟩) s.length cb) pl al s V9.drew) := HK.out.later HV.out
  have HS1 : Hid (Bs V9.drew (.slice ra1 lm.length rc1) lm) := HR1.out.later HV.out
  have HS2 : Hid (Bs V9.drew (.slice ra2 lm.length rc2) lm) := HR2.out.later HV.out
  have HS3 : Hid (Bs V9.drew (.slice ra3 lu.length rc3) lu) := HR3.out.later HV.out
  have HS4 : Hid (Bs V9.drew (.slice ra4 lu.length rc4) lu) := HR4.out.later HV.out
  clear HK HV HR1 HR2 HR3 HR4
  revert hH HK9 HS1 HS2 HS3 HS4
  generalize V9.drew = W0
  intro hH HK HR1 HR2 HR3 HR4
  refine wpAnyH_take (i := 0) (oi := ⟨_, _, _, _, _, _⟩) (v := .bool bo) rfl (by kernel_rfl) (by kernel_rfl) (by kernel_rfl) (fun _ _ _ h => h) (Or.inl ⟨by rfl, fun w' h => by clear h; go_simp⟩) hH ?_
  simp only [Act.put, List.setIfInBounds_toArray, List.set_cons_zero, List.set_cons_succ]
  refine wpAnyH_take (i := 1) (oi := ⟨_, _, _, _, _, _⟩) (v := .bool bo) rfl (by kernel_rfl) (by kernel_rfl) (by kernel_rfl) (fun _ _ _ h => h) (Or.inl ⟨by rfl, fun w' h => by clear h; go_simp⟩) hH ?_
  simp only [Act.put, List.setIfInBounds_toArray, List.set_cons_zero, List.set_cons_succ]
  refine wpAnyH_take (i := 2) (oi := ⟨_, _, _, _, _, _⟩) (v := .bool false) rfl (by kernel_rfl) (by kernel_rfl) (by kernel_rfl) (fun _ _ _ h => h) (Or.inl ⟨by rfl, fun w' h => by clear h; go_simp⟩) hH ?_
  simp only [Act.put, List.setIfInBounds_toArray, List.set_cons_zero, List.set_cons_succ]
  refine wpAnyH_take (i := 3) (oi := ⟨_, _, _, _, _, _⟩) (v := .bool false) rfl (by kernel_rfl) (by kernel_rfl) (by kernel_rfl) (fun _ _ _ h => h) (Or.inl ⟨by rfl, fun w' h => by clear h; go_simp⟩) hH ?_
  simp only [Act.put, List.setIfInBounds_toArray, List.set_cons_zero, List.set_cons_succ]
  refine wpAnyH_take (i := 4) (oi := ⟨_, _, _, _, _, _⟩) (v := .bool bu) rfl (by kernel_rfl) (by kernel_rfl) (by kernel_rfl) (fun _ _ _ h => h) (Or.inl ⟨by rfl, fun w' h => by clear h; go_simp⟩) hH ?_
  simp only [Act.put, List.setIfInBounds_toArray, List.set_cons_zero, List.set_cons_succ]
  refine wpAnyH_take (i := 5) (oi := ⟨_, _, _, _, _, _⟩) (v := .bool bu) rfl (by kernel_rfl) (by kernel_rfl) (by kernel_rfl) (fun _ _ _ h => h) (Or.inl ⟨by rfl, fun w' h => by clear h; go_simp⟩) hH ?_
  simp only [Act.put, List.setIfInBounds_toArray, List.set_cons_zero, List.set_cons_succ]
  refine wpAnyH_take (i := 6) (oi := ⟨_, _, _, _, _, _⟩) (v := .bool false) rfl (by kernel_rfl) (by kernel_rfl) (by kernel_rfl) (fun _ _ _ h => h) (Or.inl ⟨by rfl, fun w' h => by clear h; go_simp⟩) hH ?_
  simp only [Act.put, List.setIfInBounds_toArray, List.set_cons_zero, List.set_cons_succ]
  refine wpAnyH_take (i := 7) (oi := ⟨_, _, _, _, _, _⟩) (v := .bool false) rfl (by kernel_rfl) (by kernel_rfl) (by kernel_rfl) (fun _ _ _ h => h) (Or.inl ⟨by rfl, fun w' h => by clear h; go_simp⟩) hH ?_
  simp only [Act.put, List.setIfInBounds_toArray, List.set_cons_zero, List.set_cons_succ]
  refine wpAnyH_take (i := 8) (oi := ⟨_, _, _, _, _, _⟩) (v := .bool false) rfl (by kernel_rfl) (by kernel_rfl) (by kernel_rfl) (fun _ _ _ h => h) (Or.inl ⟨by rfl, fun w' h => by clear h; go_simp⟩) hH ?_
  simp only [Act.put, List.setIfInBounds_toArray, List.set_cons_zero, List.set_cons_succ]
  refine wpAnyH_take (i := 9) (oi := ⟨_, _, _, _, _, _⟩) (v := .slice ra1 lm.length rc1) rfl (by kernel_rfl) (by kernel_rfl) (by kernel_rfl) (fun _ _ _ h => h) (Or.inl ⟨by rfl, fun w' h => by clear h; go_simp⟩) hH ?_
  simp only [Act.put, List.setIfInBounds_toArray, List.set_cons_zero, List.set_cons_succ]
  refine wpAnyH_take (i := 10) (oi := ⟨_, _, _, _, _, _⟩) (v := .slice ra2 lm.length rc2) rfl (by kernel_rfl) (by kernel_rfl) (by kernel_rfl) (fun _ _ _ h => h) (Or.inl ⟨by rfl, fun w' h => by clear h; go_simp⟩) hH ?_
  simp only [Act.put, List.setIfInBounds_toArray, List.set_cons_zero, List.set_cons_succ]
  refine wpAnyH_ready (rs := [11]) (by kernel_rfl) (by simp) ?_
  refine (AllReadyH.cons (o := ⟨_, _, _, _, _, _⟩) rfl (fun K hK => ?_) AllReadyH.nil)
  go_simp
  refine (HBD.out _ _ _ lm HR1.out HR2.out).mono ?_
  rintro e W1 ⟨rfl, hb⟩
  have HK9 : Hid (Lk9 w M1 M2 #[.int .i64 pk, .int .i64 pn, .string ps, .string pm, x] #[.int .i64 ak, .int .i64 an, .string az, .string am, y] #[.int .i64 pk, .int .i64 pn, .string ps, .string pm, (.slice (some ⟨gx, 0, none⟩) pl.length cx)] #[.int .i64 ak, .int .i64 an, .string az, .string am, (.slice (some ⟨gy, 0, none⟩) al.length cy)] x y v (.slice (some ⟨gx, 0, none⟩) pl.length cx) (.slice (some ⟨gy, 0, none⟩) al.length cy) (.slice (some ⟨gb, 0, none⟩) s.length cb) pl al s W1) := HK.out.later hb
  clear HK
  have HK := HK9
  clear HK9
  have HS9 : Hid (Bs W1 (.slice ra3 lu.length rc3) lu) := HR3.out.later hb
  clear HR3
  have HR3 := HS9
  clear HS9
  have HS9 : Hid (Bs W1 (.slice ra4 lu.length rc4) lu) := HR4.out.later hb
  clear HR4
  have HR4 := HS9
  clear HS9
  clear hH
  refine hK.out _ _ ⟨HK.out.p, HK.out.a, HK.out.e, HK.out.f⟩ (fun hH => ?_)
  clear hK K hb
  refine wpAnyH_take (i := 12) (oi := ⟨_, _, _, _, _, _⟩) (v := .bool false) rfl (by kernel_rfl) (by kernel_rfl) (by kernel_rfl) (fun _ _ _ h => h) (Or.inl ⟨by rfl, fun w' h => by clear h; go_simp⟩) hH ?_
  simp only [Act.put, List.setIfInBounds_toArray, List.set_cons_zero, List.set_cons_succ]
  refine wpAnyH_take (i := 13) (oi := ⟨_, _, _, _, _, _⟩) (v := .bool false) rfl (by kernel_rfl) (by kernel_rfl) (by kernel_rfl) (fun _ _ _ h => h) (Or.inl ⟨by rfl, fun w' h => by clear h; go_simp⟩) hH ?_
  simp only [Act.put, List.setIfInBounds_toArray, List.set_cons_zero, List.set_cons_succ]
  refine wpAnyH_take (i := 14) (oi := ⟨_, _, _, _, _, _⟩) (v := .bool false) rfl (by kernel_rfl) (by kernel_rfl) (by kernel_rfl) (fun _ _ _ h => h) (Or.inl ⟨by rfl, fun w' h => by clear h; go_simp⟩) hH ?_
  simp only [Act.put, List.setIfInBounds_toArray, List.set_cons_zero, List.set_cons_succ]
  refine wpAnyH_take (i := 15) (oi := ⟨_, _, _, _, _, _⟩) (v := .slice ra3 lu.length rc3) rfl (by kernel_rfl) (by kernel_rfl) (by kernel_rfl) (fun _ _ _ h => h) (Or.inl ⟨by rfl, fun w' h => by clear h; go_simp⟩) hH ?_
  simp only [Act.put, List.setIfInBounds_toArray, List.set_cons_zero, List.set_cons_succ]
  refine wpAnyH_take (i := 16) (oi := ⟨_, _, _, _, _, _⟩) (v := .slice ra4 lu.length rc4) rfl (by kernel_rfl) (by kernel_rfl) (by kernel_rfl) (fun _ _ _ h => h) (Or.inl ⟨by rfl, fun w' h => by clear h; go_simp⟩) hH ?_
  simp only [Act.put, List.setIfInBounds_toArray, List.set_cons_zero, List.set_cons_succ]
  refine wpAnyH_ready (rs := [17]) (by kernel_rfl) (by simp) ?_
  refine (AllReadyH.cons (o := ⟨_, _, _, _, _, _⟩) rfl (fun K hK => ?_) AllReadyH.nil)
  go_simp
  refine (HBD.out _ _ _ lu HR3.out HR4.out).mono ?_
  rintro e W2 ⟨rfl, hb⟩
  have HK9 : Hid (Lk9 w M1 M2 #[.int .i64 pk, .int .i64 pn, .string ps, .string pm, x] #[.int .i64 ak, .int .i64 an, .string az, .string am, y] #[.int .i64 pk, .int .i64 pn, .string ps, .string pm, (.slice (some ⟨gx, 0, none⟩) pl.length cx)] #[.int .i64 ak, .int .i64 an, .string az, .string am, (.slice (some ⟨gy, 0, none⟩) al.length cy)] x y v (.slice (some ⟨gx, 0, none⟩) pl.length cx) (.slice (some ⟨gy, 0, none⟩) al.length cy) (.slice (some ⟨gb, 0, none⟩) s.length cb) pl al s W2) := HK.out.later hb
  clear HK
  have HK := HK9
  clear HK9
  clear hH
  refine hK.out _ _ ⟨HK.out.p, HK.out.a, HK.out.e, HK.out.f⟩ (fun hH => ?_)
  clear hK K hb
  refine wpAnyH_take (i := 18) (oi := ⟨_, _, _, _, _, _⟩) (v := .bool false) rfl (by kernel_rfl) (by kernel_rfl) (by kernel_rfl) (fun _ _ _ h => h) (Or.inl ⟨by rfl, fun w' h => by clear h; go_simp⟩) hH ?_
  simp only [Act.put, List.setIfInBounds_toArray, List.set_cons_zero, List.set_cons_succ]
  refine wpAnyH_take (i := 19) (oi := ⟨_, _, _, _, _, _⟩) (v := .bool false) rfl (by kernel_rfl) (by kernel_rfl) (by kernel_rfl) (fun _ _ _ h => h) (Or.inl ⟨by rfl, fun w' h => by clear h; go_simp⟩) hH ?_
  simp only [Act.put, List.setIfInBounds_toArray, List.set_cons_zero, List.set_cons_succ]
  refine wpAnyH_take (i := 20) (oi := ⟨_, _, _, _, _, _⟩) (v := .bool false) rfl (by kernel_rfl) (by kernel_rfl) (by kernel_rfl) (fun _ _ _ h => h) (Or.inl ⟨by rfl, fun w' h => by clear h; go_simp⟩) hH ?_
  simp only [Act.put, List.setIfInBounds_toArray, List.set_cons_zero, List.set_cons_succ]
  refine wpAnyH_take (i := 21) (oi := ⟨_, _, _, _, _, _⟩) (v := .agg #[.int .i64 pk, .int .i64 pn, .string ps, .string pm, x]) rfl (by kernel_rfl) (by kernel_rfl) (by kernel_rfl) (fun _ _ _ h => h) (Or.inl ⟨by rfl, fun w' h => by obtain ⟨c0, c1, c2, c3, c4⟩ := five9 h.1; clear h; go_simp⟩) hH ?_
  simp only [Act.put, List.setIfInBounds_toArray, List.set_cons_zero, List.set_cons_succ]
  refine wpAnyH_take (i := 22) (oi := ⟨_, _, _, _, _, _⟩) (v := .agg #[.int .i64 ak, .int .i64 an, .string az, .string am, y]) rfl (by kernel_rfl) (by kernel_rfl) (by kernel_rfl) (fun _ _ _ h => h) (Or.inl ⟨by rfl, fun w' h => by obtain ⟨c0, c1, c2, c3, c4⟩ := five9 h.2.1; clear h; go_simp⟩) hH ?_
  simp only [Act.put, List.setIfInBounds_toArray, List.set_cons_zero, List.set_cons_succ]
  refine wpAnyH_take (i := 24) (oi := ⟨_, _, _, _, _, _⟩) (v := .agg #[.int .i64 pk, .int .i64 pn, .string ps, .string pm, (.slice (some ⟨gx, 0, none⟩) pl.length cx)]) rfl (by kernel_rfl) (by kernel_rfl) (by kernel_rfl) (fun _ _ _ h => h) (Or.inl ⟨by rfl, fun w' h => by obtain ⟨c0, c1, c2, c3, c4⟩ := five9 h.2.2.1; clear h; go_simp⟩) hH ?_
  simp only [Act.put, List.setIfInBounds_toArray, List.set_cons_zero, List.set_cons_succ]
  refine wpAnyH_take (i := 25) (oi := ⟨_, _, _, _, _, _⟩) (v := .agg #[.int .i64 ak, .int .i64 an, .string az, .string am, (.slice (some ⟨gy, 0, none⟩) al.length cy)]) rfl (by kernel_rfl) (by kernel_rfl) (by kernel_rfl) (fun _ _ _ h => h) (Or.inl ⟨by rfl, fun w' h => by obtain ⟨c0, c1, c2, c3, c4⟩ := five9 h.2.2.2; clear h; go_simp⟩) hH ?_
  simp only [Act.put, List.setIfInBounds_toArray, List.set_cons_zero, List.set_cons_succ]
  refine wpAnyH_ready (rs := [23]) (by kernel_rfl) (by simp) ?_
  refine (AllReadyH.cons (o := ⟨_, _, _, _, _, _⟩) rfl (fun K hK => ?_) AllReadyH.nil)
  go_simp
  refine (HCM.out _ _ _ HK.out.tx HK.out.ty).mono ?_
  rintro e W3 ⟨rfl, hb⟩
  have HK9 : Hid (Lk9 w M1 M2 #[.int .i64 pk, .int .i64 pn, .string ps, .string pm, x] #[.int .i64 ak, .int .i64 an, .string az, .string am, y] #[.int .i64 pk, .int .i64 pn, .string ps, .string pm, (.slice (some ⟨gx, 0, none⟩) pl.length cx)] #[.int .i64 ak, .int .i64 an, .string az, .string am, (.slice (some ⟨gy, 0, none⟩) al.length cy)] x y v (.slice (some ⟨gx, 0, none⟩) pl.length cx) (.slice (some ⟨gy, 0, none⟩) al.length cy) (.slice (some ⟨gb, 0, none⟩) s.length cb) pl al s W3) := HK.out.later hb
  clear HK
  have HK := HK9
  clear HK9
  clear hH
  refine hK.out _ _ ⟨HK.out.p, HK.out.a, HK.out.e, HK.out.f⟩ (fun hH => ?_)
  clear hK K hb
  refine wpAnyH_ready (rs := [26]) (by kernel_rfl) (by simp) ?_
  refine (AllReadyH.cons (o := ⟨_, _, _, _, _, _⟩) rfl (fun K hK => ?_) AllReadyH.nil)
  go_simp
  refine (HCM.out _ _ _ HK.out.tx' HK.out.ty').mono ?_
  rintro e W4 ⟨rfl, hb⟩
  have HK9 : Hid (Lk9 w M1 M2 #[.int .i64 pk, .int .i64 pn, .string ps, .string pm, x] #[.int .i64 ak, .int .i64 an, .string az, .string am, y] #[.int .i64 pk, .int .i64 pn, .string ps, .string pm, (.slice (some ⟨gx, 0, none⟩) pl.length cx)] #[.int .i64 ak, .int .i64 an, .string az, .string am, (.slice (some ⟨gy, 0, none⟩) al.length cy)] x y v (.slice (some ⟨gx, 0, none⟩) pl.length cx) (.slice (some ⟨gy, 0, none⟩) al.length cy) (.slice (some ⟨gb, 0, none⟩) s.length cb) pl al s W4) := HK.out.later hb
  clear HK
  have HK := HK9
  clear HK9
  clear hH
  refine hK.out _ _ ⟨HK.out.p, HK.out.a, HK.out.e, HK.out.f⟩ (fun hH => ?_)
  clear hK K hb
  refine wpAnyH_take (i := 27) (oi := ⟨_, _, _, _, _, _⟩) (v := .bool false) rfl (by kernel_rfl) (by kernel_rfl) (by kernel_rfl) (fun _ _ _ h => h) (Or.inl ⟨by rfl, fun w' h => by clear h; go_simp⟩) hH ?_
  simp only [Act.put, List.setIfInBounds_toArray, List.set_cons_zero, List.set_cons_succ]
  refine wpAnyH_take (i := 28) (oi := ⟨_, _, _, _, _, _⟩) (v := .bool false) rfl (by kernel_rfl) (by kernel_rfl) (by kernel_rfl) (fun _ _ _ h => h) (Or.inl ⟨by rfl, fun w' h => by clear h; go_simp⟩) hH ?_
  simp only [Act.put, List.setIfInBounds_toArray, List.set_cons_zero, List.set_cons_succ]
  refine wpAnyH_done (by kernel_rfl) ?_ _
  clear hH
  go_upto_region 10 with fail
  have HV : Hid (Below W4.heap.size W4 W4.drew) := (Below.refl _ _).drew
  refine wp_region_held_drew (S := fun w' => Blk w' w.heap.size #[.int .i64 pk, .int .i64 pn, .string ps, .string pm, x] 26 ∧ Blk w' (w.heap.size + 1) #[.int .i64 ak, .int .i64 an, .string az, .string am, y] 26 ∧ Blk w' M1 #[.int .i64 pk, .int .i64 pn, .string ps, .string pm, (.slice (some ⟨gx, 0, none⟩) pl.length cx)] 26 ∧ Blk w' M2 #[.int .i64 ak, .int .i64 an, .string az, .string am, (.slice (some ⟨gy, 0, none⟩) al.length cy)] 26) (by kernel_rfl) ⟨HK.out.p, HK.out.a, HK.out.e, HK.out.f⟩ (fun hH => ?_)
  have HK9 : Hid (Lk9 w M1 M2 #[.int .i64 pk, .int .i64 pn, .string ps, .string pm, x] #[.int .i64 ak, .int .i64 an, .string az, .string am, y] #[.int .i64 pk, .int .i64 pn, .string ps, .string pm, (.slice (some ⟨gx, 0, none⟩) pl.length cx)] #[.int .i64 ak, .int .i64 an, .string az, .string am, (.slice (some ⟨gy, 0, none⟩) al.length cy)] x y v (.slice (some ⟨gx, 0, none⟩) pl.length cx) (.slice (some ⟨gy, 0, none⟩) al.length cy) (.slice (some ⟨gb, 0, none⟩) s.length cb) pl al s W4.drew) := HK.out.later HV.out
  clear HK HV
  revert hH HK9
  generalize W4.drew = Y0
  intro hH HK
  refine wpAnyH_take (i := 0) (oi := ⟨_, _, _, _, _, _⟩) (v := v) rfl (by kernel_rfl) (by kernel_rfl) (by kernel_rfl) (fun _ _ _ h => h) (Or.inl ⟨by rfl, fun w' h => by clear h; go_simp⟩) hH ?_
  simp only [Act.put, List.setIfInBounds_toArray, List.set_cons_zero, List.set_cons_succ]
  refine wpAnyH_take (i := 1) (oi := ⟨_, _, _, _, _, _⟩) (v := .agg #[.int .i64 pk, .int .i64 pn, .string ps, .string pm, x]) rfl (by kernel_rfl) (by kernel_rfl) (by kernel_rfl) (fun _ _ _ h => h) (Or.inl ⟨by rfl, fun w' h => by obtain ⟨c0, c1, c2, c3, c4⟩ := five9 h.1; clear h; go_simp⟩) hH ?_
  simp only [Act.put, List.setIfInBounds_toArray, List.set_cons_zero, List.set_cons_succ]
  refine wpAnyH_take (i := 3) (oi := ⟨_, _, _, _, _, _⟩) (v := (.slice (some ⟨gb, 0, none⟩) s.length cb)) rfl (by kernel_rfl) (by kernel_rfl) (by kernel_rfl) (fun _ _ _ h => h) (Or.inl ⟨by rfl, fun w' h => by clear h; go_simp⟩) hH ?_
  simp only [Act.put, List.setIfInBounds_toArray, List.set_cons_zero, List.set_cons_succ]
  refine wpAnyH_take (i := 4) (oi := ⟨_, _, _, _, _, _⟩) (v := .agg #[.int .i64 pk, .int .i64 pn, .string ps, .string pm, (.slice (some ⟨gx, 0, none⟩) pl.length cx)]) rfl (by kernel_rfl) (by kernel_rfl) (by kernel_rfl) (fun _ _ _ h => h) (Or.inl ⟨by rfl, fun w' h => by obtain ⟨c0, c1, c2, c3, c4⟩ := five9 h.2.2.1; clear h; go_simp⟩) hH ?_
  simp only [Act.put, List.setIfInBounds_toArray, List.set_cons_zero, List.set_cons_succ]
  refine wpAnyH_ready (rs := [2]) (by kernel_rfl) (by simp) ?_
  refine (AllReadyH.cons (o := ⟨_, _, _, _, _, _⟩) rfl (fun K hK => ?_) AllReadyH.nil)
  go_simp
  refine (HAP.out _ _ _ HK.out.tx HK.out.tv).mono ?_
  rintro e Y1 ⟨u1, rfl, hu, hb⟩
  have HK9 : Hid (Lk9 w M1 M2 #[.int .i64 pk, .int .i64 pn, .string ps, .string pm, x] #[.int .i64 ak, .int .i64 an, .string az, .string am, y] #[.int .i64 pk, .int .i64 pn, .string ps, .string pm, (.slice (some ⟨gx, 0, none⟩) pl.length cx)] #[.int .i64 ak, .int .i64 an, .string az, .string am, (.slice (some ⟨gy, 0, none⟩) al.length cy)] x y v (.slice (some ⟨gx, 0, none⟩) pl.length cx) (.slice (some ⟨gy, 0, none⟩) al.length cy) (.slice (some ⟨gb, 0, none⟩) s.length cb) pl al s Y1) := HK.out.later hb
  clear HK
  have HK := HK9
  clear HK9
  have HU1 : Hid (Ts Y1 u1 ml) := hu
  clear hH
  refine hK.out _ _ ⟨HK.out.p, HK.out.a, HK.out.e, HK.out.f⟩ (fun hH => ?_)
  clear hK K hb hu
  refine wpAnyH_ready (rs := [5]) (by kernel_rfl) (by simp) ?_
  refine (AllReadyH.cons (o := ⟨_, _, _, _, _, _⟩) rfl (fun K hK => ?_) AllReadyH.nil)
  go_simp
  refine (HAP.out _ _ _ HK.out.tx' HK.out.tv').mono ?_
  rintro e Y2 ⟨u2, rfl, hu, hb⟩
  have HK9 : Hid (Lk9 w M1 M2 #[.int .i64 pk, .int .i64 pn, .string ps, .string pm, x] #[.int .i64 ak, .int .i64 an, .string az, .string am, y] #[.int .i64 pk, .int .i64 pn, .string ps, .string pm, (.slice (some ⟨gx, 0, none⟩) pl.length cx)] #[.int .i64 ak, .int .i64 an, .string az, .string am, (.slice (some ⟨gy, 0, none⟩) al.length cy)] x y v (.slice (some ⟨gx, 0, none⟩) pl.length cx) (.slice (some ⟨gy, 0, none⟩) al.length cy) (.slice (some ⟨gb, 0, none⟩) s.length cb) pl al s Y2) := HK.out.later hb
  clear HK
  have HK := HK9
  clear HK9
  have HU2 : Hid (Ts Y2 u2 ml ∧ Ts Y2 u1 ml) := ⟨hu, HU1.out.later hb⟩
  clear hH
  refine hK.out _ _ ⟨HK.out.p, HK.out.a, HK.out.e, HK.out.f⟩ (fun hH => ?_)
  clear hK K hb hu
  refine wpAnyH_ready (rs := [6]) (by kernel_rfl) (by simp) ?_
  refine (AllReadyH.cons (o := ⟨_, _, _, _, _, _⟩) rfl (fun K hK => ?_) AllReadyH.nil)
  go_simp
  refine (HSA.out _ _ _ HU2.out.2 HU2.out.1).mono ?_
  rintro e Y3 ⟨rfl, hb⟩
  have HK9 : Hid (Lk9 w M1 M2 #[.int .i64 pk, .int .i64 pn, .string ps, .string pm, x] #[.int .i64 ak, .int .i64 an, .string az, .string am, y] #[.int .i64 pk, .int .i64 pn, .string ps, .string pm, (.slice (some ⟨gx, 0, none⟩) pl.length cx)] #[.int .i64 ak, .int .i64 an, .string az, .string am, (.slice (some ⟨gy, 0, none⟩) al.length cy)] x y v (.slice (some ⟨gx, 0, none⟩) pl.length cx) (.slice (some ⟨gy, 0, none⟩) al.length cy) (.slice (some ⟨gb, 0, none⟩) s.length cb) pl al s Y3) := HK.out.later hb
  clear HK
  have HK := HK9
  clear HK9
  clear hH
  refine hK.out _ _ ⟨HK.out.p, HK.out.a, HK.out.e, HK.out.f⟩ (fun hH => ?_)
  clear hK K hb
  refine wpAnyH_take (i := 7) (oi := ⟨_, _, _, _, _, _⟩) (v := .bool true) rfl (by kernel_rfl) (by kernel_rfl) (by kernel_rfl) (fun _ _ _ h => h) (Or.inl ⟨by rfl, fun w' h => by clear h; go_simp⟩) hH ?_
  simp only [Act.put, List.setIfInBounds_toArray, List.set_cons_zero, List.set_cons_succ]
  refine wpAnyH_take (i := 8) (oi := ⟨_, _, _, _, _, _⟩) (v := .agg #[.int .i64 pk, .int .i64 pn, .string ps, .string pm, x]) rfl (by kernel_rfl) (by kernel_rfl) (by kernel_rfl) (fun _ _ _ h => h) (Or.inl ⟨by rfl, fun w' h => by obtain ⟨c0, c1, c2, c3, c4⟩ := five9 h.1; clear h; go_simp⟩) hH ?_
  simp only [Act.put, List.setIfInBounds_toArray, List.set_cons_zero, List.set_cons_succ]
  refine wpAnyH_take (i := 10) (oi := ⟨_, _, _, _, _, _⟩) (v := .agg #[.int .i64 pk, .int .i64 pn, .string ps, .string pm, (.slice (some ⟨gx, 0, none⟩) pl.length cx)]) rfl (by kernel_rfl) (by kernel_rfl) (by kernel_rfl) (fun _ _ _ h => h) (Or.inl ⟨by rfl, fun w' h => by obtain ⟨c0, c1, c2, c3, c4⟩ := five9 h.2.2.1; clear h; go_simp⟩) hH ?_
  simp only [Act.put, List.setIfInBounds_toArray, List.set_cons_zero, List.set_cons_succ]
  refine wpAnyH_ready (rs := [9]) (by kernel_rfl) (by simp) ?_
  refine (AllReadyH.cons (o := ⟨_, _, _, _, _, _⟩) rfl (fun K hK => ?_) AllReadyH.nil)
  go_simp
  refine (HVA.out _ _ HK.out.tx).mono ?_
  rintro e Y4 ⟨i1, rfl, hu, hb⟩
  have HK9 : Hid (Lk9 w M1 M2 #[.int .i64 pk, .int .i64 pn, .string ps, .string pm, x] #[.int .i64 ak, .int .i64 an, .string az, .string am, y] #[.int .i64 pk, .int .i64 pn, .string ps, .string pm, (.slice (some ⟨gx, 0, none⟩) pl.length cx)] #[.int .i64 ak, .int .i64 an, .string az, .string am, (.slice (some ⟨gy, 0, none⟩) al.length cy)] x y v (.slice (some ⟨gx, 0, none⟩) pl.length cx) (.slice (some ⟨gy, 0, none⟩) al.length cy) (.slice (some ⟨gb, 0, none⟩) s.length cb) pl al s Y4) := HK.out.later hb
  clear HK
  have HK := HK9
  clear HK9
  have HI1 : Hid (OwnI Y4 Y3.heap.size i1 LP) := hu
  clear hH
  refine hK.out _ _ ⟨HK.out.p, HK.out.a, HK.out.e, HK.out.f⟩ (fun hH => ?_)
  clear hK K hb hu
  refine wpAnyH_ready (rs := [11]) (by kernel_rfl) (by simp) ?_
  refine (AllReadyH.cons (o := ⟨_, _, _, _, _, _⟩) rfl (fun K hK => ?_) AllReadyH.nil)
  go_simp
  refine (HVA.out _ _ HK.out.tx').mono ?_
  rintro e Y5 ⟨i2, rfl, hu, hb⟩
  have HK9 : Hid (Lk9 w M1 M2 #[.int .i64 pk, .int .i64 pn, .string ps, .string pm, x] #[.int .i64 ak, .int .i64 an, .string az, .string am, y] #[.int .i64 pk, .int .i64 pn, .string ps, .string pm, (.slice (some ⟨gx, 0, none⟩) pl.length cx)] #[.int .i64 ak, .int .i64 an, .string az, .string am, (.slice (some ⟨gy, 0, none⟩) al.length cy)] x y v (.slice (some ⟨gx, 0, none⟩) pl.length cx) (.slice (some ⟨gy, 0, none⟩) al.length cy) (.slice (some ⟨gb, 0, none⟩) s.length cb) pl al s Y5) := HK.out.later hb
  clear HK
  have HK := HK9
  clear HK9
  have HI2 : Hid (OwnI Y5 Y3.heap.size i1 LP ∧ OwnI Y5 Y4.heap.size i2 LP) := ⟨own_kept HI1.out (gb_below hb) (fun b _ e => by cases e), hu⟩
  clear hH
  refine hK.out _ _ ⟨HK.out.p, HK.out.a, HK.out.e, HK.out.f⟩ (fun hH => ?_)
  clear hK K hb hu
  refine wpAnyH_ready (rs := [12]) (by kernel_rfl) (by simp) ?_
  refine (AllReadyH.cons (o := ⟨_, _, _, _, _, _⟩) rfl (fun K hK => ?_) AllReadyH.nil)
  go_simp
  refine (HIN.out _ _ _ _ _ HI2.out.1 HI2.out.2).mono ?_
  rintro e Y6 ⟨rfl, hb⟩
  have HK9 : Hid (Lk9 w M1 M2 #[.int .i64 pk, .int .i64 pn, .string ps, .string pm, x] #[.int .i64 ak, .int .i64 an, .string az, .string am, y] #[.int .i64 pk, .int .i64 pn, .string ps, .string pm, (.slice (some ⟨gx, 0, none⟩) pl.length cx)] #[.int .i64 ak, .int .i64 an, .string az, .string am, (.slice (some ⟨gy, 0, none⟩) al.length cy)] x y v (.slice (some ⟨gx, 0, none⟩) pl.length cx) (.slice (some ⟨gy, 0, none⟩) al.length cy) (.slice (some ⟨gb, 0, none⟩) s.length cb) pl al s Y6) := HK.out.later hb
  clear HK
  have HK := HK9
  clear HK9
  clear hH
  refine hK.out _ _ ⟨HK.out.p, HK.out.a, HK.out.e, HK.out.f⟩ (fun hH => ?_)
  clear hK K hb
  refine wpAnyH_take (i := 13) (oi := ⟨_, _, _, _, _, _⟩) (v := .bool true) rfl (by kernel_rfl) (by kernel_rfl) (by kernel_rfl) (fun _ _ _ h => h) (Or.inl ⟨by rfl, fun w' h => by clear h; go_simp⟩) hH ?_
  simp only [Act.put, List.setIfInBounds_toArray, List.set_cons_zero, List.set_cons_succ]
  refine wpAnyH_take (i := 14) (oi := ⟨_, _, _, _, _, _⟩) (v := .bool true) rfl (by kernel_rfl) (by kernel_rfl) (by kernel_rfl) (fun _ _ _ h => h) (Or.inl ⟨by rfl, fun w' h => by clear h; go_simp⟩) hH ?_
  simp only [Act.put, List.setIfInBounds_toArray, List.set_cons_zero, List.set_cons_succ]
  refine wpAnyH_take (i := 15) (oi := ⟨_, _, _, _, _, _⟩) (v := .agg #[.int .i64 pk, .int .i64 pn, .string ps, .string pm, x]) rfl (by kernel_rfl) (by kernel_rfl) (by kernel_rfl) (fun _ _ _ h => h) (Or.inl ⟨by rfl, fun w' h => by obtain ⟨c0, c1, c2, c3, c4⟩ := five9 h.1; clear h; go_simp⟩) hH ?_
  simp only [Act.put, List.setIfInBounds_toArray, List.set_cons_zero, List.set_cons_succ]
  refine wpAnyH_take (i := 17) (oi := ⟨_, _, _, _, _, _⟩) (v := .agg #[.int .i64 pk, .int .i64 pn, .string ps, .string pm, (.slice (some ⟨gx, 0, none⟩) pl.length cx)]) rfl (by kernel_rfl) (by kernel_rfl) (by kernel_rfl) (fun _ _ _ h => h) (Or.inl ⟨by rfl, fun w' h => by obtain ⟨c0, c1, c2, c3, c4⟩ := five9 h.2.2.1; clear h; go_simp⟩) hH ?_
  simp only [Act.put, List.setIfInBounds_toArray, List.set_cons_zero, List.set_cons_succ]
  refine wpAnyH_ready (rs := [16]) (by kernel_rfl) (by simp) ?_
  refine (AllReadyH.cons (o := ⟨_, _, _, _, _, _⟩) rfl (fun K hK => ?_) AllReadyH.nil)
  go_simp
  refine (HCK.out _ _ HK.out.tx).mono ?_
  rintro e Y7 ⟨rfl, hb⟩
  have HK9 : Hid (Lk9 w M1 M2 #[.int .i64 pk, .int .i64 pn, .string ps, .string pm, x] #[.int .i64 ak, .int .i64 an, .string az, .string am, y] #[.int .i64 pk, .int .i64 pn, .string ps, .string pm, (.slice (some ⟨gx, 0, none⟩) pl.length cx)] #[.int .i64 ak, .int .i64 an, .string az, .string am, (.slice (some ⟨gy, 0, none⟩) al.length cy)] x y v (.slice (some ⟨gx, 0, none⟩) pl.length cx) (.slice (some ⟨gy, 0, none⟩) al.length cy) (.slice (some ⟨gb, 0, none⟩) s.length cb) pl al s Y7) := HK.out.later hb
  clear HK
  have HK := HK9
  clear HK9
  clear hH
  refine hK.out _ _ ⟨HK.out.p, HK.out.a, HK.out.e, HK.out.f⟩ (fun hH => ?_)
  clear hK K hb
  refine wpAnyH_ready (rs := [18]) (by kernel_rfl) (by simp) ?_
  refine (AllReadyH.cons (o := ⟨_, _, _, _, _, _⟩) rfl (fun K hK => ?_) AllReadyH.nil)
  go_simp
  refine (HCK.out _ _ HK.out.tx').mono ?_
  rintro e Y8 ⟨rfl, hb⟩
  have HK9 : Hid (Lk9 w M1 M2 #[.int .i64 pk, .int .i64 pn, .string ps, .string pm, x] #[.int .i64 ak, .int .i64 an, .string az, .string am, y] #[.int .i64 pk, .int .i64 pn, .string ps, .string pm, (.slice (some ⟨gx, 0, none⟩) pl.length cx)] #[.int .i64 ak, .int .i64 an, .string az, .string am, (.slice (some ⟨gy, 0, none⟩) al.length cy)] x y v (.slice (some ⟨gx, 0, none⟩) pl.length cx) (.slice (some ⟨gy, 0, none⟩) al.length cy) (.slice (some ⟨gb, 0, none⟩) s.length cb) pl al s Y8) := HK.out.later hb
  clear HK
  have HK := HK9
  clear HK9
  clear hH
  refine hK.out _ _ ⟨HK.out.p, HK.out.a, HK.out.e, HK.out.f⟩ (fun hH => ?_)
  clear hK K hb
  refine wpAnyH_take (i := 19) (oi := ⟨_, _, _, _, _, _⟩) (v := .bool true) rfl (by kernel_rfl) (by kernel_rfl) (by kernel_rfl) (fun _ _ _ h => h) (Or.inl ⟨by rfl, fun w' h => by clear h; go_simp⟩) hH ?_
  simp only [Act.put, List.setIfInBounds_toArray, List.set_cons_zero, List.set_cons_succ]
  refine wpAnyH_take (i := 20) (oi := ⟨_, _, _, _, _, _⟩) (v := .bool true) rfl (by kernel_rfl) (by kernel_rfl) (by kernel_rfl) (fun _ _ _ h => h) (Or.inl ⟨by rfl, fun w' h => by clear h; go_simp⟩) hH ?_
  simp only [Act.put, List.setIfInBounds_toArray, List.set_cons_zero, List.set_cons_succ]
  refine wpAnyH_take (i := 21) (oi := ⟨_, _, _, _, _, _⟩) (v := .bool true) rfl (by kernel_rfl) (by kernel_rfl) (by kernel_rfl) (fun _ _ _ h => h) (Or.inl ⟨by rfl, fun w' h => by clear h; go_simp⟩) hH ?_
  simp only [Act.put, List.setIfInBounds_toArray, List.set_cons_zero, List.set_cons_succ]
  refine wpAnyH_take (i := 22) (oi := ⟨_, _, _, _, _, _⟩) (v := .agg #[.int .i64 pk, .int .i64 pn, .string ps, .string pm, x]) rfl (by kernel_rfl) (by kernel_rfl) (by kernel_rfl) (fun _ _ _ h => h) (Or.inl ⟨by rfl, fun w' h => by obtain ⟨c0, c1, c2, c3, c4⟩ := five9 h.1; clear h; go_simp⟩) hH ?_
  simp only [Act.put, List.setIfInBounds_toArray, List.set_cons_zero, List.set_cons_succ]
  refine wpAnyH_take (i := 24) (oi := ⟨_, _, _, _, _, _⟩) (v := .agg #[.int .i64 pk, .int .i64 pn, .string ps, .string pm, (.slice (some ⟨gx, 0, none⟩) pl.length cx)]) rfl (by kernel_rfl) (by kernel_rfl) (by kernel_rfl) (fun _ _ _ h => h) (Or.inl ⟨by rfl, fun w' h => by obtain ⟨c0, c1, c2, c3, c4⟩ := five9 h.2.2.1; clear h; go_simp⟩) hH ?_
  simp only [Act.put, List.setIfInBounds_toArray, List.set_cons_zero, List.set_cons_succ]
  refine wpAnyH_ready (rs := [23]) (by kernel_rfl) (by simp) ?_
  refine (AllReadyH.cons (o := ⟨_, _, _, _, _, _⟩) rfl (fun K hK => ?_) AllReadyH.nil)
  go_simp
  refine (HFA.out _ _ HK.out.tx).mono ?_
  rintro e Y9 ⟨rfl, hb⟩
  have HK9 : Hid (Lk9 w M1 M2 #[.int .i64 pk, .int .i64 pn, .string ps, .string pm, x] #[.int .i64 ak, .int .i64 an, .string az, .string am, y] #[.int .i64 pk, .int .i64 pn, .string ps, .string pm, (.slice (some ⟨gx, 0, none⟩) pl.length cx)] #[.int .i64 ak, .int .i64 an, .string az, .string am, (.slice (some ⟨gy, 0, none⟩) al.length cy)] x y v (.slice (some ⟨gx, 0, none⟩) pl.length cx) (.slice (some ⟨gy, 0, none⟩) al.length cy) (.slice (some ⟨gb, 0, none⟩) s.length cb) pl al s Y9) := HK.out.later hb
  clear HK
  have HK := HK9
  clear HK9
  clear hH
  refine hK.out _ _ ⟨HK.out.p, HK.out.a, HK.out.e, HK.out.f⟩ (fun hH => ?_)
  clear hK K hb
  refine wpAnyH_ready (rs := [25]) (by kernel_rfl) (by simp) ?_
  refine (AllReadyH.cons (o := ⟨_, _, _, _, _, _⟩) rfl (fun K hK => ?_) AllReadyH.nil)
  go_simp
  refine (HFA.out _ _ HK.out.tx').mono ?_
  rintro e Y10 ⟨rfl, hb⟩
  have HK9 : Hid (Lk9 w M1 M2 #[.int .i64 pk, .int .i64 pn, .string ps, .string pm, x] #[.int .i64 ak, .int .i64 an, .string az, .string am, y] #[.int .i64 pk, .int .i64 pn, .string ps, .string pm, (.slice (some ⟨gx, 0, none⟩) pl.length cx)] #[.int .i64 ak, .int .i64 an, .string az, .string am, (.slice (some ⟨gy, 0, none⟩) al.length cy)] x y v (.slice (some ⟨gx, 0, none⟩) pl.length cx) (.slice (some ⟨gy, 0, none⟩) al.length cy) (.slice (some ⟨gb, 0, none⟩) s.length cb) pl al s Y10) := HK.out.later hb
  clear HK
  have HK := HK9
  clear HK9
  clear hH
  refine hK.out _ _ ⟨HK.out.p, HK.out.a, HK.out.e, HK.out.f⟩ (fun hH => ?_)
  clear hK K hb
  refine wpAnyH_take (i := 26) (oi := ⟨_, _, _, _, _, _⟩) (v := .bool true) rfl (by kernel_rfl) (by kernel_rfl) (by kernel_rfl) (fun _ _ _ h => h) (Or.inl ⟨by rfl, fun w' h => by clear h; go_simp⟩) hH ?_
  simp only [Act.put, List.setIfInBounds_toArray, List.set_cons_zero, List.set_cons_succ]
  refine wpAnyH_take (i := 27) (oi := ⟨_, _, _, _, _, _⟩) (v := .bool true) rfl (by kernel_rfl) (by kernel_rfl) (by kernel_rfl) (fun _ _ _ h => h) (Or.inl ⟨by rfl, fun w' h => by clear h; go_simp⟩) hH ?_
  simp only [Act.put, List.setIfInBounds_toArray, List.set_cons_zero, List.set_cons_succ]
  refine wpAnyH_take (i := 28) (oi := ⟨_, _, _, _, _, _⟩) (v := .bool true) rfl (by kernel_rfl) (by kernel_rfl) (by kernel_rfl) (fun _ _ _ h => h) (Or.inl ⟨by rfl, fun w' h => by clear h; go_simp⟩) hH ?_
  simp only [Act.put, List.setIfInBounds_toArray, List.set_cons_zero, List.set_cons_succ]
  refine wpAnyH_done (by kernel_rfl) ?_ _
  clear hH
  go_wp2
  go_ret
  exact ⟨rfl, HK.out.b⟩
end Go.Proofs.YtnaiecemmhioeaaDoor

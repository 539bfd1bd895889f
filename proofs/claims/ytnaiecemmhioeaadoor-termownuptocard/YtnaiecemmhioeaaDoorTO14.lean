/-
  TermOwn's walk. (Written by TO14.py.)
-/
import Derived.Test.YtnaiecemmhioeaaDoorTO13
import Derived.Test.YtnaiecemmhioeaaDoorB9
namespace Go.Proofs.YtnaiecemmhioeaaDoor
open Go.RowKit
attribute [local go_sem ↓] Go.wp_at_zero Go.wp_at_succ

/-- What was lent, as it was lent. -/
structure Qw (w : World) (M1 M2 : Nat) (C D E F : Array Value) (Sx Sy Sb gx gy gb cx cy cb : Nat) (pl al : List Tm) (s : List Bd) (X : World) : Prop where
  p : Blk X w.heap.size C 26
  a : Blk X (w.heap.size + 1) D 26
  e : Blk X M1 E 26
  f : Blk X M2 F 26
  x : OwnT X Sx (.slice (some ⟨gx, 0, none⟩) (pl.length + 1) cx) (pl ++ [mark])
  y : OwnT X Sy (.slice (some ⟨gy, 0, none⟩) (al.length + 1) cy) (al ++ [mark])
  v : Own X Sb (.slice (some ⟨gb, 0, none⟩) (s.length + 1) cb) (s ++ [late])
  b : Below w.heap.size w X
  o : w.heap.size ≤ gx ∧ gx < gy ∧ gy < gb
section
variable {w : World} {M1 M2 : Nat} {C D E F : Array Value} {Sx Sy Sb gx gy gb cx cy cb : Nat} {pl al : List Tm} {s : List Bd} {X Y : World}
theorem Qw.later (h : Qw w M1 M2 C D E F Sx Sy Sb gx gy gb cx cy cb pl al s X) (hb : Below X.heap.size X Y) : Qw w M1 M2 C D E F Sx Sy Sb gx gy gb cx cy cb pl al s Y :=
  ⟨h.p.later hb, h.a.later hb, h.e.later hb, h.f.later hb, own_kept h.x (gb_below hb) (fun b _ e => by cases e), own_kept h.y (gb_below hb) (fun b _ e => by cases e), own_kept h.v (gb_below hb) (fun b _ e => by cases e), below_step h.b hb, h.o⟩
theorem len1 {α : Type} (l : List α) (t : α) : (l ++ [t]).length = l.length + 1 := by simp
theorem Qw.ow (h : Qw w M1 M2 C D E F Sx Sy Sb gx gy gb cx cy cb pl al s X) : Ow w M1 M2 E F Sx Sy Sb gx gy gb pl.length al.length s.length cx cy cb X :=
  ⟨h.e, h.f, ⟨_, len1 _ _, by have := h.x; unfold OwnT at this; rw [len1] at this; exact this⟩, ⟨_, len1 _ _, by have := h.y; unfold OwnT at this; rw [len1] at this; exact this⟩, ⟨_, len1 _ _, by have := h.v; unfold Own at this; rw [len1] at this; exact this⟩, h.b, h.o⟩
end
set_option maxRecDepth 20000 in
set_option maxHeartbeats 20000000 in
theorem own_go (pk pn ak an : Int) (ps pm az am : ByteArray) (pl al : List Tm) (s : List Bd) (x y v : Value) (w : World)
    (hx : TsO w x pl) (hy : TsO w y al) (hv : BsO w v s) (hM : MarkOk w) (hL : LateOk w) (h1 : pl.length ≤ 100000000000) (h2 : al.length ≤ 100000000000) (h3 : s.length ≤ 100000000000) :
    Calls Tryd.prog 3 #[(At.mk ⟨pk, pn, ps⟩ pm pl).v x, (At.mk ⟨ak, an, az⟩ am al).v y, v] w fun e w' => e = .returned (.bool true) ∧ Below w.heap.size w w' := by
  have HL1 : Hid (∀ X : World, Below w.heap.size w X → Calls Tryd.prog 4 #[.agg #[.int .i64 pk, .int .i64 pn, .string ps, .string pm, x]] X fun e w' => ∃ g cap, e = .returned (.agg #[.int .i64 pk, .int .i64 pn, .string ps, .string pm, (.slice (some ⟨g, 0, none⟩) pl.length cap)]) ∧ OwnT w' X.heap.size (.slice (some ⟨g, 0, none⟩) (pl.length + 1) cap) (pl ++ [mark]) ∧ Below X.heap.size X w') := fun X hX => lent_any ⟨⟨pk, pn, ps⟩, pm, pl⟩ x X (hx.later hX) (hM.later hX)
  have HL2 : Hid (∀ X : World, Below w.heap.size w X → Calls Tryd.prog 4 #[.agg #[.int .i64 ak, .int .i64 an, .string az, .string am, y]] X fun e w' => ∃ g cap, e = .returned (.agg #[.int .i64 ak, .int .i64 an, .string az, .string am, (.slice (some ⟨g, 0, none⟩) al.length cap)]) ∧ OwnT w' X.heap.size (.slice (some ⟨g, 0, none⟩) (al.length + 1) cap) (al ++ [mark]) ∧ Below X.heap.size X w') := fun X hX => lent_any ⟨⟨ak, an, az⟩, am, al⟩ y X (hy.later hX) (hM.later hX)
  have HL3 : Hid (∀ X : World, Below w.heap.size w X → Calls Tryd.prog 5 #[v] X fun e w' => ∃ g cap, e = .returned (.slice (some ⟨g, 0, none⟩) s.length cap) ∧ Own w' X.heap.size (.slice (some ⟨g, 0, none⟩) (s.length + 1) cap) (s ++ [late]) ∧ Below X.heap.size X w') := fun X hX => lend_any s v X (bso_later9 hv hX) (hL.later hX)
  have HG : Hid (Ts w x pl ∧ Ts w y al ∧ Bs w v s ∧ MarkOk w ∧ LateOk w) := ⟨hx.ts, hy.ts, hv.bs, hM, hL⟩
  have HQ0 : Hid (Blk ((w.alloc (.cells #[.int .i64 pk, .int .i64 pn, .string ps, .string pm, x] 26)).alloc (.cells #[.int .i64 ak, .int .i64 an, .string az, .string am, y] 26)) w.heap.size #[.int .i64 pk, .int .i64 pn, .string ps, .string pm, x] 26 ∧ Blk ((w.alloc (.cells #[.int .i64 pk, .int .i64 pn, .string ps, .string pm, x] 26)).alloc (.cells #[.int .i64 ak, .int .i64 an, .string az, .string am, y] 26)) (w.heap.size + 1) #[.int .i64 ak, .int .i64 an, .string az, .string am, y] 26 ∧ Below w.heap.size w ((w.alloc (.cells #[.int .i64 pk, .int .i64 pn, .string ps, .string pm, x] 26)).alloc (.cells #[.int .i64 ak, .int .i64 an, .string az, .string am, y] 26))) := ⟨Blk.old _ _ _ _, Blk.new2 _ _ _ _, below2 _ _ _⟩
  clear hx hy hv hM hL
  rw [mk_v, mk_v]
  go_enter Tryd.func3, Tryd.ntmps3
  go_upto_region 1 with fail
  revert HQ0
  generalize (w.alloc (.cells #[.int .i64 pk, .int .i64 pn, .string ps, .string pm, x] 26)).alloc (.cells #[.int .i64 ak, .int .i64 an, .string az, .string am, y] 26) = V0
  intro HQ0
  obtain ⟨c0, c1, c2, c3, c4⟩ := five9 HQ0.out.1
  go_upto_region 2 with (go_at_call 4; refine (HL1.out _ HQ0.out.2.2).mono ?_; clear HL1; rintro e V1 ⟨gx, cx, rfl, ht, hb⟩; have HT1 : Hid (OwnT V1 V0.heap.size (.slice (some ⟨gx, 0, none⟩) (pl.length + 1) cx) (pl ++ [mark]) ∧ Below V0.heap.size V0 V1) := ⟨ht, hb⟩; clear ht hb)
  clear c0 c1 c2 c3 c4
  have HQ1 : Hid (Blk (V1.alloc (.cells #[.int .i64 pk, .int .i64 pn, .string ps, .string pm, (.slice (some ⟨gx, 0, none⟩) pl.length cx)] 26)) w.heap.size #[.int .i64 pk, .int .i64 pn, .string ps, .string pm, x] 26 ∧ Blk (V1.alloc (.cells #[.int .i64 pk, .int .i64 pn, .string ps, .string pm, (.slice (some ⟨gx, 0, none⟩) pl.length cx)] 26)) (w.heap.size + 1) #[.int .i64 ak, .int .i64 an, .string az, .string am, y] 26 ∧ Below w.heap.size w (V1.alloc (.cells #[.int .i64 pk, .int .i64 pn, .string ps, .string pm, (.slice (some ⟨gx, 0, none⟩) pl.length cx)] 26)) ∧ Blk (V1.alloc (.cells #[.int .i64 pk, .int .i64 pn, .string ps, .string pm, (.slice (some ⟨gx, 0, none⟩) pl.length cx)] 26)) V1.heap.size #[.int .i64 pk, .int .i64 pn, .string ps, .string pm, (.slice (some ⟨gx, 0, none⟩) pl.length cx)] 26 ∧ OwnT (V1.alloc (.cells #[.int .i64 pk, .int .i64 pn, .string ps, .string pm, (.slice (some ⟨gx, 0, none⟩) pl.length cx)] 26)) V0.heap.size (.slice (some ⟨gx, 0, none⟩) (pl.length + 1) cx) (pl ++ [mark]) ∧ w.heap.size ≤ gx ∧ gx < (V1.alloc (.cells #[.int .i64 pk, .int .i64 pn, .string ps, .string pm, (.slice (some ⟨gx, 0, none⟩) pl.length cx)] 26)).heap.size) := ⟨(HQ0.out.1.later HT1.out.2).later (below1 _ _), (HQ0.out.2.1.later HT1.out.2).later (below1 _ _), below_step (below_step HQ0.out.2.2 HT1.out.2) (below1 _ _), Blk.new _ _ _, HT1.out.1.later (below1 _ _), Nat.le_trans HQ0.out.2.2.size (HT1.out.1.lt gx rfl).1, Nat.lt_of_lt_of_le (HT1.out.1.lt gx rfl).2 (below1 _ _).size⟩
  clear HQ0 HT1
  revert HQ1
  generalize V1.alloc (.cells #[.int .i64 pk, .int .i64 pn, .string ps, .string pm, (.slice (some ⟨gx, 0, none⟩) pl.length cx)] 26) = V2
  generalize V1.heap.size = M1
  generalize V0.heap.size = Sx
  intro HQ1
  obtain ⟨c0, c1, c2, c3, c4⟩ := five9 HQ1.out.2.1
  go_upto_region 3 with (go_at_call 4; refine (HL2.out _ HQ1.out.2.2.1).mono ?_; clear HL2; rintro e V3 ⟨gy, cy, rfl, ht, hb⟩; have HT2 : Hid (OwnT V3 V2.heap.size (.slice (some ⟨gy, 0, none⟩) (al.length + 1) cy) (al ++ [mark]) ∧ Below V2.heap.size V2 V3) := ⟨ht, hb⟩; clear ht hb)
  clear c0 c1 c2 c3 c4
  have HQ2 : Hid (Blk (V3.alloc (.cells #[.int .i64 ak, .int .i64 an, .string az, .string am, (.slice (some ⟨gy, 0, none⟩) al.length cy)] 26)) w.heap.size #[.int .i64 pk, .int .i64 pn, .string ps, .string pm, x] 26 ∧ Blk (V3.alloc (.cells #[.int .i64 ak, .int .i64 an, .string az, .string am, (.slice (some ⟨gy, 0, none⟩) al.length cy)] 26)) (w.heap.size + 1) #[.int .i64 ak, .int .i64 an, .string az, .string am, y] 26 ∧ Below w.heap.size w (V3.alloc (.cells #[.int .i64 ak, .int .i64 an, .string az, .string am, (.slice (some ⟨gy, 0, none⟩) al.length cy)] 26)) ∧ Blk (V3.alloc (.cells #[.int .i64 ak, .int .i64 an, .string az, .string am, (.slice (some ⟨gy, 0, none⟩) al.length cy)] 26)) M1 #[.int .i64 pk, .int .i64 pn, .string ps, .string pm, (.slice (some ⟨gx, 0, none⟩) pl.length cx)] 26 ∧ OwnT (V3.alloc (.cells #[.int .i64 ak, .int .i64 an, .string az, .string am, (.slice (some ⟨gy, 0, none⟩) al.length cy)] 26)) Sx (.slice (some ⟨gx, 0, none⟩) (pl.length + 1) cx) (pl ++ [mark]) ∧ Blk (V3.alloc (.cells #[.int .i64 ak, .int .i64 an, .string az, .string am, (.slice (some ⟨gy, 0, none⟩) al.length cy)] 26)) V3.heap.size #[.int .i64 ak, .int .i64 an, .string az, .string am, (.slice (some ⟨gy, 0, none⟩) al.length cy)] 26 ∧ OwnT (V3.alloc (.cells #[.int .i64 ak, .int .i64 an, .string az, .string am, (.slice (some ⟨gy, 0, none⟩) al.length cy)] 26)) V2.heap.size (.slice (some ⟨gy, 0, none⟩) (al.length + 1) cy) (al ++ [mark]) ∧ w.heap.size ≤ gx ∧ gx < gy ∧ gy < (V3.alloc (.cells #[.int .i64 ak, .int .i64 an, .string az, .string am, (.slice (some ⟨gy, 0, none⟩) al.length cy)] 26)).heap.size) := ⟨(HQ1.out.1.later HT2.out.2).later (below1 _ _), (HQ1.out.2.1.later HT2.out.2).later (below1 _ _), below_step (below_step HQ1.out.2.2.1 HT2.out.2) (below1 _ _), (HQ1.out.2.2.2.1.later HT2.out.2).later (below1 _ _), (HQ1.out.2.2.2.2.1.later HT2.out.2).later (below1 _ _), Blk.new _ _ _, HT2.out.1.later (below1 _ _), HQ1.out.2.2.2.2.2.1, Nat.lt_of_lt_of_le HQ1.out.2.2.2.2.2.2 (HT2.out.1.lt gy rfl).1, Nat.lt_of_lt_of_le (HT2.out.1.lt gy rfl).2 (below1 _ _).size⟩
  clear HQ1 HT2
  revert HQ2
  generalize V3.alloc (.cells #[.int .i64 ak, .int .i64 an, .string az, .string am, (.slice (some ⟨gy, 0, none⟩) al.length cy)] 26) = V4
  generalize V3.heap.size = M2
  generalize V2.heap.size = Sy
  intro HQ2
  go_upto_region 4 with (go_at_call 5; refine (HL3.out _ HQ2.out.2.2.1).mono ?_; clear HL3; rintro e W ⟨gb, cb, rfl, ht, hb⟩; have HW : Hid (Qw w M1 M2 #[.int .i64 pk, .int .i64 pn, .string ps, .string pm, x] #[.int .i64 ak, .int .i64 an, .string az, .string am, y] #[.int .i64 pk, .int .i64 pn, .string ps, .string pm, (.slice (some ⟨gx, 0, none⟩) pl.length cx)] #[.int .i64 ak, .int .i64 an, .string az, .string am, (.slice (some ⟨gy, 0, none⟩) al.length cy)] Sx Sy V4.heap.size gx gy gb cx cy cb pl al s W) := ⟨HQ2.out.1.later hb, HQ2.out.2.1.later hb, HQ2.out.2.2.2.1.later hb, HQ2.out.2.2.2.2.2.1.later hb, HQ2.out.2.2.2.2.1.later hb, HQ2.out.2.2.2.2.2.2.1.later hb, ht, below_step HQ2.out.2.2.1 hb, HQ2.out.2.2.2.2.2.2.2.1, HQ2.out.2.2.2.2.2.2.2.2.1, Nat.lt_of_lt_of_le HQ2.out.2.2.2.2.2.2.2.2.2 (World.ownsRow.lt ht gb rfl).1⟩; clear ht hb)
  clear HQ2
  revert HW
  generalize V4.heap.size = Sb
  intro HW
  have HK1 : Hid (∀ X : World, Qw w M1 M2 #[.int .i64 pk, .int .i64 pn, .string ps, .string pm, x] #[.int .i64 ak, .int .i64 an, .string az, .string am, y] #[.int .i64 pk, .int .i64 pn, .string ps, .string pm, (.slice (some ⟨gx, 0, none⟩) pl.length cx)] #[.int .i64 ak, .int .i64 an, .string az, .string am, (.slice (some ⟨gy, 0, none⟩) al.length cy)] Sx Sy Sb gx gy gb cx cy cb pl al s X → Calls Tryd.prog 8 #[.agg #[.int .i64 pk, .int .i64 pn, .string ps, .string pm, (.slice (some ⟨gx, 0, none⟩) pl.length cx)], .agg #[.int .i64 pk, .int .i64 pn, .string ps, .string pm, x]] X fun e w' => e = .returned (.bool true) ∧ Below X.heap.size X w') := fun X h => kept_any ⟨⟨pk, pn, ps⟩, pm, pl⟩ x gx cx Sx X (HG.out.1.later h.b) h.x (HG.out.2.2.2.1.later h.b)
  have HK2 : Hid (∀ X : World, Qw w M1 M2 #[.int .i64 pk, .int .i64 pn, .string ps, .string pm, x] #[.int .i64 ak, .int .i64 an, .string az, .string am, y] #[.int .i64 pk, .int .i64 pn, .string ps, .string pm, (.slice (some ⟨gx, 0, none⟩) pl.length cx)] #[.int .i64 ak, .int .i64 an, .string az, .string am, (.slice (some ⟨gy, 0, none⟩) al.length cy)] Sx Sy Sb gx gy gb cx cy cb pl al s X → Calls Tryd.prog 8 #[.agg #[.int .i64 ak, .int .i64 an, .string az, .string am, (.slice (some ⟨gy, 0, none⟩) al.length cy)], .agg #[.int .i64 ak, .int .i64 an, .string az, .string am, y]] X fun e w' => e = .returned (.bool true) ∧ Below X.heap.size X w') := fun X h => kept_any ⟨⟨ak, an, az⟩, am, al⟩ y gy cy Sy X (HG.out.2.1.later h.b) h.y (HG.out.2.2.2.1.later h.b)
  have HK3 : Hid (∀ X : World, Qw w M1 M2 #[.int .i64 pk, .int .i64 pn, .string ps, .string pm, x] #[.int .i64 ak, .int .i64 an, .string az, .string am, y] #[.int .i64 pk, .int .i64 pn, .string ps, .string pm, (.slice (some ⟨gx, 0, none⟩) pl.length cx)] #[.int .i64 ak, .int .i64 an, .string az, .string am, (.slice (some ⟨gy, 0, none⟩) al.length cy)] Sx Sy Sb gx gy gb cx cy cb pl al s X → Calls Tryd.prog 9 #[(.slice (some ⟨gb, 0, none⟩) s.length cb), v] X fun e w' => e = .returned (.bool true) ∧ Below X.heap.size X w') := fun X h => still_any s v gb cb Sb X (HG.out.2.2.1.later h.b) h.v (HG.out.2.2.2.2.later h.b)
  have HA1 : Hid (∀ X : World, Ow w M1 M2 #[.int .i64 pk, .int .i64 pn, .string ps, .string pm, (.slice (some ⟨gx, 0, none⟩) pl.length cx)] #[.int .i64 ak, .int .i64 an, .string az, .string am, (.slice (some ⟨gy, 0, none⟩) al.length cy)] Sx Sy Sb gx gy gb pl.length al.length s.length cx cy cb X → Calls Tryd.prog 10 #[.agg #[.int .i64 pk, .int .i64 pn, .string ps, .string pm, (.slice (some ⟨gx, 0, none⟩) pl.length cx)], .agg #[.int .i64 ak, .int .i64 an, .string az, .string am, (.slice (some ⟨gy, 0, none⟩) al.length cy)], (.slice (some ⟨gb, 0, none⟩) s.length cb)] X fun e w' => e = .returned (.bool true) ∧ Below X.heap.size X w') := fun X h => by obtain ⟨l1, e1, r1⟩ := h.x; obtain ⟨l2, e2, r2⟩ := h.y; obtain ⟨l3, e3, r3⟩ := h.v; have t1 := tso_own (l := l1) (n := pl.length) (by unfold OwnT; rw [e1]; exact r1) e1.symm h1; have t2 := tso_own (l := l2) (n := al.length) (by unfold OwnT; rw [e2]; exact r2) e2.symm h2; have t3 := bso_own (l := l3) (n := s.length) (by unfold Own; rw [e3]; exact r3) e3.symm h3; have m1 : (l1.take pl.length).length = pl.length := (by rw [List.length_take]; omega); have m2 : (l2.take al.length).length = al.length := (by rw [List.length_take]; omega); have m3 : (l3.take s.length).length = s.length := (by rw [List.length_take]; omega); have m1 := m1; have g9 := alike_go pk pn ak an ps pm az am (l1.take pl.length) (l2.take al.length) (l3.take s.length) _ _ _ X t1 t2 t3 (HG.out.2.2.2.1.later h.b) (HG.out.2.2.2.2.later h.b) (by omega) (by omega); rw [m1, m2, m3] at g9; exact g9
  have HA2 : Hid (∀ X : World, Ow w M1 M2 #[.int .i64 pk, .int .i64 pn, .string ps, .string pm, (.slice (some ⟨gx, 0, none⟩) pl.length cx)] #[.int .i64 ak, .int .i64 an, .string az, .string am, (.slice (some ⟨gy, 0, none⟩) al.length cy)] Sx Sy Sb gx gy gb pl.length al.length s.length cx cy cb X → Calls Tryd.prog 10 #[.agg #[.int .i64 ak, .int .i64 an, .string az, .string am, (.slice (some ⟨gy, 0, none⟩) al.length cy)], .agg #[.int .i64 pk, .int .i64 pn, .string ps, .string pm, (.slice (some ⟨gx, 0, none⟩) pl.length cx)], (.slice (some ⟨gb, 0, none⟩) s.length cb)] X fun e w' => e = .returned (.bool true) ∧ Below X.heap.size X w') := fun X h => by obtain ⟨l1, e1, r1⟩ := h.x; obtain ⟨l2, e2, r2⟩ := h.y; obtain ⟨l3, e3, r3⟩ := h.v; have t1 := tso_own (l := l1) (n := pl.length) (by unfold OwnT; rw [e1]; exact r1) e1.symm h1; have t2 := tso_own (l := l2) (n := al.length) (by unfold OwnT; rw [e2]; exact r2) e2.symm h2; have t3 := bso_own (l := l3) (n := s.length) (by unfold Own; rw [e3]; exact r3) e3.symm h3; have m1 : (l1.take pl.length).length = pl.length := (by rw [List.length_take]; omega); have m2 : (l2.take al.length).length = al.length := (by rw [List.length_take]; omega); have m3 : (l3.take s.length).length = s.length := (by rw [List.length_take]; omega); have m1 := m1; have g9 := alike_go ak an pk pn az am ps pm (l2.take al.length) (l1.take pl.length) (l3.take s.length) _ _ _ X t2 t1 t3 (HG.out.2.2.2.1.later h.b) (HG.out.2.2.2.2.later h.b) (by omega) (by omega); rw [m1, m2, m3] at g9; exact g9
  have HTW : Hid (Ts W (.slice (some ⟨gx, 0, none⟩) pl.length cx) pl ∧ Ts W (.slice (some ⟨gy, 0, none⟩) al.length cy) al ∧ Bs W (.slice (some ⟨gb, 0, none⟩) s.length cb) s ∧ Bs W (.slice none 0 0) []) := ⟨ownT_pre HW.out.x (by omega), ownT_pre HW.out.y (by omega), own_pre HW.out.v (by omega), ⟨none, 0, rfl, by simp, Or.inl rfl⟩⟩
  have HS1 : Hid (∀ (X : World) (k : Nat), TL W W.heap.size k X → k ≤ 100 → Calls Tryd.prog 6 #[.pointer (some ⟨W.heap.size, 0, none⟩), .agg #[.int .i64 pk, .int .i64 pn, .string ps, .string pm, (.slice (some ⟨gx, 0, none⟩) pl.length cx)], .agg #[.int .i64 ak, .int .i64 an, .string az, .string am, (.slice (some ⟨gy, 0, none⟩) al.length cy)], (.slice (some ⟨gb, 0, none⟩) s.length cb)] X fun e w' => e = .returned (.tuple #[]) ∧ TL W W.heap.size (k + 1) w') := fun X k h hk => ask_tl ⟨⟨pk, pn, ps⟩, pm, pl⟩ ⟨⟨ak, an, az⟩, am, al⟩ s (.slice (some ⟨gx, 0, none⟩) pl.length cx) (.slice (some ⟨gy, 0, none⟩) al.length cy) (.slice (some ⟨gb, 0, none⟩) s.length cb) W X W.heap.size k h (Nat.le_refl _) HTW.out.1 HTW.out.2.1 HTW.out.2.2.1 h1 h3 hk
  have HS2 : Hid (∀ (X : World) (k : Nat), TL W W.heap.size k X → k ≤ 100 → Calls Tryd.prog 6 #[.pointer (some ⟨W.heap.size, 0, none⟩), .agg #[.int .i64 ak, .int .i64 an, .string az, .string am, (.slice (some ⟨gy, 0, none⟩) al.length cy)], .agg #[.int .i64 pk, .int .i64 pn, .string ps, .string pm, (.slice (some ⟨gx, 0, none⟩) pl.length cx)], (.slice (some ⟨gb, 0, none⟩) s.length cb)] X fun e w' => e = .returned (.tuple #[]) ∧ TL W W.heap.size (k + 1) w') := fun X k h hk => ask_tl ⟨⟨ak, an, az⟩, am, al⟩ ⟨⟨pk, pn, ps⟩, pm, pl⟩ s (.slice (some ⟨gy, 0, none⟩) al.length cy) (.slice (some ⟨gx, 0, none⟩) pl.length cx) (.slice (some ⟨gb, 0, none⟩) s.length cb) W X W.heap.size k h (Nat.le_refl _) HTW.out.2.1 HTW.out.1 HTW.out.2.2.1 h2 h3 hk
  have HS3 : Hid (∀ (X : World) (k : Nat), TL W W.heap.size k X → k ≤ 100 → Calls Tryd.prog 6 #[.pointer (some ⟨W.heap.size, 0, none⟩), .agg #[.int .i64 pk, .int .i64 pn, .string ps, .string pm, (.slice (some ⟨gx, 0, none⟩) pl.length cx)], .agg #[.int .i64 ak, .int .i64 an, .string az, .string am, (.slice (some ⟨gy, 0, none⟩) al.length cy)], .slice none 0 0] X fun e w' => e = .returned (.tuple #[]) ∧ TL W W.heap.size (k + 1) w') := fun X k h hk => ask_tl ⟨⟨pk, pn, ps⟩, pm, pl⟩ ⟨⟨ak, an, az⟩, am, al⟩ [] (.slice (some ⟨gx, 0, none⟩) pl.length cx) (.slice (some ⟨gy, 0, none⟩) al.length cy) (.slice none 0 0) W X W.heap.size k h (Nat.le_refl _) HTW.out.1 HTW.out.2.1 HTW.out.2.2.2 h1 (by simp) hk
  have HTL : Hid (TL W W.heap.size 0 (W.alloc (.cells #[.slice none 0 0, .slice none 0 0, .slice none 0 0] 36))) := TL.start W
  go_wp2
  go_loopg [11] 3 (fun g i wr => ∃ n : Nat, n + g = 3 ∧ i = .int .i64 (n : Int) ∧ TL W W.heap.size (3 * n) wr)
  case atStart => exact ⟨0, by omega, rfl, HTL.out⟩
  case round =>
    obtain ⟨n, hg, rfl, ht⟩ := hrel
    have HT : Hid (TL W W.heap.size (3 * n) wr) := ht
    clear ht HTL
    have jn : (0 : Int) ≤ (n : Int) := by omega
    by_cases hn : n < 3
    · have k1 : (n : Int) < 3 := by omega
      obtain ⟨G, rfl⟩ : ∃ G, gk = G + 1 := ⟨gk - 1, by omega⟩
      have HE : Hid (Below W.heap.size W wr) := HT.out.below
      obtain ⟨e0, e1, e2, e3, e4⟩ := five9 (HW.out.e.later HE.out)
      obtain ⟨f0, f1, f2, f3, f4⟩ := five9 (HW.out.f.later HE.out)
      go_upto_region 9 with (go_at_call 6; refine (HS1.out _ _ HT.out (by omega)).mono ?_; rintro e U1 ⟨rfl, ht⟩; have HT1 : Hid (TL W W.heap.size (3 * n + 1) U1) := ht; clear ht)
      clear HE e0 e1 e2 e3 e4 f0 f1 f2 f3 f4
      have HE : Hid (Below W.heap.size W U1) := HT1.out.below
      obtain ⟨e0, e1, e2, e3, e4⟩ := five9 (HW.out.e.later HE.out)
      obtain ⟨f0, f1, f2, f3, f4⟩ := five9 (HW.out.f.later HE.out)
      go_upto_region 10 with (go_at_call 6; refine (HS2.out _ _ HT1.out (by omega)).mono ?_; rintro e U2 ⟨rfl, ht⟩; have HT2 : Hid (TL W W.heap.size (3 * n + 2) U2) := ht; clear ht)
      clear HE e0 e1 e2 e3 e4 f0 f1 f2 f3 f4
      have HE : Hid (Below W.heap.size W U2) := HT2.out.below
      obtain ⟨e0, e1, e2, e3, e4⟩ := five9 (HW.out.e.later HE.out)
      obtain ⟨f0, f1, f2, f3, f4⟩ := five9 (HW.out.f.later HE.out)
      go_wp2_with (go_at_call 6; refine (HS3.out _ _ HT2.out (by omega)).mono ?_; rintro e U3 ⟨rfl, ht⟩; have HT3 : Hid (TL W W.heap.size (3 * n + 3) U3) := ht; clear ht)
      go_roundg G
      case measure => omega
      case rel => exact ⟨n + 1, by omega, by go_num, HT3.out⟩
    · have k1 : ¬ (n : Int) < 3 := by omega
      obtain rfl : n = 3 := by omega
      have HAN : Hid (Calls Tryd.prog 7 #[.pointer (some ⟨W.heap.size, 0, none⟩)] wr fun e w' => e = .returned (.bool true) ∧ Below W.heap.size W w') := alone_tl W wr W.heap.size _ HT.out (by omega)
      clear HS1 HS2 HS3 HT
      go_upto_region 13 with (first
        | (go_at_call 7; refine HAN.out.mono ?_; clear HAN; rintro e U1 ⟨rfl, hb⟩; have HQ1 : Hid (Qw w M1 M2 #[.int .i64 pk, .int .i64 pn, .string ps, .string pm, x] #[.int .i64 ak, .int .i64 an, .string az, .string am, y] #[.int .i64 pk, .int .i64 pn, .string ps, .string pm, (.slice (some ⟨gx, 0, none⟩) pl.length cx)] #[.int .i64 ak, .int .i64 an, .string az, .string am, (.slice (some ⟨gy, 0, none⟩) al.length cy)] Sx Sy Sb gx gy gb cx cy cb pl al s U1) := HW.out.later hb; clear hb; obtain ⟨c0, c1, c2, c3, c4⟩ := five9 HQ1.out.p; obtain ⟨d0, d1, d2, d3, d4⟩ := five9 HQ1.out.a; obtain ⟨e0, e1, e2, e3, e4⟩ := five9 HQ1.out.e; obtain ⟨f0, f1, f2, f3, f4⟩ := five9 HQ1.out.f)
        | (go_at_call 8; refine (HK1.out _ HQ1.out).mono ?_; clear HK1; rintro e U2 ⟨rfl, hb⟩; have HQ2 : Hid (Qw w M1 M2 #[.int .i64 pk, .int .i64 pn, .string ps, .string pm, x] #[.int .i64 ak, .int .i64 an, .string az, .string am, y] #[.int .i64 pk, .int .i64 pn, .string ps, .string pm, (.slice (some ⟨gx, 0, none⟩) pl.length cx)] #[.int .i64 ak, .int .i64 an, .string az, .string am, (.slice (some ⟨gy, 0, none⟩) al.length cy)] Sx Sy Sb gx gy gb cx cy cb pl al s U2) := HQ1.out.later hb; clear hb HQ1; clear c0 c1 c2 c3 c4 d0 d1 d2 d3 d4 e0 e1 e2 e3 e4 f0 f1 f2 f3 f4; obtain ⟨c0, c1, c2, c3, c4⟩ := five9 HQ2.out.p; obtain ⟨d0, d1, d2, d3, d4⟩ := five9 HQ2.out.a; obtain ⟨e0, e1, e2, e3, e4⟩ := five9 HQ2.out.e; obtain ⟨f0, f1, f2, f3, f4⟩ := five9 HQ2.out.f)
        | (go_at_call 8; refine (HK2.out _ HQ2.out).mono ?_; clear HK2; rintro e U3 ⟨rfl, hb⟩; have HQ3 : Hid (Qw w M1 M2 #[.int .i64 pk, .int .i64 pn, .string ps, .string pm, x] #[.int .i64 ak, .int .i64 an, .string az, .string am, y] #[.int .i64 pk, .int .i64 pn, .string ps, .string pm, (.slice (some ⟨gx, 0, none⟩) pl.length cx)] #[.int .i64 ak, .int .i64 an, .string az, .string am, (.slice (some ⟨gy, 0, none⟩) al.length cy)] Sx Sy Sb gx gy gb cx cy cb pl al s U3) := HQ2.out.later hb; clear hb HQ2; clear c0 c1 c2 c3 c4 d0 d1 d2 d3 d4 e0 e1 e2 e3 e4 f0 f1 f2 f3 f4; obtain ⟨c0, c1, c2, c3, c4⟩ := five9 HQ3.out.p; obtain ⟨d0, d1, d2, d3, d4⟩ := five9 HQ3.out.a; obtain ⟨e0, e1, e2, e3, e4⟩ := five9 HQ3.out.e; obtain ⟨f0, f1, f2, f3, f4⟩ := five9 HQ3.out.f)
        | (go_at_call 9; refine (HK3.out _ HQ3.out).mono ?_; clear HK3; rintro e U4 ⟨rfl, hb⟩; have HQ4 : Hid (Qw w M1 M2 #[.int .i64 pk, .int .i64 pn, .string ps, .string pm, x] #[.int .i64 ak, .int .i64 an, .string az, .string am, y] #[.int .i64 pk, .int .i64 pn, .string ps, .string pm, (.slice (some ⟨gx, 0, none⟩) pl.length cx)] #[.int .i64 ak, .int .i64 an, .string az, .string am, (.slice (some ⟨gy, 0, none⟩) al.length cy)] Sx Sy Sb gx gy gb cx cy cb pl al s U4) := HQ3.out.later hb; clear hb HQ3; clear c0 c1 c2 c3 c4 d0 d1 d2 d3 d4 e0 e1 e2 e3 e4 f0 f1 f2 f3 f4; obtain ⟨c0, c1, c2, c3, c4⟩ := five9 HQ4.out.p; obtain ⟨d0, d1, d2, d3, d4⟩ := five9 HQ4.out.a; obtain ⟨e0, e1, e2, e3, e4⟩ := five9 HQ4.out.e; obtain ⟨f0, f1, f2, f3, f4⟩ := five9 HQ4.out.f)
        | (go_at_call 10; refine (HA1.out _ HQ4.out.ow).mono ?_; rintro e U5 ⟨rfl, hb⟩; have HO0 : Hid (Ow w M1 M2 #[.int .i64 pk, .int .i64 pn, .string ps, .string pm, (.slice (some ⟨gx, 0, none⟩) pl.length cx)] #[.int .i64 ak, .int .i64 an, .string az, .string am, (.slice (some ⟨gy, 0, none⟩) al.length cy)] Sx Sy Sb gx gy gb pl.length al.length s.length cx cy cb U5) := (HQ4.out.later hb).ow; clear hb HQ4; clear c0 c1 c2 c3 c4 d0 d1 d2 d3 d4 e0 e1 e2 e3 e4 f0 f1 f2 f3 f4))
      go_wp2
      go_loopg [12] pl.length (fun g i wr => ∃ n : Nat, n + g = pl.length ∧ i = .int .i64 (n : Int) ∧ Ow w M1 M2 #[.int .i64 pk, .int .i64 pn, .string ps, .string pm, (.slice (some ⟨gx, 0, none⟩) pl.length cx)] #[.int .i64 ak, .int .i64 an, .string az, .string am, (.slice (some ⟨gy, 0, none⟩) al.length cy)] Sx Sy Sb gx gy gb pl.length al.length s.length cx cy cb wr)
      case atStart => exact ⟨0, by omega, rfl, HO0.out⟩
      case round =>
        obtain ⟨n, hg, rfl, ho⟩ := hrel
        have HO : Hid (Ow w M1 M2 #[.int .i64 pk, .int .i64 pn, .string ps, .string pm, (.slice (some ⟨gx, 0, none⟩) pl.length cx)] #[.int .i64 ak, .int .i64 an, .string az, .string am, (.slice (some ⟨gy, 0, none⟩) al.length cy)] Sx Sy Sb gx gy gb pl.length al.length s.length cx cy cb wr) := ho
        clear HO0
        have jn : (0 : Int) ≤ (n : Int) := by omega
        obtain ⟨e0, e1, e2, e3, e4⟩ := five9 ho.e
        obtain ⟨l9, h91, h92⟩ := ho.x
        clear ho
        by_cases hn : n < pl.length
        · have k1 : (n : Int) < (pl.length : Int) := by omega
          obtain ⟨G, rfl⟩ : ∃ G, gk = G + 1 := ⟨gk - 1, by omega⟩
          obtain ⟨⟨a0, b0⟩, q0⟩ := row_cell h92 (i := n * 3) (by omega)
          obtain ⟨⟨a1, b1⟩, q1⟩ := row_cell h92 (i := n * 3 + 1) (by omega)
          obtain ⟨⟨a2, b2⟩, q2⟩ := row_cell h92 (i := n * 3 + 2) (by omega)
          clear h91 h92 l9
          go_wp2
          go_roundg G
          case measure => omega
          case rel => exact ⟨n + 1, by omega, by go_num, HO.out.putX hn ⟨3, _, _⟩⟩
        · have k1 : ¬ (n : Int) < (pl.length : Int) := by omega
          obtain rfl : n = pl.length := by omega
          have HO0 : Hid (Ow w M1 M2 #[.int .i64 pk, .int .i64 pn, .string ps, .string pm, (.slice (some ⟨gx, 0, none⟩) pl.length cx)] #[.int .i64 ak, .int .i64 an, .string az, .string am, (.slice (some ⟨gy, 0, none⟩) al.length cy)] Sx Sy Sb gx gy gb pl.length al.length s.length cx cy cb wr) := HO.out
          clear HO h91 h92 l9
          go_wp2
          go_loopg [13] al.length (fun g i wr => ∃ n : Nat, n + g = al.length ∧ i = .int .i64 (n : Int) ∧ Ow w M1 M2 #[.int .i64 pk, .int .i64 pn, .string ps, .string pm, (.slice (some ⟨gx, 0, none⟩) pl.length cx)] #[.int .i64 ak, .int .i64 an, .string az, .string am, (.slice (some ⟨gy, 0, none⟩) al.length cy)] Sx Sy Sb gx gy gb pl.length al.length s.length cx cy cb wr)
          case atStart => exact ⟨0, by omega, rfl, HO0.out⟩
          case round =>
            obtain ⟨n, hg, rfl, ho⟩ := hrel
            have HO : Hid (Ow w M1 M2 #[.int .i64 pk, .int .i64 pn, .string ps, .string pm, (.slice (some ⟨gx, 0, none⟩) pl.length cx)] #[.int .i64 ak, .int .i64 an, .string az, .string am, (.slice (some ⟨gy, 0, none⟩) al.length cy)] Sx Sy Sb gx gy gb pl.length al.length s.length cx cy cb wr) := ho
            clear HO0
            have jn : (0 : Int) ≤ (n : Int) := by omega
            obtain ⟨e0, e1, e2, e3, e4⟩ := five9 ho.f
            obtain ⟨l9, h91, h92⟩ := ho.y
            clear ho
            by_cases hn : n < al.length
            · have k1 : (n : Int) < (al.length : Int) := by omega
              obtain ⟨G, rfl⟩ : ∃ G, gk = G + 1 := ⟨gk - 1, by omega⟩
              obtain ⟨⟨a0, b0⟩, q0⟩ := row_cell h92 (i := n * 3) (by omega)
              obtain ⟨⟨a1, b1⟩, q1⟩ := row_cell h92 (i := n * 3 + 1) (by omega)
              obtain ⟨⟨a2, b2⟩, q2⟩ := row_cell h92 (i := n * 3 + 2) (by omega)
              clear h91 h92 l9
              go_wp2
              go_roundg G
              case measure => omega
              case rel => exact ⟨n + 1, by omega, by go_num, HO.out.putY hn ⟨1, _, _⟩⟩
            · have k1 : ¬ (n : Int) < (al.length : Int) := by omega
              obtain rfl : n = al.length := by omega
              have HO0 : Hid (Ow w M1 M2 #[.int .i64 pk, .int .i64 pn, .string ps, .string pm, (.slice (some ⟨gx, 0, none⟩) pl.length cx)] #[.int .i64 ak, .int .i64 an, .string az, .string am, (.slice (some ⟨gy, 0, none⟩) al.length cy)] Sx Sy Sb gx gy gb pl.length al.length s.length cx cy cb wr) := HO.out
              clear HO h91 h92 l9
              go_wp2
              go_loopg [14] s.length (fun g i wr => ∃ n : Nat, n + g = s.length ∧ i = .int .i64 (n : Int) ∧ Ow w M1 M2 #[.int .i64 pk, .int .i64 pn, .string ps, .string pm, (.slice (some ⟨gx, 0, none⟩) pl.length cx)] #[.int .i64 ak, .int .i64 an, .string az, .string am, (.slice (some ⟨gy, 0, none⟩) al.length cy)] Sx Sy Sb gx gy gb pl.length al.length s.length cx cy cb wr)
              case atStart => exact ⟨0, by omega, rfl, HO0.out⟩
              case round =>
                obtain ⟨n, hg, rfl, ho⟩ := hrel
                have HO : Hid (Ow w M1 M2 #[.int .i64 pk, .int .i64 pn, .string ps, .string pm, (.slice (some ⟨gx, 0, none⟩) pl.length cx)] #[.int .i64 ak, .int .i64 an, .string az, .string am, (.slice (some ⟨gy, 0, none⟩) al.length cy)] Sx Sy Sb gx gy gb pl.length al.length s.length cx cy cb wr) := ho
                clear HO0
                have jn : (0 : Int) ≤ (n : Int) := by omega
                obtain ⟨l9, h91, h92⟩ := ho.v
                clear ho
                by_cases hn : n < s.length
                · have k1 : (n : Int) < (s.length : Int) := by omega
                  obtain ⟨G, rfl⟩ : ∃ G, gk = G + 1 := ⟨gk - 1, by omega⟩
                  obtain ⟨⟨a0, b0⟩, q0⟩ := row_cell h92 (i := n * 4) (by omega)
                  obtain ⟨⟨a1, b1⟩, q1⟩ := row_cell h92 (i := n * 4 + 1) (by omega)
                  obtain ⟨⟨a2, b2⟩, q2⟩ := row_cell h92 (i := n * 4 + 2) (by omega)
                  obtain ⟨⟨a3, b3⟩, q3⟩ := row_cell h92 (i := n * 4 + 3) (by omega)
                  clear h91 h92 l9
                  go_wp2
                  go_roundg G
                  case measure => omega
                  case rel => exact ⟨n + 1, by omega, by go_num, HO.out.putB hn ⟨_, 1, _, _⟩⟩
                · have k1 : ¬ (n : Int) < (s.length : Int) := by omega
                  obtain rfl : n = s.length := by omega
                  have HO0 : Hid (Ow w M1 M2 #[.int .i64 pk, .int .i64 pn, .string ps, .string pm, (.slice (some ⟨gx, 0, none⟩) pl.length cx)] #[.int .i64 ak, .int .i64 an, .string az, .string am, (.slice (some ⟨gy, 0, none⟩) al.length cy)] Sx Sy Sb gx gy gb pl.length al.length s.length cx cy cb wr) := HO.out
                  clear HO h91 h92 l9
                  obtain ⟨e0, e1, e2, e3, e4⟩ := five9 HO0.out.e
                  obtain ⟨f0, f1, f2, f3, f4⟩ := five9 HO0.out.f
                  go_wp2_with (first
                    | (go_at_call 10; refine (HA1.out _ HO0.out).mono ?_; clear HA1; rintro e Z1 ⟨rfl, hb⟩; have HO1 : Hid (Ow w M1 M2 #[.int .i64 pk, .int .i64 pn, .string ps, .string pm, (.slice (some ⟨gx, 0, none⟩) pl.length cx)] #[.int .i64 ak, .int .i64 an, .string az, .string am, (.slice (some ⟨gy, 0, none⟩) al.length cy)] Sx Sy Sb gx gy gb pl.length al.length s.length cx cy cb Z1) := HO0.out.later hb; clear hb HO0; clear e0 e1 e2 e3 e4 f0 f1 f2 f3 f4; obtain ⟨e0, e1, e2, e3, e4⟩ := five9 HO1.out.e; obtain ⟨f0, f1, f2, f3, f4⟩ := five9 HO1.out.f)
                    | (go_at_call 10; refine (HA2.out _ HO1.out).mono ?_; clear HA2; rintro e Z2 ⟨rfl, hb⟩; have HO2 : Hid (Ow w M1 M2 #[.int .i64 pk, .int .i64 pn, .string ps, .string pm, (.slice (some ⟨gx, 0, none⟩) pl.length cx)] #[.int .i64 ak, .int .i64 an, .string az, .string am, (.slice (some ⟨gy, 0, none⟩) al.length cy)] Sx Sy Sb gx gy gb pl.length al.length s.length cx cy cb Z2) := HO1.out.later hb; clear hb HO1; clear e0 e1 e2 e3 e4 f0 f1 f2 f3 f4)
                    | (go_at_call 11; refine (first_any _).mono ?_; rintro e Z3 ⟨rfl, hb⟩; have HB9 : Hid (Below w.heap.size w Z3) := below_step HO2.out.b hb; clear hb HO2))
                  go_ret
                  exact ⟨rfl, HB9.out⟩
end Go.Proofs.YtnaiecemmhioeaaDoor

import Derived.Test.YtechceagghcipaaGreatDoorEB5
namespace Go.Proofs.YtechceagghcipaaGreatDoor
open Go.RowKit
attribute [local go_sem ↓] Go.wp_at_zero Go.wp_at_succ

theorem three8 (w : World) (c0 c1 c2 : Array Value) (t0 t1 t2 : TypeId) : Bk (((w.alloc (.cells c0 t0)).alloc (.cells c1 t1)).alloc (.cells c2 t2)) (w.heap.size + 2) c2 t2 /\ CBlk (((w.alloc (.cells c0 t0)).alloc (.cells c1 t1)).alloc (.cells c2 t2)) (w.heap.size + 1) c1 t1 /\ Below w.heap.size w (((w.alloc (.cells c0 t0)).alloc (.cells c1 t1)).alloc (.cells c2 t2)) := by
 refine ⟨?_, ?_, below_step (below_step (below1 _ _) (below1 _ _)) (below1 _ _)⟩
 ·have := Bk.new ((w.alloc (.cells c0 t0)).alloc (.cells c1 t1)) c2 t2
  rw [show ((w.alloc (.cells c0 t0)).alloc (.cells c1 t1)).heap.size = w.heap.size + 2 by simp] at this
  exact this
 ·have := (CBlk.new (w.alloc (.cells c0 t0)) c1 t1).later (below1 _ (.cells c2 t2))
  rw [show (w.alloc (.cells c0 t0)).heap.size = w.heap.size + 1 by simp] at this
  exact this
set_option maxRecDepth 20000 in
set_option maxHeartbeats 2000000 in
theorem terms8_any (a : At) (x : Value) (Y : World) (hx : TsP Y x a.args) (hm : a.args.length <= 100000000000) :
  Calls Tryz.prog 55 #[a.v x] Y fun e Y' => ∃ v, e = .returned v /\ OwnT Y' Y.heap.size v a.pl /\ Below Y.heap.size Y Y' := by
 have HC : Hid (∀ (b c : Nat) (X : World), Below Y.heap.size Y X -> Bk X b #[.slice (some ⟨c, 0, none⟩) 1 1, x] 25 -> CBlk X c #[.int .i64 a.by_.k, .int .i64 a.by_.n, .string a.by_.s] 24 -> Calls Tryz.prog 89 #[.slice (some ⟨b, 0, none⟩) 2 2] X fun e Y' => ∃ v, e = .returned v /\ OwnT Y' X.heap.size v a.pl /\ Below X.heap.size X Y') :=
  fun b c X hX h1 h2 => concat8_any b _ _ [a.by_] a.args X h1 (TsP.one h2) (hx.later hX) (by simp) (by simp) hm
 obtain ⟨ax, cx, rfl⟩ := hx.shape
 clear hx hm
 obtain ⟨⟨k, n, s⟩, nm, l⟩ := a
 go_enter Tryz.func55, Tryz.ntmps55
 go_wp2_with (go_at_call 89; refine (HC.out _ _ _ (by exact (three8 _ _ _ _ _ _ _).2.2) (by exact (three8 _ _ _ _ _ _ _).1) (by exact (three8 _ _ _ _ _ _ _).2.1)).mono ?_; clear HC; rintro e w1 ⟨v, rfl, ho, hb⟩; have HO := hm7 (ho.mono (b' := Y.heap.size) (by simp; omega)); have HB := hm7 (below_step (three8 Y _ _ _ _ _ _).2.2 hb); clear ho hb)
 go_ret
 exact ⟨_, rfl, HO.out, HB.out⟩
theorem two8 (w : World) (c0 c1 : Array Value) (t0 t1 : TypeId) : Bk ((w.alloc (.cells c0 t0)).alloc (.cells c1 t1)) (w.heap.size + 1) c1 t1 /\ Bk ((w.alloc (.cells c0 t0)).alloc (.cells c1 t1)) w.heap.size c0 t0 /\ Below w.heap.size w ((w.alloc (.cells c0 t0)).alloc (.cells c1 t1)) := by
 refine ⟨?_, (Bk.new _ _ _).below (below1 _ _), below_step (below1 _ _) (below1 _ _)⟩
 have := Bk.new (w.alloc (.cells c0 t0)) c1 t1
 rw [show (w.alloc (.cells c0 t0)).heap.size = w.heap.size + 1 by simp] at this
 exact this
set_option maxRecDepth 20000 in
set_option maxHeartbeats 2000000 in
theorem predOf8_any (a : At) (x : Value) (Y : World) (hx : ∃ ad cap, x = .slice ad a.args.length cap) :
  Calls Tryz.prog 33 #[a.v x] Y fun e Y' => e = .returned (.agg #[.string a.name, .int .i64 (a.args.length : Int)]) /\ Below Y.heap.size Y Y' := by
 obtain ⟨ax, cx, rfl⟩ := hx
 obtain ⟨⟨k, n, s⟩, nm, l⟩ := a
 have HT : Hid (Bk _ _ _ _ /\ Bk _ _ _ _ /\ Below _ _ _) := two8 Y #[.int .i64 k, .int .i64 n, .string s, .string nm, .slice ax l.length cx] #[.string ⟨#[]⟩, .int .i64 0] 27 60
 have r0 := HT.out.1.cell (i := 0) rfl
 have r1 := HT.out.1.cell (i := 1) rfl
 have f0 := HT.out.1.froz 0
 have f1 := HT.out.1.froz 1
 have l0 := HT.out.1.lt
 have q3 := HT.out.2.1.cell (i := 3) rfl
 have q4 := HT.out.2.1.cell (i := 4) rfl
 have nw : Y.heap.size <= Y.heap.size + 1 := by omega
 go_enter Tryz.func33, Tryz.ntmps33
 go_wp2
 exact bodyPost_ret (v := .agg #[.string nm, .int .i64 (l.length : Int)]) (by simp [results, Tryz.results33, go_sem]) rfl ⟨rfl, (two8 _ _ _ _ _).2.2⟩
set_option maxRecDepth 20000 in
set_option maxHeartbeats 2000000 in
theorem thing8_any (g : Nat) (tv : Value) (mn : Nat) (rm : Value) (T : List Tm) (i : Nat) (t : Tm) (Y : World) (h : TB8 g tv mn rm T Y) (ht : T[i]? = some t) :
  Calls Tryz.prog 93 #[.pointer (some ⟨g, 0, none⟩), .int .i64 (i : Int)] Y fun e Y' => e = .returned t.v /\ Below Y.heap.size Y Y' := by
 obtain ⟨ta, tc, rfl, htc⟩ := row7_form h.o
 have hi : i < T.length := (List.getElem?_eq_some_iff.1 ht).1
 obtain ⟨G, rfl⟩ : ∃ G, ta = some ⟨G, 0, none⟩ := by
  rcases h.o.2 with ⟨h1, h2⟩ | ⟨G, cap', cur, hv, -⟩
  ·simp only [Value.slice.injEq] at h1
   omega
  ·simp only [Value.slice.injEq] at hv
   exact ⟨G, hv.1⟩
 have hb0 := below1 Y (.cells #[.int .i64 0, .int .i64 0, .string ⟨#[]⟩] 24)
 have h' := h.below hb0
 obtain ⟨e0, e1, e2⟩ := ownT_cells h'.o i t ht
 have c0 := h'.b.cell (i := 0) rfl
 have gl := h'.b.lt
 have HN := Bk.new Y #[.int .i64 0, .int .i64 0, .string ⟨#[]⟩] 24
 have r0 := HN.cell (i := 0) rfl
 have r1 := HN.cell (i := 1) rfl
 have r2 := HN.cell (i := 2) rfl
 have f0 := HN.froz 0
 have f1 := HN.froz 1
 have f2 := HN.froz 2
 have l0 := HN.lt
 have i1 : (i : Int) < (T.length : Int) := by omega
 have i0 : ¬ (i : Int) < 0 := by omega
 have nw := Nat.le_refl Y.heap.size
 have HB := hm7 hb0
 clear h h' hb0 HN ht
 obtain ⟨k, n, s⟩ := t
 go_enter Tryz.func93, Tryz.ntmps93
 go_wp2
 exact bodyPost_ret (v := Tm.v ⟨k, n, s⟩) (by simp [results, Tryz.results93, go_sem]) rfl ⟨rfl, below1 _ _⟩
end Go.Proofs.YtechceagghcipaaGreatDoor

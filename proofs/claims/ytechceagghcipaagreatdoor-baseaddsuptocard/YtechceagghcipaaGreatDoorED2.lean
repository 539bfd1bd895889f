import Derived.Test.YtechceagghcipaaGreatDoorED1
namespace Go.Proofs.YtechceagghcipaaGreatDoor
open Go.RowKit
attribute [local go_sem ↓] Go.wp_at_zero Go.wp_at_succ

structure FB8 (g : Nat) (parts : Int) (a : At) (Y Y' : World) : Prop where
 b0 : Bk Y' Y.heap.size #[.pointer (some ⟨g, 0, none⟩)] 29
 b1 : Bk Y' (Y.heap.size + 1) #[.int .i64 parts] 3
 b2 : ∃ v, Bk Y' (Y.heap.size + 2) #[.int .i64 a.by_.k, .int .i64 a.by_.n, .string a.by_.s, .string a.name, v] 27 /\ OwnT Y' Y.heap.size v a.args
 b : Below Y.heap.size Y Y'
theorem three9 (w : World) (c0 c1 c2 : Array Value) (t0 t1 t2 : TypeId) : Bk (((w.alloc (.cells c0 t0)).alloc (.cells c1 t1)).alloc (.cells c2 t2)) w.heap.size c0 t0 /\ Bk (((w.alloc (.cells c0 t0)).alloc (.cells c1 t1)).alloc (.cells c2 t2)) (w.heap.size + 1) c1 t1 /\ Bk (((w.alloc (.cells c0 t0)).alloc (.cells c1 t1)).alloc (.cells c2 t2)) (w.heap.size + 2) c2 t2 /\ Below w.heap.size w (((w.alloc (.cells c0 t0)).alloc (.cells c1 t1)).alloc (.cells c2 t2)) := by
 obtain ⟨h1, h2, h3⟩ := three8 w c0 c1 c2 t0 t1 t2
 exact ⟨((Bk.new _ _ _).below (below1 _ _)).below (below1 _ _), h2, h1, h3⟩
set_option maxRecDepth 20000 in
set_option maxHeartbeats 1000000 in
theorem bfind8_any (g : Nat) (parts : Int) (a : At) (x : Value) (Y : World) (hx : TsP Y x a.args) (hl : a.args.length <= 100000000000) :
  Calls Tryz.prog 8 #[.pointer (some ⟨g, 0, none⟩), .int .i64 parts, a.v x] Y fun e Y' => e = .returned (.func (.func 28) #[] #[.pointer (some ⟨Y.heap.size, 0, none⟩), .pointer (some ⟨Y.heap.size + 1, 0, none⟩), .pointer (some ⟨Y.heap.size + 2, 0, none⟩)]) /\ FB8 g parts a Y Y' := by
 obtain ⟨ax, cx, rfl⟩ := hx.shape
 have HT : Hid (Bk _ _ _ _ /\ Bk _ _ _ _ /\ Bk _ _ _ _ /\ Below _ _ _) := three9 Y #[.pointer (some ⟨g, 0, none⟩)] #[.int .i64 parts] #[.int .i64 a.by_.k, .int .i64 a.by_.n, .string a.by_.s, .string a.name, .slice ax a.args.length cx] 29 3 27
 have HC : Hid (∀ X : World, Below Y.heap.size Y X -> Calls Tryz.prog 27 #[.slice ax a.args.length cx] X fun e w' => ∃ v', e = .returned v' /\ OwnT w' X.heap.size v' a.args /\ Below X.heap.size X w') := fun X hX => clone8_any _ _ X (hx.later hX) hl
 obtain ⟨⟨q0, q1⟩, q2, q3, q4⟩ := five8 HT.out.2.2.1
 clear hx
 obtain ⟨⟨k, i, z⟩, nm, l⟩ := a
 go_enter Tryz.func8, Tryz.ntmps8
 go_wp2_with (go_at_call 27; refine (HC.out _ HT.out.2.2.2).mono ?_; clear HC; rintro e w1 ⟨v, rfl, ho, hb⟩; have HO := hm7 ho; have HB := hm7 hb; obtain ⟨⟨q0, q1⟩, q2, q3, q4⟩ := five8 (HT.out.2.2.1.below hb); have f4 := (HT.out.2.2.1.below hb).froz 4; have xl := (HT.out.2.2.1.below hb).lt; obtain ⟨va, vc, ev, -⟩ := row7_form ho; subst ev; clear ho hb)
 go_ret
 refine ⟨rfl, ⟨(HT.out.1.below HB.out).off (by omega), (HT.out.2.1.below HB.out).off (by omega), ⟨_, (HT.out.2.2.1.below HB.out).set 4 _, ?_⟩, (below_step HT.out.2.2.2 HB.out).setCell (p := ⟨Y.heap.size + 2, 4, none⟩) (by simp) _⟩⟩
 refine row7_mono (row7 HO.out fun b hb => heap_setCell_other _ _ _ _ fun e => ?_) (by simp; omega)
 have := (HO.out.lt b hb).1
 have e' : b = Y.heap.size + 1 + 1 := e
 simp at this
 omega
end Go.Proofs.YtechceagghcipaaGreatDoor

import Derived.Test.YtechceagghcipaaGreatDoorEJ1
import Derived.Test.YtechceagghcipaaGreatDoorEI0
import Derived.Test.YtechceagghcipaaGreatDoorL4
namespace Go.Proofs.YtechceagghcipaaGreatDoor
open Go.RowKit
attribute [local go_sem ↓] Go.wp_at_zero Go.wp_at_succ

theorem become_nil (t : Tm) : become [] t = t := by
 unfold become
 split
 ·simp [look]
 ·rfl
theorem ofp8_any (parts p : Int) (Y : World) : Calls Tryz.prog 113 #[.int .i64 parts, .int .i64 p] Y fun e Y' => e = .returned (.bool (hp7 parts p)) /\ Y' = Y := by
 go_enter Tryz.func113, Tryz.ntmps113
 go_wp2
 go_ret
 exact ⟨ret_b (by unfold hp7; simp [bne]), rfl⟩
set_option maxRecDepth 20000 in
set_option maxHeartbeats 1000000 in
theorem ownA8_any (a : At) (x : Value) (Y : World) (hx : Ts Y x a.args) (hl : a.args.length <= 1000000000) : Calls Tryz.prog 109 #[a.v x] Y fun e Y' => ∃ y, e = .returned (a.v y) /\ OwnT Y' Y.heap.size y a.args /\ Below Y.heap.size Y Y' := by
 have HX := hm7 hx
 have HL := hm7 hl
 obtain ⟨xa, xc, hxv, -⟩ := hx
 obtain ⟨⟨k, n, ss⟩, nm, l⟩ := a
 simp only at hxv
 subst hxv
 obtain ⟨W, hW⟩ : ∃ W, (Y.alloc (.cells #[.int .i64 k, .int .i64 n, .string ss, .string nm, .slice xa l.length xc] 27)).alloc (.cells #[.int .i64 0, .int .i64 0, .string ⟨#[]⟩, .string ⟨#[]⟩, .slice none 0 0] 27) = W := ⟨_, rfl⟩
 have C := BoxB.start Y #[.int .i64 k, .int .i64 n, .string ss, .string nm, .slice xa l.length xc] #[.int .i64 0, .int .i64 0, .string ⟨#[]⟩, .string ⟨#[]⟩, .slice none 0 0] 27 27
 rw [hW] at C
 have HC := hm7 C
 have hz : W.heap.size = Y.heap.size + 2 := by rw [<- hW]; simp
 obtain ⟨p0, p1, p2, p3, p4⟩ := five C.1
 have hca := rapplyO_any [] (.slice none 0 0) ⟨⟨k, n, ss⟩, nm, l⟩ (.slice xa l.length xc) W ⟨none, 0, rfl, by simp, Or.inl rfl⟩ (HX.out.later C.2.2) (by simp only; simp only at hl; omega)
 have hmap : l.map (become []) = l := by rw [show become [] = id from funext become_nil]; simp
 simp only [become_nil, hmap] at hca
 have HCA : Hid (Calls Tryz.prog 148 #[.slice none 0 0, .agg #[.int .i64 k, .int .i64 n, .string ss, .string nm, .slice xa l.length xc]] W fun e w' => ∃ y, e = .returned ((At.mk ⟨k, n, ss⟩ nm l).v y) /\ OwnT w' W.heap.size y l /\ Below W.heap.size W w') := hca
 clear C hl hca hmap
 go_enter Tryz.func109, Tryz.ntmps109
 go_upto_region 1 with fail
 first | rw [hW] | skip
 go_wp2_with (go_at_call 148; refine HCA.out.mono ?_; rintro e W2 ⟨y, rfl, ho, hb⟩; have HO := hm7 ho; have HB := hm7 hb; obtain ⟨ya, yn, yc, rfl⟩ := ownT_form3 ho; obtain ⟨⟨q0, q1, q2, q3, q4⟩, f0, f1, f2, f3, f4⟩ := fiveF ((HC.out.later hb).2.1); clear ho hb p0 p1 p2 p3 p4)
 have hz2 := HB.out.size
 have hbl := (HC.out.later HB.out).2.2
 refine bodyPost_ret (v := (At.mk ⟨k, n, ss⟩ nm l).v (.slice ya yn yc)) (by simp [results, Tryz.results109, go_sem, q0, q1, q2, q3, q4]) rfl ⟨.slice ya yn yc, rfl, ?_, ?_⟩
 ·exact (OwnT.set (OwnT.set (OwnT.set (OwnT.set (OwnT.set HO.out (by omega)) (by omega)) (by omega)) (by omega)) (by omega)).mono (by omega)
 ·exact bset (bset (bset (bset (bset hbl (by omega)) (by omega)) (by omega)) (by omega)) (by omega)
end Go.Proofs.YtechceagghcipaaGreatDoor

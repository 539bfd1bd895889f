import Derived.Test.YtechceagghcipaaGreatDoorEJ4
namespace Go.Proofs.YtechceagghcipaaGreatDoor
open Go.RowKit
attribute [local go_sem ↓] Go.wp_at_zero Go.wp_at_succ

structure FL8 (V : World) (base : Nat) (v : Value) (Q : List (At × Value)) : Prop where
 o : OwnA V base v Q
 t : ∀ x ∈ Q, OwnT V base x.2 x.1.args /\ x.1.args.length <= 1000000000
theorem FL8.nil (V : World) (base : Nat) : FL8 V base (.slice none 0 0) [] := ⟨World.ownsRow_nil _ _ _ _, nofun⟩
theorem FL8.below {V V' : World} {base : Nat} {v : Value} {Q : List (At × Value)} (h : FL8 V base v Q) (hb : Below V.heap.size V V') : FL8 V' base v Q := ⟨h.o.later hb, fun x hx => ⟨(h.t x hx).1.later hb, (h.t x hx).2⟩⟩
theorem FL8.app {V V' : World} {base : Nat} {v v' : Value} {Q : List (At × Value)} {y : At × Value} (h : FL8 V base v Q) (hy : OwnT V base y.2 y.1.args /\ y.1.args.length <= 1000000000) (ho : OwnA V' base v' (Q ++ [y])) (hg : V.grownBy V' v.ownBlock) : FL8 V' base v' (Q ++ [y]) := by
 refine ⟨ho, fun x hx => ?_⟩
 have key : ∀ z : At × Value, OwnT V base z.2 z.1.args -> OwnT V' base z.2 z.1.args := fun z hz => OwnT.grown hz hg fun k hk e => row7_ne hz h.o (by decide) k hk e
 rcases List.mem_append.1 hx with hx | hx
 ·exact ⟨key x (h.t x hx).1, (h.t x hx).2⟩
 ·obtain rfl := List.mem_singleton.1 hx
  exact ⟨key x hy.1, hy.2⟩
theorem FL8.as {V : World} {base : Nat} {v : Value} {Q : List (At × Value)} (h : FL8 V base v Q) (hl : Q.length <= 1000000000) : As V v Q := h.o.as (by omega) fun x hx => (h.t x hx).1.tsP.ts (by have := (h.t x hx).2; omega)
def fq8 (R : List It8) (parts : Int) (j : Nat) : List At := ((Ei (R.take j)).filter fun x => hp7 parts x.2).map Prod.fst
theorem fq8_step {R : List It8} {parts : Int} {j : Nat} {x : It8} (h : R[j]? = some x) : fq8 R parts (j + 1) = fq8 R parts j ++ if hp7 parts x.2 = true then [x.1.1] else [] := by
 unfold fq8
 rw [List.take_add_one, h, Ei_app, List.filter_append, List.map_append]
 congr 1
 by_cases hp : hp7 parts x.2 = true
 ·simp [Ei, hp]
 ·have : hp7 parts x.2 = false := by simpa using hp
  simp [Ei, this]
theorem fq8_len (R : List It8) (parts : Int) (j : Nat) : (fq8 R parts j).length <= R.length := by
 unfold fq8
 rw [List.length_map]
 refine Nat.le_trans (List.length_filter_le _ _) ?_
 rw [Ei_len, List.length_take]
 omega
def RF8 (L : List At) (Y : World) (e : Ending) (Y' : World) : Prop := ∃ v Q, e = .returned v /\ FL8 Y' Y.heap.size v Q /\ Q.map Prod.fst = L /\ Below Y.heap.size Y Y'
set_option maxRecDepth 20000 in
set_option maxHeartbeats 1000000 in
theorem rbfacts8_any (w0 : World) (A : Nat -> Prop) (r : Nat) (lv : Value) (R : List It8) (parts : Int) (Y : World) (h : RB8 w0 A r lv R Y) (hl : R.length <= 1000000000) :
  Calls Tryz.prog 77 #[.pointer (some ⟨r, 0, none⟩), .int .i64 parts] Y (RF8 (((Ei R).filter fun x => hp7 parts x.2).map Prod.fst) Y) := by
 have H := hm7 h
 have HA := hm7 h.l.is
 obtain ⟨la, cap, rfl⟩ := h.l.o.form
 clear h
 go_enter Tryz.func77, Tryz.ntmps77
 go_wp2
 go_loopg [6, 5] R.length (fun g i v wr => ∃ (j : Nat) (Q : List (At × Value)), j + g = R.length /\ i = .int .i64 j /\ FL8 wr Y.heap.size v Q /\ Q.map Prod.fst = fq8 R parts j /\ Below Y.heap.size Y wr)
 case atStart => exact ⟨0, [], by omega, rfl, FL8.nil _ _, by simp [fq8, Ei], Below.refl _ _⟩
 case round =>
  obtain ⟨j, Q, hj, rfl, hfl, hq, hw⟩ := hrel
  have HB := hm7 hw
  have HFL := hm7 hfl
  have HQ := hm7 hq
  have q0 := (H.out.below hw).cell
  cases gk with
  | succ g =>
   have hlt : (j : Int) < (R.length : Int) := by omega
   have j0 : (0 : Int) <= (j : Int) := by omega
   obtain ⟨x, hx⟩ : ∃ x, R[j]? = some x := ⟨_, List.getElem?_eq_getElem (by omega)⟩
   have HST := hm7 (fq8_step (parts := parts) hx)
   obtain ⟨lb, lo, ax, cx, rfl, hax, c1⟩ := HA.out.get hx
   obtain ⟨⟨a0, a1, a2, a3, a4⟩, a5⟩ := c1 wr hw
   have hts := (H.out.l.t x (List.mem_of_getElem? hx)).1.tsP
   have hla := (H.out.l.t x (List.mem_of_getElem? hx)).2
   have HOW := hm7 (ownA8_any x.1.1 x.1.2 wr ((hts.ts (by omega)).later hw) hla)
   have HLA := hm7 hla
   obtain ⟨va, vc, rfl⟩ := hfl.o.form
   have hql : Q.length <= 1000000000 := by have := fq8_len R parts j; have h2 := congrArg List.length hq; rw [List.length_map] at h2; omega
   obtain ⟨⟨⟨⟨kx, mx, sx⟩, nx, lx⟩, vx⟩, px⟩ := x
   simp only at hax a0 a1 a2 a3 a4 a5 HOW HST HLA
   subst hax
   have HOC : Hid (Calls Tryz.prog 109 #[.agg #[.int .i64 kx, .int .i64 mx, .string sx, .string nx, .slice ax lx.length cx]] wr fun e Y' => ∃ y, e = .returned ((At.mk ⟨kx, mx, sx⟩ nx lx).v y) /\ OwnT Y' wr.heap.size y lx /\ Below wr.heap.size wr Y') := HOW.out
   have hz := hw.size
   clear hx hts hla hfl hq HOW c1 hw
   by_cases hp : hp7 parts px = true
   ·rw [if_pos hp] at HST
    go_wp2_with (first
     | (go_at_call 113; refine (ofp8_any parts px _).mono ?_; rw [hp]; rintro e w1 ⟨rfl, rfl⟩)
     | (go_at_call 109; refine HOC.out.mono ?_; rintro e w1 ⟨y, rfl, ho1, hb1⟩; obtain ⟨ya, yn, yc, rfl⟩ := ownT_form3 ho1; have HO1 := hm7 ho1; have HB1 := hm7 hb1; have hz1 := hb1.size; clear ho1 hb1 a0 a1 a2 a3 a4 a5 q0)
     | (at_builtin; refine aapp_one rfl _ _ rfl Y.heap.size (.slice va Q.length vc) Q rfl ((HFL.out.below HB1.out).o.later (below1 _ _)) w1.heap.size (⟨⟨kx, mx, sx⟩, nx, lx⟩, .slice ya yn yc) rfl (CBlk.new _ _ _) (acell_one _ _ _ _) (by omega) (by simp; omega) ?_; intro v2 w2 ho2 hb2 hg2 hk2; have HF2 := hm7 (((HFL.out.below HB1.out).below (below1 _ _)).app ⟨(HO1.out.mono hz).later (below1 _ _), HLA.out⟩ ho2 hg2); have HB2 := hm7 ((HB.out.trans (HB1.out.mono hz)).trans (((below1 _ _).mono (by omega)).trans hb2)); clear ho2 hb2 hg2 hk2))
    go_roundg g
    case measure => omega
    case rel => exact ⟨j + 1, _, by omega, by go_num, HF2.out, by rw [List.map_append, HQ.out, HST.out]; rfl, HB2.out⟩
   ·rw [if_neg hp, List.append_nil] at HST
    have hpf : hp7 parts px = false := by simpa using hp
    go_wp2_with (go_at_call 113; refine (ofp8_any parts px _).mono ?_; rw [hpf]; rintro e w1 ⟨rfl, rfl⟩)
    go_roundg g
    case measure => omega
    case rel => exact ⟨j + 1, Q, by omega, by go_num, HFL.out, by rw [HST.out]; exact HQ.out, HB.out⟩
  | zero =>
   have hlt : ¬ (j : Int) < (R.length : Int) := by omega
   obtain rfl : j = R.length := by omega
   clear hfl hq hw
   go_wp2
   go_ret
   exact ⟨_, Q, rfl, HFL.out, by rw [HQ.out]; unfold fq8; rw [List.take_length], HB.out⟩
set_option maxRecDepth 20000 in
theorem rblen8_any (w0 : World) (A : Nat -> Prop) (r : Nat) (lv : Value) (R : List It8) (parts : Int) (Y : World) (h : RB8 w0 A r lv R Y) (hl : R.length <= 1000000000) :
  Calls Tryz.prog 76 #[.pointer (some ⟨r, 0, none⟩), .int .i64 parts] Y fun e Y' => e = .returned (.int .i64 (((Ei R).filter fun x => hp7 parts x.2).length : Int)) /\ Below Y.heap.size Y Y' := by
 have HC := hm7 (rbfacts8_any w0 A r lv R parts Y h hl)
 clear h
 go_enter Tryz.func76, Tryz.ntmps76
 go_wp2_with (go_at_call 77; refine HC.out.mono ?_; rintro e w1 ⟨v, Q, rfl, hf, hq, hb⟩; obtain ⟨va, vc, rfl⟩ := hf.o.form; have HB := hm7 hb; have HQ := hm7 hq; clear hf hb hq)
 go_ret
 refine ⟨?_, HB.out⟩
 have := congrArg List.length HQ.out
 rw [List.length_map, List.length_map] at this
 rw [this]
 rfl
end Go.Proofs.YtechceagghcipaaGreatDoor

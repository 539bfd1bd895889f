import Derived.Test.YtechceagghcipaaGreatDoorEJ2
import Derived.Test.YtechceagghcipaaGreatDoorRD5
namespace Go.Proofs.YtechceagghcipaaGreatDoor
open Go.RowKit
attribute [local go_sem ↓] Go.wp_at_zero Go.wp_at_succ

def tR8 (R : List It8) (j : Nat) : List It8 := (R.take j).map tI8 ++ R.drop j
theorem tR8_len (R : List It8) (j : Nat) : (tR8 R j).length = R.length := by
 unfold tR8
 rw [List.length_append, List.length_map, <- List.length_append, List.take_append_drop]
theorem tR8_at {R : List It8} {j : Nat} {x : It8} (h : R[j]? = some x) : (tR8 R j)[j]? = some x := by
 have hl := (List.getElem?_eq_some_iff.1 h).1
 unfold tR8
 rw [List.getElem?_append_right (by rw [List.length_map, List.length_take]; omega), List.length_map, List.length_take, Nat.min_eq_left (by omega), Nat.sub_self, List.getElem?_drop, Nat.add_zero, h]
theorem tR8_next {R : List It8} {j : Nat} {x : It8} (h : R[j]? = some x) : tR8 R (j + 1) = (tR8 R j).set j (tI8 x) := by
 have hl := (List.getElem?_eq_some_iff.1 h).1
 have e : ((R.take j).map tI8).length = j := by rw [List.length_map, List.length_take]; omega
 unfold tR8
 rw [List.set_append_right _ _ (by omega), e, Nat.sub_self, dropc7 h, take_next7 h, List.map_append, List.append_assoc]
 rfl
theorem hp7_four {q : Int} (h : q = 1 ∨ q = 2 ∨ q = 4) : hp7 4 q = decide (q = 4) := by rcases h with rfl | rfl | rfl <;> rfl
theorem RB8.parts {w0 : World} {A : Nat -> Prop} {r : Nat} {lv : Value} {R R' : List It8} {Y Y' : World} (h : RB8 w0 A r lv R Y) (hf : Fr (fun b => lv.ownBlock = some b) Y Y') (hl : EnL Y' w0.heap.size lv R') (hi : ∀ b, Ib lv R' b ↔ Ib lv R b) : RB8 w0 A r lv R' Y' :=
 ⟨h.b.fr hf h.rn, hl, fun b => by rw [h.a b, hi b], h.lo, h.be.trans (Fr.low (hf.mono (Q := fun b => w0.heap.size <= b) fun b _ hb => (h.l.o.lt b hb).1) h.be.size)⟩
theorem Ib_map {lv : Value} {R : List It8} {R' : List It8} (h : R'.map Prod.fst = R.map Prod.fst) (b : Nat) : Ib lv R' b ↔ Ib lv R b := by
 have key : ∀ S : List It8, (∃ x ∈ S, x.1.2.ownBlock = some b) ↔ ∃ y ∈ S.map Prod.fst, y.2.ownBlock = some b := fun S => by
  constructor
  ·rintro ⟨x, hx, e⟩; exact ⟨x.1, List.mem_map.2 ⟨x, hx, rfl⟩, e⟩
  ·rintro ⟨y, hy, e⟩; obtain ⟨x, hx, rfl⟩ := List.mem_map.1 hy; exact ⟨x, hx, e⟩
 unfold Ib
 rw [key, key, h]
theorem tR8_fst (R : List It8) (j : Nat) : (tR8 R j).map Prod.fst = R.map Prod.fst := by
 have e : ((R.take j).map tI8).map Prod.fst = (R.take j).map Prod.fst := by rw [List.map_map]; rfl
 unfold tR8
 rw [List.map_append, e, <- List.map_append, List.take_append_drop]
set_option maxRecDepth 20000 in
set_option maxHeartbeats 2000000 in
theorem rbturn8_any (w0 : World) (A : Nat -> Prop) (r : Nat) (lv : Value) (R : List It8) (Y : World) (h : RB8 w0 A r lv R Y) (hp : ∀ x ∈ R, x.2 = 1 ∨ x.2 = 2 ∨ x.2 = 4) (hl : R.length <= 1000000000) :
  Calls Tryz.prog 72 #[.pointer (some ⟨r, 0, none⟩)] Y fun e Y' => e = .returned (.int .i64 (((Ei R).filter fun x => hp7 4 x.2).length : Int)) /\ RB8 w0 A r lv (R.map tI8) Y' /\ Fr A Y Y' := by
 have H := hm7 h
 have HP := hm7 hp
 obtain ⟨la, lc, rfl⟩ := h.l.o.form
 clear h hp
 go_enter Tryz.func72, Tryz.ntmps72
 go_wp2
 go_loopg [4, 3] R.length (fun gg i c wr => ∃ j : Nat, j + gg = R.length /\ i = .int .i64 j /\ c = .int .i64 (pc8 R 4 j : Int) /\ pc8 R 4 j <= j /\ Fr (fun b => (Value.slice la R.length lc).ownBlock = some b) Y wr /\ EnL wr w0.heap.size (.slice la R.length lc) (tR8 R j))
 case atStart => exact ⟨0, by omega, rfl, rfl, by simp [pc8, Ei], Fr.refl _ _, by have := H.out.l; simpa [tR8] using this⟩
 case round =>
  obtain ⟨j, hj, rfl, rfl, hcj, hf, ho⟩ := hrel
  have c0 : wr.cell? ⟨r, 0, none⟩ = some (.slice la R.length lc) := (H.out.b.fr hf H.out.rn).cell rfl
  have HF := hm7 hf
  have HO := hm7 ho
  clear hf ho
  cases gk with
  | succ gg =>
   have hlt : (j : Int) < (R.length : Int) := by omega
   have j0 : (0 : Int) <= (j : Int) := by omega
   obtain ⟨x, hx⟩ : ∃ x, R[j]? = some x := ⟨_, List.getElem?_eq_getElem (by omega)⟩
   have HTA := hm7 (tR8_at hx)
   have HTN := hm7 (tR8_next hx)
   have HST := hm7 (pc8_step (parts := 4) hx)
   have hpx := HP.out x (List.mem_of_getElem? hx)
   have his := HO.out.is
   obtain ⟨lb, lo, fa, fc, rfl, -, hc⟩ := his.get HTA.out
   obtain ⟨a0, cap0, ev, hg0⟩ : ∃ g cap, (Value.slice (some ⟨lb, lo, none⟩) R.length lc) = .slice (some ⟨g, 0, none⟩) R.length cap /\ wr.frozen? ⟨g, (j * 6 + 5), none⟩ = false := by
    rcases HO.out.o.2 with ⟨e, -⟩ | ⟨g, cap, cur, e, -, hg, -⟩
    ·cases e
    ·rw [tR8_len] at e
     exact ⟨g, cap, e, Bk.froz hg _⟩
   cases ev
   have c5 := (hc wr (Below.refl _ _)).2
   rw [hp7_four hpx] at HST
   rw [Nat.zero_add] at c5
   have HHJ := hm7 (And.intro hj hcj)
   have hw : (pc8 R 4 j : Int) <= 1000000000 := by omega
   have HSET : ∀ q : Int, Hid (EnL (wr.setCell ⟨lb, j * 6 + 5, none⟩ (.int .i64 q)) w0.heap.size (.slice (some ⟨lb, 0, none⟩) R.length lc) ((tR8 R j).set j (x.1, q))) := fun q => HO.out.part HTA.out q
   have HFS : ∀ q : Int, Hid (Fr (fun b => (Value.slice (some ⟨lb, 0, none⟩) R.length lc).ownBlock = some b) Y (wr.setCell ⟨lb, j * 6 + 5, none⟩ (.int .i64 q))) := fun q => HF.out.set (Or.inl rfl)
   clear hx his hc hj hcj
   obtain ⟨xf, px⟩ := x
   simp only at hpx c5 HST HSET
   rcases hpx with rfl | rfl | rfl
   ·have HSN : Hid ((tR8 R j).set j (tI8 (xf, 1)) = tR8 R j) := set_self7 HTA.out
    clear HSET HFS
    go_wp2
    go_roundg gg
    case measure => omega
    case rel => exact ⟨j + 1, by have := HHJ.out; omega, by go_num, by rw [HST.out]; rfl, by rw [HST.out]; have := HHJ.out; simp; omega, HF.out, by rw [HTN.out, HSN.out]; exact HO.out⟩
   ·have HS := HSET 1
    have HG := HFS 1
    clear HSET HFS
    go_wp2
    go_roundg gg
    case measure => omega
    case rel => exact ⟨j + 1, by have := HHJ.out; omega, by go_num, by rw [HST.out]; rfl, by rw [HST.out]; have := HHJ.out; simp; omega, HG.out, by rw [HTN.out]; exact HS.out⟩
   ·have HS := HSET 2
    have HG := HFS 2
    clear HSET HFS
    go_wp2
    go_roundg gg
    case measure => omega
    case rel => exact ⟨j + 1, by have := HHJ.out; omega, by go_num, by rw [HST.out]; go_num, by rw [HST.out]; have := HHJ.out; simp; omega, HG.out, by rw [HTN.out]; exact HS.out⟩
  | zero =>
   have hlt : ¬ (j : Int) < (R.length : Int) := by omega
   obtain rfl : j = R.length := by omega
   clear hcj hj
   go_wp2
   go_ret
   have e : tR8 R R.length = R.map tI8 := by simp [tR8]
   refine ⟨by unfold pc8; rw [List.take_length]; rfl, ?_, HF.out.mono fun b _ hb => (H.out.a b).2 (Or.inr (Or.inl hb))⟩
   have ho := HO.out
   rw [e] at ho
   exact H.out.parts HF.out ho (Ib_map (by rw [<- e]; exact tR8_fst _ _))
end Go.Proofs.YtechceagghcipaaGreatDoor

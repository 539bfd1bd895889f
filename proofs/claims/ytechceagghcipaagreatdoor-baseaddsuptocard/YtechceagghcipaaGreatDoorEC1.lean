import Derived.Test.YtechceagghcipaaGreatDoorEB9
import Derived.Test.YtechceagghcipaaGreatDoorRC2
namespace Go.Proofs.YtechceagghcipaaGreatDoor
open Go.RowKit
attribute [local go_sem ↓] Go.wp_at_zero Go.wp_at_succ

open Classical in
noncomputable def rlF (ga : Pd -> Nat) (K : List Pd) : Pd -> Option Value := fun p => if p ∈ K then some (.pointer (some ⟨ga p, 0, none⟩)) else none
theorem rlF_in {ga : Pd -> Nat} {K : List Pd} {p : Pd} (h : p ∈ K) : rlF ga K p = some (.pointer (some ⟨ga p, 0, none⟩)) := if_pos h
theorem rlF_out {ga : Pd -> Nat} {K : List Pd} {p : Pd} (h : p ∉ K) : rlF ga K p = none := if_neg h
structure BS (w : World) (g : Nat) (tv : Value) (mn mr : Nat) (ga : Pd -> Nat) (B : Pd -> Nat -> Prop) (m : Nat) (T : List Tm) (K : List Pd) (s : Pd -> St7) (Y : World) : Prop where
 t : TB8 g tv mn (.map (some mr)) T Y
 r : Mq kyP Y mr K.length (rlF ga K)
 nd : K.Nodup
 kp : ∀ p ∈ K, KeyP p
 pt : ∀ p ∈ K, PT w (B p) (ga p) m (s p) Y
 ap : ∀ p ∈ K, ∀ b, B p b -> ¬ PB8 g tv mn b /\ b ≠ mr
 a2 : ∀ p ∈ K, ∀ q ∈ K, p ≠ q -> ∀ b, B p b -> ¬ B q b
 am : ¬ PB8 g tv mn mr
 lo : ∀ b, PB8 g tv mn b ∨ b = mr -> w.heap.size <= b
 bl : Below w.heap.size w Y
section
variable {w : World} {g : Nat} {tv : Value} {mn mr : Nat} {ga : Pd -> Nat} {B : Pd -> Nat -> Prop} {m : Nat} {T : List Tm} {K : List Pd} {s : Pd -> St7} {Y : World}
def PA8 (g : Nat) (tv : Value) (mn mr : Nat) (B : Pd -> Nat -> Prop) (K : List Pd) (b : Nat) : Prop := PB8 g tv mn b ∨ b = mr ∨ ∃ p ∈ K, B p b
theorem BS.fr (h : BS w g tv mn mr ga B m T K s Y) {P : Nat -> Prop} {Y' : World} (hf : Fr P Y Y') (hn : ∀ b, P b -> b < Y.heap.size -> ¬ PA8 g tv mn mr B K b) (hw : ∀ b, P b -> b < Y.heap.size -> w.heap.size <= b) : BS w g tv mn mr ga B m T K s Y' := by
 have ht : ∀ b, PB8 g tv mn b -> ¬ P b := fun b hb hp => hn b hp (h.t.lt hb) (Or.inl hb)
 exact ⟨h.t.fr hf ht, h.r.fr hf (fun hp => hn mr hp h.r.lt (Or.inr (Or.inl rfl))), h.nd, h.kp, fun p hp => (h.pt p hp).fr hf fun b hb hl => ⟨hw b hb hl, fun hq => hn b hb hl (Or.inr (Or.inr ⟨p, hp, hq⟩))⟩, h.ap, h.a2, h.am, h.lo, h.bl.trans (Fr.low (Fr.mono hf (Q := fun b => w.heap.size <= b) fun b hl hb => hw b hb hl) h.bl.size)⟩
theorem BS.below (h : BS w g tv mn mr ga B m T K s Y) {Y' : World} (hb : Below Y.heap.size Y Y') : BS w g tv mn mr ga B m T K s Y' := h.fr (P := fun _ => False) (Fr.of hb) (fun _ h => h.elim) fun _ h => h.elim
theorem BS.lt (h : BS w g tv mn mr ga B m T K s Y) {b : Nat} (hb : PA8 g tv mn mr B K b) : w.heap.size <= b /\ b < Y.heap.size := by
 rcases hb with hb | rfl | ⟨p, hp, hb⟩
 ·exact ⟨h.lo b (Or.inl hb), h.t.lt hb⟩
 ·exact ⟨h.lo b (Or.inr rfl), h.r.lt⟩
 ·exact (h.pt p hp).t b hb
end
set_option maxRecDepth 20000 in
set_option maxHeartbeats 1000000 in
theorem newTable8_any (Y : World) : Calls Tryz.prog 37 #[] Y fun e Y' => e = .returned (.agg #[.slice none 0 0, .map (some (Y.heap.size + 1))]) /\ Mq kyT Y' (Y.heap.size + 1) 0 (fun _ => none) /\ Below Y.heap.size Y Y' := by
 have m1 := mk_map7 77
 go_enter Tryz.func37, Tryz.ntmps37
 go_wp2
 have hq := Mq.made kyT (Y.alloc (.cells #[.slice none 0 0, .map (some (Y.heap.size + 1))] 79))
 rw [show (Y.alloc (.cells #[.slice none 0 0, .map (some (Y.heap.size + 1))] 79)).heap.size = Y.heap.size + 1 by simp] at hq
 exact bodyPost_ret (v := .agg #[.slice none 0 0, .map (some (Y.heap.size + 1))]) (by simp [results, Tryz.results37, go_sem]) rfl ⟨rfl, hq, below_step (below1 _ _) (below1 _ _)⟩
def Nw8 (w Y : World) (e : Ending) (Y' : World) : Prop :=
 ∃ g mn mr, e = .returned (.pointer (some ⟨g, 0, none⟩)) /\ BS w g (.slice none 0 0) mn mr (fun _ => 0) (fun _ _ => False) 0 [] [] (fun _ => New7 0) Y' /\ (Y.heap.size <= g /\ Y.heap.size <= mn /\ Y.heap.size <= mr) /\ Below Y.heap.size Y Y'
set_option maxRecDepth 20000 in
set_option maxHeartbeats 1000000 in
theorem bnew8_any (w Y : World) (hb : Below w.heap.size w Y) : Calls Tryz.prog 16 #[] Y (Nw8 w Y) := by
 have m1 := mk_map7 80
 have HB := hm7 hb
 clear hb
 go_enter Tryz.func16, Tryz.ntmps16
 go_wp2_with (go_at_call 37; refine (newTable8_any _).mono ?_; rintro e w1 ⟨rfl, hq, hb1⟩; have HQ := hm7 hq; have HB1 := hm7 hb1; clear hq hb1)
 go_ret
 have hb2 : Below w1.heap.size w1 ((w1.alloc (.map #[] 0)).alloc (.cells #[.slice none 0 0, .map (some (Y.heap.size + 1)), .map (some w1.heap.size)] 82)) := below_step (below1 _ _) (below1 _ _)
 have hk := Bk.new (w1.alloc (.map #[] 0)) #[.slice none 0 0, .map (some (Y.heap.size + 1)), .map (some w1.heap.size)] 82
 rw [show (w1.alloc (.map #[] 0)).heap.size = w1.heap.size + 1 by simp] at hk
 have hm := (Mq.made kyP w1).below (below1 _ (.cells #[.slice none 0 0, .map (some (Y.heap.size + 1)), .map (some w1.heap.size)] 82))
 have h1 := HQ.out.lt
 have h2 := HB.out.size
 refine ⟨w1.heap.size + 1, Y.heap.size + 1, w1.heap.size, rfl, ⟨⟨hk, World.ownsRow_nil _ _ _ _, ?_, ⟨nofun, nofun⟩, by simp⟩, ?_, List.nodup_nil, nofun, nofun, nofun, nofun, ?_, ?_, ?_⟩, ⟨by omega, by omega, by omega⟩, HB1.out.trans (hb2.mono HB1.out.size)⟩
 ·have q := HQ.out.below hb2
  exact q
 ·have e : rlF (fun _ => 0) [] = fun _ => none := funext fun p => rlF_out (by simp)
  rw [e]
  exact hm
 ·rintro (h | h | h)
  ·omega
  ·cases h
  ·omega
 ·rintro b ((h | h | h) | h)
  ·omega
  ·cases h
  ·omega
  ·omega
 ·exact (HB.out.trans (HB1.out.mono h2)).trans (hb2.mono (Nat.le_trans h2 HB1.out.size))
end Go.Proofs.YtechceagghcipaaGreatDoor

import Derived.Test.YtechceagghcipaaGreatDoorAA0
import Derived.Test.YtechceagghcipaaGreatDoorEB1
import Derived.Test.YtechceagghcipaaGreatDoorRA14
import Derived.Test.YtechceagghcipaaGreatDoorL1
import Derived.Test.YtechceagghcipaaGreatDoorRB3
namespace Go.Proofs.YtechceagghcipaaGreatDoor
open Go.RowKit
attribute [local go_sem ↓] Go.wp_at_zero Go.wp_at_succ

def ix8 (T : List Tm) (t : Tm) : Option Nat := T.findIdx? fun x => decide (x = t)
def ixF (T : List Tm) (t : Tm) : Option Value := (ix8 T t).map fun i => .int .i64 (i : Int)
theorem ix8_some {T : List Tm} {t : Tm} {i : Nat} (h : ix8 T t = some i) : T[i]? = some t := by
 unfold ix8 at h
 obtain ⟨hi, h1, -⟩ := List.findIdx?_eq_some_iff_getElem.1 h
 rw [List.getElem?_eq_getElem hi]
 simpa using h1
theorem ix8_snoc (T : List Tm) (t x : Tm) (h : ix8 T t = none) : ix8 (T ++ [t]) x = if x = t then some T.length else ix8 T x := by
 unfold ix8
 rw [List.findIdx?_append]
 by_cases e : x = t
 ·subst e
  rw [if_pos rfl]
  unfold ix8 at h
  rw [h]
  simp
 ·rw [if_neg e]
  cases hx : T.findIdx? (fun y => decide (y = x)) with
  | some i => simp
  | none => simp [Ne.symm e]
structure TB8 (g : Nat) (tv : Value) (mn : Nat) (rm : Value) (T : List Tm) (Y : World) : Prop where
 b : Bk Y g #[tv, .map (some mn), rm] 82
 o : OwnT Y 0 tv T
 n : Mq kyT Y mn T.length (ixF T)
 a : tv.ownBlock ≠ some g /\ tv.ownBlock ≠ some mn
 l : T.length <= 1000000000
theorem Mq.below {P : Program} {k : TypeId} {κ : Type} {K : Ky P k κ} {w w' : World} {b n : Nat} {f : κ -> Option Value} (h : Mq K w b n f) (hb : Below w.heap.size w w') : Mq K w' b n f := h.same (hb.block b h.lt)
theorem TB8.fr {g : Nat} {tv : Value} {mn : Nat} {rm : Value} {T : List Tm} {P : Nat -> Prop} {Y Y' : World} (h : TB8 g tv mn rm T Y) (hf : Fr P Y Y') (hn : ∀ b, (b = g ∨ tv.ownBlock = some b ∨ b = mn) -> ¬ P b) : TB8 g tv mn rm T Y' :=
 ⟨h.b.fr hf (hn g (Or.inl rfl)), row7_fr h.o hf fun b hb => hn b (Or.inr (Or.inl hb)), h.n.fr hf (hn mn (Or.inr (Or.inr rfl))), h.a, h.l⟩
theorem TB8.below {g : Nat} {tv : Value} {mn : Nat} {rm : Value} {T : List Tm} {Y Y' : World} (h : TB8 g tv mn rm T Y) (hb : Below Y.heap.size Y Y') : TB8 g tv mn rm T Y' := h.fr (P := fun _ => False) (Fr.of hb) fun _ _ h => h
theorem TB8.look {g : Nat} {tv : Value} {mn : Nat} {rm : Value} {T : List Tm} {Y : World} (h : TB8 g tv mn rm T Y) {t : Tm} (ht : KeyT t) : (Instr.lookup 77 (.map (some mn)) t.v true).run Tryz.prog Y = .ok (.tuple #[.int .i64 (((ix8 T t).getD 0 : Nat) : Int), .bool (ix8 T t).isSome]) Y := by
 have := (h.n.at0 (T := 77) (E := 3) Tryz.underlying77 (zero7 Y) (x := t) ht).1
 have e : kyT.v t = t.v := rfl
 rw [e] at this
 rw [this]
 unfold ixF
 cases ix8 T t <;> rfl
set_option maxRecDepth 20000 in
set_option maxHeartbeats 1000000 in
theorem number8_any (g : Nat) (tv : Value) (mn : Nat) (rm : Value) (T : List Tm) (t : Tm) (Y : World) (h : TB8 g tv mn rm T Y) (ht : KeyT t) :
  Calls Tryz.prog 83 #[.pointer (some ⟨g, 0, none⟩), t.v] Y fun e Y' => e = .returned (.tuple #[.int .i64 (((ix8 T t).getD 0 : Nat) : Int), .bool (ix8 T t).isSome]) /\ Below Y.heap.size Y Y' := by
 obtain ⟨Y0, hY0⟩ : ∃ Y0, Y.alloc (.cells #[.int .i64 t.k, .int .i64 t.n, .string t.s] 24) = Y0 := ⟨_, rfl⟩
 have hb0 : Below Y.heap.size Y Y0 := by rw [<- hY0]; exact below1 _ _
 have HBX : Hid (Bk Y0 Y.heap.size #[.int .i64 t.k, .int .i64 t.n, .string t.s] 24) := by show Bk _ _ _ _; rw [<- hY0]; exact Bk.new _ _ _
 have HBK := hm7 (h.b.below hb0)
 have HB0 := hm7 hb0
 obtain ⟨pi, hpi⟩ : ∃ pi : Int, (((ix8 T t).getD 0 : Nat) : Int) = pi := ⟨_, rfl⟩
 obtain ⟨pb, hpb⟩ : ∃ pb, (ix8 T t).isSome = pb := ⟨_, rfl⟩
 have HL : Hid (∀ X : World, Below Y0.heap.size Y0 X -> (Instr.lookup 77 (.map (some mn)) (.agg #[.int .i64 t.k, .int .i64 t.n, .string t.s]) true).run Tryz.prog X = .ok (.tuple #[.int .i64 pi, .bool pb]) X) := fun X hX => by
  have := ((h.below hb0).below hX).look ht
  rw [hpi, hpb] at this
  exact this
 rw [hpi, hpb]
 clear h hpi hpb hb0
 go_enter Tryz.func83, Tryz.ntmps83
 go_upto_region 1 with fail
 refine wp_region_held_drew (S := fun w' => Below Y0.heap.size Y0 w') (by kernel_rfl) (by exact (Below.refl _ _).drew) (fun hH => ?_)
 revert hH
 generalize Y0.drew = V0
 intro hH
 refine wTk 0 (.pointer (some ⟨g, 0, none⟩)) rfl (by kernel_rfl) (fun _ _ _ h => h) (Or.inl ⟨by rfl, fun w' h => by clear h; go_simp⟩) hH ?_
 simp only [wA8, wB8, wC8, wD8]
 refine wTk 1 (.pointer (some ⟨g, 0, none⟩)) rfl (by kernel_rfl) (fun _ _ _ h => h) (Or.inl ⟨by rfl, fun w' h => by clear h; go_simp⟩) hH ?_
 simp only [wA8, wB8, wC8, wD8]
 refine wTk 2 (.pointer (some ⟨g, 1, none⟩)) rfl (by kernel_rfl) (fun _ _ _ h => h) (Or.inl ⟨by rfl, fun w' h => by clear h; go_simp⟩) hH ?_
 simp only [wA8, wB8, wC8, wD8]
 refine wTk 3 (.map (some mn)) rfl (by kernel_rfl) (fun _ _ _ h => h) (Or.inl ⟨by rfl, fun w' h => by have q := (HBK.out.below h).cell (i := 1) rfl; clear h; go_simp⟩) hH ?_
 simp only [wA8, wB8, wC8, wD8]
 refine wTk 4 (.agg #[.int .i64 t.k, .int .i64 t.n, .string t.s]) rfl (by kernel_rfl) (fun _ _ _ h => h) (Or.inl ⟨by rfl, fun w' h => by have q0 := (HBX.out.below h).cell (i := 0) rfl; have q1 := (HBX.out.below h).cell (i := 1) rfl; have q2 := (HBX.out.below h).cell (i := 2) rfl; clear h; go_simp⟩) hH ?_
 simp only [wA8, wB8, wC8, wD8]
 refine wTk 5 (.tuple #[.int .i64 pi, .bool pb]) rfl (by kernel_rfl) (fun _ _ _ h => h) (Or.inl ⟨by rfl, fun w' h => by have q := HL.out w' h; clear h; go_simp⟩) hH ?_
 simp only [wA8, wB8, wC8, wD8]
 refine wTk 6 (.tuple #[.int .i64 pi, .bool pb]) rfl (by kernel_rfl) (fun _ _ _ h => h) (Or.inl ⟨by rfl, fun w' h => by clear h; go_simp⟩) hH ?_
 simp only [wA8, wB8, wC8, wD8]
 refine wTk 7 (.int .i64 pi) rfl (by kernel_rfl) (fun _ _ _ h => h) (Or.inl ⟨by rfl, fun w' h => by clear h; go_simp⟩) hH ?_
 simp only [wA8, wB8, wC8, wD8]
 refine wTk 8 (.bool pb) rfl (by kernel_rfl) (fun _ _ _ h => h) (Or.inl ⟨by rfl, fun w' h => by clear h; go_simp⟩) hH ?_
 simp only [wA8, wB8, wC8, wD8]
 refine wTk 9 (.int .i64 pi) rfl (by kernel_rfl) (fun _ _ _ h => h) (Or.inl ⟨by rfl, fun w' h => by clear h; go_simp⟩) hH ?_
 simp only [wA8, wB8, wC8, wD8]
 refine wTk 10 (.bool pb) rfl (by kernel_rfl) (fun _ _ _ h => h) (Or.inl ⟨by rfl, fun w' h => by clear h; go_simp⟩) hH ?_
 simp only [wA8, wB8, wC8, wD8]
 refine wpAnyH_done (by kernel_rfl) ?_ _
 have HV := hm7 hH
 clear hH
 go_wp2
 go_ret2
 exact ⟨rfl, HB0.out.trans (HV.out.mono (by have := HB0.out.size; exact this))⟩
def En8 (g : Nat) (tv : Value) (mn : Nat) (rm : Value) (T : List Tm) (t : Tm) (Y : World) (e : Ending) (Y' : World) : Prop :=
 ∃ tv' T', e = .returned (.int .i64 (((ix8 T t).getD T.length : Nat) : Int)) /\ TB8 g tv' mn rm T' Y' /\ T' = (if (ix8 T t).isSome then T else T ++ [t]) /\ Fr (fun b => b = g ∨ tv.ownBlock = some b ∨ b = mn) Y Y' /\ ∀ b, tv'.ownBlock = some b -> tv.ownBlock = some b ∨ Y.heap.size <= b
set_option maxRecDepth 20000 in
set_option maxHeartbeats 1000000 in
theorem enter8_old (g : Nat) (tv : Value) (mn : Nat) (rm : Value) (T : List Tm) (t : Tm) (Y : World) (h : TB8 g tv mn rm T Y) (ht : KeyT t) {i : Nat} (hi : ix8 T t = some i) :
  Calls Tryz.prog 56 #[.pointer (some ⟨g, 0, none⟩), t.v] Y (En8 g tv mn rm T t Y) := by
 obtain ⟨Y0, hY0⟩ : ∃ Y0, Y.alloc (.cells #[.int .i64 t.k, .int .i64 t.n, .string t.s] 24) = Y0 := ⟨_, rfl⟩
 have hb0 : Below Y.heap.size Y Y0 := by rw [<- hY0]; exact below1 _ _
 have HBX : Hid (Bk Y0 Y.heap.size #[.int .i64 t.k, .int .i64 t.n, .string t.s] 24) := by show Bk _ _ _ _; rw [<- hY0]; exact Bk.new _ _ _
 have HBK := hm7 (h.b.below hb0)
 have HB0 := hm7 hb0
 have HH := hm7 h
 have HI := hm7 hi
 obtain ⟨pi, hpi⟩ : ∃ pi : Int, (i : Int) = pi := ⟨_, rfl⟩
 obtain ⟨pb, hpb⟩ : ∃ pb : Bool, true = pb := ⟨_, rfl⟩
 have HL : Hid (∀ X : World, Below Y0.heap.size Y0 X -> (Instr.lookup 77 (.map (some mn)) (.agg #[.int .i64 t.k, .int .i64 t.n, .string t.s]) true).run Tryz.prog X = .ok (.tuple #[.int .i64 pi, .bool pb]) X) := fun X hX => by
  have := ((h.below hb0).below hX).look ht
  rw [hi] at this
  rw [<- hpi, <- hpb]
  exact this
 have HPI := hm7 hpi
 have HPB := hm7 hpb
 clear h hpi hb0 hi hpb
 go_enter Tryz.func56, Tryz.ntmps56
 go_upto_region 1 with fail
 refine wp_region_held_drew (S := fun w' => Below Y0.heap.size Y0 w') (by kernel_rfl) (by exact (Below.refl _ _).drew) (fun hH => ?_)
 revert hH
 generalize Y0.drew = V0
 intro hH
 refine wTk 0 (.pointer (some ⟨g, 0, none⟩)) rfl (by kernel_rfl) (fun _ _ _ h => h) (Or.inl ⟨by rfl, fun w' h => by clear h; go_simp⟩) hH ?_
 simp only [wA8, wB8, wC8, wD8]
 refine wTk 1 (.pointer (some ⟨g, 0, none⟩)) rfl (by kernel_rfl) (fun _ _ _ h => h) (Or.inl ⟨by rfl, fun w' h => by clear h; go_simp⟩) hH ?_
 simp only [wA8, wB8, wC8, wD8]
 refine wTk 2 (.pointer (some ⟨g, 1, none⟩)) rfl (by kernel_rfl) (fun _ _ _ h => h) (Or.inl ⟨by rfl, fun w' h => by clear h; go_simp⟩) hH ?_
 simp only [wA8, wB8, wC8, wD8]
 refine wTk 3 (.map (some mn)) rfl (by kernel_rfl) (fun _ _ _ h => h) (Or.inl ⟨by rfl, fun w' h => by have q := (HBK.out.below h).cell (i := 1) rfl; clear h; go_simp⟩) hH ?_
 simp only [wA8, wB8, wC8, wD8]
 refine wTk 4 (.agg #[.int .i64 t.k, .int .i64 t.n, .string t.s]) rfl (by kernel_rfl) (fun _ _ _ h => h) (Or.inl ⟨by rfl, fun w' h => by have q0 := (HBX.out.below h).cell (i := 0) rfl; have q1 := (HBX.out.below h).cell (i := 1) rfl; have q2 := (HBX.out.below h).cell (i := 2) rfl; clear h; go_simp⟩) hH ?_
 simp only [wA8, wB8, wC8, wD8]
 refine wTk 5 (.tuple #[.int .i64 pi, .bool pb]) rfl (by kernel_rfl) (fun _ _ _ h => h) (Or.inl ⟨by rfl, fun w' h => by have q := HL.out w' h; clear h; go_simp⟩) hH ?_
 simp only [wA8, wB8, wC8, wD8]
 refine wTk 6 (.tuple #[.int .i64 pi, .bool pb]) rfl (by kernel_rfl) (fun _ _ _ h => h) (Or.inl ⟨by rfl, fun w' h => by clear h; go_simp⟩) hH ?_
 simp only [wA8, wB8, wC8, wD8]
 refine wTk 7 (.int .i64 pi) rfl (by kernel_rfl) (fun _ _ _ h => h) (Or.inl ⟨by rfl, fun w' h => by clear h; go_simp⟩) hH ?_
 simp only [wA8, wB8, wC8, wD8]
 refine wTk 8 (.bool pb) rfl (by kernel_rfl) (fun _ _ _ h => h) (Or.inl ⟨by rfl, fun w' h => by clear h; go_simp⟩) hH ?_
 simp only [wA8, wB8, wC8, wD8]
 refine wTk 9 (.int .i64 pi) rfl (by kernel_rfl) (fun _ _ _ h => h) (Or.inl ⟨by rfl, fun w' h => by clear h; go_simp⟩) hH ?_
 simp only [wA8, wB8, wC8, wD8]
 refine wTk 10 (.bool pb) rfl (by kernel_rfl) (fun _ _ _ h => h) (Or.inl ⟨by rfl, fun w' h => by clear h; go_simp⟩) hH ?_
 simp only [wA8, wB8, wC8, wD8]
 refine wpAnyH_done (by kernel_rfl) ?_ _
 have HV := hm7 hH
 clear hH
 have hpb := HPB.out
 subst hpb
 go_wp2
 go_ret
 have hb : Below Y.heap.size Y V0 := HB0.out.trans (HV.out.mono (by have := HB0.out.size; exact this))
 exact ⟨tv, T, by rw [HI.out, <- HPI.out]; rfl, HH.out.below hb, by rw [HI.out]; rfl, Fr.of hb, fun b hb => Or.inl hb⟩
end Go.Proofs.YtechceagghcipaaGreatDoor

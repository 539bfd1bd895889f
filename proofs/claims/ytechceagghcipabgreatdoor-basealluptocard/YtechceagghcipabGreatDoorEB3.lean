import Derived.Test.YtechceagghcipabGreatDoorA1
import Derived.Laws.AppendOwnNone
import Derived.Laws.AppendOwn
import Derived.Test.YtechceagghcipabGreatDoorRA2
import Derived.Test.YtechceagghcipabGreatDoorRA14
import Derived.Test.YtechceagghcipabGreatDoorB2
namespace Go.Proofs.YtechceagghcipabGreatDoor
open Go.RowKit
def Tm.cs (t : Tm) : List Value := [.int .i64 t.k, .int .i64 t.n, .string t.s]
def tcs (l : List Tm) : List Value := l.flatMap Tm.cs
theorem tcs_len (l : List Tm) : (tcs l).length = l.length * 3 := by
 induction l with
 | nil => rfl
 | cons d l ih => simp only [tcs, List.flatMap_cons, List.length_append, List.length_cons] at *; rw [ih]; simp [Tm.cs]; omega
theorem tcs_snoc (l : List Tm) (d : Tm) : tcs (l ++ [d]) = tcs l ++ d.cs := by simp [tcs]
theorem tcs_get (l : List Tm) (j : Nat) (d : Tm) (h : l[j]? = some d) (i : Nat) (hi : i < 3) : (tcs l)[j * 3 + i]? = d.cs[i]? := by
 induction l generalizing j with
 | nil => simp at h
 | cons e l ih =>
  rw [tcs, List.flatMap_cons]
  cases j with
  | zero =>
   simp only [List.getElem?_cons_zero, Option.some.injEq] at h
   subst h
   rw [List.getElem?_append_left (by simp [Tm.cs]; omega)]
   simp
  | succ j =>
   simp only [List.getElem?_cons_succ] at h
   rw [List.getElem?_append_right (by simp [Tm.cs]; omega)]
   have e1 : (j + 1) * 3 + i - (Tm.cs e).length = j * 3 + i := by simp [Tm.cs]; omega
   rw [e1]
   exact ih j h
def OwnT (w : World) (base : Nat) (v : Value) (l : List Tm) : Prop := w.ownsRow base 30 3 v l.length (tcs l)
theorem ownT_cells {w : World} {base g cap n : Nat} {l : List Tm} (h : OwnT w base (.slice (some ⟨g, 0, none⟩) n cap) l) (j : Nat) (d : Tm) (hd : l[j]? = some d) :
  w.cell? ⟨g, j * 3, none⟩ = some (.int .i64 d.k) /\ w.cell? ⟨g, j * 3 + 1, none⟩ = some (.int .i64 d.n) /\ w.cell? ⟨g, j * 3 + 2, none⟩ = some (.string d.s) := by
 rcases h.2 with ⟨h, _⟩ | ⟨g', cap', cur, hv, hb, hg, hn, hc, hs, ht⟩
 ·cases h
 ·simp only [Value.slice.injEq, Option.some.injEq, Addr.mk.injEq] at hv
  obtain ⟨⟨rfl, -⟩, -, rfl⟩ := hv
  have hj := (List.getElem?_eq_some_iff.1 hd).1
  have key : ∀ i, i < 3 -> w.cell? ⟨g, j * 3 + i, none⟩ = d.cs[i]? := fun i hi => by
   rw [cell_of_row _ _ _ _ _ _ hg, <- tcs_get l j d hd i hi, <- ht, List.getElem?_take_of_lt (by omega)]
   simp
  exact ⟨key 0 (by omega), key 1 (by omega), key 2 (by omega)⟩
theorem OwnT.lt {w : World} {base : Nat} {v : Value} {l : List Tm} (h : OwnT w base v l) : ∀ k, v.ownBlock = some k -> base <= k /\ k < w.heap.size := World.ownsRow.lt h
theorem OwnT.mono {w : World} {b b' : Nat} {v : Value} {l : List Tm} (h : OwnT w b v l) (hb : b' <= b) : OwnT w b' v l := by
 refine ⟨h.1, ?_⟩
 rcases h.2 with hn | ⟨g, cap, cur, hv, hbb, rest⟩
 ·exact Or.inl hn
 ·exact Or.inr ⟨g, cap, cur, hv, Nat.le_trans hb hbb, rest⟩
theorem OwnT.later {w w' : World} {base : Nat} {v : Value} {l : List Tm} (h : OwnT w base v l) (hb : Below w.heap.size w w') : OwnT w' base v l := by
 refine ⟨h.1, ?_⟩
 rcases h.2 with hn | ⟨g, cap, cur, hv, hbb, hg, rest⟩
 ·exact Or.inl hn
 ·exact Or.inr ⟨g, cap, cur, hv, hbb, (hb.block _ (Array.getElem?_eq_some_iff.1 hg).1).trans hg, rest⟩
theorem OwnT.set {w : World} {base G i : Nat} {a : Value} {v : Value} {l : List Tm} (h : OwnT w base v l) (hG : G < base) : OwnT (w.setCell ⟨G, i, none⟩ a) base v l := by
 refine ⟨h.1, ?_⟩
 rcases h.2 with hn | ⟨g, cap, cur, hv, hbb, hg, rest⟩
 ·exact Or.inl hn
 ·exact Or.inr ⟨g, cap, cur, hv, hbb, by rw [heap_setCell_other _ _ _ _ (show g ≠ G by omega)]; exact hg, rest⟩
def TsO (w : World) (v : Value) (l : List Tm) : Prop := (v = .slice none 0 0 /\ l = []) ∨ ∃ ad cap, v = .slice (some ad) l.length cap /\ l.length * 32 <= 140737488351232 /\ (l = [] ∨ ∃ b o, ad = ⟨b, o, none⟩ /\ TRow w b o l)
theorem TsO.ts {w : World} {v : Value} {l : List Tm} (h : TsO w v l) : Ts w v l := by
 rcases h with ⟨rfl, rfl⟩ | ⟨ad, cap, rfl, hl, h⟩
 ·exact ⟨none, 0, rfl, by simp, Or.inl rfl⟩
 ·refine ⟨some ad, cap, rfl, by omega, ?_⟩
  rcases h with h | ⟨b, o, rfl, h⟩
  ·exact Or.inl h
  ·exact Or.inr ⟨b, o, rfl, h⟩
theorem TsO.later {w w' : World} {v : Value} {l : List Tm} (h : TsO w v l) (hb : Below w.heap.size w w') : TsO w' v l := by
 rcases h with h | ⟨ad, cap, h1, h2, h3⟩
 ·exact Or.inl h
 ·refine Or.inr ⟨ad, cap, h1, h2, ?_⟩
  rcases h3 with h3 | ⟨b, o, h3, h4⟩
  ·exact Or.inl h3
  ·exact Or.inr ⟨b, o, h3, h4.later hb⟩
theorem tcs_mem {l : List Tm} {u : Value} (h : u ∈ tcs l) : u.oneCell' = true := by
 simp only [tcs, List.mem_flatMap] at h
 obtain ⟨d, -, hu⟩ := h
 simp [Tm.cs] at hu
 rcases hu with rfl | rfl | rfl <;> rfl
theorem trow_get {w : World} {b o : Nat} {l : List Tm} (h : TRow w b o l) : ∀ j u, (tcs l)[j]? = some u -> w.cell? ((⟨b, o, none⟩ : Addr).add j) = some u := fun j u hu => by
 have hj : j < l.length * 3 := by rw [<- tcs_len]; exact (List.getElem?_eq_some_iff.1 hu).1
 have hq : j / 3 < l.length := by omega
 obtain ⟨d, hd⟩ : ∃ d, l[j / 3]? = some d := ⟨_, List.getElem?_eq_getElem hq⟩
 have hg := tcs_get l (j / 3) d hd (j % 3) (by omega)
 rw [show j / 3 * 3 + j % 3 = j by omega, hu] at hg
 have hc := h.2 _ _ hd
 have ha : (⟨b, o, none⟩ : Addr).add j = ⟨b, o + j / 3 * 3 + j % 3, none⟩ := by
  rw [Go.WideShapes.add_plain]; congr 1; omega
 rw [ha]
 have h4 : j % 3 = 0 ∨ j % 3 = 1 ∨ j % 3 = 2 := by omega
 rcases h4 with e | e | e <;> rw [e] at hg ⊢ <;> simp [Tm.cs] at hg <;> subst hg
 ·exact hc.1
 ·exact hc.2.1
 ·exact hc.2.2
theorem ownT_pre {w : World} {base g cap : Nat} {s : List Tm} {d : Tm} (h : OwnT w base (.slice (some ⟨g, 0, none⟩) (s.length + 1) cap) (s ++ [d])) (hs : s.length < 1000000000000000000) : Ts w (.slice (some ⟨g, 0, none⟩) s.length cap) s := by
 have hlt : g < w.heap.size := (h.lt g rfl).2
 refine ⟨_, cap, rfl, hs, Or.inr ⟨g, 0, rfl, hlt, fun i t ht => ?_⟩⟩
 have hi := (List.getElem?_eq_some_iff.1 ht).1
 have := ownT_cells h i t (by rw [List.getElem?_append_left hi]; exact ht)
 simpa using this
theorem ownT_cap {w : World} {base g cap n : Nat} {l : List Tm} (h : OwnT w base (.slice (some ⟨g, 0, none⟩) n cap) l) : n <= cap := by
 rcases h.2 with ⟨h, _⟩ | ⟨g', c, cur, hv, _, _, hn, _⟩
 ·cases h
 ·simp only [Value.slice.injEq] at hv; omega
end Go.Proofs.YtechceagghcipabGreatDoor
namespace Go.Proofs.YtechceagghcipabGreatDoor
open Go.RowKit
attribute [local go_sem ↓] Go.wp_at_zero Go.wp_at_succ
def ix8 (T : List Tm) (t : Tm) : Option Nat := T.findIdx? fun x => decide (x = t)
def ixF (T : List Tm) (t : Tm) : Option Value := (ix8 T t).map fun i => .int .i64 (i : Int)
theorem ix8_some {T : List Tm} {t : Tm} {i : Nat} (h : ix8 T t = some i) : T[i]? = some t := by
 unfold ix8 at h
 obtain ⟨hi, h1, -⟩ := List.findIdx?_eq_some_iff_getElem.1 h
 rw [List.getElem?_eq_getElem hi]
 simpa using h1
theorem ix8_snoc (T : List Tm) (t x : Tm) (h : ix8 T t = none) : ix8 (T ++ [t]) x = if x = t then some T.length else ix8 T x := by
 unfold ix8
 rw [List.findIdx?_append]
 by_cases e : x = t
 ·subst e
  rw [if_pos rfl]
  unfold ix8 at h
  rw [h]
  simp
 ·rw [if_neg e]
  cases hx : T.findIdx? (fun y => decide (y = x)) with
  | some i => simp
  | none => simp [Ne.symm e]
structure TB8 (g : Nat) (tv : Value) (mn : Nat) (rm : Value) (T : List Tm) (Y : World) : Prop where
 b : Bk Y g #[tv, .map (some mn), rm] 44
 o : OwnT Y 0 tv T
 n : Mq kyT Y mn T.length (ixF T)
 a : tv.ownBlock ≠ some g /\ tv.ownBlock ≠ some mn
 l : T.length <= 1000000000
theorem Mq.below {P : Program} {k : TypeId} {κ : Type} {K : Ky P k κ} {w w' : World} {b n : Nat} {f : κ -> Option Value} (h : Mq K w b n f) (hb : Below w.heap.size w w') : Mq K w' b n f := h.same (hb.block b h.lt)
theorem TB8.fr {g : Nat} {tv : Value} {mn : Nat} {rm : Value} {T : List Tm} {P : Nat -> Prop} {Y Y' : World} (h : TB8 g tv mn rm T Y) (hf : Fr P Y Y') (hn : ∀ b, (b = g ∨ tv.ownBlock = some b ∨ b = mn) -> ¬ P b) : TB8 g tv mn rm T Y' :=
 ⟨h.b.fr hf (hn g (Or.inl rfl)), row7_fr h.o hf fun b hb => hn b (Or.inr (Or.inl hb)), h.n.fr hf (hn mn (Or.inr (Or.inr rfl))), h.a, h.l⟩
theorem TB8.below {g : Nat} {tv : Value} {mn : Nat} {rm : Value} {T : List Tm} {Y Y' : World} (h : TB8 g tv mn rm T Y) (hb : Below Y.heap.size Y Y') : TB8 g tv mn rm T Y' := h.fr (P := fun _ => False) (Fr.of hb) fun _ _ h => h
theorem TB8.look {g : Nat} {tv : Value} {mn : Nat} {rm : Value} {T : List Tm} {Y : World} (h : TB8 g tv mn rm T Y) {t : Tm} (ht : KeyT t) : (Instr.lookup 38 (.map (some mn)) t.v true).run Tryz.prog Y = .ok (.tuple #[.int .i64 (((ix8 T t).getD 0 : Nat) : Int), .bool (ix8 T t).isSome]) Y := by
 have := (h.n.at0 (T := 38) (E := 3) Tryz.underlying38 (zero7 Y) (x := t) ht).1
 have e : kyT.v t = t.v := rfl
 rw [e] at this
 rw [this]
 unfold ixF
 cases ix8 T t <;> rfl
set_option maxRecDepth 20000 in
set_option maxHeartbeats 1000000 in
theorem number8_any (g : Nat) (tv : Value) (mn : Nat) (rm : Value) (T : List Tm) (t : Tm) (Y : World) (h : TB8 g tv mn rm T Y) (ht : KeyT t) :
  Calls Tryz.prog 74 #[.pointer (some ⟨g, 0, none⟩), t.v] Y fun e Y' => e = .returned (.tuple #[.int .i64 (((ix8 T t).getD 0 : Nat) : Int), .bool (ix8 T t).isSome]) /\ Below Y.heap.size Y Y' := by
 obtain ⟨Y0, hY0⟩ : ∃ Y0, Y.alloc (.cells #[.int .i64 t.k, .int .i64 t.n, .string t.s] 30) = Y0 := ⟨_, rfl⟩
 have hb0 : Below Y.heap.size Y Y0 := by rw [<- hY0]; exact below1 _ _
 have HBX : Hid (Bk Y0 Y.heap.size #[.int .i64 t.k, .int .i64 t.n, .string t.s] 30) := by show Bk _ _ _ _; rw [<- hY0]; exact Bk.new _ _ _
 have HBK := hm7 (h.b.below hb0)
 have HB0 := hm7 hb0
 obtain ⟨pi, hpi⟩ : ∃ pi : Int, (((ix8 T t).getD 0 : Nat) : Int) = pi := ⟨_, rfl⟩
 obtain ⟨pb, hpb⟩ : ∃ pb, (ix8 T t).isSome = pb := ⟨_, rfl⟩
 have HL : Hid (∀ X : World, Below Y0.heap.size Y0 X -> (Instr.lookup 38 (.map (some mn)) (.agg #[.int .i64 t.k, .int .i64 t.n, .string t.s]) true).run Tryz.prog X = .ok (.tuple #[.int .i64 pi, .bool pb]) X) := fun X hX => by
  have := ((h.below hb0).below hX).look ht
  rw [hpi, hpb] at this
  exact this
 rw [hpi, hpb]
 clear h hpi hpb hb0
 go_enter Tryz.func74, Tryz.ntmps74
 go_upto_region 1 with fail
 refine wp_region_held_drew (S := fun w' => Below Y0.heap.size Y0 w') (by kernel_rfl) (by exact (Below.refl _ _).drew) (fun hH => ?_)
 revert hH
 generalize Y0.drew = V0
 intro hH
 refine wTl 0 (.pointer (some ⟨g, 0, none⟩)) rfl (by kernel_rfl) (fun _ _ _ h => h) rfl (fun w' h => by clear h; go_simp) hH ?_
 simp only [wA, wB, wC, wD]
 refine wTl 1 (.pointer (some ⟨g, 0, none⟩)) rfl (by kernel_rfl) (fun _ _ _ h => h) rfl (fun w' h => by clear h; go_simp) hH ?_
 simp only [wA, wB, wC, wD]
 refine wTl 2 (.pointer (some ⟨g, 1, none⟩)) rfl (by kernel_rfl) (fun _ _ _ h => h) rfl (fun w' h => by clear h; go_simp) hH ?_
 simp only [wA, wB, wC, wD]
 refine wTl 3 (.map (some mn)) rfl (by kernel_rfl) (fun _ _ _ h => h) rfl (fun w' h => by have q := (HBK.out.below h).cell (i := 1) rfl; clear h; go_simp) hH ?_
 simp only [wA, wB, wC, wD]
 refine wTl 4 (.agg #[.int .i64 t.k, .int .i64 t.n, .string t.s]) rfl (by kernel_rfl) (fun _ _ _ h => h) rfl (fun w' h => by have q0 := (HBX.out.below h).cell (i := 0) rfl; have q1 := (HBX.out.below h).cell (i := 1) rfl; have q2 := (HBX.out.below h).cell (i := 2) rfl; clear h; go_simp) hH ?_
 simp only [wA, wB, wC, wD]
 refine wTl 5 (.tuple #[.int .i64 pi, .bool pb]) rfl (by kernel_rfl) (fun _ _ _ h => h) rfl (fun w' h => by have q := HL.out w' h; clear h; go_simp) hH ?_
 simp only [wA, wB, wC, wD]
 refine wTl 6 (.tuple #[.int .i64 pi, .bool pb]) rfl (by kernel_rfl) (fun _ _ _ h => h) rfl (fun w' h => by clear h; go_simp) hH ?_
 simp only [wA, wB, wC, wD]
 refine wTl 7 (.int .i64 pi) rfl (by kernel_rfl) (fun _ _ _ h => h) rfl (fun w' h => by clear h; go_simp) hH ?_
 simp only [wA, wB, wC, wD]
 refine wTl 8 (.bool pb) rfl (by kernel_rfl) (fun _ _ _ h => h) rfl (fun w' h => by clear h; go_simp) hH ?_
 simp only [wA, wB, wC, wD]
 refine wTl 9 (.int .i64 pi) rfl (by kernel_rfl) (fun _ _ _ h => h) rfl (fun w' h => by clear h; go_simp) hH ?_
 simp only [wA, wB, wC, wD]
 refine wTl 10 (.bool pb) rfl (by kernel_rfl) (fun _ _ _ h => h) rfl (fun w' h => by clear h; go_simp) hH ?_
 simp only [wA, wB, wC, wD]
 refine wpAnyH_done (by kernel_rfl) ?_ _
 have HV := hm7 hH
 clear hH
 go_wp2
 go_ret2
 exact ⟨rfl, HB0.out.trans (HV.out.mono (by have := HB0.out.size; exact this))⟩
def En8 (g : Nat) (tv : Value) (mn : Nat) (rm : Value) (T : List Tm) (t : Tm) (Y : World) (e : Ending) (Y' : World) : Prop :=
 ∃ tv' T', e = .returned (.int .i64 (((ix8 T t).getD T.length : Nat) : Int)) /\ TB8 g tv' mn rm T' Y' /\ T' = (if (ix8 T t).isSome then T else T ++ [t]) /\ Fr (fun b => b = g ∨ tv.ownBlock = some b ∨ b = mn) Y Y' /\ ∀ b, tv'.ownBlock = some b -> tv.ownBlock = some b ∨ Y.heap.size <= b
set_option maxRecDepth 20000 in
set_option maxHeartbeats 1000000 in
theorem enter8_old (g : Nat) (tv : Value) (mn : Nat) (rm : Value) (T : List Tm) (t : Tm) (Y : World) (h : TB8 g tv mn rm T Y) (ht : KeyT t) {i : Nat} (hi : ix8 T t = some i) :
  Calls Tryz.prog 64 #[.pointer (some ⟨g, 0, none⟩), t.v] Y (En8 g tv mn rm T t Y) := by
 obtain ⟨Y0, hY0⟩ : ∃ Y0, Y.alloc (.cells #[.int .i64 t.k, .int .i64 t.n, .string t.s] 30) = Y0 := ⟨_, rfl⟩
 have hb0 : Below Y.heap.size Y Y0 := by rw [<- hY0]; exact below1 _ _
 have HBX : Hid (Bk Y0 Y.heap.size #[.int .i64 t.k, .int .i64 t.n, .string t.s] 30) := by show Bk _ _ _ _; rw [<- hY0]; exact Bk.new _ _ _
 have HBK := hm7 (h.b.below hb0)
 have HB0 := hm7 hb0
 have HH := hm7 h
 have HI := hm7 hi
 obtain ⟨pi, hpi⟩ : ∃ pi : Int, (i : Int) = pi := ⟨_, rfl⟩
 obtain ⟨pb, hpb⟩ : ∃ pb : Bool, true = pb := ⟨_, rfl⟩
 have HL : Hid (∀ X : World, Below Y0.heap.size Y0 X -> (Instr.lookup 38 (.map (some mn)) (.agg #[.int .i64 t.k, .int .i64 t.n, .string t.s]) true).run Tryz.prog X = .ok (.tuple #[.int .i64 pi, .bool pb]) X) := fun X hX => by
  have := ((h.below hb0).below hX).look ht
  rw [hi] at this
  rw [<- hpi, <- hpb]
  exact this
 have HPI := hm7 hpi
 have HPB := hm7 hpb
 clear h hpi hb0 hi hpb
 go_enter Tryz.func64, Tryz.ntmps64
 go_upto_region 1 with fail
 refine wp_region_held_drew (S := fun w' => Below Y0.heap.size Y0 w') (by kernel_rfl) (by exact (Below.refl _ _).drew) (fun hH => ?_)
 revert hH
 generalize Y0.drew = V0
 intro hH
 refine wTl 0 (.pointer (some ⟨g, 0, none⟩)) rfl (by kernel_rfl) (fun _ _ _ h => h) rfl (fun w' h => by clear h; go_simp) hH ?_
 simp only [wA, wB, wC, wD]
 refine wTl 1 (.pointer (some ⟨g, 0, none⟩)) rfl (by kernel_rfl) (fun _ _ _ h => h) rfl (fun w' h => by clear h; go_simp) hH ?_
 simp only [wA, wB, wC, wD]
 refine wTl 2 (.pointer (some ⟨g, 1, none⟩)) rfl (by kernel_rfl) (fun _ _ _ h => h) rfl (fun w' h => by clear h; go_simp) hH ?_
 simp only [wA, wB, wC, wD]
 refine wTl 3 (.map (some mn)) rfl (by kernel_rfl) (fun _ _ _ h => h) rfl (fun w' h => by have q := (HBK.out.below h).cell (i := 1) rfl; clear h; go_simp) hH ?_
 simp only [wA, wB, wC, wD]
 refine wTl 4 (.agg #[.int .i64 t.k, .int .i64 t.n, .string t.s]) rfl (by kernel_rfl) (fun _ _ _ h => h) rfl (fun w' h => by have q0 := (HBX.out.below h).cell (i := 0) rfl; have q1 := (HBX.out.below h).cell (i := 1) rfl; have q2 := (HBX.out.below h).cell (i := 2) rfl; clear h; go_simp) hH ?_
 simp only [wA, wB, wC, wD]
 refine wTl 5 (.tuple #[.int .i64 pi, .bool pb]) rfl (by kernel_rfl) (fun _ _ _ h => h) rfl (fun w' h => by have q := HL.out w' h; clear h; go_simp) hH ?_
 simp only [wA, wB, wC, wD]
 refine wTl 6 (.tuple #[.int .i64 pi, .bool pb]) rfl (by kernel_rfl) (fun _ _ _ h => h) rfl (fun w' h => by clear h; go_simp) hH ?_
 simp only [wA, wB, wC, wD]
 refine wTl 7 (.int .i64 pi) rfl (by kernel_rfl) (fun _ _ _ h => h) rfl (fun w' h => by clear h; go_simp) hH ?_
 simp only [wA, wB, wC, wD]
 refine wTl 8 (.bool pb) rfl (by kernel_rfl) (fun _ _ _ h => h) rfl (fun w' h => by clear h; go_simp) hH ?_
 simp only [wA, wB, wC, wD]
 refine wTl 9 (.int .i64 pi) rfl (by kernel_rfl) (fun _ _ _ h => h) rfl (fun w' h => by clear h; go_simp) hH ?_
 simp only [wA, wB, wC, wD]
 refine wTl 10 (.bool pb) rfl (by kernel_rfl) (fun _ _ _ h => h) rfl (fun w' h => by clear h; go_simp) hH ?_
 simp only [wA, wB, wC, wD]
 refine wpAnyH_done (by kernel_rfl) ?_ _
 have HV := hm7 hH
 clear hH
 have hpb := HPB.out
 subst hpb
 go_wp2
 go_ret
 have hb : Below Y.heap.size Y V0 := HB0.out.trans (HV.out.mono (by have := HB0.out.size; exact this))
 exact ⟨tv, T, by rw [HI.out, <- HPI.out]; rfl, HH.out.below hb, by rw [HI.out]; rfl, Fr.of hb, fun b hb => Or.inl hb⟩
end Go.Proofs.YtechceagghcipabGreatDoor
namespace Go.Proofs.YtechceagghcipabGreatDoor
open Go.RowKit
attribute [local go_sem ↓] Go.wp_at_zero Go.wp_at_succ
theorem Tryz.infoTerm8 : (Tryz.prog.info? 30).map (fun i => (i.zero, i.size, i.bytes)) = some (some (.agg #[.int .i64 0, .int .i64 0, .string ⟨#[]⟩]), 3, 32) := by kernel_rfl
structure TB9 (g : Nat) (tv tv' : Value) (mn : Nat) (rm : Value) (T : List Tm) (t : Tm) (Y W : World) : Prop where
 b : Bk W g #[tv', .map (some mn), rm] 44
 o : OwnT W 0 tv' (T ++ [t])
 n : Mq kyT W mn T.length (ixF T)
 x : Bk W Y.heap.size #[.int .i64 t.k, .int .i64 t.n, .string t.s] 30
 f : Fr (fun b => b = g ∨ tv.ownBlock = some b ∨ b = mn) Y W
 v : ∀ b, tv'.ownBlock = some b -> tv.ownBlock = some b ∨ Y.heap.size <= b
 a : tv'.ownBlock ≠ some g /\ tv'.ownBlock ≠ some mn
theorem TB9.mk' {g : Nat} {mn : Nat} {rm : Value} {T : List Tm} {t : Tm} {Y V0 U : World} {ta : Option Addr} {n tc g2 c2 : Nat} (h : TB8 g (.slice ta n tc) mn rm T V0) (hx : Bk V0 Y.heap.size #[.int .i64 t.k, .int .i64 t.n, .string t.s] 30) (hb : Below Y.heap.size Y V0) (hY : g < Y.heap.size /\ mn < Y.heap.size) (hO : ∀ b, (Value.slice ta n tc).ownBlock = some b -> b < Y.heap.size) (hn : T.length = n)
  (ho : U.ownsRow 0 30 3 (.slice (some ⟨g2, 0, none⟩) (n + 1) c2) (n + 1) (tcs T ++ #[.int .i64 t.k, .int .i64 t.n, .string t.s].toList)) (hg : (V0.alloc (.cells #[.int .i64 t.k, .int .i64 t.n, .string t.s] 30)).grownBy U (Value.slice ta n tc).ownBlock) (hv : (Value.slice ta n tc).ownBlock = some g2 ∨ g2 = (V0.alloc (.cells #[.int .i64 t.k, .int .i64 t.n, .string t.s] 30)).heap.size) :
  TB9 g (.slice ta n tc) (.slice (some ⟨g2, 0, none⟩) (n + 1) c2) mn rm T t Y (U.setCell ⟨g, 0, none⟩ (.slice (some ⟨g2, 0, none⟩) (n + 1) c2)) := by
 have hz := hb.size
 have hfr : Fr (fun b => (Value.slice ta n tc).ownBlock = some b) V0 U := (Fr.of (below1 _ _)).tr (Fr.grown hg fun b hb => hb)
 have hv2 : ∀ b, (Value.slice (some ⟨g2, 0, none⟩) (n + 1) c2).ownBlock = some b -> (Value.slice ta n tc).ownBlock = some b ∨ V0.heap.size <= b := fun b e => by
  have e2 : g2 = b := by simpa [Value.ownBlock] using e
  subst e2
  exact hv.imp id fun h => by simp at h; omega
 have ha : (Value.slice (some ⟨g2, 0, none⟩) (n + 1) c2).ownBlock ≠ some g /\ (Value.slice (some ⟨g2, 0, none⟩) (n + 1) c2).ownBlock ≠ some mn := ⟨fun e => (hv2 g e).elim h.a.1 fun h => by omega, fun e => (hv2 mn e).elim h.a.2 fun h => by omega⟩
 have hs : Fr (fun b => b = g) U (U.setCell ⟨g, 0, none⟩ (.slice (some ⟨g2, 0, none⟩) (n + 1) c2)) := (Fr.refl _ _).set (Or.inl rfl)
 have hgm : g ≠ mn := fun e => by
  obtain ⟨D, ⟨es, clock, h1, r⟩, h2⟩ := h.n.ex
  have h3 : V0.heap[mn]? = _ := e ▸ h.b
  rw [h3] at h1
  cases h1
 refine ⟨(h.b.fr hfr h.a.1).set 0 _, ?_, (h.n.fr hfr h.a.2).fr hs (Ne.symm hgm), (hx.fr hfr fun e => by have := hO _ e; omega).fr hs (by omega), ?_, fun b e => (hv2 b e).imp id fun h => by omega, ha⟩
 ·unfold OwnT
  rw [List.length_append, hn]
  have e : tcs (T ++ [t]) = tcs T ++ #[.int .i64 t.k, .int .i64 t.n, .string t.s].toList := by simp [tcs, Tm.cs]
  rw [e]
  exact row7_fr ho hs fun b hb hc => by subst hc; exact ha.1 hb
 ·exact (((Fr.of hb).trans hfr fun b _ hb => Or.inr (Or.inl hb)).trans hs fun b _ hb => Or.inl hb)
theorem TB9.below {g : Nat} {tv tv' : Value} {mn : Nat} {rm : Value} {T : List Tm} {t : Tm} {Y W W' : World} (h : TB9 g tv tv' mn rm T t Y W) (hb : Below W.heap.size W W') : TB9 g tv tv' mn rm T t Y W' := ⟨h.b.below hb, row7_below h.o hb, h.n.below hb, h.x.below hb, h.f.then hb, h.v, h.a⟩
theorem TB9.gm {g : Nat} {tv tv' : Value} {mn : Nat} {rm : Value} {T : List Tm} {t : Tm} {Y W : World} (h : TB9 g tv tv' mn rm T t Y W) : ¬ g = mn := fun e => by
 obtain ⟨D, ⟨es, clock, h1, r⟩, h2⟩ := h.n.ex
 have h3 : W.heap[mn]? = _ := e ▸ h.b
 rw [h3] at h1
 cases h1
theorem ixF_snoc (T : List Tm) (t : Tm) (h : ix8 T t = none) : qput (ixF T) t (.int .i64 (T.length : Int)) = ixF (T ++ [t]) := by
 funext x
 unfold ixF
 rw [ix8_snoc T t x h]
 by_cases e : x = t
 ·subst e; rw [qput_same, if_pos rfl]; rfl
 ·rw [qput_other _ _ e, if_neg e]
set_option maxRecDepth 20000 in
set_option maxHeartbeats 2000000 in
theorem enter8_new (g : Nat) (tv : Value) (mn : Nat) (rm : Value) (T : List Tm) (t : Tm) (Y : World) (h : TB8 g tv mn rm T Y) (ht : KeyT t) (hi : ix8 T t = none) (hl : T.length < 1000000000) :
  Calls Tryz.prog 64 #[.pointer (some ⟨g, 0, none⟩), t.v] Y (En8 g tv mn rm T t Y) := by
 obtain ⟨Y0, hY0⟩ : ∃ Y0, Y.alloc (.cells #[.int .i64 t.k, .int .i64 t.n, .string t.s] 30) = Y0 := ⟨_, rfl⟩
 have hz0 : Y0.heap.size = Y.heap.size + 1 := by rw [<- hY0]; simp
 have hb0 : Below Y.heap.size Y Y0 := by rw [<- hY0]; exact below1 _ _
 have HBX : Hid (Bk Y0 Y.heap.size #[.int .i64 t.k, .int .i64 t.n, .string t.s] 30) := by show Bk _ _ _ _; rw [<- hY0]; exact Bk.new _ _ _
 have HBK := hm7 (h.b.below hb0)
 have HB0 := hm7 hb0
 have HI := hm7 hi
 have HKT := hm7 ht
 obtain ⟨pi, hpi⟩ : ∃ pi : Int, (0 : Int) = pi := ⟨_, rfl⟩
 obtain ⟨pb, hpb⟩ : ∃ pb : Bool, false = pb := ⟨_, rfl⟩
 have HL : Hid (∀ X : World, Below Y0.heap.size Y0 X -> (Instr.lookup 38 (.map (some mn)) (.agg #[.int .i64 t.k, .int .i64 t.n, .string t.s]) true).run Tryz.prog X = .ok (.tuple #[.int .i64 pi, .bool pb]) X) := fun X hX => by
  have := ((h.below hb0).below hX).look ht
  rw [hi] at this
  rw [<- hpi, <- hpb]
  exact this
 have HPB := hm7 hpb
 obtain ⟨ta, tc, htv, -⟩ := row7_form h.o
 obtain ⟨n, hn⟩ : ∃ n, T.length = n := ⟨_, rfl⟩
 rw [hn] at htv hl
 subst htv
 have HN := hm7 hn
 have HH := hm7 (h.below hb0)
 have HYG : Hid (g < Y.heap.size /\ mn < Y.heap.size) := ⟨h.b.lt, h.n.lt⟩
 have HYO : Hid (∀ b, (Value.slice ta n tc).ownBlock = some b -> b < Y.heap.size) := fun b hb => (World.ownsRow.lt h.o b hb).2
 clear h hpi hb0 hi hpb ht hn
 go_enter Tryz.func64, Tryz.ntmps64
 go_upto_region 1 with fail
 refine wp_region_held_drew (S := fun w' => Below Y0.heap.size Y0 w') (by kernel_rfl) (by exact (Below.refl _ _).drew) (fun hH => ?_)
 revert hH
 generalize Y0.drew = V0
 intro hH
 refine wTl 0 (.pointer (some ⟨g, 0, none⟩)) rfl (by kernel_rfl) (fun _ _ _ h => h) rfl (fun w' h => by clear h; go_simp) hH ?_
 simp only [wA, wB, wC, wD]
 refine wTl 1 (.pointer (some ⟨g, 0, none⟩)) rfl (by kernel_rfl) (fun _ _ _ h => h) rfl (fun w' h => by clear h; go_simp) hH ?_
 simp only [wA, wB, wC, wD]
 refine wTl 2 (.pointer (some ⟨g, 1, none⟩)) rfl (by kernel_rfl) (fun _ _ _ h => h) rfl (fun w' h => by clear h; go_simp) hH ?_
 simp only [wA, wB, wC, wD]
 refine wTl 3 (.map (some mn)) rfl (by kernel_rfl) (fun _ _ _ h => h) rfl (fun w' h => by have q := (HBK.out.below h).cell (i := 1) rfl; clear h; go_simp) hH ?_
 simp only [wA, wB, wC, wD]
 refine wTl 4 (.agg #[.int .i64 t.k, .int .i64 t.n, .string t.s]) rfl (by kernel_rfl) (fun _ _ _ h => h) rfl (fun w' h => by have q0 := (HBX.out.below h).cell (i := 0) rfl; have q1 := (HBX.out.below h).cell (i := 1) rfl; have q2 := (HBX.out.below h).cell (i := 2) rfl; clear h; go_simp) hH ?_
 simp only [wA, wB, wC, wD]
 refine wTl 5 (.tuple #[.int .i64 pi, .bool pb]) rfl (by kernel_rfl) (fun _ _ _ h => h) rfl (fun w' h => by have q := HL.out w' h; clear h; go_simp) hH ?_
 simp only [wA, wB, wC, wD]
 refine wTl 6 (.tuple #[.int .i64 pi, .bool pb]) rfl (by kernel_rfl) (fun _ _ _ h => h) rfl (fun w' h => by clear h; go_simp) hH ?_
 simp only [wA, wB, wC, wD]
 refine wTl 7 (.int .i64 pi) rfl (by kernel_rfl) (fun _ _ _ h => h) rfl (fun w' h => by clear h; go_simp) hH ?_
 simp only [wA, wB, wC, wD]
 refine wTl 8 (.bool pb) rfl (by kernel_rfl) (fun _ _ _ h => h) rfl (fun w' h => by clear h; go_simp) hH ?_
 simp only [wA, wB, wC, wD]
 refine wTl 9 (.int .i64 pi) rfl (by kernel_rfl) (fun _ _ _ h => h) rfl (fun w' h => by clear h; go_simp) hH ?_
 simp only [wA, wB, wC, wD]
 refine wTl 10 (.bool pb) rfl (by kernel_rfl) (fun _ _ _ h => h) rfl (fun w' h => by clear h; go_simp) hH ?_
 simp only [wA, wB, wC, wD]
 refine wpAnyH_done (by kernel_rfl) ?_ _
 have HV := hm7 hH
 clear hH
 have hpb := HPB.out
 subst hpb
 clear HPB HL
 have HTB := hm7 (HH.out.below HV.out)
 have HBX1 := hm7 (HBX.out.below HV.out)
 have HYV : Hid (Below Y.heap.size Y V0) := HB0.out.trans (HV.out.mono (by have := HB0.out.size; exact this))
 have c0 : V0.cell? ⟨g, 0, none⟩ = some (.slice ta n tc) := HTB.out.b.cell (i := 0) rfl
 have gl : g < V0.heap.size := HTB.out.b.lt
 have hzv := HV.out.size
 clear HH HBX HBK HB0 HV hY0
 go_upto_region 4 with fail
 refine Code.wp_mono (Q := NQ fun a' W' => (a'.tmps.size = 40 /\ a'.tmps[0]? = some (.pointer (some ⟨g, 0, none⟩)) /\ a'.tmps[3]? = some (.pointer (some ⟨Y.heap.size, 0, none⟩)) /\ a'.tmps[5]? = some (.int .i64 (n : Int)) /\ a'.defers = []) /\ ∃ ga gn gc, TB9 g (.slice ta n tc) (.slice ga gn gc) mn rm T t Y W') ?_ ?_
 ·intro e a4 W4 hq4
  cases e <;> first | exact hq4.elim | skip
  obtain ⟨hac, ga, gn, gc, h9⟩ := hq4
  obtain ⟨tmps, defers⟩ := a4
  obtain ⟨f, hf⟩ : ∃ f : Nat -> Value, tmps = #[.pointer (some ⟨g, 0, none⟩), f 1, f 2, .pointer (some ⟨Y.heap.size, 0, none⟩), f 4, .int .i64 (n : Int), f 6, f 7, f 8, f 9, f 10, f 11, f 12, f 13, f 14, f 15, f 16, f 17, f 18, f 19, f 20, f 21, f 22, f 23, f 24, f 25, f 26, f 27, f 28, f 29, f 30, f 31, f 32, f 33, f 34, f 35, f 36, f 37, f 38, f 39] := by
   obtain ⟨hn, t0, t3, t5, -⟩ := hac
   obtain ⟨f, hf, hi⟩ := arr_of 40 tmps hn
   refine ⟨f, ?_⟩
   have e : ∀ (i : Nat) (v : Value), i < 40 -> tmps[i]? = some v -> f i = v := fun i v h1 h2 => Option.some.inj ((hi i h1).symm.trans h2)
   rw [hf, show (List.range 40).map f = [f 0, f 1, f 2, f 3, f 4, f 5, f 6, f 7, f 8, f 9, f 10, f 11, f 12, f 13, f 14, f 15, f 16, f 17, f 18, f 19, f 20, f 21, f 22, f 23, f 24, f 25, f 26, f 27, f 28, f 29, f 30, f 31, f 32, f 33, f 34, f 35, f 36, f 37, f 38, f 39] from rfl, e 0 _ (by decide) t0, e 3 _ (by decide) t3, e 5 _ (by decide) t5]
  obtain rfl : defers = [] := by have := hac; simp only at this; exact this.2.2.2.2
  clear hac
  subst hf
  have HT9 := hm7 h9
  clear h9 HTB HBX1 c0 gl
  go_upto_region 5 with fail
  have HTW : Hid (TB9 g (.slice ta n tc) (.slice ga gn gc) mn rm T t Y W4.drew) := HT9.out.below (by exact (Below.refl _ _).drew)
  clear HT9
  refine wp_region_held_drew (S := fun w' => Bk w' Y.heap.size #[.int .i64 t.k, .int .i64 t.n, .string t.s] 30 /\ Bk w' g #[.slice ga gn gc, .map (some mn), rm] 44) (by kernel_rfl) ⟨HTW.out.x, HTW.out.b⟩ (fun hH => ?_)
  generalize W4.drew = W5 at *
  have HT9 := hm7 HTW.out
  clear HTW
  refine wTl 0 (.pointer (some ⟨g, 0, none⟩)) rfl (by kernel_rfl) (fun _ _ _ h => h) rfl (fun w' h => by clear h; go_simp) hH ?_
  simp only [wA, wB, wC, wD]
  refine wTl 1 (.pointer (some ⟨g, 0, none⟩)) rfl (by kernel_rfl) (fun _ _ _ h => h) rfl (fun w' h => by clear h; go_simp) hH ?_
  simp only [wA, wB, wC, wD]
  refine wTl 2 (.pointer (some ⟨g, 1, none⟩)) rfl (by kernel_rfl) (fun _ _ _ h => h) rfl (fun w' h => by clear h; go_simp) hH ?_
  simp only [wA, wB, wC, wD]
  refine wTl 3 (.map (some mn)) rfl (by kernel_rfl) (fun _ _ _ h => h) rfl (fun w' h => by have q := h.2.cell (i := 1) rfl; clear h; go_simp) hH ?_
  simp only [wA, wB, wC, wD]
  refine wTl 4 (.agg #[.int .i64 t.k, .int .i64 t.n, .string t.s]) rfl (by kernel_rfl) (fun _ _ _ h => h) rfl (fun w' h => by have q0 := (h.1).cell (i := 0) rfl; have q1 := (h.1).cell (i := 1) rfl; have q2 := (h.1).cell (i := 2) rfl; clear h; go_simp) hH ?_
  simp only [wA, wB, wC, wD]
  refine wTl 5 (.int .i64 (n : Int)) rfl (by kernel_rfl) (fun _ _ _ h => h) rfl (fun w' h => by clear h; go_simp) hH ?_
  simp only [wA, wB, wC, wD]
  refine wRd 6 (by kernel_rfl) rfl (fun K hK => ?_)
  obtain ⟨V2, hrun, hmq, hgr⟩ := HT9.out.n.store (T := 38) (E := 3) Tryz.underlying38 (by have := HN.out; unfold maxLen; omega) (s := t) HKT.out (.int .i64 (T.length : Int))
  rw [HN.out, show kyT.v t = .agg #[.int .i64 t.k, .int .i64 t.n, .string t.s] from rfl] at hrun
  have HGM : Hid (¬ g = mn) := HT9.out.gm
  go_simp
  refine hK.out _ _ ⟨hH.1.fr (Fr.grown (P := fun b => b = mn) hgr fun b e => by cases e; rfl) (by have := HYG.out.2; omega), hH.2.fr (Fr.grown (P := fun b => b = mn) hgr fun b e => by cases e; rfl) HGM.out⟩ (fun hH => ?_)
  have HMQ := hm7 hmq
  have HGR := hm7 hgr
  clear hK K hmq hgr hrun
  try simp only [wA, wB, wC, wD]
  refine wpAnyH_done (by kernel_rfl) ?_ _
  clear hH
  go_wp2
  go_ret
  refine ⟨.slice ga gn gc, T ++ [t], by rw [HI.out, Option.getD_none, HN.out]; rfl, ⟨?_, ?_, ?_, HT9.out.a, ?_⟩, by rw [HI.out]; rfl, ?_, HT9.out.v⟩
  ·exact HT9.out.b.fr (Fr.grown (P := fun b => b = mn) HGR.out fun b e => by cases e; rfl) HGM.out
  ·exact row7_fr HT9.out.o (Fr.grown (P := fun b => b = mn) HGR.out fun b e => by cases e; rfl) fun b hb hc => by subst hc; exact HT9.out.a.2 hb
  ·have := HMQ.out
   rw [ixF_snoc T t HI.out, if_neg (by unfold ixF; rw [HI.out]; simp)] at this
   rw [List.length_append]
   exact this
  ·rw [List.length_append, HN.out]; simp; omega
  ·exact HT9.out.f.trans (Fr.grown (P := fun b => b = mn) HGR.out fun b e => by cases e; rfl) fun b _ hb => Or.inr (Or.inr hb)
 ·have HTU : Hid (TB8 g (.slice ta n tc) mn rm T V0.drew) := HTB.out.below (by exact (Below.refl _ _).drew)
  have HXU : Hid (Bk V0.drew Y.heap.size #[.int .i64 t.k, .int .i64 t.n, .string t.s] 30) := HBX1.out.below (by exact (Below.refl _ _).drew)
  have HYU : Hid (Below Y.heap.size Y V0.drew) := HYV.out.drew
  clear c0 gl HTB HBX1 HYV
  refine wp_region_held_drew (S := fun w' => Bk w' Y.heap.size #[.int .i64 t.k, .int .i64 t.n, .string t.s] 30) (by kernel_rfl) HXU.out (fun hH => ?_)
  generalize V0.drew = U0 at *
  have u0 : U0.cell? ⟨g, 0, none⟩ = some (.slice ta n tc) := HTU.out.b.cell (i := 0) rfl
  have ul : g < U0.heap.size := HTU.out.b.lt
  refine wTl 0 (.pointer (some ⟨g, 0, none⟩)) rfl (by kernel_rfl) (fun _ _ _ h => h) rfl (fun w' h => by clear h; go_simp) hH ?_
  simp only [wA, wB, wC, wD]
  refine wTl 1 (.pointer (some ⟨g, 0, none⟩)) rfl (by kernel_rfl) (fun _ _ _ h => h) rfl (fun w' h => by clear h; go_simp) hH ?_
  simp only [wA, wB, wC, wD]
  refine wTl 2 (.pointer (some ⟨g, 0, none⟩)) rfl (by kernel_rfl) (fun _ _ _ h => h) rfl (fun w' h => by clear h; go_simp) hH ?_
  simp only [wA, wB, wC, wD]
  refine wTl 3 (.pointer (some ⟨g, 0, none⟩)) rfl (by kernel_rfl) (fun _ _ _ h => h) rfl (fun w' h => by clear h; go_simp) hH ?_
  simp only [wA, wB, wC, wD]
  refine wTl 5 (.agg #[.int .i64 t.k, .int .i64 t.n, .string t.s]) rfl (by kernel_rfl) (fun _ _ _ h => h) rfl (fun w' h => by have q0 := (h).cell (i := 0) rfl; have q1 := (h).cell (i := 1) rfl; have q2 := (h).cell (i := 2) rfl; clear h; go_simp) hH ?_
  simp only [wA, wB, wC, wD]
  refine wpAnyH_ready (rs := [4, 6]) (by kernel_rfl) (by simp) ?_
  refine (AllReadyH.cons (o := ⟨_, _, _, _, _, _⟩) rfl (fun K hK => ?_) (AllReadyH.cons (o := ⟨_, _, _, _, _, _⟩) rfl (fun K hK => ?_) AllReadyH.nil))
  ·go_simp
   refine hK.out _ _ hH (fun hH => ?_)
   clear hK K
   try simp only [wA, wB, wC, wD]
   refine wRd 6 (by kernel_rfl) rfl (fun K hK => ?_)
   go_simp
   refine hK.out _ _ (hH.below (below1 _ _)) (fun hH => ?_)
   clear hK K
   try simp only [wA, wB, wC, wD]
   refine wRd 7 (by kernel_rfl) rfl (fun K hK => ?_)
   refine gstepN Tryz.underlying31 Tryz.infoTerm8 rfl (by omega) (by omega) rfl _ _ rfl 0 (.slice ta n tc) n (tcs T) (by rfl) (row7_below (show U0.ownsRow 0 30 3 (.slice ta n tc) n (tcs T) by have h9 := HTU.out.o; unfold OwnT at h9; rw [HN.out] at h9; exact h9) (below1 _ _)) U0.heap.size #[.int .i64 t.k, .int .i64 t.n, .string t.s] (by rfl) (Bk.new _ _ _) rfl (by simp [Value.oneCell']) (by omega) (by simp) ?_
   intro g2 c2 U ho hg hv hl2
   have HTN := hm7 (TB9.mk' HTU.out HXU.out HYU.out HYG.out HYO.out HN.out ho hg hv)
   have hfr : Fr (fun b => (Value.slice ta n tc).ownBlock = some b) U0 U := (Fr.of (below1 _ _)).tr (Fr.grown hg fun b hb => hb)
   have hbu := HTU.out.b.fr hfr HTU.out.a.1
   have d0 := hbu.cell (i := 0) rfl
   have d1 := hbu.froz 0
   have d2 := hbu.lt
   refine hK.out _ _ (HXU.out.fr hfr fun e => by have := HYO.out _ e; omega) (fun hH => ?_)
   clear hK K ho hg hv hl2 hfr hbu
   try simp only [wA, wB, wC, wD]
   refine wTl 8 (.pointer (some ⟨g, 0, none⟩)) rfl (by kernel_rfl) (fun _ _ _ h => h) rfl (fun w' h => by clear h; go_simp) hH ?_
   simp only [wA, wB, wC, wD]
   refine wTl 9 (.pointer (some ⟨g, 0, none⟩)) rfl (by kernel_rfl) (fun _ _ _ h => h) rfl (fun w' h => by clear h; go_simp) hH ?_
   simp only [wA, wB, wC, wD]
   refine wRd 10 (by kernel_rfl) rfl (fun K hK => ?_)
   go_simp
   refine hK.out _ _ (hH.off (by have := HYG.out.1; omega)) (fun hH => ?_)
   clear hK K
   try simp only [wA, wB, wC, wD]
   refine wpAnyH_done (by kernel_rfl) ?_ _
   exact ⟨(by first | exact ⟨rfl, rfl, rfl, rfl, rfl⟩ | ((repeat' apply And.intro) <;> rfl)), _, _, _, HTN.out⟩
  ·go_simp
   refine hK.out _ _ (hH.below (below1 _ _)) (fun hH => ?_)
   clear hK K
   try simp only [wA, wB, wC, wD]
   refine wRd 4 (by kernel_rfl) rfl (fun K hK => ?_)
   go_simp
   refine hK.out _ _ hH (fun hH => ?_)
   clear hK K
   try simp only [wA, wB, wC, wD]
   refine wRd 7 (by kernel_rfl) rfl (fun K hK => ?_)
   refine gstepN Tryz.underlying31 Tryz.infoTerm8 rfl (by omega) (by omega) rfl _ _ rfl 0 (.slice ta n tc) n (tcs T) (by rfl) (row7_below (show U0.ownsRow 0 30 3 (.slice ta n tc) n (tcs T) by have h9 := HTU.out.o; unfold OwnT at h9; rw [HN.out] at h9; exact h9) (below1 _ _)) U0.heap.size #[.int .i64 t.k, .int .i64 t.n, .string t.s] (by rfl) (Bk.new _ _ _) rfl (by simp [Value.oneCell']) (by omega) (by simp) ?_
   intro g2 c2 U ho hg hv hl2
   have HTN := hm7 (TB9.mk' HTU.out HXU.out HYU.out HYG.out HYO.out HN.out ho hg hv)
   have hfr : Fr (fun b => (Value.slice ta n tc).ownBlock = some b) U0 U := (Fr.of (below1 _ _)).tr (Fr.grown hg fun b hb => hb)
   have hbu := HTU.out.b.fr hfr HTU.out.a.1
   have d0 := hbu.cell (i := 0) rfl
   have d1 := hbu.froz 0
   have d2 := hbu.lt
   refine hK.out _ _ (HXU.out.fr hfr fun e => by have := HYO.out _ e; omega) (fun hH => ?_)
   clear hK K ho hg hv hl2 hfr hbu
   try simp only [wA, wB, wC, wD]
   refine wTl 8 (.pointer (some ⟨g, 0, none⟩)) rfl (by kernel_rfl) (fun _ _ _ h => h) rfl (fun w' h => by clear h; go_simp) hH ?_
   simp only [wA, wB, wC, wD]
   refine wTl 9 (.pointer (some ⟨g, 0, none⟩)) rfl (by kernel_rfl) (fun _ _ _ h => h) rfl (fun w' h => by clear h; go_simp) hH ?_
   simp only [wA, wB, wC, wD]
   refine wRd 10 (by kernel_rfl) rfl (fun K hK => ?_)
   go_simp
   refine hK.out _ _ (hH.off (by have := HYG.out.1; omega)) (fun hH => ?_)
   clear hK K
   try simp only [wA, wB, wC, wD]
   refine wpAnyH_done (by kernel_rfl) ?_ _
   exact ⟨(by first | exact ⟨rfl, rfl, rfl, rfl, rfl⟩ | ((repeat' apply And.intro) <;> rfl)), _, _, _, HTN.out⟩
theorem enter8_any (g : Nat) (tv : Value) (mn : Nat) (rm : Value) (T : List Tm) (t : Tm) (Y : World) (h : TB8 g tv mn rm T Y) (ht : KeyT t) (hl : T.length < 1000000000) :
  Calls Tryz.prog 64 #[.pointer (some ⟨g, 0, none⟩), t.v] Y (En8 g tv mn rm T t Y) := by
 cases hi : ix8 T t with
 | some i => exact enter8_old g tv mn rm T t Y h ht hi
 | none => exact enter8_new g tv mn rm T t Y h ht hi hl
end Go.Proofs.YtechceagghcipabGreatDoor

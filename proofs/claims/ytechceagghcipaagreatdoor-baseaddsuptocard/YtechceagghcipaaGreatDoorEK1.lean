import Derived.Test.YtechceagghcipaaGreatDoorEJ9
import Derived.Test.YtechceagghcipaaGreatDoorLDA
namespace Go.Proofs.YtechceagghcipaaGreatDoor
open Go.RowKit

theorem LentT.tsP {X : World} {B : Nat} {v : Value} {l : List Tm} (h : LentT X B v l) (hl : l.length < 1000000000000000000) : TsP X v l := by
 have ht := h.ts hl
 obtain ⟨g, cap, rfl, ho⟩ := h
 obtain ⟨a, c, e, -, hr⟩ := ht
 cases e
 refine Or.inr ⟨⟨g, 0, none⟩, cap, rfl, ?_⟩
 rcases hr with hr | ⟨b, o, e, hr⟩
 ·exact Or.inl hr
 ·cases e
  exact Or.inr ⟨_, _, rfl, hr⟩
theorem LentT.fr {P : Nat -> Prop} {X X' : World} {B : Nat} {v : Value} {l : List Tm} (h : LentT X B v l) (hf : Fr P X X') (hn : ∀ b, P b -> b < B) : LentT X' B v l := by
 obtain ⟨g, cap, e, ho⟩ := h
 exact ⟨g, cap, e, row7_fr ho hf fun b hb hp => by have h1 := (World.ownsRow.lt ho b hb).1; have h2 := hn b hp; omega⟩
theorem facts_eq {Q : List (At × Nat)} {L : List At} (hs : srtC8 Q) (hp : (Q.map Prod.fst).Perm L) (hL : L.Pairwise fun a b => a.cmp b < 0) : Q.map Prod.fst = L := by
 have h1 : (Q.map Prod.fst).Pairwise fun a b => a.cmp b <= 0 := by rw [List.pairwise_map]; exact hs
 exact List.Perm.eq_of_pairwise (fun a b _ _ h1 h2 => by
  have := ord_at.neg a b
  exact ord_at.zero a b (by omega)) h1 (hL.imp fun h => by omega) hp
theorem so9_filter {R : List It8} (h : so9 R) (p : At × Int -> Bool) : (((Ei R).filter p).map Prod.fst).Pairwise fun a b => a.cmp b < 0 := by
 rw [List.pairwise_map]
 refine List.Pairwise.filter p ?_
 unfold Ei
 rw [List.pairwise_map]
 exact h
theorem so9_turn {R : List It8} (h : so9 R) : so9 (R.map tI8) := by
 unfold so9
 rw [List.pairwise_map]
 exact h
theorem Kd8.perm {R R' : List It8} {f : At} (h : Kd8 R) (hf : (∀ t ∈ f.pl, KeyT t) /\ KeyP f.pd8) (hp : (Ei R').Perm (aE8 (Ei R) f)) : Kd8 R' := fun x hx => by
 have h1 : (x.1.1, x.2) ∈ aE8 (Ei R) f := hp.mem_iff.1 (List.mem_map.2 ⟨x, hx, rfl⟩)
 unfold aE8 at h1
 have h2 : (x.1.1, x.2) ∈ Ei R -> (∀ t ∈ x.1.1.pl, KeyT t) /\ KeyP x.1.1.pd8 := fun hm => by
  obtain ⟨z, hz, e⟩ := List.mem_map.1 hm
  simp only [Prod.mk.injEq] at e
  rw [<- e.1]
  exact h z hz
 split at h1
 ·exact h2 h1
 ·rcases List.mem_append.1 h1 with h1 | h1
  ·exact h2 h1
  ·have : x.1.1 = f := by have := List.mem_singleton.1 h1; simp only [Prod.mk.injEq] at this; exact this.1
   rw [this]; exact hf
theorem Kd8.turn {R : List It8} (h : Kd8 R) : Kd8 (R.map tI8) := fun x hx => by
 obtain ⟨y, hy, rfl⟩ := List.mem_map.1 hx
 exact h y hy
structure DO8 (w : World) (A B : Nat -> Prop) (b r M T : Nat) (R : List It8) (Y : World) : Prop where
 p : BP8 w A b M T (Ei R) Y
 q : ∃ lv, RB8 w B r lv R Y
 d : ∀ x, A x -> ¬ B x
 so : so9 R
 kd : Kd8 R
theorem DO8.fr {w : World} {A B P : Nat -> Prop} {b r M T : Nat} {R : List It8} {Y Y' : World} (h : DO8 w A B b r M T R Y) (hf : Fr P Y Y') (hn : ∀ x, P x -> x < Y.heap.size -> (¬ A x /\ ¬ B x) /\ w.heap.size <= x) : DO8 w A B b r M T R Y' := by
 obtain ⟨lv, hq⟩ := h.q
 exact ⟨h.p.fr hf fun x hx hl => ⟨(hn x hx hl).1.1, (hn x hx hl).2⟩, ⟨lv, hq.fr hf fun x hx hl => ⟨(hn x hx hl).1.2, (hn x hx hl).2⟩⟩, h.d, h.so, h.kd⟩
theorem DO8.below {w : World} {A B : Nat -> Prop} {b r M T : Nat} {R : List It8} {Y Y' : World} (h : DO8 w A B b r M T R Y) (hb : Below Y.heap.size Y Y') : DO8 w A B b r M T R Y' := h.fr (P := fun _ => False) (Fr.of hb) fun _ h => h.elim
theorem DO8.lt {w : World} {A B : Nat -> Prop} {b r M T : Nat} {R : List It8} {Y : World} (h : DO8 w A B b r M T R Y) {x : Nat} (hx : A x ∨ B x) : w.heap.size <= x /\ x < Y.heap.size := by
 rcases hx with hx | hx
 ·exact h.p.lt hx
 ·obtain ⟨lv, hq⟩ := h.q; exact hq.lt hx
def DoQ (w : World) (A B : Nat -> Prop) (b r M T : Nat) (R : List It8) (f : At) (Y : World) (e : Ending) (Y' : World) : Prop :=
 e = .returned (.bool true) /\ ∃ A' B' M' T' R', DO8 w A' B' b r M' T' R' Y' /\ M' <= M + 1048577 /\ T' <= T + f.pl.length /\ sz8 (Ei R') <= sz8 (Ei R) + f.pl.length /\ Fr (fun x => A x ∨ B x) Y Y' /\ ∀ x, A' x ∨ B' x -> (A x ∨ B x) ∨ Y.heap.size <= x
structure DM8 (w Y : World) (oc fc : Array Value) (u : Value) (l : List Tm) (G : Nat) (Z : World) : Prop where
 bo : Bk Z Y.heap.size oc 48
 bf : Bk Z G fc 27
 g : Y.heap.size <= G
 lt : LentT Z Y.heap.size u l
 bl : Below w.heap.size w Z
theorem DM8.fr {w Y : World} {oc fc : Array Value} {u : Value} {l : List Tm} {G : Nat} {P : Nat -> Prop} {Z Z' : World} (h : DM8 w Y oc fc u l G Z) (hf : Fr P Z Z') (hn : ∀ x, P x -> w.heap.size <= x /\ x < Y.heap.size) : DM8 w Y oc fc u l G Z' :=
 ⟨h.bo.fr hf fun hp => by have := hn _ hp; omega, h.bf.fr hf fun hp => by have := hn _ hp; have := h.g; omega, h.g, h.lt.fr hf fun x hx => (hn x hx).2, h.bl.trans (Fr.low (hf.mono (Q := fun x => w.heap.size <= x) fun x _ hx => (hn x hx).1) h.bl.size)⟩
theorem DM8.below {w Y : World} {oc fc : Array Value} {u : Value} {l : List Tm} {G : Nat} {Z Z' : World} (h : DM8 w Y oc fc u l G Z) (hb : Below Z.heap.size Z Z') : DM8 w Y oc fc u l G Z' := h.fr (P := fun _ => False) (Fr.of hb) fun _ h => h.elim
end Go.Proofs.YtechceagghcipaaGreatDoor

import Derived.Test.YtechceagghcipaaGreatDoorEB6
import Derived.Test.YtechceagghcipaaGreatDoorRD7
import Derived.Test.YtechceagghcipaaGreatDoorRA41
namespace Go.Proofs.YtechceagghcipaaGreatDoor
open Go.RowKit

def en8 (T : List Tm) (t : Tm) : List Tm := if (ix8 T t).isSome then T else T ++ [t]
def ens8 (T L : List Tm) : List Tm := L.foldl en8 T
def nm8 (T L : List Tm) : List Int := L.map fun t => (((ix8 T t).getD 0 : Nat) : Int)
theorem ens8_snoc (T L : List Tm) (t : Tm) : ens8 T (L ++ [t]) = en8 (ens8 T L) t := by simp [ens8]
theorem en8_keep {T : List Tm} {x : Tm} {i : Nat} (t : Tm) (h : ix8 T x = some i) : ix8 (en8 T t) x = some i := by
 unfold en8
 cases ht : ix8 T t with
 | some j => simpa using h
 | none =>
  rw [if_neg (by simp), ix8_snoc T t x ht]
  by_cases e : x = t
  ·subst e; rw [ht] at h; cases h
  ·rw [if_neg e]; exact h
theorem en8_new (T : List Tm) (t : Tm) : ix8 (en8 T t) t = some ((ix8 T t).getD T.length) := by
 unfold en8
 cases ht : ix8 T t with
 | some j => simpa using ht
 | none => rw [if_neg (by simp), ix8_snoc T t t ht, if_pos rfl]; rfl
theorem en8_len (T : List Tm) (t : Tm) : (en8 T t).length <= T.length + 1 := by unfold en8; split <;> simp
theorem ens8_len (L : List Tm) : ∀ T : List Tm, (ens8 T L).length <= T.length + L.length := by
 induction L with
 | nil => intro T; simp [ens8]
 | cons t L ih =>
  intro T
  have h1 := ih (en8 T t)
  have h2 := en8_len T t
  have e : ens8 T (t :: L) = ens8 (en8 T t) L := rfl
  rw [e, List.length_cons]
  omega
theorem ens8_keep {x : Tm} {i : Nat} (L : List Tm) : ∀ T : List Tm, ix8 T x = some i -> ix8 (ens8 T L) x = some i := by
 induction L with
 | nil => intro T h; exact h
 | cons t L ih => intro T h; exact ih _ (en8_keep t h)
theorem ens8_mem (L : List Tm) : ∀ T : List Tm, ∀ t ∈ L, ∃ i, ix8 (ens8 T L) t = some i := by
 induction L with
 | nil => intro T t h; simp at h
 | cons x L ih =>
  intro T t h
  rcases List.mem_cons.1 h with rfl | h
  ·exact ⟨_, ens8_keep L _ (en8_new T t)⟩
  ·exact ih _ t h
theorem nm8_snoc (T L : List Tm) (t : Tm) : nm8 (ens8 T (L ++ [t])) (L ++ [t]) = nm8 (ens8 T L) L ++ [(((ix8 (ens8 T L) t).getD (ens8 T L).length : Nat) : Int)] := by
 rw [ens8_snoc]
 unfold nm8
 rw [List.map_append, List.map_singleton, en8_new]
 congr 1
 apply List.map_congr_left
 intro x hx
 obtain ⟨i, hi⟩ := ens8_mem L T x hx
 rw [en8_keep t hi, hi]
theorem nm8_len (T L : List Tm) : (nm8 T L).length = L.length := by simp [nm8]
def PB8 (g : Nat) (tv : Value) (mn : Nat) (b : Nat) : Prop := b = g ∨ tv.ownBlock = some b ∨ b = mn
theorem Mq.notcells {P : Program} {k : TypeId} {κ : Type} {K : Ky P k κ} {w : World} {b n : Nat} {f : κ -> Option Value} (h : Mq K w b n f) {c : Array Value} {t : TypeId} (h' : Bk w b c t) : False := by
 obtain ⟨D, ⟨es, clock, h1, -⟩, -⟩ := h.ex
 unfold Bk at h'
 rw [h1] at h'
 cases h'
theorem TB8.apart {g : Nat} {tv : Value} {mn : Nat} {rm : Value} {T : List Tm} {Y : World} (h : TB8 g tv mn rm T Y) {base n m : Nat} {v : Value} {xs : List Value} (h' : Y.ownsRow base 3 n v m xs) : ∀ b, v.ownBlock = some b -> ¬ PB8 g tv mn b := fun b hb hp => by
 rcases hp with rfl | hp | rfl
 ·obtain ⟨c, hc⟩ := row7_blk h' hb
  exact absurd (hc.ty h.b) (by decide)
 ·exact row7_ne h' h.o (by decide) b hb hp
 ·obtain ⟨c, hc⟩ := row7_blk h' hb
  exact h.n.notcells hc
theorem TB8.lt {g : Nat} {tv : Value} {mn : Nat} {rm : Value} {T : List Tm} {Y : World} (h : TB8 g tv mn rm T Y) {b : Nat} (hb : PB8 g tv mn b) : b < Y.heap.size := by
 rcases hb with rfl | hb | rfl
 ·exact h.b.lt
 ·exact (h.o.lt b hb).2
 ·exact h.n.lt
structure NW8 (g mn : Nat) (rm tv lv : Value) (T L : List Tm) (Y : World) (j : Nat) (tj rv : Value) (w : World) : Prop where
 t : TB8 g tj mn rm (ens8 T (L.take j)) w
 r : OwI w Y.heap.size rv (nm8 (ens8 T (L.take j)) (L.take j))
 l : OwnT w Y.heap.size lv L
 f : Fr (PB8 g tv mn) Y w
 a : ∀ b, tj.ownBlock = some b -> lv.ownBlock ≠ some b /\ (tv.ownBlock = some b ∨ Y.heap.size <= b)
section
variable {g mn : Nat} {rm tv lv : Value} {T L : List Tm} {Y : World} {j : Nat} {tj rv : Value} {w : World}
theorem NW8.below (h : NW8 g mn rm tv lv T L Y j tj rv w) {w' : World} (hb : Below w.heap.size w w') : NW8 g mn rm tv lv T L Y j tj rv w' :=
 ⟨h.t.below hb, row7_below h.r hb, row7_below h.l hb, h.f.then hb, h.a⟩
theorem NW8.zero (h : TB8 g tv mn rm T Y) (hl : OwnT w Y.heap.size lv L) (hb : Below Y.heap.size Y w) : NW8 g mn rm tv lv T L Y 0 tv (.slice none 0 0) w :=
 ⟨h.below hb, OwI.nil _ _, hl, Fr.of hb, fun b hb => ⟨fun e => by have := (h.o.lt b hb).2; have := (hl.lt b e).1; omega, Or.inl hb⟩⟩
theorem NW8.lap (h : NW8 g mn rm tv lv T L Y j tj rv w) (hy : g < Y.heap.size /\ mn < Y.heap.size) : ∀ b, lv.ownBlock = some b -> ¬ PB8 g tj mn b := fun b hb hp => by
 have h1 := (h.l.lt b hb).1
 rcases hp with rfl | hp | rfl
 ·omega
 ·exact (h.a b hp).1 hb
 ·omega
theorem NW8.next (h : NW8 g mn rm tv lv T L Y j tj rv w) (hy : g < Y.heap.size /\ mn < Y.heap.size) {t : Tm} (ht : L[j]? = some t) {tj' : Value} {T' : List Tm} {U : World} (hT : TB8 g tj' mn rm T' U) (e : T' = en8 (ens8 T (L.take j)) t) (hf : Fr (PB8 g tj mn) w U)
  (ha : ∀ b, tj'.ownBlock = some b -> tj.ownBlock = some b ∨ w.heap.size <= b) : OwI U Y.heap.size rv (nm8 (ens8 T (L.take j)) (L.take j)) ∧
  ∀ (rv' : Value) (U2 : World) (x : Int), x = (((ix8 (ens8 T (L.take j)) t).getD (ens8 T (L.take j)).length : Nat) : Int) -> U2.ownsRow Y.heap.size 3 1 rv' ((nm8 (ens8 T (L.take j)) (L.take j)).length + 1) (ibs7 (nm8 (ens8 T (L.take j)) (L.take j)) ++ [.int .i64 x]) -> Fr (fun b => rv.ownBlock = some b) U U2 -> NW8 g mn rm tv lv T L Y (j + 1) tj' rv' U2 := by
 have hr := row7_fr h.r hf (fun b hb => h.t.apart h.r b hb)
 have hl := row7_fr h.l hf (h.lap hy)
 have hfu : Fr (PB8 g tv mn) Y U := h.f.trans hf fun b hb hp => by
  rcases hp with rfl | hp | rfl
  ·exact Or.inl rfl
  ·rcases (h.a b hp).2 with q | q
   ·exact Or.inr (Or.inl q)
   ·omega
  ·exact Or.inr (Or.inr rfl)
 refine ⟨hr, fun rv' U2 x hx ho hg => ?_⟩
 have et : L.take (j + 1) = L.take j ++ [t] := by rw [List.take_add_one, ht]; rfl
 refine ⟨?_, ?_, ?_, ?_, fun b hb => ?_⟩
 ·rw [et, ens8_snoc, <- e]
  exact hT.fr hg fun b hb hq => hT.apart hr b hq hb
 ·rw [et, nm8_snoc, <- hx]
  exact OwI.snoc ho
 ·exact row7_fr hl hg fun b hb hq => row7_ne hr hl (by decide) b hq hb
 ·exact hfu.trans hg fun b hb hq => absurd ((h.r.lt b hq).1) (by omega)
 ·rcases ha b hb with q | q
  ·exact h.a b q
  ·exact ⟨fun e => by have := (h.l.lt b e).2; omega, Or.inr (by have := h.f.size; omega)⟩
end
end Go.Proofs.YtechceagghcipaaGreatDoor

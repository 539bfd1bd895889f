import Derived.Test.YtechceagghcipabGreatDoorB2
import Derived.Test.YtechceagghcipabGreatDoorRA19
import Derived.Laws.Cover1
import Derived.Deep.QuietTactic
import Derived.BigQuiet
import Derived.Laws.CopyOwn
import Derived.Maps.AppendAt
import Derived.Laws.OwnMore
import Derived.Test.YtechceagghcipabGreatDoorRA7
import Derived.Test.YtechceagghcipabGreatDoorEB6
import Derived.Test.YtechceagghcipabGreatDoorRA41
import Derived.Test.YtechceagghcipabGreatDoorRA2
namespace Go.Proofs.YtechceagghcipabGreatDoor
open Go.RowKit Go.Shelf
structure RZ (w : World) (X : Nat -> Prop) (g m : Nat) (s : St7) (F S : Nat -> Prop) (E : Nat) (W : World) (F' : Nat -> Prop) : Prop where
 r : RM W g F' S (m + 1) s
 d : ∀ b, F' b -> (F b ∨ w.heap.size + 2 <= b) /\ b < E
 f : Fr (fun b => F b ∨ X b) w W
 e : w.heap.size + 2 <= E
 z : E <= W.heap.size
section
variable {n : Nat}
end
theorem RM.up {w : World} {g : Nat} {F S : Nat -> Prop} {m m' : Nat} {s : St7} (h : RM w g F S m s) (hm : m <= m') : RM w g F S m' s := by
 obtain ⟨rv, rvs, mp, mx, nx, t, f, hn, h⟩ := h
 exact ⟨rv, rvs, mp, mx, nx, t, f, Nat.le_trans hn hm, h⟩
theorem nat7_of {wd : Nat} {l : List (Int × Int)} (h : ∀ p ∈ l, col7 wd p.1 = true) : nat7 (l.map fun p => p.1.toNat) = l.map Prod.fst := by
 unfold nat7
 rw [List.map_map]
 apply List.map_congr_left
 intro p hp
 have := h p hp
 rw [col7, decide_eq_true_eq] at this
 simp only [Function.comp]
 omega
theorem unq7_len {z l : List (Int × Int)} (h : unq7 z l) : l.length <= z.length := by
 obtain ⟨l', hp, -, rfl⟩ := h
 rw [<- hp.length_eq]
 unfold Go.Lib.compact Go.Lib.compactUpTo
 rw [List.length_map]
 exact Nat.le_trans (List.length_filter_le ..) (by simp)
section
variable {n : Nat}
def fnd8 (s : St7) (parts : Int) (cols keys : List Int) : List (List Int) := (srt7 (sel7 s parts [] [])).filter (fits8 cols keys)
theorem fnd8_mem {s : St7} {parts : Int} {cols keys : List Int} : ∀ x ∈ fnd8 s parts cols keys, x ∈ s.rows := fun x hx => sel_mem x ((srt7_perm _).mem_iff.1 (List.mem_filter.1 hx).1)
end
end Go.Proofs.YtechceagghcipabGreatDoor
namespace Go.Proofs.YtechceagghcipabGreatDoor
open Go.RowKit Go.Shelf
def PT (w : World) (T : Nat -> Prop) (g m : Nat) (s : St7) (Y : World) : Prop :=
 ∃ F S : Nat -> Prop, RM Y g F S m s /\ (∀ b, F b ∨ S b -> T b) /\ (∀ b, T b -> w.heap.size <= b /\ b < Y.heap.size) /\ Below w.heap.size w Y
def PX (w : World) (T : Nat -> Prop) (g m : Nat) (s : St7) (Y Y' : World) : Prop := Fr T Y Y' /\ ∃ T' : Nat -> Prop, PT w T' g m s Y' /\ ∀ b, T' b -> T b ∨ Y.heap.size <= b
theorem PT.ok {w : World} {T : Nat -> Prop} {g m : Nat} {s : St7} {Y : World} (h : PT w T g m s Y) : s.Ok := by obtain ⟨F, S, h1, h2, h3, h4⟩ := h; exact h1.ok
theorem PT.t {w : World} {T : Nat -> Prop} {g m : Nat} {s : St7} {Y : World} (h : PT w T g m s Y) : ∀ b, T b -> w.heap.size <= b /\ b < Y.heap.size := by obtain ⟨F, S, h1, h2, h3, h4⟩ := h; exact h3
theorem PT.kr {w : World} {T : Nat -> Prop} {g m : Nat} {s : St7} {Y : World} (h : PT w T g m s Y) : KR w (fun b => b < Y.heap.size /\ ¬ T b) g m s Y := by
 obtain ⟨F, S, h1, h2, h3, h4⟩ := h
 exact ⟨F, S, h1, fun b hb => ⟨(h3 b (h2 b hb)).1, fun hc => hc.2 (h2 b hb)⟩, h4⟩
theorem PT.fr {w : World} {T P : Nat -> Prop} {g m : Nat} {s : St7} {Y Y' : World} (h : PT w T g m s Y) (hf : Fr P Y Y') (hP : ∀ b, P b -> b < Y.heap.size -> w.heap.size <= b /\ ¬ T b) : PT w T g m s Y' := by
 obtain ⟨F, S, h1, h2, h3, h4⟩ := h
 refine ⟨F, S, h1.same hf.size fun b hb hl => hf.block b hl fun hc => (hP b hc hl).2 (h2 b hb), h2, fun b hb => ⟨(h3 b hb).1, Nat.lt_of_lt_of_le (h3 b hb).2 hf.size⟩, h4.trans (Fr.low (Fr.mono hf (Q := fun b => w.heap.size <= b) fun b hl hb => (hP b hb hl).1) h4.size)⟩
theorem PT.below {w : World} {T : Nat -> Prop} {g m : Nat} {s : St7} {Y Y' : World} (h : PT w T g m s Y) (hb : Below Y.heap.size Y Y') : PT w T g m s Y' := h.fr (P := fun _ => False) (Fr.of hb) fun _ h => h.elim
theorem PX.of {w : World} {T : Nat -> Prop} {g m : Nat} {s : St7} {Y Y' : World} (h : KR w (fun b => b < Y.heap.size /\ ¬ T b) g m s Y') (hf : Fx w (fun b => b < Y.heap.size /\ ¬ T b) Y Y') : PX w T g m s Y Y' := by
 obtain ⟨F, S, h1, h2, h3⟩ := h
 have hz := hf.size
 refine ⟨Fr.mono hf fun b hl hb => Classical.byContradiction fun hc => hb.2 ⟨hl, hc⟩, fun b => (T b ∨ Y.heap.size <= b) /\ w.heap.size <= b /\ b < Y'.heap.size, ⟨F, S, h1, fun b hb => ⟨?_, (h2 b hb).1, hb.elim (fun h => (h1.q b h).2) (h1.q2 b)⟩, fun b hb => ⟨hb.2.1, hb.2.2⟩, h3⟩, fun b hb => hb.1⟩
 by_cases hl : Y.heap.size <= b
 ·exact Or.inr hl
 ·exact Or.inl (Classical.byContradiction fun hc => (h2 b hb).2 ⟨by omega, hc⟩)
theorem PT.add {w Y : World} {T : Nat -> Prop} {g m : Nat} {s : St7} {G : Nat -> Prop} {v : Value} {r : List Int} (h : PT w T g m s Y) (hv : Li G Y v r) (he : r.length = s.wd) (hl : r.length <= 10000000000) (hc : s.rows.length < 10000000000) :
  Calls Tryz.prog 36 #[.pointer (some ⟨g, 0, none⟩), v] Y fun e Y' => e = .returned (.tuple #[.bool (decide (r ∉ s.rows)), .int .i64 0]) /\ PX w T g m (ad7 s r) Y Y' := by
 refine (h.kr.add (fun b hb => hb.1) hv he hl hc).mono ?_
 rintro e Y' ⟨rfl, k1, k2⟩
 exact ⟨rfl, PX.of k1 k2⟩
theorem PT.turn {w Y : World} {T : Nat -> Prop} {g m : Nat} {s : St7} (h : PT w T g m s Y) :
  Calls Tryz.prog 41 #[.pointer (some ⟨g, 0, none⟩)] Y fun e Y' => e = .returned (.int .i64 ((s.rows.length : Int) - (s.xf : Int))) /\ PX w T g m (Turn7 s) Y Y' := by
 refine h.kr.turn.mono ?_
 rintro e Y' ⟨rfl, k1, k2⟩
 exact ⟨rfl, PX.of k1 k2⟩
theorem len7_four (s : St7) : len7 s 4 = (s.rows.length : Int) - (s.xf : Int) := by
 unfold len7 sts7
 rw [show hp7 4 1 = false by decide, show hp7 4 2 = false by decide, show hp7 4 4 = true by decide]
 simp [sum7]
theorem txi_at {s : St7} (ho : s.Ok) {i : Nat} {r : List Int} (h : s.rows[i]? = some r) : txi s.rows (tx r) = some i := by
 cases hx : txi s.rows (tx r) with
 | none => exact absurd rfl (txi_none hx r (List.mem_of_getElem? h))
 | some j =>
  obtain ⟨r', h1, h2⟩ := txi_some hx
  have e : r' = r := tx_inj (ho.w r' (List.mem_of_getElem? h1)) (ho.w r (List.mem_of_getElem? h)) h2
  subst e
  obtain ⟨a1, e1⟩ := List.getElem?_eq_some_iff.1 h1
  obtain ⟨a2, e2⟩ := List.getElem?_eq_some_iff.1 h
  have := (List.getElem_inj ho.nd).1 (e1.trans e2.symm)
  rw [this]
theorem part7_at {s : St7} (ho : s.Ok) {i : Nat} {r : List Int} (h : s.rows[i]? = some r) : part7 s r = if i < s.nf then 1 else if i < s.xf then 2 else 4 := by
 unfold part7
 rw [txi_at ho h]
end Go.Proofs.YtechceagghcipabGreatDoor
namespace Go.Proofs.YtechceagghcipabGreatDoor
open Go.RowKit
attribute [local go_sem ↓] Go.wp_at_zero Go.wp_at_succ
def rsel7 (s : St7) (parts : Int) : List (List Int) := (srt7 s.rows).filter fun r => hp7 parts (part7 s r)
end Go.Proofs.YtechceagghcipabGreatDoor
namespace Go.Proofs.YtechceagghcipabGreatDoor
open Go.RowKit
attribute [local go_sem ↓] Go.wp_at_zero Go.wp_at_succ
theorem set_self7 {α : Type} {L : List α} {j : Nat} {x : α} (h : L[j]? = some x) : L.set j x = L := by
 obtain ⟨hl, rfl⟩ := List.getElem?_eq_some_iff.1 h
 exact List.set_getElem_self hl
theorem dropc7 {α : Type} {L : List α} {j : Nat} {x : α} (h : L[j]? = some x) : L.drop j = x :: L.drop (j + 1) := by
 obtain ⟨hl, rfl⟩ := List.getElem?_eq_some_iff.1 h
 exact List.drop_eq_getElem_cons hl
end Go.Proofs.YtechceagghcipabGreatDoor
namespace Go.Proofs.YtechceagghcipabGreatDoor
open Go.RowKit
attribute [local go_sem ↓] Go.wp_at_zero Go.wp_at_succ
theorem row7_ne {w : World} {base base' n n' m m' : Nat} {e e' : TypeId} {v v' : Value} {xs xs' : List Value} (h : w.ownsRow base e n v m xs) (h' : w.ownsRow base' e' n' v' m' xs') (hne : e ≠ e') : ∀ b, v.ownBlock = some b -> v'.ownBlock ≠ some b := fun b hb hb' => by
 obtain ⟨c, hc⟩ := row7_blk h hb
 obtain ⟨c', hc'⟩ := row7_blk h' hb'
 exact hne (hc.ty hc')
theorem cut7 (t : TypeId) (hT : Tryz.prog.underlying t = some (.slice (Tryz.prog.elem t))) (hz : ∀ W, (sizeOf (Tryz.prog.elem t)).run Tryz.prog W = .ok 1 W) (a : Option Addr) {n cap k : Nat} (hk : k <= n) (W : World) : (Instr.sliceAt t (.slice a n cap) (some (.int .i64 (k : Int))) none none).run Tryz.prog W = .ok (.slice (if cap = k then a else a.map (·.add (k * 1))) (n - k) (cap - k)) W := by
 rw [run_sliceAt_slice _ _ _ _ _ _ hT, run_slice_l _ _ _ _ _ hT _ _ (by omega) (by omega), hz]
 simp [Result.andThen, sliced]
theorem cutI7 (a : Option Addr) {n cap k : Nat} (hk : k <= n) (W : World) : (Instr.sliceAt 67 (.slice a n cap) (some (.int .i64 (k : Int))) none none).run Tryz.prog W = .ok (.slice (if cap = k then a else a.map (·.add (k * 1))) (n - k) (cap - k)) W := cut7 _ (by kernel_rfl) (fun W => by kernel_rfl) a hk W
end Go.Proofs.YtechceagghcipabGreatDoor
namespace Go.Proofs.YtechceagghcipabGreatDoor
open Go.RowKit
def en8 (T : List Tm) (t : Tm) : List Tm := if (ix8 T t).isSome then T else T ++ [t]
def ens8 (T L : List Tm) : List Tm := L.foldl en8 T
def nm8 (T L : List Tm) : List Int := L.map fun t => (((ix8 T t).getD 0 : Nat) : Int)
theorem ens8_snoc (T L : List Tm) (t : Tm) : ens8 T (L ++ [t]) = en8 (ens8 T L) t := by simp [ens8]
theorem en8_keep {T : List Tm} {x : Tm} {i : Nat} (t : Tm) (h : ix8 T x = some i) : ix8 (en8 T t) x = some i := by
 unfold en8
 cases ht : ix8 T t with
 | some j => simpa using h
 | none =>
  rw [if_neg (by simp), ix8_snoc T t x ht]
  by_cases e : x = t
  ·subst e; rw [ht] at h; cases h
  ·rw [if_neg e]; exact h
theorem en8_new (T : List Tm) (t : Tm) : ix8 (en8 T t) t = some ((ix8 T t).getD T.length) := by
 unfold en8
 cases ht : ix8 T t with
 | some j => simpa using ht
 | none => rw [if_neg (by simp), ix8_snoc T t t ht, if_pos rfl]; rfl
theorem en8_len (T : List Tm) (t : Tm) : (en8 T t).length <= T.length + 1 := by unfold en8; split <;> simp
theorem ens8_len (L : List Tm) : ∀ T : List Tm, (ens8 T L).length <= T.length + L.length := by
 induction L with
 | nil => intro T; simp [ens8]
 | cons t L ih =>
  intro T
  have h1 := ih (en8 T t)
  have h2 := en8_len T t
  have e : ens8 T (t :: L) = ens8 (en8 T t) L := rfl
  rw [e, List.length_cons]
  omega
theorem ens8_keep {x : Tm} {i : Nat} (L : List Tm) : ∀ T : List Tm, ix8 T x = some i -> ix8 (ens8 T L) x = some i := by
 induction L with
 | nil => intro T h; exact h
 | cons t L ih => intro T h; exact ih _ (en8_keep t h)
theorem ens8_mem (L : List Tm) : ∀ T : List Tm, ∀ t ∈ L, ∃ i, ix8 (ens8 T L) t = some i := by
 induction L with
 | nil => intro T t h; simp at h
 | cons x L ih =>
  intro T t h
  rcases List.mem_cons.1 h with rfl | h
  ·exact ⟨_, ens8_keep L _ (en8_new T t)⟩
  ·exact ih _ t h
theorem nm8_snoc (T L : List Tm) (t : Tm) : nm8 (ens8 T (L ++ [t])) (L ++ [t]) = nm8 (ens8 T L) L ++ [(((ix8 (ens8 T L) t).getD (ens8 T L).length : Nat) : Int)] := by
 rw [ens8_snoc]
 unfold nm8
 rw [List.map_append, List.map_singleton, en8_new]
 congr 1
 apply List.map_congr_left
 intro x hx
 obtain ⟨i, hi⟩ := ens8_mem L T x hx
 rw [en8_keep t hi, hi]
theorem nm8_len (T L : List Tm) : (nm8 T L).length = L.length := by simp [nm8]
def PB8 (g : Nat) (tv : Value) (mn : Nat) (b : Nat) : Prop := b = g ∨ tv.ownBlock = some b ∨ b = mn
theorem Mq.notcells {P : Program} {k : TypeId} {κ : Type} {K : Ky P k κ} {w : World} {b n : Nat} {f : κ -> Option Value} (h : Mq K w b n f) {c : Array Value} {t : TypeId} (h' : Bk w b c t) : False := by
 obtain ⟨D, ⟨es, clock, h1, -⟩, -⟩ := h.ex
 unfold Bk at h'
 rw [h1] at h'
 cases h'
theorem TB8.apart {g : Nat} {tv : Value} {mn : Nat} {rm : Value} {T : List Tm} {Y : World} (h : TB8 g tv mn rm T Y) {base n m : Nat} {v : Value} {xs : List Value} (h' : Y.ownsRow base 3 n v m xs) : ∀ b, v.ownBlock = some b -> ¬ PB8 g tv mn b := fun b hb hp => by
 rcases hp with rfl | hp | rfl
 ·obtain ⟨c, hc⟩ := row7_blk h' hb
  exact absurd (hc.ty h.b) (by decide)
 ·exact row7_ne h' h.o (by decide) b hb hp
 ·obtain ⟨c, hc⟩ := row7_blk h' hb
  exact h.n.notcells hc
theorem TB8.lt {g : Nat} {tv : Value} {mn : Nat} {rm : Value} {T : List Tm} {Y : World} (h : TB8 g tv mn rm T Y) {b : Nat} (hb : PB8 g tv mn b) : b < Y.heap.size := by
 rcases hb with rfl | hb | rfl
 ·exact h.b.lt
 ·exact (h.o.lt b hb).2
 ·exact h.n.lt
structure NW8 (g mn : Nat) (rm tv lv : Value) (T L : List Tm) (Y : World) (j : Nat) (tj rv : Value) (w : World) : Prop where
 t : TB8 g tj mn rm (ens8 T (L.take j)) w
 r : OwI w Y.heap.size rv (nm8 (ens8 T (L.take j)) (L.take j))
 l : OwnT w Y.heap.size lv L
 f : Fr (PB8 g tv mn) Y w
 a : ∀ b, tj.ownBlock = some b -> lv.ownBlock ≠ some b /\ (tv.ownBlock = some b ∨ Y.heap.size <= b)
section
variable {g mn : Nat} {rm tv lv : Value} {T L : List Tm} {Y : World} {j : Nat} {tj rv : Value} {w : World}
theorem NW8.below (h : NW8 g mn rm tv lv T L Y j tj rv w) {w' : World} (hb : Below w.heap.size w w') : NW8 g mn rm tv lv T L Y j tj rv w' :=
 ⟨h.t.below hb, row7_below h.r hb, row7_below h.l hb, h.f.then hb, h.a⟩
theorem NW8.zero (h : TB8 g tv mn rm T Y) (hl : OwnT w Y.heap.size lv L) (hb : Below Y.heap.size Y w) : NW8 g mn rm tv lv T L Y 0 tv (.slice none 0 0) w :=
 ⟨h.below hb, OwI.nil _ _, hl, Fr.of hb, fun b hb => ⟨fun e => by have := (h.o.lt b hb).2; have := (hl.lt b e).1; omega, Or.inl hb⟩⟩
theorem NW8.lap (h : NW8 g mn rm tv lv T L Y j tj rv w) (hy : g < Y.heap.size /\ mn < Y.heap.size) : ∀ b, lv.ownBlock = some b -> ¬ PB8 g tj mn b := fun b hb hp => by
 have h1 := (h.l.lt b hb).1
 rcases hp with rfl | hp | rfl
 ·omega
 ·exact (h.a b hp).1 hb
 ·omega
theorem NW8.next (h : NW8 g mn rm tv lv T L Y j tj rv w) (hy : g < Y.heap.size /\ mn < Y.heap.size) {t : Tm} (ht : L[j]? = some t) {tj' : Value} {T' : List Tm} {U : World} (hT : TB8 g tj' mn rm T' U) (e : T' = en8 (ens8 T (L.take j)) t) (hf : Fr (PB8 g tj mn) w U)
  (ha : ∀ b, tj'.ownBlock = some b -> tj.ownBlock = some b ∨ w.heap.size <= b) : OwI U Y.heap.size rv (nm8 (ens8 T (L.take j)) (L.take j)) ∧
  ∀ (rv' : Value) (U2 : World) (x : Int), x = (((ix8 (ens8 T (L.take j)) t).getD (ens8 T (L.take j)).length : Nat) : Int) -> U2.ownsRow Y.heap.size 3 1 rv' ((nm8 (ens8 T (L.take j)) (L.take j)).length + 1) (ibs7 (nm8 (ens8 T (L.take j)) (L.take j)) ++ [.int .i64 x]) -> Fr (fun b => rv.ownBlock = some b) U U2 -> NW8 g mn rm tv lv T L Y (j + 1) tj' rv' U2 := by
 have hr := row7_fr h.r hf (fun b hb => h.t.apart h.r b hb)
 have hl := row7_fr h.l hf (h.lap hy)
 have hfu : Fr (PB8 g tv mn) Y U := h.f.trans hf fun b hb hp => by
  rcases hp with rfl | hp | rfl
  ·exact Or.inl rfl
  ·rcases (h.a b hp).2 with q | q
   ·exact Or.inr (Or.inl q)
   ·omega
  ·exact Or.inr (Or.inr rfl)
 refine ⟨hr, fun rv' U2 x hx ho hg => ?_⟩
 have et : L.take (j + 1) = L.take j ++ [t] := by rw [List.take_add_one, ht]; rfl
 refine ⟨?_, ?_, ?_, ?_, fun b hb => ?_⟩
 ·rw [et, ens8_snoc, <- e]
  exact hT.fr hg fun b hb hq => hT.apart hr b hq hb
 ·rw [et, nm8_snoc, <- hx]
  exact OwI.snoc ho
 ·exact row7_fr hl hg fun b hb hq => row7_ne hr hl (by decide) b hq hb
 ·exact hfu.trans hg fun b hb hq => absurd ((h.r.lt b hq).1) (by omega)
 ·rcases ha b hb with q | q
  ·exact h.a b q
  ·exact ⟨fun e => by have := (h.l.lt b e).2; omega, Or.inr (by have := h.f.size; omega)⟩
end
end Go.Proofs.YtechceagghcipabGreatDoor
namespace Go.Proofs.YtechceagghcipabGreatDoor
open Go.RowKit
attribute [local go_sem ↓] Go.wp_at_zero Go.wp_at_succ
def Nr8 (g : Nat) (tv : Value) (mn : Nat) (rm : Value) (T L : List Tm) (Y : World) (e : Ending) (Y' : World) : Prop :=
 ∃ tv' rv, e = .returned rv /\ TB8 g tv' mn rm (ens8 T L) Y' /\ OwI Y' Y.heap.size rv (nm8 (ens8 T L) L) /\ Fr (PB8 g tv mn) Y Y' /\ ∀ b, tv'.ownBlock = some b -> tv.ownBlock = some b ∨ Y.heap.size <= b
set_option maxRecDepth 20000 in
set_option maxHeartbeats 2000000 in
theorem newRow8_any (g : Nat) (tv : Value) (mn : Nat) (rm : Value) (T : List Tm) (a : At) (x : Value) (Y : World) (h : TB8 g tv mn rm T Y) (hx : TsP Y x a.args) (hk : ∀ t ∈ a.pl, KeyT t) (hl : T.length + a.pl.length <= 1000000000) :
  Calls Tryz.prog 33 #[.pointer (some ⟨g, 0, none⟩), a.v x] Y (Nr8 g tv mn rm T a.pl Y) := by
 have hb0 := below1 Y (.cells #[.int .i64 a.by_.k, .int .i64 a.by_.n, .string a.by_.s, .string a.name, x] 33)
 have hm : a.args.length <= 100000000000 := by have : a.pl.length = a.args.length + 1 := rfl; omega
 have HTM : Hid (∀ X : World, Below Y.heap.size Y X -> Calls Tryz.prog 63 #[a.v x] X fun e Y' => ∃ v, e = .returned v /\ OwnT Y' X.heap.size v a.pl /\ Below X.heap.size X Y') := fun X hX => terms8_any a x X (hx.later hX) hm
 have HYG := hm7 (And.intro h.b.lt h.n.lt)
 have H := hm7 h
 have HX0 := Bk.new Y #[.int .i64 a.by_.k, .int .i64 a.by_.n, .string a.by_.s, .string a.name, x] 33
 have q0 := HX0.cell (i := 0) rfl
 have q1 := HX0.cell (i := 1) rfl
 have q2 := HX0.cell (i := 2) rfl
 have q3 := HX0.cell (i := 3) rfl
 have q4 := HX0.cell (i := 4) rfl
 have HB0 := hm7 hb0
 obtain ⟨L, hL⟩ : ∃ L, a.pl = L := ⟨_, rfl⟩
 obtain ⟨n, hn⟩ : ∃ n, L.length = n := ⟨_, rfl⟩
 rw [hL] at HTM hl hk ⊢
 have HN := hm7 hn
 rw [hn] at hl
 obtain ⟨ax, cx, rfl⟩ := hx.shape
 clear h hb0 HX0 hx hm
 obtain ⟨⟨k, m, s⟩, nm, l⟩ := a
 clear hL
 go_enter Tryz.func33, Tryz.ntmps33
 go_wp2_with (go_at_call 63; refine (HTM.out _ HB0.out).mono ?_; clear HTM; rintro e w1 ⟨lv, rfl, ho, hb⟩; obtain ⟨la, lc, elv, -⟩ := row7_form ho; rw [HN.out] at elv; subst elv; have HL1 := hm7 (ho.mono (b' := Y.heap.size) HB0.out.size); have HB1 := hm7 (below_step HB0.out hb); clear ho hb)
 go_loopg [11, 5] n (fun gg i rv wr => ∃ (j : Nat) (tj : Value), j + gg = n /\ i = .int .i64 j /\ NW8 g mn rm tv (.slice la n lc) T L Y j tj rv wr)
 case atStart => exact ⟨0, tv, by omega, rfl, NW8.zero H.out HL1.out HB1.out⟩
 case round =>
  obtain ⟨j, tj, hj, rfl, hw⟩ := hrel
  have HNW := hm7 hw
  cases gk with
  | succ gg =>
   have hlt : (j : Int) < (n : Int) := by omega
   have j0 : (0 : Int) <= (j : Int) := by omega
   obtain ⟨t, ht⟩ : ∃ t, L[j]? = some t := ⟨_, List.getElem?_eq_getElem (by have := HN.out; omega)⟩
   obtain ⟨tk, tn, ts⟩ := t
   have HT := hm7 ht
   have HKT := hm7 (hk _ (List.mem_of_getElem? ht))
   obtain ⟨ra, rc, erv, -⟩ := row7_form hw.r
   obtain ⟨rn, hrn⟩ : ∃ rn, (nm8 (ens8 T (L.take j)) (L.take j)).length = rn := ⟨_, rfl⟩
   rw [hrn] at erv
   subst erv
   have HRN := hm7 hrn
   have HRJ : Hid (rn = j) := by show _ = _; rw [<- hrn, nm8_len, List.length_take]; have := HN.out; omega
   have HLT : Hid ((ens8 T (L.take j)).length < 1000000000) := by show _ < _; have := ens8_len (L.take j) T; rw [List.length_take] at this; have := HN.out; omega
   have HWL := hm7 (fun b (hb : PB8 g tj mn b) => hw.t.lt hb)
   obtain ⟨gl, hgl⟩ : ∃ gl, la = some ⟨gl, 0, none⟩ := by
    rcases hw.l.2 with ⟨h1, h2⟩ | ⟨G, cap', cur, hv, -⟩
    ·simp only [Value.slice.injEq] at h1; omega
    ·simp only [Value.slice.injEq] at hv; exact ⟨G, hv.1⟩
   subst hgl
   obtain ⟨c0, c1, c2⟩ := ownT_cells hw.l j _ ht
   have HW1 : Hid (Bk _ _ _ _) := Bk.new wr #[.int .i64 tk, .int .i64 tn, .string ts] 30
   have HN1 := hm7 (hw.below (below1 wr (.cells #[.int .i64 tk, .int .i64 tn, .string ts] 30)))
   clear hw ht hrn
   go_upto_region 5 with fail
   generalize wr.alloc (.cells #[.int .i64 tk, .int .i64 tn, .string ts] 30) = W1 at *
   refine wp_region_held_drew (S := fun w' => Bk w' wr.heap.size #[.int .i64 tk, .int .i64 tn, .string ts] 30) (by kernel_rfl) (by exact HW1.out) (fun hH => ?_)
   have HNV : Hid (NW8 g mn rm tv (.slice (some ⟨gl, 0, none⟩) n lc) T L Y j tj (.slice ra rn rc) W1.drew) := HN1.out.below (by exact (Below.refl _ _).drew)
   have HSV := hm7 (show wr.heap.size < W1.drew.heap.size from HW1.out.lt)
   generalize W1.drew = V0 at *
   clear HW1 HN1
   refine wTl 0 (.slice ra rn rc) rfl (by kernel_rfl) (fun _ _ _ h => h) rfl (fun w' h => by clear h; go_simp) hH ?_
   simp only [wA, wB, wC, wD]
   refine wTl 1 (.pointer (some ⟨g, 0, none⟩)) rfl (by kernel_rfl) (fun _ _ _ h => h) rfl (fun w' h => by clear h; go_simp) hH ?_
   simp only [wA, wB, wC, wD]
   refine wTl 2 (.pointer (some ⟨g, 0, none⟩)) rfl (by kernel_rfl) (fun _ _ _ h => h) rfl (fun w' h => by clear h; go_simp) hH ?_
   simp only [wA, wB, wC, wD]
   refine wTl 3 (.pointer (some ⟨g, 0, none⟩)) rfl (by kernel_rfl) (fun _ _ _ h => h) rfl (fun w' h => by clear h; go_simp) hH ?_
   simp only [wA, wB, wC, wD]
   refine wTl 4 (.agg #[.int .i64 tk, .int .i64 tn, .string ts]) rfl (by kernel_rfl) (fun _ _ _ h => h) rfl (fun w' h => by have q0 := h.cell (i := 0) rfl; have q1 := h.cell (i := 1) rfl; have q2 := h.cell (i := 2) rfl; clear h; go_simp) hH ?_
   simp only [wA, wB, wC, wD]
   refine wRd 5 (by kernel_rfl) rfl (fun K hK => ?_)
   go_simp
   refine (enter8_any g tj mn rm _ ⟨tk, tn, ts⟩ V0 HNV.out.t HKT.out HLT.out).mono ?_
   rintro e U ⟨tj', T', rfl, hT, eT, hf, ha⟩
   obtain ⟨ho1, hnx⟩ := HNV.out.next HYG.out HT.out hT eT hf ha
   have HO1 := hm7 ho1
   have HNX := hm7 hnx
   have HSU := hm7 (show Y.heap.size <= U.heap.size from Nat.le_trans HNV.out.f.size hf.size)
   refine hK.out _ _ (hH.fr hf fun hp => by have := HWL.out _ hp; omega) (fun hH => ?_)
   clear hK K hT eT hf ha ho1 hnx
   obtain ⟨x, hx⟩ : ∃ x : Int, (((ix8 (ens8 T (L.take j)) ⟨tk, tn, ts⟩).getD (ens8 T (L.take j)).length : Nat) : Int) = x := ⟨_, rfl⟩
   have HXX := hm7 hx
   simp only [hx]
   clear hx
   try simp only [wA, wB, wC, wD]
   refine wRd 6 (by kernel_rfl) rfl (fun K hK => ?_)
   go_simp
   refine hK.out _ _ (hH.below (below1 _ _)) (fun hH => ?_)
   clear hK K
   try simp only [wA, wB, wC, wD]
   refine wRd 7 (by kernel_rfl) rfl (fun K hK => ?_)
   refine gstep Tryz.underlying67 Tryz.infoInt7 rfl (by omega) rfl _ _ rfl Y.heap.size (.slice ra rn rc) rn (ibs7 (nm8 (ens8 T (L.take j)) (L.take j))) (by rfl) (row7_below (show U.ownsRow Y.heap.size 3 1 (.slice ra rn rc) rn (ibs7 (nm8 (ens8 T (L.take j)) (L.take j))) by have h9 := HO1.out; unfold OwI at h9; rw [HRN.out] at h9; exact h9) (below1 _ _)) U.heap.size (.int .i64 x) (by rfl) (Bk.new _ _ _) rfl (by have := HRJ.out; omega) (by have := HSU.out; simp; omega) ?_
   intro g2 c2 U2 ho hg hv hl2
   have HN2 : Hid (NW8 g mn rm tv (.slice (some ⟨gl, 0, none⟩) n lc) T L Y (j + 1) tj' (.slice (some ⟨g2, 0, none⟩) (rn + 1) c2) U2) := HNX.out _ _ _ HXX.out.symm (by rw [HRN.out]; exact ho) ((Fr.of (below1 _ _)).tr (Fr.grown hg fun b hb => hb))
   refine hK.out _ _ (hH.fr (Fr.grown (P := fun b => (Value.slice ra rn rc).ownBlock = some b) hg fun b hb => hb) (fun e => by have := (HNW.out.r.lt _ e).2; omega)) (fun hH => ?_)
   clear hK K ho hg hv hl2
   try simp only [wA, wB, wC, wD]
   refine wTl 8 (.slice (some ⟨g2, 0, none⟩) (rn + 1) c2) rfl (by kernel_rfl) (fun _ _ _ h => h) rfl (fun w' h => by clear h; go_simp) hH ?_
   simp only [wA, wB, wC, wD]
   refine wpAnyH_done (by kernel_rfl) ?_ _
   clear hH
   go_wp2
   go_roundg gg
   case measure => omega
   case rel => exact ⟨j + 1, tj', by omega, by go_num, HN2.out⟩
  | zero =>
   have hlt : ¬ (j : Int) < (n : Int) := by omega
   obtain rfl : j = n := by omega
   clear hw
   go_wp2
   go_ret
   have := HNW.out
   refine ⟨tj, _, rfl, ?_, ?_, this.f, fun b hb => (this.a b hb).2⟩
   ·have q := this.t; rw [List.take_of_length_le (by have := HN.out; omega)] at q; exact q
   ·have q := this.r; rw [List.take_of_length_le (by have := HN.out; omega)] at q; exact q
end Go.Proofs.YtechceagghcipabGreatDoor

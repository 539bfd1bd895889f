import Derived.Test.YtechceagghcipaaGreatB2
import Derived.Test.YtechceagghcipaaGreatRA19
import Derived.Laws.Cover1
import Derived.Deep.QuietTactic
import Derived.BigQuiet
import Derived.Laws.CopyOwn
import Derived.Maps.AppendAt
import Derived.Laws.OwnMore
import Derived.Test.YtechceagghcipaaGreatRA7
import Derived.Test.YtechceagghcipaaGreatEB6
import Derived.Test.YtechceagghcipaaGreatRA41
/-
  law 7: a range over what Find answers, beside a relation of the call's own.
-/
namespace Go.Proofs.YtechceagghcipaaGreat
open Go.RowKit Go.Shelf

section
variable {n : Nat}
end
theorem RM.up {w : World} {g : Nat} {F S : Nat → Prop} {m m' : Nat} {s : St7} (h : RM w g F S m s) (hm : m ≤ m') : RM w g F S m' s := by
  obtain ⟨rv, rvs, mp, mx, nx, t, f, hn, h⟩ := h
  exact ⟨rv, rvs, mp, mx, nx, t, f, Nat.le_trans hn hm, h⟩
theorem nat7_of {wd : Nat} {l : List (Int × Int)} (h : ∀ p ∈ l, col7 wd p.1 = true) : nat7 (l.map fun p => p.1.toNat) = l.map Prod.fst := by
  unfold nat7
  rw [List.map_map]
  apply List.map_congr_left
  intro p hp
  have := h p hp
  rw [col7, decide_eq_true_eq] at this
  simp only [Function.comp]
  omega
theorem unq7_len {z l : List (Int × Int)} (h : unq7 z l) : l.length ≤ z.length := by
  obtain ⟨l', hp, -, rfl⟩ := h
  rw [← hp.length_eq]
  unfold Go.Lib.compact Go.Lib.compactUpTo
  rw [List.length_map]
  exact Nat.le_trans (List.length_filter_le ..) (by simp)
section
variable {n : Nat}
/-- What Find by these columns hands out. -/
def fnd8 (s : St7) (parts : Int) (cols keys : List Int) : List (List Int) := (srt7 (sel7 s parts [] [])).filter (fits8 cols keys)
theorem fnd8_mem {s : St7} {parts : Int} {cols keys : List Int} : ∀ x ∈ fnd8 s parts cols keys, x ∈ s.rows := fun x hx => sel_mem x ((srt7_perm _).mem_iff.1 (List.mem_filter.1 hx).1)
end
end Go.Proofs.YtechceagghcipaaGreat
/-
  law 7: a relation and the blocks that are its own; what RelParts asks (plain).
-/
namespace Go.Proofs.YtechceagghcipaaGreat
open Go.RowKit Go.Shelf

/-- A relation of the call's own, that lies in the blocks of T. -/
def PT (w : World) (T : Nat → Prop) (g m : Nat) (s : St7) (Y : World) : Prop :=
  ∃ F S : Nat → Prop, RM Y g F S m s ∧ (∀ b, F b ∨ S b → T b) ∧ (∀ b, T b → w.heap.size ≤ b ∧ b < Y.heap.size) ∧ Below w.heap.size w Y
/-- What a call leaves of it: only its own blocks are written, and what it takes besides is new. -/
def PX (w : World) (T : Nat → Prop) (g m : Nat) (s : St7) (Y Y' : World) : Prop := Fr T Y Y' ∧ ∃ T' : Nat → Prop, PT w T' g m s Y' ∧ ∀ b, T' b → T b ∨ Y.heap.size ≤ b
theorem PT.ok {w : World} {T : Nat → Prop} {g m : Nat} {s : St7} {Y : World} (h : PT w T g m s Y) : s.Ok := by obtain ⟨F, S, h1, h2, h3, h4⟩ := h; exact h1.ok
theorem PT.t {w : World} {T : Nat → Prop} {g m : Nat} {s : St7} {Y : World} (h : PT w T g m s Y) : ∀ b, T b → w.heap.size ≤ b ∧ b < Y.heap.size := by obtain ⟨F, S, h1, h2, h3, h4⟩ := h; exact h3
theorem PT.kr {w : World} {T : Nat → Prop} {g m : Nat} {s : St7} {Y : World} (h : PT w T g m s Y) : KR w (fun b => b < Y.heap.size ∧ ¬ T b) g m s Y := by
  obtain ⟨F, S, h1, h2, h3, h4⟩ := h
  exact ⟨F, S, h1, fun b hb => ⟨(h3 b (h2 b hb)).1, fun hc => hc.2 (h2 b hb)⟩, h4⟩
theorem PT.fr {w : World} {T P : Nat → Prop} {g m : Nat} {s : St7} {Y Y' : World} (h : PT w T g m s Y) (hf : Fr P Y Y') (hP : ∀ b, P b → b < Y.heap.size → w.heap.size ≤ b ∧ ¬ T b) : PT w T g m s Y' := by
  obtain ⟨F, S, h1, h2, h3, h4⟩ := h
  refine ⟨F, S, h1.same hf.size fun b hb hl => hf.block b hl fun hc => (hP b hc hl).2 (h2 b hb), h2, fun b hb => ⟨(h3 b hb).1, Nat.lt_of_lt_of_le (h3 b hb).2 hf.size⟩, h4.trans (Fr.low (Fr.mono hf (Q := fun b => w.heap.size ≤ b) fun b hl hb => (hP b hb hl).1) h4.size)⟩
theorem PT.below {w : World} {T : Nat → Prop} {g m : Nat} {s : St7} {Y Y' : World} (h : PT w T g m s Y) (hb : Below Y.heap.size Y Y') : PT w T g m s Y' := h.fr (P := fun _ => False) (Fr.of hb) fun _ h => h.elim
theorem PX.of {w : World} {T : Nat → Prop} {g m : Nat} {s : St7} {Y Y' : World} (h : KR w (fun b => b < Y.heap.size ∧ ¬ T b) g m s Y') (hf : Fx w (fun b => b < Y.heap.size ∧ ¬ T b) Y Y') : PX w T g m s Y Y' := by
  obtain ⟨F, S, h1, h2, h3⟩ := h
  have hz := hf.size
  refine ⟨Fr.mono hf fun b hl hb => Classical.byContradiction fun hc => hb.2 ⟨hl, hc⟩, fun b => (T b ∨ Y.heap.size ≤ b) ∧ w.heap.size ≤ b ∧ b < Y'.heap.size, ⟨F, S, h1, fun b hb => ⟨?_, (h2 b hb).1, hb.elim (fun h => (h1.q b h).2) (h1.q2 b)⟩, fun b hb => ⟨hb.2.1, hb.2.2⟩, h3⟩, fun b hb => hb.1⟩
  by_cases hl : Y.heap.size ≤ b
  · exact Or.inr hl
  · exact Or.inl (Classical.byContradiction fun hc => (h2 b hb).2 ⟨by omega, hc⟩)
theorem PT.add {w Y : World} {T : Nat → Prop} {g m : Nat} {s : St7} {G : Nat → Prop} {v : Value} {r : List Int} (h : PT w T g m s Y) (hv : Li G Y v r) (he : r.length = s.wd) (hl : r.length ≤ 10000000000) (hc : s.rows.length < 10000000000) :
    Calls Tryz.prog 49 #[.pointer (some ⟨g, 0, none⟩), v] Y fun e Y' => e = .returned (.tuple #[.bool (decide (r ∉ s.rows)), .int .i64 0]) ∧ PX w T g m (ad7 s r) Y Y' := by
  refine (h.kr.add (fun b hb => hb.1) hv he hl hc).mono ?_
  rintro e Y' ⟨rfl, k1, k2⟩
  exact ⟨rfl, PX.of k1 k2⟩
theorem PT.turn {w Y : World} {T : Nat → Prop} {g m : Nat} {s : St7} (h : PT w T g m s Y) :
    Calls Tryz.prog 53 #[.pointer (some ⟨g, 0, none⟩)] Y fun e Y' => e = .returned (.int .i64 ((s.rows.length : Int) - (s.xf : Int))) ∧ PX w T g m (Turn7 s) Y Y' := by
  refine h.kr.turn.mono ?_
  rintro e Y' ⟨rfl, k1, k2⟩
  exact ⟨rfl, PX.of k1 k2⟩
theorem len7_four (s : St7) : len7 s 4 = (s.rows.length : Int) - (s.xf : Int) := by
  unfold len7 sts7
  rw [show hp7 4 1 = false by decide, show hp7 4 2 = false by decide, show hp7 4 4 = true by decide]
  simp [sum7]
/-- Where a row stands. -/
theorem txi_at {s : St7} (ho : s.Ok) {i : Nat} {r : List Int} (h : s.rows[i]? = some r) : txi s.rows (tx r) = some i := by
  cases hx : txi s.rows (tx r) with
  | none => exact absurd rfl (txi_none hx r (List.mem_of_getElem? h))
  | some j =>
    obtain ⟨r', h1, h2⟩ := txi_some hx
    have e : r' = r := tx_inj (ho.w r' (List.mem_of_getElem? h1)) (ho.w r (List.mem_of_getElem? h)) h2
    subst e
    obtain ⟨a1, e1⟩ := List.getElem?_eq_some_iff.1 h1
    obtain ⟨a2, e2⟩ := List.getElem?_eq_some_iff.1 h
    have := (List.getElem_inj ho.nd).1 (e1.trans e2.symm)
    rw [this]
theorem part7_at {s : St7} (ho : s.Ok) {i : Nat} {r : List Int} (h : s.rows[i]? = some r) : part7 s r = if i < s.nf then 1 else if i < s.xf then 2 else 4 := by
  unfold part7
  rw [txi_at ho h]
end Go.Proofs.YtechceagghcipaaGreat
/-
  ref 7: fits, Rows, Len.
-/
namespace Go.Proofs.YtechceagghcipaaGreat
open Go.RowKit
attribute [local go_sem ↓] Go.wp_at_zero Go.wp_at_succ

/-- The document's rows of these parts. -/
def rsel7 (s : St7) (parts : Int) : List (List Int) := (srt7 s.rows).filter fun r => hp7 parts (part7 s r)
end Go.Proofs.YtechceagghcipaaGreat
/-
  ref 7: Add.
-/
namespace Go.Proofs.YtechceagghcipaaGreat
open Go.RowKit
attribute [local go_sem ↓] Go.wp_at_zero Go.wp_at_succ

theorem row7_ne {w : World} {base base' n n' m m' : Nat} {e e' : TypeId} {v v' : Value} {xs xs' : List Value} (h : w.ownsRow base e n v m xs) (h' : w.ownsRow base' e' n' v' m' xs') (hne : e ≠ e') : ∀ b, v.ownBlock = some b → v'.ownBlock ≠ some b := fun b hb hb' => by
  obtain ⟨c, hc⟩ := row7_blk h hb
  obtain ⟨c', hc'⟩ := row7_blk h' hb'
  exact hne (hc.ty hc')
theorem cut7 (t : TypeId) (hT : Tryz.prog.underlying t = some (.slice (Tryz.prog.elem t))) (hz : ∀ W, (sizeOf (Tryz.prog.elem t)).run Tryz.prog W = .ok 1 W) (a : Option Addr) {n cap k : Nat} (hk : k ≤ n) (W : World) : (Instr.sliceAt t (.slice a n cap) (some (.int .i64 (k : Int))) none none).run Tryz.prog W = .ok (.slice (if cap = k then a else a.map (·.add (k * 1))) (n - k) (cap - k)) W := by
  rw [run_sliceAt_slice _ _ _ _ _ _ hT, run_slice_l _ _ _ _ _ hT _ _ (by omega) (by omega), hz]
  simp [Result.andThen, sliced]
theorem cutI7 (a : Option Addr) {n cap k : Nat} (hk : k ≤ n) (W : World) : (Instr.sliceAt 53 (.slice a n cap) (some (.int .i64 (k : Int))) none none).run Tryz.prog W = .ok (.slice (if cap = k then a else a.map (·.add (k * 1))) (n - k) (cap - k)) W := cut7 _ (by kernel_rfl) (fun W => by kernel_rfl) a hk W
end Go.Proofs.YtechceagghcipaaGreat
/-
  base: how far a new row has come (newRow).
-/
namespace Go.Proofs.YtechceagghcipaaGreat
open Go.RowKit

def en8 (T : List Tm) (t : Tm) : List Tm := if (ix8 T t).isSome then T else T ++ [t]
def ens8 (T L : List Tm) : List Tm := L.foldl en8 T
def nm8 (T L : List Tm) : List Int := L.map fun t => (((ix8 T t).getD 0 : Nat) : Int)
theorem ens8_snoc (T L : List Tm) (t : Tm) : ens8 T (L ++ [t]) = en8 (ens8 T L) t := by simp [ens8]
theorem en8_keep {T : List Tm} {x : Tm} {i : Nat} (t : Tm) (h : ix8 T x = some i) : ix8 (en8 T t) x = some i := by
  unfold en8
  cases ht : ix8 T t with
  | some j => simpa using h
  | none =>
    rw [if_neg (by simp), ix8_snoc T t x ht]
    by_cases e : x = t
    · subst e; rw [ht] at h; cases h
    · rw [if_neg e]; exact h
theorem en8_new (T : List Tm) (t : Tm) : ix8 (en8 T t) t = some ((ix8 T t).getD T.length) := by
  unfold en8
  cases ht : ix8 T t with
  | some j => simpa using ht
  | none => rw [if_neg (by simp), ix8_snoc T t t ht, if_pos rfl]; rfl
theorem en8_len (T : List Tm) (t : Tm) : (en8 T t).length ≤ T.length + 1 := by unfold en8; split <;> simp
theorem ens8_len (L : List Tm) : ∀ T : List Tm, (ens8 T L).length ≤ T.length + L.length := by
  induction L with
  | nil => intro T; simp [ens8]
  | cons t L ih =>
    intro T
    have h1 := ih (en8 T t)
    have h2 := en8_len T t
    have e : ens8 T (t :: L) = ens8 (en8 T t) L := rfl
    rw [e, List.length_cons]
    omega
theorem ens8_keep {x : Tm} {i : Nat} (L : List Tm) : ∀ T : List Tm, ix8 T x = some i → ix8 (ens8 T L) x = some i := by
  induction L with
  | nil => intro T h; exact h
  | cons t L ih => intro T h; exact ih _ (en8_keep t h)
theorem ens8_mem (L : List Tm) : ∀ T : List Tm, ∀ t ∈ L, ∃ i, ix8 (ens8 T L) t = some i := by
  induction L with
  | nil => intro T t h; simp at h
  | cons x L ih =>
    intro T t h
    rcases List.mem_cons.1 h with rfl | h
    · exact ⟨_, ens8_keep L _ (en8_new T t)⟩
    · exact ih _ t h
theorem nm8_snoc (T L : List Tm) (t : Tm) : nm8 (ens8 T (L ++ [t])) (L ++ [t]) = nm8 (ens8 T L) L ++ [(((ix8 (ens8 T L) t).getD (ens8 T L).length : Nat) : Int)] := by
  rw [ens8_snoc]
  unfold nm8
  rw [List.map_append, List.map_singleton, en8_new]
  congr 1
  apply List.map_congr_left
  intro x hx
  obtain ⟨i, hi⟩ := ens8_mem L T x hx
  rw [en8_keep t hi, hi]
theorem nm8_len (T L : List Tm) : (nm8 T L).length = L.length := by simp [nm8]
/-- The blocks of a base's table. -/
def PB8 (g : Nat) (tv : Value) (mn : Nat) (b : Nat) : Prop := b = g ∨ tv.ownBlock = some b ∨ b = mn
theorem Mq.notcells {P : Program} {k : TypeId} {κ : Type} {K : Ky P k κ} {w : World} {b n : Nat} {f : κ → Option Value} (h : Mq K w b n f) {c : Array Value} {t : TypeId} (h' : Bk w b c t) : False := by
  obtain ⟨D, ⟨es, clock, h1, -⟩, -⟩ := h.ex
  unfold Bk at h'
  rw [h1] at h'
  cases h'
theorem TB8.apart {g : Nat} {tv : Value} {mn : Nat} {rm : Value} {T : List Tm} {Y : World} (h : TB8 g tv mn rm T Y) {base n m : Nat} {v : Value} {xs : List Value} (h' : Y.ownsRow base 3 n v m xs) : ∀ b, v.ownBlock = some b → ¬ PB8 g tv mn b := fun b hb hp => by
  rcases hp with rfl | hp | rfl
  · obtain ⟨c, hc⟩ := row7_blk h' hb
    exact absurd (hc.ty h.b) (by decide)
  · exact row7_ne h' h.o (by decide) b hb hp
  · obtain ⟨c, hc⟩ := row7_blk h' hb
    exact h.n.notcells hc
theorem TB8.lt {g : Nat} {tv : Value} {mn : Nat} {rm : Value} {T : List Tm} {Y : World} (h : TB8 g tv mn rm T Y) {b : Nat} (hb : PB8 g tv mn b) : b < Y.heap.size := by
  rcases hb with rfl | hb | rfl
  · exact h.b.lt
  · exact (h.o.lt b hb).2
  · exact h.n.lt
/-- How far a new row has come: j of the terms L. -/
structure NW8 (g mn : Nat) (rm tv lv : Value) (T L : List Tm) (Y : World) (j : Nat) (tj rv : Value) (w : World) : Prop where
  t : TB8 g tj mn rm (ens8 T (L.take j)) w
  r : OwI w Y.heap.size rv (nm8 (ens8 T (L.take j)) (L.take j))
  l : OwnT w Y.heap.size lv L
  f : Fr (PB8 g tv mn) Y w
  a : ∀ b, tj.ownBlock = some b → lv.ownBlock ≠ some b ∧ (tv.ownBlock = some b ∨ Y.heap.size ≤ b)
section
variable {g mn : Nat} {rm tv lv : Value} {T L : List Tm} {Y : World} {j : Nat} {tj rv : Value} {w : World}
theorem NW8.below (h : NW8 g mn rm tv lv T L Y j tj rv w) {w' : World} (hb : Below w.heap.size w w') : NW8 g mn rm tv lv T L Y j tj rv w' :=
  ⟨h.t.below hb, row7_below h.r hb, row7_below h.l hb, h.f.then hb, h.a⟩
theorem NW8.zero (h : TB8 g tv mn rm T Y) (hl : OwnT w Y.heap.size lv L) (hb : Below Y.heap.size Y w) : NW8 g mn rm tv lv T L Y 0 tv (.slice none 0 0) w :=
  ⟨h.below hb, OwI.nil _ _, hl, Fr.of hb, fun b hb => ⟨fun e => by have := (h.o.lt b hb).2; have := (hl.lt b e).1; omega, Or.inl hb⟩⟩
/-- The terms' list lies apart from the table. -/
theorem NW8.lap (h : NW8 g mn rm tv lv T L Y j tj rv w) (hy : g < Y.heap.size ∧ mn < Y.heap.size) : ∀ b, lv.ownBlock = some b → ¬ PB8 g tj mn b := fun b hb hp => by
  have h1 := (h.l.lt b hb).1
  rcases hp with rfl | hp | rfl
  · omega
  · exact (h.a b hp).1 hb
  · omega
theorem NW8.next (h : NW8 g mn rm tv lv T L Y j tj rv w) (hy : g < Y.heap.size ∧ mn < Y.heap.size) {t : Tm} (ht : L[j]? = some t) {tj' : Value} {T' : List Tm} {U : World} (hT : TB8 g tj' mn rm T' U) (e : T' = en8 (ens8 T (L.take j)) t) (hf : Fr (PB8 g tj mn) w U)
    (ha : ∀ b, tj'.ownBlock = some b → tj.ownBlock = some b ∨ w.heap.size ≤ b) : OwI U Y.heap.size rv (nm8 (ens8 T (L.take j)) (L.take j)) ∧
    ∀ (rv' : Value) (U2 : World) (x : Int), x = (((ix8 (ens8 T (L.take j)) t).getD (ens8 T (L.take j)).length : Nat) : Int) → U2.ownsRow Y.heap.size 3 1 rv' ((nm8 (ens8 T (L.take j)) (L.take j)).length + 1) (ibs7 (nm8 (ens8 T (L.take j)) (L.take j)) ++ [.int .i64 x]) → Fr (fun b => rv.ownBlock = some b) U U2 → NW8 g mn rm tv lv T L Y (j + 1) tj' rv' U2 := by
  have hr := row7_fr h.r hf (fun b hb => h.t.apart h.r b hb)
  have hl := row7_fr h.l hf (h.lap hy)
  have hfu : Fr (PB8 g tv mn) Y U := h.f.trans hf fun b hb hp => by
    rcases hp with rfl | hp | rfl
    · exact Or.inl rfl
    · rcases (h.a b hp).2 with q | q
      · exact Or.inr (Or.inl q)
      · omega
    · exact Or.inr (Or.inr rfl)
  refine ⟨hr, fun rv' U2 x hx ho hg => ?_⟩
  have et : L.take (j + 1) = L.take j ++ [t] := by rw [List.take_add_one, ht]; rfl
  refine ⟨?_, ?_, ?_, ?_, fun b hb => ?_⟩
  · rw [et, ens8_snoc, ← e]
    exact hT.fr hg fun b hb hq => hT.apart hr b hq hb
  · rw [et, nm8_snoc, ← hx]
    exact OwI.snoc ho
  · exact row7_fr hl hg fun b hb hq => row7_ne hr hl (by decide) b hq hb
  · exact hfu.trans hg fun b hb hq => absurd ((h.r.lt b hq).1) (by omega)
  · rcases ha b hb with q | q
    · exact h.a b q
    · exact ⟨fun e => by have := (h.l.lt b e).2; omega, Or.inr (by have := h.f.size; omega)⟩
end
end Go.Proofs.YtechceagghcipaaGreat

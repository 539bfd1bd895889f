import Derived.Test.YtechceagghcipaaGreatDoorRA9
namespace Go.Proofs.YtechceagghcipaaGreatDoor
open Go.RowKit

def fput (f : ByteArray -> Nat -> Prop) (k : ByteArray) (p : Nat -> Prop) : ByteArray -> Nat -> Prop := fun x => if x = k then p else f x
theorem fput_same (f : ByteArray -> Nat -> Prop) (k : ByteArray) (p : Nat -> Prop) : fput f k p k = p := if_pos rfl
theorem fput_other {f : ByteArray -> Nat -> Prop} {k x : ByteArray} {p : Nat -> Prop} (h : x ≠ k) : fput f k p x = f x := if_neg h
theorem nat7_inj {l m : List Nat} (h : nat7 l = nat7 m) : l = m := by
 have h2 : ∀ (l : List Nat), (nat7 l).map Int.toNat = l := fun l => by
  induction l with
  | nil => rfl
  | cons a l ih => simp only [nat7, List.map_cons] at ih ⊢; rw [ih]; simp
 rw [<- h2 l, h, h2]
theorem rx_taken {w V : World} {g : Nat} {F S : Nat -> Prop} {s : St7} {lk : Int} {rv : Value} {rvs : List Value} {mp mx nx : Nat} {t : ByteArray -> Option Value} {f : ByteArray -> Nat -> Prop} {k : ByteArray} {gx : Nat} {cols : List Nat} {f1 : Nat -> Prop} (h : RX w g F S s lk rv rvs mp mx nx t f)
  (hk : t k = some (.pointer (some ⟨gx, 0, none⟩))) (hkc : k = tx (nat7 cols)) (hcl : cols.length <= 10000000000) (hcw : ∀ c ∈ cols, c < s.wd) (hi : IX V gx f1 S s.rows cols s.rows.length) (hf : Fr (f k) w V) (ha : ∀ b, f k b -> f1 b) (hd : ∀ b, f1 b -> f k b ∨ w.heap.size <= b) (hl : ∀ b, f1 b -> b < V.heap.size) :
  RX V g (fun b => F b ∨ f1 b) S s lk rv rvs mp mx nx t (fput f k f1) := by
 have hks : (t k).isSome = true := by rw [hk]; rfl
 have fi := h.Fi k
 have ag : ∀ b, b < w.heap.size -> ¬ f k b -> V.heap[b]? = w.heap[b]? := hf.block
 have nf : ∀ b, f k b -> F b /\ b ≠ g /\ b ≠ mp /\ b ≠ mx /\ rv.ownBlock ≠ some b := fun b hb => fi b hks hb
 have agS : ∀ b, S b -> V.heap[b]? = w.heap[b]? := fun b hS => ag b (h.q2 b hS) fun hb => (h.q b (nf b hb).1).1 hS
 refine ⟨h.ok, (ag g h.b.lt fun hb => (nf g hb).2.1 rfl).trans h.b, ⟨row7 h.r.1 fun b hb => ag b (World.ownsRow.lt h.r.1 b hb).2 fun hc => (nf b hc).2.2.2.2 hb, fun i r hr => ?_⟩, h.p.same (ag mp h.p.lt fun hb => (nf mp hb).2.2.1 rfl), h.x.same (ag mx h.x.lt fun hb => (nf mx hb).2.2.2.1 rfl), fun k' v hv => ?_, Or.inl h.Fg, fun b hb => Or.inl (h.Fr b hb), Or.inl h.Fp, Or.inl h.Fx, fun k' b hk' hb => ?_, fun k1 k2 b hne h1 h2 hb => ?_, fun b hb => ?_, h.pm, fun b hS => Nat.lt_of_lt_of_le (h.q2 b hS) hf.size⟩
 ·obtain ⟨v, h1, h2⟩ := h.r.2 i r hr
  exact ⟨v, h1, h2.same hf.size fun b hS _ => agS b hS⟩
 ·by_cases e : k' = k
  ·subst e
   rw [hk] at hv
   cases hv
   rw [fput_same]
   exact ⟨gx, cols, s.rows.length, rfl, hkc, hcl, hcw, Nat.le_refl _, hi⟩
  ·rw [fput_other e]
   obtain ⟨gx', cols', n', h1, h2, h3, h4, h5, h6⟩ := h.i k' v hv
   refine ⟨gx', cols', n', h1, h2, h3, h4, h5, h6.same hf.size fun b hb hbl => ?_⟩
   rcases hb with hb | hb
   ·exact ag b hbl fun hc => h.d k' k b e (by rw [hv]; rfl) hks hb hc
   ·exact agS b hb
 ·by_cases e : k' = k
  ·subst e
   rw [fput_same] at hb
   rcases hd b hb with h1 | h1
   ·obtain ⟨q1, q2, q3, q4, q5⟩ := nf b h1
    exact ⟨Or.inr hb, q2, q3, q4, q5⟩
   ·refine ⟨Or.inr hb, ?_, ?_, ?_, fun e => ?_⟩
    ·have := h.b.lt; omega
    ·have := h.p.lt; omega
    ·have := h.x.lt; omega
    ·have := (World.ownsRow.lt h.r.1 b e).2; omega
  ·rw [fput_other e] at hb
   obtain ⟨q1, q2, q3, q4, q5⟩ := h.Fi k' b hk' hb
   exact ⟨Or.inl q1, q2, q3, q4, q5⟩
 ·by_cases e1 : k1 = k
  ·subst e1
   rw [fput_same] at hb
   rw [fput_other (fun e => hne e.symm)]
   intro hc
   rcases hd b hb with h3 | h3
   ·exact h.d k1 k2 b hne h1 h2 h3 hc
   ·have := (h.q b (h.Fi k2 b h2 hc).1).2; omega
  ·rw [fput_other e1] at hb
   by_cases e2 : k2 = k
   ·subst e2
    rw [fput_same]
    intro hc
    rcases hd b hc with h3 | h3
    ·exact h.d k1 k2 b hne h1 h2 hb h3
    ·have := (h.q b (h.Fi k1 b h1 hb).1).2; omega
   ·rw [fput_other e2]
    exact h.d k1 k2 b hne h1 h2 hb
 ·rcases hb with hb | hb
  ·exact ⟨(h.q b hb).1, Nat.lt_of_lt_of_le (h.q b hb).2 hf.size⟩
  ·refine ⟨fun hS => ?_, hl b hb⟩
   rcases hd b hb with h1 | h1
   ·exact (h.q b (nf b h1).1).1 hS
   ·have := h.q2 b hS; omega
theorem rx_made {w V : World} {g : Nat} {F S G : Nat -> Prop} {s : St7} {lk : Int} {rv cv : Value} {rvs : List Value} {mp mx nx : Nat} {t : ByteArray -> Option Value} {f : ByteArray -> Nat -> Prop} {k : ByteArray} {cols : List Nat} (h : RX w g F S s lk rv rvs mp mx nx t f)
  (hk : t k = none) (hkc : k = tx (nat7 cols)) (hcl : cols.length <= 10000000000) (hcw : ∀ c ∈ cols, c < s.wd) (hc : Li G w cv (nat7 cols)) (hG : ∀ b, G b -> ¬ F b /\ b < w.heap.size)
  (hm : Mp Tryz.prog 9 V mx (nx + 1) (mput t k (.pointer (some ⟨w.heap.size + 1, 0, none⟩)))) (hg : ((w.alloc (.map #[] 0)).alloc (.cells #[cv, .map (some w.heap.size), .int .i64 0] 210)).grownBy V (some mx)) :
  RX V g (fun b => F b ∨ b = w.heap.size ∨ b = w.heap.size + 1) (fun b => S b ∨ G b) s lk rv rvs mp mx (nx + 1) (mput t k (.pointer (some ⟨w.heap.size + 1, 0, none⟩))) (fput f k fun b => b = w.heap.size ∨ b = w.heap.size + 1) := by
 have b2 : Below w.heap.size w ((w.alloc (.map #[] 0)).alloc (.cells #[cv, .map (some w.heap.size), .int .i64 0] 210)) := (below1 _ _).alloc (by simp) _
 have s2 : ((w.alloc (.map #[] 0)).alloc (.cells #[cv, .map (some w.heap.size), .int .i64 0] 210)).heap.size = w.heap.size + 2 := by simp
 have sz : w.heap.size + 2 <= V.heap.size := by rw [<- s2]; exact hg.size
 have xl := h.x.lt
 have ag : ∀ b, b < w.heap.size -> b ≠ mx -> V.heap[b]? = w.heap[b]? := fun b hb hn => (hg.block b (by rw [s2]; omega) fun e => hn (by cases e; rfl)).trans (b2.block b hb)
 have agS : ∀ b, S b -> V.heap[b]? = w.heap[b]? := fun b hS => ag b (h.q2 b hS) fun e => (h.q mx h.Fx).1 (e ▸ hS)
 have agG : ∀ b, G b -> V.heap[b]? = w.heap[b]? := fun b hS => ag b (hG b hS).2 fun e => (hG mx (e ▸ hS)).1 h.Fx
 have n1 := Mp.made Tryz.prog 9 w
 have n2 : Mp Tryz.prog 9 V w.heap.size 0 fun _ => none := (n1.below (below1 _ (.cells #[cv, .map (some w.heap.size), .int .i64 0] 210))).same (hg.block _ (by rw [s2]; omega) fun e => by cases e; omega)
 have n3 := Bk.new (w.alloc (.map #[] 0)) #[cv, .map (some w.heap.size), .int .i64 0] 210
 rw [show (w.alloc (.map #[] 0)).heap.size = w.heap.size + 1 by simp] at n3
 have n4 : Bk V (w.heap.size + 1) #[cv, .map (some w.heap.size), .int .i64 0] 210 := (hg.block _ (by rw [s2]; omega) fun e => by cases e; omega).trans n3
 have hix : IX V (w.heap.size + 1) (fun b => b = w.heap.size ∨ b = w.heap.size + 1) (fun b => S b ∨ G b) s.rows cols 0 :=
  ⟨cv, w.heap.size, 0, fun _ => none, n4, (hc.same (by omega) fun b hb _ => agG b hb).mono fun b _ hb => Or.inr hb, n2, Or.inr rfl, Or.inl rfl, Nat.le_refl _, fun _ _ => rfl, (fun _ _ hv => by cases hv), fun _ _ _ _ hv => by cases hv⟩
 have hsome : ∀ k', (mput t k (.pointer (some ⟨w.heap.size + 1, 0, none⟩)) k').isSome = true -> k' ≠ k -> (t k').isSome = true := fun k' h1 hne => by unfold mput at h1; rwa [if_neg hne] at h1
 refine ⟨h.ok, (ag g h.b.lt fun e => by have q := h.x; rw [<- e] at q; exact q.notcells h.b).trans h.b, ⟨row7 h.r.1 fun b hb => ag b (World.ownsRow.lt h.r.1 b hb).2 fun e => by
   obtain ⟨cur, hc⟩ := row7_blk h.r.1 hb
   exact h.x.notcells (e ▸ hc), fun i r hr => ?_⟩, h.p.same (ag mp h.p.lt h.pm), hm, fun k' v hv => ?_, Or.inl h.Fg, fun b hb => Or.inl (h.Fr b hb), Or.inl h.Fp, Or.inl h.Fx, fun k' b hk' hb => ?_, fun k1 k2 b hne h1 h2 hb => ?_, fun b hb => ?_, h.pm, fun b hb => ?_⟩
 ·obtain ⟨v, h1, h2⟩ := h.r.2 i r hr
  exact ⟨v, h1, (h2.same (by omega) fun b hS _ => agS b hS).mono fun b _ hb => Or.inl hb⟩
 ·unfold mput at hv
  by_cases e : k' = k
  ·subst e
   rw [if_pos rfl] at hv
   cases hv
   rw [fput_same]
   exact ⟨_, cols, 0, rfl, hkc, hcl, hcw, Nat.zero_le _, hix⟩
  ·rw [if_neg e] at hv
   rw [fput_other e]
   obtain ⟨gx', cols', n', h1, h2, h3, h4, h5, h6⟩ := h.i k' v hv
   refine ⟨gx', cols', n', h1, h2, h3, h4, h5, (h6.same (by omega) fun b hb hbl => ?_).mono (fun b hb => hb) fun b hb => Or.inl hb⟩
   rcases hb with hb | hb
   ·exact ag b hbl (h.Fi k' b (by rw [hv]; rfl) hb).2.2.2.1
   ·exact agS b hb
 ·by_cases e : k' = k
  ·subst e
   rw [fput_same] at hb
   have q1 := h.b.lt
   have q2 := h.p.lt
   refine ⟨Or.inr hb, ?_, ?_, ?_, fun e => ?_⟩
   ·rcases hb with rfl | rfl <;> omega
   ·rcases hb with rfl | rfl <;> omega
   ·rcases hb with rfl | rfl <;> omega
   ·have := (World.ownsRow.lt h.r.1 b e).2
    rcases hb with rfl | rfl <;> omega
  ·rw [fput_other e] at hb
   obtain ⟨q1, q2, q3, q4, q5⟩ := h.Fi k' b (hsome k' hk' e) hb
   exact ⟨Or.inl q1, q2, q3, q4, q5⟩
 ·by_cases e1 : k1 = k
  ·subst e1
   rw [fput_same] at hb
   rw [fput_other (fun e => hne e.symm)]
   intro hc
   have := (h.q b (h.Fi k2 b (hsome k2 h2 (fun e => hne e.symm)) hc).1).2
   rcases hb with rfl | rfl <;> omega
  ·rw [fput_other e1] at hb
   by_cases e2 : k2 = k
   ·subst e2
    rw [fput_same]
    intro hc
    have := (h.q b (h.Fi k1 b (hsome k1 h1 e1) hb).1).2
    rcases hc with rfl | rfl <;> omega
   ·rw [fput_other e2]
    exact h.d k1 k2 b hne (hsome k1 h1 e1) (hsome k2 h2 e2) hb
 ·rcases hb with hb | hb
  ·exact ⟨fun hS => hS.elim (h.q b hb).1 fun hS => (hG b hS).1 hb, Nat.lt_of_lt_of_le (h.q b hb).2 (by omega)⟩
  ·refine ⟨fun hS => ?_, by rcases hb with rfl | rfl <;> omega⟩
   rcases hS with hS | hS
   ·have := h.q2 b hS; rcases hb with rfl | rfl <;> omega
   ·have := (hG b hS).2; rcases hb with rfl | rfl <;> omega
 ·rcases hb with hb | hb
  ·exact Nat.lt_of_lt_of_le (h.q2 b hb) (by omega)
  ·exact Nat.lt_of_lt_of_le (hG b hb).2 (by omega)
end Go.Proofs.YtechceagghcipaaGreatDoor

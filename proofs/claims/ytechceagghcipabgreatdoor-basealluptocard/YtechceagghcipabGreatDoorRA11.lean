import Derived.Test.YtechceagghcipabGreatDoorRA9
import Derived.Test.YtechceagghcipabGreatDoorProg
import Derived.Conc.MuLone
import Derived.KernelRfl
import Derived.Test.YtechceagghcipabGreatDoorRA2
namespace Go.Proofs.YtechceagghcipabGreatDoor
open Go.RowKit
def fput (f : ByteArray -> Nat -> Prop) (k : ByteArray) (p : Nat -> Prop) : ByteArray -> Nat -> Prop := fun x => if x = k then p else f x
theorem fput_same (f : ByteArray -> Nat -> Prop) (k : ByteArray) (p : Nat -> Prop) : fput f k p k = p := if_pos rfl
theorem fput_other {f : ByteArray -> Nat -> Prop} {k x : ByteArray} {p : Nat -> Prop} (h : x ≠ k) : fput f k p x = f x := if_neg h
theorem nat7_inj {l m : List Nat} (h : nat7 l = nat7 m) : l = m := by
 have h2 : ∀ (l : List Nat), (nat7 l).map Int.toNat = l := fun l => by
  induction l with
  | nil => rfl
  | cons a l ih => simp only [nat7, List.map_cons] at ih ⊢; rw [ih]; simp
 rw [<- h2 l, h, h2]
theorem rx_taken {w V : World} {g : Nat} {F S : Nat -> Prop} {s : St7} {lk : Int} {rv : Value} {rvs : List Value} {mp mx nx : Nat} {t : ByteArray -> Option Value} {f : ByteArray -> Nat -> Prop} {k : ByteArray} {gx : Nat} {cols : List Nat} {f1 : Nat -> Prop} (h : RX w g F S s lk rv rvs mp mx nx t f)
  (hk : t k = some (.pointer (some ⟨gx, 0, none⟩))) (hkc : k = tx (nat7 cols)) (hcl : cols.length <= 10000000000) (hcw : ∀ c ∈ cols, c < s.wd) (hi : IX V gx f1 S s.rows cols s.rows.length) (hf : Fr (f k) w V) (ha : ∀ b, f k b -> f1 b) (hd : ∀ b, f1 b -> f k b ∨ w.heap.size <= b) (hl : ∀ b, f1 b -> b < V.heap.size) :
  RX V g (fun b => F b ∨ f1 b) S s lk rv rvs mp mx nx t (fput f k f1) := by
 have hks : (t k).isSome = true := by rw [hk]; rfl
 have fi := h.Fi k
 have ag : ∀ b, b < w.heap.size -> ¬ f k b -> V.heap[b]? = w.heap[b]? := hf.block
 have nf : ∀ b, f k b -> F b /\ b ≠ g /\ b ≠ mp /\ b ≠ mx /\ rv.ownBlock ≠ some b := fun b hb => fi b hks hb
 have agS : ∀ b, S b -> V.heap[b]? = w.heap[b]? := fun b hS => ag b (h.q2 b hS) fun hb => (h.q b (nf b hb).1).1 hS
 refine ⟨h.ok, (ag g h.b.lt fun hb => (nf g hb).2.1 rfl).trans h.b, ⟨row7 h.r.1 fun b hb => ag b (World.ownsRow.lt h.r.1 b hb).2 fun hc => (nf b hc).2.2.2.2 hb, fun i r hr => ?_⟩, h.p.same (ag mp h.p.lt fun hb => (nf mp hb).2.2.1 rfl), h.x.same (ag mx h.x.lt fun hb => (nf mx hb).2.2.2.1 rfl), fun k' v hv => ?_, Or.inl h.Fg, fun b hb => Or.inl (h.Fr b hb), Or.inl h.Fp, Or.inl h.Fx, fun k' b hk' hb => ?_, fun k1 k2 b hne h1 h2 hb => ?_, fun b hb => ?_, h.pm, fun b hS => Nat.lt_of_lt_of_le (h.q2 b hS) hf.size⟩
 ·obtain ⟨v, h1, h2⟩ := h.r.2 i r hr
  exact ⟨v, h1, h2.same hf.size fun b hS _ => agS b hS⟩
 ·by_cases e : k' = k
  ·subst e
   rw [hk] at hv
   cases hv
   rw [fput_same]
   exact ⟨gx, cols, s.rows.length, rfl, hkc, hcl, hcw, Nat.le_refl _, hi⟩
  ·rw [fput_other e]
   obtain ⟨gx', cols', n', h1, h2, h3, h4, h5, h6⟩ := h.i k' v hv
   refine ⟨gx', cols', n', h1, h2, h3, h4, h5, h6.same hf.size fun b hb hbl => ?_⟩
   rcases hb with hb | hb
   ·exact ag b hbl fun hc => h.d k' k b e (by rw [hv]; rfl) hks hb hc
   ·exact agS b hb
 ·by_cases e : k' = k
  ·subst e
   rw [fput_same] at hb
   rcases hd b hb with h1 | h1
   ·obtain ⟨q1, q2, q3, q4, q5⟩ := nf b h1
    exact ⟨Or.inr hb, q2, q3, q4, q5⟩
   ·refine ⟨Or.inr hb, ?_, ?_, ?_, fun e => ?_⟩
    ·have := h.b.lt; omega
    ·have := h.p.lt; omega
    ·have := h.x.lt; omega
    ·have := (World.ownsRow.lt h.r.1 b e).2; omega
  ·rw [fput_other e] at hb
   obtain ⟨q1, q2, q3, q4, q5⟩ := h.Fi k' b hk' hb
   exact ⟨Or.inl q1, q2, q3, q4, q5⟩
 ·by_cases e1 : k1 = k
  ·subst e1
   rw [fput_same] at hb
   rw [fput_other (fun e => hne e.symm)]
   intro hc
   rcases hd b hb with h3 | h3
   ·exact h.d k1 k2 b hne h1 h2 h3 hc
   ·have := (h.q b (h.Fi k2 b h2 hc).1).2; omega
  ·rw [fput_other e1] at hb
   by_cases e2 : k2 = k
   ·subst e2
    rw [fput_same]
    intro hc
    rcases hd b hc with h3 | h3
    ·exact h.d k1 k2 b hne h1 h2 hb h3
    ·have := (h.q b (h.Fi k1 b h1 hb).1).2; omega
   ·rw [fput_other e2]
    exact h.d k1 k2 b hne h1 h2 hb
 ·rcases hb with hb | hb
  ·exact ⟨(h.q b hb).1, Nat.lt_of_lt_of_le (h.q b hb).2 hf.size⟩
  ·refine ⟨fun hS => ?_, hl b hb⟩
   rcases hd b hb with h1 | h1
   ·exact (h.q b (nf b h1).1).1 hS
   ·have := h.q2 b hS; omega
theorem rx_made {w V : World} {g : Nat} {F S G : Nat -> Prop} {s : St7} {lk : Int} {rv cv : Value} {rvs : List Value} {mp mx nx : Nat} {t : ByteArray -> Option Value} {f : ByteArray -> Nat -> Prop} {k : ByteArray} {cols : List Nat} (h : RX w g F S s lk rv rvs mp mx nx t f)
  (hk : t k = none) (hkc : k = tx (nat7 cols)) (hcl : cols.length <= 10000000000) (hcw : ∀ c ∈ cols, c < s.wd) (hc : Li G w cv (nat7 cols)) (hG : ∀ b, G b -> ¬ F b /\ b < w.heap.size)
  (hm : Mp Tryz.prog 9 V mx (nx + 1) (mput t k (.pointer (some ⟨w.heap.size + 1, 0, none⟩)))) (hg : ((w.alloc (.map #[] 0)).alloc (.cells #[cv, .map (some w.heap.size), .int .i64 0] 197)).grownBy V (some mx)) :
  RX V g (fun b => F b ∨ b = w.heap.size ∨ b = w.heap.size + 1) (fun b => S b ∨ G b) s lk rv rvs mp mx (nx + 1) (mput t k (.pointer (some ⟨w.heap.size + 1, 0, none⟩))) (fput f k fun b => b = w.heap.size ∨ b = w.heap.size + 1) := by
 have b2 : Below w.heap.size w ((w.alloc (.map #[] 0)).alloc (.cells #[cv, .map (some w.heap.size), .int .i64 0] 197)) := (below1 _ _).alloc (by simp) _
 have s2 : ((w.alloc (.map #[] 0)).alloc (.cells #[cv, .map (some w.heap.size), .int .i64 0] 197)).heap.size = w.heap.size + 2 := by simp
 have sz : w.heap.size + 2 <= V.heap.size := by rw [<- s2]; exact hg.size
 have xl := h.x.lt
 have ag : ∀ b, b < w.heap.size -> b ≠ mx -> V.heap[b]? = w.heap[b]? := fun b hb hn => (hg.block b (by rw [s2]; omega) fun e => hn (by cases e; rfl)).trans (b2.block b hb)
 have agS : ∀ b, S b -> V.heap[b]? = w.heap[b]? := fun b hS => ag b (h.q2 b hS) fun e => (h.q mx h.Fx).1 (e ▸ hS)
 have agG : ∀ b, G b -> V.heap[b]? = w.heap[b]? := fun b hS => ag b (hG b hS).2 fun e => (hG mx (e ▸ hS)).1 h.Fx
 have n1 := Mp.made Tryz.prog 9 w
 have n2 : Mp Tryz.prog 9 V w.heap.size 0 fun _ => none := (n1.below (below1 _ (.cells #[cv, .map (some w.heap.size), .int .i64 0] 197))).same (hg.block _ (by rw [s2]; omega) fun e => by cases e; omega)
 have n3 := Bk.new (w.alloc (.map #[] 0)) #[cv, .map (some w.heap.size), .int .i64 0] 197
 rw [show (w.alloc (.map #[] 0)).heap.size = w.heap.size + 1 by simp] at n3
 have n4 : Bk V (w.heap.size + 1) #[cv, .map (some w.heap.size), .int .i64 0] 197 := (hg.block _ (by rw [s2]; omega) fun e => by cases e; omega).trans n3
 have hix : IX V (w.heap.size + 1) (fun b => b = w.heap.size ∨ b = w.heap.size + 1) (fun b => S b ∨ G b) s.rows cols 0 :=
  ⟨cv, w.heap.size, 0, fun _ => none, n4, (hc.same (by omega) fun b hb _ => agG b hb).mono fun b _ hb => Or.inr hb, n2, Or.inr rfl, Or.inl rfl, Nat.le_refl _, fun _ _ => rfl, (fun _ _ hv => by cases hv), fun _ _ _ _ hv => by cases hv⟩
 have hsome : ∀ k', (mput t k (.pointer (some ⟨w.heap.size + 1, 0, none⟩)) k').isSome = true -> k' ≠ k -> (t k').isSome = true := fun k' h1 hne => by unfold mput at h1; rwa [if_neg hne] at h1
 refine ⟨h.ok, (ag g h.b.lt fun e => by have q := h.x; rw [<- e] at q; exact q.notcells h.b).trans h.b, ⟨row7 h.r.1 fun b hb => ag b (World.ownsRow.lt h.r.1 b hb).2 fun e => by
   obtain ⟨cur, hc⟩ := row7_blk h.r.1 hb
   exact h.x.notcells (e ▸ hc), fun i r hr => ?_⟩, h.p.same (ag mp h.p.lt h.pm), hm, fun k' v hv => ?_, Or.inl h.Fg, fun b hb => Or.inl (h.Fr b hb), Or.inl h.Fp, Or.inl h.Fx, fun k' b hk' hb => ?_, fun k1 k2 b hne h1 h2 hb => ?_, fun b hb => ?_, h.pm, fun b hb => ?_⟩
 ·obtain ⟨v, h1, h2⟩ := h.r.2 i r hr
  exact ⟨v, h1, (h2.same (by omega) fun b hS _ => agS b hS).mono fun b _ hb => Or.inl hb⟩
 ·unfold mput at hv
  by_cases e : k' = k
  ·subst e
   rw [if_pos rfl] at hv
   cases hv
   rw [fput_same]
   exact ⟨_, cols, 0, rfl, hkc, hcl, hcw, Nat.zero_le _, hix⟩
  ·rw [if_neg e] at hv
   rw [fput_other e]
   obtain ⟨gx', cols', n', h1, h2, h3, h4, h5, h6⟩ := h.i k' v hv
   refine ⟨gx', cols', n', h1, h2, h3, h4, h5, (h6.same (by omega) fun b hb hbl => ?_).mono (fun b hb => hb) fun b hb => Or.inl hb⟩
   rcases hb with hb | hb
   ·exact ag b hbl (h.Fi k' b (by rw [hv]; rfl) hb).2.2.2.1
   ·exact agS b hb
 ·by_cases e : k' = k
  ·subst e
   rw [fput_same] at hb
   have q1 := h.b.lt
   have q2 := h.p.lt
   refine ⟨Or.inr hb, ?_, ?_, ?_, fun e => ?_⟩
   ·rcases hb with rfl | rfl <;> omega
   ·rcases hb with rfl | rfl <;> omega
   ·rcases hb with rfl | rfl <;> omega
   ·have := (World.ownsRow.lt h.r.1 b e).2
    rcases hb with rfl | rfl <;> omega
  ·rw [fput_other e] at hb
   obtain ⟨q1, q2, q3, q4, q5⟩ := h.Fi k' b (hsome k' hk' e) hb
   exact ⟨Or.inl q1, q2, q3, q4, q5⟩
 ·by_cases e1 : k1 = k
  ·subst e1
   rw [fput_same] at hb
   rw [fput_other (fun e => hne e.symm)]
   intro hc
   have := (h.q b (h.Fi k2 b (hsome k2 h2 (fun e => hne e.symm)) hc).1).2
   rcases hb with rfl | rfl <;> omega
  ·rw [fput_other e1] at hb
   by_cases e2 : k2 = k
   ·subst e2
    rw [fput_same]
    intro hc
    have := (h.q b (h.Fi k1 b (hsome k1 h1 e1) hb).1).2
    rcases hc with rfl | rfl <;> omega
   ·rw [fput_other e2]
    exact h.d k1 k2 b hne (hsome k1 h1 e1) (hsome k2 h2 e2) hb
 ·rcases hb with hb | hb
  ·exact ⟨fun hS => hS.elim (h.q b hb).1 fun hS => (hG b hS).1 hb, Nat.lt_of_lt_of_le (h.q b hb).2 (by omega)⟩
  ·refine ⟨fun hS => ?_, by rcases hb with rfl | rfl <;> omega⟩
   rcases hS with hS | hS
   ·have := h.q2 b hS; rcases hb with rfl | rfl <;> omega
   ·have := (hG b hS).2; rcases hb with rfl | rfl <;> omega
 ·rcases hb with hb | hb
  ·exact Nat.lt_of_lt_of_le (h.q2 b hb) (by omega)
  ·exact Nat.lt_of_lt_of_le (hG b hb).2 (by omega)
end Go.Proofs.YtechceagghcipabGreatDoor
namespace Go.Proofs
abbrev Tryz.muLink : Go.Conc.Locks.MuLink := { lock := 153, unlock := 154, ilock := 172, iunlock := 173, lockSlow := 194, unlockSlow := 197, disable := 190, enable := 192, acquire := 193, relMerge := 195, cas32 := 191, add32 := 196, tMutex := 115, tIMutex := 113, tPMutex := 213, tPIMutex := 223, tPI32 := 225, tUP := 227, tNoCopy := 110, tU32 := 111 }
theorem Tryz.muLib : Go.Conc.Locks.MuLib Tryz.prog Tryz.muLink :=
 ⟨Tryz.func153, Tryz.func154, Tryz.func172, Tryz.func173, Tryz.func190, Tryz.func192, Tryz.func193, Tryz.func195, Tryz.func191, Tryz.func196, Tryz.underlying113, Tryz.runUnderlying113, Tryz.sizeOf113, Tryz.isAgg113, Tryz.zeroValue113, Tryz.underlying115, Tryz.runUnderlying115, Tryz.sizeOf115, Tryz.isAgg115, Tryz.zeroValue115, Tryz.underlying213, Tryz.runUnderlying213, Tryz.sizeOf213, Tryz.isAgg213, Tryz.zeroValue213, Tryz.underlying223, Tryz.runUnderlying223, Tryz.sizeOf223, Tryz.isAgg223, Tryz.zeroValue223, Tryz.underlying225, Tryz.runUnderlying225, Tryz.sizeOf225, Tryz.isAgg225, Tryz.zeroValue225, Tryz.underlying227, Tryz.runUnderlying227, Tryz.sizeOf227, Tryz.isAgg227, Tryz.zeroValue227, Tryz.underlying110, Tryz.runUnderlying110, Tryz.sizeOf110, Tryz.isAgg110, Tryz.zeroValue110, Tryz.underlying21, Tryz.runUnderlying21, Tryz.sizeOf21, Tryz.isAgg21, Tryz.zeroValue21, (by kernel_rfl)⟩
end Go.Proofs
namespace Go.Proofs.YtechceagghcipabGreatDoor
open Go.RowKit
attribute [local go_sem ↓] Go.wp_at_zero Go.wp_at_succ
theorem leaves_put {P : Program} {fn : Func} {r i : Tmp} {v : Value} {R : Ending -> World -> Prop} (hr : fn.results = #[.tmp r]) (hi : i ≠ r) : ∀ (ds : List Deferred) (u : FrameMode) (w : World) (tm : Array Value), Leaves P fn (tm.setIfInBounds i v) R ds u w -> Leaves P fn tm R ds u w
 | [], .returning, w, tm, h => by
  obtain ⟨x, h1, h2⟩ := h
  rw [results_tmp hr] at h1
  refine ⟨x, ?_, h2⟩
  rw [results_tmp hr, <- h1]
  congr 1
  simp only [Array.getD_eq_getD_getElem?]
  rw [Array.getElem?_setIfInBounds_ne hi]
 | [], .panicking c, w, tm, h => h
 | [], .run, w, tm, h => h
 | d :: ds, u, w, tm, h => by
  obtain ⟨h1, fv, cap, f, args, h2, h3, h4⟩ := h
  refine ⟨h1, fv, cap, f, args, h2, h3, h4.mono fun e u' w' he => ?_⟩
  cases e with
  | returned x => exact leaves_put hr hi ds _ _ _ he
  | panicked c => exact leaves_put hr hi ds _ _ _ he
  | outgrown => exact he
theorem panic_put {P : Program} {fn : Func} {r i : Tmp} {v : Value} {R : Ending -> World -> Prop} {K : Act -> World -> Prop} (hr : fn.results = #[.tmp r]) (hi : i ≠ r) : ∀ c (a : Act) w, Exit.then K (bodyPostD P fn R) (.panic c) (a.put (some i) v) w -> Exit.then K (bodyPostD P fn R) (.panic c) a w :=
 fun c a w h => leaves_put hr hi a.defers (.panicking c) w a.tmps h
theorem cols_w {s : St7} (ho : s.Ok) {cols : List Nat} (hc : ∀ c ∈ cols, c < s.wd) : w64 (nat7 cols) := nat7_w fun i hi => by have := hc i hi; have := ho.e; omega
theorem rx_take {w : World} {g : Nat} {F S : Nat -> Prop} {s : St7} {lk : Int} {rv : Value} {rvs : List Value} {mp mx nx : Nat} {t : ByteArray -> Option Value} {f : ByteArray -> Nat -> Prop} {k : ByteArray} {gx : Nat} {cols : List Nat} (h : RX w g F S s lk rv rvs mp mx nx t f)
  (hk : t k = some (.pointer (some ⟨gx, 0, none⟩))) (hkc : k = tx (nat7 cols)) (hcl : cols.length <= 10000000000) (hcw : ∀ c ∈ cols, c < s.wd) :
  Calls Tryz.prog 155 #[.pointer (some ⟨gx, 0, none⟩), rv] w fun e w' => e = .returned (.tuple #[]) /\ ∃ f1, IX w' gx f1 S s.rows cols s.rows.length /\ RX w' g (fun b => F b ∨ f1 b) S s lk rv rvs mp mx nx t (fput f k f1) /\ Fr F w w' /\ ∀ b, f1 b -> F b ∨ w.heap.size <= b := by
 obtain ⟨gx', cols', n, h1, h2, h3, h4, h5, h6⟩ := h.i k _ hk
 cases h1
 have e : cols' = cols := nat7_inj (tx_inj (cols_w h.ok h4) (cols_w h.ok hcw) (h2.symm.trans hkc))
 subst e
 have hks : (t k).isSome = true := by rw [hk]; rfl
 refine (takeIn7_any gx (f k) S s.rows cols' n rv rvs w h6 h.r ⟨fun b hb => (h.q b (h.Fi k b hks hb).1).1, h.q2, fun b hb => (h.q b (h.Fi k b hks hb).1).2⟩ (fun b hb hf => (h.Fi k b hks hf).2.2.2.2 hb) h5 h.ok.c hcl fun r hr c hc => by rw [h.ok.wid r hr]; exact hcw c hc).mono ?_
 rintro e w' ⟨rfl, f1, q1, q2, q3, q4, q5⟩
 exact ⟨rfl, f1, q1, rx_taken h hk hkc hcl hcw q1 q2 q3 q4 q5, q2.mono fun b _ hb => (h.Fi k b hks hb).1, fun b hb => (q4 b hb).imp (fun hb => (h.Fi k b hks hb).1) id⟩
def PO (w : World) (g : Nat) (F S G : Nat -> Prop) (m : Nat) (s : St7) (cols : List Nat) (nums : List Int) (e : Ending) (w' : World) : Prop :=
 ∃ v F', e = .returned v /\ RM w' g F' (fun b => S b ∨ G b) (m + 1) s /\ Fr F w w' /\ (∀ b, F b -> F' b) /\ (∀ b, F' b -> F b ∨ w.heap.size <= b) /\ Li F' w' v (nat7 (grp s.rows cols s.rows.length (tx nums)))
theorem RX.moreS {w : World} {g : Nat} {F S G : Nat -> Prop} {s : St7} {lk : Int} {rv : Value} {rvs : List Value} {mp mx nx : Nat} {t : ByteArray -> Option Value} {f : ByteArray -> Nat -> Prop} (h : RX w g F S s lk rv rvs mp mx nx t f) (hG : ∀ b, G b -> ¬ F b /\ b < w.heap.size) : RX w g F (fun b => S b ∨ G b) s lk rv rvs mp mx nx t f :=
 ⟨h.ok, h.b, ⟨h.r.1, fun i r hr => by obtain ⟨v, h1, h2⟩ := h.r.2 i r hr; exact ⟨v, h1, h2.mono fun b _ hb => Or.inl hb⟩⟩, h.p, h.x, fun k v hv => by obtain ⟨gx, cols, n, h1, h2, h3, h4, h5, h6⟩ := h.i k v hv; exact ⟨gx, cols, n, h1, h2, h3, h4, h5, h6.mono (fun b hb => hb) fun b hb => Or.inl hb⟩, h.Fg, h.Fr, h.Fp, h.Fx, h.Fi, h.d, fun b hF => ⟨fun hS => hS.elim (h.q b hF).1 fun hg => (hG b hg).1 hF, (h.q b hF).2⟩, h.pm, fun b hb => hb.elim (h.q2 b) fun hg => (hG b hg).2⟩
theorem zero7p (X : World) : (zeroValue 194).run Tryz.prog X = .ok (.pointer none) X := by kernel_rfl
theorem po_end {w w3 V : World} {g : Nat} {F F3 S G : Nat -> Prop} {m : Nat} {s : St7} {rv : Value} {rvs : List Value} {mp mx nx : Nat} {t : ByteArray -> Option Value} {f : ByteArray -> Nat -> Prop} {gx : Nat} {cols : List Nat} {f1 : Nat -> Prop} {nums : List Int} {cv : Value} {mm c : Nat} {ti : ByteArray -> Option Value}
  (h : RX w3 g F3 (fun b => S b ∨ G b) s 1 rv rvs mp mx nx t f) (hi : IXe w3 gx f1 (fun b => S b ∨ G b) s.rows cols s.rows.length s.rows.length cv mm c ti) (hf : Fr F w w3) (hnx : nx <= m + 1) (hb : Below w3.heap.size w3 V) (ha : ∀ b, F b -> F3 b) (hd : ∀ b, F3 b -> F b ∨ w.heap.size <= b) (h1 : ∀ b, f1 b -> F3 b) (hg1 : ¬ f1 g) (hFg : F g) :
  PO w g F S G m s cols nums (.returned (at7 ti (tx nums))) (V.setCell ⟨g, 5, none⟩ (.int .i32 0)) := by
 have h' := h.same (w' := V) hb.size fun b _ hl => hb.block b hl
 refine ⟨_, F3, rfl, ⟨rv, rvs, mp, mx, nx, t, f, hnx, h'.put (s' := s) (lk' := 0) h'.ok rfl rfl rfl⟩, (hf.then hb).set (Or.inl hFg), ha, hd, ?_⟩
 have q := (hi.below hb).at_ (tx nums)
 have q1 := (q.1.li (nat7_w fun i hi => by have := grp_lt i hi; have := h.ok.c; omega)).mono (G := f1) fun b _ hb => (q.2 b hb.2).1
 exact (q1.same (by simp) fun b hF hl => heap_setCell_other _ _ _ _ fun (e : b = g) => hg1 (e ▸ hF)).mono fun b _ hb => h1 b hb
set_option maxRecDepth 20000 in
set_option maxHeartbeats 2000000 in
theorem placesOf7_any (g : Nat) (F S G N : Nat -> Prop) (m : Nat) (s : St7) (cols : List Nat) (nums : List Int) (sv nv : Value) (w : World) (h : RM w g F S m s) (hset : Li G w sv (nat7 cols)) (hG : ∀ b, G b -> ¬ F b /\ b < w.heap.size) (hcl : cols.length <= 10000000000) (hcw : ∀ c ∈ cols, c < s.wd)
  (hnv : Li N w nv nums) (hN : ∀ b, N b -> ¬ F b) (hnl : nums.length <= 10000000000) (hm : m <= 100000000000000) :
  Calls Tryz.prog 130 #[.pointer (some ⟨g, 0, none⟩), sv, nv] w (PO w g F S G m s cols nums) := by
 obtain ⟨rv, rvs, mp, mx, nx, t, f, hnx, h⟩ := h
 have HNX := hm7 hnx
 have HX := hm7 h
 obtain ⟨KS, hKS⟩ : ∃ KS, tx (nat7 cols) = KS := ⟨_, rfl⟩
 obtain ⟨KN, hKN⟩ : ∃ KN, tx nums = KN := ⟨_, rfl⟩
 have HKE := hm7 hKN
 have HKC := hm7 hKS
 have HKN : Hid (KN.size <= maxLen) := by show _ <= _; rw [<- hKN, tx_size]; unfold maxLen; omega
 have HKS : Hid (KS.size <= maxLen) := by show _ <= _; rw [<- hKS, tx_size, nat7_len]; unfold maxLen; omega
 have HT : Hid (Calls Tryz.prog 66 #[sv] w fun e w' => e = .returned (.string KS) /\ Below w.heap.size w w') := by rw [<- hKS]; exact text_any G _ sv w hset (by rw [nat7_len]; exact hcl)
 have HTN : Hid (∀ X : World, Li N X nv nums -> Calls Tryz.prog 66 #[nv] X fun e w' => e = .returned (.string KN) /\ Below X.heap.size X w') := fun X hX => by rw [<- hKN]; exact text_any N _ nv X hX hnl
 have HSET := hm7 hset
 have HLN0 := hm7 hnv
 have HNF := hm7 hN
 have HG := hm7 hG
 have HCW := hm7 hcw
 have HFG : Hid (F g) := h.Fg
 obtain ⟨na, nn, nc, rfl⟩ : ∃ a n c, nv = .slice a n c := by obtain ⟨a, c, e, -⟩ := hnv; exact ⟨_, _, _, e⟩
 obtain ⟨sa, sn, sc, rfl⟩ : ∃ a n c, sv = .slice a n c := by obtain ⟨a, c, e, -⟩ := hset; exact ⟨_, _, _, e⟩
 obtain ⟨ra, rc, hrv, -⟩ := row7_form h.r.1
 rw [hrv] at HX
 have hml : mx < w.heap.size := h.x.lt
 clear h hset hnv hN hG hcw hKS hKN hrv hnx
 go_enter_defers Tryz.func130, Tryz.ntmps130
 go_upto_region 2 with (go_at_call 66; refine HT.out.mono ?_; rintro e w1 ⟨rfl, hb⟩; have HB1 := hm7 hb; clear hb)
 have HX1 : Hid (RX w1 g F S s 0 (.slice ra s.rows.length rc) rvs mp mx nx t f) := HX.out.same HB1.out.size fun b _ hl => HB1.out.block b hl
 have c5 := HX1.out.b.cell (i := 5) rfl
 have z5 := HX1.out.b.froz 5
 go_upto_region 3 with (go_at_call 153; refine (Go.MuLone.lock_free Tryz.muLib ⟨g, 5, none⟩ _ c5 z5).mono ?_; rintro e w' ⟨rfl, rfl⟩)
 have HX2 : Hid (RX (w1.setCell ⟨g, 5, none⟩ (.int .i32 1)) g F S s 1 (.slice ra s.rows.length rc) rvs mp mx nx t f) := HX1.out.put (s' := s) (lk' := 1) HX1.out.ok rfl rfl rfl
 have HFW : Hid (Fr F w (w1.setCell ⟨g, 5, none⟩ (.int .i32 1))) := (Fr.of HB1.out).set (Or.inl HFG.out)
 have HLN2 : Hid (Li N (w1.setCell ⟨g, 5, none⟩ (.int .i32 1)) (.slice na nn nc) nums) := HLN0.out.fr HFW.out fun b _ hb => HNF.out b hb
 have HST2 : Hid (Li G (w1.setCell ⟨g, 5, none⟩ (.int .i32 1)) (.slice sa sn sc) (nat7 cols)) := HSET.out.fr HFW.out fun b _ hb => (HG.out b hb).1
 clear HX HX1 c5 z5 HT HSET HLN0 HB1
 revert HX2 HFW HLN2 HST2
 generalize w1.setCell ⟨g, 5, none⟩ (.int .i32 1) = w2
 intro HX2 HFW HLN2 HST2
 have c7 := HX2.out.b.cell (i := 7) rfl
 have c1 := HX2.out.b.cell (i := 1) rfl
 cases hk : t KS with
 | some v =>
  obtain ⟨gx, -, -, rfl, -⟩ := HX2.out.i KS v hk
  have hl : (Instr.lookup 116 (.map (some mx)) (.string KS) false).run Tryz.prog w2 = .ok (.pointer (some ⟨gx, 0, none⟩)) w2 := by
   have := HX2.out.x.at_ Tryz.underlying9 Tryz.underlying116 (zero7p w2) HKS.out
   rwa [hk] at this
  have HTK : Hid (Calls Tryz.prog 155 #[.pointer (some ⟨gx, 0, none⟩), .slice ra s.rows.length rc] w2 fun e w' => e = .returned (.tuple #[]) /\ ∃ f1, IX w' gx f1 (fun b => S b ∨ G b) s.rows cols s.rows.length /\ RX w' g (fun b => F b ∨ f1 b) (fun b => S b ∨ G b) s 1 (.slice ra s.rows.length rc) rvs mp mx nx t (fput f KS f1) /\ Fr F w2 w' /\ ∀ b, f1 b -> F b ∨ w2.heap.size <= b) := rx_take (HX2.out.moreS fun b hb => ⟨(HG.out b hb).1, Nat.lt_of_lt_of_le (HG.out b hb).2 HFW.out.size⟩) hk HKC.out.symm hcl HCW.out
  have HG1 : Hid (∀ f1 : Nat -> Prop, ∀ w', RX w' g (fun b => F b ∨ f1 b) (fun b => S b ∨ G b) s 1 (.slice ra s.rows.length rc) rvs mp mx nx t (fput f KS f1) -> ¬ f1 g) := fun f1 w' hr hg => (hr.Fi KS g (by rw [hk]; rfl) (by rw [fput_same]; exact hg)).2.1 rfl
  clear hk
  go_upto_region 9 with (go_at_call 155; refine HTK.out.mono ?_; rintro e w3 ⟨rfl, f1, hix, hrx, hfr, hf1⟩; have HGG := hm7 (HG1.out f1 w3 hrx))
  clear hl c7 c1 HTK HG1
  have HG1 := HGG
  obtain ⟨cv, mm, cc, ti, hi3⟩ := hix.e
  have HI3 := hm7 hi3
  have HX3 := hm7 hrx
  have HF3 := hm7 hfr
  have HF1 := hm7 hf1
  have HLN : Hid (Li N w3 (.slice na nn nc) nums) := HLN2.out.fr hfr fun b _ hb => HNF.out b hb
  obtain ⟨oa, on, oc, hoa⟩ := ow_form (hi3.at_ KN).1
  have HOA : Hid (at7 ti KN = .slice oa on oc) := hoa
  clear hix hrx hfr hf1 hi3 hoa
  refine wp_region_held_drew (S := fun w' => Below w3.heap.size w3 w') (by kernel_rfl) (Below.refl _ _).drew (fun hH => ?_)
  revert hH
  generalize w3.drew = U0
  intro hH
  refine wTk 0 (.pointer (some ⟨gx, 0, none⟩)) rfl (by kernel_rfl) (panic_put rfl (by decide)) (Or.inl ⟨by rfl, fun w' h => by clear h; go_simp⟩) hH ?_
  simp only [wA, wB, wC, wD]
  refine wTk 1 (.pointer (some ⟨gx, 0, none⟩)) rfl (by kernel_rfl) (panic_put rfl (by decide)) (Or.inl ⟨by rfl, fun w' h => by clear h; go_simp⟩) hH ?_
  simp only [wA, wB, wC, wD]
  refine wTk 2 (.pointer (some ⟨gx, 1, none⟩)) rfl (by kernel_rfl) (panic_put rfl (by decide)) (Or.inl ⟨by rfl, fun w' h => by clear h; go_simp⟩) hH ?_
  simp only [wA, wB, wC, wD]
  refine wTk 3 (.map (some mm)) rfl (by kernel_rfl) (panic_put rfl (by decide)) (Or.inl ⟨by rfl, fun w' h => by have q1 := (HI3.out.b.below h).cell (i := 1) rfl; clear h; go_simp⟩) hH ?_
  simp only [wA, wB, wC, wD]
  refine wTk 4 (.slice na nn nc) rfl (by kernel_rfl) (panic_put rfl (by decide)) (Or.inl ⟨by rfl, fun w' h => by clear h; go_simp⟩) hH ?_
  simp only [wA, wB, wC, wD]
  refine wRd 5 (by kernel_rfl) rfl (fun K hK => ?_)
  go_simp
  refine (HTN.out _ (HLN.out.below hH)).mono ?_
  rintro e U1 ⟨rfl, hb⟩
  refine hK.out _ _ (hH.trans (hb.mono hH.size)) (fun hH => ?_)
  clear hK K hb
  try simp only [wA, wB, wC, wD]
  refine wTk 6 (.slice oa on oc) rfl (by kernel_rfl) (panic_put rfl (by decide)) (Or.inl ⟨by rfl, fun w' h => by have hl := (HI3.out.below h).p.at_ Tryz.underlying9 Tryz.underlying195 (zero7s _) (s := KN) HKN.out; rw [show (ti KN).getD (.slice none 0 0) = .slice oa on oc from HOA.out] at hl; clear h; go_simp⟩) hH ?_
  simp only [wA, wB, wC, wD]
  refine wRd 7 (by kernel_rfl) rfl (fun K hK => ?_)
  go_simp
  refine hK.out _ _ hH (fun hH => ?_)
  clear hK K
  try simp only [wA, wB, wC, wD]
  refine wpAnyH_done (by kernel_rfl) ?_ _
  have HB9 := hm7 hH
  clear hH
  go_wp2
  have c5 := (HX3.out.b.below HB9.out).cell (i := 5) rfl
  have z5 := (HX3.out.b.below HB9.out).froz 5
  refine leaves_cons (f := 154) (args := #[.pointer (some ⟨g, 5, none⟩)]) (by simp) (by simp [go_sem]) ?_
  refine (Go.MuLone.unlock_deferred Tryz.muLib ⟨g, 5, none⟩ .returning _ c5 z5).mono ?_
  rintro e u' w'' ⟨rfl, rfl, rfl⟩
  refine ⟨_, results_tmp rfl _ _ _, ?_⟩
  have := po_end (m := m) (nums := nums) HX3.out HI3.out (HFW.out.tr HF3.out) (by have := HNX.out; omega) HB9.out (fun b hb => Or.inl hb) (fun b hb => hb.elim Or.inl fun hb => (HF1.out b hb).imp id fun hb => Nat.le_trans HFW.out.size hb) (fun b hb => Or.inr hb) HG1.out HFG.out
  rw [HKE.out] at this
  rwa [HOA.out] at this
 | none =>
  have hl : (Instr.lookup 116 (.map (some mx)) (.string KS) false).run Tryz.prog w2 = .ok (.pointer none) w2 := by
   have := HX2.out.x.at_ Tryz.underlying9 Tryz.underlying116 (zero7p w2) HKS.out
   rwa [hk] at this
  have m2 := mk_map7 195
  obtain ⟨w4, hst, hmp, hgr⟩ := (HX2.out.x.below ((below1 w2 (.map #[] 0)).trans ((below1 _ (.cells #[.slice sa sn sc, .map (some w2.heap.size), .int .i64 0] 197)).mono (by simp)))).store Tryz.underlying9 Tryz.underlying116 (s := KS) (by have := HNX.out; unfold maxLen; omega) HKS.out (.pointer (some ⟨w2.heap.size + 1, 0, none⟩))
  have e0 : (t KS).isSome = false := by rw [hk]; rfl
  rw [e0] at hmp
  have hM := rx_made HX2.out hk HKC.out.symm hcl HCW.out HST2.out (fun b hb => ⟨(HG.out b hb).1, Nat.lt_of_lt_of_le (HG.out b hb).2 HFW.out.size⟩) hmp hgr
  have HX4 := hm7 hM
  have HFF : Hid (Fr F w2 w4) := ((Fr.of (below1 w2 (.map #[] 0))).alloc _).tr (Fr.grown hgr fun b e => by cases e; exact HX2.out.Fx)
  have HSZ : Hid (w2.heap.size <= w4.heap.size) := HFF.out.size
  have c7b : ((w2.alloc (.map #[] 0)).alloc (.cells #[.slice sa sn sc, .map (some w2.heap.size), .int .i64 0] 197)).cell? ⟨g, 7, none⟩ = some (.map (some mx)) := ((HX2.out.b.below (below1 _ _)).below (below1 _ _)).cell (i := 7) rfl
  have c1b := hM.b.cell (i := 1) rfl
  have hk4 : mput t KS (.pointer (some ⟨w2.heap.size + 1, 0, none⟩)) KS = some (.pointer (some ⟨w2.heap.size + 1, 0, none⟩)) := if_pos rfl
  have HTK := hm7 (rx_take hM hk4 HKC.out.symm hcl HCW.out)
  have HG1 : Hid (∀ f1 : Nat -> Prop, ∀ w', RX w' g (fun b => (F b ∨ b = w2.heap.size ∨ b = w2.heap.size + 1) ∨ f1 b) (fun b => S b ∨ G b) s 1 (.slice ra s.rows.length rc) rvs mp mx (nx + 1) (mput t KS (.pointer (some ⟨w2.heap.size + 1, 0, none⟩))) (fput (fput f KS fun b => b = w2.heap.size ∨ b = w2.heap.size + 1) KS f1) -> ¬ f1 g) := fun f1 w' hr hg => (hr.Fi KS g (by rw [hk4]; rfl) (by rw [fput_same]; exact hg)).2.1 rfl
  have hgr2 : hgr = hgr := rfl
  clear hk e0 hM hmp hk4 hgr hgr2 hml
  go_upto_region 8 with fail
  have HW2 : Hid (w.heap.size <= w2.heap.size) := HFW.out.size
  revert HTK HG1
  generalize hgx : w2.heap.size + 1 = gx
  intro HTK HG1
  have HGX := hm7 hgx
  clear hgx
  go_upto_region 9 with (go_at_call 155; refine HTK.out.mono ?_; rintro e w3 ⟨rfl, f1, hix, hrx, hfr0, hf1⟩; have HGG := hm7 (HG1.out f1 w3 hrx))
  clear hl c7 c1 c7b c1b HTK HG1 hst m2
  have HG1 := HGG
  have hfr : Fr F w2 w3 := HFF.out.trans hfr0 fun x hx hq => by
   rcases hq with h | h | h
   ·exact h
   ·omega
   ·have := HGX.out; omega
  have HFB : Hid (∀ b, (F b ∨ b = w2.heap.size ∨ b = gx) ∨ f1 b -> F b ∨ w.heap.size <= b) := fun b hb => by
   have h1 := HGX.out
   have h2 := HW2.out
   have h3 := HSZ.out
   have q : (F b ∨ b = w2.heap.size ∨ b = gx) -> F b ∨ w.heap.size <= b := fun hb => by
    rcases hb with h | h | h
    ·exact Or.inl h
    ·right; omega
    ·right; omega
   rcases hb with hb | hb
   ·exact q hb
   ·rcases hf1 b hb with h | h
    ·exact q h
    ·right; omega
  obtain ⟨cv, mm, cc, ti, hi3⟩ := hix.e
  have HI3 := hm7 hi3
  have HX3 := hm7 hrx
  have HF3 := hm7 hfr
  have HF1 := hm7 hf1
  have HLN : Hid (Li N w3 (.slice na nn nc) nums) := HLN2.out.fr hfr fun b _ hb => HNF.out b hb
  obtain ⟨oa, on, oc, hoa⟩ := ow_form (hi3.at_ KN).1
  have HOA : Hid (at7 ti KN = .slice oa on oc) := hoa
  clear hix hrx hfr hf1 hi3 hoa
  refine wp_region_held_drew (S := fun w' => Below w3.heap.size w3 w') (by kernel_rfl) (Below.refl _ _).drew (fun hH => ?_)
  revert hH
  generalize w3.drew = U0
  intro hH
  refine wTk 0 (.pointer (some ⟨gx, 0, none⟩)) rfl (by kernel_rfl) (panic_put rfl (by decide)) (Or.inl ⟨by rfl, fun w' h => by clear h; go_simp⟩) hH ?_
  simp only [wA, wB, wC, wD]
  refine wTk 1 (.pointer (some ⟨gx, 0, none⟩)) rfl (by kernel_rfl) (panic_put rfl (by decide)) (Or.inl ⟨by rfl, fun w' h => by clear h; go_simp⟩) hH ?_
  simp only [wA, wB, wC, wD]
  refine wTk 2 (.pointer (some ⟨gx, 1, none⟩)) rfl (by kernel_rfl) (panic_put rfl (by decide)) (Or.inl ⟨by rfl, fun w' h => by clear h; go_simp⟩) hH ?_
  simp only [wA, wB, wC, wD]
  refine wTk 3 (.map (some mm)) rfl (by kernel_rfl) (panic_put rfl (by decide)) (Or.inl ⟨by rfl, fun w' h => by have q1 := (HI3.out.b.below h).cell (i := 1) rfl; clear h; go_simp⟩) hH ?_
  simp only [wA, wB, wC, wD]
  refine wTk 4 (.slice na nn nc) rfl (by kernel_rfl) (panic_put rfl (by decide)) (Or.inl ⟨by rfl, fun w' h => by clear h; go_simp⟩) hH ?_
  simp only [wA, wB, wC, wD]
  refine wRd 5 (by kernel_rfl) rfl (fun K hK => ?_)
  go_simp
  refine (HTN.out _ (HLN.out.below hH)).mono ?_
  rintro e U1 ⟨rfl, hb⟩
  refine hK.out _ _ (hH.trans (hb.mono hH.size)) (fun hH => ?_)
  clear hK K hb
  try simp only [wA, wB, wC, wD]
  refine wTk 6 (.slice oa on oc) rfl (by kernel_rfl) (panic_put rfl (by decide)) (Or.inl ⟨by rfl, fun w' h => by have hl := (HI3.out.below h).p.at_ Tryz.underlying9 Tryz.underlying195 (zero7s _) (s := KN) HKN.out; rw [show (ti KN).getD (.slice none 0 0) = .slice oa on oc from HOA.out] at hl; clear h; go_simp⟩) hH ?_
  simp only [wA, wB, wC, wD]
  refine wRd 7 (by kernel_rfl) rfl (fun K hK => ?_)
  go_simp
  refine hK.out _ _ hH (fun hH => ?_)
  clear hK K
  try simp only [wA, wB, wC, wD]
  refine wpAnyH_done (by kernel_rfl) ?_ _
  have HB9 := hm7 hH
  clear hH
  go_wp2
  have c5 := (HX3.out.b.below HB9.out).cell (i := 5) rfl
  have z5 := (HX3.out.b.below HB9.out).froz 5
  refine leaves_cons (f := 154) (args := #[.pointer (some ⟨g, 5, none⟩)]) (by simp) (by simp [go_sem]) ?_
  refine (Go.MuLone.unlock_deferred Tryz.muLib ⟨g, 5, none⟩ .returning _ c5 z5).mono ?_
  rintro e u' w'' ⟨rfl, rfl, rfl⟩
  refine ⟨_, results_tmp rfl _ _ _, ?_⟩
  have := po_end (m := m) (nums := nums) HX3.out HI3.out (HFW.out.tr HF3.out) (by have := HNX.out; omega) HB9.out (fun b hb => Or.inl (Or.inl hb)) (fun b hb => HFB.out b hb) (fun b hb => Or.inr hb) HG1.out HFG.out
  rw [HKE.out] at this
  rwa [HOA.out] at this
end Go.Proofs.YtechceagghcipabGreatDoor

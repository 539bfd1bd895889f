import Derived.Test.YtechceagghcipaaGreatDoorRA2
namespace Go.Proofs.YtechceagghcipaaGreatDoor
open Go.RowKit

structure St7 where
 wd : Nat
 rows : List (List Int)
 nf : Nat
 xf : Nat
structure St7.Ok (s : St7) : Prop where
 nd : s.rows.Nodup
 wid : ∀ r ∈ s.rows, r.length = s.wd
 w : ∀ r ∈ s.rows, w64 r
 a : s.nf <= s.xf
 b : s.xf <= s.rows.length
 c : s.rows.length <= 10000000000
 d : s.rows ≠ [] -> s.wd <= 10000000000
 e : s.wd <= 9223372036854775807
def txi (rows : List (List Int)) (k : ByteArray) : Option Nat := rows.findIdx? fun r => decide (tx r = k)
def plF (rows : List (List Int)) : ByteArray -> Option Value := fun k => (txi rows k).map fun i => .int .i64 (i : Int)
def nums7 (cols : List Nat) (r : List Int) : List Int := cols.map fun c => r[c]?.getD 0
def grp (rows : List (List Int)) (cols : List Nat) (n : Nat) (k : ByteArray) : List Nat := (List.range n).filter fun i => decide (tx (nums7 cols (rows[i]?.getD [])) = k)
def nat7 (l : List Nat) : List Int := l.map fun (i : Nat) => (i : Int)
structure IX (w : World) (gx : Nat) (f S : Nat -> Prop) (rows : List (List Int)) (cols : List Nat) (n : Nat) : Prop where
 ex : ∃ (cv : Value) (m c : Nat) (t : ByteArray -> Option Value), Bk w gx #[cv, .map (some m), .int .i64 (n : Int)] 210 /\ Li S w cv (nat7 cols) /\ Mp Tryz.prog 9 w m c t /\ f gx /\ f m /\ c <= n ∧
  (∀ k, t k = none -> grp rows cols n k = []) ∧
  (∀ k v, t k = some v -> grp rows cols n k ≠ [] /\ OwI w 0 v (nat7 (grp rows cols n k)) /\ ∀ b, v.ownBlock = some b -> f b) ∧
  ∀ k k' v v', t k = some v -> t k' = some v' -> k ≠ k' -> v.ownBlock ≠ v'.ownBlock
theorem IX.same {w w' : World} {gx : Nat} {f S : Nat -> Prop} {rows : List (List Int)} {cols : List Nat} {n : Nat} (h : IX w gx f S rows cols n) (hs : w.heap.size <= w'.heap.size) (hb : ∀ b, f b ∨ S b -> b < w.heap.size -> w'.heap[b]? = w.heap[b]?) : IX w' gx f S rows cols n := by
 obtain ⟨cv, m, c, t, h1, h2, h3, h4, h5, h6, h7, h8, h9⟩ := h.ex
 refine ⟨cv, m, c, t, (hb gx (Or.inl h4) h1.lt).trans h1, ?_, h3.same (hb m (Or.inl h5) h3.lt), h4, h5, h6, h7, fun k v hv => ⟨(h8 k v hv).1, row7 (h8 k v hv).2.1 fun g hg => hb g (Or.inl ((h8 k v hv).2.2 g hg)) (World.ownsRow.lt (h8 k v hv).2.1 g hg).2, (h8 k v hv).2.2⟩, h9⟩
 obtain ⟨a, cap, rfl, q1, q2, q3, q4⟩ := h2
 refine ⟨a, cap, rfl, q1, q2, q3, q4.imp id ?_⟩
 rintro ⟨b, o, rfl, q4, q5, q6⟩
 exact ⟨b, o, rfl, Nat.lt_of_lt_of_le q4 hs, q5, fun i x hx => by rw [World.cell?_of_block (w := w) (a := ⟨b, o + i, none⟩) (hb b (Or.inr q5) q4)]; exact q6 i x hx⟩
theorem IX.mono {w : World} {gx : Nat} {f f' S S' : Nat -> Prop} {rows : List (List Int)} {cols : List Nat} {n : Nat} (h : IX w gx f S rows cols n) (hf : ∀ b, f b -> f' b) (hS : ∀ b, S b -> S' b) : IX w gx f' S' rows cols n := by
 obtain ⟨cv, m, c, t, h1, h2, h3, h4, h5, h6, h7, h8, h9⟩ := h.ex
 exact ⟨cv, m, c, t, h1, h2.mono fun b _ hb => hS b hb, h3, hf _ h4, hf _ h5, h6, h7, fun k v hv => ⟨(h8 k v hv).1, (h8 k v hv).2.1, fun b hb => hf b ((h8 k v hv).2.2 b hb)⟩, h9⟩
def Rws (w : World) (S : Nat -> Prop) (rv : Value) (rvs : List Value) (rows : List (List Int)) : Prop :=
 w.ownsRow 0 71 1 rv rows.length rvs /\ ∀ (i : Nat) (r : List Int), rows[i]? = some r -> ∃ v, rvs[i]? = some v /\ Li S w v r
theorem Li.same {F : Nat -> Prop} {w w' : World} {v : Value} {l : List Int} (h : Li F w v l) (hs : w.heap.size <= w'.heap.size) (hb : ∀ b, F b -> b < w.heap.size -> w'.heap[b]? = w.heap[b]?) : Li F w' v l := by
 obtain ⟨a, cap, rfl, q1, q2, q3, q4⟩ := h
 refine ⟨a, cap, rfl, q1, q2, q3, q4.imp id ?_⟩
 rintro ⟨b, o, rfl, q4, q5, q6⟩
 exact ⟨b, o, rfl, Nat.lt_of_lt_of_le q4 hs, q5, fun i x hx => by rw [World.cell?_of_block (w := w) (a := ⟨b, o + i, none⟩) (hb b q5 q4)]; exact q6 i x hx⟩
structure RX (w : World) (g : Nat) (F S : Nat -> Prop) (s : St7) (lk : Int) (rv : Value) (rvs : List Value) (mp mx nx : Nat) (t : ByteArray -> Option Value) (f : ByteArray -> Nat -> Prop) : Prop where
 ok : s.Ok
 b : Bk w g #[.int .i64 (s.wd : Int), rv, .int .i64 (s.nf : Int), .int .i64 (s.xf : Int), .map (some mp), .int .i32 lk, .int .u32 0, .map (some mx)] 123
 r : Rws w S rv rvs s.rows
 p : Mp Tryz.prog 9 w mp s.rows.length (plF s.rows)
 x : Mp Tryz.prog 9 w mx nx t
 i : ∀ k v, t k = some v -> ∃ gx cols n, v = .pointer (some ⟨gx, 0, none⟩) /\ k = tx (nat7 cols) /\ cols.length <= 10000000000 /\ (∀ c ∈ cols, c < s.wd) /\ n <= s.rows.length /\ IX w gx (f k) S s.rows cols n
 Fg : F g
 Fr : ∀ b, rv.ownBlock = some b -> F b
 Fp : F mp
 Fx : F mx
 Fi : ∀ k b, (t k).isSome = true -> f k b -> F b /\ b ≠ g /\ b ≠ mp /\ b ≠ mx /\ rv.ownBlock ≠ some b
 d : ∀ k k' b, k ≠ k' -> (t k).isSome = true -> (t k').isSome = true -> f k b -> ¬ f k' b
 q : ∀ b, F b -> ¬ S b /\ b < w.heap.size
 pm : mp ≠ mx
 q2 : ∀ b, S b -> b < w.heap.size
theorem RX.same {w w' : World} {g : Nat} {F S : Nat -> Prop} {s : St7} {lk : Int} {rv : Value} {rvs : List Value} {mp mx nx : Nat} {t : ByteArray -> Option Value} {f : ByteArray -> Nat -> Prop} (h : RX w g F S s lk rv rvs mp mx nx t f) (hs : w.heap.size <= w'.heap.size) (hb : ∀ b, F b ∨ S b -> b < w.heap.size -> w'.heap[b]? = w.heap[b]?) : RX w' g F S s lk rv rvs mp mx nx t f := by
 refine ⟨h.ok, (hb g (Or.inl h.Fg) h.b.lt).trans h.b, ⟨row7 h.r.1 fun b hb' => hb b (Or.inl (h.Fr b hb')) (World.ownsRow.lt h.r.1 b hb').2, fun i r hr => ?_⟩, h.p.same (hb mp (Or.inl h.Fp) h.p.lt), h.x.same (hb mx (Or.inl h.Fx) h.x.lt), fun k v hv => ?_, h.Fg, h.Fr, h.Fp, h.Fx, h.Fi, h.d, fun b hF => ⟨(h.q b hF).1, Nat.lt_of_lt_of_le (h.q b hF).2 hs⟩, h.pm, fun b hS => Nat.lt_of_lt_of_le (h.q2 b hS) hs⟩
 ·obtain ⟨v, h1, h2⟩ := h.r.2 i r hr
  exact ⟨v, h1, h2.same hs fun b hS => hb b (Or.inr hS)⟩
 ·obtain ⟨gx, cols, n, h1, h2, h3, h4, h5, h6⟩ := h.i k v hv
  exact ⟨gx, cols, n, h1, h2, h3, h4, h5, h6.same hs fun b hf => hb b (hf.imp (fun hf => (h.Fi k b (by rw [hv]; rfl) hf).1) id)⟩
def RM (w : World) (g : Nat) (F S : Nat -> Prop) (m : Nat) (s : St7) : Prop := ∃ rv rvs mp mx nx t f, nx <= m /\ RX w g F S s 0 rv rvs mp mx nx t f
theorem RM.same {w w' : World} {g : Nat} {F S : Nat -> Prop} {m : Nat} {s : St7} (h : RM w g F S m s) (hs : w.heap.size <= w'.heap.size) (hb : ∀ b, F b ∨ S b -> b < w.heap.size -> w'.heap[b]? = w.heap[b]?) : RM w' g F S m s := by
 obtain ⟨rv, rvs, mp, mx, nx, t, f, hn, h⟩ := h
 exact ⟨rv, rvs, mp, mx, nx, t, f, hn, h.same hs hb⟩
theorem RM.below {w w' : World} {g : Nat} {F S : Nat -> Prop} {m : Nat} {s : St7} (h : RM w g F S m s) (hb : Below w.heap.size w w') : RM w' g F S m s := h.same hb.size fun b _ hl => hb.block b hl
theorem RM.ok {w : World} {g : Nat} {F S : Nat -> Prop} {m : Nat} {s : St7} (h : RM w g F S m s) : s.Ok := by obtain ⟨rv, rvs, mp, mx, nx, t, f, hn, h⟩ := h; exact h.ok
end Go.Proofs.YtechceagghcipaaGreatDoor

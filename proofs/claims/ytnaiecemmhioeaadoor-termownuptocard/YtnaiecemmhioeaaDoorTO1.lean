import Derived.Test.YtnaiecemmhioeaaDoorB7
import Derived.Test.YtnaiecemmhioeaaDoorA2
import Derived.Test.YtnaiecemmhioeaaDoorV2
import Derived.Test.YtnaiecemmhioeaaDoorE1
/-
  Blocks of memory.
-/
namespace Go.Proofs.YtnaiecemmhioeaaDoor
open Go.RowKit

/-- Block g holds these cells. -/
def Blk (W : World) (g : Nat) (c : Array Value) (t : TypeId) : Prop := W.heap[g]? = some (.cells c t (0, 0))
theorem Blk.lt {W : World} {g : Nat} {c : Array Value} {t : TypeId} (h : Blk W g c t) : g < W.heap.size := (Array.getElem?_eq_some_iff.1 h).1
theorem Blk.later {W W' : World} {g : Nat} {c : Array Value} {t : TypeId} (h : Blk W g c t) (hb : Below W.heap.size W W') : Blk W' g c t := (hb.block _ h.lt).trans h
theorem Blk.new (W : World) (c : Array Value) (t : TypeId) : Blk (W.alloc (.cells c t)) W.heap.size c t := heap_alloc_new _ _
theorem Blk.old (W : World) (c : Array Value) (t : TypeId) (o : Obj) : Blk ((W.alloc (.cells c t)).alloc o) W.heap.size c t := (Blk.new W c t).later (below1 _ _)
theorem Blk.new2 (W : World) (c : Array Value) (t : TypeId) (o : Obj) : Blk ((W.alloc o).alloc (.cells c t)) (W.heap.size + 1) c t := by
  have h := Blk.new (W.alloc o) c t
  rwa [show (W.alloc o).heap.size = W.heap.size + 1 by simp] at h
end Go.Proofs.YtnaiecemmhioeaaDoor
/-
  TermOwn's lists: how they are read; own.
-/
namespace Go.Proofs.YtnaiecemmhioeaaDoor
open Go.RowKit
attribute [local go_sem ↓] Go.wp_at_zero Go.wp_at_succ

def oB : ByteArray := ⟨#[111, 119, 110]⟩
/-- The mark of the list of this number. -/
def oT (n : Nat) : Tm := ⟨-7, (n : Int), oB⟩
def oD (n : Nat) : Bd := ⟨-1 - (n : Int), oT n⟩
def oI (n : Nat) : Int := -1 - (n : Int)
set_option maxHeartbeats 400000 in
theorem own_any (n : Nat) (w : World) : Calls Tryd.prog 16 #[.int .i64 (n : Int)] w fun e w' => e = .returned (oT n).v ∧ Below w.heap.size w w' := by
  have hz := heap_alloc_new w (.cells #[.int .i64 (-7), .int .i64 (n : Int), .string ⟨#[111, 119, 110]⟩] 23)
  have q0 : (w.alloc (.cells #[.int .i64 (-7), .int .i64 (n : Int), .string ⟨#[111, 119, 110]⟩] 23)).cell? ⟨w.heap.size, 0, none⟩ = some (.int .i64 (-7)) := cell_of_row _ _ _ _ _ _ hz
  have q1 : (w.alloc (.cells #[.int .i64 (-7), .int .i64 (n : Int), .string ⟨#[111, 119, 110]⟩] 23)).cell? ⟨w.heap.size, 1, none⟩ = some (.int .i64 (n : Int)) := cell_of_row _ _ _ _ _ _ hz
  have q2 : (w.alloc (.cells #[.int .i64 (-7), .int .i64 (n : Int), .string ⟨#[111, 119, 110]⟩] 23)).cell? ⟨w.heap.size, 2, none⟩ = some (.string ⟨#[111, 119, 110]⟩) := cell_of_row _ _ _ _ _ _ hz
  clear hz
  go_enter Tryd.func16, Tryd.ntmps16
  go_wp2
  exact bodyPost_ret (v := (oT n).v) (by simp [results, Tryd.results16, go_sem, q0, q1, q2, oT, oB]) rfl ⟨rfl, below1 _ _⟩
/-- A list of lists, in a block of its own: what stands in it. -/
def Ss (w : World) (v : Value) (vs : List Value) : Prop := (v = .slice none 0 0 ∧ vs = []) ∨ ∃ b cap, v = .slice (some ⟨b, 0, none⟩) vs.length cap ∧ b < w.heap.size ∧ ∀ i u, vs[i]? = some u → w.cell? ⟨b, i, none⟩ = some u
theorem Ss.later {w w' : World} {v : Value} {vs : List Value} (h : Ss w v vs) (hb : Below w.heap.size w w') : Ss w' v vs := by
  rcases h with h | ⟨b, cap, h1, h2, h3⟩
  · exact Or.inl h
  · exact Or.inr ⟨b, cap, h1, Nat.lt_of_lt_of_le h2 hb.size, fun i u hu => cell_step hb h2 (h3 i u hu)⟩
theorem Ss.form {w : World} {v : Value} {vs : List Value} (h : Ss w v vs) : ∃ a cap, v = .slice a vs.length cap := by
  rcases h with ⟨rfl, rfl⟩ | ⟨b, cap, rfl, -⟩
  · exact ⟨none, 0, rfl⟩
  · exact ⟨_, _, rfl⟩
theorem Ss.get {w : World} {a : Option Addr} {n cap j : Nat} {vs : List Value} {u : Value} (h : Ss w (.slice a n cap) vs) (hu : vs[j]? = some u) : ∃ b, a = some ⟨b, 0, none⟩ ∧ b < w.heap.size ∧ w.cell? ⟨b, j, none⟩ = some u := by
  rcases h with ⟨-, rfl⟩ | ⟨b, cap', e, h2, h3⟩
  · simp at hu
  · simp only [Value.slice.injEq] at e
    exact ⟨b, e.1, h2, h3 j u hu⟩
/-- Numbers in memory. -/
def Ns (w : World) (v : Value) (l : List Int) : Prop := ∃ a cap, v = .slice a l.length cap ∧ l.length < 1000000000000000000 ∧ (l = [] ∨ ∃ b o, a = some ⟨b, o, none⟩ ∧ b < w.heap.size ∧ ∀ i x, l[i]? = some x → w.cell? ⟨b, o + i, none⟩ = some (.int .i64 x))
theorem Ns.later {w w' : World} {v : Value} {l : List Int} (h : Ns w v l) (hb : Below w.heap.size w w') : Ns w' v l := by
  obtain ⟨a, cap, h1, h2, h3⟩ := h
  refine ⟨a, cap, h1, h2, ?_⟩
  rcases h3 with h3 | ⟨b, o, e, h4, h5⟩
  · exact Or.inl h3
  · exact Or.inr ⟨b, o, e, Nat.lt_of_lt_of_le h4 hb.size, fun i x hx => cell_step hb h4 (h5 i x hx)⟩
/-- Lists of lists read, each full of its own mark. -/
structure RdT (w : World) (v : Value) (xs : List (Value × Nat)) : Prop where
  o : Ss w v (xs.map (·.1))
  i : ∀ k x, xs[k]? = some x → Ts w x.1 (List.replicate x.2 (oT k))
structure RdB (w : World) (v : Value) (xs : List (Value × Nat)) : Prop where
  o : Ss w v (xs.map (·.1))
  i : ∀ k x, xs[k]? = some x → Bs w x.1 (List.replicate x.2 (oD k))
structure RdN (w : World) (v : Value) (xs : List (Value × Nat)) : Prop where
  o : Ss w v (xs.map (·.1))
  i : ∀ k x, xs[k]? = some x → Ns w x.1 (List.replicate x.2 (oI k))
theorem RdT.later {w w' : World} {v : Value} {xs : List (Value × Nat)} (h : RdT w v xs) (hb : Below w.heap.size w w') : RdT w' v xs := ⟨h.o.later hb, fun k x hx => (h.i k x hx).later hb⟩
theorem RdB.later {w w' : World} {v : Value} {xs : List (Value × Nat)} (h : RdB w v xs) (hb : Below w.heap.size w w') : RdB w' v xs := ⟨h.o.later hb, fun k x hx => (h.i k x hx).later hb⟩
theorem RdN.later {w w' : World} {v : Value} {xs : List (Value × Nat)} (h : RdN w v xs) (hb : Below w.heap.size w w') : RdN w' v xs := ⟨h.o.later hb, fun k x hx => (h.i k x hx).later hb⟩
end Go.Proofs.YtnaiecemmhioeaaDoor

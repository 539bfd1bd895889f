/-
  hearsaylaw12: example. (Written by HC10.py.)
-/
import Derived.Test.YtbhdalchnbfohaaHC9
import Derived.Test.YtbhdalchnbfohaaHC5
namespace Go.Proofs.Ytbhdalchnbfohaa
open Go.RowKit
attribute [local go_sem ↓] Go.wp_at_zero Go.wp_at_succ

/-- The steps of the chapter's example; the facts that the second and the last tell. -/
def S4 : List Sk := [(0, [], []), (1, [⟨2, 0, ⟨#[98, 111, 98]⟩⟩], [0]), (3, [], []), (2, [⟨2, 0, ⟨#[98, 111, 98]⟩⟩, ⟨2, 0, ⟨#[99, 97, 114, 108]⟩⟩], [1, 2])]
def gd4 : At := ⟨⟨0, 0, ⟨#[]⟩⟩, ⟨#[103, 111, 111, 100]⟩, [⟨2, 0, ⟨#[98, 111, 98]⟩⟩]⟩
def my4 : At := ⟨⟨0, 0, ⟨#[]⟩⟩, ⟨#[109, 97, 121]⟩, [⟨2, 0, ⟨#[98, 111, 98]⟩⟩]⟩
theorem con4 : conH K4 S4 = .ok [fa1, gd4, fa6, my4] := by kernel_rfl
theorem che4a : cheH K4 K4 S4 my4 = 0 := by kernel_rfl
theorem che4b : cheH K4 K4 S4 gd4 = 128 := by kernel_rfl
theorem che4c : cheH (K4.take 3) K4 S4 my4 = 127 := by kernel_rfl
def E4 (w : World) (e : Ending) (w' : World) : Prop := ∃ (gr : Nat) (R : List Cm) (gs : Nat) (S : List St) (gf : Nat), e = .returned (.tuple #[.agg #[.slice (some ⟨gr, 0, none⟩) 4 4, .slice (some ⟨gs, 0, none⟩) 4 4], my4.v (.slice (some ⟨gf, 0, none⟩) 1 1)]) ∧ CsP w' (.slice (some ⟨gr, 0, none⟩) 4 4) R ∧ R.map Cm.key = K4 ∧ (∀ c ∈ R, c.wf) ∧ SsP w' (.slice (some ⟨gs, 0, none⟩) 4 4) S ∧ S.map St.key = S4 ∧ Ts w' (.slice (some ⟨gf, 0, none⟩) 1 1) my4.args ∧ Below w.heap.size w w' ∧ OwnS w' w.heap.size (.slice (some ⟨gs, 0, none⟩) 4 4) S ∧ ∀ Y : World, w'.heap.size ≤ Y.heap.size → (∀ b, w.heap.size + 2 ≤ b → b < w'.heap.size → b ≠ gs → Y.heap[b]? = w'.heap[b]?) → CsP Y (.slice (some ⟨gr, 0, none⟩) 4 4) R ∧ (∀ s ∈ S, s.ok Y) ∧ Ts Y (.slice (some ⟨gf, 0, none⟩) 1 1) my4.args
theorem hm {p : Prop} (h : p) : Hid p := h
theorem ns_blk {w : World} {g n : Nat} {l : List Int} (h : CBlk w g (nbs l).toArray 3) (hn : l.length = n) (hl : n ≤ 1000) : Ns w (.slice (some ⟨g, 0, none⟩) n n) l := by
  subst hn
  refine ⟨_, _, rfl, by omega, Or.inr ⟨g, 0, rfl, h.lt, fun i x hx => ?_⟩⟩
  rw [cell_of_row _ _ _ _ _ _ h, Nat.zero_add]
  simp [nbs, hx]
theorem ex_ok {Y : World} {t1 n1 t2 n2 : Nat} (h1 : CBlk Y t1 #[.int .i64 2, .int .i64 0, .string ⟨#[98, 111, 98]⟩] 27) (h2 : CBlk Y n1 #[.int .i64 0] 3) (h3 : CBlk Y t2 #[.int .i64 2, .int .i64 0, .string ⟨#[98, 111, 98]⟩, .int .i64 2, .int .i64 0, .string ⟨#[99, 97, 114, 108]⟩] 27) (h4 : CBlk Y n2 #[.int .i64 1, .int .i64 2] 3) : ∀ c ∈ [(⟨0, [], .slice none 0 0, [], .slice none 0 0⟩ : St), (⟨1, [⟨2, 0, ⟨#[98, 111, 98]⟩⟩], .slice (some ⟨t1, 0, none⟩) 1 1, [0], .slice (some ⟨n1, 0, none⟩) 1 1⟩ : St), (⟨3, [], .slice none 0 0, [], .slice none 0 0⟩ : St), (⟨2, [⟨2, 0, ⟨#[98, 111, 98]⟩⟩, ⟨2, 0, ⟨#[99, 97, 114, 108]⟩⟩], .slice (some ⟨t2, 0, none⟩) 2 2, [1, 2], .slice (some ⟨n2, 0, none⟩) 2 2⟩ : St)], c.ok Y := by
  intro c hc
  have t0 : Ts Y (.slice none 0 0) [] := ⟨none, 0, rfl, by simp, Or.inl rfl⟩
  have n0 : Ns Y (.slice none 0 0) [] := ⟨none, 0, rfl, by simp, Or.inl rfl⟩
  simp only [List.mem_cons, List.not_mem_nil, or_false] at hc
  rcases hc with rfl | rfl | rfl | rfl
  · exact ⟨t0, n0⟩
  · exact ⟨ts_tms h1 rfl rfl (by decide), ns_blk (l := [0]) h2 rfl (by decide)⟩
  · exact ⟨t0, n0⟩
  · exact ⟨ts_tms h3 rfl rfl (by decide), ns_blk (l := [1, 2]) h4 rfl (by decide)⟩
theorem ex_ss {Y : World} {t1 n1 t2 n2 s B : Nat} (hB : B ≤ s) (hok : ∀ c ∈ [(⟨0, [], .slice none 0 0, [], .slice none 0 0⟩ : St), (⟨1, [⟨2, 0, ⟨#[98, 111, 98]⟩⟩], .slice (some ⟨t1, 0, none⟩) 1 1, [0], .slice (some ⟨n1, 0, none⟩) 1 1⟩ : St), (⟨3, [], .slice none 0 0, [], .slice none 0 0⟩ : St), (⟨2, [⟨2, 0, ⟨#[98, 111, 98]⟩⟩, ⟨2, 0, ⟨#[99, 97, 114, 108]⟩⟩], .slice (some ⟨t2, 0, none⟩) 2 2, [1, 2], .slice (some ⟨n2, 0, none⟩) 2 2⟩ : St)], c.ok Y) (h5 : CBlk Y s #[.int .i64 0, .slice none 0 0, .slice none 0 0, .int .i64 1, .slice (some ⟨t1, 0, none⟩) 1 1, .slice (some ⟨n1, 0, none⟩) 1 1, .int .i64 3, .slice none 0 0, .slice none 0 0, .int .i64 2, .slice (some ⟨t2, 0, none⟩) 2 2, .slice (some ⟨n2, 0, none⟩) 2 2] 35) :
    SsP Y (.slice (some ⟨s, 0, none⟩) 4 4) [(⟨0, [], .slice none 0 0, [], .slice none 0 0⟩ : St), (⟨1, [⟨2, 0, ⟨#[98, 111, 98]⟩⟩], .slice (some ⟨t1, 0, none⟩) 1 1, [0], .slice (some ⟨n1, 0, none⟩) 1 1⟩ : St), (⟨3, [], .slice none 0 0, [], .slice none 0 0⟩ : St), (⟨2, [⟨2, 0, ⟨#[98, 111, 98]⟩⟩, ⟨2, 0, ⟨#[99, 97, 114, 108]⟩⟩], .slice (some ⟨t2, 0, none⟩) 2 2, [1, 2], .slice (some ⟨n2, 0, none⟩) 2 2⟩ : St)] ∧ OwnS Y B (.slice (some ⟨s, 0, none⟩) 4 4) [(⟨0, [], .slice none 0 0, [], .slice none 0 0⟩ : St), (⟨1, [⟨2, 0, ⟨#[98, 111, 98]⟩⟩], .slice (some ⟨t1, 0, none⟩) 1 1, [0], .slice (some ⟨n1, 0, none⟩) 1 1⟩ : St), (⟨3, [], .slice none 0 0, [], .slice none 0 0⟩ : St), (⟨2, [⟨2, 0, ⟨#[98, 111, 98]⟩⟩, ⟨2, 0, ⟨#[99, 97, 114, 108]⟩⟩], .slice (some ⟨t2, 0, none⟩) 2 2, [1, 2], .slice (some ⟨n2, 0, none⟩) 2 2⟩ : St)] := by
  refine ⟨⟨Or.inr ⟨⟨s, 0, none⟩, 4, rfl, Or.inr ⟨s, 0, rfl, h5.lt, fun i c hc k u hu => ?_⟩⟩, hok⟩, ?_⟩
  · have hk : k < 3 := (List.getElem?_eq_some_iff.1 hu).1
    rw [cell_of_row _ _ _ _ _ _ h5, Nat.zero_add, ← hu, ← scs_get _ i c hc k hk, ← Array.getElem?_toList]
    congr 1
  · exact ⟨rfl, Or.inr ⟨s, 4, _, rfl, hB, h5, Nat.le_refl _, by decide, rfl, rfl⟩⟩
/-- Through the last region: the blocks behind the two results stay as they were. -/
structure ES (w X V : World) : Prop where
  s : X.heap.size ≤ V.heap.size
  a : ∀ b, w.heap.size + 2 ≤ b → b < X.heap.size → V.heap[b]? = X.heap[b]?
  b : Below w.heap.size w V
  r : ∃ x y, CBlk V w.heap.size #[x, y] 25
  t : ∃ x0 x1 x2 x3 x4, CBlk V (w.heap.size + 1) #[x0, x1, x2, x3, x4] 30
theorem ES.later {w X V V' : World} (h : ES w X V) (hb : Below V.heap.size V V') : ES w X V' := by
  obtain ⟨x, y, h1⟩ := h.r
  obtain ⟨x0, x1, x2, x3, x4, h2⟩ := h.t
  exact ⟨Nat.le_trans h.s hb.size, fun b h3 h4 => (hb.block b (Nat.lt_of_lt_of_le h4 h.s)).trans (h.a b h3 h4), below_step h.b hb, ⟨x, y, h1.later hb⟩, ⟨x0, x1, x2, x3, x4, h2.later hb⟩⟩
theorem put2_heap {X : World} {G k : Nat} (h : k ≠ G) (a b : Value) : ((X.setCell ⟨G, 0, none⟩ a).setCell ⟨G, 1, none⟩ b).heap[k]? = X.heap[k]? := by
  rw [heap_setCell_other _ _ _ _ h, heap_setCell_other _ _ _ _ h]
theorem put2_blk {X : World} {G : Nat} {x0 x1 : Value} {t : TypeId} (h : CBlk X G #[x0, x1] t) (a b : Value) : CBlk ((X.setCell ⟨G, 0, none⟩ a).setCell ⟨G, 1, none⟩ b) G #[a, b] t := by
  have := (h.set 0 a).set 1 b
  simpa using this
theorem ES.putP {w X V : World} (h : ES w X V) (a b : Value) : ES w X ((V.setCell ⟨w.heap.size, 0, none⟩ a).setCell ⟨w.heap.size, 1, none⟩ b) := by
  obtain ⟨x, y, h1⟩ := h.r
  obtain ⟨x0, x1, x2, x3, x4, h2⟩ := h.t
  exact ⟨by simpa [World.setCell] using h.s, fun k h3 h4 => (put2_heap (by omega) _ _).trans (h.a k h3 h4), (h.b.setCell (p := ⟨w.heap.size, 0, none⟩) (Nat.le_refl _) _).setCell (p := ⟨w.heap.size, 1, none⟩) (Nat.le_refl _) _, ⟨a, b, put2_blk h1 _ _⟩, ⟨x0, x1, x2, x3, x4, (put2_heap (by omega) _ _).trans h2⟩⟩
theorem ES.putA {w X V : World} (h : ES w X V) (a b c d e : Value) : ES w X (((((V.setCell ⟨w.heap.size + 1, 0, none⟩ a).setCell ⟨w.heap.size + 1, 1, none⟩ b).setCell ⟨w.heap.size + 1, 2, none⟩ c).setCell ⟨w.heap.size + 1, 3, none⟩ d).setCell ⟨w.heap.size + 1, 4, none⟩ e) := by
  obtain ⟨x, y, h1⟩ := h.r
  obtain ⟨x0, x1, x2, x3, x4, h2⟩ := h.t
  exact ⟨by rw [put5_size]; exact h.s, fun k h3 h4 => (put5_heap (by omega) _ _ _ _ _).trans (h.a k h3 h4), bput5 h.b (by omega) _ _ _ _ _, ⟨x, y, (put5_heap (by omega) _ _ _ _ _).trans h1⟩, ⟨a, b, c, d, e, put5_blk h2 _ _ _ _ _⟩⟩
theorem KpT.putP {w V : World} {B : Nat} {v : Value} {l : List Tm} (hB : w.heap.size + 2 ≤ B) (h : KpT B V v l) (a b : Value) : KpT B ((V.setCell ⟨w.heap.size, 0, none⟩ a).setCell ⟨w.heap.size, 1, none⟩ b) v l := h.agree (by simp [World.setCell]) fun k h1 _ => put2_heap (by omega) _ _
theorem KpT.putA {w V : World} {B : Nat} {v : Value} {l : List Tm} (hB : w.heap.size + 2 ≤ B) (h : KpT B V v l) (a b c d e : Value) : KpT B (((((V.setCell ⟨w.heap.size + 1, 0, none⟩ a).setCell ⟨w.heap.size + 1, 1, none⟩ b).setCell ⟨w.heap.size + 1, 2, none⟩ c).setCell ⟨w.heap.size + 1, 3, none⟩ d).setCell ⟨w.heap.size + 1, 4, none⟩ e) v l := h.agree (by rw [put5_size]; exact Nat.le_refl _) fun k h1 _ => put5_heap (by omega) _ _ _ _ _
theorem ex_made {w c0 c1 c2 c3 : World} {g : Nat} {l : List Cm} (h0 : Below ((w.alloc (.cells #[.slice none 0 0, .slice none 0 0] 25)).alloc (.cells #[.int .i64 0, .int .i64 0, .string ⟨#[]⟩, .string ⟨#[]⟩, .slice none 0 0] 30)).heap.size ((w.alloc (.cells #[.slice none 0 0, .slice none 0 0] 25)).alloc (.cells #[.int .i64 0, .int .i64 0, .string ⟨#[]⟩, .string ⟨#[]⟩, .slice none 0 0] 30)) c0) (h1 : Below c0.heap.size c0 c1) (h2 : Below ((c1.alloc (.cells #[.int .i64 2, .int .i64 0, .string ⟨#[98, 111, 98]⟩] 27)).alloc (.cells #[.int .i64 0] 3)).heap.size ((c1.alloc (.cells #[.int .i64 2, .int .i64 0, .string ⟨#[98, 111, 98]⟩] 27)).alloc (.cells #[.int .i64 0] 3)) c2) (h3 : Below c2.heap.size c2 c3)
    (hk : ∀ Y : World, c0.heap.size ≤ Y.heap.size → (∀ b, ((w.alloc (.cells #[.slice none 0 0, .slice none 0 0] 25)).alloc (.cells #[.int .i64 0, .int .i64 0, .string ⟨#[]⟩, .string ⟨#[]⟩, .slice none 0 0] 30)).heap.size ≤ b → b < c0.heap.size → Y.heap[b]? = c0.heap[b]?) → CsP Y (.slice (some ⟨g, 0, none⟩) 4 4) l) :
    ES w ((((c3.alloc (.cells #[.int .i64 2, .int .i64 0, .string ⟨#[98, 111, 98]⟩, .int .i64 2, .int .i64 0, .string ⟨#[99, 97, 114, 108]⟩] 27)).alloc (.cells #[.int .i64 1, .int .i64 2] 3)).alloc (.cells #[.int .i64 0, .slice none 0 0, .slice none 0 0, .int .i64 1, .slice (some ⟨c1.heap.size, 0, none⟩) 1 1, .slice (some ⟨c1.heap.size + 1, 0, none⟩) 1 1, .int .i64 3, .slice none 0 0, .slice none 0 0, .int .i64 2, .slice (some ⟨c3.heap.size, 0, none⟩) 2 2, .slice (some ⟨c3.heap.size + 1, 0, none⟩) 2 2] 35)).alloc (.cells #[.slice (some ⟨g, 0, none⟩) 4 4, .slice (some ⟨c3.heap.size + 1 + 1, 0, none⟩) 4 4] 25)) ((((c3.alloc (.cells #[.int .i64 2, .int .i64 0, .string ⟨#[98, 111, 98]⟩, .int .i64 2, .int .i64 0, .string ⟨#[99, 97, 114, 108]⟩] 27)).alloc (.cells #[.int .i64 1, .int .i64 2] 3)).alloc (.cells #[.int .i64 0, .slice none 0 0, .slice none 0 0, .int .i64 1, .slice (some ⟨c1.heap.size, 0, none⟩) 1 1, .slice (some ⟨c1.heap.size + 1, 0, none⟩) 1 1, .int .i64 3, .slice none 0 0, .slice none 0 0, .int .i64 2, .slice (some ⟨c3.heap.size, 0, none⟩) 2 2, .slice (some ⟨c3.heap.size + 1, 0, none⟩) 2 2] 35)).alloc (.cells #[.slice (some ⟨g, 0, none⟩) 4 4, .slice (some ⟨c3.heap.size + 1 + 1, 0, none⟩) 4 4] 25)) ∧ CBlk ((((c3.alloc (.cells #[.int .i64 2, .int .i64 0, .string ⟨#[98, 111, 98]⟩, .int .i64 2, .int .i64 0, .string ⟨#[99, 97, 114, 108]⟩] 27)).alloc (.cells #[.int .i64 1, .int .i64 2] 3)).alloc (.cells #[.int .i64 0, .slice none 0 0, .slice none 0 0, .int .i64 1, .slice (some ⟨c1.heap.size, 0, none⟩) 1 1, .slice (some ⟨c1.heap.size + 1, 0, none⟩) 1 1, .int .i64 3, .slice none 0 0, .slice none 0 0, .int .i64 2, .slice (some ⟨c3.heap.size, 0, none⟩) 2 2, .slice (some ⟨c3.heap.size + 1, 0, none⟩) 2 2] 35)).alloc (.cells #[.slice (some ⟨g, 0, none⟩) 4 4, .slice (some ⟨c3.heap.size + 1 + 1, 0, none⟩) 4 4] 25)) (c3.heap.size + 1 + 1 + 1) #[.slice (some ⟨g, 0, none⟩) 4 4, .slice (some ⟨c3.heap.size + 1 + 1, 0, none⟩) 4 4] 25 ∧ w.heap.size + 2 ≤ c3.heap.size + 1 + 1 + 1 ∧ w.heap.size + 2 ≤ ((((c3.alloc (.cells #[.int .i64 2, .int .i64 0, .string ⟨#[98, 111, 98]⟩, .int .i64 2, .int .i64 0, .string ⟨#[99, 97, 114, 108]⟩] 27)).alloc (.cells #[.int .i64 1, .int .i64 2] 3)).alloc (.cells #[.int .i64 0, .slice none 0 0, .slice none 0 0, .int .i64 1, .slice (some ⟨c1.heap.size, 0, none⟩) 1 1, .slice (some ⟨c1.heap.size + 1, 0, none⟩) 1 1, .int .i64 3, .slice none 0 0, .slice none 0 0, .int .i64 2, .slice (some ⟨c3.heap.size, 0, none⟩) 2 2, .slice (some ⟨c3.heap.size + 1, 0, none⟩) 2 2] 35)).alloc (.cells #[.slice (some ⟨g, 0, none⟩) 4 4, .slice (some ⟨c3.heap.size + 1 + 1, 0, none⟩) 4 4] 25)).heap.size ∧ (w.heap.size + 2 ≤ c3.heap.size + 1 + 1 ∧ c3.heap.size + 1 + 1 < ((((c3.alloc (.cells #[.int .i64 2, .int .i64 0, .string ⟨#[98, 111, 98]⟩, .int .i64 2, .int .i64 0, .string ⟨#[99, 97, 114, 108]⟩] 27)).alloc (.cells #[.int .i64 1, .int .i64 2] 3)).alloc (.cells #[.int .i64 0, .slice none 0 0, .slice none 0 0, .int .i64 1, .slice (some ⟨c1.heap.size, 0, none⟩) 1 1, .slice (some ⟨c1.heap.size + 1, 0, none⟩) 1 1, .int .i64 3, .slice none 0 0, .slice none 0 0, .int .i64 2, .slice (some ⟨c3.heap.size, 0, none⟩) 2 2, .slice (some ⟨c3.heap.size + 1, 0, none⟩) 2 2] 35)).alloc (.cells #[.slice (some ⟨g, 0, none⟩) 4 4, .slice (some ⟨c3.heap.size + 1 + 1, 0, none⟩) 4 4] 25)).heap.size) ∧ ∃ SS : List St, SS.map St.key = S4 ∧
    ∀ Y : World, ((((c3.alloc (.cells #[.int .i64 2, .int .i64 0, .string ⟨#[98, 111, 98]⟩, .int .i64 2, .int .i64 0, .string ⟨#[99, 97, 114, 108]⟩] 27)).alloc (.cells #[.int .i64 1, .int .i64 2] 3)).alloc (.cells #[.int .i64 0, .slice none 0 0, .slice none 0 0, .int .i64 1, .slice (some ⟨c1.heap.size, 0, none⟩) 1 1, .slice (some ⟨c1.heap.size + 1, 0, none⟩) 1 1, .int .i64 3, .slice none 0 0, .slice none 0 0, .int .i64 2, .slice (some ⟨c3.heap.size, 0, none⟩) 2 2, .slice (some ⟨c3.heap.size + 1, 0, none⟩) 2 2] 35)).alloc (.cells #[.slice (some ⟨g, 0, none⟩) 4 4, .slice (some ⟨c3.heap.size + 1 + 1, 0, none⟩) 4 4] 25)).heap.size ≤ Y.heap.size → (∀ b, w.heap.size + 2 ≤ b → b < ((((c3.alloc (.cells #[.int .i64 2, .int .i64 0, .string ⟨#[98, 111, 98]⟩, .int .i64 2, .int .i64 0, .string ⟨#[99, 97, 114, 108]⟩] 27)).alloc (.cells #[.int .i64 1, .int .i64 2] 3)).alloc (.cells #[.int .i64 0, .slice none 0 0, .slice none 0 0, .int .i64 1, .slice (some ⟨c1.heap.size, 0, none⟩) 1 1, .slice (some ⟨c1.heap.size + 1, 0, none⟩) 1 1, .int .i64 3, .slice none 0 0, .slice none 0 0, .int .i64 2, .slice (some ⟨c3.heap.size, 0, none⟩) 2 2, .slice (some ⟨c3.heap.size + 1, 0, none⟩) 2 2] 35)).alloc (.cells #[.slice (some ⟨g, 0, none⟩) 4 4, .slice (some ⟨c3.heap.size + 1 + 1, 0, none⟩) 4 4] 25)).heap.size → b ≠ c3.heap.size + 1 + 1 → Y.heap[b]? = ((((c3.alloc (.cells #[.int .i64 2, .int .i64 0, .string ⟨#[98, 111, 98]⟩, .int .i64 2, .int .i64 0, .string ⟨#[99, 97, 114, 108]⟩] 27)).alloc (.cells #[.int .i64 1, .int .i64 2] 3)).alloc (.cells #[.int .i64 0, .slice none 0 0, .slice none 0 0, .int .i64 1, .slice (some ⟨c1.heap.size, 0, none⟩) 1 1, .slice (some ⟨c1.heap.size + 1, 0, none⟩) 1 1, .int .i64 3, .slice none 0 0, .slice none 0 0, .int .i64 2, .slice (some ⟨c3.heap.size, 0, none⟩) 2 2, .slice (some ⟨c3.heap.size + 1, 0, none⟩) 2 2] 35)).alloc (.cells #[.slice (some ⟨g, 0, none⟩) 4 4, .slice (some ⟨c3.heap.size + 1 + 1, 0, none⟩) 4 4] 25)).heap[b]?) → CsP Y (.slice (some ⟨g, 0, none⟩) 4 4) l ∧ (∀ s ∈ SS, s.ok Y) ∧ (Y.heap[c3.heap.size + 1 + 1]? = ((((c3.alloc (.cells #[.int .i64 2, .int .i64 0, .string ⟨#[98, 111, 98]⟩, .int .i64 2, .int .i64 0, .string ⟨#[99, 97, 114, 108]⟩] 27)).alloc (.cells #[.int .i64 1, .int .i64 2] 3)).alloc (.cells #[.int .i64 0, .slice none 0 0, .slice none 0 0, .int .i64 1, .slice (some ⟨c1.heap.size, 0, none⟩) 1 1, .slice (some ⟨c1.heap.size + 1, 0, none⟩) 1 1, .int .i64 3, .slice none 0 0, .slice none 0 0, .int .i64 2, .slice (some ⟨c3.heap.size, 0, none⟩) 2 2, .slice (some ⟨c3.heap.size + 1, 0, none⟩) 2 2] 35)).alloc (.cells #[.slice (some ⟨g, 0, none⟩) 4 4, .slice (some ⟨c3.heap.size + 1 + 1, 0, none⟩) 4 4] 25)).heap[c3.heap.size + 1 + 1]? → SsP Y (.slice (some ⟨c3.heap.size + 1 + 1, 0, none⟩) 4 4) SS ∧ OwnS Y w.heap.size (.slice (some ⟨c3.heap.size + 1 + 1, 0, none⟩) 4 4) SS) := by
  have e0 : ((w.alloc (.cells #[.slice none 0 0, .slice none 0 0] 25)).alloc (.cells #[.int .i64 0, .int .i64 0, .string ⟨#[]⟩, .string ⟨#[]⟩, .slice none 0 0] 30)).heap.size = w.heap.size + 2 := by simp
  have e1 : (c1.alloc (.cells #[.int .i64 2, .int .i64 0, .string ⟨#[98, 111, 98]⟩] 27)).heap.size = c1.heap.size + 1 := by simp
  have e2 : (c3.alloc (.cells #[.int .i64 2, .int .i64 0, .string ⟨#[98, 111, 98]⟩, .int .i64 2, .int .i64 0, .string ⟨#[99, 97, 114, 108]⟩] 27)).heap.size = c3.heap.size + 1 := by simp
  have e3 : ((c3.alloc (.cells #[.int .i64 2, .int .i64 0, .string ⟨#[98, 111, 98]⟩, .int .i64 2, .int .i64 0, .string ⟨#[99, 97, 114, 108]⟩] 27)).alloc (.cells #[.int .i64 1, .int .i64 2] 3)).heap.size = c3.heap.size + 1 + 1 := by simp
  have e4 : (((c3.alloc (.cells #[.int .i64 2, .int .i64 0, .string ⟨#[98, 111, 98]⟩, .int .i64 2, .int .i64 0, .string ⟨#[99, 97, 114, 108]⟩] 27)).alloc (.cells #[.int .i64 1, .int .i64 2] 3)).alloc (.cells #[.int .i64 0, .slice none 0 0, .slice none 0 0, .int .i64 1, .slice (some ⟨c1.heap.size, 0, none⟩) 1 1, .slice (some ⟨c1.heap.size + 1, 0, none⟩) 1 1, .int .i64 3, .slice none 0 0, .slice none 0 0, .int .i64 2, .slice (some ⟨c3.heap.size, 0, none⟩) 2 2, .slice (some ⟨c3.heap.size + 1, 0, none⟩) 2 2] 35)).heap.size = c3.heap.size + 1 + 1 + 1 := by simp
  have q0 : CBlk (w.alloc (.cells #[.slice none 0 0, .slice none 0 0] 25)) w.heap.size #[.slice none 0 0, .slice none 0 0] 25 := CBlk.new _ _ _
  have q1 := CBlk.new (w.alloc (.cells #[.slice none 0 0, .slice none 0 0] 25)) #[.int .i64 0, .int .i64 0, .string ⟨#[]⟩, .string ⟨#[]⟩, .slice none 0 0] 30
  rw [show (w.alloc (.cells #[.slice none 0 0, .slice none 0 0] 25)).heap.size = w.heap.size + 1 by simp] at q1
  have p1 := CBlk.new c1 #[.int .i64 2, .int .i64 0, .string ⟨#[98, 111, 98]⟩] 27
  have p2 := CBlk.new (c1.alloc (.cells #[.int .i64 2, .int .i64 0, .string ⟨#[98, 111, 98]⟩] 27)) #[.int .i64 0] 3
  rw [e1] at p2
  have p3 := CBlk.new c3 #[.int .i64 2, .int .i64 0, .string ⟨#[98, 111, 98]⟩, .int .i64 2, .int .i64 0, .string ⟨#[99, 97, 114, 108]⟩] 27
  have p4 := CBlk.new (c3.alloc (.cells #[.int .i64 2, .int .i64 0, .string ⟨#[98, 111, 98]⟩, .int .i64 2, .int .i64 0, .string ⟨#[99, 97, 114, 108]⟩] 27)) #[.int .i64 1, .int .i64 2] 3
  rw [e2] at p4
  have p5 := CBlk.new ((c3.alloc (.cells #[.int .i64 2, .int .i64 0, .string ⟨#[98, 111, 98]⟩, .int .i64 2, .int .i64 0, .string ⟨#[99, 97, 114, 108]⟩] 27)).alloc (.cells #[.int .i64 1, .int .i64 2] 3)) #[.int .i64 0, .slice none 0 0, .slice none 0 0, .int .i64 1, .slice (some ⟨c1.heap.size, 0, none⟩) 1 1, .slice (some ⟨c1.heap.size + 1, 0, none⟩) 1 1, .int .i64 3, .slice none 0 0, .slice none 0 0, .int .i64 2, .slice (some ⟨c3.heap.size, 0, none⟩) 2 2, .slice (some ⟨c3.heap.size + 1, 0, none⟩) 2 2] 35
  rw [e3] at p5
  have p6 := CBlk.new (((c3.alloc (.cells #[.int .i64 2, .int .i64 0, .string ⟨#[98, 111, 98]⟩, .int .i64 2, .int .i64 0, .string ⟨#[99, 97, 114, 108]⟩] 27)).alloc (.cells #[.int .i64 1, .int .i64 2] 3)).alloc (.cells #[.int .i64 0, .slice none 0 0, .slice none 0 0, .int .i64 1, .slice (some ⟨c1.heap.size, 0, none⟩) 1 1, .slice (some ⟨c1.heap.size + 1, 0, none⟩) 1 1, .int .i64 3, .slice none 0 0, .slice none 0 0, .int .i64 2, .slice (some ⟨c3.heap.size, 0, none⟩) 2 2, .slice (some ⟨c3.heap.size + 1, 0, none⟩) 2 2] 35)) #[.slice (some ⟨g, 0, none⟩) 4 4, .slice (some ⟨c3.heap.size + 1 + 1, 0, none⟩) 4 4] 25
  rw [e4] at p6
  have b1 := below1 c1 (.cells #[.int .i64 2, .int .i64 0, .string ⟨#[98, 111, 98]⟩] 27)
  have b2 := below1 (c1.alloc (.cells #[.int .i64 2, .int .i64 0, .string ⟨#[98, 111, 98]⟩] 27)) (.cells #[.int .i64 0] 3)
  have b3 := below1 c3 (.cells #[.int .i64 2, .int .i64 0, .string ⟨#[98, 111, 98]⟩, .int .i64 2, .int .i64 0, .string ⟨#[99, 97, 114, 108]⟩] 27)
  have b4 := below1 (c3.alloc (.cells #[.int .i64 2, .int .i64 0, .string ⟨#[98, 111, 98]⟩, .int .i64 2, .int .i64 0, .string ⟨#[99, 97, 114, 108]⟩] 27)) (.cells #[.int .i64 1, .int .i64 2] 3)
  have b5 := below1 ((c3.alloc (.cells #[.int .i64 2, .int .i64 0, .string ⟨#[98, 111, 98]⟩, .int .i64 2, .int .i64 0, .string ⟨#[99, 97, 114, 108]⟩] 27)).alloc (.cells #[.int .i64 1, .int .i64 2] 3)) (.cells #[.int .i64 0, .slice none 0 0, .slice none 0 0, .int .i64 1, .slice (some ⟨c1.heap.size, 0, none⟩) 1 1, .slice (some ⟨c1.heap.size + 1, 0, none⟩) 1 1, .int .i64 3, .slice none 0 0, .slice none 0 0, .int .i64 2, .slice (some ⟨c3.heap.size, 0, none⟩) 2 2, .slice (some ⟨c3.heap.size + 1, 0, none⟩) 2 2] 35)
  have b6 := below1 (((c3.alloc (.cells #[.int .i64 2, .int .i64 0, .string ⟨#[98, 111, 98]⟩, .int .i64 2, .int .i64 0, .string ⟨#[99, 97, 114, 108]⟩] 27)).alloc (.cells #[.int .i64 1, .int .i64 2] 3)).alloc (.cells #[.int .i64 0, .slice none 0 0, .slice none 0 0, .int .i64 1, .slice (some ⟨c1.heap.size, 0, none⟩) 1 1, .slice (some ⟨c1.heap.size + 1, 0, none⟩) 1 1, .int .i64 3, .slice none 0 0, .slice none 0 0, .int .i64 2, .slice (some ⟨c3.heap.size, 0, none⟩) 2 2, .slice (some ⟨c3.heap.size + 1, 0, none⟩) 2 2] 35)) (.cells #[.slice (some ⟨g, 0, none⟩) 4 4, .slice (some ⟨c3.heap.size + 1 + 1, 0, none⟩) 4 4] 25)
  have z1 : Below c3.heap.size c3 ((((c3.alloc (.cells #[.int .i64 2, .int .i64 0, .string ⟨#[98, 111, 98]⟩, .int .i64 2, .int .i64 0, .string ⟨#[99, 97, 114, 108]⟩] 27)).alloc (.cells #[.int .i64 1, .int .i64 2] 3)).alloc (.cells #[.int .i64 0, .slice none 0 0, .slice none 0 0, .int .i64 1, .slice (some ⟨c1.heap.size, 0, none⟩) 1 1, .slice (some ⟨c1.heap.size + 1, 0, none⟩) 1 1, .int .i64 3, .slice none 0 0, .slice none 0 0, .int .i64 2, .slice (some ⟨c3.heap.size, 0, none⟩) 2 2, .slice (some ⟨c3.heap.size + 1, 0, none⟩) 2 2] 35)).alloc (.cells #[.slice (some ⟨g, 0, none⟩) 4 4, .slice (some ⟨c3.heap.size + 1 + 1, 0, none⟩) 4 4] 25)) := below_step (below_step (below_step b3 b4) b5) b6
  have z2 : Below ((c1.alloc (.cells #[.int .i64 2, .int .i64 0, .string ⟨#[98, 111, 98]⟩] 27)).alloc (.cells #[.int .i64 0] 3)).heap.size ((c1.alloc (.cells #[.int .i64 2, .int .i64 0, .string ⟨#[98, 111, 98]⟩] 27)).alloc (.cells #[.int .i64 0] 3)) ((((c3.alloc (.cells #[.int .i64 2, .int .i64 0, .string ⟨#[98, 111, 98]⟩, .int .i64 2, .int .i64 0, .string ⟨#[99, 97, 114, 108]⟩] 27)).alloc (.cells #[.int .i64 1, .int .i64 2] 3)).alloc (.cells #[.int .i64 0, .slice none 0 0, .slice none 0 0, .int .i64 1, .slice (some ⟨c1.heap.size, 0, none⟩) 1 1, .slice (some ⟨c1.heap.size + 1, 0, none⟩) 1 1, .int .i64 3, .slice none 0 0, .slice none 0 0, .int .i64 2, .slice (some ⟨c3.heap.size, 0, none⟩) 2 2, .slice (some ⟨c3.heap.size + 1, 0, none⟩) 2 2] 35)).alloc (.cells #[.slice (some ⟨g, 0, none⟩) 4 4, .slice (some ⟨c3.heap.size + 1 + 1, 0, none⟩) 4 4] 25)) := below_step (below_step h2 h3) z1
  have z3 : Below c1.heap.size c1 ((((c3.alloc (.cells #[.int .i64 2, .int .i64 0, .string ⟨#[98, 111, 98]⟩, .int .i64 2, .int .i64 0, .string ⟨#[99, 97, 114, 108]⟩] 27)).alloc (.cells #[.int .i64 1, .int .i64 2] 3)).alloc (.cells #[.int .i64 0, .slice none 0 0, .slice none 0 0, .int .i64 1, .slice (some ⟨c1.heap.size, 0, none⟩) 1 1, .slice (some ⟨c1.heap.size + 1, 0, none⟩) 1 1, .int .i64 3, .slice none 0 0, .slice none 0 0, .int .i64 2, .slice (some ⟨c3.heap.size, 0, none⟩) 2 2, .slice (some ⟨c3.heap.size + 1, 0, none⟩) 2 2] 35)).alloc (.cells #[.slice (some ⟨g, 0, none⟩) 4 4, .slice (some ⟨c3.heap.size + 1 + 1, 0, none⟩) 4 4] 25)) := below_step (below_step b1 b2) z2
  have z4 : Below c0.heap.size c0 ((((c3.alloc (.cells #[.int .i64 2, .int .i64 0, .string ⟨#[98, 111, 98]⟩, .int .i64 2, .int .i64 0, .string ⟨#[99, 97, 114, 108]⟩] 27)).alloc (.cells #[.int .i64 1, .int .i64 2] 3)).alloc (.cells #[.int .i64 0, .slice none 0 0, .slice none 0 0, .int .i64 1, .slice (some ⟨c1.heap.size, 0, none⟩) 1 1, .slice (some ⟨c1.heap.size + 1, 0, none⟩) 1 1, .int .i64 3, .slice none 0 0, .slice none 0 0, .int .i64 2, .slice (some ⟨c3.heap.size, 0, none⟩) 2 2, .slice (some ⟨c3.heap.size + 1, 0, none⟩) 2 2] 35)).alloc (.cells #[.slice (some ⟨g, 0, none⟩) 4 4, .slice (some ⟨c3.heap.size + 1 + 1, 0, none⟩) 4 4] 25)) := below_step h1 z3
  have z5 : Below ((w.alloc (.cells #[.slice none 0 0, .slice none 0 0] 25)).alloc (.cells #[.int .i64 0, .int .i64 0, .string ⟨#[]⟩, .string ⟨#[]⟩, .slice none 0 0] 30)).heap.size ((w.alloc (.cells #[.slice none 0 0, .slice none 0 0] 25)).alloc (.cells #[.int .i64 0, .int .i64 0, .string ⟨#[]⟩, .string ⟨#[]⟩, .slice none 0 0] 30)) ((((c3.alloc (.cells #[.int .i64 2, .int .i64 0, .string ⟨#[98, 111, 98]⟩, .int .i64 2, .int .i64 0, .string ⟨#[99, 97, 114, 108]⟩] 27)).alloc (.cells #[.int .i64 1, .int .i64 2] 3)).alloc (.cells #[.int .i64 0, .slice none 0 0, .slice none 0 0, .int .i64 1, .slice (some ⟨c1.heap.size, 0, none⟩) 1 1, .slice (some ⟨c1.heap.size + 1, 0, none⟩) 1 1, .int .i64 3, .slice none 0 0, .slice none 0 0, .int .i64 2, .slice (some ⟨c3.heap.size, 0, none⟩) 2 2, .slice (some ⟨c3.heap.size + 1, 0, none⟩) 2 2] 35)).alloc (.cells #[.slice (some ⟨g, 0, none⟩) 4 4, .slice (some ⟨c3.heap.size + 1 + 1, 0, none⟩) 4 4] 25)) := below_step h0 z4
  have g0 : w.heap.size + 2 ≤ c0.heap.size := by rw [← e0]; exact h0.size
  have g1 : w.heap.size + 2 ≤ c1.heap.size := Nat.le_trans g0 h1.size
  have g3 : w.heap.size + 2 ≤ c3.heap.size := Nat.le_trans g1 (Nat.le_trans (below_step b1 b2).size (Nat.le_trans h2.size h3.size))
  have r1 : CBlk ((((c3.alloc (.cells #[.int .i64 2, .int .i64 0, .string ⟨#[98, 111, 98]⟩, .int .i64 2, .int .i64 0, .string ⟨#[99, 97, 114, 108]⟩] 27)).alloc (.cells #[.int .i64 1, .int .i64 2] 3)).alloc (.cells #[.int .i64 0, .slice none 0 0, .slice none 0 0, .int .i64 1, .slice (some ⟨c1.heap.size, 0, none⟩) 1 1, .slice (some ⟨c1.heap.size + 1, 0, none⟩) 1 1, .int .i64 3, .slice none 0 0, .slice none 0 0, .int .i64 2, .slice (some ⟨c3.heap.size, 0, none⟩) 2 2, .slice (some ⟨c3.heap.size + 1, 0, none⟩) 2 2] 35)).alloc (.cells #[.slice (some ⟨g, 0, none⟩) 4 4, .slice (some ⟨c3.heap.size + 1 + 1, 0, none⟩) 4 4] 25)) c1.heap.size #[.int .i64 2, .int .i64 0, .string ⟨#[98, 111, 98]⟩] 27 := (p1.later b2).later z2
  have r2 : CBlk ((((c3.alloc (.cells #[.int .i64 2, .int .i64 0, .string ⟨#[98, 111, 98]⟩, .int .i64 2, .int .i64 0, .string ⟨#[99, 97, 114, 108]⟩] 27)).alloc (.cells #[.int .i64 1, .int .i64 2] 3)).alloc (.cells #[.int .i64 0, .slice none 0 0, .slice none 0 0, .int .i64 1, .slice (some ⟨c1.heap.size, 0, none⟩) 1 1, .slice (some ⟨c1.heap.size + 1, 0, none⟩) 1 1, .int .i64 3, .slice none 0 0, .slice none 0 0, .int .i64 2, .slice (some ⟨c3.heap.size, 0, none⟩) 2 2, .slice (some ⟨c3.heap.size + 1, 0, none⟩) 2 2] 35)).alloc (.cells #[.slice (some ⟨g, 0, none⟩) 4 4, .slice (some ⟨c3.heap.size + 1 + 1, 0, none⟩) 4 4] 25)) (c1.heap.size + 1) #[.int .i64 0] 3 := p2.later z2
  have r3 : CBlk ((((c3.alloc (.cells #[.int .i64 2, .int .i64 0, .string ⟨#[98, 111, 98]⟩, .int .i64 2, .int .i64 0, .string ⟨#[99, 97, 114, 108]⟩] 27)).alloc (.cells #[.int .i64 1, .int .i64 2] 3)).alloc (.cells #[.int .i64 0, .slice none 0 0, .slice none 0 0, .int .i64 1, .slice (some ⟨c1.heap.size, 0, none⟩) 1 1, .slice (some ⟨c1.heap.size + 1, 0, none⟩) 1 1, .int .i64 3, .slice none 0 0, .slice none 0 0, .int .i64 2, .slice (some ⟨c3.heap.size, 0, none⟩) 2 2, .slice (some ⟨c3.heap.size + 1, 0, none⟩) 2 2] 35)).alloc (.cells #[.slice (some ⟨g, 0, none⟩) 4 4, .slice (some ⟨c3.heap.size + 1 + 1, 0, none⟩) 4 4] 25)) c3.heap.size #[.int .i64 2, .int .i64 0, .string ⟨#[98, 111, 98]⟩, .int .i64 2, .int .i64 0, .string ⟨#[99, 97, 114, 108]⟩] 27 := ((p3.later b4).later b5).later b6
  have r4 : CBlk ((((c3.alloc (.cells #[.int .i64 2, .int .i64 0, .string ⟨#[98, 111, 98]⟩, .int .i64 2, .int .i64 0, .string ⟨#[99, 97, 114, 108]⟩] 27)).alloc (.cells #[.int .i64 1, .int .i64 2] 3)).alloc (.cells #[.int .i64 0, .slice none 0 0, .slice none 0 0, .int .i64 1, .slice (some ⟨c1.heap.size, 0, none⟩) 1 1, .slice (some ⟨c1.heap.size + 1, 0, none⟩) 1 1, .int .i64 3, .slice none 0 0, .slice none 0 0, .int .i64 2, .slice (some ⟨c3.heap.size, 0, none⟩) 2 2, .slice (some ⟨c3.heap.size + 1, 0, none⟩) 2 2] 35)).alloc (.cells #[.slice (some ⟨g, 0, none⟩) 4 4, .slice (some ⟨c3.heap.size + 1 + 1, 0, none⟩) 4 4] 25)) (c3.heap.size + 1) #[.int .i64 1, .int .i64 2] 3 := (p4.later b5).later b6
  have r5 : CBlk ((((c3.alloc (.cells #[.int .i64 2, .int .i64 0, .string ⟨#[98, 111, 98]⟩, .int .i64 2, .int .i64 0, .string ⟨#[99, 97, 114, 108]⟩] 27)).alloc (.cells #[.int .i64 1, .int .i64 2] 3)).alloc (.cells #[.int .i64 0, .slice none 0 0, .slice none 0 0, .int .i64 1, .slice (some ⟨c1.heap.size, 0, none⟩) 1 1, .slice (some ⟨c1.heap.size + 1, 0, none⟩) 1 1, .int .i64 3, .slice none 0 0, .slice none 0 0, .int .i64 2, .slice (some ⟨c3.heap.size, 0, none⟩) 2 2, .slice (some ⟨c3.heap.size + 1, 0, none⟩) 2 2] 35)).alloc (.cells #[.slice (some ⟨g, 0, none⟩) 4 4, .slice (some ⟨c3.heap.size + 1 + 1, 0, none⟩) 4 4] 25)) (c3.heap.size + 1 + 1) #[.int .i64 0, .slice none 0 0, .slice none 0 0, .int .i64 1, .slice (some ⟨c1.heap.size, 0, none⟩) 1 1, .slice (some ⟨c1.heap.size + 1, 0, none⟩) 1 1, .int .i64 3, .slice none 0 0, .slice none 0 0, .int .i64 2, .slice (some ⟨c3.heap.size, 0, none⟩) 2 2, .slice (some ⟨c3.heap.size + 1, 0, none⟩) 2 2] 35 := p5.later b6
  refine ⟨⟨Nat.le_refl _, fun _ _ _ => rfl, below_step (below_step (below1 _ _) (below1 _ _)) z5, ⟨_, _, (q0.later (below1 _ _)).later z5⟩, ⟨_, _, _, _, _, q1.later z5⟩⟩, p6, by omega, Nat.le_trans g3 z1.size, ⟨by omega, r5.lt⟩, [(⟨0, [], .slice none 0 0, [], .slice none 0 0⟩ : St), (⟨1, [⟨2, 0, ⟨#[98, 111, 98]⟩⟩], .slice (some ⟨c1.heap.size, 0, none⟩) 1 1, [0], .slice (some ⟨c1.heap.size + 1, 0, none⟩) 1 1⟩ : St), (⟨3, [], .slice none 0 0, [], .slice none 0 0⟩ : St), (⟨2, [⟨2, 0, ⟨#[98, 111, 98]⟩⟩, ⟨2, 0, ⟨#[99, 97, 114, 108]⟩⟩], .slice (some ⟨c3.heap.size, 0, none⟩) 2 2, [1, 2], .slice (some ⟨c3.heap.size + 1, 0, none⟩) 2 2⟩ : St)], rfl, fun Y hs ha => ?_⟩
  have cb : ∀ {b : Nat} {c : Array Value} {t : TypeId}, w.heap.size + 2 ≤ b → b ≠ c3.heap.size + 1 + 1 → CBlk ((((c3.alloc (.cells #[.int .i64 2, .int .i64 0, .string ⟨#[98, 111, 98]⟩, .int .i64 2, .int .i64 0, .string ⟨#[99, 97, 114, 108]⟩] 27)).alloc (.cells #[.int .i64 1, .int .i64 2] 3)).alloc (.cells #[.int .i64 0, .slice none 0 0, .slice none 0 0, .int .i64 1, .slice (some ⟨c1.heap.size, 0, none⟩) 1 1, .slice (some ⟨c1.heap.size + 1, 0, none⟩) 1 1, .int .i64 3, .slice none 0 0, .slice none 0 0, .int .i64 2, .slice (some ⟨c3.heap.size, 0, none⟩) 2 2, .slice (some ⟨c3.heap.size + 1, 0, none⟩) 2 2] 35)).alloc (.cells #[.slice (some ⟨g, 0, none⟩) 4 4, .slice (some ⟨c3.heap.size + 1 + 1, 0, none⟩) 4 4] 25)) b c t → CBlk Y b c t := fun hb hn h => (ha _ hb h.lt hn).trans h
  have g13 : c1.heap.size + 1 + 1 ≤ c3.heap.size := by
    have := (Nat.le_trans h2.size h3.size)
    simp at this
    omega
  have hok : ∀ s ∈ [(⟨0, [], .slice none 0 0, [], .slice none 0 0⟩ : St), (⟨1, [⟨2, 0, ⟨#[98, 111, 98]⟩⟩], .slice (some ⟨c1.heap.size, 0, none⟩) 1 1, [0], .slice (some ⟨c1.heap.size + 1, 0, none⟩) 1 1⟩ : St), (⟨3, [], .slice none 0 0, [], .slice none 0 0⟩ : St), (⟨2, [⟨2, 0, ⟨#[98, 111, 98]⟩⟩, ⟨2, 0, ⟨#[99, 97, 114, 108]⟩⟩], .slice (some ⟨c3.heap.size, 0, none⟩) 2 2, [1, 2], .slice (some ⟨c3.heap.size + 1, 0, none⟩) 2 2⟩ : St)], s.ok Y := ex_ok (cb g1 (by omega) r1) (cb (by omega) (by omega) r2) (cb g3 (by omega) r3) (cb (by omega) (by omega) r4)
  refine ⟨hk Y (Nat.le_trans z4.size hs) fun b k1 k2 => ?_, hok, fun hg => ex_ss (by omega) hok (hg.trans r5)⟩
  rw [e0] at k1
  exact (ha b k1 (Nat.lt_of_lt_of_le k2 z4.size) (by have := h1.size; omega)).trans (z4.block b k2)
set_option maxRecDepth 20000 in
set_option maxHeartbeats 2000000 in
theorem example_any (w : World) : Calls Try.prog 4 #[] w (E4 w) := by
  go_enter Try.func4, Try.ntmps4
  go_upto_region 2 with (first | (go_at_call 6; refine (four_any _).mono ?_; rintro e c0 ⟨g, l, rfl, hk, hwf, hky, hb⟩; have HK0 := hm hk; have HB0 := hm hb; have HL0 := hm (And.intro hwf hky); clear hk hb hwf hky) | (go_at_call 8; first | (have h0 := HB2.out; clear h0; refine (text12_any _ _).mono ?_; rintro e c3 ⟨rfl, hb⟩; have HB3 := hm hb; clear hb) | (have h0 := HB1.out; clear h0; refine (text12_any _ _).mono ?_; rintro e c2 ⟨rfl, hb⟩; have HB2 := hm hb; clear hb) | (refine (text12_any _ _).mono ?_; rintro e c1 ⟨rfl, hb⟩; have HB1 := hm hb; clear hb)))
  have HX := hm (ex_made HB0.out HB1.out HB2.out HB3.out HK0.out)
  clear HB0 HB1 HB2 HB3 HK0
  revert HX
  generalize (((c3.alloc (.cells #[.int .i64 2, .int .i64 0, .string ⟨#[98, 111, 98]⟩, .int .i64 2, .int .i64 0, .string ⟨#[99, 97, 114, 108]⟩] 27)).alloc (.cells #[.int .i64 1, .int .i64 2] 3)).alloc (.cells #[.int .i64 0, .slice none 0 0, .slice none 0 0, .int .i64 1, .slice (some ⟨c1.heap.size, 0, none⟩) 1 1, .slice (some ⟨c1.heap.size + 1, 0, none⟩) 1 1, .int .i64 3, .slice none 0 0, .slice none 0 0, .int .i64 2, .slice (some ⟨c3.heap.size, 0, none⟩) 2 2, .slice (some ⟨c3.heap.size + 1, 0, none⟩) 2 2] 35)).alloc (.cells #[.slice (some ⟨g, 0, none⟩) 4 4, .slice (some ⟨c3.heap.size + 1 + 1, 0, none⟩) 4 4] 25) = X
  generalize c3.heap.size + 1 + 1 + 1 = GP
  generalize c3.heap.size + 1 + 1 = GS
  intro HX
  refine wp_region_held_drew (S := fun w' => ES w X w') (by kernel_rfl) (HX.out.1.later (Below.refl _ _).drew) (fun hH => ?_)
  revert hH
  generalize X.drew = V0
  intro hH
  refine wpAnyH_take (i := 0) (oi := ⟨_, _, _, _, _, _⟩) (v := .agg #[.slice (some ⟨g, 0, none⟩) 4 4, .slice (some ⟨GS, 0, none⟩) 4 4]) rfl (by kernel_rfl) (by kernel_rfl) (by kernel_rfl) (fun _ _ _ h => h) (Or.inl ⟨by rfl, fun w' h => by obtain ⟨q0, q1⟩ := ctwo ((h.a _ HX.out.2.2.1 HX.out.2.1.lt).trans HX.out.2.1 : CBlk w' GP #[.slice (some ⟨g, 0, none⟩) 4 4, .slice (some ⟨GS, 0, none⟩) 4 4] 25); clear h; go_simp⟩) hH ?_
  simp only [Act.put, List.setIfInBounds_toArray, List.set_cons_zero, List.set_cons_succ]
  refine wpAnyH_ready (rs := [1]) (by kernel_rfl) (by simp) ?_
  refine (AllReadyH.cons (o := ⟨_, _, _, _, _, _⟩) rfl (fun K hK => ?_) AllReadyH.nil)
  go_simp
  refine (text12_any _ _).mono ?_
  rintro e V1 ⟨rfl, hb⟩
  refine hK.out _ _ (hH.later hb) (fun hH => ?_)
  clear hK K hb
  try simp only [Act.put, List.setIfInBounds_toArray, List.set_cons_zero, List.set_cons_succ]
  refine wpAnyH_ready (rs := [2, 4]) (by kernel_rfl) (by simp) ?_
  refine (AllReadyH.cons (o := ⟨_, _, _, _, _, _⟩) rfl (fun K hK => ?_) (AllReadyH.cons (o := ⟨_, _, _, _, _, _⟩) rfl (fun K hK => ?_) AllReadyH.nil))
  · go_simp
    have HKT : Hid (KpT X.heap.size (V1.alloc (.cells #[.int .i64 2, .int .i64 0, .string ⟨#[98, 111, 98]⟩] 27)) (.slice (some ⟨V1.heap.size, 0, none⟩) 1 1) my4.args) := kp_tms (l := my4.args) hH.s (CBlk.new _ _ _) rfl rfl (by decide)
    refine hK.out _ _ (hH.later (below1 _ _)) (fun hH => ?_)
    clear hK K
    try simp only [Act.put, List.setIfInBounds_toArray, List.set_cons_zero, List.set_cons_succ]
    revert hH
    revert HKT
    generalize V1.alloc (.cells #[.int .i64 2, .int .i64 0, .string ⟨#[98, 111, 98]⟩] 27) = V2
    generalize V1.heap.size = GT
    intro HKT  hH
    refine wpAnyH_take (i := 3) (oi := ⟨_, _, _, _, _, _⟩) (v := .agg #[.int .i64 0, .int .i64 0, .string ⟨#[]⟩, .string ⟨#[109, 97, 121]⟩, .slice (some ⟨GT, 0, none⟩) 1 1]) rfl (by kernel_rfl) (by kernel_rfl) (by kernel_rfl) (fun _ _ _ h => h) (Or.inl ⟨by rfl, fun w' h => by clear h; go_simp⟩) hH ?_
    simp only [Act.put, List.setIfInBounds_toArray, List.set_cons_zero, List.set_cons_succ]
    refine wpAnyH_ready (rs := [4]) (by kernel_rfl) (by simp) ?_
    refine (AllReadyH.cons (o := ⟨_, _, _, _, _, _⟩) rfl (fun K hK => ?_) AllReadyH.nil)
    obtain ⟨x, y, hr⟩ := hH.r
    obtain ⟨q0, q1⟩ := ctwo hr
    have HR : Hid (CBlk ((V2.setCell ⟨w.heap.size, 0, none⟩ (.slice (some ⟨g, 0, none⟩) 4 4)).setCell ⟨w.heap.size, 1, none⟩ (.slice (some ⟨GS, 0, none⟩) 4 4)) w.heap.size #[.slice (some ⟨g, 0, none⟩) 4 4, .slice (some ⟨GS, 0, none⟩) 4 4] 25) := put2_blk hr _ _
    have s0 : V2.frozen? ⟨w.heap.size, 0, none⟩ = false := hr.froz
    have s1 : V2.frozen? ⟨w.heap.size, 1, none⟩ = false := hr.froz
    clear hr
    go_simp
    clear q0 q1 s0 s1
    have HKT : Hid (KpT X.heap.size ((V2.setCell ⟨w.heap.size, 0, none⟩ (.slice (some ⟨g, 0, none⟩) 4 4)).setCell ⟨w.heap.size, 1, none⟩ (.slice (some ⟨GS, 0, none⟩) 4 4)) (.slice (some ⟨GT, 0, none⟩) 1 1) my4.args) := KpT.putP HX.out.2.2.2.1 HKT.out _ _
    refine hK.out _ _ (hH.putP _ _) (fun hH => ?_)
    clear hK K
    try simp only [Act.put, List.setIfInBounds_toArray, List.set_cons_zero, List.set_cons_succ]
    revert hH
    revert HKT
    revert HR
    generalize (V2.setCell ⟨w.heap.size, 0, none⟩ (.slice (some ⟨g, 0, none⟩) 4 4)).setCell ⟨w.heap.size, 1, none⟩ (.slice (some ⟨GS, 0, none⟩) 4 4) = V3
    intro HR HKT hH
    refine wpAnyH_ready (rs := [5]) (by kernel_rfl) (by simp) ?_
    refine (AllReadyH.cons (o := ⟨_, _, _, _, _, _⟩) rfl (fun K hK => ?_) AllReadyH.nil)
    obtain ⟨x0, x1, x2, x3, x4, hr⟩ := hH.t
    obtain ⟨q0, q1, q2, q3, q4⟩ := cfive hr
    have HT : Hid (CBlk (((((V3.setCell ⟨w.heap.size + 1, 0, none⟩ (.int .i64 0)).setCell ⟨w.heap.size + 1, 1, none⟩ (.int .i64 0)).setCell ⟨w.heap.size + 1, 2, none⟩ (.string ⟨#[]⟩)).setCell ⟨w.heap.size + 1, 3, none⟩ (.string ⟨#[109, 97, 121]⟩)).setCell ⟨w.heap.size + 1, 4, none⟩ (.slice (some ⟨GT, 0, none⟩) 1 1)) (w.heap.size + 1) #[.int .i64 0, .int .i64 0, .string ⟨#[]⟩, .string ⟨#[109, 97, 121]⟩, .slice (some ⟨GT, 0, none⟩) 1 1] 30) := put5_blk hr _ _ _ _ _
    have s0 : V3.frozen? ⟨w.heap.size + 1, 0, none⟩ = false := hr.froz
    have s1 : V3.frozen? ⟨w.heap.size + 1, 1, none⟩ = false := hr.froz
    have s2 : V3.frozen? ⟨w.heap.size + 1, 2, none⟩ = false := hr.froz
    have s3 : V3.frozen? ⟨w.heap.size + 1, 3, none⟩ = false := hr.froz
    have s4 : V3.frozen? ⟨w.heap.size + 1, 4, none⟩ = false := hr.froz
    clear hr
    go_simp
    clear q0 q1 q2 q3 q4 s0 s1 s2 s3 s4
    have HKT : Hid (KpT X.heap.size (((((V3.setCell ⟨w.heap.size + 1, 0, none⟩ (.int .i64 0)).setCell ⟨w.heap.size + 1, 1, none⟩ (.int .i64 0)).setCell ⟨w.heap.size + 1, 2, none⟩ (.string ⟨#[]⟩)).setCell ⟨w.heap.size + 1, 3, none⟩ (.string ⟨#[109, 97, 121]⟩)).setCell ⟨w.heap.size + 1, 4, none⟩ (.slice (some ⟨GT, 0, none⟩) 1 1)) (.slice (some ⟨GT, 0, none⟩) 1 1) my4.args) := KpT.putA HX.out.2.2.2.1 HKT.out _ _ _ _ _
    have HR : Hid (CBlk (((((V3.setCell ⟨w.heap.size + 1, 0, none⟩ (.int .i64 0)).setCell ⟨w.heap.size + 1, 1, none⟩ (.int .i64 0)).setCell ⟨w.heap.size + 1, 2, none⟩ (.string ⟨#[]⟩)).setCell ⟨w.heap.size + 1, 3, none⟩ (.string ⟨#[109, 97, 121]⟩)).setCell ⟨w.heap.size + 1, 4, none⟩ (.slice (some ⟨GT, 0, none⟩) 1 1)) w.heap.size #[.slice (some ⟨g, 0, none⟩) 4 4, .slice (some ⟨GS, 0, none⟩) 4 4] 25) := (put5_heap (by omega) _ _ _ _ _).trans HR.out
    refine hK.out _ _ (hH.putA _ _ _ _ _) (fun hH => ?_)
    clear hK K
    try simp only [Act.put, List.setIfInBounds_toArray, List.set_cons_zero, List.set_cons_succ]
    revert hH
    revert HKT
    revert HR
    revert HT
    generalize ((((V3.setCell ⟨w.heap.size + 1, 0, none⟩ (.int .i64 0)).setCell ⟨w.heap.size + 1, 1, none⟩ (.int .i64 0)).setCell ⟨w.heap.size + 1, 2, none⟩ (.string ⟨#[]⟩)).setCell ⟨w.heap.size + 1, 3, none⟩ (.string ⟨#[109, 97, 121]⟩)).setCell ⟨w.heap.size + 1, 4, none⟩ (.slice (some ⟨GT, 0, none⟩) 1 1) = VE
    intro HT HR HKT hH
    refine wpAnyH_done (by kernel_rfl) ?_ _
    go_wp2_with fail
    obtain ⟨q0, q1⟩ := ctwo HR.out
    obtain ⟨u0, u1, u2, u3, u4⟩ := cfive HT.out
    obtain ⟨-, -, -, hXb, ⟨hGa, hGb⟩, SS, hS, hY⟩ := HX.out
    obtain ⟨y1, -, y3⟩ := hY VE hH.s (fun b k1 k2 _ => hH.a b k1 k2)
    obtain ⟨y2, y4⟩ := y3 (hH.a _ hGa hGb)
    have hAll : ∀ Y : World, VE.heap.size ≤ Y.heap.size → (∀ b, w.heap.size + 2 ≤ b → b < VE.heap.size → b ≠ GS → Y.heap[b]? = VE.heap[b]?) → CsP Y (.slice (some ⟨g, 0, none⟩) 4 4) l ∧ (∀ s ∈ SS, s.ok Y) ∧ Ts Y (.slice (some ⟨GT, 0, none⟩) 1 1) my4.args := fun Y hs ha => ⟨(hY Y (Nat.le_trans hH.s hs) fun b k1 k2 k3 => (ha b k1 (Nat.lt_of_lt_of_le k2 hH.s) k3).trans (hH.a b k1 k2)).1, (hY Y (Nat.le_trans hH.s hs) fun b k1 k2 k3 => (ha b k1 (Nat.lt_of_lt_of_le k2 hH.s) k3).trans (hH.a b k1 k2)).2.1, HKT.out Y hs fun b k1 k2 => ha b (Nat.le_trans hXb k1) k2 (by omega)⟩
    exact bodyPost_ret (v := .tuple #[.agg #[.slice (some ⟨g, 0, none⟩) 4 4, .slice (some ⟨GS, 0, none⟩) 4 4], .agg #[.int .i64 0, .int .i64 0, .string ⟨#[]⟩, .string ⟨#[109, 97, 121]⟩, .slice (some ⟨GT, 0, none⟩) 1 1]]) (by simp [results, Try.results4, go_sem, q0, q1, u0, u1, u2, u3, u4]) rfl ⟨_, l, _, SS, _, rfl, y1, HL0.out.2, HL0.out.1, y2, hS, HKT.out.ts, hH.b, y4, hAll⟩
  · obtain ⟨x, y, hr⟩ := hH.r
    obtain ⟨q0, q1⟩ := ctwo hr
    have HR : Hid (CBlk ((V1.setCell ⟨w.heap.size, 0, none⟩ (.slice (some ⟨g, 0, none⟩) 4 4)).setCell ⟨w.heap.size, 1, none⟩ (.slice (some ⟨GS, 0, none⟩) 4 4)) w.heap.size #[.slice (some ⟨g, 0, none⟩) 4 4, .slice (some ⟨GS, 0, none⟩) 4 4] 25) := put2_blk hr _ _
    have s0 : V1.frozen? ⟨w.heap.size, 0, none⟩ = false := hr.froz
    have s1 : V1.frozen? ⟨w.heap.size, 1, none⟩ = false := hr.froz
    clear hr
    go_simp
    clear q0 q1 s0 s1
    refine hK.out _ _ (hH.putP _ _) (fun hH => ?_)
    clear hK K
    try simp only [Act.put, List.setIfInBounds_toArray, List.set_cons_zero, List.set_cons_succ]
    revert hH
    revert HR
    generalize (V1.setCell ⟨w.heap.size, 0, none⟩ (.slice (some ⟨g, 0, none⟩) 4 4)).setCell ⟨w.heap.size, 1, none⟩ (.slice (some ⟨GS, 0, none⟩) 4 4) = V2
    intro HR  hH
    refine wpAnyH_ready (rs := [2]) (by kernel_rfl) (by simp) ?_
    refine (AllReadyH.cons (o := ⟨_, _, _, _, _, _⟩) rfl (fun K hK => ?_) AllReadyH.nil)
    go_simp
    have HKT : Hid (KpT X.heap.size (V2.alloc (.cells #[.int .i64 2, .int .i64 0, .string ⟨#[98, 111, 98]⟩] 27)) (.slice (some ⟨V2.heap.size, 0, none⟩) 1 1) my4.args) := kp_tms (l := my4.args) hH.s (CBlk.new _ _ _) rfl rfl (by decide)
    have HR : Hid (CBlk (V2.alloc (.cells #[.int .i64 2, .int .i64 0, .string ⟨#[98, 111, 98]⟩] 27)) w.heap.size #[.slice (some ⟨g, 0, none⟩) 4 4, .slice (some ⟨GS, 0, none⟩) 4 4] 25) := HR.out.later (below1 _ _)
    refine hK.out _ _ (hH.later (below1 _ _)) (fun hH => ?_)
    clear hK K
    try simp only [Act.put, List.setIfInBounds_toArray, List.set_cons_zero, List.set_cons_succ]
    revert hH
    revert HR
    revert HKT
    generalize V2.alloc (.cells #[.int .i64 2, .int .i64 0, .string ⟨#[98, 111, 98]⟩] 27) = V3
    generalize V2.heap.size = GT
    intro HKT HR hH
    refine wpAnyH_take (i := 3) (oi := ⟨_, _, _, _, _, _⟩) (v := .agg #[.int .i64 0, .int .i64 0, .string ⟨#[]⟩, .string ⟨#[109, 97, 121]⟩, .slice (some ⟨GT, 0, none⟩) 1 1]) rfl (by kernel_rfl) (by kernel_rfl) (by kernel_rfl) (fun _ _ _ h => h) (Or.inl ⟨by rfl, fun w' h => by clear h; go_simp⟩) hH ?_
    simp only [Act.put, List.setIfInBounds_toArray, List.set_cons_zero, List.set_cons_succ]
    refine wpAnyH_ready (rs := [5]) (by kernel_rfl) (by simp) ?_
    refine (AllReadyH.cons (o := ⟨_, _, _, _, _, _⟩) rfl (fun K hK => ?_) AllReadyH.nil)
    obtain ⟨x0, x1, x2, x3, x4, hr⟩ := hH.t
    obtain ⟨q0, q1, q2, q3, q4⟩ := cfive hr
    have HT : Hid (CBlk (((((V3.setCell ⟨w.heap.size + 1, 0, none⟩ (.int .i64 0)).setCell ⟨w.heap.size + 1, 1, none⟩ (.int .i64 0)).setCell ⟨w.heap.size + 1, 2, none⟩ (.string ⟨#[]⟩)).setCell ⟨w.heap.size + 1, 3, none⟩ (.string ⟨#[109, 97, 121]⟩)).setCell ⟨w.heap.size + 1, 4, none⟩ (.slice (some ⟨GT, 0, none⟩) 1 1)) (w.heap.size + 1) #[.int .i64 0, .int .i64 0, .string ⟨#[]⟩, .string ⟨#[109, 97, 121]⟩, .slice (some ⟨GT, 0, none⟩) 1 1] 30) := put5_blk hr _ _ _ _ _
    have s0 : V3.frozen? ⟨w.heap.size + 1, 0, none⟩ = false := hr.froz
    have s1 : V3.frozen? ⟨w.heap.size + 1, 1, none⟩ = false := hr.froz
    have s2 : V3.frozen? ⟨w.heap.size + 1, 2, none⟩ = false := hr.froz
    have s3 : V3.frozen? ⟨w.heap.size + 1, 3, none⟩ = false := hr.froz
    have s4 : V3.frozen? ⟨w.heap.size + 1, 4, none⟩ = false := hr.froz
    clear hr
    go_simp
    clear q0 q1 q2 q3 q4 s0 s1 s2 s3 s4
    have HKT : Hid (KpT X.heap.size (((((V3.setCell ⟨w.heap.size + 1, 0, none⟩ (.int .i64 0)).setCell ⟨w.heap.size + 1, 1, none⟩ (.int .i64 0)).setCell ⟨w.heap.size + 1, 2, none⟩ (.string ⟨#[]⟩)).setCell ⟨w.heap.size + 1, 3, none⟩ (.string ⟨#[109, 97, 121]⟩)).setCell ⟨w.heap.size + 1, 4, none⟩ (.slice (some ⟨GT, 0, none⟩) 1 1)) (.slice (some ⟨GT, 0, none⟩) 1 1) my4.args) := KpT.putA HX.out.2.2.2.1 HKT.out _ _ _ _ _
    have HR : Hid (CBlk (((((V3.setCell ⟨w.heap.size + 1, 0, none⟩ (.int .i64 0)).setCell ⟨w.heap.size + 1, 1, none⟩ (.int .i64 0)).setCell ⟨w.heap.size + 1, 2, none⟩ (.string ⟨#[]⟩)).setCell ⟨w.heap.size + 1, 3, none⟩ (.string ⟨#[109, 97, 121]⟩)).setCell ⟨w.heap.size + 1, 4, none⟩ (.slice (some ⟨GT, 0, none⟩) 1 1)) w.heap.size #[.slice (some ⟨g, 0, none⟩) 4 4, .slice (some ⟨GS, 0, none⟩) 4 4] 25) := (put5_heap (by omega) _ _ _ _ _).trans HR.out
    refine hK.out _ _ (hH.putA _ _ _ _ _) (fun hH => ?_)
    clear hK K
    try simp only [Act.put, List.setIfInBounds_toArray, List.set_cons_zero, List.set_cons_succ]
    revert hH
    revert HKT
    revert HR
    revert HT
    generalize ((((V3.setCell ⟨w.heap.size + 1, 0, none⟩ (.int .i64 0)).setCell ⟨w.heap.size + 1, 1, none⟩ (.int .i64 0)).setCell ⟨w.heap.size + 1, 2, none⟩ (.string ⟨#[]⟩)).setCell ⟨w.heap.size + 1, 3, none⟩ (.string ⟨#[109, 97, 121]⟩)).setCell ⟨w.heap.size + 1, 4, none⟩ (.slice (some ⟨GT, 0, none⟩) 1 1) = VE
    intro HT HR HKT hH
    refine wpAnyH_done (by kernel_rfl) ?_ _
    go_wp2_with fail
    obtain ⟨q0, q1⟩ := ctwo HR.out
    obtain ⟨u0, u1, u2, u3, u4⟩ := cfive HT.out
    obtain ⟨-, -, -, hXb, ⟨hGa, hGb⟩, SS, hS, hY⟩ := HX.out
    obtain ⟨y1, -, y3⟩ := hY VE hH.s (fun b k1 k2 _ => hH.a b k1 k2)
    obtain ⟨y2, y4⟩ := y3 (hH.a _ hGa hGb)
    have hAll : ∀ Y : World, VE.heap.size ≤ Y.heap.size → (∀ b, w.heap.size + 2 ≤ b → b < VE.heap.size → b ≠ GS → Y.heap[b]? = VE.heap[b]?) → CsP Y (.slice (some ⟨g, 0, none⟩) 4 4) l ∧ (∀ s ∈ SS, s.ok Y) ∧ Ts Y (.slice (some ⟨GT, 0, none⟩) 1 1) my4.args := fun Y hs ha => ⟨(hY Y (Nat.le_trans hH.s hs) fun b k1 k2 k3 => (ha b k1 (Nat.lt_of_lt_of_le k2 hH.s) k3).trans (hH.a b k1 k2)).1, (hY Y (Nat.le_trans hH.s hs) fun b k1 k2 k3 => (ha b k1 (Nat.lt_of_lt_of_le k2 hH.s) k3).trans (hH.a b k1 k2)).2.1, HKT.out Y hs fun b k1 k2 => ha b (Nat.le_trans hXb k1) k2 (by omega)⟩
    exact bodyPost_ret (v := .tuple #[.agg #[.slice (some ⟨g, 0, none⟩) 4 4, .slice (some ⟨GS, 0, none⟩) 4 4], .agg #[.int .i64 0, .int .i64 0, .string ⟨#[]⟩, .string ⟨#[109, 97, 121]⟩, .slice (some ⟨GT, 0, none⟩) 1 1]]) (by simp [results, Try.results4, go_sem, q0, q1, u0, u1, u2, u3, u4]) rfl ⟨_, l, _, SS, _, rfl, y1, HL0.out.2, HL0.out.1, y2, hS, HKT.out.ts, hH.b, y4, hAll⟩
end Go.Proofs.Ytbhdalchnbfohaa

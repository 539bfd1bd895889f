/-
  law 7: a range amid changes (RelAmid).
-/
import Derived.Test.YtofopfjmcbgfjaaRB4
import Derived.Test.YtofopfjmcbgfjaaRA37
namespace Go.Proofs.Ytofopfjmcbgfjaa
open Go.RowKit Go.Shelf

/-- A relation of the call's own: what it writes lies apart from XF, what it reads apart from XS. -/
def KR2 (w : World) (XF XS : Nat → Prop) (g m : Nat) (s : St7) (wr : World) : Prop :=
  ∃ F S : Nat → Prop, RM wr g F S m s ∧ (∀ b, F b → w.heap.size ≤ b ∧ ¬ XF b) ∧ (∀ b, S b → w.heap.size ≤ b ∧ ¬ XS b) ∧ Below w.heap.size w wr
theorem KR2.b {w : World} {XF XS : Nat → Prop} {g m : Nat} {s : St7} {wr : World} (h : KR2 w XF XS g m s wr) : Below w.heap.size w wr := by obtain ⟨F, S, h1, h2, h3, h4⟩ := h; exact h4
theorem KR2.ok {w : World} {XF XS : Nat → Prop} {g m : Nat} {s : St7} {wr : World} (h : KR2 w XF XS g m s wr) : s.Ok := by obtain ⟨F, S, h1, h2, h3, h4⟩ := h; exact h1.ok
theorem KR2.fr {w : World} {XF XS P : Nat → Prop} {g m : Nat} {s : St7} {wr w' : World} (h : KR2 w XF XS g m s wr) (hf : Fr P wr w') (hP : ∀ b, P b → w.heap.size ≤ b ∧ XF b ∧ XS b) : KR2 w XF XS g m s w' := by
  obtain ⟨F, S, h1, h2, h3, h4⟩ := h
  exact ⟨F, S, h1.fr hf fun b hb hc => hb.elim (fun h => (h2 b h).2 (hP b hc).2.1) fun h => (h3 b h).2 (hP b hc).2.2, h2, h3, low7 h4 hf fun b hb => (hP b hb).1⟩
theorem KR2.below {w : World} {XF XS : Nat → Prop} {g m : Nat} {s : St7} {wr w' : World} (h : KR2 w XF XS g m s wr) (hb : Below wr.heap.size wr w') : KR2 w XF XS g m s w' := h.fr (P := fun _ => False) (Fr.of hb) fun _ h => h.elim
theorem KR2.kr {w : World} {XF XS X : Nat → Prop} {g m : Nat} {s : St7} {wr : World} (h : KR2 w XF XS g m s wr) (h1 : ∀ b, X b → XF b) (h2 : ∀ b, X b → XS b) : KR w X g m s wr := by
  obtain ⟨F, S, k1, k2, k3, k4⟩ := h
  exact ⟨F, S, k1, fun b hb => hb.elim (fun h => ⟨(k2 b h).1, fun hc => (k2 b h).2 (h1 b hc)⟩) fun h => ⟨(k3 b h).1, fun hc => (k3 b h).2 (h2 b hc)⟩, k4⟩
theorem KR2.add {w wr : World} {XF XS : Nat → Prop} {g m : Nat} {s : St7} {G : Nat → Prop} {v : Value} {r : List Int} (h : KR2 w XF XS g m s wr) (hX : ∀ b, XF b ∨ XS b → b < wr.heap.size) (hv : Li G wr v r) (he : r.length = s.wd) (hl : r.length ≤ 10000000000) (hc : s.rows.length < 10000000000) :
    Calls Try.prog 16 #[.pointer (some ⟨g, 0, none⟩), v] wr fun e w' => e = .returned (.tuple #[.bool (decide (r ∉ s.rows)), .int .i64 0]) ∧ KR2 w XF XS g m (ad7 s r) w' ∧ Fx w XF wr w' := by
  obtain ⟨F, S, h1, h2, h3, h4⟩ := h
  refine (add8_any g F S G m s v r wr h1 hv he hl hc).mono ?_
  rintro e w' ⟨rfl, ⟨F', S', k1, k2, k3⟩, k4⟩
  have := h4.size
  refine ⟨rfl, ⟨F', S', k1, fun b hb => ?_, fun b hb => ?_, low7 h4 k4 fun b hF => (h2 b hF).1⟩, Fr.mono k4 fun b _ hF => h2 b hF⟩
  · exact (k2 b hb).elim (h2 b) fun hn => ⟨by omega, fun hc => by have := hX b (Or.inl hc); omega⟩
  · exact (k3 b hb).elim (h3 b) fun hn => ⟨by omega, fun hc => by have := hX b (Or.inr hc); omega⟩
theorem KR2.turn {w wr : World} {XF XS : Nat → Prop} {g m : Nat} {s : St7} (h : KR2 w XF XS g m s wr) :
    Calls Try.prog 18 #[.pointer (some ⟨g, 0, none⟩)] wr fun e w' => e = .returned (.int .i64 ((s.rows.length : Int) - (s.xf : Int))) ∧ KR2 w XF XS g m (Turn7 s) w' ∧ Fx w XF wr w' := by
  obtain ⟨F, S, h1, h2, h3, h4⟩ := h
  refine (turn7_any g F S m s wr h1).mono ?_
  rintro e w' ⟨rfl, k1, k4⟩
  exact ⟨rfl, ⟨F, S, k1, h2, h3, low7 h4 k4 fun b hF => (h2 b hF).1⟩, Fr.mono k4 fun b _ hF => h2 b hF⟩
theorem KR2.len {w wr : World} {XF XS : Nat → Prop} {g m : Nat} {s : St7} (h : KR2 w XF XS g m s wr) (parts : Int) :
    Calls Try.prog 20 #[.pointer (some ⟨g, 0, none⟩), .int .i64 parts] wr fun e w' => e = .returned (.int .i64 (len7 s parts)) ∧ Below wr.heap.size wr w' := by
  obtain ⟨F, S, h1, h2, h3, h4⟩ := h
  exact len7_any g F S m s parts wr h1
/-- What lies apart amid the range: the law's blocks, the rows of the range's beginning, the loop's, the range's own. -/
def AXF (X S0 : Nat → Prop) (h B E : Nat) : Nat → Prop := fun b => (X b ∨ S0 b) ∨ ((h ≤ b ∧ b < h + 2) ∨ (B ≤ b ∧ b < E))
def AXS (X : Nat → Prop) (h B E : Nat) : Nat → Prop := fun b => X b ∨ ((h ≤ b ∧ b < h + 2) ∨ (B ≤ b ∧ b < E))
/-- Amid the range: w the law's beginning, w3 the range's; bn the counter's box. -/
structure AMI (w w3 : World) (k g m N : Nat) (X S0 : Nat → Prop) (bn B E j : Nat) (s : St7) (W : World) : Prop where
  r : KR2 w (AXF X S0 w3.heap.size B E) (AXS X w3.heap.size B E) g m s W
  wd : s.wd = k
  l : s.rows.length ≤ N + j
  f : ∀ b, (X b ∧ b ≠ bn) ∨ S0 b → W.heap[b]? = w3.heap[b]?
  n : Bk W bn #[.int .i64 (j : Int)] 3
  b1 : w3.heap.size + 2 ≤ B
  b2 : B ≤ E
  b3 : E ≤ W.heap.size
structure AMX (w w3 : World) (X S0 : Nat → Prop) (bn : Nat) : Prop where
  x : ∀ b, X b → w.heap.size ≤ b ∧ b < w3.heap.size
  s : ∀ b, S0 b → b < w3.heap.size ∧ ¬ X b
  n : X bn
theorem AMX.lt {w w3 : World} {X S0 : Nat → Prop} {bn B E : Nat} (h : AMX w w3 X S0 bn) {W : World} (h1 : w3.heap.size + 2 ≤ B) (h2 : B ≤ E) (h3 : E ≤ W.heap.size) : ∀ b, AXF X S0 w3.heap.size B E b ∨ AXS X w3.heap.size B E b → b < W.heap.size := by
  have hx : ∀ b, X b → b < W.heap.size := fun b hb => by have := (h.x b hb).2; omega
  have hs : ∀ b, S0 b → b < W.heap.size := fun b hb => by have := (h.s b hb).1; omega
  rintro b (((hb | hb) | hb) | (hb | hb))
  · exact hx b hb
  · exact hs b hb
  · omega
  · exact hx b hb
  · omega
/-- How much of memory a step leaves. -/
def Lv (w w3 : World) (X S0 : Nat → Prop) (bn B E : Nat) (W W' : World) : Prop := Fr (fun b => w.heap.size ≤ b ∧ (¬ AXF X S0 w3.heap.size B E b ∨ b = bn)) W W'
theorem Lv.of {w w3 : World} {X S0 : Nat → Prop} {bn B E : Nat} {W W' : World} (h : Fx w (AXF X S0 w3.heap.size B E) W W') : Lv w w3 X S0 bn B E W W' := Fr.mono h fun _ _ hb => ⟨hb.1, Or.inl hb.2⟩
theorem Lv.tr {w w3 : World} {X S0 : Nat → Prop} {bn B E : Nat} {a b c : World} (h : Lv w w3 X S0 bn B E a b) (k : Lv w w3 X S0 bn B E b c) : Lv w w3 X S0 bn B E a c := Fr.tr h k
theorem Lv.below {w w3 : World} {X S0 : Nat → Prop} {bn B E : Nat} {W W' : World} (h : Below W.heap.size W W') : Lv w w3 X S0 bn B E W W' := Fr.of h
theorem Lv.uz {w w3 : World} {X S0 : Nat → Prop} {bn B E : Nat} {W W' : World} (h : Lv w w3 X S0 bn B E W W') (hx : AMX w w3 X S0 bn) (hB : w3.heap.size + 2 ≤ B) : Uz w3.heap.size B E W W' := by
  have hn := (hx.x bn hx.n).2
  refine ⟨⟨h.size, fun b h1 h2 h3 => h.block b h3 fun hc => ?_⟩, ⟨h.size, fun b h1 h2 h3 => h.block b h3 fun hc => ?_⟩⟩
  · rcases hc.2 with hc | hc
    · exact hc (Or.inr (Or.inl ⟨h1, h2⟩))
    · omega
  · rcases hc.2 with hc | hc
    · exact hc (Or.inr (Or.inr ⟨h1, h2⟩))
    · omega
theorem AMI.step {w w3 : World} {k g m N N' : Nat} {X S0 : Nat → Prop} {bn B E j : Nat} {s s' : St7} {W W' : World} (h : AMI w w3 k g m N X S0 bn B E j s W) (hx : AMX w w3 X S0 bn) (hr : KR2 w (AXF X S0 w3.heap.size B E) (AXS X w3.heap.size B E) g m s' W') (hf : Fx w (AXF X S0 w3.heap.size B E) W W') (hw : s'.wd = k) (hl : s'.rows.length ≤ N' + j) : AMI w w3 k g m N' X S0 bn B E j s' W' := by
  have h1 := h.b1
  have h2 := h.b2
  have h3 := h.b3
  have hz := hf.size
  refine ⟨hr, hw, hl, fun b hb => ?_, h.n.same (hf.x (Or.inl (Or.inl hx.n)) h.n.lt), h1, h2, by omega⟩
  have hb' : AXF X S0 w3.heap.size B E b := Or.inl (hb.imp And.left id)
  rw [hf.x hb' (hx.lt h1 h2 h3 b (Or.inl hb'))]
  exact h.f b hb
theorem AMI.below {w w3 : World} {k g m N : Nat} {X S0 : Nat → Prop} {bn B E j : Nat} {s : St7} {W W' : World} (h : AMI w w3 k g m N X S0 bn B E j s W) (hx : AMX w w3 X S0 bn) (hb : Below W.heap.size W W') : AMI w w3 k g m N X S0 bn B E j s W' :=
  h.step hx (h.r.below hb) (Fx.of hb) h.wd h.l
theorem AMI.up {w w3 : World} {k g m N N' : Nat} {X S0 : Nat → Prop} {bn B E j : Nat} {s : St7} {W : World} (h : AMI w w3 k g m N X S0 bn B E j s W) (hn : N ≤ N') : AMI w w3 k g m N' X S0 bn B E j s W := ⟨h.r, h.wd, by have := h.l; omega, h.f, h.n, h.b1, h.b2, h.b3⟩
theorem AMI.put {w w3 : World} {k g m N : Nat} {X S0 : Nat → Prop} {bn B E j : Nat} {s : St7} {W : World} (h : AMI w w3 k g m N X S0 bn B E j s W) (hx : AMX w w3 X S0 bn) (hw : w.heap.size ≤ w3.heap.size) (o : Obj) : AMI w w3 k g m N X S0 bn B E j s (W.putObj (w3.heap.size + 1) o) := by
  have ht : ∀ b, b ≠ w3.heap.size + 1 → (W.putObj (w3.heap.size + 1) o).heap[b]? = W.heap[b]? := fun b hb => World.putObj_heap_other hb
  have hf : Fr (fun b => b = w3.heap.size + 1) W (W.putObj (w3.heap.size + 1) o) := ⟨rfl, rfl, rfl, by simp, fun b _ hb => ht b hb⟩
  have hn := (hx.x bn hx.n).2
  refine ⟨h.r.fr hf fun b hb => ?_, h.wd, h.l, fun b hb => ?_, h.n.same (ht _ (by omega)), h.b1, h.b2, by simpa using h.b3⟩
  · have hb' : w3.heap.size ≤ b ∧ b < w3.heap.size + 2 := by omega
    exact ⟨by omega, Or.inr (Or.inl hb'), Or.inr (Or.inl hb')⟩
  · rw [ht b, h.f b hb]
    rcases hb with hb | hb
    · have := (hx.x b hb.1).2; omega
    · have := (hx.s b hb).1; omega
theorem AMI.set {w w3 : World} {k g m N : Nat} {X S0 : Nat → Prop} {bn B E j : Nat} {s : St7} {W : World} (h : AMI w w3 k g m (N + 1) X S0 bn B E j s W) (hx : AMX w w3 X S0 bn) : AMI w w3 k g m N X S0 bn B E (j + 1) s (W.setCell ⟨bn, 0, none⟩ (.int .i64 ((j : Int) + 1))) ∧ Lv w w3 X S0 bn B E W (W.setCell ⟨bn, 0, none⟩ (.int .i64 ((j : Int) + 1))) := by
  have hn := hx.x bn hx.n
  have hf : Fr (fun b => b = bn) W (W.setCell ⟨bn, 0, none⟩ (.int .i64 ((j : Int) + 1))) := Fr.set (Fr.refl _ _) (Or.inl rfl)
  refine ⟨⟨h.r.fr hf fun b hb => ?_, h.wd, by have := h.l; omega, fun b hb => ?_, ?_, h.b1, h.b2, Nat.le_trans h.b3 hf.size⟩, Fr.mono hf fun b _ hb => ⟨by rw [hb]; exact hn.1, Or.inr hb⟩⟩
  · rw [hb]; exact ⟨hn.1, Or.inl (Or.inl hx.n), Or.inl hx.n⟩
  · rw [hf.block b, h.f b hb]
    · have h3 := h.b3
      have h1 := h.b1
      have h2 := h.b2
      rcases hb with hb | hb
      · have := (hx.x b hb.1).2; omega
      · have := (hx.s b hb).1; omega
    · rcases hb with hb | hb
      · exact hb.2
      · exact fun e => (hx.s b hb).2 (by rw [e]; exact hx.n)
  · exact h.n.set 0 _
end Go.Proofs.Ytofopfjmcbgfjaa

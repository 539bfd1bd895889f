/-
  law 7: a range over what Find answers, beside a relation of the call's own.
-/
import Derived.Test.YtofopfjmcbgfjaaRB0
namespace Go.Proofs.Ytofopfjmcbgfjaa
open Go.RowKit Go.Shelf

/-- How a round may be left: only blocks of X are written. -/
def postR (X : Nat → Prop) (I : List (List Int) → World → Prop) (Ix : Code → List (List Int) → World → Prop) (xs : List (List Int)) (W : World) : Exit → Act → World → Prop
  | .normal, _, W' => Fr X W W' ∧ I xs W'
  | .ret, _, W' => Fr X W W' ∧ Ix .ret xs W'
  | .exit id, _, W' => Fr X W W' ∧ Ix (.exit id) xs W'
  | .goto t, _, W' => Fr X W W' ∧ Ix (.goto t) xs W'
  | .panic _, _, _ => False
  | .outgrown, _, _ => False
/-- What speaks of the blocks of X alone. -/
def Only (X : Nat → Prop) (I : World → Prop) : Prop := ∀ W W' : World, I W → W.heap.size ≤ W'.heap.size → (∀ b, X b → W'.heap[b]? = W.heap[b]?) → I W'
/-- The relation amid a range. -/
structure RZ (w : World) (X : Nat → Prop) (g m : Nat) (s : St7) (F S : Nat → Prop) (E : Nat) (W : World) (F' : Nat → Prop) : Prop where
  r : RM W g F' S (m + 1) s
  d : ∀ b, F' b → (F b ∨ w.heap.size + 2 ≤ b) ∧ b < E
  f : Fr (fun b => F b ∨ X b) w W
  e : w.heap.size + 2 ≤ E
  z : E ≤ W.heap.size
theorem RZ.below {w : World} {X : Nat → Prop} {g m : Nat} {s : St7} {F S : Nat → Prop} {E : Nat} {W W' : World} {F' : Nat → Prop} (h : RZ w X g m s F S E W F') (hb : Below W.heap.size W W') : RZ w X g m s F S E W' F' :=
  ⟨h.r.below hb, h.d, h.f.then hb, h.e, Nat.le_trans h.z hb.size⟩
theorem RZ.put {w : World} {X : Nat → Prop} {g m : Nat} {s : St7} {F S : Nat → Prop} {E : Nat} {W : World} {F' : Nat → Prop} (h : RZ w X g m s F S E W F') (hF : ∀ b, F b ∨ S b → b < w.heap.size) (o : Obj) : RZ w X g m s F S E (W.putObj (w.heap.size + 1) o) F' := by
  have ht : ∀ b, b ≠ w.heap.size + 1 → (W.putObj (w.heap.size + 1) o).heap[b]? = W.heap[b]? := fun b hb => World.putObj_heap_other hb
  refine ⟨h.r.same (by simp) fun b hb _ => ht b fun e => ?_, h.d, ⟨h.f.os, h.f.tape, h.f.output, by simpa using h.f.size, fun b hb hn => (ht b (by omega)).trans (h.f.block b hb hn)⟩, h.e, by simpa using h.z⟩
  rcases hb with hb | hb
  · rcases (h.d b hb).1 with hq | hq
    · have := hF b (Or.inl hq); omega
    · omega
  · have := hF b (Or.inr hb); omega
theorem RZ.kr {w w0 : World} {X : Nat → Prop} {g m : Nat} {s : St7} {F S : Nat → Prop} {E : Nat} {W : World} {F' : Nat → Prop} (h : RZ w X g m s F S E W F') (hFS : ∀ b, F b ∨ S b → w0.heap.size ≤ b ∧ ¬ X b) (hX : ∀ b, X b → w0.heap.size ≤ b ∧ b < w.heap.size) (hS : ∀ b, F b ∨ S b → b < w.heap.size) (hb : Below w0.heap.size w0 w) (Y : Nat → Prop) (hY : ∀ b, Y b → X b ∨ b = w.heap.size ∨ b = w.heap.size + 1) : KR w0 Y g (m + 1) s W := by
  have := hb.size
  refine ⟨F', S, h.r, fun b hb' => ?_, low7 hb h.f fun b hb' => hb'.elim (fun h => (hFS b (Or.inl h)).1) fun h => (hX b h).1⟩
  have hn : w.heap.size + 2 ≤ b → w0.heap.size ≤ b ∧ ¬ Y b := fun h => ⟨by omega, fun hc => by rcases hY b hc with hc | hc | hc; (have := (hX b hc).2; omega); omega; omega⟩
  have ho : F b ∨ S b → w0.heap.size ≤ b ∧ ¬ Y b := fun h => ⟨(hFS b h).1, fun hc => by rcases hY b hc with hc | hc | hc; exact (hFS b h).2 hc; (have := hS b h; omega); (have := hS b h; omega)⟩
  rcases hb' with hb' | hb'
  · exact (h.d b hb').1.elim (fun h => ho (Or.inl h)) hn
  · exact ho (Or.inr hb')
section
variable {n : Nat}
set_option maxHeartbeats 1000000 in
theorem range_core {gop : Operand} {ps : Array Tmp} {assign body : Code} {Q : Exit → Act → World → Prop} {a : Act} {w w0 : World} {X : Nat → Prop} {g m : Nat} {s : St7} {b1 b2 b3 b4 b5 : Nat}
    (hg : a.eval gop = fnd7 b1 b2 b3 b4 b5) (hps : 1 = ps.size) (F S : Nat → Prop) (hFS : ∀ b, F b ∨ S b → w0.heap.size ≤ b ∧ ¬ X b) (hS : ∀ b, F b ∨ S b → b < w.heap.size) (hX : ∀ b, X b → w0.heap.size ≤ b ∧ b < w.heap.size) (hb : Below w0.heap.size w0 w)
    {xs : List (List Int)} (hxw : ∀ x ∈ xs, w64 x) {D0 : World → Prop} {Eff Kp : World → World → Prop} (hseq : SeqX Try.prog 32 #[.pointer (some ⟨b1, 0, none⟩), .pointer (some ⟨b2, 0, none⟩), .pointer (some ⟨b3, 0, none⟩), .pointer (some ⟨b4, 0, none⟩), .pointer (some ⟨b5, 0, none⟩)] xs D0 Eff Kp)
    (hD : ∀ W1, Below w.heap.size w W1 → W1.heap.size = w.heap.size + 2 → D0 W1 ∧ (∀ W2, Eff W1 W2 → ∃ F' : Nat → Prop, RM W2 g F' S (m + 1) s ∧ Fr F W1 W2 ∧ ∀ b, F' b → (F b ∨ W1.heap.size ≤ b) ∧ b < W2.heap.size) ∧ ∀ W2, Fr (fun b => F b ∨ X b) w W2 → Kp W1 W2)
    (I : List (List Int) → World → Prop) (hI : ∀ pre, Only X (I pre)) (h0 : I [] w) (Ix : Code → List (List Int) → World → Prop) (hIx : ∀ c pre, Only X (Ix c pre)) (A0 : Value → Act)
    (hassign : ∀ (l mm : Nat) (v : Value) (W : World) (K : Act → World → Prop), (∃ a n c, v = .slice a n c) → K (A0 v) W → assign.wpIn (Fence.wide.inRound l) mm Try.prog (Exit.then K (fun _ _ _ => False)) { tmps := (ps.zip #[v]).foldl (fun t (p, v) => t.setIfInBounds p v) a.tmps, defers := [] } W)
    (hbody : ∀ (l mm : Nat) (pre : List (List Int)) (x : List Int) (v : Value) (W : World), pre ++ [x] <+: xs → I pre W → Li (fun b => w.heap.size ≤ b) W v x → KR w0 X g (m + 1) s W → w.heap.size ≤ W.heap.size → body.wpIn (Fence.wide.inRound l) mm Try.prog (postR X I Ix (pre ++ [x]) W) (A0 v) W)
    (hdone : ∀ (D : Nat) (W : World), D = w.heap.size → I xs W → KR w0 (fun b => X b ∨ b = D ∨ b = D + 1) g (m + 1) s W → W.heap[D]? = some (.deferred (some [])) → Q .normal { a with defers := { target := .collected D, args := #[] } :: a.defers } W)
    (hstop : ∀ (D : Nat) (c : Code) (pre : List (List Int)) (W : World), D = w.heap.size → pre <+: xs → Ix c pre W → W.heap[D]? = some (.deferred (some [])) → KR w0 (fun b => X b ∨ b = D ∨ b = D + 1) g (m + 1) s W → c.wpIn Fence.wide n Try.prog Q { a with defers := { target := .collected D, args := #[] } :: a.defers } W) :
    (Code.rangeFunc gop ps assign body).wpIn Fence.wide n Try.prog Q a w := by
  refine wpIn_seqX (gf := 32) (lb := #[.pointer (some ⟨b1, 0, none⟩), .pointer (some ⟨b2, 0, none⟩), .pointer (some ⟨b3, 0, none⟩), .pointer (some ⟨b4, 0, none⟩), .pointer (some ⟨b5, 0, none⟩)]) hg (enters_of Try.func32 (by kernel_rfl) rfl) hseq hps
    (fun E pre W => ∃ F', RZ w X g m s F S E W F' ∧ I pre W)
    (fun E c pre W => ∃ F', RZ w X g m s F S E W F' ∧ Ix c pre W) ?ownI ?ownX ?start
    (fun E pre x v act W => (∃ F', RZ w X g m s F S E W F' ∧ I pre W ∧ Li (fun b => E ≤ b) W v x) ∧ act = A0 v)
    ?ownA ?assign ?body ?done ?stop
  case ownI =>
    rintro E pre W o o' ⟨F', hz, hi⟩ _ _
    exact ⟨F', hz.put hS _, hI pre W _ hi (by simp) fun b hb => World.putObj_heap_other (by have := (hX b hb).2; omega)⟩
  case ownX =>
    rintro E c pre W o o' ⟨F', hz, hi⟩ _ _
    exact ⟨F', hz.put hS _, hIx c pre W _ hi (by simp) fun b hb => World.putObj_heap_other (by have := (hX b hb).2; omega)⟩
  case ownA =>
    rintro E pre x v act _ W o o' ⟨⟨F', hz, hi, hl⟩, ha⟩ _ _
    have he := hz.e
    exact ⟨⟨F', hz.put hS _, hI pre W _ hi (by simp) fun b hb => World.putObj_heap_other (by have := (hX b hb).2; omega), hl.same (by simp) fun b hb _ => World.putObj_heap_other (by omega)⟩, ha⟩
  case start =>
    intro W1 hb1 hz1
    obtain ⟨k1, k2, k3⟩ := hD W1 hb1 hz1
    refine ⟨k1, fun W2 h2 => ?_, fun E pre W2 ⟨F', hz, _⟩ => ⟨k3 W2 hz.f, hz.e⟩⟩
    obtain ⟨F', q1, q2, q3⟩ := k2 W2 h2
    have hs2 := q2.size
    have hnF : ∀ b, F b → b < w.heap.size := fun b hb => hS b (Or.inl hb)
    refine ⟨⟨F', ⟨q1, fun b hb => ⟨(q3 b hb).1.imp id (by omega), (q3 b hb).2⟩, ?_, by omega, Nat.le_refl _⟩, ?_⟩, by omega, ?_, ?_⟩
    · exact (Fr.of hb1).trans q2 fun b _ hF => Or.inl hF
    · refine hI [] w W2 h0 (by have := hb1.size; omega) fun b hx => ?_
      have hxl := (hX b hx).2
      rw [q2.block b (by omega) fun hF => (hFS b (Or.inl hF)).2 hx]
      exact hb1.block b hxl
    · exact q2.block _ (by omega) fun hF => by have := hnF _ hF; omega
    · exact q2.block _ (by omega) fun hF => by have := hnF _ hF; omega
  case assign =>
    rintro l mm E pre x v W0 W K hpre ⟨F', hz, hi⟩ hb0 hown hle hK
    have hli := (OwI.li hown (hxw x (hpre.subset (by simp)))).mono (G := fun b => E ≤ b) fun b _ hb => by have := hz.z; omega
    refine hassign l mm v W K ?_ (hK _ _ (Uq.refl _ _ _) ⟨⟨F', hz.below hb0, hI pre W0 W hi hb0.size fun b hx => hb0.block b ?_, hli⟩, rfl⟩)
    · obtain ⟨a, c, e, -⟩ := hli; exact ⟨_, _, _, e⟩
    · have := (hX b hx).2; have := hz.z; have := hz.e; omega
  case body =>
    rintro l mm E pre x v act W hpre ⟨⟨F', hz, hi, hl⟩, rfl⟩ hle
    have he := hz.e
    have hez := hz.z
    refine wpIn_mono (hbody l mm pre x v W hpre hi (hl.mono fun b _ hb => by omega) (hz.kr hFS hX hS hb X fun b hb => Or.inl hb) hle) ?_
    have fin : ∀ W', Fr X W W' → Uq w.heap.size E W W' ∧ RZ w X g m s F S E W' F' := fun W' hf => by
      refine ⟨⟨hf.size, fun b h1 h2 h3 => hf.block b h3 fun hc => by have := (hX b hc).2; omega⟩, hz.r.fr hf fun b hb hc => ?_, hz.d, hz.f.trans hf fun b _ hc => Or.inr hc, he, Nat.le_trans hez hf.size⟩
      rcases hb with hb | hb
      · rcases (hz.d b hb).1 with hq | hq
        · exact (hFS b (Or.inl hq)).2 hc
        · have := (hX b hc).2; omega
      · exact (hFS b (Or.inr hb)).2 hc
    rintro e a3 W3 hp
    cases e with
    | normal => exact ⟨(fin W3 hp.1).1, F', (fin W3 hp.1).2, hp.2⟩
    | ret => exact ⟨(fin W3 hp.1).1, F', (fin W3 hp.1).2, hp.2⟩
    | exit id => exact ⟨(fin W3 hp.1).1, F', (fin W3 hp.1).2, hp.2⟩
    | goto t => exact ⟨(fin W3 hp.1).1, F', (fin W3 hp.1).2, hp.2⟩
    | panic ch => exact hp.elim
    | outgrown => exact hp.elim
  case done =>
    rintro E D W rfl ⟨F', hz, hi⟩ hD
    exact hdone _ W rfl hi (hz.kr hFS hX hS hb _ fun b hb => hb) hD
  case stop =>
    rintro E D c pre W rfl hpre ⟨F', hz, hi⟩ hD
    exact hstop _ c pre W rfl hpre hi hD (hz.kr hFS hX hS hb _ fun b hb => hb)
end
/-- A relation of the call's own and Find's answer. -/
def KF (w : World) (X : Nat → Prop) (g m : Nat) (s : St7) (parts : Int) (cols keys : List Int) (b1 b2 b3 b4 b5 : Nat) (wr : World) : Prop :=
  ∃ F S : Nat → Prop, RM wr g F S m s ∧ (∀ b, F b ∨ S b → w.heap.size ≤ b ∧ ¬ X b) ∧ Below w.heap.size w wr ∧
    ((Bk wr b1 #[.bool false] 4 ∧ bad7 s.wd cols keys ∧ ¬ X b1) ∨ ∃ (sv nv : Value) (l : List (Int × Int)) (G N : Nat → Prop), FB wr g parts sv nv b1 b2 b3 b4 b5 ∧ cols.length = keys.length ∧ (∀ c ∈ cols, col7 s.wd c = true) ∧ unq7 (cols.zip keys) l ∧ Li G wr sv (l.map Prod.fst) ∧ Li N wr nv (l.map Prod.snd) ∧ (∀ b, G b ∨ N b → w.heap.size ≤ b ∧ ¬ X b ∧ ¬ F b ∧ b < wr.heap.size) ∧ (¬ X b1 ∧ ¬ X b2 ∧ ¬ X b3 ∧ ¬ X b4 ∧ ¬ X b5))
theorem KF.mk {w wr w' : World} {X : Nat → Prop} {g m : Nat} {s : St7} {parts : Int} {cols keys : List Int} {e : Ending} (h : KR w X g m s wr) (hX : ∀ b, X b → b < wr.heap.size) (hf : FI wr g parts s.wd cols keys e w') (hw : w64 keys) (hc : w64 cols) : ∃ b1 b2 b3 b4 b5, e = .returned (fnd7 b1 b2 b3 b4 b5) ∧ KF w X g m s parts cols keys b1 b2 b3 b4 b5 w' ∧ Below wr.heap.size wr w' := by
  obtain ⟨F, S, h1, h2, h3⟩ := h
  obtain ⟨hb, b1, b2, b3, b4, b5, rfl, ⟨p1, p2, p3, p4, p5⟩, hh⟩ := hf
  have hz := h3.size
  have hn : ∀ b, wr.heap.size ≤ b → ¬ X b := fun b hl hc => by have := hX b hc; omega
  refine ⟨b1, b2, b3, b4, b5, rfl, ⟨F, S, h1.below hb, h2, h3.trans (hb.mono hz), hh.imp (fun h => ⟨h.1, h.2, hn _ p1⟩) ?_⟩, hb⟩
  rintro ⟨sv, nv, l, q1, q2, q3, q4, -, q6, q7⟩
  have e1 : w64 (l.map Prod.fst) := by
    intro x hx
    simp only [List.mem_map] at hx
    obtain ⟨p, hp, rfl⟩ := hx
    exact hc p.1 (List.of_mem_zip ((unq7_mem q4 p).1 hp)).1
  have e2 : w64 (l.map Prod.snd) := by
    intro x hx
    simp only [List.mem_map] at hx
    obtain ⟨p, hp, rfl⟩ := hx
    exact hw p.2 (List.of_mem_zip ((unq7_mem q4 p).1 hp)).2
  refine ⟨sv, nv, l, fun b => wr.heap.size ≤ b ∧ b < w'.heap.size, fun b => wr.heap.size ≤ b ∧ b < w'.heap.size, q1, q2, q3, q4, (q6.li e1).mono fun b hl hb => ⟨hb.1, hl⟩, (q7.li e2).mono fun b hl hb => ⟨hb.1, hl⟩, fun b hb' => ?_, hn _ p1, hn _ p2, hn _ p3, hn _ p4, hn _ p5⟩
  have hb2 : wr.heap.size ≤ b ∧ b < w'.heap.size := hb'.elim id id
  exact ⟨by omega, hn b hb2.1, fun hF => by have := (h1.q b hF).2; omega, hb2.2⟩
/-- Only X is written, and what is new: then X may hold what is new. -/
theorem KF.fr {w : World} {X Y P : Nat → Prop} {g m : Nat} {s : St7} {parts : Int} {cols keys : List Int} {b1 b2 b3 b4 b5 : Nat} {wr w' : World} (h : KF w X g m s parts cols keys b1 b2 b3 b4 b5 wr) (hf : Fr P wr w') (hP : ∀ b, P b → b < wr.heap.size → X b ∧ w.heap.size ≤ b) (hY : ∀ b, Y b → X b ∨ wr.heap.size ≤ b) : KF w Y g m s parts cols keys b1 b2 b3 b4 b5 w' := by
  obtain ⟨F, S, h1, h2, h3, hh⟩ := h
  have hn : ∀ b, ¬ X b → b < wr.heap.size → ¬ Y b := fun b hx hl hc => (hY b hc).elim hx fun h => by omega
  have hl : ∀ b, F b ∨ S b → b < wr.heap.size := fun b hb => hb.elim (fun h => (h1.q b h).2) (h1.q2 b)
  have hnp : ∀ b, ¬ X b → b < wr.heap.size → ¬ P b := fun b hx hl hc => hx (hP b hc hl).1
  have hbl : Below w.heap.size w w' := by
    have hz := h3.size
    refine h3.trans (Fr.low (Fr.mono hf (Q := fun b => w.heap.size ≤ b) fun b hl hb => (hP b hb hl).2) hz)
  have hfr : Fr P wr w' := hf
  refine ⟨F, S, h1.same hf.size fun b hb hlb => hf.block b hlb (hnp b (h2 b hb).2 hlb), fun b hb => ⟨(h2 b hb).1, hn b (h2 b hb).2 (hl b hb)⟩, hbl, ?_⟩
  rcases hh with ⟨q1, q2, p1⟩ | ⟨sv, nv, l, G, N, q1, q2, q3, q4, q5, q6, q7, p1, p2, p3, p4, p5⟩
  · exact Or.inl ⟨q1.fr hf (hnp _ p1 q1.lt), q2, hn _ p1 q1.lt⟩
  · have := hf.size
    exact Or.inr ⟨sv, nv, l, G, N, ⟨q1.p.fr hf (hnp _ p1 q1.p.lt), q1.r.fr hf (hnp _ p2 q1.r.lt), q1.q.fr hf (hnp _ p3 q1.q.lt), q1.s.fr hf (hnp _ p4 q1.s.lt), q1.n.fr hf (hnp _ p5 q1.n.lt)⟩, q2, q3, q4, q5.fr hf fun b hl hb => hnp b (q7 b (Or.inl hb)).2.1 hl, q6.fr hf fun b hl hb => hnp b (q7 b (Or.inr hb)).2.1 hl, fun b hb => ⟨(q7 b hb).1, hn b (q7 b hb).2.1 (q7 b hb).2.2.2, (q7 b hb).2.2.1, Nat.lt_of_lt_of_le (q7 b hb).2.2.2 this⟩, hn _ p1 q1.p.lt, hn _ p2 q1.r.lt, hn _ p3 q1.q.lt, hn _ p4 q1.s.lt, hn _ p5 q1.n.lt⟩
theorem KF.below {w : World} {X : Nat → Prop} {g m : Nat} {s : St7} {parts : Int} {cols keys : List Int} {b1 b2 b3 b4 b5 : Nat} {wr w' : World} (h : KF w X g m s parts cols keys b1 b2 b3 b4 b5 wr) (hb : Below wr.heap.size wr w') : KF w X g m s parts cols keys b1 b2 b3 b4 b5 w' :=
  h.fr (P := fun _ => False) (Fr.of hb) (fun _ h => h.elim) fun _ h => Or.inl h
theorem RM.up {w : World} {g : Nat} {F S : Nat → Prop} {m m' : Nat} {s : St7} (h : RM w g F S m s) (hm : m ≤ m') : RM w g F S m' s := by
  obtain ⟨rv, rvs, mp, mx, nx, t, f, hn, h⟩ := h
  exact ⟨rv, rvs, mp, mx, nx, t, f, Nat.le_trans hn hm, h⟩
theorem nat7_of {wd : Nat} {l : List (Int × Int)} (h : ∀ p ∈ l, col7 wd p.1 = true) : nat7 (l.map fun p => p.1.toNat) = l.map Prod.fst := by
  unfold nat7
  rw [List.map_map]
  apply List.map_congr_left
  intro p hp
  have := h p hp
  rw [col7, decide_eq_true_eq] at this
  simp only [Function.comp]
  omega
theorem unq7_len {z l : List (Int × Int)} (h : unq7 z l) : l.length ≤ z.length := by
  obtain ⟨l', hp, -, rfl⟩ := h
  rw [← hp.length_eq]
  unfold Go.Lib.compact Go.Lib.compactUpTo
  rw [List.length_map]
  exact Nat.le_trans (List.length_filter_le ..) (by simp)
section
variable {n : Nat}
/-- What Find by these columns hands out. -/
def fnd8 (s : St7) (parts : Int) (cols keys : List Int) : List (List Int) := (srt7 (sel7 s parts [] [])).filter (fits8 cols keys)
theorem fnd8_mem {s : St7} {parts : Int} {cols keys : List Int} : ∀ x ∈ fnd8 s parts cols keys, x ∈ s.rows := fun x hx => sel_mem x ((srt7_perm _).mem_iff.1 (List.mem_filter.1 hx).1)
set_option maxHeartbeats 1000000 in
theorem range_find {gop : Operand} {ps : Array Tmp} {assign body : Code} {Q : Exit → Act → World → Prop} {a : Act} {w w0 : World} {X : Nat → Prop} {g m : Nat} {s : St7} {parts : Int} {cols keys : List Int} {b1 b2 b3 b4 b5 : Nat}
    (hg : a.eval gop = fnd7 b1 b2 b3 b4 b5) (hps : 1 = ps.size) (hk : KF w0 X g m s parts cols keys b1 b2 b3 b4 b5 w) (hX : ∀ b, X b → w0.heap.size ≤ b ∧ b < w.heap.size) (hw : w64 keys) (hl : cols.length ≤ 1000000000) (hm : m ≤ 100000000000000)
    (I : List (List Int) → World → Prop) (hI : ∀ pre, Only X (I pre)) (h0 : I [] w) (Ix : Code → List (List Int) → World → Prop) (hIx : ∀ c pre, Only X (Ix c pre)) (A0 : Value → Act)
    (hassign : ∀ (l mm : Nat) (v : Value) (W : World) (K : Act → World → Prop), (∃ a n c, v = .slice a n c) → K (A0 v) W → assign.wpIn (Fence.wide.inRound l) mm Try.prog (Exit.then K (fun _ _ _ => False)) { tmps := (ps.zip #[v]).foldl (fun t (p, v) => t.setIfInBounds p v) a.tmps, defers := [] } W)
    (hbody : ∀ (l mm : Nat) (pre : List (List Int)) (x : List Int) (v : Value) (W : World), pre ++ [x] <+: fnd8 s parts cols keys → I pre W → Li (fun b => w.heap.size ≤ b) W v x → KR w0 X g (m + 1) s W → w.heap.size ≤ W.heap.size → body.wpIn (Fence.wide.inRound l) mm Try.prog (postR X I Ix (pre ++ [x]) W) (A0 v) W)
    (hdone : ∀ (D : Nat) (W : World), D = w.heap.size → I (fnd8 s parts cols keys) W → KR w0 (fun b => X b ∨ b = D ∨ b = D + 1) g (m + 1) s W → W.heap[D]? = some (.deferred (some [])) → Q .normal { a with defers := { target := .collected D, args := #[] } :: a.defers } W)
    (hstop : ∀ (D : Nat) (c : Code) (pre : List (List Int)) (W : World), D = w.heap.size → pre <+: fnd8 s parts cols keys → Ix c pre W → W.heap[D]? = some (.deferred (some [])) → KR w0 (fun b => X b ∨ b = D ∨ b = D + 1) g (m + 1) s W → c.wpIn Fence.wide n Try.prog Q { a with defers := { target := .collected D, args := #[] } :: a.defers } W) :
    (Code.rangeFunc gop ps assign body).wpIn Fence.wide n Try.prog Q a w := by
  obtain ⟨F, S, h1, h2, h3, hh⟩ := hk
  have hlt : ∀ b, F b ∨ S b → b < w.heap.size := fun b hb => hb.elim (fun h => (h1.q b h).2) (h1.q2 b)
  have hxw : ∀ x ∈ fnd8 s parts cols keys, w64 x := fun x hx => h1.ok.w x (fnd8_mem x hx)
  rcases hh with ⟨q1, q2, -⟩ | ⟨sv, nv, l, G, N, q1, q2, q3, q4, q5, q6, q7, -⟩
  · have e : fnd8 s parts cols keys = [] := by
      unfold fnd8
      rw [List.filter_eq_nil_iff]
      intro x hx
      rw [bad_none q2 (h1.ok.wid x (sel_mem x ((srt7_perm _).mem_iff.1 hx)))]
      simp
    rw [e] at hdone hstop hbody
    refine range_core hg hps F S h2 hlt hX h3 (xs := []) (by simp) (find_none b1 b2 b3 b4 b5) (fun W1 hb1 hz1 => ⟨q1.below hb1, fun W2 hW2 => ?_, fun _ _ => trivial⟩) I hI h0 Ix hIx A0 hassign hbody hdone hstop
    rw [hW2]
    exact ⟨F, (h1.below hb1).up (by omega), Fr.refl _ _, fun b hb => ⟨Or.inl hb, by have := hlt b (Or.inl hb); omega⟩⟩
  · have hcl : ∀ p ∈ l, col7 s.wd p.1 = true := fun p hp => q3 p.1 (List.of_mem_zip ((unq7_mem q4 p).1 hp)).1
    have hll : l.length ≤ 1000000000 := by
      have := unq7_len q4
      rw [List.length_zip] at this
      omega
    have e := sift8 h1.ok parts q2 q3 q4 hw
    have hmem : ∀ x ∈ fnd8 s parts cols keys, x ∈ s.rows := fnd8_mem
    have hlen : (fnd8 s parts cols keys).length ≤ 100000000000 := by
      unfold fnd8
      refine Nat.le_trans (List.length_filter_le ..) ?_
      rw [(srt7_perm _).length_eq]
      have h1' := sel_len s.rows (pls7 s [] []) (sts7 s parts)
      have h2' := pls7_len h1.ok [] []
      have h3' := sts7_len s parts
      have := Nat.mul_le_mul h3' h2'
      unfold sel7
      omega
    refine range_core hg hps F (fun b => S b ∨ G b) (fun b hb => ?_) (fun b hb => ?_) hX h3 hxw
      (find_seq g F S G N m s parts (l.map fun p => p.1.toNat) (l.map Prod.snd) sv nv b1 b2 b3 b4 b5 (fnd8 s parts cols keys) (by unfold fnd8; rw [← e]; exact srt7_srt _) (by unfold fnd8; rw [← e]; exact srt7_perm _) (fun x hx => ?_) hlen (by rw [List.length_map]; omega) (fun c hc => ?_) (by rw [List.length_map]; omega) hm)
      (fun W1 hb1 hz1 => ⟨⟨q1.below hb1, h1.below hb1, ?_, fun b hb => ⟨(q7 b (Or.inl hb)).2.2.1, ?_⟩, q6.below hb1, fun b hb => (q7 b (Or.inr hb)).2.2.1⟩, ?_, ?_⟩) I hI h0 Ix hIx A0 hassign hbody hdone hstop
    · rcases hb with hb | hb | hb
      · exact h2 b (Or.inl hb)
      · exact h2 b (Or.inr hb)
      · exact ⟨(q7 b (Or.inl hb)).1, (q7 b (Or.inl hb)).2.1⟩
    · rcases hb with hb | hb | hb
      · exact hlt b (Or.inl hb)
      · exact hlt b (Or.inr hb)
      · exact (q7 b (Or.inl hb)).2.2.2
    · rw [h1.ok.wid x (hmem x hx)]
      have := h1.ok.d (List.ne_nil_of_mem (hmem x hx))
      omega
    · obtain ⟨p, hp, rfl⟩ := List.mem_map.1 hc
      have := hcl p hp
      rw [col7, decide_eq_true_eq] at this
      omega
    · rw [nat7_of hcl]; exact q5.below hb1
    · have := (q7 b (Or.inl hb)).2.2.2; omega
    · rintro W2 ⟨F', r1, r2, -, r4⟩
      exact ⟨F', r1, r2, r4⟩
    · intro W2 hf b hb
      have hbl : b < w.heap.size := hb.elim (fun h => hlt b (Or.inr h)) fun h => (q7 b (Or.inl h)).2.2.2
      rw [hf.block b hbl, hb1.block b hbl]
      rintro (hc | hc)
      · exact hb.elim (fun h => (h1.q b hc).1 h) fun h => (q7 b (Or.inl h)).2.2.1 hc
      · exact hb.elim (fun h => (h2 b (Or.inr h)).2 hc) fun h => (q7 b (Or.inl h)).2.1 hc
end
end Go.Proofs.Ytofopfjmcbgfjaa

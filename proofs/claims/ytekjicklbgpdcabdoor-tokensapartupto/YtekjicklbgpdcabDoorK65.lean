/-
  hearsaylaw04.TokensApart: the walk.
-/
import Derived.Test.YtekjicklbgpdcabDoorK64
namespace Go.Proofs.YtekjicklbgpdcabDoor
open Go.RowKit

/-- Texts in memory. -/
def Xs (w : World) (v : Value) (T : List ByteArray) : Prop :=
  ∃ a cap, v = .slice a T.length cap ∧ (T = [] ∨ ∃ b o, a = some ⟨b, o, none⟩ ∧ b < w.heap.size ∧ ∀ (i : Nat) (s : ByteArray), T[i]? = some s → w.cell? ⟨b, o + i, none⟩ = some (.string s))
theorem OwnK.grown {w w' : World} {base : Nat} {v : Value} {l : List Tk} {row : Option Nat} (h : OwnK w base v l) (hg : w.grownBy w' row) (hr : ∀ k, v.ownBlock = some k → row ≠ some k) : OwnK w' base v l := by
  refine ⟨h.1, ?_⟩
  rcases h.2 with hn | ⟨g, cap, cur, hv, hbb, hg', rest⟩
  · exact Or.inl hn
  · exact Or.inr ⟨g, cap, cur, hv, hbb, (hg.block g (Array.getElem?_eq_some_iff.1 hg').1 (fun e => hr g (by rw [hv]; rfl) e.symm)).trans hg', rest⟩
/-- Four lists, made one behind the other. -/
structure Four (W : World) (b1 b2 b3 b4 : Nat) (v1 v2 v3 v4 : Value) (L : List Tk) : Prop where
  o1 : OwnK W b1 v1 L
  o2 : OwnK W b2 v2 xyT
  o3 : OwnK W b3 v3 L
  o4 : OwnK W b4 v4 xyT
  l1 : ∀ k, v1.ownBlock = some k → b1 ≤ k ∧ k < b2
  l2 : ∀ k, v2.ownBlock = some k → b2 ≤ k ∧ k < b3
  l3 : ∀ k, v3.ownBlock = some k → b3 ≤ k ∧ k < b4
  l4 : ∀ k, v4.ownBlock = some k → b4 ≤ k ∧ k < W.heap.size
  b12 : b1 ≤ b2
  b23 : b2 ≤ b3
  b34 : b3 ≤ b4
  b45 : b4 ≤ W.heap.size
theorem Four.later {W W' : World} {b1 b2 b3 b4 : Nat} {v1 v2 v3 v4 : Value} {L : List Tk} (h : Four W b1 b2 b3 b4 v1 v2 v3 v4 L) (hb : Below W.heap.size W W') : Four W' b1 b2 b3 b4 v1 v2 v3 v4 L :=
  ⟨h.o1.later hb, h.o2.later hb, h.o3.later hb, h.o4.later hb, h.l1, h.l2, h.l3, fun k e => ⟨(h.l4 k e).1, Nat.lt_of_lt_of_le (h.l4 k e).2 hb.size⟩, h.b12, h.b23, h.b34, Nat.le_trans h.b45 hb.size⟩
/-- What the four lends leave. -/
theorem four_ok {W x1 x2 x3 x4 : World} {b1 b2 b3 b4 : Nat} {v1 v2 v3 v4 G1 G2 G3 G4 : Value} {L : List Tk} {n : Int} (h : Four W b1 b2 b3 b4 v1 v2 v3 v4 L) (h0 : 0 ≤ n) (h1 : n ≤ 9000000) (hL : L.length ≤ 9000000)
    (k1 : Kep x1 (fun b => some b = v1.ownBlock ∨ W.heap.size ≤ b) v1 G1 n L.length) (g1 : W.grownBy x1 v1.ownBlock)
    (k2 : Kep x2 (fun b => some b = v2.ownBlock ∨ x1.heap.size ≤ b) v2 G2 (n + 1) xyT.length) (g2 : x1.grownBy x2 v2.ownBlock)
    (k3 : Kep x3 (fun b => some b = v3.ownBlock ∨ x2.heap.size ≤ b) v3 G3 (n + 2) L.length) (g3 : x2.grownBy x3 v3.ownBlock)
    (k4 : Kep x4 (fun b => some b = v4.ownBlock ∨ x3.heap.size ≤ b) v4 G4 (n + 3) xyT.length) (g4 : x3.grownBy x4 v4.ownBlock) :
    (∀ x ∈ [Ke.mk v1 G1 n L.length, ⟨v2, G2, n + 1, xyT.length⟩, ⟨v3, G3, n + 2, L.length⟩, ⟨v4, G4, n + 3, xyT.length⟩], x.ok x4 (fun b => b1 ≤ b)) ∧ Below b1 W x4 := by
  have z1 := g1.size
  have z2 := g2.size
  have z3 := g3.size
  have z4 := g4.size
  have hx : xyT.length ≤ 9000000 := by decide
  have b12 := h.b12
  have b23 := h.b23
  have b34 := h.b34
  have b45 := h.b45
  have ne : ∀ {X Y : World} {row : Option Nat} {S S' : Nat → Prop} {v G : Value} {m : Int} {c : Nat}, Kep X S v G m c → X.grownBy Y row → (∀ b, S b → S' b ∧ row ≠ some b) → Kep Y S' v G m c := fun hk hg hS =>
    hk.kept hg.size (fun b hb hs => ⟨(hS b hs).1, hg.block b hb (fun e => (hS b hs).2 e.symm)⟩)
  have f1 : Kep x4 (fun b => b1 ≤ b) v1 G1 n L.length := by
    have s2 : Kep x2 (fun b => some b = v1.ownBlock ∨ W.heap.size ≤ b) v1 G1 n L.length := ne k1 g2 fun b hb => ⟨hb, fun e => by
      have := h.l2 b e
      rcases hb with hb | hb
      · have := h.l1 b hb.symm; omega
      · omega⟩
    have s3 : Kep x3 (fun b => some b = v1.ownBlock ∨ W.heap.size ≤ b) v1 G1 n L.length := ne s2 g3 fun b hb => ⟨hb, fun e => by
      have := h.l3 b e
      rcases hb with hb | hb
      · have := h.l1 b hb.symm; omega
      · omega⟩
    exact ne s3 g4 fun b hb => ⟨by
      rcases hb with hb | hb
      · exact (h.l1 b hb.symm).1
      · omega, fun e => by
      have := h.l4 b e
      rcases hb with hb | hb
      · have := h.l1 b hb.symm; omega
      · omega⟩
  have f2 : Kep x4 (fun b => b1 ≤ b) v2 G2 (n + 1) xyT.length := by
    have s3 : Kep x3 (fun b => some b = v2.ownBlock ∨ x1.heap.size ≤ b) v2 G2 (n + 1) xyT.length := ne k2 g3 fun b hb => ⟨hb, fun e => by
      have := h.l3 b e
      rcases hb with hb | hb
      · have := h.l2 b hb.symm; omega
      · omega⟩
    exact ne s3 g4 fun b hb => ⟨by
      rcases hb with hb | hb
      · have := h.l2 b hb.symm; omega
      · omega, fun e => by
      have := h.l4 b e
      rcases hb with hb | hb
      · have := h.l2 b hb.symm; omega
      · omega⟩
  have f3 : Kep x4 (fun b => b1 ≤ b) v3 G3 (n + 2) L.length := ne k3 g4 fun b hb => ⟨by
      rcases hb with hb | hb
      · have := h.l3 b hb.symm; omega
      · omega, fun e => by
      have := h.l4 b e
      rcases hb with hb | hb
      · have := h.l3 b hb.symm; omega
      · omega⟩
  have f4 : Kep x4 (fun b => b1 ≤ b) v4 G4 (n + 3) xyT.length := k4.kept (Nat.le_refl _) fun b _ hb => ⟨by
      rcases hb with hb | hb
      · have := h.l4 b hb.symm; omega
      · omega, rfl⟩
  refine ⟨fun x hx' => ?_, ?_⟩
  · simp only [List.mem_cons, List.not_mem_nil, or_false] at hx'
    rcases hx' with rfl | rfl | rfl | rfl
    · exact ⟨f1, by simp only; omega, by simp only; omega, hL⟩
    · exact ⟨f2, by simp only; omega, by simp only; omega, hx⟩
    · exact ⟨f3, by simp only; omega, by simp only; omega, hL⟩
    · exact ⟨f4, by simp only; omega, by simp only; omega, hx⟩
  · exact ((((Below.refl b1 W).grown g1 (by omega) (fun k e => (h.l1 k e).1)).grown g2 (by omega) (fun k e => by have := h.l2 k e; omega)).grown g3 (by omega) (fun k e => by have := h.l3 k e; omega)).grown g4 (by omega) (fun k e => by have := h.l4 k e; omega)
theorem kep_shape {w : World} {S : Nat → Prop} {v G : Value} {m : Int} {c : Nat} (h : Kep w S v G m c) : ∃ a cap, G = .slice a (c + 1) cap := by
  obtain ⟨-, a, cap, hG, -⟩ := h
  rw [List.length_append, mkL_len, List.length_singleton] at hG
  exact ⟨a, cap, hG⟩
def KeptsX (w : World) (base : Nat) (v : Value) (n : Nat) : Prop := ∃ l, l.length = n ∧ Kepts w base v l
theorem kepts_shape {w : World} {base : Nat} {v : Value} {l : List Ke} (h : Kepts w base v l) : ∃ a cap, v = .slice a l.length cap := by
  rcases h.1.2 with ⟨hv, hn⟩ | ⟨g, cap, cur, hv, -⟩
  · exact ⟨none, 0, by rw [hv, hn]⟩
  · exact ⟨_, cap, hv⟩
theorem ecs_get (l : List Ke) (i : Nat) (x : Ke) (h : l[i]? = some x) : (ecs l)[i * 3]? = some x.v ∧ (ecs l)[i * 3 + 1]? = some x.G ∧ (ecs l)[i * 3 + 2]? = some (.int .i64 x.m) := by
  induction l generalizing i with
  | nil => simp at h
  | cons y l ih =>
    have e : ecs (y :: l) = [y.v, y.G, .int .i64 y.m] ++ ecs l := by simp [ecs]
    cases i with
    | zero =>
      simp only [List.getElem?_cons_zero, Option.some.injEq] at h
      subst h
      rw [e]; exact ⟨rfl, rfl, rfl⟩
    | succ i =>
      simp only [List.getElem?_cons_succ] at h
      obtain ⟨h0, h1, h2⟩ := ih i h
      rw [e]
      refine ⟨?_, ?_, ?_⟩ <;> (rw [List.getElem?_append_right (by simp; omega)]; simp only [List.length_cons, List.length_nil])
      · rw [show (i + 1) * 3 - (0 + 1 + 1 + 1) = i * 3 by omega]; exact h0
      · rw [show (i + 1) * 3 + 1 - (0 + 1 + 1 + 1) = i * 3 + 1 by omega]; exact h1
      · rw [show (i + 1) * 3 + 2 - (0 + 1 + 1 + 1) = i * 3 + 2 by omega]; exact h2
theorem kepts_at {w : World} {base : Nat} {a : Option Addr} {n cap : Nat} {l : List Ke} {i : Nat} {x : Ke} (h : Kepts w base (.slice a n cap) l) (hx : l[i]? = some x) :
    ∃ g, a = some ⟨g, 0, none⟩ ∧ w.cell? ⟨g, i * 3, none⟩ = some x.v ∧ w.cell? ⟨g, i * 3 + 1, none⟩ = some x.G ∧ w.cell? ⟨g, i * 3 + 2, none⟩ = some (.int .i64 x.m) := by
  rcases h.1.2 with ⟨hv, hn⟩ | ⟨g, cap', cur, hv, -⟩
  · rw [List.eq_nil_of_length_eq_zero hn] at hx; simp at hx
  · have ha : a = some ⟨g, 0, none⟩ := by simp only [Value.slice.injEq] at hv; exact hv.1
    subst ha
    have hc : ∀ (j : Nat) (u : Value), (ecs l)[j]? = some u → w.cell? ⟨g, j, none⟩ = some u := fun j u hj => by
      have := World.ownsRow.cells h.1 (g := g) rfl j u hj
      rw [Addr.add_mid, Nat.zero_add] at this
      exact this
    obtain ⟨h0, h1, h2⟩ := ecs_get l i x hx
    exact ⟨g, rfl, hc _ _ h0, hc _ _ h1, hc _ _ h2⟩
theorem ct_cnt : ∀ (f : Nat) (l : List Int) (off : Nat) (acc : List Tk), (ct f l off acc).1.length ≤ acc.length + l.length
  | 0, l, _, acc => by show acc.length ≤ _; omega
  | _ + 1, [], _, acc => by show acc.length ≤ _; omega
  | f + 1, c :: r, off, acc => by
    rw [ct_cons]
    simp only [List.length_cons]
    by_cases q1 : c = 32 ∨ c = 9 ∨ c = 10 ∨ c = 13
    · rw [if_pos q1]; have := ct_cnt f r (off + 1) acc; omega
    · rw [if_neg q1]
      by_cases q2 : c = 37
      · rw [if_pos q2]
        have := ct_cnt f ((c :: r).drop (le_ (c :: r))) (off + le_ (c :: r)) acc
        rw [List.length_drop, List.length_cons] at this; omega
      · rw [if_neg q2]
        cases et : tok (c :: r) with
        | bad e o => show (0 : Nat) ≤ _; omega
        | ok k x n len =>
          have hln := (tok_len c r).1 k x n len et
          have := ct_cnt f ((c :: r).drop len) (off + len) (acc ++ [⟨k, ofL x, n, off, (off + len : Nat)⟩])
          rw [List.length_drop, List.length_cons, List.length_append, List.length_cons, List.length_nil] at this
          show (ct f ((c :: r).drop len) (off + len) (acc ++ [⟨k, ofL x, n, off, (off + len : Nat)⟩])).1.length ≤ _
          omega
theorem cut_ln (s : ByteArray) (most : Int) : (cutL (bl s) most).1.length ≤ s.size := by
  unfold cutL
  split
  · simp
  · have := ct_cnt ((bl s).length + 1) (bl s) 0 []
    rw [bl_len] at this ⊢
    simpa using this
theorem xyT_len : xyT.length = 3 := rfl
theorem ks_at {w : World} {g n cap : Nat} {l : List Tk} {i : Nat} {t : Tk} (h : Ks w (.slice (some ⟨g, 0, none⟩) n cap) l) (ht : l[i]? = some t) : TkAt w g (i * 5) t := by
  obtain ⟨a, cap', hv, hm⟩ := h
  rcases hm with hm | ⟨b, o, hbo, hlt, hm⟩
  · rw [hm] at ht; simp at ht
  · simp only [Value.slice.injEq] at hv
    rw [hbo] at hv
    simp only [Option.some.injEq, Addr.mk.injEq, and_true] at hv
    obtain ⟨⟨rfl, rfl⟩, -, -⟩ := hv
    have := hm i t ht
    simp only [Nat.zero_add] at this
    exact this
theorem OwnK.empty (w : World) (base : Nat) : OwnK w base (.slice none 0 0) [] := OwnK.nil _ _
set_option maxRecDepth 20000 in
set_option maxHeartbeats 4000000 in
theorem apart_any (T : List ByteArray) (v : Value) (w : World) (hv : Xs w v T) (hE : EnvOk w) (hs : ∀ s ∈ T, s.size ≤ 1048576) (hl : T.length ≤ 1048576) :
    Calls Tryd.prog 4 #[v] w fun e w' => e = .returned (.bool true) ∧ Below w.heap.size w w' := by
  have HE : Hid (EnvOk w) := hE
  have HS : Hid (∀ s ∈ T, s.size ≤ 1048576) := hs
  have ch := fun (X : World) (h : EnvOk X) => head_any X h
  have cxy : ∀ X : World, EnvOk X → Calls Tryd.prog 8 #[.string ⟨#[120, 32, 121, 32, 115, 97, 121, 115]⟩, .int .i64 8] X (KPost X (xyT, 0, 0)) := fun X hX => by
    have := cut_any xyB 8 (by decide) X hX
    rw [xyT_cut] at this
    exact this
  obtain ⟨ua, uc, rfl, hum⟩ := hv
  have HUM : Hid (T = [] ∨ ∃ b o, ua = some ⟨b, o, none⟩ ∧ b < w.heap.size ∧ ∀ (i : Nat) (s : ByteArray), T[i]? = some s → w.cell? ⟨b, o + i, none⟩ = some (.string s)) := hum
  clear hE hs hum
  go_enter Tryd.func4, Tryd.ntmps4
  go_wp2
  go_loopg [3, 4] T.length (fun g u i wr => ∃ (j : Nat) (ks : List Ke), j + g = T.length ∧ i = .int .i64 (j : Int) ∧ ks.length = 8 * j ∧ Kepts wr w.heap.size u ks ∧ Below w.heap.size w wr)
  case atStart => exact ⟨0, [], by omega, rfl, rfl, ⟨⟨by simp [ecs], Or.inl ⟨rfl, rfl⟩⟩, fun x hx => by simp at hx⟩, Below.refl _ _⟩
  case round =>
    obtain ⟨j, ks, hj, rfl, hkl, hks, hbr⟩ := hrel
    have HKs0 : Hid (Kepts wr w.heap.size u3 ks) := hks
    have HBr0 : Hid (Below w.heap.size w wr) := hbr
    clear hks hbr
    cases gk with
    | succ g =>
      have hlt : j < T.length := by omega
      have i0 : (0 : Int) ≤ (j : Int) := by omega
      have i1 : (j : Int) < (T.length : Int) := by omega
      obtain ⟨s, hsj⟩ : ∃ s, T[j]? = some s := ⟨_, List.getElem?_eq_getElem hlt⟩
      have hsz : s.size ≤ 1048576 := HS.out s (List.mem_of_getElem? hsj)
      rcases HUM.out with hnil | ⟨b, o, rfl, hbl, hum⟩
      · rw [hnil] at hlt; simp at hlt
      have HX : Hid (b < w.heap.size ∧ w.cell? ⟨b, o + j, none⟩ = some (.string s)) := ⟨hbl, hum j s hsj⟩
      clear hum hbl hsj
      have hSz : (s ++ ⟨#[10, 32, 97, 32, 98]⟩).size ≤ 1048581 := by
        rw [ByteArray.size_append]; have : (⟨#[10, 32, 97, 32, 98]⟩ : ByteArray).size = 5 := rfl; omega
      have hlf := cut_lf s
      have hlen := cut_ln (s ++ ⟨#[10, 32, 97, 32, 98]⟩) ((s ++ ⟨#[10, 32, 97, 32, 98]⟩).size : Nat)
      obtain ⟨Y, hY⟩ : ∃ Y, s ++ ⟨#[10, 32, 97, 32, 98]⟩ = Y := ⟨_, rfl⟩
      rw [hY] at hSz hlf hlen
      have cc := fun (X : World) (h : EnvOk X) => cut_any Y (Y.size : Int) (by omega) X h
      obtain ⟨⟨L, e, p⟩, hR⟩ : ∃ R, cutL (bl Y) (Y.size : Int) = R := ⟨_, rfl⟩
      rw [hR] at cc hlf hlen
      have HLF : Hid (e = 0 → ∃ (T : List Tk) (a b : Tk), L = T ++ [a, b] ∧ b.x = ofL [98]) := hlf
      have hLl : L.length ≤ 1048581 := by have h : L.length ≤ Y.size := hlen; omega
      clear hR hlf hlen
      generalize wr = wo at *
      go_wp2
      go_loopg [3, 5] 2 (fun g' u q wr => ∃ (k : Nat) (ks' : List Ke), k + g' = 2 ∧ q = .int .i64 (k : Int) ∧ ks'.length = 8 * j + 4 * k ∧ Kepts wr w.heap.size u ks' ∧ Below w.heap.size w wr)
      case atStart => exact ⟨0, ks, by omega, rfl, by omega, HKs0.out, HBr0.out⟩
      case round =>
        obtain ⟨k, ks', hk, rfl, hkl', hks', hbr'⟩ := hrel
        have HKs : Hid (Kepts wr w.heap.size u3 ks') := hks'
        have HBr : Hid (Below w.heap.size w wr) := hbr'
        clear HKs0 HBr0 hks'
        cases gk with
        | succ g' =>
          have q0 : (k : Int) < 2 := by omega
          have q1 : (0 : Int) ≤ (k : Int) := by omega
          have cx : wr.cell? ⟨b, o + j, none⟩ = some (.string s) := cell_step hbr' HX.out.1 HX.out.2
          clear hbr'
          go_upto_region 10 with (go_at_call 8; refine (cc _ (HE.out.later HBr.out)).mono ?_; rintro e1 w1 ⟨v1, rfl, ho1, hb1⟩)
          have bx := below1 w1 (.cells #[.int .i64 e, .int .i64 p] 25)
          have fx := Blk.new w1 #[.int .i64 e, .int .i64 p] 25
          have hk := ho1.later bx
          have hz : (w1.alloc (.cells #[.int .i64 e, .int .i64 p] 25)).heap.size = w1.heap.size + 1 := by simp
          have HL1 : Hid (∀ k, v1.ownBlock = some k → wr.heap.size ≤ k ∧ k < w1.heap.size) := fun k e => World.ownsRow.lt ho1 k e
          obtain ⟨B1, hB1⟩ : ∃ B, w1.heap.size = B := ⟨_, rfl⟩
          rw [hB1] at fx hz HL1 ⊢
          revert bx hk fx hz
          generalize w1.alloc (.cells #[.int .i64 e, .int .i64 p] 25) = W1
          intro bx hk hz fx
          have h1 := below_step hb1 bx
          have HZ1 : Hid (W1.heap.size = B1 + 1) := hz
          have HO1 : Hid (OwnK W1 wr.heap.size v1 L) := hk
          have HF1 : Hid (Blk W1 B1 (fcs e p) 25) := fx
          have HY1 : Hid (Below wr.heap.size wr W1) := h1
          clear bx fx hk hz h1 ho1 hb1 hB1
          have HW1 : Hid (Below w.heap.size w W1) := below_step HBr.out HY1.out
          go_upto_region 11 with (go_at_call 8; refine (cxy _ (HE.out.later HW1.out)).mono ?_; rintro e1 w2 ⟨v2, rfl, ho2, hb2⟩)
          have bx := below1 w2 (.cells #[.int .i64 0, .int .i64 0] 25)
          have fx := Blk.new w2 #[.int .i64 0, .int .i64 0] 25
          have hk := ho2.later bx
          have hz : (w2.alloc (.cells #[.int .i64 0, .int .i64 0] 25)).heap.size = w2.heap.size + 1 := by simp
          have HL2 : Hid (∀ k, v2.ownBlock = some k → W1.heap.size ≤ k ∧ k < w2.heap.size) := fun k e => World.ownsRow.lt ho2 k e
          obtain ⟨B2, hB2⟩ : ∃ B, w2.heap.size = B := ⟨_, rfl⟩
          rw [hB2] at fx hz HL2 ⊢
          revert bx hk fx hz
          generalize w2.alloc (.cells #[.int .i64 0, .int .i64 0] 25) = W2
          intro bx hk hz fx
          have h2 := below_step hb2 bx
          have HZ2 : Hid (W2.heap.size = B2 + 1) := hz
          have HO2 : Hid (OwnK W2 W1.heap.size v2 xyT) := hk
          have HF2 : Hid (Blk W2 B2 (fcs 0 0) 25) := fx
          have HY2 : Hid (Below W1.heap.size W1 W2) := h2
          clear bx fx hk hz h2 ho2 hb2 hB2
          have HW2 : Hid (Below w.heap.size w W2) := below_step HW1.out HY2.out
          go_upto_region 12 with (go_at_call 8; refine (cc _ (HE.out.later HW2.out)).mono ?_; rintro e1 w3 ⟨v3, rfl, ho3, hb3⟩)
          have bx := below1 w3 (.cells #[.int .i64 e, .int .i64 p] 25)
          have fx := Blk.new w3 #[.int .i64 e, .int .i64 p] 25
          have hk := ho3.later bx
          have hz : (w3.alloc (.cells #[.int .i64 e, .int .i64 p] 25)).heap.size = w3.heap.size + 1 := by simp
          have HL3 : Hid (∀ k, v3.ownBlock = some k → W2.heap.size ≤ k ∧ k < w3.heap.size) := fun k e => World.ownsRow.lt ho3 k e
          obtain ⟨B3, hB3⟩ : ∃ B, w3.heap.size = B := ⟨_, rfl⟩
          rw [hB3] at fx hz HL3 ⊢
          revert bx hk fx hz
          generalize w3.alloc (.cells #[.int .i64 e, .int .i64 p] 25) = W3
          intro bx hk hz fx
          have h3 := below_step hb3 bx
          have HZ3 : Hid (W3.heap.size = B3 + 1) := hz
          have HO3 : Hid (OwnK W3 W2.heap.size v3 L) := hk
          have HF3 : Hid (Blk W3 B3 (fcs e p) 25) := fx
          have HY3 : Hid (Below W2.heap.size W2 W3) := h3
          clear bx fx hk hz h3 ho3 hb3 hB3
          have HW3 : Hid (Below w.heap.size w W3) := below_step HW2.out HY3.out
          go_upto_region 13 with (go_at_call 8; refine (cxy _ (HE.out.later HW3.out)).mono ?_; rintro e1 w4 ⟨v4, rfl, ho4, hb4⟩)
          have bx := below1 w4 (.cells #[.int .i64 0, .int .i64 0] 25)
          have fx := Blk.new w4 #[.int .i64 0, .int .i64 0] 25
          have hk := ho4.later bx
          have hz : (w4.alloc (.cells #[.int .i64 0, .int .i64 0] 25)).heap.size = w4.heap.size + 1 := by simp
          have HL4 : Hid (∀ k, v4.ownBlock = some k → W3.heap.size ≤ k ∧ k < w4.heap.size) := fun k e => World.ownsRow.lt ho4 k e
          obtain ⟨B4, hB4⟩ : ∃ B, w4.heap.size = B := ⟨_, rfl⟩
          rw [hB4] at fx hz HL4 ⊢
          revert bx hk fx hz
          generalize w4.alloc (.cells #[.int .i64 0, .int .i64 0] 25) = W4
          intro bx hk hz fx
          have h4 := below_step hb4 bx
          have HZ4 : Hid (W4.heap.size = B4 + 1) := hz
          have HO4 : Hid (OwnK W4 W3.heap.size v4 xyT) := hk
          have HF4 : Hid (Blk W4 B4 (fcs 0 0) 25) := fx
          have HY4 : Hid (Below W3.heap.size W3 W4) := h4
          clear bx fx hk hz h4 ho4 hb4 hB4
          have HW4 : Hid (Below w.heap.size w W4) := below_step HW3.out HY4.out
          have h24 := below_step HY3.out HY4.out
          have h14 := below_step HY2.out h24
          have HBW : Hid (Below wr.heap.size wr W4) := below_step HY1.out h14
          have HFf : Hid (Blk W4 B1 (fcs e p) 25) := HF1.out.later h14
          have HFg : Hid (Blk W4 B2 (fcs 0 0) 25) := HF2.out.later h24
          have HFR : Hid (Four W4 wr.heap.size W1.heap.size W2.heap.size W3.heap.size v1 v2 v3 v4 L) :=
            ⟨HO1.out.later h14, HO2.out.later h24, HO3.out.later HY4.out, HO4.out,
              fun k e => ⟨(HL1.out k e).1, by have := (HL1.out k e).2; have := HZ1.out; omega⟩, fun k e => ⟨(HL2.out k e).1, by have := (HL2.out k e).2; have := HZ2.out; omega⟩,
              fun k e => ⟨(HL3.out k e).1, by have := (HL3.out k e).2; have := HZ3.out; omega⟩, fun k e => ⟨(HL4.out k e).1, by have := (HL4.out k e).2; have := HZ4.out; omega⟩,
              HY1.out.size, HY2.out.size, HY3.out.size, HY4.out.size⟩
          clear h24 h14 HO1 HO2 HO3 HO4 HL1 HL2 HL3 HL4 HF1 HF2 HF3 HF4 HY1 HY2 HY3 HY4 HW1 HW2 HW3 cx HZ1 HZ2 HZ3 HZ4
          obtain ⟨a0, a1, -, -⟩ := two HFf.out
          obtain ⟨d0, d1, -, -⟩ := two HFg.out
          obtain ⟨g2, c2, he2, -, -⟩ := World.ownsRow.form HFR.out.o2 (by rw [xyT_len]; omega)
          subst he2
          obtain ⟨g4, c4, he4, -, -⟩ := World.ownsRow.form HFR.out.o4 (by rw [xyT_len]; omega)
          subst he4
          have hks2 := HFR.out.o2.ks
          obtain ⟨m0, m1, m2, m3, m4⟩ := ks_at hks2 (i := 1) (t := ⟨1, ⟨#[121]⟩, 0, 2, 3⟩) rfl
          clear hks2
          by_cases he : e = 0
          · subst he
            obtain ⟨L', x, y, rfl, hy⟩ := HLF.out rfl
            have hyx : y.x = ⟨#[98]⟩ := hy
            obtain ⟨g1, c1, he1, -, -⟩ := World.ownsRow.form HFR.out.o1 (by simp)
            subst he1
            obtain ⟨g3, c3, he3, -, -⟩ := World.ownsRow.form HFR.out.o3 (by simp)
            subst he3
            have hks1 := HFR.out.o1.ks
            have hlL : (L' ++ [x, y]).length = L'.length + 2 := by simp
            obtain ⟨y0, y1, y2, y3, y4⟩ := ks_at hks1 (i := L'.length + 1) (t := y) (by simp)
            rw [hyx] at y1
            have HSM := fun (X : World) (h : Below W4.heap.size W4 X) => same_any (L' ++ [x, y]) _ _ X ((HFR.out.o1.later h).ks) ((HFR.out.o3.later h).ks) (by omega)
            have HSN := fun (X : World) (h : Below W4.heap.size W4 X) => same_any xyT _ _ X ((HFR.out.o2.later h).ks) ((HFR.out.o4.later h).ks) (by decide)
            have hL2 : L'.length ≤ 1048579 := by rw [hlL] at hLl; omega
            rw [hlL]
            simp only [hlL] at HSM
            clear hks1 HLF hy hyx y0 y2 y3 y4 m0 m2 m3 m4 a1 d1 cc cxy
            have i5 : (wrap64 ((L'.length : Int) + 2 - 1)).toNat = L'.length + 1 := by unfold wrap64; omega
            go_upto_region 18 with (first
              | (go_at_call 13; refine (HSM _ (Below.refl _ _)).mono ?_; clear HSM; rintro e1 w5 ⟨rfl, hb5⟩; have HB5 : Hid (Below W4.heap.size W4 w5) := hb5; clear hb5)
              | (go_at_call 13; refine (HSN _ HB5.out).mono ?_; clear HSN; rintro e1 w6 ⟨rfl, hb6⟩; have HB6 : Hid (Below W4.heap.size W4 w6) := below_step HB5.out hb6; clear hb6))
            have HFRx : Hid (Four w6 wr.heap.size W1.heap.size W2.heap.size W3.heap.size (.slice (some ⟨g1, 0, none⟩) (L' ++ [x, y]).length c1) (.slice (some ⟨g2, 0, none⟩) xyT.length c2) (.slice (some ⟨g3, 0, none⟩) (L' ++ [x, y]).length c3) (.slice (some ⟨g4, 0, none⟩) xyT.length c4) (L' ++ [x, y])) := HFR.out.later HB6.out
            have HBx : Hid (Below wr.heap.size wr w6) := below_step HBW.out HB6.out
            clear HFR HBW HFf HFg HW4 HB5 HB6 HUM HX
            have r1 : (8 : Int) * (j : Int) ≤ 8388608 := by omega
            have hn0 : (0 : Int) ≤ 8 * (j : Int) + 4 * (k : Int) := by omega
            have hn1 : 8 * (j : Int) + 4 * (k : Int) ≤ 9000000 := by omega
            have F := HFRx.out
            have bb := And.intro F.b12 (And.intro F.b23 (And.intro F.b34 F.b45))
            have cl1 := lend_any _ _ (8 * (j : Int) + 4 * (k : Int)) _ w6 F.o1 (by omega) (by omega) (by omega)
            clear F
            simp only [hlL] at cl1
            go_upto_region 7 with (first
              | (go_at_call 14; refine cl1.mono ?_; clear cl1; rintro e1 x1 ⟨G1, rfl, hk1, hg1⟩; have HK1 : Hid _ := hk1; have HG1 : Hid _ := hg1; obtain ⟨ga1, gc1, rfl⟩ := kep_shape hk1; have cl2 := lend_any xyT _ (8 * (j : Int) + 4 * (k : Int) + 1) _ x1 (HFRx.out.o2.grown hg1 (fun k e e' => by have := HFRx.out.l2 k e; have := HFRx.out.l1 k e'; omega)) (by omega) (by omega) (by decide); clear hk1 hg1)
              | (go_at_call 14; refine cl2.mono ?_; clear cl2; rintro e1 x2 ⟨G2, rfl, hk1, hg1⟩; have HK2 : Hid _ := hk1; have HG2 : Hid _ := hg1; obtain ⟨ga2, gc2, rfl⟩ := kep_shape hk1; have cl3 := lend_any _ _ (8 * (j : Int) + 4 * (k : Int) + 2) _ x2 ((HFRx.out.o3.grown HG1.out (fun k e e' => by have := HFRx.out.l3 k e; have := HFRx.out.l1 k e'; omega)).grown hg1 (fun k e e' => by have := HFRx.out.l3 k e; have := HFRx.out.l2 k e'; omega)) (by omega) (by omega) (by omega); simp only [hlL] at cl3; clear hk1 hg1)
              | (go_at_call 14; refine cl3.mono ?_; clear cl3; rintro e1 x3 ⟨G3, rfl, hk1, hg1⟩; have HK3 : Hid _ := hk1; have HG3 : Hid _ := hg1; obtain ⟨ga3, gc3, rfl⟩ := kep_shape hk1; have cl4 := lend_any xyT _ (8 * (j : Int) + 4 * (k : Int) + 3) _ x3 (((HFRx.out.o4.grown HG1.out (fun k e e' => by have := HFRx.out.l4 k e; have := HFRx.out.l1 k e'; omega)).grown HG2.out (fun k e e' => by have := HFRx.out.l4 k e; have := HFRx.out.l2 k e'; omega)).grown hg1 (fun k e e' => by have := HFRx.out.l4 k e; have := HFRx.out.l3 k e'; omega)) (by omega) (by omega) (by decide); clear hk1 hg1)
              | (go_at_call 14; refine cl4.mono ?_; clear cl4; rintro e1 x4 ⟨G4, rfl, hk1, hg1⟩; obtain ⟨ga4, gc4, rfl⟩ := kep_shape hk1; have hfo := four_ok HFRx.out hn0 hn1 (by omega) (by rw [hlL]; exact HK1.out) HG1.out HK2.out HG2.out (by rw [hlL]; exact HK3.out) HG3.out hk1 hg1; simp only [hlL] at hfo; have HFO : Hid _ := hfo; have HBX : Hid (Below wr.heap.size wr x4) := HBx.out.trans hfo.2; have hzx := HBX.out.size; clear hk1 hg1 hfo)
              | (at_builtin; refine app_keep rfl _ _ rfl w.heap.size u3 ks' rfl (HKs.out.later (below_step HBX.out (below1 _ _))) x4.heap.size [⟨.slice (some ⟨g1, 0, none⟩) (L'.length + 2) c1, .slice ga1 (L'.length + 2 + 1) gc1, 8 * (j : Int) + 4 * (k : Int), L'.length + 2⟩, ⟨.slice (some ⟨g2, 0, none⟩) xyT.length c2, .slice ga2 (xyT.length + 1) gc2, 8 * (j : Int) + 4 * (k : Int) + 1, xyT.length⟩, ⟨.slice (some ⟨g3, 0, none⟩) (L'.length + 2) c3, .slice ga3 (L'.length + 2 + 1) gc3, 8 * (j : Int) + 4 * (k : Int) + 2, L'.length + 2⟩, ⟨.slice (some ⟨g4, 0, none⟩) xyT.length c4, .slice ga4 (xyT.length + 1) gc4, 8 * (j : Int) + 4 * (k : Int) + 3, xyT.length⟩] rfl rfl (fun x hx => (HFO.out.1 x hx).kept (by simp) (fun b hb hS => ⟨⟨by have := HBr.out.size; omega, fun e => by have := (World.ownsRow.lt HKs.out.1 b e.symm).2; omega⟩, (below1 _ _).block b hb⟩)) (heap_alloc_new x4 _) (by omega) (by have := HBr.out.size; simp; omega) ?_; intro gk cpk w8 hkp hb8; have HKP : Hid (KeptsX w8 w.heap.size (.slice (some ⟨gk, 0, none⟩) (ks'.length + 4) cpk) (ks'.length + 4)) := ⟨_, by simp, hkp⟩; have HB8 : Hid (Below w.heap.size w w8) := (below_step (below_step HBr.out HBX.out) (below1 _ _)).trans hb8; clear hkp hb8))
            go_wp2
            go_roundg g'
            case measure => omega
            case rel =>
              obtain ⟨kl, hkk, hkp⟩ := HKP.out
              exact ⟨k + 1, kl, by omega, by go_num, by omega, by rw [← hkl']; exact hkp, HB8.out⟩
          · have n6 : (e == 0) = false := beq_eq_false_iff_ne.2 he
            have n7 : (e != 0) = true := by rw [bne, n6]; rfl
            have HSM := fun (X : World) (_ : Below W4.heap.size W4 X) => same_any [] (.slice none 0 0) (.slice none 0 0) X ⟨none, 0, rfl, Or.inl rfl⟩ ⟨none, 0, rfl, Or.inl rfl⟩ (by decide)
            have HSN := fun (X : World) (h : Below W4.heap.size W4 X) => same_any xyT _ _ X ((HFR.out.o2.later h).ks) ((HFR.out.o4.later h).ks) (by decide)
            have hlL : ([] : List Tk).length = 0 := rfl
            clear HLF m0 m2 m3 m4 a1 d1 cc cxy he
            go_upto_region 18 with (first
              | (go_at_call 13; refine (HSM _ (Below.refl _ _)).mono ?_; clear HSM; rintro e1 w5 ⟨rfl, hb5⟩; have HB5 : Hid (Below W4.heap.size W4 w5) := hb5; clear hb5)
              | (go_at_call 13; refine (HSN _ HB5.out).mono ?_; clear HSN; rintro e1 w6 ⟨rfl, hb6⟩; have HB6 : Hid (Below W4.heap.size W4 w6) := below_step HB5.out hb6; clear hb6))
            have HFRx : Hid (Four w6 wr.heap.size W1.heap.size W2.heap.size W3.heap.size (.slice none 0 0) (.slice (some ⟨g2, 0, none⟩) xyT.length c2) (.slice none 0 0) (.slice (some ⟨g4, 0, none⟩) xyT.length c4) []) := by
              have F := HFR.out.later HB6.out
              exact ⟨OwnK.nil _ _, F.o2, OwnK.nil _ _, F.o4, fun k e => (by cases e), F.l2, fun k e => (by cases e), F.l4, F.b12, F.b23, F.b34, F.b45⟩
            have HBx : Hid (Below wr.heap.size wr w6) := below_step HBW.out HB6.out
            clear HFR HBW HFf HFg HW4 HB5 HB6 HUM HX
            have r1 : (8 : Int) * (j : Int) ≤ 8388608 := by omega
            have hn0 : (0 : Int) ≤ 8 * (j : Int) + 4 * (k : Int) := by omega
            have hn1 : 8 * (j : Int) + 4 * (k : Int) ≤ 9000000 := by omega
            have F := HFRx.out
            have bb := And.intro F.b12 (And.intro F.b23 (And.intro F.b34 F.b45))
            have cl1 := lend_any _ _ (8 * (j : Int) + 4 * (k : Int)) _ w6 F.o1 (by omega) (by omega) (by omega)
            clear F
            simp only [hlL] at cl1
            go_upto_region 7 with (first
              | (go_at_call 14; refine cl1.mono ?_; clear cl1; rintro e1 x1 ⟨G1, rfl, hk1, hg1⟩; have HK1 : Hid _ := hk1; have HG1 : Hid _ := hg1; obtain ⟨ga1, gc1, rfl⟩ := kep_shape hk1; have cl2 := lend_any xyT _ (8 * (j : Int) + 4 * (k : Int) + 1) _ x1 (HFRx.out.o2.grown hg1 (fun k e e' => by have := HFRx.out.l2 k e; have := HFRx.out.l1 k e'; omega)) (by omega) (by omega) (by decide); clear hk1 hg1)
              | (go_at_call 14; refine cl2.mono ?_; clear cl2; rintro e1 x2 ⟨G2, rfl, hk1, hg1⟩; have HK2 : Hid _ := hk1; have HG2 : Hid _ := hg1; obtain ⟨ga2, gc2, rfl⟩ := kep_shape hk1; have cl3 := lend_any _ _ (8 * (j : Int) + 4 * (k : Int) + 2) _ x2 ((HFRx.out.o3.grown HG1.out (fun k e e' => by have := HFRx.out.l3 k e; have := HFRx.out.l1 k e'; omega)).grown hg1 (fun k e e' => by have := HFRx.out.l3 k e; have := HFRx.out.l2 k e'; omega)) (by omega) (by omega) (by omega); simp only [hlL] at cl3; clear hk1 hg1)
              | (go_at_call 14; refine cl3.mono ?_; clear cl3; rintro e1 x3 ⟨G3, rfl, hk1, hg1⟩; have HK3 : Hid _ := hk1; have HG3 : Hid _ := hg1; obtain ⟨ga3, gc3, rfl⟩ := kep_shape hk1; have cl4 := lend_any xyT _ (8 * (j : Int) + 4 * (k : Int) + 3) _ x3 (((HFRx.out.o4.grown HG1.out (fun k e e' => by have := HFRx.out.l4 k e; have := HFRx.out.l1 k e'; omega)).grown HG2.out (fun k e e' => by have := HFRx.out.l4 k e; have := HFRx.out.l2 k e'; omega)).grown hg1 (fun k e e' => by have := HFRx.out.l4 k e; have := HFRx.out.l3 k e'; omega)) (by omega) (by omega) (by decide); clear hk1 hg1)
              | (go_at_call 14; refine cl4.mono ?_; clear cl4; rintro e1 x4 ⟨G4, rfl, hk1, hg1⟩; obtain ⟨ga4, gc4, rfl⟩ := kep_shape hk1; have hfo := four_ok HFRx.out hn0 hn1 (by omega) (by rw [hlL]; exact HK1.out) HG1.out HK2.out HG2.out (by rw [hlL]; exact HK3.out) HG3.out hk1 hg1; simp only [hlL] at hfo; have HFO : Hid _ := hfo; have HBX : Hid (Below wr.heap.size wr x4) := HBx.out.trans hfo.2; have hzx := HBX.out.size; clear hk1 hg1 hfo)
              | (at_builtin; refine app_keep rfl _ _ rfl w.heap.size u3 ks' rfl (HKs.out.later (below_step HBX.out (below1 _ _))) x4.heap.size [⟨.slice none 0 0, .slice ga1 (0 + 1) gc1, 8 * (j : Int) + 4 * (k : Int), 0⟩, ⟨.slice (some ⟨g2, 0, none⟩) xyT.length c2, .slice ga2 (xyT.length + 1) gc2, 8 * (j : Int) + 4 * (k : Int) + 1, xyT.length⟩, ⟨.slice none 0 0, .slice ga3 (0 + 1) gc3, 8 * (j : Int) + 4 * (k : Int) + 2, 0⟩, ⟨.slice (some ⟨g4, 0, none⟩) xyT.length c4, .slice ga4 (xyT.length + 1) gc4, 8 * (j : Int) + 4 * (k : Int) + 3, xyT.length⟩] rfl rfl (fun x hx => (HFO.out.1 x hx).kept (by simp) (fun b hb hS => ⟨⟨by have := HBr.out.size; omega, fun e => by have := (World.ownsRow.lt HKs.out.1 b e.symm).2; omega⟩, (below1 _ _).block b hb⟩)) (heap_alloc_new x4 _) (by omega) (by have := HBr.out.size; simp; omega) ?_; intro gk cpk w8 hkp hb8; have HKP : Hid (KeptsX w8 w.heap.size (.slice (some ⟨gk, 0, none⟩) (ks'.length + 4) cpk) (ks'.length + 4)) := ⟨_, by simp, hkp⟩; have HB8 : Hid (Below w.heap.size w w8) := (below_step (below_step HBr.out HBX.out) (below1 _ _)).trans hb8; clear hkp hb8))
            go_wp2
            go_roundg g'
            case measure => omega
            case rel =>
              obtain ⟨kl, hkk, hkp⟩ := HKP.out
              exact ⟨k + 1, kl, by omega, by go_num, by omega, by rw [← hkl']; exact hkp, HB8.out⟩
        | zero =>
          obtain rfl : k = 2 := by omega
          have q2 : ¬ (((2 : Nat) : Int) < 2) := by omega
          go_wp2
          go_roundg g
          case measure => omega
          case rel => exact ⟨j + 1, ks', by omega, by go_num, by omega, HKs.out, HBr.out⟩
    | zero =>
      obtain rfl : j = T.length := by omega
      have hz : ¬ ((T.length : Int) < (T.length : Int)) := by omega
      obtain ⟨ka, kc, hks3⟩ := kepts_shape HKs0.out
      subst hks3
      clear HUM cxy
      generalize wr = wo at *
      go_wp2
      go_loopg [16] ks.length (fun g i wr => ∃ q : Nat, q + g = ks.length ∧ i = .int .i64 (q : Int) ∧ Below wo.heap.size wo wr)
      case atStart => exact ⟨0, by omega, rfl, Below.refl _ _⟩
      case round =>
        obtain ⟨q, hq, rfl, hbr⟩ := hrel
        have HBr : Hid (Below wo.heap.size wo wr) := hbr
        cases gk with
        | succ g =>
          have hlt : q < ks.length := by omega
          have i0 : (0 : Int) ≤ (q : Int) := by omega
          have i1 : (q : Int) < (ks.length : Int) := by omega
          obtain ⟨y, hy⟩ : ∃ y, ks[q]? = some y := ⟨_, List.getElem?_eq_getElem hlt⟩
          have hK := HKs0.out.later hbr
          have hyo := hK.2 y (List.mem_of_getElem? hy)
          obtain ⟨gb, rfl, e0, e1, e2⟩ := kepts_at hK hy
          obtain ⟨⟨sa, sn, sc, hsv⟩, ⟨sa', sn', sc', hsG⟩⟩ := hyo.sl
          have cw := whole_any _ _ _ _ _ wr hyo.1 hyo.2.1 hyo.2.2.1 hyo.2.2.2
          rw [hsv] at e0
          rw [hsG] at e1
          rw [hsv, hsG] at cw
          obtain ⟨ym, hym⟩ : ∃ m, y.m = m := ⟨_, rfl⟩
          rw [hym] at e2 cw
          clear hK hyo hy hsv hsG hym hbr
          go_wp2_with (go_at_call 15; refine cw.mono ?_; clear cw; rintro e3 w3 ⟨rfl, hb3⟩; have HB3 : Hid (Below wr.heap.size wr w3) := hb3; clear hb3)
          go_roundg g
          case measure => omega
          case rel => exact ⟨q + 1, by omega, by go_num, below_step HBr.out HB3.out⟩
        | zero =>
          obtain rfl : q = ks.length := by omega
          have hz : ¬ ((ks.length : Int) < (ks.length : Int)) := by omega
          clear hbr
          go_wp2_with (go_at_call 9; refine (ch _ (HE.out.later (below_step HBr0.out HBr.out))).mono ?_; rintro e3 w3 ⟨rfl, hb3⟩; have HB3 : Hid (Below wr.heap.size wr w3) := hb3; clear hb3)
          go_ret
          exact ⟨rfl, below_step (below_step HBr0.out HBr.out) HB3.out⟩
end Go.Proofs.YtekjicklbgpdcabDoor

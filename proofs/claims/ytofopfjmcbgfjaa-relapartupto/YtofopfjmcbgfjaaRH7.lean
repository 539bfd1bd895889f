/-
  law 7: RelApart: its ground, the rest. (Written by RH7.py.)
-/
import Derived.Test.YtofopfjmcbgfjaaRH6
import Derived.Test.YtofopfjmcbgfjaaRD5
namespace Go.Proofs.Ytofopfjmcbgfjaa
open Go.RowKit

theorem GD.bare {w : World} {T1 T2 X : Nat → Prop} {g1 g2 m1 m2 : Nat} {s1 s2 : St7} {kv : Value} {Ks : List Kp} {ov : Value} {Os : List Value} {lv : Value} {Lq : List (List Int × Value)} {Z : List LS7} {PL : List (Value × List Value)} {W : World} (h : GD w T1 T2 X g1 g2 m1 m2 s1 s2 kv Ks ov Os lv Lq Z PL W) : GD w T1 T2 X g1 g2 m1 m2 s1 s2 kv Ks ov Os lv Lq [] [] W := ⟨h.p1, h.p2, h.d, h.dl, h.z, by simp, List.Pairwise.nil, by simp⟩
/-- A cell of a list of lists at hand is written. -/
theorem GD.put {w : World} {T1 T2 X : Nat → Prop} {g1 g2 m1 m2 : Nat} {s1 s2 : St7} {kv : Value} {Ks : List Kp} {ov : Value} {Os : List Value} {lv : Value} {Lq : List (List Int × Value)} {Z : List LS7} {W : World} {g n cap i : Nat} {vals : List Value} (h : GD w T1 T2 X g1 g2 m1 m2 s1 s2 kv Ks ov Os lv Lq Z [(.slice (some ⟨g, 0, none⟩) n cap, vals)] W) (hn : vals.length = n) (x : Value) : GD w T1 T2 X g1 g2 m1 m2 s1 s2 kv Ks ov Os lv Lq Z [(.slice (some ⟨g, 0, none⟩) n cap, vals.set i x)] (W.setCell ⟨g, i, none⟩ x) := by
  obtain ⟨a1, a2⟩ := h.pl _ (List.mem_singleton.2 rfl)
  simp only at a1 a2
  have e : (Value.slice (some ⟨g, 0, none⟩) n cap).ownBlock = some g := by simp [Value.ownBlock]
  have ag := a2 g e
  have hf : Fr (fun b => b = g) W (W.setCell ⟨g, i, none⟩ x) := (Fr.refl _ _).set (Or.inl rfl)
  have h2 := (h.sub (PL' := []) (by simp)).fr hf (fun b hb => by subst hb; exact (a1.lt _ e).1) fun b hb _ => by subst hb; exact ⟨ag.1, ag.2.1, ag.2.2.1, ag.2.2.2, by simp⟩
  refine ⟨h2.p1, h2.p2, h2.d, h2.dl, h2.z, h2.zs, h2.zd, fun a ha => ?_⟩
  rw [List.mem_singleton] at ha
  subst ha
  refine ⟨?_, a2⟩
  simp only [List.length_set]
  rw [hn] at a1 ⊢
  exact row7_put a1 x
/-- One step of the first relation. -/
theorem GD.step {w : World} {T1 T2 X : Nat → Prop} {g1 g2 m1 m2 : Nat} {s1 s2 : St7} {kv : Value} {Ks : List Kp} {ov : Value} {Os : List Value} {lv : Value} {Lq : List (List Int × Value)} {W : World} {m' : Nat} {s' : St7} {W' : World} (h : GD w T1 T2 X g1 g2 m1 m2 s1 s2 kv Ks ov Os lv Lq [] [] W) (hx : PX w T1 g1 m' s' W W') : ∃ T, GD w T T2 X g1 g2 m' m2 s' s2 kv Ks ov Os lv Lq [] [] W' := by
  obtain ⟨k1, T, k2, k3⟩ := hx
  refine ⟨T, k2, h.p2.fr k1 fun b hb _ => ⟨(h.p1.t b hb).1, h.d b hb⟩, fun b hb hc => ?_, fun b hb => ⟨fun hc => ?_, (h.dl b hb).2⟩, h.z.fr k1 fun b hb hc => (h.dl b hb).1 hc, by simp, List.Pairwise.nil, by simp⟩
  · rcases k3 b hb with h1 | h1
    · exact h.d b h1 hc
    · have := (h.p2.t b hc).2; omega
  · rcases k3 b hc with h1 | h1
    · exact (h.dl b hb).1 h1
    · have := (h.z.lb hb).2; omega
/-- An outer list is laid behind the others. -/
theorem GD.outer {w : World} {T1 T2 X : Nat → Prop} {g1 g2 m1 m2 : Nat} {s1 s2 : St7} {kv : Value} {Ks : List Kp} {ov : Value} {Os : List Value} {lv : Value} {Lq : List (List Int × Value)} {Z : List LS7} {W : World} {n g cap g5 c5 : Nat} {ua : Value} {W3 W5 : World} (h : GD w T1 T2 X g1 g2 m1 m2 s1 s2 kv Ks ov Os lv Lq Z [(ua, List.replicate n (Value.slice none 0 0))] W) (hn : n ≤ 1000000000000)
    (ho : W3.ownsRow w.heap.size 23 1 (.slice (some ⟨g, 0, none⟩) (n + 1) cap) (n + 1) (List.replicate n (Value.slice none 0 0) ++ [.slice (some ⟨W.heap.size, 0, none⟩) 1 1])) (hg : ((W.alloc (.cells #[.int .i64 (Os.length : Int)] 3)).alloc (.cells #[.slice (some ⟨W.heap.size, 0, none⟩) 1 1] 23)).grownBy W3 ua.ownBlock) (hv : ua.ownBlock = some g ∨ g = ((W.alloc (.cells #[.int .i64 (Os.length : Int)] 3)).alloc (.cells #[.slice (some ⟨W.heap.size, 0, none⟩) 1 1] 23)).heap.size)
    (ho5 : W5.ownsRow w.heap.size 29 1 (.slice (some ⟨g5, 0, none⟩) (Os.length + 1) c5) (Os.length + 1) (Os ++ [.slice (some ⟨g, 0, none⟩) (n + 1) cap])) (hg5 : (W3.alloc (.cells #[.slice (some ⟨g, 0, none⟩) (n + 1) cap] 29)).grownBy W5 ov.ownBlock) (hv5 : ov.ownBlock = some g5 ∨ g5 = (W3.alloc (.cells #[.slice (some ⟨g, 0, none⟩) (n + 1) cap] 29)).heap.size) :
    ∃ X', GD w T1 T2 X' g1 g2 m1 m2 s1 s2 kv Ks (.slice (some ⟨g5, 0, none⟩) (Os.length + 1) c5) (Os ++ [.slice (some ⟨g, 0, none⟩) (n + 1) cap]) lv Lq [] [] W5 := by
  obtain ⟨a1, a2⟩ := h.pl _ (List.mem_singleton.2 rfl)
  simp only [List.length_replicate] at a1 a2
  have hw := h.p1.b.size
  have hfr : Fr (fun b => ua.ownBlock = some b) W W3 := (Fr.of (below2 _ _ _)).tr (Fr.grown hg fun b hb => hb)
  have hz2 : ((W.alloc (.cells #[.int .i64 (Os.length : Int)] 3)).alloc (.cells #[.slice (some ⟨W.heap.size, 0, none⟩) 1 1] 23)).heap.size = W.heap.size + 2 := by simp
  have hz3 : W.heap.size + 2 ≤ W3.heap.size := by have := (Fr.grown (P := fun _ => True) hg fun _ _ => trivial).size; omega
  have h3 := h.bare.fr hfr (fun b hb => (a1.lt b hb).1) fun b hb _ => ⟨(a2 b hb).1, (a2 b hb).2.1, (a2 b hb).2.2.1, by simp, by simp⟩
  have hLl : ∀ b, LB X kv ov b → b < W.heap.size := fun b hb => (h.z.lb hb).2
  have hgl := (ho.lt g (by simp [Value.ownBlock]))
  have hgn : ¬ LB X kv ov g ∧ ¬ T1 g ∧ ¬ T2 g := by
    rcases hv with hv | hv
    · exact ⟨(a2 g hv).2.2.1, (a2 g hv).1, (a2 g hv).2.1⟩
    · exact ⟨fun hc => by have := hLl g hc; omega, fun hc => by have := (h.p1.t g hc).2; omega, fun hc => by have := (h.p2.t g hc).2; omega⟩
  have hout : OutOk (fun b => X b ∨ b = g ∨ b = W.heap.size) W3 Os.length (.slice (some ⟨g, 0, none⟩) (n + 1) cap) := by
    refine ⟨g, n, cap, W.heap.size, rfl, Or.inr (Or.inl rfl), hgl.2, fun t ht => ?_, ?_, Or.inr (Or.inr rfl), by omega, ?_, hn⟩
    · obtain ⟨g', e, -, -, c, -⟩ := row7_at ho (i := t) (u := .slice none 0 0) (by rw [List.getElem?_append_left (by rw [List.length_replicate]; exact ht), List.getElem?_replicate, if_pos ht])
      cases e
      exact c
    · obtain ⟨g', e, -, -, c, -⟩ := row7_at ho (i := n) (u := .slice (some ⟨W.heap.size, 0, none⟩) 1 1) (by rw [List.getElem?_append_right (by rw [List.length_replicate]; exact Nat.le_refl _), List.length_replicate, Nat.sub_self]; rfl)
      cases e
      exact c
    · have hb : Bk ((W.alloc (.cells #[.int .i64 (Os.length : Int)] 3)).alloc (.cells #[.slice (some ⟨W.heap.size, 0, none⟩) 1 1] 23)) W.heap.size #[.int .i64 (Os.length : Int)] 3 := (Bk.new _ _ _).below (below1 _ _)
      exact (hb.fr (Fr.grown (P := fun b => ua.ownBlock = some b) hg fun b hb => hb) fun hc => by have := (a1.lt _ hc).2; omega).cell (i := 0) rfl
  have hfz := h3.z.out (Y := fun b => X b ∨ b = g ∨ b = W.heap.size) (fun b hb => Or.inl hb) (fun b hb => by
    rcases hb with hb | hb | hb
    · exact Or.inl hb
    · subst hb; exact Or.inr ⟨hgn.1, hgl⟩
    · subst hb; exact Or.inr ⟨fun hc => by have := hLl _ hc; omega, hw, by omega⟩) hout ho5 hg5 hv5
  have hf5 : Fr (fun b => ov.ownBlock = some b) W3 W5 := (Fr.of (below1 _ _)).tr (Fr.grown hg5 fun b hb => hb)
  have hlo : ∀ b, ov.ownBlock = some b → LB X kv ov b := fun b hb => Or.inr (Or.inr hb)
  refine ⟨_, h3.p1.fr hf5 fun b hb _ => ⟨(h.z.lb (hlo b hb)).1, (h.dl b (hlo b hb)).1⟩, h3.p2.fr hf5 fun b hb _ => ⟨(h.z.lb (hlo b hb)).1, (h.dl b (hlo b hb)).2⟩, h.d, fun b hb => ?_, hfz, by simp, List.Pairwise.nil, by simp⟩
  have hnew : ∀ b, W.heap.size ≤ b → ¬ T1 b ∧ ¬ T2 b := fun b hb => ⟨fun hc => by have := (h.p1.t b hc).2; omega, fun hc => by have := (h.p2.t b hc).2; omega⟩
  rcases hb with (hb | hb | hb) | hb | hb
  · exact h.dl b (Or.inl hb)
  · subst hb; exact hgn.2
  · exact hnew b (by omega)
  · exact h.dl b (Or.inr (Or.inl hb))
  · have e : g5 = b := by simpa [Value.ownBlock] using hb
    subst e
    rcases hv5 with hv5 | hv5
    · exact h.dl _ (hlo _ hv5)
    · simp at hv5; exact hnew _ (by omega)
/-- The beginning. -/
theorem GD.new {w : World} {T1 T2 X : Nat → Prop} {g1 g2 : Nat} {s : St7} {lv : Value} {Lq : List (List Int × Value)} {W : World} (p1 : PT w T1 g1 0 s W) (p2 : PT w T2 g2 0 s W) (d : ∀ b, T1 b → ¬ T2 b) (hl : LX X W lv Lq) (hx : ∀ b, X b → w.heap.size ≤ b ∧ b < W.heap.size) (dx : ∀ b, X b → ¬ T1 b ∧ ¬ T2 b) :
    GD w T1 T2 X g1 g2 0 0 s s (.slice none 0 0) [] (.slice none 0 0) [] lv Lq [] [] W :=
  ⟨p1, p2, d, fun b hb => hb.elim (dx b) (fun hb => by rcases hb with hb | hb <;> cases hb), ⟨hx, World.ownsRow_nil _ _ _ _, by simp, fun b hb => (by cases hb), World.ownsRow_nil _ _ _ _, by simp, fun b hb => (by cases hb), hl⟩, by simp, List.Pairwise.nil, by simp⟩
end Go.Proofs.Ytofopfjmcbgfjaa

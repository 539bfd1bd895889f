/-
  law 7: lend. (Written by RH2.py.)
-/
import Derived.Test.YtofopfjmcbgfjaaRH1
namespace Go.Proofs.Ytofopfjmcbgfjaa
open Go.RowKit
attribute [local go_sem ↓] Go.wp_at_zero Go.wp_at_succ

theorem OD.same {w w' : World} {B : Nat} {v : Value} {P : List (List Int × Value)} (h : OD w B v P) (hs : ∀ b, (v.ownBlock = some b ∨ ∃ p ∈ P, p.2.ownBlock = some b) → w'.heap[b]? = w.heap[b]?) : OD w' B v P :=
  ⟨row7 h.o fun b hb => hs b (Or.inl hb), fun p hp => ⟨row7 (h.l p hp).1 fun b hb => hs b (Or.inr ⟨p, hp, hb⟩), (h.l p hp).2⟩, h.n, h.d⟩
theorem set_self {α : Type} {l : List α} {i : Nat} {a : α} (h : l[i]? = some a) : l.set i a = l := by
  apply List.ext_getElem?
  intro j
  rw [List.getElem?_set]
  by_cases e : i = j
  · subst e; rw [if_pos rfl, if_pos (List.getElem?_eq_some_iff.1 h).1, h]
  · rw [if_neg e]
theorem ibs7_app (l k : List Int) : ibs7 (l ++ k) = ibs7 l ++ ibs7 k := by simp [ibs7]
/-- How far lend has come with what it answers. -/
structure LN7 (w : World) (m : Int) (B : Nat) (u : Value) (Q : List (List Int × Value)) (j : Nat) (v : Value) (Ks : List Kp) (W : World) : Prop where
  od : OD W B u (mrkd m Q.length Q)
  o : W.ownsRow w.heap.size 86 3 v j (kps Ks)
  kl : Ks.length = j
  k : ∀ (i : Nat) (k : Kp), Ks[i]? = some k → ∃ p : List Int × Value, Q[i]? = some p ∧ k.n = p.1.length ∧ Kp.ok (fun b => p.2.ownBlock = some b ∨ (w.heap.size ≤ b ∧ v.ownBlock ≠ some b)) W k
  f : Fr (fun b => ∃ p ∈ Q, p.2.ownBlock = some b) w W
  rb : ∀ p ∈ Q, ∀ b, p.2.ownBlock = some b → b < w.heap.size
  ub : ∀ b, u.ownBlock = some b → b < w.heap.size
  bw : B ≤ w.heap.size
theorem LN7.drew {w : World} {m : Int} {B : Nat} {u : Value} {Q : List (List Int × Value)} {j : Nat} {v : Value} {Ks : List Kp} {W : World} (h : LN7 w m B u Q j v Ks W) : LN7 w m B u Q j v Ks W.drew := by
  have hb : Below W.heap.size W W.drew := ⟨rfl, rfl, rfl, Nat.le_refl _, fun _ _ => rfl⟩
  exact ⟨h.od.below hb, row7_below h.o hb, h.kl, fun i k hk => by obtain ⟨p, h1, h2, h3⟩ := h.k i k hk; exact ⟨p, h1, h2, h3.fr (Pd := fun _ => False) (Fr.of hb) fun _ _ _ h => h⟩, h.f.then hb, h.rb, h.ub, h.bw⟩
theorem mrkd_all (m : Int) {Q : List (List Int × Value)} {p : List Int × Value} {i : Nat} (hp : Q[i]? = some p) : (mrkd m Q.length Q)[i]? = some (List.replicate p.1.length (mrk m i), p.2) := by
  have := mrkd_at m Q hp Q.length
  rw [if_pos (List.getElem?_eq_some_iff.1 hp).1] at this
  exact this
/-- The list and one more. -/
theorem LN7.one {w : World} {m : Int} {B : Nat} {u : Value} {Q : List (List Int × Value)} {j : Nat} {v : Value} {Ks : List Kp} {V X2 : World} {p : List Int × Value} {n : Nat} {G : Value} (h : LN7 w m B u Q j v Ks V) (hp : Q[j]? = some p) (hn : p.1.length = n) (hw : (Lit.int .i64 (mrk m j)).wf = true)
    (hG : X2.ownsRow B 3 1 G (n + 1) (ibs7 (List.replicate n (mrk m j)) ++ [.int .i64 (mrk m j)]))
    (hc : (∃ g cap, p.2 = .slice (some ⟨g, 0, none⟩) n cap ∧ G = .slice (some ⟨g, 0, none⟩) (n + 1) cap ∧ (V.alloc (.cells #[.int .i64 (mrk m j)] 3)).grownBy X2 (some g)) ∨ ((V.alloc (.cells #[.int .i64 (mrk m j)] 3)).grownBy X2 none ∧ ∀ k, G.ownBlock = some k → (V.alloc (.cells #[.int .i64 (mrk m j)] 3)).heap.size ≤ k)) :
    LN7 w m B u Q j v Ks X2 ∧ Li (fun b => p.2.ownBlock = some b ∨ (w.heap.size ≤ b ∧ v.ownBlock ≠ some b)) X2 G (List.replicate (n + 1) (mrk m j)) ∧ V.heap.size < X2.heap.size := by
  have hmem := List.mem_of_getElem? hp
  have hrow := mrkd_all m hp
  rw [hn] at hrow
  have hvz := h.f.size
  have ho := h.od.l _ (List.mem_of_getElem? hrow)
  have hz : (V.alloc (.cells #[.int .i64 (mrk m j)] 3)).heap.size = V.heap.size + 1 := by simp
  have hfr : Fr (fun b => p.2.ownBlock = some b) V X2 := by
    rcases hc with ⟨g, cap, h1, -, h3⟩ | ⟨h3, -⟩
    · exact (Fr.of (below1 _ _)).tr (Fr.grown h3 fun b hb => by rw [h1]; simpa [Value.ownBlock] using hb)
    · exact (Fr.of (below1 _ _)).tr (Fr.grown h3 fun b hb => by cases hb)
  have hold : OwI X2 B p.2 (List.replicate n (mrk m j)) := by
    rcases hc with ⟨g, cap, h1, h2, -⟩ | ⟨h3, -⟩
    · unfold OwI
      rw [List.length_replicate, h1]
      rw [h2] at hG
      exact row7_front hG (by rw [ibs7_len, List.length_replicate]; omega)
    · exact row7_fr (P := fun _ => False) ho.1 ((Fr.of (below1 _ _)).tr (Fr.grown h3 fun b hb => by cases hb)) fun _ _ h => h
  have hws : V.heap.size < X2.heap.size := by
    rcases hc with ⟨g, cap, h1, h2, h3⟩ | ⟨h3, -⟩
    · have := (Fr.grown (P := fun _ => True) h3 fun _ _ => trivial).size; omega
    · have := (Fr.grown (P := fun _ => True) h3 fun _ _ => trivial).size; omega
  have hod := h.od.set hrow hfr hold (rep_wf hw)
  rw [set_self hrow] at hod
  have hpl := h.rb p hmem
  refine ⟨⟨hod, row7_fr h.o hfr fun b hb hc => ?_, h.kl, fun i k hk => ?_, h.f.trans hfr fun b _ hb => ⟨p, hmem, hb⟩, h.rb, h.ub, h.bw⟩, ?_, hws⟩
  · have h1 := hpl b hc; have h2 := (h.o.lt b hb).1; omega
  · obtain ⟨q, k1, k2, k3⟩ := h.k i k hk
    refine ⟨q, k1, k2, k3.fr hfr fun b hb hx hc => ?_⟩
    have hij : i ≠ j := by have h1 := (List.getElem?_eq_some_iff.1 hk).1; have h2 := h.kl; omega
    rcases hx with hx | hx
    · exact h.od.apart (mrkd_all m k1) (mrkd_all m hp) hij hx hc
    · have := hpl b hc; omega
  · have hGI : OwI X2 B G (List.replicate (n + 1) (mrk m j)) := by
      unfold OwI
      rw [List.length_replicate, List.replicate_succ', ibs7_app]
      exact hG
    refine (OwI.li hGI (rep_wf hw)).mono fun b hb hx => ?_
    rcases hc with ⟨g, cap, h1, h2, -⟩ | ⟨h3, h4⟩
    · left
      rw [h1]
      rw [h2] at hx
      simpa [Value.ownBlock] using hx.2
    · right
      have h5 := h4 b hx.2
      exact ⟨by omega, fun hq => by have := (h.o.lt b hq).2; omega⟩
/-- It is laid behind the others. -/
theorem LN7.two {w : World} {m : Int} {B : Nat} {u : Value} {Q : List (List Int × Value)} {j : Nat} {v : Value} {Ks : List Kp} {X2 X4 : World} {p : List Int × Value} {n g c : Nat} {G : Value} (h : LN7 w m B u Q j v Ks X2) (hp : Q[j]? = some p) (hn : p.1.length = n)
    (hG : Li (fun b => p.2.ownBlock = some b ∨ (w.heap.size ≤ b ∧ v.ownBlock ≠ some b)) X2 G (List.replicate (n + 1) (mrk m j)))
    (ho : X4.ownsRow w.heap.size 86 3 (.slice (some ⟨g, 0, none⟩) (j + 1) c) (j + 1) (kps Ks ++ [p.2, G, .int .i64 (mrk m j)])) (hg : (X2.alloc (.cells #[p.2, G, .int .i64 (mrk m j)] 86)).grownBy X4 v.ownBlock) (hv : v.ownBlock = some g ∨ g = (X2.alloc (.cells #[p.2, G, .int .i64 (mrk m j)] 86)).heap.size) :
    LN7 w m B u Q (j + 1) (.slice (some ⟨g, 0, none⟩) (j + 1) c) (Ks ++ [⟨p.2, G, mrk m j, n⟩]) X4 := by
  have hmem := List.mem_of_getElem? hp
  have hfr : Fr (fun b => v.ownBlock = some b) X2 X4 := (Fr.of (below1 _ _)).tr (Fr.grown hg fun b hb => hb)
  have hvl : ∀ b, v.ownBlock = some b → w.heap.size ≤ b := fun b hb => (h.o.lt b hb).1
  have hwz := h.f.size
  have hrow := mrkd_all m hp
  rw [hn] at hrow
  have hX : ∀ (q : List Int × Value) (b : Nat), q ∈ Q → b < X2.heap.size → (q.2.ownBlock = some b ∨ (w.heap.size ≤ b ∧ v.ownBlock ≠ some b)) → ¬ v.ownBlock = some b ∧ (q.2.ownBlock = some b ∨ (w.heap.size ≤ b ∧ (Value.slice (some ⟨g, 0, none⟩) (j + 1) c).ownBlock ≠ some b)) := fun q b hq hb hx => by
    have hne : ∀ b, w.heap.size ≤ b → b < X2.heap.size → v.ownBlock ≠ some b → (Value.slice (some ⟨g, 0, none⟩) (j + 1) c).ownBlock ≠ some b := fun b h1 h2 h3 hc => by
      have e : g = b := by simpa [Value.ownBlock] using hc
      subst e
      rcases hv with hv | hv
      · exact h3 hv
      · simp at hv; omega
    rcases hx with hx | hx
    · have := h.rb q hq b hx
      exact ⟨fun hc => by have := hvl b hc; omega, Or.inl hx⟩
    · exact ⟨hx.2, Or.inr ⟨hx.1, hne b hx.1 hb hx.2⟩⟩
  have hli : ∀ (q : List Int × Value) (z : Value) (l : List Int), q ∈ Q → Li (fun b => q.2.ownBlock = some b ∨ (w.heap.size ≤ b ∧ v.ownBlock ≠ some b)) X2 z l → Li (fun b => q.2.ownBlock = some b ∨ (w.heap.size ≤ b ∧ (Value.slice (some ⟨g, 0, none⟩) (j + 1) c).ownBlock ≠ some b)) X4 z l := fun q z l hq hz => by
    refine (Li.fr (hz.mono (G := fun b => (q.2.ownBlock = some b ∨ (w.heap.size ≤ b ∧ v.ownBlock ≠ some b)) ∧ b < X2.heap.size) fun b hl hb => ⟨hb, hl⟩) hfr fun b hl hb hc => (hX q b hq hl hb.1).1 hc).mono fun b _ hb => (hX q b hq hb.2 hb.1).2
  have hL : Li (fun b => p.2.ownBlock = some b ∨ (w.heap.size ≤ b ∧ v.ownBlock ≠ some b)) X2 p.2 (List.replicate n (mrk m j)) := by
    have h1 := h.od.l _ (List.mem_of_getElem? hrow)
    exact (OwI.li h1.1 h1.2).mono fun b _ hb => Or.inl hb.2
  refine ⟨h.od.same fun b hb => ?_, ?_, by rw [List.length_append, h.kl]; rfl, fun i k hk => ?_, h.f.trans hfr fun b hb hc => by have := hvl b hc; omega, h.rb, h.ub, h.bw⟩
  · have hl : b < w.heap.size := by
      rcases hb with hb | ⟨q, hq, hb⟩
      · exact h.ub b hb
      · have : q.2 ∈ Q.map Prod.snd := by rw [← mrkd_snd m Q Q.length]; exact List.mem_map_of_mem hq
        obtain ⟨q', hq', e⟩ := List.mem_map.1 this
        exact h.rb q' hq' b (by rw [e]; exact hb)
    exact hfr.block b (by omega) fun hc => by have := hvl b hc; omega
  · rw [kps_app]
    exact ho
  · by_cases hi : i < Ks.length
    · rw [List.getElem?_append_left hi] at hk
      obtain ⟨q, k1, k2, k3⟩ := h.k i k hk
      exact ⟨q, k1, k2, hli q _ _ (List.mem_of_getElem? k1) k3.1, hli q _ _ (List.mem_of_getElem? k1) k3.2⟩
    · rw [List.getElem?_append_right (by omega)] at hk
      have e : i = j := by
        have := (List.getElem?_eq_some_iff.1 hk).1
        simp only [List.length_cons, List.length_nil] at this
        have := h.kl
        omega
      subst e
      rw [h.kl, Nat.sub_self] at hk
      simp only [List.getElem?_cons_zero, Option.some.injEq] at hk
      subst hk
      exact ⟨p, hp, hn.symm, hli p _ _ hmem hL, hli p _ _ hmem hG⟩
end Go.Proofs.Ytofopfjmcbgfjaa

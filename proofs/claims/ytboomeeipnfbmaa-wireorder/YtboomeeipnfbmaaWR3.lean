/-
  wire: rows of messages in memory; sameRows.
-/
import Derived.Test.YtboomeeipnfbmaaWR2
import Derived.BigQuiet
namespace Go.Proofs.Ytboomeeipnfbmaa
open Go.RowKit
attribute [local go_sem ↓] Go.wp_at_zero Go.wp_at_succ

/-- A row of messages that lies in blocks of F. -/
def LmW (F : Nat → Prop) (w : World) (v : Value) (l : List MsW) : Prop :=
  ∃ a cap, v = .slice a l.length cap ∧ l.length ≤ cap ∧ cap ≤ 9223372036854775807 ∧ ((l = [] ∧ (a = none → cap = 0)) ∨ ∃ b o, a = some ⟨b, o, none⟩ ∧ b < w.heap.size ∧ F b ∧ ∀ (i : Nat) (m : MsW), l[i]? = some m → w.cell? ⟨b, o + i * 2, none⟩ = some (.int .i64 (m.n : Int)) ∧ ∃ u, w.cell? ⟨b, o + i * 2 + 1, none⟩ = some u ∧ LbW F w u m.b)
theorem LmW.same {F : Nat → Prop} {w w' : World} {v : Value} {l : List MsW} (h : LmW F w v l) (hz : w.heap.size ≤ w'.heap.size) (hf : ∀ b, b < w.heap.size → F b → w'.heap[b]? = w.heap[b]?) : LmW F w' v l := by
  obtain ⟨a, cap, rfl, h1, h2, h4⟩ := h
  refine ⟨a, cap, rfl, h1, h2, ?_⟩
  rcases h4 with h4 | ⟨b, o, rfl, h4, h5, h6⟩
  · exact Or.inl h4
  · refine Or.inr ⟨b, o, rfl, Nat.lt_of_lt_of_le h4 hz, h5, fun i m hm => ?_⟩
    obtain ⟨c1, u, c2, c3⟩ := h6 i m hm
    exact ⟨by rw [World.cell?_of_block (w := w) (a := ⟨b, _, none⟩) (hf b h4 h5)]; exact c1, u, by rw [World.cell?_of_block (w := w) (a := ⟨b, _, none⟩) (hf b h4 h5)]; exact c2, c3.same hz hf⟩
theorem LmW.fr {F P : Nat → Prop} {w w' : World} {v : Value} {l : List MsW} (h : LmW F w v l) (hf : Fr P w w') (hn : ∀ b, b < w.heap.size → F b → ¬ P b) : LmW F w' v l :=
  h.same hf.size fun b hb hF => hf.block b hb (hn b hb hF)
theorem LmW.below {F : Nat → Prop} {w w' : World} {v : Value} {l : List MsW} (h : LmW F w v l) (hb : Below w.heap.size w w') : LmW F w' v l := h.same hb.size fun b h1 _ => hb.block b h1
theorem LmW.drewN {F : Nat → Prop} {w : World} {v : Value} {l : List MsW} (h : LmW F w v l) (n : Nat) : LmW F (w.drewN n) v l := h.below ⟨rfl, rfl, rfl, Nat.le_refl _, fun _ _ => rfl⟩
theorem LmW.mono {F G : Nat → Prop} {w : World} {v : Value} {l : List MsW} (h : LmW F w v l) (hg : ∀ b, b < w.heap.size → F b → G b) : LmW G w v l := by
  obtain ⟨a, cap, rfl, h1, h2, h4⟩ := h
  refine ⟨a, cap, rfl, h1, h2, ?_⟩
  rcases h4 with h4 | ⟨b, o, rfl, h4, h5, h6⟩
  · exact Or.inl h4
  · refine Or.inr ⟨b, o, rfl, h4, hg b h4 h5, fun i m hm => ?_⟩
    obtain ⟨c1, u, c2, c3⟩ := h6 i m hm
    exact ⟨c1, u, c2, c3.mono hg⟩
theorem LmW.nil (F : Nat → Prop) (w : World) : LmW F w (.slice none 0 0) [] := ⟨none, 0, rfl, by simp, by simp, Or.inl ⟨rfl, fun _ => rfl⟩⟩
theorem LmW.form {F : Nat → Prop} {w : World} {v : Value} {l : List MsW} (h : LmW F w v l) : ∃ a cap, v = .slice a l.length cap ∧ l.length ≤ cap := by obtain ⟨a, cap, rfl, h1, -⟩ := h; exact ⟨_, _, rfl, h1⟩
set_option maxRecDepth 20000 in
set_option maxHeartbeats 2000000 in
theorem srowsW_any (F G : Nat → Prop) (xs : List MsW) (u v : Value) (w : World) (h : LmW F w u xs) (h' : LmW G w v xs) :
    Calls Try.prog 24 #[u, v] w fun e w' => e = .returned (.bool true) ∧ ∃ n, w' = w.drewN n := by
  obtain ⟨ad, cap, rfl, g1, g2, h⟩ := h
  obtain ⟨ad', cap', rfl, g1', g2', h'⟩ := h'
  obtain ⟨n, hn⟩ : ∃ n, xs.length = n := ⟨_, rfl⟩
  rw [hn] at g1 g1' ⊢
  have hnb : n ≤ 9223372036854775807 := by omega
  have HN := hm7 hn
  clear g1 g2 g1' g2' hn
  go_enter Try.func24, Try.ntmps24
  go_wp2
  go_loopg [5] n (fun g i wr => ∃ j m : Nat, j + g = n ∧ i = .int .i64 j ∧ wr = w.drewN m)
  case atStart => exact ⟨0, 0, by omega, rfl, rfl⟩
  case round =>
    obtain ⟨j, m, hj, rfl, rfl⟩ := hrel
    cases gk with
    | succ g =>
      have hlt : (j : Int) < (n : Int) := by omega
      have j0 : (0 : Int) ≤ (j : Int) := by omega
      obtain ⟨x, hx⟩ : ∃ x, xs[j]? = some x := ⟨_, List.getElem?_eq_getElem (by have := HN.out; omega)⟩
      rcases h with ⟨h, -⟩ | ⟨b1, o1, rfl, hb1, -, h⟩
      · rw [h] at hx; simp at hx
      rcases h' with ⟨h', -⟩ | ⟨b2, o2, rfl, hb2, -, h'⟩
      · rw [h'] at hx; simp at hx
      obtain ⟨p0, pu, p1, pl⟩ := h j x hx
      obtain ⟨q0, qu, q1, ql⟩ := h' j x hx
      have hs : ∀ k, Calls Try.prog 12 #[pu, qu] (w.drewN k) fun e w' => e = .returned (.bool true) ∧ ∃ n, w' = w.drewN (k + n) := fun k => by
        have := sameW_any F G x.b x.b pu qu (w.drewN k) (pl.drewN k) (ql.drewN k)
        rw [decide_eq_true rfl] at this
        exact this.mono fun e w' ⟨h1, n, h2⟩ => ⟨h1, n, by rw [h2, World.drewN_drewN]⟩
      obtain ⟨pa, pc, hpv, -⟩ := pl.form
      obtain ⟨qa, qc, hqv, -⟩ := ql.form
      generalize x.b.length = pn at hpv hqv
      rw [hpv] at p1 hs
      rw [hqv] at q1 hs
      have HS := hm7 hs
      obtain ⟨xn, hxn⟩ : ∃ a : Int, (x.n : Int) = a := ⟨_, rfl⟩
      rw [hxn] at p0 q0
      clear hs h h' hx hpv hqv pl ql hxn
      go_wp2
      go_quiet ((go_at_call 12; with_reducible refine (HS.out _).mono ?_; rintro e w2 ⟨rfl, n2, rfl⟩; exact ⟨rfl, _, by rw [Nat.add_assoc]⟩))
      go_wp2
      go_roundg g
      case measure => omega
      case rel => exact ⟨j + 1, _, by omega, by go_num, rfl⟩
    | zero =>
      have hlt : ¬ (j : Int) < (n : Int) := by omega
      clear h h'
      go_wp2
      go_ret
      exact ⟨rfl, _, rfl⟩
end Go.Proofs.Ytboomeeipnfbmaa

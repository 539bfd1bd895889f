/-
  wire: what turns back (plain).
-/
import Derived.Test.YtboomeeipnfbmaaWRS
namespace Go.Proofs.Ytboomeeipnfbmaa
open Go.RowKit

theorem xrB_twice {x : Int} (k : Int) (h0 : 0 ≤ x) (h1 : x ≤ 255) : xrB (xrB x k) k = x := by
  obtain ⟨a, rfl⟩ : ∃ a : Nat, x = a := ⟨x.toNat, by omega⟩
  obtain ⟨b, hb⟩ : ∃ b : Nat, k % 256 = b := ⟨(k % 256).toNat, by omega⟩
  have h3 : a ^^^ b < 256 := Nat.xor_lt_two_pow (n := 8) (by omega) (by omega)
  unfold xrB
  rw [hb, xr_all a (by omega) b (by omega), xr_all _ h3 b (by omega), Nat.xor_assoc, Nat.xor_self, Nat.xor_zero]
theorem flpL_twice {b : List Int} (h : bytW b) {a : Int} (k : Int) (ha : a.toNat < b.length) : flpL (flpL b a k) a k = b := by
  unfold flpL
  obtain ⟨x, hx⟩ : ∃ x, b[a.toNat]? = some x := ⟨_, List.getElem?_eq_getElem ha⟩
  rw [List.set_set]
  have e1 : b.getD a.toNat 0 = x := by rw [List.getD_eq_getElem?_getD, hx]; rfl
  have e2 : (b.set a.toNat (xrB (b.getD a.toNat 0) k)).getD a.toNat 0 = xrB x k := by rw [List.getD_eq_getElem?_getD, List.getElem?_set_self ha, e1]; rfl
  have hxm := h x (List.mem_of_getElem? hx)
  rw [e2, xrB_twice k hxm.1 hxm.2]
  refine List.ext_getElem? fun j => ?_
  rw [List.getElem?_set]
  split
  · rename_i e; subst e; first | (rw [hx]; done) | (rw [if_pos ha, hx])
  · rfl
theorem put_pl {s : WrW} {b : List Int} (ho : (putW s b).Ok) : plW (putW s b) ((s.gv : Int) + 1) = some s.row.length := by
  have h : (putW s b).row[s.row.length]? = some ⟨s.gv + 1, b⟩ := by unfold putW; simp
  have := plW_at ho h
  simpa using this
theorem put_by {s : WrW} {b : List Int} (ho : (putW s b).Ok) : byW (putW s b) ((s.gv : Int) + 1) = b := by
  rw [byW_at (put_pl ho) (m := ⟨s.gv + 1, b⟩) (by unfold putW; simp)]
theorem put_newB {s : WrW} {b b' : List Int} (ho : (putW s b).Ok) : newB (putW s b) ((s.gv : Int) + 1) b' = putW s b' := by
  unfold newB
  rw [put_pl ho]
  unfold putW
  simp
theorem put_flp {s : WrW} {b : List Int} (ho : (putW s b).Ok) {a : Int} (k : Int) (h0 : 0 ≤ a) (h1 : a < (b.length : Int)) : flpE (putW s b) ((s.gv : Int) + 1) a = 0 ∧ flpS (putW s b) ((s.gv : Int) + 1) a k = putW s (flpL b a k) := by
  have e : flpE (putW s b) ((s.gv : Int) + 1) a = 0 := by unfold flpE; rw [put_pl ho]; simp only; rw [put_by ho, if_neg (by omega)]
  exact ⟨e, by unfold flpS; rw [if_pos e, put_by ho, put_newB ho]⟩
theorem swpR_twice {l : List MsW} {i j : Nat} {x y : MsW} (hx : l[i]? = some x) (hy : l[j]? = some y) : swpR (swpR l i j) j i = l ∧ swpR (swpR l i j) i j = l := by
  have h1 : (swpR l i j)[j]? = some x := by rw [swpR_get hx hy, if_pos rfl]
  have h2 : (swpR l i j)[i]? = some y := by
    rw [swpR_get hx hy]
    split
    · rename_i e; subst e; rw [hx] at hy; exact hy
    · rw [if_pos rfl]
  refine ⟨List.ext_getElem? fun k => ?_, List.ext_getElem? fun k => ?_⟩
  · rw [swpR_get h1 h2]
    split
    · rename_i e; subst e; exact hx.symm
    · split
      · rename_i e; subst e; exact hy.symm
      · rename_i n1 n2; rw [swpR_get hx hy, if_neg n2, if_neg n1]
  · rw [swpR_get h2 h1]
    split
    · rename_i e; subst e; exact hy.symm
    · split
      · rename_i e; subst e; exact hx.symm
      · rename_i n1 n2; rw [swpR_get hx hy, if_neg n1, if_neg n2]
theorem swp_back {s : WrW} (ho : s.Ok) (n m : Int) : swpS (swpS s n m) n m = s ∧ swpS (swpS s n m) m n = s ∧ swpE (swpS s n m) n m = swpE s n m ∧ swpE (swpS s n m) m n = swpE s n m := by
  cases hp : plW s n with
  | none =>
    have e : swpS s n m = s := by unfold swpS; rw [hp]
    have e2 : swpE s m n = swpE s n m := by
      unfold swpE; rw [hp]
      cases plW s m <;> rfl
    have e3 : swpS s m n = s := by
      unfold swpS; rw [hp]
      cases plW s m <;> rfl
    rw [e, e, e2, e3]
    exact ⟨rfl, rfl, rfl, rfl⟩
  | some i =>
    cases hq : plW s m with
    | none =>
      have e : swpS s n m = s := by unfold swpS; rw [hp, hq]
      have e2 : swpE s m n = swpE s n m := by unfold swpE; rw [hp, hq]
      have e3 : swpS s m n = s := by unfold swpS; rw [hp, hq]
      rw [e, e, e2, e3]
      exact ⟨rfl, rfl, rfl, rfl⟩
    | some j =>
      obtain ⟨x, hx, hxn, -⟩ := plW_some hp
      obtain ⟨y, hy, hyn, -⟩ := plW_some hq
      have e : swpS s n m = ⟨swpR s.row i j, s.gv⟩ := by unfold swpS; rw [hp, hq]
      have ho2 := swpS_ok ho n m
      rw [e] at ho2 ⊢
      have h1 : (WrW.mk (swpR s.row i j) s.gv).row[j]? = some x := by simp only; rw [swpR_get hx hy, if_pos rfl]
      have h2 : (WrW.mk (swpR s.row i j) s.gv).row[i]? = some y := by
        simp only
        rw [swpR_get hx hy]
        split
        · rename_i e; subst e; rw [hx] at hy; exact hy
        · rw [if_pos rfl]
      have p1 := plW_at ho2 h1
      have p2 := plW_at ho2 h2
      rw [hxn] at p1
      rw [hyn] at p2
      obtain ⟨t1, t2⟩ := swpR_twice hx hy
      refine ⟨?_, ?_, ?_, ?_⟩
      · unfold swpS; rw [p1, p2]; simp only; rw [t1]
      · unfold swpS; rw [p1, p2]; simp only; rw [t2]
      · unfold swpE; rw [p1, p2, hp, hq]
      · unfold swpE; rw [p1, p2, hp, hq]
theorem swpE_two {s : WrW} {n m : Int} {i j : Nat} (hp : plW s n = some i) (hq : plW s m = some j) : swpE s n m = 0 := by unfold swpE; rw [hp, hq]
theorem put_tak {s : WrW} {b : List Int} (ho : (putW s b).Ok) : takS (putW s b) ((s.gv : Int) + 1) = ⟨s.row, s.gv + 1⟩ := by
  unfold takS
  rw [put_pl ho]
  unfold putW
  simp [List.eraseIdx_append_of_length_le]
theorem put_lok {s : WrW} {b : List Int} (ho : (putW s b).Ok) : lokE (putW s b) ((s.gv : Int) + 1) = 0 := by unfold lokE; rw [put_pl ho]
theorem put_cpy {s : WrW} {b : List Int} (ho : (putW s b).Ok) (hg : s.gv + 1 < 4096) : cpyE (putW s b) ((s.gv : Int) + 1) = 0 ∧ cpyN (putW s b) ((s.gv : Int) + 1) = (s.gv : Int) + 1 + 1 ∧ cpyS (putW s b) ((s.gv : Int) + 1) = putW (putW s b) b := by
  have e : cpyE (putW s b) ((s.gv : Int) + 1) = 0 := by unfold cpyE; rw [put_pl ho]; simp only; rw [if_neg (by unfold putW; simp only; omega)]
  exact ⟨e, by unfold cpyN; rw [if_pos e]; unfold putW; simp, by unfold cpyS; rw [if_pos e, put_by ho]⟩
/-- A message that gets other bytes. -/
theorem newB_by {s : WrW} (ho : s.Ok) {n : Int} {i : Nat} (hp : plW s n = some i) {b : List Int} (hb : bytW b) (hl : b.length ≤ 1048576) : lokE (newB s n b) n = 0 ∧ byW (newB s n b) n = b := by
  have ho2 := newB_ok ho n hb hl
  obtain ⟨m, hm, hn, hi⟩ := plW_some hp
  have e : newB s n b = ⟨s.row.set i ⟨n.toNat, b⟩, s.gv⟩ := by unfold newB; rw [hp]
  rw [e] at ho2 ⊢
  have h1 : (WrW.mk (s.row.set i ⟨n.toNat, b⟩) s.gv).row[i]? = some ⟨n.toNat, b⟩ := by simp only; rw [List.getElem?_set_self hi]
  have p := plW_at ho2 h1
  simp only at p
  rw [show ((n.toNat : Nat) : Int) = n by omega] at p
  exact ⟨by unfold lokE; rw [p], by rw [byW_at p h1]⟩
end Go.Proofs.Ytboomeeipnfbmaa

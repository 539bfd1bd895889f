/-
  wire: bytes in memory; copyBytes, sameBytes.
-/
import Derived.Test.YtboomeeipnfbmaaWR1
import Derived.Maps.AppendAt
import Derived.Laws.OwnMore
namespace Go.Proofs.Ytboomeeipnfbmaa
open Go.RowKit
attribute [local go_sem ↓] Go.wp_at_zero Go.wp_at_succ

def ubW (l : List Int) : List Value := l.map (.int .u8)
theorem ubW_len (l : List Int) : (ubW l).length = l.length := by simp [ubW]
theorem ubW_app (a b : List Int) : ubW (a ++ b) = ubW a ++ ubW b := by simp [ubW]
theorem ubW_one (l : List Int) : ∀ u ∈ ubW l, u.oneCell' = true := fun u hu => by
  simp only [ubW, List.mem_map] at hu
  obtain ⟨x, -, rfl⟩ := hu
  rfl
/-- Bytes that lie in a block of F. -/
def LbW (F : Nat → Prop) (w : World) (v : Value) (l : List Int) : Prop :=
  ∃ a cap, v = .slice a l.length cap ∧ l.length ≤ cap ∧ cap ≤ 9223372036854775807 ∧ bytW l ∧ ((l = [] ∧ (a = none → cap = 0)) ∨ ∃ b o, a = some ⟨b, o, none⟩ ∧ b < w.heap.size ∧ F b ∧ ∀ (i : Nat) (x : Int), l[i]? = some x → w.cell? ⟨b, o + i, none⟩ = some (.int .u8 x))
theorem LbW.mono {F G : Nat → Prop} {w : World} {v : Value} {l : List Int} (h : LbW F w v l) (hg : ∀ b, b < w.heap.size → F b → G b) : LbW G w v l := by
  obtain ⟨a, cap, rfl, h1, h2, h3, h4⟩ := h
  refine ⟨a, cap, rfl, h1, h2, h3, ?_⟩
  rcases h4 with h4 | ⟨b, o, rfl, h4, h5, h6⟩
  · exact Or.inl h4
  · exact Or.inr ⟨b, o, rfl, h4, hg b h4 h5, h6⟩
theorem LbW.same {F : Nat → Prop} {w w' : World} {v : Value} {l : List Int} (h : LbW F w v l) (hz : w.heap.size ≤ w'.heap.size) (hf : ∀ b, b < w.heap.size → F b → w'.heap[b]? = w.heap[b]?) : LbW F w' v l := by
  obtain ⟨a, cap, rfl, h1, h2, h3, h4⟩ := h
  refine ⟨a, cap, rfl, h1, h2, h3, ?_⟩
  rcases h4 with h4 | ⟨b, o, rfl, h4, h5, h6⟩
  · exact Or.inl h4
  · exact Or.inr ⟨b, o, rfl, Nat.lt_of_lt_of_le h4 hz, h5, fun i x hx => by
      rw [World.cell?_of_block (w := w) (a := ⟨b, _, none⟩) (hf b h4 h5)]; exact h6 i x hx⟩
theorem LbW.fr {F P : Nat → Prop} {w w' : World} {v : Value} {l : List Int} (h : LbW F w v l) (hf : Fr P w w') (hn : ∀ b, b < w.heap.size → F b → ¬ P b) : LbW F w' v l :=
  h.same hf.size fun b hb hF => hf.block b hb (hn b hb hF)
theorem LbW.below {F : Nat → Prop} {w w' : World} {v : Value} {l : List Int} (h : LbW F w v l) (hb : Below w.heap.size w w') : LbW F w' v l := h.same hb.size fun b h1 _ => hb.block b h1
theorem LbW.nil (F : Nat → Prop) (w : World) : LbW F w (.slice none 0 0) [] := ⟨none, 0, rfl, by simp, by simp, (by intro x hx; simp at hx), Or.inl ⟨rfl, fun _ => rfl⟩⟩
theorem LbW.y {F : Nat → Prop} {w : World} {v : Value} {l : List Int} (h : LbW F w v l) : bytW l := by obtain ⟨a, cap, rfl, h1, h2, h3, -⟩ := h; exact h3
theorem LbW.form {F : Nat → Prop} {w : World} {v : Value} {l : List Int} (h : LbW F w v l) : ∃ a cap, v = .slice a l.length cap ∧ l.length ≤ cap := by obtain ⟨a, cap, rfl, h1, -⟩ := h; exact ⟨_, _, rfl, h1⟩
theorem LbW.drewN {F : Nat → Prop} {w : World} {v : Value} {l : List Int} (h : LbW F w v l) (n : Nat) : LbW F (w.drewN n) v l := h.below ⟨rfl, rfl, rfl, Nat.le_refl _, fun _ _ => rfl⟩
/-- The first ones. -/
theorem LbW.take {F : Nat → Prop} {w : World} {a : Option Addr} {n cap k : Nat} {l : List Int} (h : LbW F w (.slice a n cap) l) (hk : k ≤ n) : LbW F w (.slice a k cap) (l.take k) := by
  obtain ⟨a', cap', e, h1, h2, h3, h4⟩ := h
  simp only [Value.slice.injEq] at e
  obtain ⟨rfl, rfl, rfl⟩ := e
  have hl : (l.take k).length = k := by rw [List.length_take]; omega
  refine ⟨a, cap, by rw [hl], by omega, h2, fun x hx => h3 x (List.mem_of_mem_take hx), ?_⟩
  rcases h4 with ⟨rfl, h4⟩ | ⟨b, o, rfl, h4, h5, h6⟩
  · exact Or.inl ⟨by simp, h4⟩
  · exact Or.inr ⟨b, o, rfl, h4, h5, fun i x hx => h6 i x (by rw [List.getElem?_take] at hx; split at hx; exact hx; cases hx)⟩
/-- Bytes of a call's own. -/
def OwW (w : World) (base : Nat) (v : Value) (l : List Int) : Prop := w.ownsRow base 5 1 v l.length (ubW l)
theorem OwW.lb {w : World} {base : Nat} {v : Value} {l : List Int} (h : OwW w base v l) (hw : bytW l) : LbW (fun b => base ≤ b ∧ v.ownBlock = some b) w v l := by
  rcases h.2 with ⟨rfl, hn⟩ | ⟨g, cap, cur, rfl, hb, hg, hn, hc, hs, ht⟩
  · have : l = [] := List.eq_nil_of_length_eq_zero hn
    subst this
    exact LbW.nil _ _
  · refine ⟨_, cap, rfl, hn, by unfold maxLen at hc; omega, hw, Or.inr ⟨g, 0, rfl, (Array.getElem?_eq_some_iff.1 hg).1, ⟨hb, rfl⟩, fun i x hx => ?_⟩⟩
    rw [cell_of_row _ _ _ _ _ _ hg, Nat.zero_add]
    have hi := (List.getElem?_eq_some_iff.1 hx).1
    have h1 : (cur.toList.take (l.length * 1))[i]? = (ubW l)[i]? := by rw [ht]
    rw [List.getElem?_take_of_lt (by omega)] at h1
    rw [← Array.getElem?_toList, h1]
    simp [ubW, hx]
theorem Try.infoU8W : (Try.prog.info? 5).map (fun i => (i.zero, i.size, i.bytes)) = some (some (.int .u8 0), 1, 1) := by kernel_rfl
theorem infoW {P : Program} {e : TypeId} {z : Value} {s b : Nat} (h : (P.info? e).map (fun i => (i.zero, i.size, i.bytes)) = some (some z, s, b)) : ∃ i, P.info? e = some i ∧ i.zero = some z ∧ i.size = s ∧ i.bytes = b := by
  cases hi : P.info? e with
  | none => rw [hi] at h; simp at h
  | some i =>
    rw [hi] at h
    simp only [Option.map_some, Option.some.injEq, Prod.mk.injEq] at h
    exact ⟨i, rfl, h.1, h.2.1, h.2.2⟩
/-- append, of things of sz cells that lie anywhere, to a list of the call's own: as it runs. -/
theorem runW {T e : TypeId} {z : Value} {sz by_ : Nat} (hT : Try.prog.underlying T = some (.slice e)) (hI : (Try.prog.info? e).map (fun i => (i.zero, i.size, i.bytes)) = some (some z, sz, by_)) (hz : z.cells.size = sz) (h0 : 0 < sz) (w : World) (ty : TypeId) (base : Nat) (v : Value) (n : Nat) (l : List Value) (hown : w.ownsRow base e sz v n l)
    (xv : Value) (m : Nat) (news : List Value) (hsrc : (xv = .slice none 0 0 ∧ m = 0 ∧ news = []) ∨ ∃ (ad : Addr) (c : Nat), xv = .slice (some ad) m c ∧ news.length = m * sz ∧ ∀ (j : Nat) u, news[j]? = some u → w.cell? (ad.add j) = some u) (h1c : ∀ u ∈ news, u.oneCell' = true) (hlen : (n + m) * by_ ≤ 140737488355328) (hm : n + m ≤ 140737488355328) (hbase : base ≤ w.heap.size) :
    ∃ v' w', (Builtin.append_ #[T, T] ty #[v, xv]).run Try.prog w = .ok v' w' ∧ w'.ownsRow base e sz v' (n + m) (l ++ news) ∧ w.grownBy w' v.ownBlock ∧ (v'.ownBlock = v.ownBlock ∨ v'.ownBlock = some w.heap.size) := by
  obtain ⟨i, hi, h0', h1, h2⟩ := infoW hI
  rcases hsrc with ⟨rfl, rfl, rfl⟩ | ⟨ad, c, rfl, hnl, hc⟩
  · exact ⟨v, w, run_append_owned_none (P := Try.prog) w base T ty e i sz hT hi v n l hown, by rw [List.append_nil]; exact hown, ⟨rfl, rfl, rfl, Nat.le_refl _, fun _ _ _ => rfl⟩, Or.inl rfl⟩
  · obtain ⟨v', w', k1, k2, k3, -, k5⟩ := run_append_own_at (P := Try.prog) w base T ty e i z sz by_ hT hi h0' h1 h2 hz h0 v n l hown ad m c news (by omega) hc h1c (by unfold maxLen; omega) hlen hbase
    exact ⟨v', w', k1, k2, k3, k5⟩
theorem gappW {T e : TypeId} {z : Value} {sz by_ : Nat} (hT : Try.prog.underlying T = some (.slice e)) (hI : (Try.prog.info? e).map (fun i => (i.zero, i.size, i.bytes)) = some (some z, sz, by_)) (hz : z.cells.size = sz) (h0 : 0 < sz)
    {ops : Array Oper} {rest : List Oper} {o : Oper} {a : Act} {Q : Exit → Act → World → Prop} {w : World} (hgd : o.guard = none) (s x : Operand)
    (ho : o.op = .call { callee := .builtin .append, args := #[s, x], argTypes := #[T, T] }) (base : Nat) (v : Value) (n : Nat) (l : List Value) (hs : a.eval s = v) (hown : w.ownsRow base e sz v n l)
    (xv : Value) (m : Nat) (news : List Value) (hx : a.eval x = xv) (hsrc : (xv = .slice none 0 0 ∧ m = 0 ∧ news = []) ∨ ∃ (ad : Addr) (c : Nat), xv = .slice (some ad) m c ∧ news.length = m * sz ∧ ∀ (j : Nat) u, news[j]? = some u → w.cell? (ad.add j) = some u) (h1c : ∀ u ∈ news, u.oneCell' = true) (hlen : (n + m) * by_ ≤ 140737488355328) (hm : n + m ≤ 140737488355328) (hbase : base ≤ w.heap.size)
    (h : ∀ v' w', w'.ownsRow base e sz v' (n + m) (l ++ news) → w.grownBy w' v.ownBlock → (v'.ownBlock = v.ownBlock ∨ v'.ownBlock = some w.heap.size) → wpList Try.prog ops Q rest (a.put o.dst v') w') : wpList Try.prog ops Q (o :: rest) a w := by
  obtain ⟨v', w', hrun, r1, r2, r3⟩ := runW hT hI hz h0 w o.type base v n l hown xv m news hsrc h1c hlen hm hbase
  refine wpList_plain hgd fun K hK => ?_
  simp [Oper.wp, execOp, ho, resolve, invoke, builtin, hs, hx, hrun, Result.andThen]
  exact hK _ _ (h v' w' r1 r2 r3)
theorem lb_src {F : Nat → Prop} {w : World} {v : Value} {l : List Int} (h : LbW F w v l) : (v = .slice none 0 0 ∧ l.length = 0 ∧ ubW l = []) ∨ ∃ (ad : Addr) (c : Nat), v = .slice (some ad) l.length c ∧ (ubW l).length = l.length * 1 ∧ ∀ (j : Nat) u, (ubW l)[j]? = some u → w.cell? (ad.add j) = some u := by
  obtain ⟨a, cap, rfl, h1, h2, h3, h4⟩ := h
  rcases h4 with ⟨rfl, h4⟩ | ⟨b, o, rfl, -, -, h4⟩
  · cases a with
    | none => exact Or.inl ⟨by rw [h4 rfl]; rfl, rfl, rfl⟩
    | some a => exact Or.inr ⟨a, cap, rfl, rfl, by simp [ubW]⟩
  · refine Or.inr ⟨⟨b, o, none⟩, cap, rfl, by rw [ubW_len, Nat.mul_one], fun j u hj => ?_⟩
    simp only [ubW, List.getElem?_map, Option.map_eq_some_iff] at hj
    obtain ⟨x, hx, rfl⟩ := hj
    rw [Go.WideShapes.add_plain]
    exact h4 j x hx
set_option maxRecDepth 20000 in
theorem ccopyW_any (F : Nat → Prop) (v : Value) (l : List Int) (w : World) (h : LbW F w v l) (hl : l.length ≤ 140737488355328) :
    Calls Try.prog 20 #[v] w fun e w' => ∃ v', e = .returned v' ∧ OwW w' w.heap.size v' l ∧ Below w.heap.size w w' := by
  have HS := hm7 (lb_src h)
  obtain ⟨a, cap, rfl, -⟩ := h
  obtain ⟨n, hn⟩ : ∃ n, l.length = n := ⟨_, rfl⟩
  rw [hn] at HS hl ⊢
  have HN := hm7 hn
  clear hn
  go_enter Try.func20, Try.ntmps20
  go_wp2_with (at_builtin; refine gappW Try.underlying24 Try.infoU8W rfl (by omega) rfl _ _ rfl w.heap.size (.slice none 0 0) 0 [] rfl (World.ownsRow_nil _ _ _ _) (.slice a n cap) n (ubW l) rfl HS.out (ubW_one l) (by omega) (by omega) (Nat.le_refl _) ?_; intro v' w5 ho5 hg5 hv5; have HH5 := hm7 (And.intro ho5 hg5); clear ho5 hg5 hv5)
  go_ret
  refine ⟨v', rfl, ?_, (Fr.grown (P := fun _ => False) HH5.out.2 fun b hb => by cases hb).below fun _ _ h => h⟩
  unfold OwW
  rw [HN.out]
  have := HH5.out.1
  rwa [Nat.zero_add, List.nil_append] at this
theorem take_nextW {α : Type} {a b : List α} {j : Nat} {x : α} (h : a.take j = b.take j) (hx : a[j]? = some x) (hy : b[j]? = some x) : a.take (j + 1) = b.take (j + 1) := by
  rw [List.take_add_one, List.take_add_one, h, hx, hy]
set_option maxRecDepth 20000 in
set_option maxHeartbeats 1000000 in
theorem sameW_any (F G : Nat → Prop) (a b : List Int) (u v : Value) (w : World) (h : LbW F w u a) (h' : LbW G w v b) :
    Calls Try.prog 12 #[u, v] w fun e w' => e = .returned (.bool (decide (a = b))) ∧ ∃ n, w' = w.drewN n := by
  obtain ⟨ad, cap, rfl, g1, g2, -, h⟩ := h
  obtain ⟨ad', cap', rfl, -, -, -, h'⟩ := h'
  obtain ⟨n, hn⟩ : ∃ n, a.length = n := ⟨_, rfl⟩
  have hnb : n ≤ 9223372036854775807 := by omega
  clear g1 g2
  obtain ⟨n', hn'⟩ : ∃ n, b.length = n := ⟨_, rfl⟩
  rw [hn, hn']
  by_cases hnn : n = n'
  · subst hnn
    go_enter Try.func12, Try.ntmps12
    go_wp2
    go_loopg [5] n (fun g i wr => ∃ j m : Nat, j + g = n ∧ i = .int .i64 j ∧ a.take j = b.take j ∧ wr = w.drewN m)
    case atStart => exact ⟨0, 0, by omega, rfl, rfl, rfl⟩
    case round =>
      obtain ⟨j, m, hj, rfl, hp, rfl⟩ := hrel
      have HP := hm7 hp
      clear hp
      cases gk with
      | succ g =>
        have hlt : (j : Int) < (n : Int) := by omega
        have j0 : (0 : Int) ≤ (j : Int) := by omega
        obtain ⟨x, hx⟩ : ∃ x, a[j]? = some x := ⟨_, List.getElem?_eq_getElem (by omega)⟩
        obtain ⟨y, hy⟩ : ∃ y, b[j]? = some y := ⟨_, List.getElem?_eq_getElem (by omega)⟩
        rcases h with ⟨h, -⟩ | ⟨b1, o1, rfl, hb1, -, h⟩
        · rw [h] at hx; simp at hx
        rcases h' with ⟨h', -⟩ | ⟨b2, o2, rfl, hb2, -, h'⟩
        · rw [h'] at hy; simp at hy
        have p0 := h j x hx
        have q0 := h' j y hy
        have HX := hm7 hx
        have HY := hm7 hy
        clear h h' hx hy
        by_cases hxy : x = y
        · subst hxy
          go_wp2
          go_quiet (fail)
          go_wp2
          go_roundg g
          case measure => omega
          case rel => exact ⟨j + 1, _, by omega, by go_num, take_nextW HP.out HX.out HY.out, rfl⟩
        · have hq : (x == y) = false := by simpa using hxy
          have hq2 : (x != y) = true := by simp [bne, hq]
          go_wp2
          go_quiet (fail)
          go_wp2
          go_ret
          refine ⟨?_, _, by rw [World.drewN_drewN]⟩
          rw [decide_eq_false]
          · rfl
          · intro e
            rw [e, HY.out] at HX
            exact hxy (Option.some.inj HX.out).symm
      | zero =>
        have hlt : ¬ (j : Int) < (n : Int) := by omega
        have e : a = b := by
          have := HP.out
          rwa [List.take_of_length_le (by omega), List.take_of_length_le (by omega)] at this
        have HE := hm7 e
        clear h h' e hn hn'
        go_wp2
        go_ret
        refine ⟨?_, _, rfl⟩
        rw [decide_eq_true HE.out]
        rfl
  · have HE : Hid (a ≠ b) := fun e => hnn (by rw [← hn, ← hn', e])
    have hq : ((n : Int) == (n' : Int)) = false := by simpa using fun e : (n : Int) = n' => hnn (by omega)
    clear h h' hn hn'
    go_enter Try.func12, Try.ntmps12
    go_wp2
    go_ret
    refine ⟨?_, 0, rfl⟩
    rw [decide_eq_false HE.out]
    rfl
end Go.Proofs.Ytboomeeipnfbmaa

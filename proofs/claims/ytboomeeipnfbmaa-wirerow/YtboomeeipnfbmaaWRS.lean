/-
  wire: what all parts share.
-/
import Derived.Test.YtboomeeipnfbmaaWR3
import Derived.Deep.RegionHeld3
namespace Go.Proofs.Ytboomeeipnfbmaa
open Go.RowKit
attribute [local go_sem ↓] Go.wp_at_zero Go.wp_at_succ

/-- The cells of a list of things of two cells. -/
def twoW (L : List (Value × Value)) : List Value := L.flatMap fun q => [q.1, q.2]
theorem twoW_len (L : List (Value × Value)) : (twoW L).length = L.length * 2 := by
  induction L with
  | nil => rfl
  | cons q L ih => unfold twoW at ih ⊢; rw [List.flatMap_cons, List.length_append, ih]; simp; omega
theorem twoW_app (L M : List (Value × Value)) : twoW (L ++ M) = twoW L ++ twoW M := by simp [twoW, List.flatMap_append]
theorem twoW_get {L : List (Value × Value)} {k : Nat} {q : Value × Value} (h : L[k]? = some q) : (twoW L)[k * 2]? = some q.1 ∧ (twoW L)[k * 2 + 1]? = some q.2 := by
  induction L generalizing k with
  | nil => simp at h
  | cons p L ih =>
    cases k with
    | zero => simp at h; subst h; exact ⟨rfl, rfl⟩
    | succ k =>
      have := ih (k := k) (by simpa using h)
      have e : twoW (p :: L) = p.1 :: p.2 :: twoW L := rfl
      rw [e, show (k + 1) * 2 = k * 2 + 1 + 1 by omega]
      exact this
theorem twoW_set (L : List (Value × Value)) (k : Nat) (u v : Value) : twoW (L.set k (u, v)) = ((twoW L).set (k * 2) u).set (k * 2 + 1) v := by
  induction L generalizing k with
  | nil => simp [twoW]
  | cons p L ih =>
    cases k with
    | zero => rfl
    | succ k =>
      have e : ∀ p (L : List (Value × Value)), twoW (p :: L) = p.1 :: p.2 :: twoW L := fun _ _ => rfl
      rw [List.set_cons_succ, e, e, ih, show (k + 1) * 2 = k * 2 + 1 + 1 by omega]
      rfl
/-- append as a step of a drawn region. -/
theorem stepW {T e : TypeId} {z : Value} {sz by_ : Nat} (hT : Try.prog.underlying T = some (.slice e)) (hI : (Try.prog.info? e).map (fun i => (i.zero, i.size, i.bytes)) = some (some z, sz, by_)) (hz : z.cells.size = sz) (h0 : 0 < sz)
    {ops : Array Oper} {o : Oper} {a : Act} {K : Act → World → Prop} {Q : Exit → Act → World → Prop} {E : Prop} {w : World} (hgd : o.guard = none) (s x : Operand)
    (ho : o.op = .call { callee := .builtin .append, args := #[s, x], argTypes := #[T, T] }) (base : Nat) (v : Value) (n : Nat) (l : List Value) (hs : a.eval s = v) (hown : w.ownsRow base e sz v n l)
    (xv : Value) (m : Nat) (news : List Value) (hx : a.eval x = xv) (hsrc : (xv = .slice none 0 0 ∧ m = 0 ∧ news = []) ∨ ∃ (ad : Addr) (c : Nat), xv = .slice (some ad) m c ∧ news.length = m * sz ∧ ∀ (j : Nat) u, news[j]? = some u → w.cell? (ad.add j) = some u) (h1c : ∀ u ∈ news, u.oneCell' = true) (hlen : (n + m) * by_ ≤ 140737488355328) (hm : n + m ≤ 140737488355328) (hbase : base ≤ w.heap.size)
    (h : ∀ v' w', w'.ownsRow base e sz v' (n + m) (l ++ news) → w.grownBy w' v.ownBlock → (v'.ownBlock = v.ownBlock ∨ v'.ownBlock = some w.heap.size) → K (a.put o.dst v') w') : if Region.wanted o (yielded ops a.tmps) = true then Oper.wp Try.prog o a w K Q else E := by
  obtain ⟨v', w', hrun, r1, r2, r3⟩ := runW hT hI hz h0 w o.type base v n l hown xv m news hsrc h1c hlen hm hbase
  have hw : Region.wanted o (yielded ops a.tmps) = true := by simp [Region.wanted, hgd]
  rw [if_pos hw]
  unfold Oper.wp
  simp [execOp, ho, resolve, invoke, builtin, hs, hx, hrun, Result.andThen]
  exact h v' w' r1 r2 r3
/-- What one thing of two cells gives to append. -/
theorem two_src {w : World} {b : Nat} {u v : Value} {e : TypeId} (h : Bk w b #[u, v] e) : (Value.slice (some ⟨b, 0, none⟩) 1 1 = .slice none 0 0 ∧ 1 = 0 ∧ [u, v] = []) ∨ ∃ (ad : Addr) (c : Nat), Value.slice (some ⟨b, 0, none⟩) 1 1 = .slice (some ad) 1 c ∧ [u, v].length = 1 * 2 ∧ ∀ (j : Nat) x, [u, v][j]? = some x → w.cell? (ad.add j) = some x := by
  refine Or.inr ⟨⟨b, 0, none⟩, 1, rfl, rfl, fun j x hx => ?_⟩
  exact World.news_of_block (cs := #[u, v]) (t := e) (fr := (0, 0)) h j x (by simpa using hx)
theorem Fr.own {w w' : World} {o : Option Nat} (h : w.grownBy w' o) : Fr (fun b => o = some b) w w' := Fr.grown h fun _ hk => hk
theorem ret2W {a b c d : Int} (h : a = b) (k : c = d) : Ending.returned (.tuple #[.int .i64 a, .int .i64 c]) = .returned (.tuple #[.int .i64 b, .int .i64 d]) := by rw [h, k]
theorem twoW_set2 {L : List (Value × Value)} {k : Nat} {q : Value × Value} (h : L[k]? = some q) (v : Value) : twoW (L.set k (q.1, v)) = (twoW L).set (k * 2 + 1) v := by
  rw [twoW_set]
  congr 1
  have := (twoW_get h).1
  refine List.ext_getElem? fun j => ?_
  rw [List.getElem?_set]
  split
  · rename_i e; subst e; rw [this]; split
    · rfl
    · rename_i hn; exact absurd (List.getElem?_eq_some_iff.1 this).1 hn
  · rfl
theorem and255W (k : Int) : bits BinOp.and IntKind.i64 k 255 = k % 256 := by
  have h1 : (BitVec.ofInt 64 k &&& BitVec.ofInt 64 255).toNat = (k % 256).toNat := by
    rw [BitVec.toNat_and, show (BitVec.ofInt 64 255).toNat = 2 ^ 8 - 1 by decide, Nat.and_two_pow_sub_one_eq_mod, BitVec.toNat_ofInt]
    omega
  unfold bits
  simp only
  show IntKind.i64.wrap (((BitVec.ofInt 64 k &&& BitVec.ofInt 64 255).toNat : Nat) : Int) = _
  rw [h1]
  simp [IntKind.wrap, IntKind.bits, IntKind.signed]
  omega
theorem wrap256W (k : Int) : IntKind.u8.wrap (k % 256) = k % 256 := by
  simp [IntKind.wrap, IntKind.bits, IntKind.signed]
theorem xrB_rng (x k : Int) (h0 : 0 ≤ x) (h1 : x ≤ 255) : 0 ≤ xrB x k ∧ xrB x k ≤ 255 := by
  obtain ⟨a, rfl⟩ : ∃ a : Nat, x = a := ⟨x.toNat, by omega⟩
  obtain ⟨b, hb⟩ : ∃ b : Nat, k % 256 = b := ⟨(k % 256).toNat, by omega⟩
  unfold xrB
  rw [hb, xr_all a (by omega) b (by omega)]
  have : a ^^^ b < 2 ^ 8 := Nat.xor_lt_two_pow (by omega) (by omega)
  omega
theorem flpL_byt {b : List Int} (h : bytW b) (at_ k : Int) : bytW (flpL b at_ k) := by
  intro x hx
  unfold flpL at hx
  rcases List.mem_or_eq_of_mem_set hx with hx | rfl
  · exact h x hx
  · refine xrB_rng _ _ ?_ ?_
    · rw [List.getD_eq_getElem?_getD]
      cases hg : b[at_.toNat]? with
      | none => simp
      | some y => simp; exact (h y (List.mem_of_getElem? hg)).1
    · rw [List.getD_eq_getElem?_getD]
      cases hg : b[at_.toNat]? with
      | none => simp
      | some y => simp; exact (h y (List.mem_of_getElem? hg)).2
/-- Bytes of a call's own: one changes. -/
theorem OwW.put {w : World} {base g cap n j : Nat} {l : List Int} {x : Int} (h : OwW w base (.slice (some ⟨g, 0, none⟩) n cap) l) (hn : l.length = n) : OwW (w.setCell ⟨g, j, none⟩ (.int .u8 x)) base (.slice (some ⟨g, 0, none⟩) n cap) (l.set j x) := by
  unfold OwW at h ⊢
  rw [hn] at h
  rw [List.length_set, hn]
  have := (h.stored j (.int .u8 x)).1
  rw [show ubW (l.set j x) = (ubW l).set j (.int .u8 x) by simp [ubW, List.map_set]]
  exact this
theorem Try.infoMsgW : (Try.prog.info? 57).map (fun i => (i.zero, i.size, i.bytes)) = some (some (.agg #[.int .i64 0, .slice none 0 0]), 2, 32) := by kernel_rfl
def zcW (z : MsW × Value) : Value × Value := (.int .i64 (z.1.n : Int), z.2)
structure OvW where
  k : Int
  n : Int
  m : Int
  q : Int
  b : List Int
/-- What a call tells. -/
structure TdW where
  n : Int
  b : List Int
  e : Int
  r : List MsW
def tolW (s : WrW) (o : OvW) : TdW :=
  if o.k = 1 then ⟨sndN s o.b, [], sndE s o.b, []⟩ else if o.k = 2 then ⟨0, byW s o.n, lokE s o.n, []⟩ else if o.k = 3 then ⟨0, byW s o.n, lokE s o.n, []⟩ else if o.k = 4 then ⟨0, [], lokE s o.n, []⟩ else if o.k = 5 then ⟨cpyN s o.n, [], cpyE s o.n, []⟩
  else if o.k = 6 then ⟨0, [], swpE s o.n o.m, []⟩ else if o.k = 7 then ⟨0, [], flpE s o.n o.m, []⟩ else if o.k = 8 then ⟨0, [], cutE s o.n o.m, []⟩ else if o.k = 9 then ⟨nxtW s, [], 0, []⟩ else if o.k = 10 then ⟨0, [], 0, s.row⟩ else ⟨0, [], 0, []⟩
def stpW (s : WrW) (o : OvW) : WrW :=
  if o.k = 1 then sndS s o.b else if o.k = 3 then takS s o.n else if o.k = 4 then takS s o.n else if o.k = 5 then cpyS s o.n else if o.k = 6 then swpS s o.n o.m else if o.k = 7 then flpS s o.n o.m o.q else if o.k = 8 then cutS s o.n o.m else s
/-- What was told, in memory: its lists lie in blocks of F. -/
structure TdM (F : Nat → Prop) (w : World) (v : Value) (t : TdW) : Prop where
  ex : ∃ bv rv, v = .agg #[.int .i64 t.n, bv, .int .i64 t.e, rv] ∧ LbW F w bv t.b ∧ LmW F w rv t.r
def opvW (o : OvW) (bv : Value) : Value := .agg #[.int .i64 o.k, .int .i64 o.n, .int .i64 o.m, .int .i64 o.q, bv]
/-- A script, where it lies. -/
structure ScW (F : Nat → Prop) (w : World) (v : Value) (L : List (OvW × Value)) : Prop where
  ex : ∃ a cap, v = .slice a L.length cap ∧ L.length ≤ 9223372036854775807 ∧ (L = [] ∨ ∃ b o, a = some ⟨b, o, none⟩ ∧ b < w.heap.size ∧ F b ∧ ∀ (i : Nat) (p : OvW × Value), L[i]? = some p → w.cell? ⟨b, o + i * 5, none⟩ = some (.int .i64 p.1.k) ∧ w.cell? ⟨b, o + i * 5 + 1, none⟩ = some (.int .i64 p.1.n) ∧ w.cell? ⟨b, o + i * 5 + 2, none⟩ = some (.int .i64 p.1.m) ∧ w.cell? ⟨b, o + i * 5 + 3, none⟩ = some (.int .i64 p.1.q) ∧ w.cell? ⟨b, o + i * 5 + 4, none⟩ = some p.2)
  by_ : ∀ p ∈ L, LbW F w p.2 p.1.b ∧ p.1.b.length ≤ 140737488351232
theorem ScW.same {F : Nat → Prop} {w w' : World} {v : Value} {L : List (OvW × Value)} (h : ScW F w v L) (hz : w.heap.size ≤ w'.heap.size) (hf : ∀ b, b < w.heap.size → F b → w'.heap[b]? = w.heap[b]?) : ScW F w' v L := by
  obtain ⟨⟨a, cap, rfl, h1, h2⟩, h3⟩ := h
  refine ⟨⟨a, cap, rfl, h1, h2.imp id ?_⟩, fun p hp => ⟨(h3 p hp).1.same hz hf, (h3 p hp).2⟩⟩
  rintro ⟨b, o, rfl, hb, hF, hc⟩
  refine ⟨b, o, rfl, Nat.lt_of_lt_of_le hb hz, hF, fun i p hp => ?_⟩
  obtain ⟨c0, c1, c2, c3, c4⟩ := hc i p hp
  have e : ∀ k, w'.cell? ⟨b, k, none⟩ = w.cell? ⟨b, k, none⟩ := fun k => World.cell?_of_block (w := w) (a := ⟨b, k, none⟩) (hf b hb hF)
  exact ⟨by rw [e]; exact c0, by rw [e]; exact c1, by rw [e]; exact c2, by rw [e]; exact c3, by rw [e]; exact c4⟩
theorem size_alloc7 (w : World) (o : Obj) : (w.alloc o).heap.size = w.heap.size + 1 := by simp
end Go.Proofs.Ytboomeeipnfbmaa

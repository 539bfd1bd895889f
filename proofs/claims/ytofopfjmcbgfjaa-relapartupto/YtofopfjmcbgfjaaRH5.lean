/-
  law 7: RelApart: what it holds from call to call.
-/
import Derived.Test.YtofopfjmcbgfjaaRH3
import Derived.Test.YtofopfjmcbgfjaaRH4
namespace Go.Proofs.Ytofopfjmcbgfjaa
open Go.RowKit

theorem bel7 {w a b : World} (h : Below w.heap.size w a) (k : Below a.heap.size a b) : Below w.heap.size w b := h.trans (k.mono h.size)
/-- A list of rows of the call's own, its blocks from B to E. -/
structure OE (W : World) (B E : Nat) (u : Value) (Q : List (List Int × Value)) : Prop where
  h : OD W B u Q
  t : ∀ b, (u.ownBlock = some b ∨ ∃ p ∈ Q, p.2.ownBlock = some b) → B ≤ b ∧ b < E
theorem OD.lt {W : World} {B : Nat} {u : Value} {Q : List (List Int × Value)} (h : OD W B u Q) {b : Nat} (hb : u.ownBlock = some b ∨ ∃ p ∈ Q, p.2.ownBlock = some b) : B ≤ b ∧ b < W.heap.size := by
  rcases hb with hb | ⟨p, hp, hb⟩
  · exact h.o.lt b hb
  · exact World.ownsRow.lt (h.l p hp).1 b hb
theorem OE.of {W : World} {B : Nat} {u : Value} {Q : List (List Int × Value)} (h : OD W B u Q) : OE W B W.heap.size u Q := ⟨h, fun _ hb => h.lt hb⟩
theorem OE.fr {P : Nat → Prop} {W W' : World} {B E : Nat} {u : Value} {Q : List (List Int × Value)} (h : OE W B E u Q) (hf : Fr P W W') (hn : ∀ b, B ≤ b → b < E → ¬ P b) : OE W' B E u Q :=
  ⟨h.h.same fun b hb => hf.block b (h.h.lt hb).2 (hn b (h.t b hb).1 (h.t b hb).2), h.t⟩
theorem OE.ls {W : World} {B E : Nat} {u : Value} {Q : List (List Int × Value)} (h : OE W B E u Q) : Ls7 W u Q := h.h.ol.ls
theorem PT.up {w : World} {T : Nat → Prop} {g m m' : Nat} {s : St7} {Y : World} (h : PT w T g m s Y) (hm : m ≤ m') : PT w T g m' s Y := by
  obtain ⟨F, S, h1, h2, h3, h4⟩ := h
  exact ⟨F, S, h1.up hm, h2, h3, h4⟩
/-- A list of the outer ones: nothing but the last, which has its number. -/
def OutOk (X : Nat → Prop) (W : World) (i : Nat) (u : Value) : Prop :=
  ∃ b n cap c, u = .slice (some ⟨b, 0, none⟩) (n + 1) cap ∧ X b ∧ b < W.heap.size ∧ (∀ t, t < n → W.cell? ⟨b, t, none⟩ = some (.slice none 0 0)) ∧ W.cell? ⟨b, n, none⟩ = some (.slice (some ⟨c, 0, none⟩) 1 1) ∧ X c ∧ c < W.heap.size ∧ W.cell? ⟨c, 0, none⟩ = some (.int .i64 (i : Int)) ∧ n ≤ 1000000000000
theorem OutOk.fr {X Y P : Nat → Prop} {W W' : World} {i : Nat} {u : Value} (h : OutOk X W i u) (hf : Fr P W W') (hn : ∀ b, b < W.heap.size → X b → ¬ P b) (hy : ∀ b, X b → Y b) : OutOk Y W' i u := by
  obtain ⟨b, n, cap, c, h1, h2, h3, h4, h5, h6, h7, h8, h9⟩ := h
  have hz := hf.size
  exact ⟨b, n, cap, c, h1, hy b h2, by omega, fun t ht => hf.cell h3 (hn b h3 h2) (h4 t ht), hf.cell h3 (hn b h3 h2) h5, hy c h6, by omega, hf.cell h7 (hn c h7 h6) h8, h9⟩
/-- What the law holds: what is kept, the outer lists, the rows to come. -/
structure FZ (w : World) (X : Nat → Prop) (kv : Value) (Ks : List Kp) (ov : Value) (Os : List Value) (lv : Value) (Lq : List (List Int × Value)) (W : World) : Prop where
  x : ∀ b, X b → w.heap.size ≤ b ∧ b < W.heap.size
  ko : W.ownsRow w.heap.size 86 3 kv Ks.length (kps Ks)
  kk : ∀ k ∈ Ks, Kp.ok X W k
  kx : ∀ b, kv.ownBlock = some b → ¬ X b
  oo : W.ownsRow w.heap.size 29 1 ov Os.length Os
  ok : ∀ (i : Nat) (u : Value), Os[i]? = some u → OutOk X W i u
  ox : ∀ b, ov.ownBlock = some b → ¬ X b ∧ kv.ownBlock ≠ some b
  l : LX X W lv Lq
/-- The law's blocks. -/
def LB (X : Nat → Prop) (kv ov : Value) (b : Nat) : Prop := X b ∨ kv.ownBlock = some b ∨ ov.ownBlock = some b
theorem FZ.lb {w : World} {X : Nat → Prop} {kv : Value} {Ks : List Kp} {ov : Value} {Os : List Value} {lv : Value} {Lq : List (List Int × Value)} {W : World} (h : FZ w X kv Ks ov Os lv Lq W) {b : Nat} (hb : LB X kv ov b) : w.heap.size ≤ b ∧ b < W.heap.size := by
  rcases hb with hb | hb | hb
  · exact h.x b hb
  · exact h.ko.lt b hb
  · exact h.oo.lt b hb
theorem FZ.fr {w : World} {X P : Nat → Prop} {kv : Value} {Ks : List Kp} {ov : Value} {Os : List Value} {lv : Value} {Lq : List (List Int × Value)} {W W' : World} (h : FZ w X kv Ks ov Os lv Lq W) (hf : Fr P W W') (hn : ∀ b, LB X kv ov b → ¬ P b) : FZ w X kv Ks ov Os lv Lq W' := by
  have hz := hf.size
  exact ⟨fun b hb => ⟨(h.x b hb).1, by have := (h.x b hb).2; omega⟩, row7_fr h.ko hf fun b hb => hn b (Or.inr (Or.inl hb)), fun k hk => (h.kk k hk).fr hf fun b _ hb => hn b (Or.inl hb), h.kx, row7_fr h.oo hf fun b hb => hn b (Or.inr (Or.inr hb)), fun i u hu => (h.ok i u hu).fr hf (fun b _ hb => hn b (Or.inl hb)) fun _ h => h, h.ox, h.l.same hz fun b hb hl => hf.block b hl (hn b (Or.inl hb))⟩
/-- What lend laid is kept beside the others. -/
theorem FZ.keep {w W5 : World} {X : Nat → Prop} {kv kv' : Value} {Ks KA : List Kp} {ov : Value} {Os : List Value} {lv : Value} {Lq : List (List Int × Value)} {W6 W7 : World} {mm : Int} {B E n : Nat} {u va : Value} {Q : List (List Int × Value)} (h : FZ w X kv Ks ov Os lv Lq W6) (hl : LN7 W5 mm B u Q n va KA W6) (hE : ∀ b, (∃ p ∈ Q, p.2.ownBlock = some b) → B ≤ b ∧ b < E) (hEW : E ≤ W5.heap.size) (hwB : w.heap.size ≤ B) (hd : ∀ b, LB X kv ov b → (B ≤ b → ¬ b < E) ∧ b < W5.heap.size)
    (ho : W7.ownsRow w.heap.size 86 3 kv' (Ks.length + KA.length) (kps Ks ++ kps KA)) (hg : W6.grownBy W7 kv.ownBlock) (hv : kv'.ownBlock = kv.ownBlock ∨ kv'.ownBlock = some W6.heap.size) :
    FZ w (fun b => X b ∨ (∃ p ∈ Q, p.2.ownBlock = some b) ∨ (W5.heap.size ≤ b ∧ b < W6.heap.size ∧ va.ownBlock ≠ some b)) kv' (Ks ++ KA) ov Os lv Lq W7 := by
  have hfr : Fr (fun b => kv.ownBlock = some b) W6 W7 := Fr.grown hg fun b hb => hb
  have hz5 := hl.f.size
  have hz7 := hfr.size
  have hXo : ∀ b, (X b ∨ (∃ p ∈ Q, p.2.ownBlock = some b) ∨ (W5.heap.size ≤ b ∧ b < W6.heap.size ∧ va.ownBlock ≠ some b)) → kv.ownBlock ≠ some b ∧ ov.ownBlock ≠ some b ∧ b < W6.heap.size ∧ w.heap.size ≤ b := fun b hb => by
    rcases hb with hb | hb | hb
    · exact ⟨fun hc => h.kx b hc hb, fun hc => (h.ox b hc).1 hb, (h.x b hb).2, (h.x b hb).1⟩
    · have h1 := hE b hb
      exact ⟨fun hc => (hd b (Or.inr (Or.inl hc))).1 h1.1 h1.2, fun hc => (hd b (Or.inr (Or.inr hc))).1 h1.1 h1.2, by omega, by omega⟩
    · exact ⟨fun hc => by have := (hd b (Or.inr (Or.inl hc))).2; omega, fun hc => by have := (hd b (Or.inr (Or.inr hc))).2; omega, hb.2.1, by have := hl.bw; omega⟩
  refine ⟨fun b hb => ⟨(hXo b hb).2.2.2, by have := (hXo b hb).2.2.1; omega⟩, ?_, fun k hk => ?_, fun b hb hc => ?_, row7_fr h.oo hfr fun b hb hc => (h.ox b hb).2 hc, fun i u hu => (h.ok i u hu).fr hfr (fun b _ hb hc => h.kx b hc hb) fun _ h => Or.inl h, fun b hb => ⟨fun hc => (hXo b hc).2.1 hb, fun hc => ?_⟩, ?_⟩
  · rw [List.length_append, kps_app]; exact ho
  · rcases List.mem_append.1 hk with hk | hk
    · exact ((h.kk k hk).fr hfr fun b _ hb hc => h.kx b hc hb).mono fun b _ hb => Or.inl hb
    · obtain ⟨i, hi⟩ := List.mem_iff_getElem?.1 hk
      obtain ⟨p, k1, -, k3⟩ := hl.k i k hi
      have k4 : Kp.ok (fun b => X b ∨ (∃ p ∈ Q, p.2.ownBlock = some b) ∨ (W5.heap.size ≤ b ∧ b < W6.heap.size ∧ va.ownBlock ≠ some b)) W6 k := k3.mono fun b hb hx => Or.inr (hx.imp (fun hx => ⟨p, List.mem_of_getElem? k1, hx⟩) fun hx => ⟨hx.1, hb, hx.2⟩)
      exact k4.fr hfr fun b _ hb hc => (hXo b hb).1 hc
  · rcases hv with hv | hv
    · rw [hv] at hb; exact (hXo b hc).1 hb
    · rw [hv] at hb; cases hb; have := (hXo _ hc).2.2.1; omega
  · rcases hv with hv | hv
    · rw [hv] at hc; exact (h.ox b hb).2 hc
    · rw [hv] at hc; cases hc; have := (h.oo.lt _ hb).2; omega
  · exact (h.l.same hz7 fun b hb hl => hfr.block b hl fun hc => h.kx b hc hb).mono fun b _ hb => Or.inl hb
/-- One outer list more. -/
theorem FZ.out {w : World} {X Y : Nat → Prop} {kv : Value} {Ks : List Kp} {ov u : Value} {Os : List Value} {lv : Value} {Lq : List (List Int × Value)} {W W2 : World} {g c : Nat} (h : FZ w X kv Ks ov Os lv Lq W) (hXY : ∀ b, X b → Y b) (hY : ∀ b, Y b → X b ∨ (¬ LB X kv ov b ∧ w.heap.size ≤ b ∧ b < W.heap.size)) (hu : OutOk Y W Os.length u)
    (ho : W2.ownsRow w.heap.size 29 1 (.slice (some ⟨g, 0, none⟩) (Os.length + 1) c) (Os.length + 1) (Os ++ [u])) (hg : (W.alloc (.cells #[u] 29)).grownBy W2 ov.ownBlock) (hv : ov.ownBlock = some g ∨ g = (W.alloc (.cells #[u] 29)).heap.size) :
    FZ w Y kv Ks (.slice (some ⟨g, 0, none⟩) (Os.length + 1) c) (Os ++ [u]) lv Lq W2 := by
  have hfr : Fr (fun b => ov.ownBlock = some b) W W2 := (Fr.of (below1 _ _)).tr (Fr.grown hg fun b hb => hb)
  have hz := hfr.size
  have hYo : ∀ b, Y b → ov.ownBlock ≠ some b ∧ kv.ownBlock ≠ some b ∧ b < W.heap.size ∧ w.heap.size ≤ b := fun b hb => by
    rcases hY b hb with hb | hb
    · exact ⟨fun hc => (h.ox b hc).1 hb, fun hc => h.kx b hc hb, (h.x b hb).2, (h.x b hb).1⟩
    · exact ⟨fun hc => hb.1 (Or.inr (Or.inr hc)), fun hc => hb.1 (Or.inr (Or.inl hc)), hb.2.2, hb.2.1⟩
  have hg2 : ∀ b, (Value.slice (some ⟨g, 0, none⟩) (Os.length + 1) c).ownBlock = some b → b = g := fun b e => (by simpa [Value.ownBlock] using e : g = b).symm
  refine ⟨fun b hb => ⟨(hYo b hb).2.2.2, by have := (hYo b hb).2.2.1; omega⟩, row7_fr h.ko hfr fun b hb hc => (h.ox b hc).2 hb, fun k hk => ((h.kk k hk).fr hfr fun b _ hb hc => (h.ox b hc).1 hb).mono fun b _ hb => hXY b hb, fun b hb hc => (hYo b hc).2.1 hb, by rw [List.length_append]; exact ho, fun i u' hu' => ?_, fun b hb => ?_, (h.l.same hz fun b hb hl => hfr.block b hl fun hc => (h.ox b hc).1 hb).mono fun b _ hb => hXY b hb⟩
  · by_cases hi : i < Os.length
    · rw [List.getElem?_append_left hi] at hu'
      exact (h.ok i u' hu').fr hfr (fun b _ hb hc => (h.ox b hc).1 hb) hXY
    · rw [List.getElem?_append_right (by omega)] at hu'
      have e : i = Os.length := by
        have := (List.getElem?_eq_some_iff.1 hu').1
        simp only [List.length_cons, List.length_nil] at this
        omega
      subst e
      rw [Nat.sub_self] at hu'
      simp only [List.getElem?_cons_zero, Option.some.injEq] at hu'
      subst hu'
      exact hu.fr hfr (fun b _ hb hc => (hYo b hb).1 hc) fun _ h => h
  · have e := hg2 b hb
    subst e
    rcases hv with hv | hv
    · exact ⟨fun hc => (hYo _ hc).1 hv, fun hc => (h.ox _ hv).2 hc⟩
    · simp at hv
      refine ⟨fun hc => by have := (hYo _ hc).2.2.1; omega, fun hc => by have := (h.ko.lt _ hc).2; omega⟩
theorem gapp3 {T e : TypeId} {z : Value} {by_ : Nat} (hT : Try.prog.underlying T = some (.slice e)) (hI : (Try.prog.info? e).map (fun i => (i.zero, i.size, i.bytes)) = some (some z, 3, by_)) (hz : z.cells.size = 3) (hby : by_ ≤ 100)
    {ops : Array Oper} {rest : List Oper} {o : Oper} {a : Act} {Q : Exit → Act → World → Prop} {w : World} (hgd : o.guard = none) (s x : Operand)
    (ho : o.op = .call { callee := .builtin .append, args := #[s, x], argTypes := #[T, T] }) (base : Nat) (v : Value) (n : Nat) (l : List Value) (hs : a.eval s = v) (hown : w.ownsRow base e 3 v n l)
    (B2 : Nat) (xv : Value) (m : Nat) (news : List Value) (hx : a.eval x = xv) (hsrc : w.ownsRow B2 e 3 xv m news) (h1c : ∀ u ∈ news, u.oneCell' = true) (hlen : n + m ≤ 1000000000000) (hbase : base ≤ w.heap.size)
    (h : ∀ v' w', w'.ownsRow base e 3 v' (n + m) (l ++ news) → w.grownBy w' v.ownBlock → (v'.ownBlock = v.ownBlock ∨ v'.ownBlock = some w.heap.size) → wpList Try.prog ops Q rest (a.put o.dst v') w') : wpList Try.prog ops Q (o :: rest) a w := by
  obtain ⟨i, hi, h0, h1, h2⟩ := info7 hI
  have key : ∃ v' w', (Builtin.append_ #[T, T] o.type #[v, xv]).run Try.prog w = .ok v' w' ∧ w'.ownsRow base e 3 v' (n + m) (l ++ news) ∧ w.grownBy w' v.ownBlock ∧ (v'.ownBlock = v.ownBlock ∨ v'.ownBlock = some w.heap.size) := by
    rcases hsrc.2 with ⟨rfl, rfl⟩ | ⟨g, cap, cur, rfl, -, hg, hnc, hcm, hcs, htake⟩
    · have hn : news = [] := List.length_eq_zero_iff.1 (by rw [hsrc.1])
      subst hn
      exact ⟨v, w, run_append_owned_none (P := Try.prog) w base T o.type e i 3 hT hi v n l hown, by rw [List.append_nil]; exact hown, ⟨rfl, rfl, rfl, Nat.le_refl _, fun _ _ _ => rfl⟩, Or.inl rfl⟩
    · have hc : ∀ j u, news[j]? = some u → w.cell? ((⟨g, 0, none⟩ : Addr).add j) = some u := fun j u hu => by
        have hj : j < m * 3 := by rw [← hsrc.1]; exact (List.getElem?_eq_some_iff.1 hu).1
        have hadd : (⟨g, 0, none⟩ : Addr).add j = ⟨g, j, none⟩ := by unfold Addr.add; split <;> simp_all
        rw [hadd, cell_of_row w g j cur e (0, 0) hg]
        rw [← htake, List.getElem?_take_of_lt hj] at hu
        simpa using hu
      obtain ⟨v', w', k1, k2, k3, -, k5⟩ := run_append_own_at (P := Try.prog) w base T o.type e i z 3 by_ hT hi h0 h1 h2 hz (by omega) v n l hown ⟨g, 0, none⟩ m cap news (by rw [hsrc.1]) hc h1c (by unfold maxLen; omega) (Nat.le_trans (Nat.mul_le_mul hlen hby) (by decide)) hbase
      exact ⟨v', w', k1, k2, k3, k5⟩
  obtain ⟨v', w', hrun, r1, r2, r3⟩ := key
  refine wpList_plain hgd fun K hK => ?_
  simp [Oper.wp, execOp, ho, resolve, invoke, builtin, hs, hx, hrun, Result.andThen]
  exact hK _ _ (h v' w' r1 r2 r3)
end Go.Proofs.Ytofopfjmcbgfjaa

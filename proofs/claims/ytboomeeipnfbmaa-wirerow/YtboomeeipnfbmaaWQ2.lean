/-
  wire: the program's wire in memory (row []api.Message, last int): place.
-/
import Derived.Test.YtboomeeipnfbmaaWQ1
namespace Go.Proofs.Ytboomeeipnfbmaa
open Go.RowKit
attribute [local go_sem ↓] Go.wp_at_zero Go.wp_at_succ

theorem cell_ltW {w : World} {q i : Nat} {v : Value} (h : w.cell? ⟨q, i, none⟩ = some v) : q < w.heap.size := by
  by_cases hq : q < w.heap.size
  · exact hq
  · have : w.heap[q]? = none := Array.getElem?_eq_none (by omega)
    simp [World.cell?, this] at h
theorem bel_step {W w' w3 : World} (h : Below W.heap.size W w') (h3 : Below w'.heap.size w' w3) : Below W.heap.size W w3 := h.trans (h3.mono h.size)
structure WyX (B : Nat) (T : Nat → Prop) (g : Nat) (s : WrW) (Z : List (MsW × Value)) (rv : Value) (Y : World) : Prop where
  ok : s.Ok
  z : Z.map Prod.fst = s.row
  b : Bk Y g #[rv, .int .i64 (s.gv : Int)] 64
  a : Y.ownsRow B 57 2 rv Z.length (twoW (Z.map zcW))
  u : ∀ q ∈ Z, LbW (fun b => T b ∧ b ≠ g ∧ rv.ownBlock ≠ some b) Y q.2 q.1.b
  w : ∀ q ∈ Z, q.1.b ≠ [] → ∀ x, q.2.ownBlock = some x → ∃ cur, Bk Y x cur 5
  d : ∀ (i j : Nat) (y q : MsW × Value) (x : Nat), Z[i]? = some y → Z[j]? = some q → y.1.b ≠ [] → q.1.b ≠ [] → y.2.ownBlock = some x → q.2.ownBlock = some x → i = j
  ta : ∀ b, rv.ownBlock = some b → T b
  tg : T g
  t : ∀ b, T b → B ≤ b ∧ b < Y.heap.size
theorem LbW.own {F : Nat → Prop} {w : World} {v : Value} {l : List Int} (h : LbW F w v l) (hn : l ≠ []) : ∃ x, v.ownBlock = some x ∧ F x ∧ x < w.heap.size := by
  obtain ⟨a, cap, rfl, -, -, -, h4⟩ := h
  rcases h4 with ⟨h4, -⟩ | ⟨b, o, rfl, h5, h6, -⟩
  · exact absurd h4 hn
  · exact ⟨b, rfl, h6, h5⟩
theorem WyX.len {B : Nat} {T : Nat → Prop} {g : Nat} {s : WrW} {Z : List (MsW × Value)} {rv : Value} {Y : World} (h : WyX B T g s Z rv Y) : Z.length = s.row.length := by rw [← h.z, List.length_map]
theorem WyX.ne {B : Nat} {T : Nat → Prop} {g : Nat} {s : WrW} {Z : List (MsW × Value)} {rv : Value} {Y : World} (h : WyX B T g s Z rv Y) : rv.ownBlock ≠ some g := fun e => by
  rcases h.a.2 with ⟨rfl, -⟩ | ⟨g', cap, cur, rfl, -, hg, -⟩
  · cases e
  · simp only [Value.ownBlock, Option.some.injEq] at e
    subst e
    have := h.b
    unfold Bk at this
    rw [this] at hg
    simp at hg
theorem WyX.same {B : Nat} {T : Nat → Prop} {g : Nat} {s : WrW} {Z : List (MsW × Value)} {rv : Value} {Y Y' : World} (h : WyX B T g s Z rv Y) (hz : Y.heap.size ≤ Y'.heap.size) (hf : ∀ b, b < Y.heap.size → T b → Y'.heap[b]? = Y.heap[b]?) : WyX B T g s Z rv Y' :=
  ⟨h.ok, h.z, (hf g h.b.lt h.tg).trans h.b, row7 h.a fun b hb => hf b (h.a.lt b hb).2 (h.ta b hb), fun q hq => (h.u q hq).same hz fun b hb hF => hf b hb hF.1, fun q hq hn x hx => by
    obtain ⟨x', e, hT, hl⟩ := (h.u q hq).own hn
    rw [hx] at e
    cases e
    obtain ⟨cur, hc⟩ := h.w q hq hn x hx
    exact ⟨cur, (hf x hl hT.1).trans hc⟩, h.d, h.ta, h.tg, fun b hb => ⟨(h.t b hb).1, Nat.lt_of_lt_of_le (h.t b hb).2 hz⟩⟩
def WyW (B : Nat) (T : Nat → Prop) (v : Value) (s : WrW) (Y : World) : Prop := ∃ g Z rv, v = .pointer (some ⟨g, 0, none⟩) ∧ WyX B T g s Z rv Y
theorem WyW.fr {B : Nat} {T P : Nat → Prop} {v : Value} {s : WrW} {Y Y' : World} (h : WyW B T v s Y) (hf : Fr P Y Y') (hP : ∀ b, b < Y.heap.size → T b → ¬ P b) : WyW B T v s Y' := by
  obtain ⟨g, Z, rv, e, h⟩ := h
  exact ⟨g, Z, rv, e, h.same hf.size fun b hb hT => hf.block b hb (hP b hb hT)⟩
/-- A message's cells. -/
theorem WyX.at_ {B : Nat} {T : Nat → Prop} {g : Nat} {s : WrW} {Z : List (MsW × Value)} {a : Option Addr} {m cap : Nat} {Y : World} (h : WyX B T g s Z (.slice a m cap) Y) {k : Nat} {q : MsW × Value} (hq : Z[k]? = some q) : ∃ g', a = some ⟨g', 0, none⟩ ∧ B ≤ g' ∧ g' < Y.heap.size ∧ g' ≠ g ∧ T g' ∧ Y.cell? ⟨g', k * 2, none⟩ = some (.int .i64 (q.1.n : Int)) ∧ Y.cell? ⟨g', k * 2 + 1, none⟩ = some q.2 ∧ (∀ i, Y.frozen? ⟨g', i, none⟩ = false) ∧ s.row[k]? = some q.1 := by
  have hc : (Z.map zcW)[k]? = some (zcW q) := by rw [List.getElem?_map, hq]; rfl
  obtain ⟨c1, c2⟩ := twoW_get hc
  have hm : m = Z.length := by
    obtain ⟨a', c', e, -⟩ := row7_form h.a
    simp only [Value.slice.injEq] at e
    exact e.2.1
  have ha := h.a
  rw [← hm] at ha
  obtain ⟨g', e, h1, h2, h3, -⟩ := row7_at ha c1
  obtain ⟨g2, e2, -, -, h4, -⟩ := row7_at ha c2
  subst e
  cases e2
  refine ⟨g', rfl, h1, h2, fun e => h.ne (by rw [e]; rfl), h.ta g' rfl, h3, h4, fun i => ?_, by rw [← h.z, List.getElem?_map, hq]; rfl⟩
  rcases ha.2 with ⟨e, -⟩ | ⟨g3, cap', cur, e, -, hg, -⟩
  · cases e
  · cases e; simp [World.frozen?, hg]
/-- Where a message stands; below 0: nowhere. -/
def plI (s : WrW) (n : Int) : Int := match plW s n with
  | some i => (i : Int)
  | none => -1
theorem WyX.below {B : Nat} {T : Nat → Prop} {g : Nat} {s : WrW} {Z : List (MsW × Value)} {rv : Value} {Y Y' : World} (h : WyX B T g s Z rv Y) (hb : Below Y.heap.size Y Y') : WyX B T g s Z rv Y' := h.same hb.size fun b hb1 _ => hb.block b hb1
set_option maxRecDepth 20000 in
theorem wpl1_any (x n : Int) (u : Value) (q : Nat) (Y : World) (hq : Y.cell? ⟨q, 0, none⟩ = some (.int .i64 n)) : Calls Try.prog 32 #[.agg #[.int .i64 x, u], .pointer (some ⟨q, 0, none⟩)] Y fun e Y' => e = .returned (.bool (decide (x = n))) ∧ Below Y.heap.size Y Y' := by
  have hql : q < Y.heap.size := cell_ltW hq
  have hq1 : (Y.alloc (.cells #[.int .i64 x, u] 57)).cell? ⟨q, 0, none⟩ = some (.int .i64 n) := by rw [(below1 Y _).cell (p := ⟨q, 0, none⟩) hql]; exact hq
  go_enter Try.func32, Try.ntmps32
  go_wp2
  go_ret
  exact ⟨ret_b (by by_cases h : x = n <;> simp [h]), below1 _ _⟩
set_option maxRecDepth 20000 in
set_option maxHeartbeats 1000000 in
theorem widx_any {B : Nat} {T : Nat → Prop} {g : Nat} {s : WrW} {Z : List (MsW × Value)} {rv : Value} {Y : World} (h : WyX B T g s Z rv Y) (n : Int) (q : Nat) (hq : Y.cell? ⟨q, 0, none⟩ = some (.int .i64 n)) :
    Calls Try.prog 31 #[rv, .func (.func 32) #[] #[.pointer (some ⟨q, 0, none⟩)]] Y fun e Y' => e = .returned (.int .i64 (plI s n)) ∧ Below Y.heap.size Y Y' := by
  have hql : q < Y.heap.size := cell_ltW hq
  obtain ⟨aa, cap, hav, -⟩ := row7_form h.a
  obtain ⟨N, hN⟩ : ∃ N, Z.length = N := ⟨_, rfl⟩
  rw [hN] at hav
  subst hav
  have HN := hm7 hN
  have HX := hm7 h
  have HQ := hm7 hq
  have HQL := hm7 hql
  have hb : N ≤ 4096 := by have h1 := h.len; have h2 := h.ok.r; have h3 := h.ok.g; omega
  clear hN h hq hql
  go_enter Try.func31, Try.ntmps31
  go_wp2
  go_loopg [8, 5] N (fun gg i _ wr => ∃ j : Nat, j + gg = N ∧ i = .int .i64 j ∧ (∀ (k : Nat) (m : MsW), k < j → s.row[k]? = some m → (m.n : Int) ≠ n) ∧ Below Y.heap.size Y wr)
  case atStart => exact ⟨0, by omega, rfl, fun k m hk => by omega, Below.refl _ _⟩
  case round =>
    obtain ⟨j, hj, rfl, hp, hbr⟩ := hrel
    have HP := hm7 hp
    have HBR := hm7 hbr
    clear hp hbr
    cases gk with
    | succ gg =>
      have hlt : (j : Int) < (N : Int) := by omega
      have j0 : (0 : Int) ≤ (j : Int) := by omega
      obtain ⟨q1, hq1⟩ : ∃ q, Z[j]? = some q := ⟨_, List.getElem?_eq_getElem (by have := HN.out; omega)⟩
      obtain ⟨g', rfl, -, -, -, -, p0, p1, -, hrow⟩ := (HX.out.below HBR.out).at_ hq1
      have HR := hm7 hrow
      obtain ⟨x, hx⟩ : ∃ x : Int, (q1.1.n : Int) = x := ⟨_, rfl⟩
      rw [hx] at p0
      have HXN := hm7 hx
      obtain ⟨u, hu⟩ : ∃ u, q1.2 = u := ⟨_, rfl⟩
      rw [hu] at p1
      clear hq1 hrow hx hu
      have hqw : wr.cell? ⟨q, 0, none⟩ = some (.int .i64 n) := by rw [HBR.out.cell (p := ⟨q, 0, none⟩) HQL.out]; exact HQ.out
      by_cases hxn : x = n
      · have HJ : Hid (Calls Try.prog 32 #[.agg #[.int .i64 x, u], .pointer (some ⟨q, 0, none⟩)] wr fun e Y' => e = .returned (.bool true) ∧ Below wr.heap.size wr Y') := by have := wpl1_any x n u q wr hqw; rw [decide_eq_true hxn] at this; exact this
        have HXE := hm7 hxn
        clear hxn hqw
        go_wp2_with (go_at_call 32; refine HJ.out.mono ?_; rintro e w1 ⟨rfl, hb1⟩; have HB1 := hm7 hb1; clear hb1)
        go_ret
        refine ⟨ret_i ?_, bel_step HBR.out HB1.out⟩
        unfold plI
        have := plW_at HX.out.ok HR.out
        rw [HXN.out, HXE.out] at this
        rw [this]
      · have HJ : Hid (Calls Try.prog 32 #[.agg #[.int .i64 x, u], .pointer (some ⟨q, 0, none⟩)] wr fun e Y' => e = .returned (.bool false) ∧ Below wr.heap.size wr Y') := by have := wpl1_any x n u q wr hqw; rw [decide_eq_false hxn] at this; exact this
        have HXE := hm7 hxn
        clear hxn hqw
        go_wp2_with (go_at_call 32; refine HJ.out.mono ?_; rintro e w1 ⟨rfl, hb1⟩; have HB1 := hm7 hb1; clear hb1)
        go_roundg gg
        case measure => omega
        case rel =>
          refine ⟨j + 1, by omega, by go_num, fun k m hk hm => ?_, bel_step HBR.out HB1.out⟩
          by_cases e : k = j
          · subst e
            rw [HR.out] at hm
            cases hm
            rw [HXN.out]
            exact HXE.out
          · exact HP.out k m (by omega) hm
    | zero =>
      have hlt : ¬ (j : Int) < (N : Int) := by omega
      go_wp2
      go_ret
      refine ⟨ret_i ?_, HBR.out⟩
      unfold plI
      cases hpl : plW s n with
      | none => rfl
      | some i =>
        obtain ⟨m, hm, hn, hi⟩ := plW_some hpl
        exact absurd hn (HP.out i m (by have := HX.out.len; have := HN.out; omega) hm)
set_option maxRecDepth 20000 in
set_option maxHeartbeats 1000000 in
theorem wplaceW_any {B : Nat} {T : Nat → Prop} {g : Nat} {s : WrW} {Z : List (MsW × Value)} {rv : Value} {Y : World} (h : WyX B T g s Z rv Y) (n : Int) :
    Calls Try.prog 27 #[.pointer (some ⟨g, 0, none⟩), .int .i64 n] Y fun e Y' => e = .returned (.tuple #[.int .i64 (plI s n), .bool (decide (0 ≤ plI s n))]) ∧ Below Y.heap.size Y Y' := by
  have hmf : ∀ (fn : Fn) (first cap : Array Value) (w : World), (Instr.makeFunc fn first cap).run Try.prog w = .ok (.func fn first cap) w := fun _ _ _ _ => rfl
  have h1 := h.below (below1 Y (.cells #[.int .i64 n] 3))
  have c0 : (Y.alloc (.cells #[.int .i64 n] 3)).cell? ⟨g, 0, none⟩ = some rv := h1.b.cell (i := 0) rfl
  have HC := hm7 (widx_any h1 n Y.heap.size (Bk.new Y #[.int .i64 n] 3 |>.cell (i := 0) rfl))
  obtain ⟨aa, cap, hav, -⟩ := row7_form h.a
  obtain ⟨x, hx⟩ : ∃ x, plI s n = x := ⟨_, rfl⟩
  rw [hx] at HC ⊢
  obtain ⟨m, hm⟩ : ∃ m, Z.length = m := ⟨_, rfl⟩
  rw [hm] at hav
  subst hav
  clear h h1 hx hm
  go_enter Try.func27, Try.ntmps27
  go_wp2_with (go_at_call 31; refine HC.out.mono ?_; rintro e w1 ⟨rfl, hb1⟩; have HB1 := hm7 hb1; clear hb1)
  go_ret2
  exact ⟨rfl, (below1 _ _).trans (HB1.out.mono (by simp))⟩
end Go.Proofs.Ytboomeeipnfbmaa

/-
  whole of the laws.
-/
import Derived.Test.YtekjicklbgpdcabDoorK62
import Derived.Deep.QuietTactic
namespace Go.Proofs.YtekjicklbgpdcabDoor
open Go.RowKit

theorem run_eql_tk (t : Tk) (w : World) : (binOp .eql 37 t.v t.v).run Tryd.prog w = .ok (.bool true) w := by
  obtain ⟨k, x, n, a, e⟩ := t
  go_simp
def TkAt (w : World) (b o : Nat) (t : Tk) : Prop := w.cell? ⟨b, o, none⟩ = some (.int .i64 t.k) ∧ w.cell? ⟨b, o + 1, none⟩ = some (.string t.x) ∧ w.cell? ⟨b, o + 2, none⟩ = some (.int .i64 t.n) ∧ w.cell? ⟨b, o + 3, none⟩ = some (.int .i64 t.a) ∧ w.cell? ⟨b, o + 4, none⟩ = some (.int .i64 t.e)
theorem KsS.at_ {w w' : World} {S : Nat → Prop} {a : Option Addr} {n cap : Nat} {l : List Tk} {i : Nat} {t : Tk} (h : KsS w S (.slice a n cap) l) (hb : Below w.heap.size w w') (ht : l[i]? = some t) : ∃ b o, a = some ⟨b, o, none⟩ ∧ TkAt w' b (o + i * 5) t := by
  obtain ⟨a', cap', hv, hm⟩ := h
  simp only [Value.slice.injEq] at hv
  obtain ⟨rfl, -, -⟩ := hv
  rcases hm with hm | ⟨b, o, rfl, hlt, -, hm⟩
  · rw [hm] at ht; simp at ht
  · obtain ⟨h0, h1, h2, h3, h4⟩ := hm i t ht
    exact ⟨b, o, rfl, cell_step hb hlt h0, cell_step hb hlt h1, cell_step hb hlt h2, cell_step hb hlt h3, cell_step hb hlt h4⟩
set_option maxRecDepth 20000 in
set_option maxHeartbeats 2000000 in
theorem whole_any (v G : Value) (m : Int) (n : Nat) (S : Nat → Prop) (w : World) (h : Kep w S v G m n) (h0 : 0 ≤ m) (h1 : m ≤ 1000000000) (hn : n ≤ 9000000) :
    Calls Tryd.prog 15 #[.agg #[v, G, .int .i64 m]] w fun e w' => e = .returned (.bool true) ∧ Below w.heap.size w w' := by
  have HK : Hid (Kep w S v G m n) := h
  obtain ⟨⟨a, cap, hv, -⟩, ⟨a', cap', hG, -⟩⟩ := h
  rw [mkL_len] at hv
  rw [List.length_append, mkL_len, List.length_singleton] at hG
  subst hv hG
  go_enter Tryd.func15, Tryd.ntmps15
  go_upto_region 2 with fail
  have bx := below1 w (.cells #[.slice a n cap, .slice a' (n + 1) cap', .int .i64 m] 39)
  have fx := Blk.new w #[.slice a n cap, .slice a' (n + 1) cap', .int .i64 m] 39
  revert bx fx
  generalize w.alloc (.cells #[.slice a n cap, .slice a' (n + 1) cap', .int .i64 m] 39) = W1
  intro bx fx
  have HF1 : Hid (Blk W1 w.heap.size #[.slice a n cap, .slice a' (n + 1) cap', .int .i64 m] 39) := fx
  have HB1 : Hid (Below w.heap.size w W1) := bx
  clear bx fx
  go_loopg [3, 4] n (fun gk i _ wr => ∃ j : Nat, j + gk = n ∧ i = .int .i64 (j : Int) ∧ Below w.heap.size w wr ∧ Blk wr w.heap.size #[.slice a n cap, .slice a' (n + 1) cap', .int .i64 m] 39)
  case atStart => exact ⟨0, by omega, rfl, HB1.out, HF1.out⟩
  case round =>
    obtain ⟨j, hj, rfl, hbr, hfr⟩ := hrel
    have HBr : Hid (Below w.heap.size w wr) := hbr
    have HFr : Hid (Blk wr w.heap.size #[.slice a n cap, .slice a' (n + 1) cap', .int .i64 m] 39) := hfr
    clear hfr HB1 HF1
    obtain ⟨b0, b1, b2, -, -, -⟩ := blk3 HFr.out
    cases gk with
    | succ g =>
      have hlt : j < n := by omega
      have i0 : (0 : Int) ≤ (j : Int) := by omega
      have i1 : (j : Int) < (n : Int) := by omega
      have i2 : (j : Int) < ((n + 1 : Nat) : Int) := by omega
      clear hbr
      go_upto_region 5 with fail
      have bx := below1 wr (.cells #[.int .i64 (-m - 1), .string ⟨#[]⟩, .int .i64 (j : Int), .int .i64 0, .int .i64 0] 37)
      have fx := Blk.new wr #[.int .i64 (-m - 1), .string ⟨#[]⟩, .int .i64 (j : Int), .int .i64 0, .int .i64 0] 37
      revert bx fx
      generalize wr.alloc (.cells #[.int .i64 (-m - 1), .string ⟨#[]⟩, .int .i64 (j : Int), .int .i64 0, .int .i64 0] 37) = W2
      intro bx fx
      have HB2 : Hid (Below w.heap.size w W2) := below_step HBr.out bx
      have HF2 : Hid (Blk W2 w.heap.size #[.slice a n cap, .slice a' (n + 1) cap', .int .i64 m] 39) := HFr.out.later bx
      clear b0 b1 b2
      obtain ⟨b0, b1, b2, -, -, -⟩ := blk3 HF2.out
      obtain ⟨e0, e1, e2, e3, e4⟩ := five fx
      obtain ⟨b, o, rfl, c0, c1, c2, c3, c4⟩ := HK.out.1.at_ HB2.out (i := j) (t := mk m (j : Int)) (mkL_get hlt)
      obtain ⟨b', o', rfl, d0, d1, d2, d3, d4⟩ := HK.out.2.at_ HB2.out (i := j) (t := mk m (j : Int)) (by rw [List.getElem?_append_left (by rw [mkL_len]; exact hlt)]; exact mkL_get hlt)
      simp only [mk] at c0 c1 c2 c3 c4 d0 d1 d2 d3 d4
      have hq := run_neq_tk (mk m (j : Int))
      simp only [mk] at hq
      clear bx fx
      go_quiet (fail)
      go_wp2
      go_roundg g
      case measure => omega
      case rel => exact ⟨j + 1, by omega, by go_num, below_drewN HB2.out _, HF2.out⟩
    | zero =>
      obtain rfl : j = n := by omega
      have hz : ¬ ((j : Int) < (j : Int)) := by omega
      have i0 : (0 : Int) ≤ (j : Int) := by omega
      have i2 : (j : Int) < ((j + 1 : Nat) : Int) := by omega
      obtain ⟨b, o, rfl, c0, c1, c2, c3, c4⟩ := HK.out.2.at_ hbr (i := j) (t := mk m (-1)) (by simp [mkL_len])
      simp only [mk] at c0 c1 c2 c3 c4
      have hq := run_eql_tk (mk m (-1))
      simp only [mk] at hq
      clear hbr
      go_wp2
      go_quiet (fail)
      go_wp2
      go_ret
      exact ⟨rfl, below_drewN HBr.out _⟩
end Go.Proofs.YtekjicklbgpdcabDoor

import Derived.Test.YtdfdnjkeiddfjabDoorK29
import Derived.Laws.AppendOwnNone
import Derived.Laws.AppendOwn
import Derived.Test.YtdfdnjkeiddfjabDoorK5
import Derived.Test.YtdfdnjkeiddfjabDoorKR5
/-
  There and back: every token that has a spelling (plain).
-/
namespace Go.Proofs.YtdfdnjkeiddfjabDoor

theorem sgo_rng {k : Int} (h : ¬ sgo k = ⟨#[]⟩) : 5 ≤ k ∧ k ≤ 16 := by
  by_cases h0 : 0 ≤ k
  · by_cases h1 : k < 17
    · by_cases h2 : 5 ≤ k
      · omega
      · have : k = 0 ∨ k = 1 ∨ k = 2 ∨ k = 3 ∨ k = 4 := by omega
        rcases this with rfl | rfl | rfl | rfl | rfl <;> exact absurd rfl h
    · refine absurd ?_ h
      unfold sgo; rw [if_pos h0, List.getElem?_eq_none (by rw [signL_len]; omega)]; rfl
  · refine absurd ?_ h
    unfold sgo; rw [if_neg h0]
end Go.Proofs.YtdfdnjkeiddfjabDoor
/-
  same: two lists of tokens that are the same, places too; fill; what stays beside a list that grows.
-/
namespace Go.Proofs.YtdfdnjkeiddfjabDoor
open Go.RowKit

theorem OwnK.shape {w : World} {base : Nat} {v : Value} {l : List Tk} (h : OwnK w base v l) : ∃ a cap, v = .slice a l.length cap := by
  obtain ⟨a, cap, hv, -⟩ := h.ks
  exact ⟨a, cap, hv⟩
end Go.Proofs.YtdfdnjkeiddfjabDoor
/-
  script (stage 25): Blank, the program's (over the mock) and the document's.
-/
namespace Go.Proofs.YtdfdnjkeiddfjabDoor
open Go.RowKit
attribute [local go_sem ↓] Go.wp_at_zero Go.wp_at_succ

/-- Does the line say nothing? -/
def blS (s : ByteArray) : Bool := decide ((cutL (blK s) (s.size : Int)).2.1 = 0) && decide ((cutL (blK s) (s.size : Int)).1 = [])
set_option maxRecDepth 20000 in
set_option maxHeartbeats 1000000 in
theorem bSBlank_any (s : ByteArray) (hs : s.size ≤ 9000000) (w : World) (hE : QOk w) : Calls Tryd.prog 13 #[.string s] w fun e w' => e = .returned (.bool (blS s)) ∧ Below w.heap.size w w' := by
  have HC : Hid (Calls Tryd.prog 22 #[.string s, .int .i64 (s.size : Int)] w (KPost w (cutL (blK s) (s.size : Int)))) := qcut_any s _ hs w hE
  obtain ⟨R, hR⟩ : ∃ R, cutL (blK s) (s.size : Int) = R := ⟨_, rfl⟩
  unfold blS
  rw [hR] at HC ⊢
  obtain ⟨l, e0, p0⟩ := R
  obtain ⟨N, hN⟩ : ∃ N, s.size = N := ⟨_, rfl⟩
  rw [hN] at HC
  clear hR hE
  by_cases h0 : e0 = 0
  · subst h0
    cases l with
    | nil =>
      go_enter Tryd.func13, Tryd.ntmps13
      go_wp2_with (go_at_call 22; refine HC.out.mono ?_; rintro e w1 ⟨v, rfl, ho, hb⟩; obtain ⟨va, vc, rfl⟩ := ho.shape; have HB : Hid (Below w.heap.size w w1) := hb; clear ho hb)
      go_ret
      exact ⟨ret_bS (by simp), HB.out.trans ((below1K _ _).mono HB.out.size)⟩
    | cons t l =>
      obtain ⟨m, hm⟩ : ∃ m, l.length = m := ⟨_, rfl⟩
      have hq : (((m + 1 : Nat) : Int) == 0) = false := by simp; omega
      have hq2 : (((m : Int) + 1) == 0) = false := by simp; omega
      go_enter Tryd.func13, Tryd.ntmps13
      go_wp2_with (go_at_call 22; refine HC.out.mono ?_; rintro e w1 ⟨v, rfl, ho, hb⟩; obtain ⟨va, vc, rfl⟩ := ho.shape; rw [List.length_cons, hm]; have HB : Hid (Below w.heap.size w w1) := hb; clear ho hb)
      go_ret
      exact ⟨ret_bS (by simp), HB.out.trans ((below1K _ _).mono HB.out.size)⟩
  · have hq : (e0 == 0) = false := by simpa using h0
    go_enter Tryd.func13, Tryd.ntmps13
    go_wp2_with (go_at_call 22; refine HC.out.mono ?_; rintro e w1 ⟨v, rfl, ho, hb⟩; obtain ⟨va, vc, rfl⟩ := ho.shape; have HB : Hid (Below w.heap.size w w1) := hb; clear ho hb)
    go_ret
    exact ⟨ret_bS (by simp [h0]), HB.out.trans ((below1K _ _).mono HB.out.size)⟩
set_option maxRecDepth 20000 in
set_option maxHeartbeats 1000000 in
theorem aSBlank_any (s : ByteArray) (hs : s.size ≤ 9000000) (w : World) (hE : EnvOk w) : Calls Tryd.prog 12 #[.string s] w fun e w' => e = .returned (.bool (blS s)) ∧ Below w.heap.size w w' := by
  have HC : Hid (Calls Tryd.prog 20 #[.string s, .int .i64 (s.size : Int)] w (KPost w (cutL (blK s) (s.size : Int)))) := cut_any s _ hs w hE
  obtain ⟨R, hR⟩ : ∃ R, cutL (blK s) (s.size : Int) = R := ⟨_, rfl⟩
  unfold blS
  rw [hR] at HC ⊢
  obtain ⟨l, e0, p0⟩ := R
  obtain ⟨N, hN⟩ : ∃ N, s.size = N := ⟨_, rfl⟩
  rw [hN] at HC
  clear hR hE
  by_cases h0 : e0 = 0
  · subst h0
    cases l with
    | nil =>
      go_enter Tryd.func12, Tryd.ntmps12
      go_wp2_with (go_at_call 20; refine HC.out.mono ?_; rintro e w1 ⟨v, rfl, ho, hb⟩; obtain ⟨va, vc, rfl⟩ := ho.shape; have HB : Hid (Below w.heap.size w w1) := hb; clear ho hb)
      go_ret
      exact ⟨ret_bS (by simp), HB.out.trans ((below1K _ _).mono HB.out.size)⟩
    | cons t l =>
      obtain ⟨m, hm⟩ : ∃ m, l.length = m := ⟨_, rfl⟩
      have hq : (((m + 1 : Nat) : Int) == 0) = false := by simp; omega
      have hq2 : (((m : Int) + 1) == 0) = false := by simp; omega
      go_enter Tryd.func12, Tryd.ntmps12
      go_wp2_with (go_at_call 20; refine HC.out.mono ?_; rintro e w1 ⟨v, rfl, ho, hb⟩; obtain ⟨va, vc, rfl⟩ := ho.shape; rw [List.length_cons, hm]; have HB : Hid (Below w.heap.size w w1) := hb; clear ho hb)
      go_ret
      exact ⟨ret_bS (by simp), HB.out.trans ((below1K _ _).mono HB.out.size)⟩
  · have hq : (e0 == 0) = false := by simpa using h0
    cases l with
    | nil =>
      go_enter Tryd.func12, Tryd.ntmps12
      go_wp2_with (go_at_call 20; refine HC.out.mono ?_; rintro e w1 ⟨v, rfl, ho, hb⟩; obtain ⟨va, vc, rfl⟩ := ho.shape; have HB : Hid (Below w.heap.size w w1) := hb; clear ho hb)
      go_ret
      exact ⟨ret_bS (by simp [h0]), HB.out.trans ((below1K _ _).mono HB.out.size)⟩
    | cons t l =>
      obtain ⟨m, hm⟩ : ∃ m, l.length = m := ⟨_, rfl⟩
      have hq1 : (((m + 1 : Nat) : Int) == 0) = false := by simp; omega
      have hq2 : (((m : Int) + 1) == 0) = false := by simp; omega
      go_enter Tryd.func12, Tryd.ntmps12
      go_wp2_with (go_at_call 20; refine HC.out.mono ?_; rintro e w1 ⟨v, rfl, ho, hb⟩; obtain ⟨va, vc, rfl⟩ := ho.shape; rw [List.length_cons, hm]; have HB : Hid (Below w.heap.size w w1) := hb; clear ho hb)
      go_ret
      exact ⟨ret_bS (by simp [h0]), HB.out.trans ((below1K _ _).mono HB.out.size)⟩
end Go.Proofs.YtdfdnjkeiddfjabDoor
/-
  script (stage 25): the document's put (all parts but bytes).
-/
namespace Go.Proofs.YtdfdnjkeiddfjabDoor
open Go.RowKit
attribute [local go_sem ↓] Go.wp_at_zero Go.wp_at_succ

/-- A step, but for its bytes. -/
structure SdO where
  k : Int
  who : ByteArray
  too : ByteArray
  tx : ByteArray
  n : Int
  m : Int
  q : Int
abbrev SdO.v (d : SdO) (a : Option Addr) (bn bc : Nat) : Value := .agg #[.int .i64 d.k, .string d.who, .string d.too, .string d.tx, .slice a bn bc, .int .i64 d.n, .int .i64 d.m, .int .i64 d.q]
def putS (p : Int) (d : SdO) (t : Tk) : SdO :=
  if p = 119 then { d with who := t.x } else if p = 111 then { d with too := t.x } else if p = 116 then { d with tx := t.x } else if p = 110 then { d with n := t.n } else if p = 109 then { d with m := t.n } else if p = 107 then { d with q := t.n } else d
theorem ret_dS {fn : Func} {i : Nat} (hf : fn.results = #[.cell i 24]) (tmps : Array Value) (w : World) (g : Nat) (c : Array Value)
    (h4 : tmps[i]?.getD undef = .pointer (some ⟨g, 0, none⟩)) (h : BlkK w g c 24) (hc : ∃ a0 a1 a2 a3 a4 a5 a6 a7, c = #[a0, a1, a2, a3, a4, a5, a6, a7]) : (results fn tmps).run Tryd.prog w = .ok (.agg c) w := by
  obtain ⟨a0, a1, a2, a3, a4, a5, a6, a7, rfl⟩ := hc
  have e : ∀ (j : Nat) v, #[a0, a1, a2, a3, a4, a5, a6, a7][j]? = some v → w.cell? ⟨g, j, none⟩ = some v := fun j v hv => by
    unfold World.cell?
    simp only
    rw [h]
    exact hv
  have c0 := e 0 a0 rfl
  have c1 := e 1 a1 rfl
  have c2 := e 2 a2 rfl
  have c3 := e 3 a3 rfl
  have c4 := e 4 a4 rfl
  have c5 := e 5 a5 rfl
  have c6 := e 6 a6 rfl
  have c7 := e 7 a7 rfl
  simp [results, hf, h4, go_sem, c0, c1, c2, c3, c4, c5, c6, c7]
theorem blk3 (w : World) (o1 o2 : Obj) (c : Array Value) (t : TypeId) : BlkK (((w.alloc o1).alloc o2).alloc (.cells c t)) (w.heap.size + 1 + 1) c t := by
  have := BlkK.new ((w.alloc o1).alloc o2) c t
  simpa using this
theorem bel3 (w : World) (o1 o2 o3 : Obj) : Below w.heap.size w (((w.alloc o1).alloc o2).alloc o3) := ((below1K w o1).alloc (by simp) _).alloc (by simp; omega) _
set_option maxRecDepth 20000 in
set_option maxHeartbeats 2000000 in
theorem putS_119 (d : SdO) (a : Option Addr) (bn bc : Nat) (t : Tk) (w : World) : Calls Tryd.prog 24 #[d.v a bn bc, .int .u8 119, t.v] w fun e w' => e = .returned ((putS 119 d t).v a bn bc) ∧ Below w.heap.size w w' := by
  obtain ⟨k, who, too, tx, n, m, q⟩ := d
  obtain ⟨tk, x, tn, ta, te⟩ := t
  go_enter Tryd.func24, Tryd.ntmps24
  go_wp2
  refine bodyPost_ret (ret_dS rfl _ _ (w.heap.size + 1 + 1) _ rfl (blk3 w _ _ _ _) ⟨_, _, _, _, _, _, _, _, rfl⟩) rfl ?_
  exact ⟨rfl, bel3 _ _ _ _⟩
set_option maxRecDepth 20000 in
set_option maxHeartbeats 2000000 in
theorem putS_111 (d : SdO) (a : Option Addr) (bn bc : Nat) (t : Tk) (w : World) : Calls Tryd.prog 24 #[d.v a bn bc, .int .u8 111, t.v] w fun e w' => e = .returned ((putS 111 d t).v a bn bc) ∧ Below w.heap.size w w' := by
  obtain ⟨k, who, too, tx, n, m, q⟩ := d
  obtain ⟨tk, x, tn, ta, te⟩ := t
  go_enter Tryd.func24, Tryd.ntmps24
  go_wp2
  refine bodyPost_ret (ret_dS rfl _ _ (w.heap.size + 1 + 1) _ rfl (blk3 w _ _ _ _) ⟨_, _, _, _, _, _, _, _, rfl⟩) rfl ?_
  exact ⟨rfl, bel3 _ _ _ _⟩
set_option maxRecDepth 20000 in
set_option maxHeartbeats 2000000 in
theorem putS_116 (d : SdO) (a : Option Addr) (bn bc : Nat) (t : Tk) (w : World) : Calls Tryd.prog 24 #[d.v a bn bc, .int .u8 116, t.v] w fun e w' => e = .returned ((putS 116 d t).v a bn bc) ∧ Below w.heap.size w w' := by
  obtain ⟨k, who, too, tx, n, m, q⟩ := d
  obtain ⟨tk, x, tn, ta, te⟩ := t
  go_enter Tryd.func24, Tryd.ntmps24
  go_wp2
  refine bodyPost_ret (ret_dS rfl _ _ (w.heap.size + 1 + 1) _ rfl (blk3 w _ _ _ _) ⟨_, _, _, _, _, _, _, _, rfl⟩) rfl ?_
  exact ⟨rfl, bel3 _ _ _ _⟩
set_option maxRecDepth 20000 in
set_option maxHeartbeats 2000000 in
theorem putS_110 (d : SdO) (a : Option Addr) (bn bc : Nat) (t : Tk) (w : World) : Calls Tryd.prog 24 #[d.v a bn bc, .int .u8 110, t.v] w fun e w' => e = .returned ((putS 110 d t).v a bn bc) ∧ Below w.heap.size w w' := by
  obtain ⟨k, who, too, tx, n, m, q⟩ := d
  obtain ⟨tk, x, tn, ta, te⟩ := t
  go_enter Tryd.func24, Tryd.ntmps24
  go_wp2
  refine bodyPost_ret (ret_dS rfl _ _ (w.heap.size + 1 + 1) _ rfl (blk3 w _ _ _ _) ⟨_, _, _, _, _, _, _, _, rfl⟩) rfl ?_
  exact ⟨rfl, bel3 _ _ _ _⟩
set_option maxRecDepth 20000 in
set_option maxHeartbeats 2000000 in
theorem putS_109 (d : SdO) (a : Option Addr) (bn bc : Nat) (t : Tk) (w : World) : Calls Tryd.prog 24 #[d.v a bn bc, .int .u8 109, t.v] w fun e w' => e = .returned ((putS 109 d t).v a bn bc) ∧ Below w.heap.size w w' := by
  obtain ⟨k, who, too, tx, n, m, q⟩ := d
  obtain ⟨tk, x, tn, ta, te⟩ := t
  go_enter Tryd.func24, Tryd.ntmps24
  go_wp2
  refine bodyPost_ret (ret_dS rfl _ _ (w.heap.size + 1 + 1) _ rfl (blk3 w _ _ _ _) ⟨_, _, _, _, _, _, _, _, rfl⟩) rfl ?_
  exact ⟨rfl, bel3 _ _ _ _⟩
set_option maxRecDepth 20000 in
set_option maxHeartbeats 2000000 in
theorem putS_107 (d : SdO) (a : Option Addr) (bn bc : Nat) (t : Tk) (w : World) : Calls Tryd.prog 24 #[d.v a bn bc, .int .u8 107, t.v] w fun e w' => e = .returned ((putS 107 d t).v a bn bc) ∧ Below w.heap.size w w' := by
  obtain ⟨k, who, too, tx, n, m, q⟩ := d
  obtain ⟨tk, x, tn, ta, te⟩ := t
  go_enter Tryd.func24, Tryd.ntmps24
  go_wp2
  refine bodyPost_ret (ret_dS rfl _ _ (w.heap.size + 1 + 1) _ rfl (blk3 w _ _ _ _) ⟨_, _, _, _, _, _, _, _, rfl⟩) rfl ?_
  exact ⟨rfl, bel3 _ _ _ _⟩
end Go.Proofs.YtdfdnjkeiddfjabDoor
/-
  script (stage 25): the document's shown (all parts but bytes).
-/
namespace Go.Proofs.YtdfdnjkeiddfjabDoor
open Go.RowKit
attribute [local go_sem ↓] Go.wp_at_zero Go.wp_at_succ

/-- A number's digits. -/
def ibS (n : Int) : ByteArray := ⟨(Lib.itoa n).toArray⟩
end Go.Proofs.YtdfdnjkeiddfjabDoor

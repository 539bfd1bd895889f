import Derived.Test.YtdfdnjkeiddfjaaDoorK40
import Derived.Test.YtdfdnjkeiddfjaaDoorK5
import Derived.Test.YtdfdnjkeiddfjaaDoorK30
import Derived.Test.YtdfdnjkeiddfjaaDoorK18
import Derived.Deep.RegionWith
/-
  same: two lists of tokens that are the same, places too; fill; what stays beside a list that grows.
-/
namespace Go.Proofs.YtdfdnjkeiddfjaaDoor
open Go.RowKit

/-- Bytes and tokens never share a block. -/
theorem bk_ne {w : World} {base base' : Nat} {b k : Value} {bs : List Int} {ws : List Tk} (hB : OwnB w base b bs) (hK : OwnK w base' k ws) : k.ownBlock = none ∨ k.ownBlock ≠ b.ownBlock := by
  rcases hK.2 with ⟨rfl, -⟩ | ⟨g, cap, cur, rfl, -, hg, -⟩
  · exact Or.inl rfl
  · right
    rcases hB.2 with ⟨rfl, -⟩ | ⟨g', cap', cur', rfl, -, hg', -⟩
    · simp [Value.ownBlock]
    · simp only [Value.ownBlock, ne_eq, Option.some.injEq]
      rintro rfl
      rw [hg] at hg'
      simp at hg'
theorem OwnK.keptB {w w' : World} {base base' : Nat} {b k : Value} {bs : List Int} {ws : List Tk} (hK : OwnK w base' k ws) (hB : OwnB w base b bs) (hg : w.grownBy w' b.ownBlock) : OwnK w' base' k ws :=
  World.ownsRow.kept hK hg (bk_ne hB hK)
theorem OwnB.keptK {w w' : World} {base base' : Nat} {b k : Value} {bs : List Int} {ws : List Tk} (hB : OwnB w base b bs) (hK : OwnK w base' k ws) (hg : w.grownBy w' k.ownBlock) : OwnB w' base b bs := by
  refine World.ownsRow.kept hB hg ?_
  rcases bk_ne hB hK with h | h
  · rw [h]
    cases b.ownBlock with
    | none => exact Or.inl rfl
    | some x => right; simp
  · exact Or.inr (fun e => h e.symm)
theorem BlkK.keptB {w w' : World} {base g : Nat} {b : Value} {bs : List Int} {c : Array Value} (hb : BlkK w g c 43) (hB : OwnB w base b bs) (hg : w.grownBy w' b.ownBlock) : BlkK w' g c 43 := by
  refine (hg.block g hb.lt ?_).trans hb
  rcases hB.2 with ⟨rfl, -⟩ | ⟨g', cap', cur', rfl, -, hg', -⟩
  · simp [Value.ownBlock]
  · simp only [Value.ownBlock, ne_eq, Option.some.injEq]
    rintro rfl
    have h : w.heap[g]? = some (.cells c 43 (0, 0)) := hb
    rw [h] at hg'
    simp at hg'
theorem OwnB.setT {w : World} {base g i : Nat} {b a : Value} {bs : List Int} {c : Array Value} (hB : OwnB w base b bs) (hb : BlkK w g c 43) : OwnB (w.setCell ⟨g, i, none⟩ a) base b bs := by
  refine ⟨hB.1, ?_⟩
  rcases hB.2 with h | ⟨g', cap', cur', hv, h1, hg', rest⟩
  · exact Or.inl h
  · refine Or.inr ⟨g', cap', cur', hv, h1, ?_, rest⟩
    rw [heap_setCell_other _ _ _ _ (fun e => ?_)]
    · exact hg'
    · subst e
      have h : w.heap[g']? = some (.cells c 43 (0, 0)) := hb
      rw [h] at hg'
      simp at hg'
theorem OwnK.setT {w : World} {base g i : Nat} {k a : Value} {ws : List Tk} (hK : OwnK w base k ws) (hne : k.ownBlock ≠ some g) : OwnK (w.setCell ⟨g, i, none⟩ a) base k ws := by
  refine ⟨hK.1, ?_⟩
  rcases hK.2 with h | ⟨g', cap', cur', hv, h1, hg', rest⟩
  · exact Or.inl h
  · refine Or.inr ⟨g', cap', cur', hv, h1, ?_, rest⟩
    rw [heap_setCell_other _ _ _ _ (fun e => hne (by rw [hv]; exact congrArg some e))]
    exact hg'
theorem app_str2 {ops : Array Oper} {rest : List Oper} {o : Oper} {a : Act} {Q : Exit → Act → World → Prop} {w : World} (hgd : o.guard = none) (sl x : Operand)
    (ho : o.op = .call { callee := .builtin .append, args := #[sl, x], argTypes := #[22, 9] }) (base : Nat) (v : Value) (l : List Int) (hs : a.eval sl = v) (hown : OwnB w base v l) (s : ByteArray) (hx : a.eval x = .string s)
    (hlen : l.length + s.size ≤ 100000000) (hbase : base ≤ w.heap.size)
    (h : ∀ v' w', OwnB w' base v' (l ++ blK s) → Below base w w' → w.grownBy w' v.ownBlock → wpList Tryd.prog ops Q rest (a.put o.dst v') w') : wpList Tryd.prog ops Q (o :: rest) a w := by
  obtain ⟨i, hi, hz0, hz1, hz2⟩ := Tryd.zeroU8
  refine Lib.wpList_append_own_string _ hgd sl x 22 9 ho base 5 i Tryd.underlying22 Tryd.underlying9 hi hz0 hz1 hz2 v l.length (ibs l) hs hown s hx (by unfold maxLen; omega) (by omega) hbase ?_
  intro v' w' h1 h2 h3
  refine h v' w' ?_ (grown_below h2 (fun k hk => (World.ownsRow.lt hown k hk).1) hbase) h2
  unfold OwnB
  rw [List.length_append, bl_len, show ibs (l ++ blK s) = ibs l ++ ibs (blK s) by simp [ibs], ibs_bl]
  exact h1
theorem OwnB.shape {w : World} {base : Nat} {v : Value} {l : List Int} (h : OwnB w base v l) : ∃ a cap, v = .slice a l.length cap := by
  rcases h.2 with ⟨hv, hn⟩ | ⟨g, cap, cur, hv, -⟩
  · exact ⟨none, 0, by rw [hv, hn]⟩
  · exact ⟨_, _, hv⟩
theorem OwnK.shape {w : World} {base : Nat} {v : Value} {l : List Tk} (h : OwnK w base v l) : ∃ a cap, v = .slice a l.length cap := by
  obtain ⟨a, cap, hv, -⟩ := h.ks
  exact ⟨a, cap, hv⟩
/-- Numbers that lie in memory. -/
def Js (w : World) (v : Value) (h : List Int) : Prop :=
  ∃ a cap, v = .slice a h.length cap ∧ (h = [] ∨ ∃ b o, a = some ⟨b, o, none⟩ ∧ b < w.heap.size ∧ ∀ (i : Nat) (x : Int), h[i]? = some x → w.cell? ⟨b, o + i, none⟩ = some (.int .i64 x))
def kh (h : List Int) (i : Nat) : Int := match h[i % h.length]? with
  | some x => x
  | none => 0
end Go.Proofs.YtdfdnjkeiddfjaaDoor
/-
  script (stage 25): Blank, the program's (over the mock) and the document's.
-/
namespace Go.Proofs.YtdfdnjkeiddfjaaDoor
open Go.RowKit
attribute [local go_sem ↓] Go.wp_at_zero Go.wp_at_succ

/-- Does the line say nothing? -/
def blS (s : ByteArray) : Bool := decide ((cutL (blK s) (s.size : Int)).2.1 = 0) && decide ((cutL (blK s) (s.size : Int)).1 = [])
set_option maxRecDepth 20000 in
set_option maxHeartbeats 1000000 in
theorem aSBlank_any (s : ByteArray) (hs : s.size ≤ 9000000) (w : World) (hE : EnvOk w) : Calls Tryd.prog 17 #[.string s] w fun e w' => e = .returned (.bool (blS s)) ∧ Below w.heap.size w w' := by
  have HC : Hid (Calls Tryd.prog 14 #[.string s, .int .i64 (s.size : Int)] w (KPost w (cutL (blK s) (s.size : Int)))) := cut_any s _ hs w hE
  obtain ⟨R, hR⟩ : ∃ R, cutL (blK s) (s.size : Int) = R := ⟨_, rfl⟩
  unfold blS
  rw [hR] at HC ⊢
  obtain ⟨l, e0, p0⟩ := R
  obtain ⟨N, hN⟩ : ∃ N, s.size = N := ⟨_, rfl⟩
  rw [hN] at HC
  clear hR hE
  by_cases h0 : e0 = 0
  · subst h0
    cases l with
    | nil =>
      go_enter Tryd.func17, Tryd.ntmps17
      go_wp2_with (go_at_call 14; refine HC.out.mono ?_; rintro e w1 ⟨v, rfl, ho, hb⟩; obtain ⟨va, vc, rfl⟩ := ho.shape; have HB : Hid (Below w.heap.size w w1) := hb; clear ho hb)
      go_ret
      exact ⟨ret_bS (by simp), HB.out.trans ((below1K _ _).mono HB.out.size)⟩
    | cons t l =>
      obtain ⟨m, hm⟩ : ∃ m, l.length = m := ⟨_, rfl⟩
      have hq : (((m + 1 : Nat) : Int) == 0) = false := by simp; omega
      have hq2 : (((m : Int) + 1) == 0) = false := by simp; omega
      go_enter Tryd.func17, Tryd.ntmps17
      go_wp2_with (go_at_call 14; refine HC.out.mono ?_; rintro e w1 ⟨v, rfl, ho, hb⟩; obtain ⟨va, vc, rfl⟩ := ho.shape; rw [List.length_cons, hm]; have HB : Hid (Below w.heap.size w w1) := hb; clear ho hb)
      go_ret
      exact ⟨ret_bS (by simp), HB.out.trans ((below1K _ _).mono HB.out.size)⟩
  · have hq : (e0 == 0) = false := by simpa using h0
    cases l with
    | nil =>
      go_enter Tryd.func17, Tryd.ntmps17
      go_wp2_with (go_at_call 14; refine HC.out.mono ?_; rintro e w1 ⟨v, rfl, ho, hb⟩; obtain ⟨va, vc, rfl⟩ := ho.shape; have HB : Hid (Below w.heap.size w w1) := hb; clear ho hb)
      go_ret
      exact ⟨ret_bS (by simp [h0]), HB.out.trans ((below1K _ _).mono HB.out.size)⟩
    | cons t l =>
      obtain ⟨m, hm⟩ : ∃ m, l.length = m := ⟨_, rfl⟩
      have hq1 : (((m + 1 : Nat) : Int) == 0) = false := by simp; omega
      have hq2 : (((m : Int) + 1) == 0) = false := by simp; omega
      go_enter Tryd.func17, Tryd.ntmps17
      go_wp2_with (go_at_call 14; refine HC.out.mono ?_; rintro e w1 ⟨v, rfl, ho, hb⟩; obtain ⟨va, vc, rfl⟩ := ho.shape; rw [List.length_cons, hm]; have HB : Hid (Below w.heap.size w w1) := hb; clear ho hb)
      go_ret
      exact ⟨ret_bS (by simp [h0]), HB.out.trans ((below1K _ _).mono HB.out.size)⟩
end Go.Proofs.YtdfdnjkeiddfjaaDoor
/-
  script (stage 25): the document's put (all parts but bytes).
-/
namespace Go.Proofs.YtdfdnjkeiddfjaaDoor
open Go.RowKit
attribute [local go_sem ↓] Go.wp_at_zero Go.wp_at_succ

/-- A step, but for its bytes. -/
structure SdO where
  k : Int
  who : ByteArray
  too : ByteArray
  tx : ByteArray
  n : Int
  m : Int
  q : Int
abbrev SdO.v (d : SdO) (a : Option Addr) (bn bc : Nat) : Value := .agg #[.int .i64 d.k, .string d.who, .string d.too, .string d.tx, .slice a bn bc, .int .i64 d.n, .int .i64 d.m, .int .i64 d.q]
def putS (p : Int) (d : SdO) (t : Tk) : SdO :=
  if p = 119 then { d with who := t.x } else if p = 111 then { d with too := t.x } else if p = 116 then { d with tx := t.x } else if p = 110 then { d with n := t.n } else if p = 109 then { d with m := t.n } else if p = 107 then { d with q := t.n } else d
theorem ret_dS {fn : Func} {i : Nat} (hf : fn.results = #[.cell i 24]) (tmps : Array Value) (w : World) (g : Nat) (c : Array Value)
    (h4 : tmps[i]?.getD undef = .pointer (some ⟨g, 0, none⟩)) (h : BlkK w g c 24) (hc : ∃ a0 a1 a2 a3 a4 a5 a6 a7, c = #[a0, a1, a2, a3, a4, a5, a6, a7]) : (results fn tmps).run Tryd.prog w = .ok (.agg c) w := by
  obtain ⟨a0, a1, a2, a3, a4, a5, a6, a7, rfl⟩ := hc
  have e : ∀ (j : Nat) v, #[a0, a1, a2, a3, a4, a5, a6, a7][j]? = some v → w.cell? ⟨g, j, none⟩ = some v := fun j v hv => by
    unfold World.cell?
    simp only
    rw [h]
    exact hv
  have c0 := e 0 a0 rfl
  have c1 := e 1 a1 rfl
  have c2 := e 2 a2 rfl
  have c3 := e 3 a3 rfl
  have c4 := e 4 a4 rfl
  have c5 := e 5 a5 rfl
  have c6 := e 6 a6 rfl
  have c7 := e 7 a7 rfl
  simp [results, hf, h4, go_sem, c0, c1, c2, c3, c4, c5, c6, c7]
theorem blk3 (w : World) (o1 o2 : Obj) (c : Array Value) (t : TypeId) : BlkK (((w.alloc o1).alloc o2).alloc (.cells c t)) (w.heap.size + 1 + 1) c t := by
  have := BlkK.new ((w.alloc o1).alloc o2) c t
  simpa using this
theorem bel3 (w : World) (o1 o2 o3 : Obj) : Below w.heap.size w (((w.alloc o1).alloc o2).alloc o3) := ((below1K w o1).alloc (by simp) _).alloc (by simp; omega) _
end Go.Proofs.YtdfdnjkeiddfjaaDoor
/-
  script (stage 25): the document's shown (all parts but bytes).
-/
namespace Go.Proofs.YtdfdnjkeiddfjaaDoor
open Go.RowKit
attribute [local go_sem ↓] Go.wp_at_zero Go.wp_at_succ

/-- A number's digits. -/
def ibS (n : Int) : ByteArray := ⟨(Lib.itoa n).toArray⟩
end Go.Proofs.YtdfdnjkeiddfjaaDoor
/-
  ref's decimal.
-/
namespace Go.Proofs.YtdfdnjkeiddfjaaDoor
open Go.RowKit

theorem conv_one (W : World) (c : Int) (h0 : 0 ≤ c) (h1 : c ≤ 255) : (convert 22 9 (.slice (some ⟨W.heap.size, 0, none⟩) 1 1)).run Tryd.prog (W.alloc (.cells #[.int .u8 c] 5)) = .ok (.string (ofL [c])) (W.alloc (.cells #[.int .u8 c] 5)) :=
  conv_bytes (OwnB.lit W [c] (by simp)) (by simp) (fun x hx => by simp at hx; omega)
theorem itB_small (n : Nat) (h : n < 10) : itB (n : Int) = ofL [48 + (n : Int)] := by
  rw [← ofL_bl (itB (n : Int)), bl_pos, dcs_small h]
theorem itB_big (n : Nat) (h : ¬ n < 10) : itB ((n / 10 : Nat) : Int) ++ ofL [48 + ((n % 10 : Nat) : Int)] = itB (n : Int) := by
  rw [← ofL_bl (itB (n : Int)), bl_pos, dcs_big h, ← bl_pos, ← ofL_bl (_ ++ _), bl_append, bl_ofL (fun x hx => by simp at hx; omega)]
theorem itB_neg (n : Nat) (h : 1 ≤ n) : (⟨#[45]⟩ : ByteArray) ++ itB (n : Int) = itB (-(n : Int)) := by
  rw [← ofL_bl (itB (-(n : Int))), bl_neg n h, ← bl_pos, ← ofL_bl (_ ++ _), bl_append]; rfl
theorem itB_size (n : Int) (h0 : -9223372036854775808 ≤ n) (h1 : n ≤ 9223372036854775807) : (itB n).size ≤ 21 := by
  have hi := Lib.itoa_length_le n h0 h1
  have e : (itB n).size = (Lib.itoa n).length := by show (Lib.itoa n).toArray.size = _; simp
  rw [e]; exact hi
theorem itB_min : itB (-9223372036854775808) = ⟨#[45, 57, 50, 50, 51, 51, 55, 50, 48, 51, 54, 56, 53, 52, 55, 55, 53, 56, 48, 56]⟩ := by
  have h1 := (canon 18 [57, 50, 50, 51, 51, 55, 50, 48, 51, 54, 56, 53, 52, 55, 55, 53, 56, 48, 56] rfl (by decide) (by decide)).1
  have h2 : dv [57, 50, 50, 51, 51, 55, 50, 48, 51, 54, 56, 53, 52, 55, 55, 53, 56, 48, 56] 0 = 9223372036854775808 := by decide
  rw [h2] at h1
  have h3 := bl_neg 9223372036854775808 (by omega)
  rw [h1] at h3
  rw [← ofL_bl (itB (-9223372036854775808))]
  have h4 : blK (itB (-9223372036854775808)) = 45 :: [57, 50, 50, 51, 51, 55, 50, 48, 51, 54, 56, 53, 52, 55, 55, 53, 56, 48, 56] := h3
  rw [h4]; rfl
end Go.Proofs.YtdfdnjkeiddfjaaDoor

import Derived.Test.YtdfdnjkeiddfjaaDoorSM1
import Derived.Test.YtdfdnjkeiddfjaaDoorSC7
import Derived.Test.YtdfdnjkeiddfjaaDoorSMX
import Derived.Test.YtdfdnjkeiddfjaaDoorSML
import Derived.Test.YtdfdnjkeiddfjaaDoorSMQ
import Derived.ArgAppend
import Derived.Test.YtdfdnjkeiddfjaaDoorSMH
/-
  hearsaylaw25: same (of a step and itself), has, cut, line, texts.
-/
namespace Go.Proofs.YtdfdnjkeiddfjaaDoor
open Go.RowKit
attribute [local go_sem ↓] Go.wp_at_zero Go.wp_at_succ

theorem convL {w : World} {v : Value} {b : ByteArray} (h : LbW (fun _ => True) w v (blK b)) : (convert 22 9 v).run Tryd.prog w = .ok (.string b) w := by
  have := conv_lb h
  rwa [ofL_bl] at this
end Go.Proofs.YtdfdnjkeiddfjaaDoor
/-
  hearsaylaw25: bytes that are made; append to bytes that Read answered.
-/
namespace Go.Proofs.YtdfdnjkeiddfjaaDoor
open Go.RowKit
attribute [local go_sem ↓] Go.wp_at_zero Go.wp_at_succ

theorem mkL_run (n : Nat) (hn : n ≤ 281474976710656) (w : World) : ∃ w', (Instr.makeSlice 22 (.int .i64 (n : Int)) (.int .i64 (n : Int))).run Tryd.prog w = .ok (.slice (some ⟨w.heap.size, 0, none⟩) n n) w' ∧ OwW w' w.heap.size (.slice (some ⟨w.heap.size, 0, none⟩) n n) (List.replicate n 0) ∧ Below w.heap.size w w' := by
  obtain ⟨i, hi, h0, h1, h2⟩ := infoW Tryd.infoU8W
  obtain ⟨w', r1, r2, r3⟩ := run_make_full (P := Tryd.prog) w w.heap.size 22 5 i (.int .u8 0) 1 Tryd.underlying22 hi h0 h1 .i64 .i64 n (by rw [h2]; omega) (by unfold maxLen; omega) (Nat.le_refl _)
  refine ⟨w', r1, ?_, (Fr.grown (P := fun _ => False) r3 fun b hb => by cases hb).below fun _ _ h => h⟩
  unfold OwW
  rw [List.length_replicate]
  have e : (madeCells (Value.cells (.int .u8 0)) (n * 1)).toList = ubW (List.replicate n 0) := by
    rw [Nat.mul_one]
    have : Value.cells (.int .u8 0) = #[.int .u8 0] := rfl
    rw [this, toList_madeCells_one]
    simp [ubW]
  rw [e] at r2
  exact r2
theorem OwW.putL {w : World} {base g cap n j : Nat} {l : List Int} {x : Int} (h : OwW w base (.slice (some ⟨g, 0, none⟩) n cap) l) (hn : l.length = n) : OwW (w.setCell ⟨g, j, none⟩ (.int .u8 x)) base (.slice (some ⟨g, 0, none⟩) n cap) (l.set j x) := by
  unfold OwW at h ⊢
  rw [hn] at h
  rw [List.length_set, hn]
  have := (h.stored j (.int .u8 x)).1
  rw [show ubW (l.set j x) = (ubW l).set j (.int .u8 x) by simp [ubW, List.map_set]]
  exact this
theorem OwW.y {w : World} {base : Nat} {v : Value} {l : List Int} (h : OwW w base v l) : OwY w base v l := by
  rcases h.2 with ⟨rfl, hn⟩ | ⟨g, cap, cur, rfl, hb, hg, hn, hc, hs, ht⟩
  · exact Or.inl ⟨rfl, List.eq_nil_of_length_eq_zero hn⟩
  · exact Or.inr ⟨g, cap, cur, (0, 0), rfl, hb, hg, Or.inl rfl, hn, hc, by rw [hs, Nat.mul_one], by rw [← ht, Nat.mul_one]⟩
/-- One byte more, in place: the row. -/
theorem OwY.more {w : World} {base g cap : Nat} {l : List Int} {x : Int} (h : OwY w base (.slice (some ⟨g, 0, none⟩) l.length cap) l) (hc : l.length + 1 ≤ cap) : OwY (w.setCell ⟨g, l.length, none⟩ (.int .u8 x)) base (.slice (some ⟨g, 0, none⟩) (l.length + 1) cap) (l ++ [x]) := by
  rcases h with ⟨h, -⟩ | ⟨g', cap', cur, fz, h1, h2, h3, h4, h5, h6, h7, h8⟩
  · cases h
  · simp only [Value.slice.injEq, Option.some.injEq, Addr.mk.injEq, and_true, true_and] at h1
    obtain ⟨rfl, rfl⟩ := h1
    refine Or.inr ⟨g, cap, cur.setIfInBounds l.length (.int .u8 x), fz, by simp, h2, by rw [setCell_eq_setRow w g l.length cur 5 fz (.int .u8 x) h3]; exact setRow_heap w g cur _ 5 fz h3, h4, by simpa using hc, h6, by simpa using h7, ?_⟩
    rw [List.length_append, List.length_singleton, Array.toList_setIfInBounds, List.take_add_one, List.take_set_of_le (Nat.le_refl _), h8]
    have hlt : l.length < cur.toList.length := by have e7 : cur.toList.length = cur.size := Array.length_toList; omega
    rw [List.getElem?_set_self hlt]
    simp [ubW]
theorem gappY {ops : Array Oper} {rest : List Oper} {o : Oper} {a : Act} {Q : Exit → Act → World → Prop} {w : World} (hgd : o.guard = none) (s x : Operand)
    (ho : o.op = .call { callee := .builtin .append, args := #[s, x], argTypes := #[22, 22] }) (base : Nat) (v : Value) (l : List Int) (hs : a.eval s = v) (hown : OwY w base v l)
    (b : Nat) (y : Int) (hx : a.eval x = .slice (some ⟨b, 0, none⟩) 1 1) (hblk : BlkK w b #[.int .u8 y] 5) (hlen : l.length ≤ 100000000) (hbase : base ≤ w.heap.size)
    (h : ∀ v' w', OwY w' base v' (l ++ [y]) → Fr (fun k => v.ownBlock = some k) w w' → (v'.ownBlock = v.ownBlock ∨ OwY w' w.heap.size v' (l ++ [y])) → wpList Tryd.prog ops Q rest (a.put o.dst v') w') : wpList Tryd.prog ops Q (o :: rest) a w := by
  obtain ⟨i, hi, h0', h1, h2⟩ := infoW Tryd.infoU8W
  have hsrc : ∀ (j : Nat) u, [Value.int .u8 y][j]? = some u → w.cell? ((⟨b, 0, none⟩ : Addr).add j) = some u := fun j u hj => World.news_of_block (cs := #[.int .u8 y]) (t := 5) (fr := (0, 0)) hblk j u (by simpa using hj)
  rcases hown with ⟨rfl, rfl⟩ | ⟨g, cap, cur, fz, rfl, hb, hg, hf, hn, hc, hz, ht⟩
  · refine gappW Tryd.underlying22 Tryd.infoU8W rfl (by omega) hgd s x ho base (.slice none 0 0) 0 [] hs (World.ownsRow_nil _ _ _ _) (.slice (some ⟨b, 0, none⟩) 1 1) 1 [.int .u8 y] hx (Or.inr ⟨_, _, rfl, rfl, hsrc⟩) (by simp [Value.oneCell']) (by omega) (by omega) hbase fun v' w' r1 r2 r3 => ?_
    refine h v' w' (OwW.y (l := [y]) r1) (Fr.grown r2 fun k hk => hk) ?_
    rcases r3 with r3 | r3
    · exact Or.inl r3
    · refine Or.inr ?_
      rcases OwW.y (l := [y]) r1 with ⟨-, hl⟩ | ⟨g, cap, cur, fz, rfl, hb, hg, rest⟩
      · cases hl
      · simp only [Value.ownBlock, Option.some.injEq] at r3
        exact Or.inr ⟨g, cap, cur, fz, rfl, by omega, hg, rest⟩
  · have holds : ∀ (j : Nat) u, (ubW l)[j]? = some u → w.cell? ⟨g, 0 + j, none⟩ = some u := fun j u hj => by
      unfold World.cell?
      simp only
      rw [hg]
      simp only [Nat.zero_add]
      rw [← ht] at hj
      rw [List.getElem?_take] at hj
      split at hj
      · rw [← Array.getElem?_toList]; exact hj
      · cases hj
    refine wpList_append_arg w hgd s x 22 ho 5 i (.int .u8 0) 1 1 Tryd.underlying22 hi h0' h1 h2 rfl (by omega) g 0 l.length cap (ubW l) hs (by rw [ubW_len, Nat.mul_one]) holds ⟨b, 0, none⟩ 1 1 [.int .u8 y] hx rfl hsrc (by simp [Value.oneCell']) (fun hr j hj => ?_) (by unfold maxLen; omega) (by omega) (fun hr => ?_) fun hr v' w' r1 r2 => ?_
    · have hj0 : j = 0 := by simpa using hj
      subst hj0
      have hlt : l.length < cur.size := by omega
      constructor
      · unfold World.cell?
        simp only
        rw [hg]
        simp [hlt]
      · unfold World.frozen?
        simp only
        rw [hg]
        rcases hf with rfl | rfl
        · simp
        · simp; omega
    · have hm := OwY.more (x := y) (show OwY w base (.slice (some ⟨g, 0, none⟩) l.length cap) l from Or.inr ⟨g, cap, cur, fz, rfl, hb, hg, hf, hn, hc, hz, ht⟩) hr
      have e : w.setCells g (0 + l.length * 1) [.int .u8 y] = w.setCell ⟨g, l.length, none⟩ (.int .u8 y) := by
        rw [Nat.zero_add, Nat.mul_one]; rfl
      rw [e]
      exact h _ _ hm ((Fr.refl _ w).set (Or.inl rfl)) (Or.inl rfl)
    · have hy : OwY w' w.heap.size v' (l ++ [y]) := OwW.y (by
        unfold OwW
        rw [List.length_append, ubW_app]
        exact r1)
      exact h v' w' (hy.mono hbase) (Fr.grown r2 fun k hk => by cases hk) (Or.inr hy)
theorem OwY.lt {w : World} {base k : Nat} {v : Value} {l : List Int} (h : OwY w base v l) (hk : v.ownBlock = some k) : base ≤ k ∧ k < w.heap.size := by
  rcases h with ⟨rfl, -⟩ | ⟨g, cap, cur, fz, rfl, hb, hg, -⟩
  · cases hk
  · simp only [Value.ownBlock, Option.some.injEq] at hk
    subst hk
    exact ⟨hb, (Array.getElem?_eq_some_iff.1 hg).1⟩
theorem OwY.fm {w : World} {base : Nat} {v : Value} {l : List Int} (h : OwY w base v l) : ∃ a c, v = .slice a l.length c := by
  rcases h with ⟨rfl, rfl⟩ | ⟨g, cap, cur, fz, rfl, -⟩
  · exact ⟨none, 0, rfl⟩
  · exact ⟨_, _, rfl⟩
end Go.Proofs.YtdfdnjkeiddfjaaDoor
/-
  script (stage 25): PLAIN: the longest line.
-/
namespace Go.Proofs.YtdfdnjkeiddfjaaDoor
open Go.RowKit

/-- Letters from a to c. -/
def AbS (l : List Int) : Prop := ∀ x ∈ l, 97 ≤ x ∧ x ≤ 99
theorem map_at (t : ByteArray) : (List.range t.size).map (atK_ t) = blK t := by
  refine List.ext_getElem (by rw [List.length_map, List.length_range, bl_len]) fun i h1 h2 => ?_
  rw [bl_len] at h2
  simp only [List.getElem_map, List.getElem_range]
  have := bl_drop h2
  rw [List.drop_eq_getElem_cons (by rw [bl_len]; exact h2)] at this
  exact (List.cons.inj this).1.symm
theorem qt_ab {t : ByteArray} (h : AbS (blK t)) : blK (qtB t) = 34 :: (blK t ++ [34]) := by
  have e1 : qtl t t.size = 34 :: blK t := by
    unfold qtl
    have : (List.range t.size).flatMap (fun i => qb (atK_ t i)) = (List.range t.size).map (atK_ t) := by
      rw [List.map_eq_flatMap]
      have hx : ∀ i ∈ List.range t.size, qb (atK_ t i) = [atK_ t i] := fun i hi => by
        have hm : atK_ t i ∈ blK t := by
          rw [← map_at t]
          exact List.mem_map.2 ⟨i, hi, rfl⟩
        have h2 := h _ hm
        unfold qb
        rw [if_neg (by omega), if_neg (by omega), if_neg (by omega), if_pos (by omega)]
      rw [List.flatMap_def, List.flatMap_def]
      exact congrArg _ (List.map_congr_left hx)
    rw [this, map_at]
  have hb : byt (34 :: blK t ++ [34]) := fun x hx => by
    simp only [List.cons_append, List.mem_cons, List.mem_append, List.not_mem_nil, or_false] at hx
    rcases hx with rfl | hx | rfl
    · decide
    · exact bl_byt t x hx
    · decide
  show blK (ofL (qtl t t.size ++ [34])) = _
  rw [e1, bl_ofL hb]
  rfl
def fgD : SdO := ⟨21, ⟨#[]⟩, ⟨#[]⟩, ⟨#[]⟩, 0, 0, 0⟩
theorem fg_ok {t : ByteArray} (h : t.size ≤ 2000000) : OkS fgD t := ⟨by decide, by decide, by decide, h, by unfold N64S; decide, by unfold N64S; decide, by unfold N64S; decide, by unfold N64S; decide⟩
theorem fg_cl (t : ByteArray) : ClS (rwS.getD 20 zrS).p fgD t := ⟨Or.inl rfl, Or.inl rfl, Or.inl rfl, Or.inr (by decide), Or.inl rfl, Or.inl rfl, Or.inl rfl⟩
theorem fg_st (t : ByteArray) : stL fgD t 20 = ((⟨#[102, 111, 114, 103, 101]⟩ : ByteArray) ++ (⟨#[32]⟩ : ByteArray)) ++ qtB t := rfl
theorem fg_size (t : ByteArray) : (stL fgD t 20).size = 6 + (qtB t).size := by
  rw [fg_st]
  simp only [ByteArray.size_append]
  rfl
/-- forge and its text. -/
def fgL (t : ByteArray) : ByteArray := ((⟨#[102, 111, 114, 103, 101, 32, 34]⟩ : ByteArray) ++ t) ++ (⟨#[34]⟩ : ByteArray)
theorem bl_inj {s t : ByteArray} (h : blK s = blK t) : s = t := by rw [← ofL_bl s, ← ofL_bl t, h]
theorem fg_eq {t : ByteArray} (h : AbS (blK t)) : stL fgD t 20 = fgL t := by
  apply bl_inj
  rw [fg_st]
  unfold fgL
  rw [bl_append, bl_append, bl_append, bl_append, qt_ab h]
  show [102, 111, 114, 103, 101] ++ [32] ++ 34 :: (blK t ++ [34]) = [102, 111, 114, 103, 101, 32, 34] ++ blK t ++ [34]
  simp
theorem fgL_size (t : ByteArray) : (fgL t).size = t.size + 8 := by
  unfold fgL
  simp only [ByteArray.size_append]
  have : (⟨#[102, 111, 114, 103, 101, 32, 34]⟩ : ByteArray).size = 7 := rfl
  have : (⟨#[34]⟩ : ByteArray).size = 1 := rfl
  omega
theorem fg_pr {t : ByteArray} (h : AbS (blK t)) (hz : t.size ≤ 65528) : prS fgD t = some (fgL t) := by
  rw [pr_of (i := 20) (by omega) rfl (fg_cl t)]
  have e : joS fgD t (blK (rwS.getD 20 zrS).p) (rwS.getD 20 zrS).x = fgL t := fg_eq h
  rw [e, if_pos (by rw [fgL_size]; omega)]
theorem fg_rd {t : ByteArray} (h : AbS (blK t)) (hz : t.size ≤ 65528) : rdS (fgL t) = ⟨fgD, t, 0, 0⟩ := rd_pr (fg_ok (by omega)) (fg_pr h hz)
theorem fg_long {t : ByteArray} (hz : 65529 ≤ t.size) : prS fgD t = none := by
  rw [pr_of (i := 20) (by omega) rfl (fg_cl t)]
  have h1 := fg_size t
  have h2 := qt_ge t
  unfold stL at h1
  rw [if_neg (by omega)]
theorem rd_long {s : ByteArray} (h : 65536 < s.size) : rdS s = noS 251 0 := if_pos h
end Go.Proofs.YtdfdnjkeiddfjaaDoor

/-
  wire: Waiting.
-/
import Derived.Test.YtboomeeipnfbmaaWQ8
namespace Go.Proofs.Ytboomeeipnfbmaa
open Go.RowKit
attribute [local go_sem ↓] Go.wp_at_zero Go.wp_at_succ

theorem mk_msgsW (k : Nat) (hk : k ≤ 4096) (w : World) : ∃ R : List Value, R.length = k * 2 ∧ (Instr.makeSlice 43 (.int .i64 (k : Int)) (.int .i64 (k : Int))).run Try.prog w = .ok (.slice (some ⟨w.heap.size, 0, none⟩) k k) (w.alloc (.cells R.toArray 57)) := by
  obtain ⟨i, hi, h0, h1, h2⟩ := infoW Try.infoMsgW
  have h := run_make (P := Try.prog) w 43 57 i _ Try.underlying43 hi h0 .i64 .i64 k k (by omega) (by omega) (by rw [h2]; omega) (by omega)
  rw [h1] at h
  refine ⟨(madeCells (Value.agg #[.int .i64 0, .slice none 0 0]).cells (Int.toNat (k : Int) * 2)).toList, by rw [Array.length_toList, size_madeCells, Int.toNat_natCast], ?_⟩
  rw [h]
  simp
/-- The row that Waiting makes, as far as it is made. -/
structure OqW (base G M : Nat) (w : World) (Q : List (MsW × Value)) : Prop where
  g : base ≤ G
  b : ∃ R : List Value, Bk w G (twoW (Q.map zcW) ++ R).toArray 57 ∧ Q.length * 2 + R.length = M * 2
  u : ∀ q ∈ Q, OwW w base q.2 q.1.b ∧ q.2.ownBlock ≠ some G
  d : ∀ (i j : Nat) (y z : MsW × Value) (x : Nat), Q[i]? = some y → Q[j]? = some z → y.2.ownBlock = some x → z.2.ownBlock = some x → i = j
theorem OqW.below {base G M : Nat} {w w' : World} {Q : List (MsW × Value)} (h : OqW base G M w Q) (hb : Below w.heap.size w w') : OqW base G M w' Q := by
  obtain ⟨R, hR, hl⟩ := h.b
  exact ⟨h.g, ⟨R, hR.below hb, hl⟩, fun q hq => ⟨row7_below (h.u q hq).1 hb, (h.u q hq).2⟩, h.d⟩
theorem OqW.push {base G M : Nat} {w : World} {Q : List (MsW × Value)} (h : OqW base G M w Q) {k : Nat} (hk : Q.length = k) (hlt : k < M) {q : MsW × Value} (hq : OwW w base q.2 q.1.b) (hn : ∀ x, q.2.ownBlock = some x → x ≠ G ∧ ∀ r ∈ Q, r.2.ownBlock ≠ some x) :
    OqW base G M ((w.setCell ⟨G, k * 2, none⟩ (.int .i64 (q.1.n : Int))).setCell ⟨G, k * 2 + 1, none⟩ q.2) (Q ++ [q]) := by
  subst hk
  obtain ⟨R, hR, hl⟩ := h.b
  have hfr : Fr (fun b => b = G) w ((w.setCell ⟨G, Q.length * 2, none⟩ (.int .i64 (q.1.n : Int))).setCell ⟨G, Q.length * 2 + 1, none⟩ q.2) := ((Fr.refl (fun b => b = G) w).set (Or.inl rfl)).set (Or.inl rfl)
  refine ⟨h.g, ?_, fun r hr => ?_, fun i j y z x hi hj h1 h2 => ?_⟩
  · match R, hl, hR with
    | [], hl, hR => simp only [List.length_nil] at hl; omega
    | [a], hl, hR => simp only [List.length_cons, List.length_nil] at hl; omega
    | a :: b :: R', hl, hR =>
      refine ⟨R', ?_, by simp only [List.length_append, List.length_nil, List.length_cons] at hl ⊢; omega⟩
      have h1 := (hR.set (Q.length * 2) (.int .i64 (q.1.n : Int))).set (Q.length * 2 + 1) q.2
      have hL : (twoW (Q.map zcW)).length = Q.length * 2 := by rw [twoW_len, List.length_map]
      have e : ((twoW (Q.map zcW) ++ a :: b :: R').toArray.setIfInBounds (Q.length * 2) (.int .i64 (q.1.n : Int))).setIfInBounds (Q.length * 2 + 1) q.2 = (twoW ((Q ++ [q]).map zcW) ++ R').toArray := by
        rw [List.setIfInBounds_toArray, List.setIfInBounds_toArray, List.set_append_right _ _ (by omega), List.set_append_right _ _ (by omega), hL, Nat.sub_self, show Q.length * 2 + 1 - Q.length * 2 = 1 by omega, List.map_append, twoW_app, List.append_assoc]
        rfl
      rw [e] at h1
      exact h1
  · rcases List.mem_append.1 hr with hr | hr
    · exact ⟨row7_fr (h.u r hr).1 hfr fun x hx e => (h.u r hr).2 (by rw [hx, e]), (h.u r hr).2⟩
    · rw [List.mem_singleton] at hr
      subst hr
      exact ⟨row7_fr hq hfr fun x hx e => (hn x hx).1 e, fun e => (hn G e).1 rfl⟩
  · rw [List.getElem?_append] at hi hj
    split at hi <;> split at hj
    · exact h.d i j y z x hi hj h1 h2
    · have e := List.mem_of_getElem? hj
      rw [List.mem_singleton] at e
      subst e
      exact absurd h1 ((hn x h2).2 y (List.mem_of_getElem? hi))
    · have e := List.mem_of_getElem? hi
      rw [List.mem_singleton] at e
      subst e
      exact absurd h2 ((hn x h1).2 z (List.mem_of_getElem? hj))
    · have l1 := (List.getElem?_eq_some_iff.1 hi).1
      have l2 := (List.getElem?_eq_some_iff.1 hj).1
      simp only [List.length_singleton] at l1 l2
      omega
set_option maxRecDepth 20000 in
set_option maxHeartbeats 4000000 in
theorem ywait_any {B : Nat} {T : Nat → Prop} {v : Value} {s : WrW} {Y : World} (h : WyW B T v s Y) :
    Calls Try.prog 22 #[v] Y fun e Y' => ∃ (G : Nat) (Q : List (MsW × Value)), e = .returned (.slice (some ⟨G, 0, none⟩) s.row.length s.row.length) ∧ Q.map Prod.fst = s.row ∧ OqW Y.heap.size G s.row.length Y' Q ∧ Below Y.heap.size Y Y' := by
  obtain ⟨g, Z, rv, rfl, h⟩ := h
  have H := hm7 h
  obtain ⟨aa, cap, hav, -⟩ := row7_form h.a
  have hzl := h.len
  obtain ⟨M, hM⟩ : ∃ M, s.row.length = M := ⟨_, rfl⟩
  rw [hM] at hzl ⊢
  rw [hzl] at hav
  have HM := hm7 hM
  have HZL := hm7 hzl
  subst hav
  have hb4 : M ≤ 4096 := by have := h.ok.r; have := h.ok.g; omega
  have c0 : Y.cell? ⟨g, 0, none⟩ = some (.slice aa M cap) := h.b.cell (i := 0) rfl
  obtain ⟨R, hR, hmk⟩ := mk_msgsW M hb4 Y
  have hx1 := h.below (below1 Y (.cells R.toArray 57))
  have c1 : (Y.alloc (.cells R.toArray 57)).cell? ⟨g, 0, none⟩ = some (.slice aa M cap) := hx1.b.cell (i := 0) rfl
  have HO1 : Hid (OqW Y.heap.size Y.heap.size M (Y.alloc (.cells R.toArray 57)) []) := ⟨Nat.le_refl _, ⟨R, by simpa [twoW] using Bk.new Y R.toArray 57, by simp; exact hR⟩, by simp, by simp⟩
  have HR := hm7 hR
  clear h hzl hx1 hM hR
  go_enter Try.func22, Try.ntmps22
  go_upto_region 3 with (fail)
  go_loopg [17, 4, 5] M (fun gg i _ _ wr => ∃ (j : Nat) (Q : List (MsW × Value)), j + gg = M ∧ i = .int .i64 j ∧ Q.map Prod.fst = s.row.take j ∧ OqW Y.heap.size Y.heap.size M wr Q ∧ Below Y.heap.size Y wr)
  case atStart => exact ⟨0, [], by omega, rfl, rfl, HO1.out, below1 _ _⟩
  case round =>
    obtain ⟨j, Q, hj, rfl, hQ, ho, hbr⟩ := hrel
    have HQ := hm7 hQ
    have HOQ := hm7 ho
    have HBR := hm7 hbr
    have hql : Q.length = j := by have := congrArg List.length hQ; rw [List.length_map, List.length_take] at this; have := HM.out; omega
    have HQL := hm7 hql
    clear hQ ho hbr hql
    cases gk with
    | zero =>
      have hlt : ¬ (j : Int) < (M : Int) := by omega
      go_wp2
      go_ret
      refine ⟨_, rfl, Q, ?_, HOQ.out, HBR.out⟩
      rw [HQ.out, List.take_of_length_le (by have := HM.out; omega)]
    | succ gg =>
      have hlt : (j : Int) < (M : Int) := by omega
      have j0 : (0 : Int) ≤ (j : Int) := by omega
      obtain ⟨q, hq⟩ : ∃ q, Z[j]? = some q := ⟨_, List.getElem?_eq_getElem (by have := HZL.out; omega)⟩
      have hh := H.out.below HBR.out
      obtain ⟨g', rfl, -, -, -, -, p0, p1, -, hrow⟩ := hh.at_ hq
      have hlu := hh.u q (List.mem_of_getElem? hq)
      obtain ⟨ua, uc, hu, -⟩ := hlu.form
      obtain ⟨N, hN⟩ : ∃ N, q.1.b.length = N := ⟨_, rfl⟩
      rw [hN] at hu
      rw [hu] at p1 hlu
      obtain ⟨x, hx⟩ : ∃ x : Int, (q.1.n : Int) = x := ⟨_, rfl⟩
      rw [hx] at p0
      have HXN := hm7 hx
      have HROW := hm7 hrow
      have HN := hm7 hN
      have hbl : q.1.b.length ≤ 1048576 := H.out.ok.l q.1 (List.mem_of_getElem? hrow)
      obtain ⟨A, hA⟩ : ∃ A, wr.heap.size = A := ⟨_, rfl⟩
      obtain ⟨Y4, hY4⟩ : ∃ Y4, wr.alloc (.cells #[.int .i64 x, .slice ua N uc] 57) = Y4 := ⟨_, rfl⟩
      have hb4' : Bk Y4 A #[.int .i64 x, .slice ua N uc] 57 := by rw [← hY4, ← hA]; exact Bk.new _ _ _
      have hbl4 : Below wr.heap.size wr Y4 := by rw [← hY4]; exact below1 wr _
      have s4 : Y4.heap.size = A + 1 := by rw [← hY4]; simp [hA]
      have d0 : Y4.cell? ⟨A, 0, none⟩ = some (.int .i64 x) := hb4'.cell (i := 0) rfl
      have d1 : Y4.cell? ⟨A, 1, none⟩ = some (.slice ua N uc) := hb4'.cell (i := 1) rfl
      have HC := hm7 (copiedW_any (w := Y4.drew) ((hlu.below hbl4).below ⟨rfl, rfl, rfl, Nat.le_refl _, fun _ _ => rfl⟩) (by omega))
      have HOQ4 := hm7 (HOQ.out.below hbl4)
      have HB4 := hm7 hbl4
      have HB4' := hm7 hb4'
      have HS4 := hm7 s4
      have HAA := hm7 hA
      have HY4 := hm7 hY4
      clear hq hh hlu hu hN hx hrow hbl hb4' hbl4 s4
      go_upto_region 5 with (fail)
      try rw [HY4.out]
      clear hY4
      have hGA : Y.heap.size < A := by
        obtain ⟨R, hR, -⟩ := HOQ.out.b
        have := hR.lt
        omega
      obtain ⟨RR, hRR, hRl⟩ := HOQ4.out.b
      have hRR2 : ∀ (k : Nat), k < M * 2 → ∃ u, Y4.cell? ⟨Y.heap.size, k, none⟩ = some u := fun k hk => by
        refine ⟨_, hRR.cell (i := k) (List.getElem?_toArray ▸ List.getElem?_eq_getElem ?_)⟩
        rw [List.length_append, twoW_len, List.length_map]
        omega
      obtain ⟨z0, f0⟩ := hRR2 (j * 2) (by omega)
      obtain ⟨z1, f1⟩ := hRR2 (j * 2 + 1) (by omega)
      have ff := fun k => hRR.froz k
      clear hRR hRl hRR2
      go_region_held3 (fun w' => w'.cell? ⟨A, 0, none⟩ = some (.int .i64 x) ∧ w'.cell? ⟨A, 1, none⟩ = some (.slice ua N uc)) (first | exact ⟨d0, d1⟩ | exact ⟨d0', d1'⟩ | exact ⟨d1'' _ _ _ _, e1'' _ _ _ _⟩ | exact ⟨d0'' _ _, e0'' _ _⟩)
        ((go_at_call 29; refine HC.out.mono ?_; rintro e Y5 ⟨uv, rfl, hu5, hb5⟩; obtain ⟨ra, rc, rfl, -⟩ := row7_form hu5; have d0' : Y5.cell? ⟨A, 0, none⟩ = some (.int .i64 x) := (hb5.cell (p := ⟨A, 0, none⟩) (by show A < Y4.heap.size; have := HS4.out; omega)).trans d0; have d1' : Y5.cell? ⟨A, 1, none⟩ = some (.slice ua N uc) := (hb5.cell (p := ⟨A, 1, none⟩) (by show A < Y4.heap.size; have := HS4.out; omega)).trans d1; have e0'' : ∀ k v, (Y5.setCell ⟨Y.heap.size, k, none⟩ v).cell? ⟨A, 1, none⟩ = some (.slice ua N uc) := fun k v => by {rw [World.cell?_setCell_far _ _ _ _ (by simp; omega)]; exact d1'}; have e1'' : ∀ k v k2 v2, ((Y5.setCell ⟨Y.heap.size, k, none⟩ v).setCell ⟨Y.heap.size, k2, none⟩ v2).cell? ⟨A, 1, none⟩ = some (.slice ua N uc) := fun k v k2 v2 => by {rw [World.cell?_setCell_far _ _ _ _ (by simp; omega)]; exact e0'' k v}; have f0' : Y5.cell? ⟨Y.heap.size, j * 2, none⟩ = some z0 := (hb5.cell (p := ⟨Y.heap.size, j * 2, none⟩) (by show Y.heap.size < Y4.heap.size; have := HS4.out; omega)).trans f0; have f1' : Y5.cell? ⟨Y.heap.size, j * 2 + 1, none⟩ = some z1 := (hb5.cell (p := ⟨Y.heap.size, j * 2 + 1, none⟩) (by show Y.heap.size < Y4.heap.size; have := HS4.out; omega)).trans f1; have ff' : ∀ k, Y5.frozen? ⟨Y.heap.size, k, none⟩ = false := fun k => (hb5.frozen (p := ⟨Y.heap.size, k, none⟩) (by show Y.heap.size < Y4.heap.size; have := HS4.out; omega)).trans (ff k); have d0'' : ∀ k v, (Y5.setCell ⟨Y.heap.size, k, none⟩ v).cell? ⟨A, 0, none⟩ = some (.int .i64 x) := fun k v => by {rw [World.cell?_setCell_far _ _ _ _ (by simp; omega)]; exact d0'}; have d1'' : ∀ k v k2 v2, ((Y5.setCell ⟨Y.heap.size, k, none⟩ v).setCell ⟨Y.heap.size, k2, none⟩ v2).cell? ⟨A, 0, none⟩ = some (.int .i64 x) := fun k v k2 v2 => by {rw [World.cell?_setCell_far _ _ _ _ (by simp; omega)]; exact d0'' k v}; have HU5 := hm7 hu5; have HB5 := hm7 hb5; clear hu5 hb5))
      go_wp2
      have hY5 : Below Y4.heap.size Y4 Y5 := ⟨HB5.out.os, HB5.out.tape, HB5.out.output, HB5.out.size, HB5.out.block⟩
      have HY5 := hm7 hY5
      have hu6 : OwW Y5 Y4.heap.size (.slice ra q.1.b.length rc) q.1.b := HU5.out
      have hle4 : Y.heap.size ≤ Y4.heap.size := by have := HS4.out; omega
      have h6 := (HOQ4.out.below hY5).push HQL.out (by omega) (q := (q.1, .slice ra q.1.b.length rc)) (own_base hu6 hle4) (fun y hy => ⟨fun e => by
        have := (World.ownsRow.lt hu6 y hy).1
        have := HS4.out
        omega, fun r hr e => by
        have h1 := (World.ownsRow.lt hu6 y hy).1
        have h2 := (World.ownsRow.lt (HOQ4.out.u r hr).1 y e).2
        omega⟩)
      have h7 : Below Y.heap.size Y Y5 := bel_step (bel_step HBR.out HB4.out) hY5
      have HH6 := hm7 h6
      have HH7 := hm7 h7
      rw [HXN.out] at HH6
      clear h6 h7 hu6 hY5
      go_roundg gg
      case measure => omega
      case rel =>
        refine ⟨j + 1, Q ++ [(q.1, .slice ra q.1.b.length rc)], by omega, by go_num, ?_, HH6.out, (HH7.out.setCell (p := ⟨Y.heap.size, _, none⟩) (Nat.le_refl _) _).setCell (p := ⟨Y.heap.size, _, none⟩) (Nat.le_refl _) _⟩
        rw [List.map_append, HQ.out, List.take_add_one, HROW.out]
        rfl
end Go.Proofs.Ytboomeeipnfbmaa

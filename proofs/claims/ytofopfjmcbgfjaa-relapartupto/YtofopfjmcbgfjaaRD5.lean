/-
  ref 7: Turn.
-/
import Derived.Test.YtofopfjmcbgfjaaRD4
import Derived.Test.YtofopfjmcbgfjaaRA7
namespace Go.Proofs.Ytofopfjmcbgfjaa
open Go.RowKit
attribute [local go_sem ↓] Go.wp_at_zero Go.wp_at_succ

theorem row7_put {w : World} {base m cap i g : Nat} {e : TypeId} {xs : List Value} (h : w.ownsRow base e 1 (.slice (some ⟨g, 0, none⟩) m cap) m xs) (v : Value) : (w.setCell ⟨g, i, none⟩ v).ownsRow base e 1 (.slice (some ⟨g, 0, none⟩) m cap) m (xs.set i v) := by
  refine ⟨by rw [List.length_set]; exact h.1, ?_⟩
  rcases h.2 with ⟨hv, hn⟩ | ⟨g', cap', cur, hv, hb, hg, hn, hc, hs, ht⟩
  · cases hv
  · simp only [Value.slice.injEq, Option.some.injEq, Addr.mk.injEq, true_and, and_true] at hv
    obtain ⟨rfl, rfl⟩ := hv
    refine Or.inr ⟨g, cap, cur.setIfInBounds i v, rfl, hb, Bk.set hg i v, hn, hc, by rw [Array.size_setIfInBounds]; exact hs, ?_⟩
    rw [Array.toList_setIfInBounds, List.take_set, ht]
theorem part7_in {s : St7} (ho : s.Ok) {r : List Int} (h : r ∈ s.rows) : (part7 s r = 1 ∧ part7 (Turn7 s) r = 1) ∨ (part7 s r = 2 ∧ part7 (Turn7 s) r = 1) ∨ (part7 s r = 4 ∧ part7 (Turn7 s) r = 2) := by
  obtain ⟨i, hi⟩ := List.getElem?_of_mem h
  have hil := (List.getElem?_eq_some_iff.1 hi).1
  have hx := txi_at ho hi
  have h1 := ho.a
  have e1 : part7 s r = if i < s.nf then 1 else if i < s.xf then 2 else 4 := part7_at ho hi
  have e2 : part7 (Turn7 s) r = if i < s.xf then 1 else if i < s.rows.length then 2 else 4 := by
    unfold part7
    rw [show (Turn7 s).rows = s.rows from rfl, hx]
    rfl
  rw [e1, e2]
  by_cases a : i < s.nf
  · left; rw [if_pos a, if_pos (by omega)]; exact ⟨rfl, rfl⟩
  · by_cases b : i < s.xf
    · right; left; rw [if_neg a, if_pos b, if_pos b]; exact ⟨rfl, rfl⟩
    · right; right; rw [if_neg a, if_neg b, if_neg b, if_pos hil]; exact ⟨rfl, rfl⟩
theorem four7 {s : St7} (ho : s.Ok) : (((srt7 s.rows).countP fun r => decide (part7 s r = 4) : Nat) : Int) = (s.rows.length : Int) - (s.xf : Int) := by
  have ha := ho.a
  have hb := ho.b
  rw [(srt7_perm s.rows).countP_eq]
  have e : s.rows.countP (fun r => decide (part7 s r = 4)) = (s.rows.take s.xf ++ s.rows.drop s.xf).countP (fun r => decide (part7 s r = 4)) := by rw [List.take_append_drop]
  rw [e, List.countP_append]
  have h1 : (s.rows.take s.xf).countP (fun r => decide (part7 s r = 4)) = 0 := by
    rw [List.countP_eq_zero]
    intro r hr
    obtain ⟨i, hi⟩ := List.getElem?_of_mem hr
    have hl := (List.getElem?_eq_some_iff.1 hi).1
    rw [List.length_take] at hl
    rw [List.getElem?_take_of_lt (by omega)] at hi
    rw [part7_at ho hi, if_pos (show i < s.xf by omega)]
    split <;> simp
  have h2 : (s.rows.drop s.xf).countP (fun r => decide (part7 s r = 4)) = (s.rows.drop s.xf).length := by
    rw [List.countP_eq_length]
    intro r hr
    obtain ⟨i, hi⟩ := List.getElem?_of_mem hr
    rw [List.getElem?_drop] at hi
    rw [part7_at ho hi, if_neg (by omega), if_neg (by omega)]
    rfl
  rw [h1, h2, List.length_drop]
  omega
/-- The parts while Turn walks over them. -/
def tl7 (s : St7) (j : Nat) : List Int := ((srt7 s.rows).take j).map (part7 (Turn7 s)) ++ ((srt7 s.rows).drop j).map (part7 s)
theorem tl7_len (s : St7) (j : Nat) : (tl7 s j).length = (srt7 s.rows).length := by
  unfold tl7
  rw [List.length_append, List.length_map, List.length_map, ← List.length_append, List.take_append_drop]
theorem tl7_at {s : St7} {j : Nat} {r : List Int} (h : (srt7 s.rows)[j]? = some r) : (tl7 s j)[j]? = some (part7 s r) := by
  have hl := (List.getElem?_eq_some_iff.1 h).1
  unfold tl7
  rw [List.getElem?_append_right (by rw [List.length_map, List.length_take]; omega), List.length_map, List.length_take, Nat.min_eq_left (by omega), Nat.sub_self, List.getElem?_map, List.getElem?_drop, Nat.add_zero, h]
  rfl
theorem set_self7 {α : Type} {L : List α} {j : Nat} {x : α} (h : L[j]? = some x) : L.set j x = L := by
  obtain ⟨hl, rfl⟩ := List.getElem?_eq_some_iff.1 h
  exact List.set_getElem_self hl
theorem dropc7 {α : Type} {L : List α} {j : Nat} {x : α} (h : L[j]? = some x) : L.drop j = x :: L.drop (j + 1) := by
  obtain ⟨hl, rfl⟩ := List.getElem?_eq_some_iff.1 h
  exact List.drop_eq_getElem_cons hl
theorem tl7_next {s : St7} {j : Nat} {r : List Int} (h : (srt7 s.rows)[j]? = some r) : tl7 s (j + 1) = (tl7 s j).set j (part7 (Turn7 s) r) := by
  have hl := (List.getElem?_eq_some_iff.1 h).1
  have e : (((srt7 s.rows).take j).map (part7 (Turn7 s))).length = j := by rw [List.length_map, List.length_take]; omega
  unfold tl7
  rw [List.set_append_right _ _ (by omega), e, Nat.sub_self, dropc7 h, take_next7 h, List.map_append, List.append_assoc]
  rfl
theorem Turn7.ok {s : St7} (h : s.Ok) : (Turn7 s).Ok := ⟨h.nd, h.wid, h.w, h.b, Nat.le_refl _, h.c, h.d, h.e⟩
theorem RRx.apart {w : World} {T : Nat → Prop} {g : Nat} {s : St7} {av iv : Value} {Q : List (List Int × Value)} {Y : World} (h : RRx w T g s av iv Q Y) {b : Nat} (hb : iv.ownBlock = some b) : b ≠ g ∧ av.ownBlock ≠ some b := by
  obtain ⟨c, hc⟩ := row7_blk h.i hb
  constructor
  · rintro rfl
    exact absurd (hc.ty h.b) (by decide)
  · intro ha
    obtain ⟨c', hc'⟩ := row7_blk h.a ha
    exact absurd (hc.ty hc') (by decide)
/-- Only the parts were written. -/
theorem RRx.turned {w : World} {T : Nat → Prop} {g : Nat} {s : St7} {av iv : Value} {Q : List (List Int × Value)} {Y Y' : World} (h : RRx w T g s av iv Q Y) (hf : Fr (fun b => iv.ownBlock = some b) Y Y') (hi : OwI Y' w.heap.size iv ((srt7 s.rows).map (part7 (Turn7 s)))) : RRx w T g (Turn7 s) av iv Q Y' := by
  refine ⟨Turn7.ok h.ok, h.b.same (hf.block g h.b.lt fun e => (h.apart e).1 rfl), row7 h.a fun b hb => hf.block b (h.a.lt b hb).2 fun e => (h.apart e).2 hb, hi, h.p, fun p hp => (h.r p hp).same hf.size fun b hb hl => hf.block b hl hb.2.2, h.ta, h.ti, h.tg, fun b hb => ⟨(h.t b hb).1, Nat.lt_of_lt_of_le (h.t b hb).2 hf.size⟩, h.be.trans (Fr.low (Fr.mono hf (Q := fun b => w.heap.size ≤ b) fun b _ hb => (World.ownsRow.lt h.i b hb).1) h.be.size)⟩
set_option maxRecDepth 20000 in
set_option maxHeartbeats 2000000 in
theorem rturn7_any (w : World) (T : Nat → Prop) (g : Nat) (s : St7) (Y : World) (h : RR w T g s Y) :
    Calls Try.prog 52 #[.pointer (some ⟨g, 0, none⟩)] Y fun e Y' => e = .returned (.int .i64 ((s.rows.length : Int) - (s.xf : Int))) ∧ RPX w T g (Turn7 s) Y Y' := by
  obtain ⟨av, iv, P, h⟩ := h
  have H := hm7 h
  obtain ⟨ia, ic, hi, -⟩ := row7_form h.i
  obtain ⟨n, hin⟩ : ∃ n, (srt7 s.rows).length = n := ⟨_, rfl⟩
  rw [List.length_map, hin] at hi
  subst hi
  have hnb : n ≤ 10000000000 := by
    have h1 := h.ok.c
    rw [← (srt7_perm _).length_eq] at h1
    omega
  have HIN := hm7 hin
  have H4 := hm7 (four7 h.ok)
  clear h hin
  go_enter Try.func52, Try.ntmps52
  go_wp2
  go_loopg [3, 4] n (fun gg c i wr => ∃ j cn : Nat, j + gg = n ∧ i = .int .i64 j ∧ c = .int .i64 cn ∧ cn = ((srt7 s.rows).take j).countP (fun r => decide (part7 s r = 4)) ∧ Fr (fun b => (Value.slice ia n ic).ownBlock = some b) Y wr ∧ OwI wr w.heap.size (.slice ia n ic) (tl7 s j))
  case atStart => exact ⟨0, 0, by omega, rfl, rfl, rfl, Fr.refl _ _, by have := H.out.i; exact this⟩
  case round =>
    obtain ⟨j, cn, hj, rfl, rfl, hcn, hf, ho⟩ := hrel
    have c2 : wr.cell? ⟨g, 2, none⟩ = some (.slice ia n ic) := (three7 (H.out.b.same (hf.block g H.out.b.lt fun e => (H.out.apart e).1 rfl))).2.2
    have HF := hm7 hf
    have HO := hm7 ho
    have HCN := hm7 hcn
    have hcj : cn ≤ j := by rw [hcn]; exact Nat.le_trans List.countP_le_length (by rw [List.length_take]; omega)
    clear hf ho hcn
    cases gk with
    | succ gg =>
      have hlt : (j : Int) < (n : Int) := by omega
      have j0 : (0 : Int) ≤ (j : Int) := by omega
      obtain ⟨r, hr⟩ : ∃ r, (srt7 s.rows)[j]? = some r := ⟨_, List.getElem?_eq_getElem (by have := HIN.out; omega)⟩
      obtain ⟨b2, rfl, -, hbl, q0, q1⟩ := row7_at (by have := HO.out; unfold OwI at this; rw [tl7_len, HIN.out] at this; exact this) (i := j) (u := .int .i64 (part7 s r)) (by simp only [ibs7, List.getElem?_map, tl7_at hr]; rfl)
      have HTN := hm7 (tl7_next hr)
      have HTA := hm7 (tl7_at hr)
      have HCT : Hid (((srt7 s.rows).take (j + 1)).countP (fun r => decide (part7 s r = 4)) = cn + if part7 s r = 4 then 1 else 0) := by
        show _ = _
        rw [take_next7 hr, List.countP_append, ← HCN.out]
        congr 1
        by_cases h : part7 s r = 4 <;> simp [h]
      have hm := (srt7_perm _).mem_iff.1 (List.mem_of_getElem? hr)
      have hpp := part7_in H.out.ok hm
      clear hr hm
      have HSET : ∀ x : Int, Hid (OwI (wr.setCell ⟨b2, j, none⟩ (.int .i64 x)) w.heap.size (.slice (some ⟨b2, 0, none⟩) n ic) ((tl7 s j).set j x)) := fun x => by
        have := HO.out
        show OwI _ _ _ _
        unfold OwI at this ⊢
        rw [List.length_set, tl7_len, HIN.out, ibs7, List.map_set]
        rw [tl7_len, HIN.out] at this
        exact row7_put this _
      have HFS : ∀ x : Int, Hid (Fr (fun b => (Value.slice (some ⟨b2, 0, none⟩) n ic).ownBlock = some b) Y (wr.setCell ⟨b2, j, none⟩ (.int .i64 x))) := fun x => HF.out.set (Or.inl rfl)
      rcases hpp with ⟨e1, e2⟩ | ⟨e1, e2⟩ | ⟨e1, e2⟩
      · rw [e1] at q0 HCT HTA
        rw [e2] at HTN
        have HSN : Hid ((tl7 s j).set j 1 = tl7 s j) := set_self7 HTA.out
        clear HSET HFS e1 e2
        go_wp2
        go_roundg gg
        case measure => omega
        case rel => exact ⟨j + 1, cn, by omega, by go_num, rfl, by rw [HCT.out]; rfl, HF.out, by rw [HTN.out, HSN.out]; exact HO.out⟩
      · rw [e1] at q0 HCT
        rw [e2] at HTN
        have HS := HSET 1
        have HG := HFS 1
        clear HSET HFS e1 e2
        go_wp2
        go_roundg gg
        case measure => omega
        case rel => exact ⟨j + 1, cn, by omega, by go_num, rfl, by rw [HCT.out]; rfl, HG.out, by rw [HTN.out]; exact HS.out⟩
      · rw [e1] at q0 HCT
        rw [e2] at HTN
        have HS := HSET 2
        have HG := HFS 2
        clear HSET HFS e1 e2
        go_wp2
        go_roundg gg
        case measure => omega
        case rel => exact ⟨j + 1, cn + 1, by omega, by go_num, by go_num, by rw [HCT.out]; rfl, HG.out, by rw [HTN.out]; exact HS.out⟩
    | zero =>
      have hlt : ¬ (j : Int) < (n : Int) := by omega
      obtain rfl : j = n := by omega
      go_wp2
      go_ret
      refine ⟨?_, ?_⟩
      · rw [← H4.out, HCN.out, List.take_of_length_le (by have := HIN.out; omega)]; rfl
      · refine ⟨HF.out.mono fun b _ hb => H.out.ti b hb, T, ⟨av, _, P, H.out.turned HF.out ?_⟩, fun b hb => Or.inl hb⟩
        have := HO.out
        unfold tl7 at this
        rwa [List.take_of_length_le (by have := HIN.out; omega), List.drop_eq_nil_of_le (by have := HIN.out; omega), List.map_nil, List.append_nil] at this
end Go.Proofs.Ytofopfjmcbgfjaa

/-
  script (stage 25): Lines, the document's and the mock's.
-/
import Derived.Test.YtdfdnjkeiddfjaaDoorSC6
import Derived.Maps.AppendAt
import Derived.Laws.OwnMore
import Derived.Laws.AppendOwnNone
namespace Go.Proofs.YtdfdnjkeiddfjaaDoor
open Go.RowKit
attribute [local go_sem ↓] Go.wp_at_zero Go.wp_at_succ

theorem rowS {w w' : World} {base n m : Nat} {e : TypeId} {v : Value} {xs : List Value} (h : w.ownsRow base e n v m xs) (hs : ∀ g, v.ownBlock = some g → w'.heap[g]? = w.heap[g]?) : w'.ownsRow base e n v m xs := by
  refine ⟨h.1, ?_⟩
  rcases h.2 with hn | ⟨g, cap, cur, rfl, hbb, hg, rest⟩
  · exact Or.inl hn
  · exact Or.inr ⟨g, cap, cur, rfl, hbb, (hs g rfl).trans hg, rest⟩
theorem rowS_below {w w' : World} {base n m : Nat} {e : TypeId} {v : Value} {xs : List Value} (h : w.ownsRow base e n v m xs) (hb : Below w.heap.size w w') : w'.ownsRow base e n v m xs :=
  rowS h fun g hg => hb.block g (h.lt g hg).2
theorem rowS_form {w : World} {base n m : Nat} {e : TypeId} {v : Value} {xs : List Value} (h : w.ownsRow base e n v m xs) : ∃ a cap, v = .slice a m cap ∧ m ≤ cap := by
  rcases h.2 with ⟨rfl, hn⟩ | ⟨g, cap, cur, hv, _, _, hc, _⟩
  · exact ⟨none, 0, by rw [hn], by omega⟩
  · exact ⟨_, cap, hv, hc⟩
theorem infoS {P : Program} {e : TypeId} {z : Value} {s b : Nat} (h : (P.info? e).map (fun i => (i.zero, i.size, i.bytes)) = some (some z, s, b)) : ∃ i, P.info? e = some i ∧ i.zero = some z ∧ i.size = s ∧ i.bytes = b := by
  cases hi : P.info? e with
  | none => rw [hi] at h; simp at h
  | some i =>
    rw [hi] at h
    simp only [Option.map_some, Option.some.injEq, Prod.mk.injEq] at h
    exact ⟨i, rfl, h.1, h.2.1, h.2.2⟩
theorem runS {T e : TypeId} {z : Value} {sz by_ : Nat} (hT : Tryd.prog.underlying T = some (.slice e)) (hI : (Tryd.prog.info? e).map (fun i => (i.zero, i.size, i.bytes)) = some (some z, sz, by_)) (hz : z.cells.size = sz) (h0 : 0 < sz) (w : World) (ty : TypeId) (base : Nat) (v : Value) (n : Nat) (l : List Value) (hown : w.ownsRow base e sz v n l)
    (xv : Value) (m : Nat) (news : List Value) (hsrc : (xv = .slice none 0 0 ∧ m = 0 ∧ news = []) ∨ ∃ (ad : Addr) (c : Nat), xv = .slice (some ad) m c ∧ news.length = m * sz ∧ ∀ (j : Nat) u, news[j]? = some u → w.cell? (ad.add j) = some u) (h1c : ∀ u ∈ news, u.oneCell' = true) (hlen : (n + m) * by_ ≤ 140737488355328) (hm : n + m ≤ 140737488355328) (hbase : base ≤ w.heap.size) :
    ∃ v' w', (Builtin.append_ #[T, T] ty #[v, xv]).run Tryd.prog w = .ok v' w' ∧ w'.ownsRow base e sz v' (n + m) (l ++ news) ∧ w.grownBy w' v.ownBlock ∧ (v'.ownBlock = v.ownBlock ∨ v'.ownBlock = some w.heap.size) := by
  obtain ⟨i, hi, h0', h1, h2⟩ := infoS hI
  rcases hsrc with ⟨rfl, rfl, rfl⟩ | ⟨ad, c, rfl, hnl, hc⟩
  · exact ⟨v, w, run_append_owned_none (P := Tryd.prog) w base T ty e i sz hT hi v n l hown, by rw [List.append_nil]; exact hown, ⟨rfl, rfl, rfl, Nat.le_refl _, fun _ _ _ => rfl⟩, Or.inl rfl⟩
  · obtain ⟨v', w', k1, k2, k3, -, k5⟩ := run_append_own_at (P := Tryd.prog) w base T ty e i z sz by_ hT hi h0' h1 h2 hz h0 v n l hown ad m c news (by omega) hc h1c (by unfold maxLen; omega) hlen hbase
    exact ⟨v', w', k1, k2, k3, k5⟩
theorem gappS {T e : TypeId} {z : Value} {sz by_ : Nat} (hT : Tryd.prog.underlying T = some (.slice e)) (hI : (Tryd.prog.info? e).map (fun i => (i.zero, i.size, i.bytes)) = some (some z, sz, by_)) (hz : z.cells.size = sz) (h0 : 0 < sz)
    {ops : Array Oper} {rest : List Oper} {o : Oper} {a : Act} {Q : Exit → Act → World → Prop} {w : World} (hgd : o.guard = none) (s x : Operand)
    (ho : o.op = .call { callee := .builtin .append, args := #[s, x], argTypes := #[T, T] }) (base : Nat) (v : Value) (n : Nat) (l : List Value) (hs : a.eval s = v) (hown : w.ownsRow base e sz v n l)
    (xv : Value) (m : Nat) (news : List Value) (hx : a.eval x = xv) (hsrc : (xv = .slice none 0 0 ∧ m = 0 ∧ news = []) ∨ ∃ (ad : Addr) (c : Nat), xv = .slice (some ad) m c ∧ news.length = m * sz ∧ ∀ (j : Nat) u, news[j]? = some u → w.cell? (ad.add j) = some u) (h1c : ∀ u ∈ news, u.oneCell' = true) (hlen : (n + m) * by_ ≤ 140737488355328) (hm : n + m ≤ 140737488355328) (hbase : base ≤ w.heap.size)
    (h : ∀ v' w', w'.ownsRow base e sz v' (n + m) (l ++ news) → w.grownBy w' v.ownBlock → (v'.ownBlock = v.ownBlock ∨ v'.ownBlock = some w.heap.size) → wpList Tryd.prog ops Q rest (a.put o.dst v') w') : wpList Tryd.prog ops Q (o :: rest) a w := by
  obtain ⟨v', w', hrun, r1, r2, r3⟩ := runS hT hI hz h0 w o.type base v n l hown xv m news hsrc h1c hlen hm hbase
  refine wpList_plain hgd fun K hK => ?_
  simp [Oper.wp, execOp, ho, resolve, invoke, builtin, hs, hx, hrun, Result.andThen]
  exact hK _ _ (h v' w' r1 r2 r3)
theorem Tryd.infoStrS : (Tryd.prog.info? 9).map (fun i => (i.zero, i.size, i.bytes)) = some (some (.string ⟨#[]⟩), 1, 16) := by kernel_rfl
theorem one_srcS {w : World} {b : Nat} {u : Value} {e : TypeId} (h : BlkK w b #[u] e) : (Value.slice (some ⟨b, 0, none⟩) 1 1 = .slice none 0 0 ∧ 1 = 0 ∧ [u] = []) ∨ ∃ (ad : Addr) (c : Nat), Value.slice (some ⟨b, 0, none⟩) 1 1 = .slice (some ad) 1 c ∧ [u].length = 1 * 1 ∧ ∀ (j : Nat) x, [u][j]? = some x → w.cell? (ad.add j) = some x := by
  refine Or.inr ⟨⟨b, 0, none⟩, 1, rfl, rfl, fun j x hx => ?_⟩
  exact World.news_of_block (cs := #[u]) (t := e) (fr := (0, 0)) h j x (by simpa using hx)
/-- A list of texts of the call's own. -/
def OwS (w : World) (base : Nat) (v : Value) (l : List ByteArray) : Prop := w.ownsRow base 9 1 v l.length (l.map Value.string)
theorem OwS.fm {w : World} {base : Nat} {v : Value} {l : List ByteArray} (h : OwS w base v l) : ∃ a cap, v = .slice a l.length cap := by
  obtain ⟨a, c, e, -⟩ := rowS_form (show w.ownsRow base 9 1 v l.length (l.map Value.string) from h)
  exact ⟨a, c, e⟩
theorem grownS {w w' : World} {base n m : Nat} {e : TypeId} {v : Value} {xs : List Value} (h : w.ownsRow base e n v m xs) (hg : w.grownBy w' v.ownBlock) (hb : base ≤ w.heap.size) : Below base w w' :=
  ⟨hg.os, hg.tape, hg.output, hg.size, fun k hk => hg.block k (by omega) fun e => by have := (World.ownsRow.lt h k e.symm).1; omega⟩
/-- The lines ahead of place i, and where the last one begins. -/
def lnF (s : ByteArray) : Nat → List ByteArray × Nat
  | 0 => ([], 0)
  | i + 1 => if atK_ s i = 10 then ((lnF s i).1 ++ [s.extract (lnF s i).2 i], i + 1) else lnF s i
def lnS (s : ByteArray) : List ByteArray := if (lnF s s.size).2 < s.size then (lnF s s.size).1 ++ [s.extract (lnF s s.size).2 s.size] else (lnF s s.size).1
theorem lnF_le (s : ByteArray) : ∀ i, (lnF s i).2 ≤ i ∧ (lnF s i).1.length ≤ i
  | 0 => ⟨Nat.le_refl _, Nat.le_refl _⟩
  | i + 1 => by
    obtain ⟨h1, h2⟩ := lnF_le s i
    unfold lnF
    split
    · simp; omega
    · omega
set_option maxRecDepth 20000 in
set_option maxHeartbeats 2000000 in
theorem bSLines_any (s : ByteArray) (hs : s.size ≤ 9000000) (w : World) : Calls Tryd.prog 16 #[.string s] w fun e w' => ∃ v, e = .returned v ∧ OwS w' w.heap.size v (lnS s) ∧ Below w.heap.size w w' := by
  obtain ⟨N, hN⟩ : ∃ N, s.size = N := ⟨_, rfl⟩
  have HN : Hid (s.size = N) := hN
  rw [hN] at hs
  go_enter Tryd.func16, Tryd.ntmps16
  go_upto_region 4 with (fail)
  go_loopg [5, 3, 4] N (fun gg i out fr wr => ∃ j : Nat, j + gg = N ∧ i = .int .i64 j ∧ fr = .int .i64 ((lnF s j).2 : Int) ∧ OwS wr w.heap.size out (lnF s j).1 ∧ Below w.heap.size w wr)
  case atStart => exact ⟨0, by omega, rfl, rfl, World.ownsRow_nil _ _ _ _, Below.refl _ _⟩
  case round =>
    obtain ⟨j, hj, rfl, rfl, ho, hb⟩ := hrel
    obtain ⟨oa, oc, rfl⟩ := ho.fm
    obtain ⟨hf1, hf2⟩ := lnF_le s j
    obtain ⟨F, hF⟩ : ∃ F, (lnF s j).2 = F := ⟨_, rfl⟩
    obtain ⟨O, hO⟩ : ∃ O, (lnF s j).1 = O := ⟨_, rfl⟩
    rw [hF] at hf1 ⊢
    rw [hO] at ho hf2 ⊢
    obtain ⟨M, hM⟩ : ∃ M, O.length = M := ⟨_, rfl⟩
    rw [hM] at hf2 ⊢
    have HFF : Hid ((lnF s j).2 = F) := hF
    have HOO : Hid ((lnF s j).1 = O) := hO
    have HM : Hid (O.length = M) := hM
    have HO : Hid (OwS wr w.heap.size (.slice oa M oc) O) := by rw [← hM]; exact ho
    have HB : Hid (Below w.heap.size w wr) := hb
    have hsz := hb.size
    have f0 : (0 : Int) ≤ (F : Int) := by omega
    have f1 : (F : Int) ≤ (j : Int) := by omega
    clear hF hO hM ho hb
    cases gk with
    | succ gg =>
      have hlt : (j : Int) < (N : Int) := by omega
      have hle : (j : Int) ≤ (N : Int) := by omega
      have hle2 : (j : Int) ≤ (s.size : Int) := by rw [HN.out]; exact hle
      have hix := fun w' k' => run_index_atK s j (by have := HN.out; omega) (j : Int) rfl w' k'
      obtain ⟨x, hx⟩ : ∃ x, atK_ s j = x := ⟨_, rfl⟩
      have HX : Hid (atK_ s j = x) := hx
      simp only [hx] at hix
      clear hx
      by_cases he : x = 10
      · subst he
        have hln : lnF s (j + 1) = (O ++ [s.extract F j], j + 1) := by
          show (if atK_ s j = 10 then ((lnF s j).1 ++ [s.extract (lnF s j).2 j], j + 1) else lnF s j) = _
          rw [if_pos HX.out, HFF.out, HOO.out]
        have HLN : Hid (lnF s (j + 1) = (O ++ [s.extract F j], j + 1)) := hln
        clear hln
        go_wp2_with (at_builtin; refine gappS Tryd.underlying45 Tryd.infoStrS rfl (by omega) rfl _ _ rfl w.heap.size (.slice oa M oc) M (O.map Value.string) rfl (by have := rowS_below HO.out (below1K wr (.cells #[.string (s.extract F j)] 9)); rw [HM.out] at this; exact this) (.slice (some ⟨wr.heap.size, 0, none⟩) 1 1) 1 [.string (s.extract F j)] rfl (one_srcS (BlkK.new wr #[.string (s.extract F j)] 9)) (by simp [Value.oneCell']) (by omega) (by omega) (by simp; omega) ?_; intro v6 w6 ho6 hg6 hv6; obtain ⟨a6, c6, rfl, -⟩ := rowS_form ho6; have HX6 : Hid (_ ∧ _) := And.intro ho6 hg6; clear ho6 hg6 hv6)
        go_roundg gg
        case measure => omega
        case rel =>
          refine ⟨j + 1, by omega, by go_num, by rw [HLN.out]; go_num, ?_, ?_⟩
          · rw [HLN.out]
            unfold OwS
            rw [List.length_append, HM.out, List.map_append]
            exact HX6.out.1
          · have hr := rowS_below HO.out (below1K wr (.cells #[.string (s.extract F j)] 9))
            rw [HM.out] at hr
            exact (HB.out.trans ((below1K wr _).mono hsz)).trans (grownS hr HX6.out.2 (by simp; omega))
      · have he' : (x == 10) = false := by simpa using he
        have hln : lnF s (j + 1) = lnF s j := by
          show (if atK_ s j = 10 then ((lnF s j).1 ++ [s.extract (lnF s j).2 j], j + 1) else lnF s j) = _
          rw [if_neg (by rw [HX.out]; exact he)]
        have HLN : Hid (lnF s (j + 1) = lnF s j) := hln
        clear hln
        go_wp2
        go_roundg gg
        case measure => omega
        case rel =>
          refine ⟨j + 1, by omega, by go_num, by rw [HLN.out, HFF.out], ?_, HB.out⟩
          rw [HLN.out, HOO.out]
          exact HO.out
    | zero =>
      obtain rfl : j = N := by omega
      have hlt : ¬ (j : Int) < (j : Int) := by omega
      have hjj : (j : Int) ≤ (s.size : Int) := by rw [HN.out]; omega
      have hf3 : (F : Int) ≤ (s.size : Int) := by rw [HN.out]; omega
      by_cases hl : F < j
      · have hl2 : (F : Int) < (j : Int) := by omega
        have hln : lnS s = O ++ [s.extract F j] := by unfold lnS; rw [HN.out, HFF.out, HOO.out, if_pos hl]
        have HLN : Hid (lnS s = O ++ [s.extract F j]) := hln
        clear hln
        go_wp2_with (at_builtin; refine gappS Tryd.underlying45 Tryd.infoStrS rfl (by omega) rfl _ _ rfl w.heap.size (.slice oa M oc) M (O.map Value.string) rfl (by have := rowS_below HO.out (below1K wr (.cells #[.string (s.extract F j)] 9)); rw [HM.out] at this; exact this) (.slice (some ⟨wr.heap.size, 0, none⟩) 1 1) 1 [.string (s.extract F j)] rfl (one_srcS (BlkK.new wr #[.string (s.extract F j)] 9)) (by simp [Value.oneCell']) (by omega) (by omega) (by simp; omega) ?_; intro v6 w6 ho6 hg6 hv6; obtain ⟨a6, c6, rfl, -⟩ := rowS_form ho6; have HX6 : Hid (_ ∧ _) := And.intro ho6 hg6; clear ho6 hg6 hv6)
        go_ret
        refine ⟨_, rfl, ?_, ?_⟩
        · rw [HLN.out]
          unfold OwS
          rw [List.length_append, HM.out, List.map_append]
          exact HX6.out.1
        · have hr := rowS_below HO.out (below1K wr (.cells #[.string (s.extract F j)] 9))
          rw [HM.out] at hr
          exact (HB.out.trans ((below1K wr _).mono hsz)).trans (grownS hr HX6.out.2 (by simp; omega))
      · have hl2 : ¬ (F : Int) < (j : Int) := by omega
        have hln : lnS s = O := by unfold lnS; rw [HN.out, HFF.out, HOO.out, if_neg hl]
        have HLN : Hid (lnS s = O) := hln
        clear hln
        go_wp2
        go_ret
        exact ⟨_, rfl, by rw [HLN.out]; exact HO.out, HB.out⟩
end Go.Proofs.YtdfdnjkeiddfjaaDoor

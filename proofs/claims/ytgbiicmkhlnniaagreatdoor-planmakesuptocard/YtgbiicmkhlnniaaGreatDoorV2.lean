/-
  Vars.
-/
import Derived.Test.YtgbiicmkhlnniaaGreatDoorRA14
namespace Go.Proofs.YtgbiicmkhlnniaaGreatDoor
open Go.RowKit

theorem Tryz.infoInt : (Tryz.prog.info? 3).map (fun i => (i.zero, i.size, i.bytes)) = some (some (.int .i64 0), 1, 8) := by kernel_rfl
def ics (l : List Int) : List Value := l.map (Value.int .i64)
theorem ics_snoc (l : List Int) (n : Int) : ics (l ++ [n]) = ics l ++ [.int .i64 n] := by simp [ics]
/-- v holds the numbers l, in a block of the call's own. -/
def OwnI (w : World) (base : Nat) (v : Value) (l : List Int) : Prop := w.ownsRow base 3 1 v l.length (ics l)
theorem ownI_cells {w : World} {base g cap n : Nat} {l : List Int} (h : OwnI w base (.slice (some ⟨g, 0, none⟩) n cap) l) (j : Nat) (d : Int) (hd : l[j]? = some d) :
    w.cell? ⟨g, j, none⟩ = some (.int .i64 d) := by
  rcases h.2 with ⟨h, _⟩ | ⟨g', cap', cur, hv, hb, hg, hn, hc, hs, ht⟩
  · cases h
  · simp only [Value.slice.injEq, Option.some.injEq, Addr.mk.injEq] at hv
    obtain ⟨⟨rfl, -⟩, -, rfl⟩ := hv
    have hj := (List.getElem?_eq_some_iff.1 hd).1
    have e : (ics l)[j]? = some (.int .i64 d) := by simp [ics, hd]
    rw [cell_of_row _ _ _ _ _ _ hg, ← e, ← ht, List.getElem?_take_of_lt (by omega)]
    simp
theorem OwnI.lt {w : World} {base : Nat} {v : Value} {l : List Int} (h : OwnI w base v l) : ∀ k, v.ownBlock = some k → base ≤ k ∧ k < w.heap.size := World.ownsRow.lt h
theorem OwnI.mono {w : World} {b b' : Nat} {v : Value} {l : List Int} (h : OwnI w b v l) (hb : b' ≤ b) : OwnI w b' v l := by
  refine ⟨h.1, ?_⟩
  rcases h.2 with hn | ⟨g, cap, cur, hv, hbb, rest⟩
  · exact Or.inl hn
  · exact Or.inr ⟨g, cap, cur, hv, Nat.le_trans hb hbb, rest⟩
theorem OwnI.later {w w' : World} {base : Nat} {v : Value} {l : List Int} (h : OwnI w base v l) (hb : Below w.heap.size w w') : OwnI w' base v l := by
  refine ⟨h.1, ?_⟩
  rcases h.2 with hn | ⟨g, cap, cur, hv, hbb, hg, rest⟩
  · exact Or.inl hn
  · exact Or.inr ⟨g, cap, cur, hv, hbb, (hb.block _ (Array.getElem?_eq_some_iff.1 hg).1).trans hg, rest⟩
theorem ownI_nil (w : World) (base : Nat) : OwnI w base (.slice none 0 0) [] := World.ownsRow_nil _ _ _ _
theorem ownI_form {w : World} {base : Nat} {v : Value} {l : List Int} (h : OwnI w base v l) (hn : 0 < l.length) :
    ∃ g cap, v = .slice (some ⟨g, 0, none⟩) l.length cap ∧ base ≤ g ∧ g < w.heap.size := World.ownsRow.form h hn
theorem ownI_len {w : World} {base : Nat} {v : Value} {l : List Int} (h : OwnI w base v l) : ∃ a cap, v = .slice a l.length cap := by
  rcases h.2 with ⟨rfl, hn⟩ | ⟨g, cap, cur, hv, -⟩
  · exact ⟨none, 0, by rw [hn]⟩
  · exact ⟨_, cap, hv⟩
/-- Each variable's number, once, in the order of the places. -/
def vS (l : List Int) (t : Tm) : List Int := if t.var then (if l.any (fun n => decide (n = t.n)) then l else l ++ [t.n]) else l
def vs (pl : List Tm) : List Int := pl.foldl vS []
theorem vs_take (s : List Tm) (k : Nat) (d : Tm) (h : s[k]? = some d) : vs (s.take (k + 1)) = vS (vs (s.take k)) d := by
  obtain ⟨hk, rfl⟩ := List.getElem?_eq_some_iff.1 h
  rw [List.take_succ_eq_append_getElem hk, vs, List.foldl_append]; rfl
theorem vS_len (l : List Int) (d : Tm) : (vS l d).length ≤ l.length + 1 := by
  unfold vS; split
  · split <;> simp
  · simp
theorem vs_len (s : List Tm) : (vs s).length ≤ s.length := by
  have : ∀ s l, (List.foldl vS l s).length ≤ l.length + s.length := by
    intro s
    induction s with
    | nil => intro l; simp
    | cons d s ih => intro l; have := ih (vS l d); have := vS_len l d; simp only [List.foldl_cons, List.length_cons]; omega
  have := this s []
  simpa [vs] using this
def hasI (l : List Int) (x : Int) : Bool := l.any fun n => decide (n = x)
theorem hasI_no (l : List Int) (x : Int) (j : Nat) (d : Int) (h : l[j]? = some d) (hn : hasI (l.take j) x = false) (hd : ¬ d = x) : hasI (l.take (j + 1)) x = false := by
  obtain ⟨hk, rfl⟩ := List.getElem?_eq_some_iff.1 h
  rw [List.take_succ_eq_append_getElem hk, hasI, List.any_append]
  rw [hasI] at hn
  rw [hn]; simpa using hd
theorem hasI_yes (l : List Int) (x : Int) (j : Nat) (d : Int) (h : l[j]? = some d) (hd : d = x) : hasI l x = true := by
  obtain ⟨hk, rfl⟩ := List.getElem?_eq_some_iff.1 h
  simp only [hasI, List.any_eq_true, decide_eq_true_eq]; exact ⟨_, List.getElem_mem hk, hd⟩
theorem vS_old (l : List Int) (d : Tm) (hv : d.var = true) (h : hasI l d.n = true) : vS l d = l := by
  unfold hasI at h; unfold vS; rw [if_pos hv, if_pos h]
theorem vS_new (l : List Int) (d : Tm) (hv : d.var = true) (h : hasI l d.n = false) : vS l d = l ++ [d.n] := by
  unfold hasI at h; unfold vS; rw [if_pos hv, if_neg (by simp [h])]
theorem vS_not (l : List Int) (d : Tm) (hv : d.var = false) : vS l d = l := by
  unfold vS; rw [hv]; rfl
set_option maxHeartbeats 2000000 in
theorem tvars_any (a : At) (x : Value) (w : World) (h : Ts w x a.args) (hs : a.args.length ≤ 4398046511104) :
    Calls Tryz.prog 60 #[a.v x] w fun e w' => ∃ v', e = .returned v' ∧ OwnI w' w.heap.size v' (vs a.pl) ∧ Below w.heap.size w w' := by
  obtain ⟨i0, hi0, hz0, hz1, hz2⟩ := info_parts Tryz.infoInt
  obtain ⟨⟨k, n, s⟩, nm, l⟩ := a
  simp only at h hs
  have HX : Hid (Ts w x l) := h
  obtain ⟨pl, hpl⟩ : ∃ pl, pl = (At.mk ⟨k, n, s⟩ nm l).pl := ⟨_, rfl⟩
  have HP : Hid (pl = (At.mk ⟨k, n, s⟩ nm l).pl) := hpl
  have hn : pl.length ≤ 4398046511105 := by rw [hpl]; simp [At.pl]; omega
  rw [← hpl]
  clear h hpl hs
  go_enter Tryz.func60, Tryz.ntmps60
  go_wp2
  go_step3
  go_wp2
  go_step3
  go_wp2_with (go_at_call 92; refine (places_any ⟨⟨k, n, s⟩, nm, l⟩ _ _ (HX.out.later (below1 _ _))).mono ?_; rw [← HP.out]; rintro e w1 ⟨rfl, hb1⟩)
  have hb0 : Below w.heap.size w w1 := (below1 _ _).trans (hb1.mono (by simp))
  have g2 : w1.heap[w.heap.size]? = some (.cells #[.int .i64 k, .int .i64 n, .string s, .string nm, x] 26 (0, 0)) := (hb1.block _ (by simp)).trans (heap_alloc_new _ _)
  clear hb1
  go_loopg [3, 10] pl.length (fun g u i wr => ∃ k : Nat, k + g = pl.length ∧ i = .int .i64 k ∧ OwnI wr w1.heap.size u (vs (pl.take k)) ∧ Below w.heap.size w wr ∧ Below w1.heap.size w1 wr)
  case atStart => exact ⟨0, by omega, rfl, ownI_nil _ _, hb0, Below.refl _ _⟩
  case round =>
    obtain ⟨i, hi, rfl, hown, hbw, hb1⟩ := hrel
    have z1 : w.heap.size < w1.heap.size := (Array.getElem?_eq_some_iff.1 g2).1
    obtain ⟨p0, p1, p2, p3, p4⟩ := five ((hb1.block _ (by omega)).trans g2)
    have z2 : w.heap.size < wr.heap.size := Nat.lt_of_lt_of_le z1 hb1.size
    cases gk with
    | succ g =>
      have hlt : i < pl.length := by omega
      obtain ⟨t, ht⟩ : ∃ t, pl[i]? = some t := ⟨_, List.getElem?_eq_getElem hlt⟩
      have HV := vs_take pl i t ht
      have HL := vs_len (pl.take i)
      rw [List.length_take] at HL
      have HT : Hid (pl[i]? = some t) := ht
      obtain ⟨tk, tn, ts⟩ := t
      generalize vs (pl.take i) = out at hown HV HL
      have HS : Hid (vs (pl.take (i + 1)) = vS out ⟨tk, tn, ts⟩) := HV
      have hol : out.length ≤ 4398046511105 := by omega
      obtain ⟨ad', cap', rfl⟩ := ownI_len hown
      have HO : Hid (OwnI wr w1.heap.size (.slice ad' out.length cap') out) := hown
      clear HV HL ht hown
      obtain ⟨bv, hbv⟩ : ∃ b, Tm.var ⟨tk, tn, ts⟩ = b := ⟨_, rfl⟩
      have HB : Hid (Tm.var ⟨tk, tn, ts⟩ = bv) := hbv
      clear hbv
      have ii : (i : Int) < (pl.length : Int) := by omega
      cases bv
      · go_wp2_with (first
          | (go_at_call 93; refine (place_any ⟨⟨k, n, s⟩, nm, l⟩ _ i ⟨tk, tn, ts⟩ (by rw [← HP.out]; exact HT.out) _ (HX.out.later hbw)).mono ?_; rintro e w2 ⟨rfl, hb2⟩)
          | (go_at_call 84; refine (var_any ⟨tk, tn, ts⟩ _).mono ?_; rw [HB.out]; rintro e w3 ⟨rfl, hb3⟩))
        have hbW : Below wr.heap.size wr w3 := (hb2.alloc hb2.size _).trans (hb3.mono (hb2.alloc hb2.size _).size)
        go_roundg g
        case measure => omega
        case rel => exact ⟨i + 1, by omega, by go_num, by rw [HS.out, vS_not _ _ HB.out]; exact HO.out.later hbW, hbw.trans (hbW.mono hbw.size), hb1.trans (hbW.mono hb1.size)⟩
      · go_wp2_with (first
          | (go_at_call 93; refine (place_any ⟨⟨k, n, s⟩, nm, l⟩ _ i ⟨tk, tn, ts⟩ (by rw [← HP.out]; exact HT.out) _ (HX.out.later hbw)).mono ?_; rintro e w2 ⟨rfl, hb2⟩)
          | (go_at_call 84; refine (var_any ⟨tk, tn, ts⟩ _).mono ?_; rw [HB.out]; rintro e w3 ⟨rfl, hb3⟩))
        have hbW : Below wr.heap.size wr w3 := (hb2.alloc hb2.size _).trans (hb3.mono (hb2.alloc hb2.size _).size)
        have g6 := (hb3.block _ (by simp)).trans (heap_alloc_new w2 (.cells #[.int .i64 tk, .int .i64 tn, .string ts] 23))
        obtain ⟨G, hG⟩ : ∃ G, G = w2.heap.size := ⟨_, rfl⟩
        have hGz : G < w3.heap.size := by rw [hG]; exact (Array.getElem?_eq_some_iff.1 g6).1
        rw [← hG] at g6 ⊢
        obtain ⟨r0, r1, r2, -, -, -⟩ := three g6
        have hbW0 : Below w.heap.size w w3 := hbw.trans (hbW.mono hbw.size)
        have hbW1 : Below w1.heap.size w1 w3 := hb1.trans (hbW.mono hb1.size)
        have HQ : Hid (OwnI w3 w1.heap.size (.slice ad' out.length cap') out) := HO.out.later hbW
        clear p0 p1 p2 p3 p4 hb2 hb3 hG g6 hbW
        go_loopg [21] out.length (fun g2 i wr => ∃ j : Nat, j + g2 = out.length ∧ i = .int .i64 j ∧ hasI (out.take j) tn = false ∧ w3 = wr)
        case atStart => exact ⟨0, by omega, rfl, rfl, rfl⟩
        case round =>
          obtain ⟨j, hj, rfl, hx, rfl⟩ := hrel
          have HI : Hid (hasI (out.take j) tn = false) := hx
          have hoq := HQ.out
          clear hx
          cases gk with
          | succ g2 =>
            have hlt2 : j < out.length := by omega
            obtain ⟨e, he⟩ : ∃ e, out[j]? = some e := ⟨out[j], List.getElem?_eq_getElem hlt2⟩
            obtain ⟨gg, cc, hv, hg1, hg2⟩ := ownI_form hoq (by omega)
            simp only [Value.slice.injEq, true_and] at hv
            obtain ⟨rfl, rfl⟩ := hv
            have e0 := ownI_cells hoq j e he
            have HE : Hid (out[j]? = some e) := he
            clear he hoq
            have j1 : (0 : Int) ≤ (j : Int) := by omega
            have j2 : (j : Int) < (out.length : Int) := by omega
            by_cases hxx : e = tn
            · have hq : (e == tn) = true := by simpa using hxx
              have HH : Hid (vS out ⟨tk, tn, ts⟩ = out) := vS_old out ⟨tk, tn, ts⟩ HB.out (hasI_yes out tn j _ HE.out hxx)
              go_wp2
              go_roundg g
              case measure => omega
              case rel => exact ⟨i + 1, by omega, by go_num, by rw [HS.out, HH.out]; exact HQ.out, hbW0, hbW1⟩
            · have hq : (e == tn) = false := by simpa using hxx
              have hxx : Hid (¬ e = tn) := hxx
              go_wp2
              go_roundg g2
              case measure => omega
              case rel => exact ⟨j + 1, by omega, by go_num, hasI_no out tn j _ HE.out HI.out hxx.out, rfl⟩
          | zero =>
            have hjl : j = out.length := by omega
            subst hjl
            have HH : Hid (vS out ⟨tk, tn, ts⟩ = out ++ [tn]) := by
              have := HI.out
              rw [List.take_length] at this
              exact vS_new out ⟨tk, tn, ts⟩ HB.out this
            have hsz : w1.heap.size ≤ w3.heap.size := hbW1.size
            clear hoq
            go_wp2_with (at_builtin; refine wpList_append_lies _ rfl _ _ _ rfl w1.heap.size 3 i0 _ 1 8 Tryz.underlying32 hi0 hz0 hz1 hz2 rfl (by omega) (.slice ad' out.length cap') out.length (ics out) (by rfl) (HQ.out.later (below1 _ _)) ⟨w3.heap.size, 0, none⟩ 1 1 [.int .i64 tn] (by rfl) (by rfl) (World.news_of_block (cs := #[.int .i64 tn]) (t := 3) (fr := (0, 0)) (heap_alloc_new w3 _)) (by simp [Value.oneCell']) (by omega) (by unfold maxLen; omega) (by omega) (by simp; omega) (w3.heap.size + 1) (by simp) ?_; intro gg cap1 w4 hown1 hgrow hat hlt1)
            have R : OwnI w4 w1.heap.size (.slice (some ⟨gg, 0, none⟩) (out.length + 1) cap1) (out ++ [tn]) := by
              unfold OwnI; rw [ics_snoc, List.length_append]; exact hown1
            have hlto := (HQ.out.later (below1 w3 (.cells #[.int .i64 tn] 3))).lt
            have RB : Below w1.heap.size w1 w4 := (hbW1.alloc hbW1.size _).grown hgrow (by simp; omega) (fun q e => by have := hlto _ e; omega)
            have RO : Hid (OwnI w4 w1.heap.size (.slice (some ⟨gg, 0, none⟩) (out.length + 1) cap1) (out ++ [tn])) := R
            clear hown1 hgrow hat hlt1 R hlto
            go_wp2
            go_roundg g
            case measure => omega
            case rel => exact ⟨i + 1, by omega, by go_num, by rw [HS.out, HH.out]; exact RO.out, hb0.trans (RB.mono hb0.size), RB⟩
    | zero =>
      have HT : pl.take i = pl := List.take_of_length_le (by omega)
      rw [HT] at hown
      have HO : Hid (OwnI wr w1.heap.size u3 (vs pl)) := hown
      have hz : ¬ ((i : Int) < (pl.length : Int)) := by omega
      clear HT hown
      go_wp2
      go_ret
      exact ⟨_, rfl, HO.out.mono hb0.size, hbw⟩
end Go.Proofs.YtgbiicmkhlnniaaGreatDoor

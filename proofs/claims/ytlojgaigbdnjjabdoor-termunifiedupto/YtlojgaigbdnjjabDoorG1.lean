/-
  ref's holds, fixed, stands.
-/
import Derived.Test.YtlojgaigbdnjjabDoorW4
import Derived.Test.YtlojgaigbdnjjabDoorE1
import Derived.Test.YtlojgaigbdnjjabDoorU1
import Derived.Test.YtlojgaigbdnjjabDoorL3
import Derived.Test.YtlojgaigbdnjjabDoorA1
namespace Go.Proofs.YtlojgaigbdnjjabDoor
open Go.RowKit
attribute [local go_sem ↓] Go.wp_at_zero Go.wp_at_succ

set_option maxHeartbeats 1000000 in
theorem rholds_any (l : List Tm) (v : Value) (t : Tm) (w : World) (h : Ts w v l) :
    Calls Tryd.prog 82 #[v, t.v] w fun e w' => e = .returned (.bool (decide (t ∈ l))) ∧ Below w.heap.size w w' := by
  obtain ⟨ad, cap, rfl, hl, h⟩ := h
  obtain ⟨r, hr⟩ : ∃ r, decide (t ∈ l) = r := ⟨_, rfl⟩
  rw [hr]
  obtain ⟨k, n, s⟩ := t
  have HR : Hid (decide (Tm.mk k n s ∈ l) = r) := hr
  clear hr
  go_enter Tryd.func82, Tryd.ntmps82
  go_wp2
  have bx := Blk.new w #[.int .i64 k, .int .i64 n, .string s] 23
  have hbx := below1 w (.cells #[.int .i64 k, .int .i64 n, .string s] 23)
  have h' : l = [] ∨ ∃ b o, ad = some ⟨b, o, none⟩ ∧ TRow (w.alloc (.cells #[.int .i64 k, .int .i64 n, .string s] 23)) b o l := by
    rcases h with h | ⟨b, o, h1, h2⟩
    · exact Or.inl h
    · exact Or.inr ⟨b, o, h1, h2.later hbx⟩
  revert bx hbx h'
  generalize w.alloc (.cells #[.int .i64 k, .int .i64 n, .string s] 23) = X
  intro bx hbx h'
  clear h
  have HBX : Hid (Below w.heap.size w X) := hbx
  have BX : Hid (Blk X w.heap.size #[.int .i64 k, .int .i64 n, .string s] 23) := bx
  clear hbx bx
  go_loopg [5] l.length (fun g i wr => ∃ j : Nat, j + g = l.length ∧ i = .int .i64 j ∧ (¬ Tm.mk k n s ∈ l.take j) ∧ Below X.heap.size X wr)
  case atStart => exact ⟨0, by omega, rfl, by simp, Below.refl _ _⟩
  case round =>
    obtain ⟨j, hj, rfl, hno, hb⟩ := hrel
    have HN : Hid (¬ Tm.mk k n s ∈ l.take j) := hno
    clear hno
    cases gk with
    | succ g =>
      have hlt : (j : Int) < (l.length : Int) := by omega
      have j0 : (0 : Int) ≤ (j : Int) := by omega
      obtain ⟨u, hu⟩ : ∃ u, l[j]? = some u := ⟨_, List.getElem?_eq_getElem (by omega)⟩
      rcases h' with h | ⟨b1, o1, rfl, hb1, h⟩
      · subst h; simp at hj
      obtain ⟨p0, p1, p2⟩ := h j u hu
      rw [← hb.cell (p := ⟨b1, _, none⟩) hb1] at p0 p1 p2
      obtain ⟨q0, q1, q2, -, -, -⟩ := three (Blk.later (Hid.out BX) hb)
      have he := run_eql_tm u ⟨k, n, s⟩
      have HU : Hid (l[j]? = some u) := hu
      by_cases htu : u = ⟨k, n, s⟩
      · have HY : Hid (decide (Tm.mk k n s ∈ l) = true) := decide_eq_true (by rw [← htu]; exact List.mem_of_getElem? hu)
        rw [decide_eq_true htu] at he
        clear htu hu h
        obtain ⟨uk, un, us⟩ := u
        simp only at p0 p1 p2
        go_wp2
        go_quiet (fail)
        go_wp2
        go_ret
        exact ⟨ret_b (HY.out.symm.trans HR.out), below_step (Hid.out HBX) (below_drewN hb _)⟩
      · have HY : Hid (¬ Tm.mk k n s ∈ l.take (j + 1)) := by
          show ¬ _
          rw [List.take_add_one, hu]
          simp only [Option.toList_some, List.mem_append, List.mem_singleton, not_or]
          exact ⟨HN.out, fun e => htu e.symm⟩
        rw [decide_eq_false htu] at he
        clear htu hu h
        obtain ⟨uk, un, us⟩ := u
        simp only at p0 p1 p2
        go_wp2
        go_quiet (fail)
        go_wp2
        go_roundg g
        case measure => omega
        case rel => exact ⟨j + 1, by omega, by go_num, HY.out, below_drewN hb _⟩
    | zero =>
      obtain rfl : j = l.length := by omega
      have HY : Hid (decide (Tm.mk k n s ∈ l) = false) := decide_eq_false (by have := HN.out; rwa [List.take_length] at this)
      have hz : ¬ ((l.length : Int) < (l.length : Int)) := by omega
      clear h'
      go_wp2
      go_ret
      exact ⟨ret_b (HY.out.symm.trans HR.out), below_step (Hid.out HBX) hb⟩

/-- The terms that are no variables. -/
def fx (l : List Tm) : List Tm := l.filter fun t => !t.var
theorem fx_var {l : List Tm} {j : Nat} {t : Tm} (h : l[j]? = some t) (hv : t.var = true) : fx (l.take (j + 1)) = fx (l.take j) := by
  unfold fx; rw [List.take_add_one, h, Option.toList_some, List.filter_append]; simp [hv]
theorem fx_fix {l : List Tm} {j : Nat} {t : Tm} (h : l[j]? = some t) (hv : t.var = false) : fx (l.take (j + 1)) = fx (l.take j) ++ [t] := by
  unfold fx; rw [List.take_add_one, h, Option.toList_some, List.filter_append]; simp [hv]
theorem fx_len (l : List Tm) (j : Nat) : (fx (l.take j)).length ≤ j := by
  refine Nat.le_trans (List.length_filter_le _ _) ?_
  rw [List.length_take]; omega
theorem ownT_nil (w : World) (base : Nat) : OwnT w base (.slice none 0 0) [] := World.ownsRow_nil _ _ _ _
set_option maxHeartbeats 1000000 in
theorem rfixed_any (l : List Tm) (v : Value) (w : World) (h : Ts w v l) (hl : l.length ≤ 4000000000000) :
    Calls Tryd.prog 55 #[v] w fun e w' => ∃ v', e = .returned v' ∧ OwnT w' w.heap.size v' (fx l) ∧ Below w.heap.size w w' := by
  obtain ⟨i0, hi0, hz0, hz1, hz2⟩ := info_parts Tryd.infoTerm
  obtain ⟨ad, cap, rfl, -, h⟩ := h
  go_enter Tryd.func55, Tryd.ntmps55
  go_wp2
  go_loopg [3, 4] l.length (fun g u i wr => ∃ j : Nat, j + g = l.length ∧ i = .int .i64 j ∧ OwnT wr w.heap.size u (fx (l.take j)) ∧ Below w.heap.size w wr)
  case atStart => exact ⟨0, by omega, rfl, ownT_nil _ _, Below.refl _ _⟩
  case round =>
    obtain ⟨j, hj, rfl, hown, hb⟩ := hrel
    cases gk with
    | succ g =>
      have hlt : (j : Int) < (l.length : Int) := by omega
      have j0 : (0 : Int) ≤ (j : Int) := by omega
      obtain ⟨t, ht⟩ : ∃ t, l[j]? = some t := ⟨_, List.getElem?_eq_getElem (by omega)⟩
      rcases h with h | ⟨b1, o1, rfl, hb1, h⟩
      · subst h; simp at hj
      obtain ⟨p0, p1, p2⟩ := h j t ht
      have c0 := cell_step hb hb1 p0
      have c1 := cell_step hb hb1 p1
      have c2 := cell_step hb hb1 p2
      have gW := lt_step hb hb1
      have hfl := fx_len l j
      cases bv : t.var
      · have hf := fx_fix ht bv
        have HB : Hid (Tm.var t = false) := bv
        clear bv ht p0 p1 p2 h
        obtain ⟨tk, tn, ts⟩ := t
        simp only at c0 c1 c2
        have HF : Hid (fx (l.take (j + 1)) = fx (l.take j) ++ [⟨tk, tn, ts⟩]) := hf
        clear hf
        generalize fx (l.take j) = out at hown HF hfl
        obtain ⟨ad', cap', rfl⟩ := ownT_len hown
        have HO : Hid (OwnT wr w.heap.size (.slice ad' out.length cap') out) := hown
        clear hown
        go_wp2_with (first
          | (go_at_call 44; refine (rvar_any ⟨tk, tn, ts⟩ _).mono ?_; rw [HB.out]; rintro e w3 ⟨rfl, hb3⟩; have c0 := cell_step hb3 gW c0; have c1 := cell_step hb3 gW c1; have c2 := cell_step hb3 gW c2; have HO3 : Hid (OwnT w3 w.heap.size (.slice ad' out.length cap') out) := HO.out.later hb3; have hbW : Hid (Below w.heap.size w w3) := below_step hb hb3; have hsz : w.heap.size ≤ w3.heap.size := (Hid.out hbW).size)
          | (at_builtin; refine wpList_append_lies _ rfl _ _ _ rfl w.heap.size 23 i0 _ 3 32 Tryd.underlying24 hi0 hz0 hz1 hz2 rfl (by omega) (.slice ad' out.length cap') out.length (tcs out) (by rfl) (HO3.out.later (below1 _ _)) ⟨w3.heap.size, 0, none⟩ 1 1 (Tm.cs ⟨tk, tn, ts⟩) (by rfl) (by rfl) (World.news_of_block (cs := (Tm.cs ⟨tk, tn, ts⟩).toArray) (t := 23) (fr := (0, 0)) (heap_alloc_new w3 _)) (by simp [Value.oneCell', Tm.cs]) (by omega) (by unfold maxLen; omega) (by omega) (by simp; omega) (w3.heap.size + 1) (by simp) ?_; intro gg cap1 w5 hown1 hgrow hat hlt1))
        have R : OwnT w5 w.heap.size (.slice (some ⟨gg, 0, none⟩) (out.length + 1) cap1) (out ++ [⟨tk, tn, ts⟩]) := by
          unfold OwnT; rw [tcs_snoc, List.length_append]; exact hown1
        have hlto := (HO3.out.later (below1 w3 (.cells (Tm.cs ⟨tk, tn, ts⟩).toArray 23))).lt
        have RB : Below w.heap.size w w5 := ((Hid.out hbW).alloc (Hid.out hbW).size _).grown hgrow (by simp; omega) (fun q e => by have := hlto _ e; omega)
        have RO : Hid (OwnT w5 w.heap.size (.slice (some ⟨gg, 0, none⟩) (out.length + 1) cap1) (out ++ [⟨tk, tn, ts⟩])) := R
        clear hown1 hgrow hat hlt1 R hlto
        go_wp2
        go_roundg g
        case measure => omega
        case rel => exact ⟨j + 1, by omega, by go_num, by rw [HF.out]; exact RO.out, RB⟩
      · have hf := fx_var ht bv
        have HB : Hid (Tm.var t = true) := bv
        have HF : Hid (fx (l.take (j + 1)) = fx (l.take j)) := hf
        clear bv ht p0 p1 p2 h hf
        obtain ⟨tk, tn, ts⟩ := t
        simp only at c0 c1 c2
        have HO : Hid (OwnT wr w.heap.size _ _) := hown
        clear hown
        go_wp2_with (go_at_call 44; refine (rvar_any ⟨tk, tn, ts⟩ _).mono ?_; rw [HB.out]; rintro e w3 ⟨rfl, hb3⟩)
        go_roundg g
        case measure => omega
        case rel => exact ⟨j + 1, by omega, by go_num, by rw [HF.out]; exact HO.out.later hb3, below_step hb hb3⟩
    | zero =>
      obtain rfl : j = l.length := by omega
      rw [List.take_length] at hown
      have HO : Hid (OwnT wr w.heap.size _ _) := hown
      have hz : ¬ ((l.length : Int) < (l.length : Int)) := by omega
      clear h hown
      go_wp2
      go_ret
      exact ⟨_, rfl, HO.out, hb⟩

def lf (b t : Tm) : Tm := if t.n < b.n then t else b
/-- What a class stands for. -/
def stn (l : List Tm) (d : Tm) : Tm := match fx l with | [] => l.foldl lf d | t :: _ => t
theorem lf_take {l : List Tm} {d t : Tm} {j : Nat} (h : l[j]? = some t) : (l.take (j + 1)).foldl lf d = lf ((l.take j).foldl lf d) t := by
  rw [List.take_add_one, h, Option.toList_some, List.foldl_append]; rfl
set_option maxHeartbeats 1000000 in
theorem rstands_any (l : List Tm) (d : Tm) (hd : l[0]? = some d) (v : Value) (w : World) (h : Ts w v l) (hl : l.length ≤ 4000000000000) :
    Calls Tryd.prog 57 #[v] w fun e w' => e = .returned (stn l d).v ∧ Below w.heap.size w w' := by
  have hfx := fun (X : World) (hb : Below w.heap.size w X) => rfixed_any l v X (h.later hb) hl
  obtain ⟨F, hF⟩ : ∃ F, fx l = F := ⟨_, rfl⟩
  rw [hF] at hfx
  have HFX : Hid (∀ X, Below w.heap.size w X → Calls Tryd.prog 55 #[v] X fun e w' => ∃ v', e = .returned v' ∧ OwnT w' X.heap.size v' F ∧ Below X.heap.size X w') := hfx
  obtain ⟨ad, cap, rfl, -, h⟩ := h
  have hn0 : 0 < l.length := (List.getElem?_eq_some_iff.1 hd).1
  obtain ⟨b1, o1, rfl, hb1, hrow⟩ : ∃ b o, ad = some ⟨b, o, none⟩ ∧ TRow w b o l := by
    rcases h with h | h
    · subst h; simp at hn0
    · exact h
  clear h hfx
  cases F with
  | cons t f =>
    have hr : stn l d = t := by unfold stn; rw [hF]
    obtain ⟨tk, tn, ts⟩ := t
    have HR : Hid (stn l d = ⟨tk, tn, ts⟩) := hr
    clear hr hF hd hrow
    go_enter Tryd.func57, Tryd.ntmps57
    go_upto_region 2 with (go_at_call 55; refine (HFX.out _ (below1 _ _)).mono ?_; rintro e W1 ⟨fv, rfl, hof, hbf⟩; obtain ⟨G, gc, rfl, hG1, hG2⟩ := World.ownsRow.form hof (by simp); have HOF : Hid (OwnT W1 _ (.slice (some ⟨G, 0, none⟩) (f.length + 1) gc) (⟨tk, tn, ts⟩ :: f)) := hof; clear hof)
    obtain ⟨c0, c1, c2⟩ := ownT_cells HOF.out 0 ⟨tk, tn, ts⟩ rfl
    have bx := (Blk.new w #[.int .i64 0, .int .i64 0, .string ⟨#[]⟩] 23).later hbf
    have hbw : Hid (Below w.heap.size w W1) := below_step (below1 _ _) hbf
    obtain ⟨q0, q1, q2, f0, f1, f2⟩ := three bx
    simp only [Nat.zero_mul, Nat.zero_add] at c0 c1 c2
    have hz : (0 : Int) < (f.length : Int) + 1 := by omega
    have hz' : (0 : Int) < ((f.length + 1 : Nat) : Int) := by omega
    clear bx hbf HFX
    go_wp2
    refine bodyPost_ret (v := Tm.v ⟨tk, tn, ts⟩) (by simp [results, Tryd.results57, go_sem, q0, q1, q2]) rfl ⟨?_, ?_⟩
    · rw [HR.out]
    · exact bset (bset (bset (Hid.out hbw) (Nat.le_refl _)) (Nat.le_refl _)) (Nat.le_refl _)
  | nil =>
    have hr : stn l d = l.foldl lf d := by unfold stn; rw [hF]
    have HR : Hid (stn l d = l.foldl lf d) := hr
    clear hr hF
    go_enter Tryd.func57, Tryd.ntmps57
    go_upto_region 4 with (go_at_call 55; refine (HFX.out _ (below1 _ _)).mono ?_; rintro e W1 ⟨fv, rfl, hof, hbf⟩; obtain ⟨fa, fc, rfl⟩ := ownT_len hof; clear hof)
    have hbw := below_step (below1 w (.cells #[.int .i64 0, .int .i64 0, .string ⟨#[]⟩] 23)) hbf
    have bz : Hid (Blk W1 w.heap.size #[.int .i64 0, .int .i64 0, .string ⟨#[]⟩] 23) := (Blk.new w _ 23).later hbf
    obtain ⟨p0, p1, p2⟩ := hrow 0 d hd
    have p0 := cell_step hbw hb1 p0
    have p1 := cell_step hbw hb1 p1
    have p2 := cell_step hbw hb1 p2
    have HW1 : Hid (Below w.heap.size w W1) := hbw
    obtain ⟨D, hD⟩ : ∃ D, d = D := ⟨_, rfl⟩
    obtain ⟨dk, dn, ds⟩ := d
    have HD : Hid (⟨dk, dn, ds⟩ = D) := hD
    simp only [Nat.zero_mul, Nat.add_zero] at p0 p1 p2
    clear hd hbf hbw hD HFX
    go_wp2
    have bl := Blk.new W1 #[.int .i64 dk, .int .i64 dn, .string ds] 23
    have hbl := below1 W1 (.cells #[.int .i64 dk, .int .i64 dn, .string ds] 23)
    have hWl := Nat.lt_of_lt_of_le (Blk.lt (Hid.out bz)) (Nat.le_refl _)
    revert bl hbl
    generalize W1.alloc (.cells #[.int .i64 dk, .int .i64 dn, .string ds] 23) = X
    intro bl hbl
    have HBL : Hid (Blk X W1.heap.size #[.int .i64 D.k, .int .i64 D.n, .string D.s] 23) := by rw [← HD.out]; exact bl
    have HBZ : Hid (Blk X w.heap.size #[.int .i64 0, .int .i64 0, .string ⟨#[]⟩] 23) := Blk.later (Hid.out bz) hbl
    have HX : Hid (Below w.heap.size w X) := below_step (Hid.out HW1) hbl
    have HR : Hid (stn l ⟨dk, dn, ds⟩ = l.foldl lf D) := by have := HR.out; show _ = _; rw [this, HD.out]
    have HWL : Hid (w.heap.size < W1.heap.size) := hWl
    clear bl hbl bz HW1 p0 p1 p2 HD hWl
    generalize hgl : W1.heap.size = G at HBL HWL ⊢
    clear hgl
    go_loopg [5] l.length (fun g i wr => ∃ j : Nat, j + g = l.length ∧ i = .int .i64 j ∧ Blk wr G #[.int .i64 ((l.take j).foldl lf D).k, .int .i64 ((l.take j).foldl lf D).n, .string ((l.take j).foldl lf D).s] 23 ∧ Blk wr w.heap.size #[.int .i64 0, .int .i64 0, .string ⟨#[]⟩] 23 ∧ Below w.heap.size w wr)
    case atStart => exact ⟨0, by omega, rfl, Hid.out HBL, Hid.out HBZ, Hid.out HX⟩
    case round =>
      obtain ⟨j, hj, rfl, hbk, hbz, hb⟩ := hrel
      cases gk with
      | succ g =>
        have hlt : (j : Int) < (l.length : Int) := by omega
        have j0 : (0 : Int) ≤ (j : Int) := by omega
        obtain ⟨t, ht⟩ : ∃ t, l[j]? = some t := ⟨_, List.getElem?_eq_getElem (by omega)⟩
        have hlf := lf_take (d := D) ht
        obtain ⟨p0, p1, p2⟩ := hrow j t ht
        have c0 := cell_step hb hb1 p0
        have c1 := cell_step hb hb1 p1
        have c2 := cell_step hb hb1 p2
        generalize (l.take j).foldl lf D = M at hbk hlf
        obtain ⟨mk, mn, ms⟩ := M
        obtain ⟨tk, tn, ts⟩ := t
        simp only at c0 c1 c2 hbk
        obtain ⟨q0, q1, q2, f0, f1, f2⟩ := three hbk
        have HBK : Hid (Blk wr G #[.int .i64 mk, .int .i64 mn, .string ms] 23) := hbk
        have HBZ : Hid (Blk wr w.heap.size #[.int .i64 0, .int .i64 0, .string ⟨#[]⟩] 23) := hbz
        have HLF : Hid ((l.take (j + 1)).foldl lf D = lf ⟨mk, mn, ms⟩ ⟨tk, tn, ts⟩) := hlf
        clear p0 p1 p2 ht hlf hbk hbz
        by_cases hc : tn < mn
        · have HL : Hid ((l.take (j + 1)).foldl lf D = ⟨tk, tn, ts⟩) := by show _ = _; rw [HLF.out]; unfold lf; rw [if_pos hc]
          go_wp2
          go_quiet (fail)
          go_wp2
          go_roundg g
          case measure => omega
          case rel =>
            refine ⟨j + 1, by omega, by go_num, ?_, ?_, ?_⟩
            · rw [HL.out]; exact store3 (Blk.later (Hid.out HBK) (below_drewN (Below.refl _ _) _))
            · exact putO _ _ _ (Nat.ne_of_lt HWL.out) (Blk.later (Hid.out HBZ) (below_drewN (Below.refl _ _) _))
            · exact bset3 (below_drewN hb _) (Nat.le_of_lt HWL.out)
        · have HL : Hid ((l.take (j + 1)).foldl lf D = ⟨mk, mn, ms⟩) := by show _ = _; rw [HLF.out]; unfold lf; rw [if_neg hc]
          go_wp2
          go_quiet (fail)
          go_wp2
          go_roundg g
          case measure => omega
          case rel =>
            refine ⟨j + 1, by omega, by go_num, ?_, ?_, ?_⟩
            · rw [HL.out]; exact Blk.later (Hid.out HBK) (below_drewN (Below.refl _ _) _)
            · exact Blk.later (Hid.out HBZ) (below_drewN (Below.refl _ _) _)
            · exact below_drewN hb _
      | zero =>
        obtain rfl : j = l.length := by omega
        have hz : ¬ ((l.length : Int) < (l.length : Int)) := by omega
        rw [List.take_length, ← HR.out] at hbk
        obtain ⟨⟨mk, mn, ms⟩, hM⟩ : ∃ M, stn l ⟨dk, dn, ds⟩ = M := ⟨_, rfl⟩
        rw [hM] at hbk
        have HM : Hid (stn l ⟨dk, dn, ds⟩ = ⟨mk, mn, ms⟩) := hM
        clear hM
        simp only at hbk
        obtain ⟨q0, q1, q2, -, -, -⟩ := three hbk
        obtain ⟨z0, z1, z2, f0, f1, f2⟩ := three hbz
        have HB : Hid (Below w.heap.size w wr) := hb
        clear hrow HR hbk hbz
        go_wp2
        refine bodyPost_ret (v := Tm.v ⟨mk, mn, ms⟩) (by simp [results, Tryd.results57, go_sem, z0, z1, z2]) rfl ⟨by rw [HM.out], ?_⟩
        exact bset3 (Hid.out HB) (Nat.le_refl _)
end Go.Proofs.YtlojgaigbdnjjabDoor

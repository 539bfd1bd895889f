import Derived.Test.YtechceagghcipaaGreatDoorE1
import Derived.Deep.AppendLies
import Derived.WalkMore
import Derived.Deep.LoopGhost
namespace Go.Proofs.YtechceagghcipaaGreatDoor
open Go.RowKit

theorem Tryz.infoBind : (Tryz.prog.info? 149).map (fun i => (i.zero, i.size, i.bytes)) = some (some (.agg #[.int .i64 0, .int .i64 0, .int .i64 0, .string ⟨#[]⟩]), 4, 40) := by kernel_rfl
def Bd.cs (d : Bd) : List Value := [.int .i64 d.x, .int .i64 d.to.k, .int .i64 d.to.n, .string d.to.s]
def bcs (l : List Bd) : List Value := l.flatMap Bd.cs
theorem bcs_len (l : List Bd) : (bcs l).length = l.length * 4 := by
 induction l with
 | nil => rfl
 | cons d l ih => simp only [bcs, List.flatMap_cons, List.length_append, List.length_cons] at *; rw [ih]; simp [Bd.cs]; omega
theorem bcs_snoc (l : List Bd) (d : Bd) : bcs (l ++ [d]) = bcs l ++ d.cs := by simp [bcs]
theorem bcs_get (l : List Bd) (j : Nat) (d : Bd) (h : l[j]? = some d) (i : Nat) (hi : i < 4) : (bcs l)[j * 4 + i]? = d.cs[i]? := by
 induction l generalizing j with
 | nil => simp at h
 | cons e l ih =>
  rw [bcs, List.flatMap_cons]
  cases j with
  | zero =>
   simp only [List.getElem?_cons_zero, Option.some.injEq] at h
   subst h
   rw [List.getElem?_append_left (by simp [Bd.cs]; omega)]
   simp
  | succ j =>
   simp only [List.getElem?_cons_succ] at h
   rw [List.getElem?_append_right (by simp [Bd.cs]; omega)]
   have e1 : (j + 1) * 4 + i - (Bd.cs e).length = j * 4 + i := by simp [Bd.cs]; omega
   rw [e1]
   exact ih j h
def Own (w : World) (base : Nat) (v : Value) (l : List Bd) : Prop := w.ownsRow base 149 4 v l.length (bcs l)
theorem own_cells {w : World} {base g cap n : Nat} {l : List Bd} (h : Own w base (.slice (some ⟨g, 0, none⟩) n cap) l) (j : Nat) (d : Bd) (hd : l[j]? = some d) :
  w.cell? ⟨g, j * 4, none⟩ = some (.int .i64 d.x) /\ w.cell? ⟨g, j * 4 + 1, none⟩ = some (.int .i64 d.to.k) /\ w.cell? ⟨g, j * 4 + 2, none⟩ = some (.int .i64 d.to.n) /\ w.cell? ⟨g, j * 4 + 3, none⟩ = some (.string d.to.s) := by
 rcases h.2 with ⟨h, _⟩ | ⟨g', cap', cur, hv, hb, hg, hn, hc, hs, ht⟩
 ·cases h
 ·simp only [Value.slice.injEq, Option.some.injEq, Addr.mk.injEq] at hv
  obtain ⟨⟨rfl, -⟩, -, rfl⟩ := hv
  have hj := (List.getElem?_eq_some_iff.1 hd).1
  have key : ∀ i, i < 4 -> w.cell? ⟨g, j * 4 + i, none⟩ = d.cs[i]? := fun i hi => by
   rw [cell_of_row _ _ _ _ _ _ hg, <- bcs_get l j d hd i hi, <- ht, List.getElem?_take_of_lt (by omega)]
   simp
  exact ⟨key 0 (by omega), key 1 (by omega), key 2 (by omega), key 3 (by omega)⟩
theorem Own.lt {w : World} {base : Nat} {v : Value} {l : List Bd} (h : Own w base v l) : ∀ k, v.ownBlock = some k -> base <= k /\ k < w.heap.size := World.ownsRow.lt h
theorem Own.bs {w : World} {base : Nat} {v : Value} {l : List Bd} (h : Own w base v l) (hl : l.length < 1000000000000000000) : Bs w v l := by
 have hh := h
 rcases h.2 with ⟨rfl, hn⟩ | ⟨g, cap, cur, rfl, hb, hg, -⟩
 ·exact ⟨none, 0, by rw [hn], hl, Or.inl (List.length_eq_zero_iff.1 hn)⟩
 ·refine ⟨_, cap, rfl, hl, Or.inr ⟨g, 0, rfl, (Array.getElem?_eq_some_iff.1 hg).1, fun i t ht => ?_⟩⟩
  simpa using own_cells hh i t ht
theorem Own.later {w w' : World} {base : Nat} {v : Value} {l : List Bd} (h : Own w base v l) (hb : Below w.heap.size w w') : Own w' base v l := by
 refine ⟨h.1, ?_⟩
 rcases h.2 with hn | ⟨g, cap, cur, hv, hbb, hg, rest⟩
 ·exact Or.inl hn
 ·exact Or.inr ⟨g, cap, cur, hv, hbb, (hb.block _ (Array.getElem?_eq_some_iff.1 hg).1).trans hg, rest⟩
theorem own_nil (w : World) (base : Nat) : Own w base (.slice none 0 0) [] := World.ownsRow_nil _ _ _ _
theorem own_form {w : World} {base : Nat} {v : Value} {l : List Bd} (h : Own w base v l) (hn : 0 < l.length) :
  ∃ g cap, v = .slice (some ⟨g, 0, none⟩) l.length cap /\ base <= g /\ g < w.heap.size := World.ownsRow.form h hn
theorem own_len {w : World} {base : Nat} {v : Value} {l : List Bd} (h : Own w base v l) : ∃ a cap, v = .slice a l.length cap := by
 rcases h.2 with ⟨rfl, hn⟩ | ⟨g, cap, cur, hv, -⟩
 ·exact ⟨none, 0, by rw [hn]⟩
 ·exact ⟨_, cap, hv⟩

def hasX (l : List Bd) (x : Int) : Bool := l.any fun d => decide (d.x = x)
def fbS (l : List Bd) (d : Bd) : List Bd := if hasX l d.x then l else l ++ [d]
def fb (s : List Bd) : List Bd := s.foldl fbS []
theorem fb_take (s : List Bd) (k : Nat) (d : Bd) (h : s[k]? = some d) : fb (s.take (k + 1)) = fbS (fb (s.take k)) d := by
 obtain ⟨hk, rfl⟩ := List.getElem?_eq_some_iff.1 h
 rw [List.take_succ_eq_append_getElem hk, fb, List.foldl_append]; rfl
theorem fbS_len (l : List Bd) (d : Bd) : (fbS l d).length <= l.length + 1 := by unfold fbS; split <;> simp
theorem fb_len (s : List Bd) : (fb s).length <= s.length := by
 have : ∀ s l, (List.foldl fbS l s).length <= l.length + s.length := by
  intro s
  induction s with
  | nil => intro l; simp
  | cons d s ih => intro l; have := ih (fbS l d); have := fbS_len l d; simp only [List.foldl_cons, List.length_cons]; omega
 have := this s []
 simpa [fb] using this
theorem hasX_no (l : List Bd) (x : Int) (j : Nat) (d : Bd) (h : l[j]? = some d) (hn : hasX (l.take j) x = false) (hd : ¬ d.x = x) : hasX (l.take (j + 1)) x = false := by
 obtain ⟨hk, rfl⟩ := List.getElem?_eq_some_iff.1 h
 rw [List.take_succ_eq_append_getElem hk, hasX, List.any_append]
 rw [hasX] at hn
 rw [hn]; simpa using hd
theorem hasX_yes (l : List Bd) (x : Int) (j : Nat) (d : Bd) (h : l[j]? = some d) (hd : d.x = x) : hasX l x = true := by
 obtain ⟨hk, rfl⟩ := List.getElem?_eq_some_iff.1 h
 simp only [hasX, List.any_eq_true, decide_eq_true_eq]; exact ⟨_, List.getElem_mem hk, hd⟩

theorem four {w : World} {g : Nat} {a b c d : Value} {t : TypeId} (h : w.heap[g]? = some (.cells #[a, b, c, d] t (0, 0))) :
  w.cell? ⟨g, 0, none⟩ = some a /\ w.cell? ⟨g, 1, none⟩ = some b /\ w.cell? ⟨g, 2, none⟩ = some c /\ w.cell? ⟨g, 3, none⟩ = some d :=
 ⟨cell_of_row _ _ _ _ _ _ h, cell_of_row _ _ _ _ _ _ h, cell_of_row _ _ _ _ _ _ h, cell_of_row _ _ _ _ _ _ h⟩
set_option maxHeartbeats 1000000 in
theorem fb_any (s : List Bd) (v : Value) (w : World) (h : Bs w v s) (hs : s.length <= 1000000000000) :
  Calls Tryz.prog 86 #[v] w fun e w' => ∃ v', e = .returned v' /\ Own w' w.heap.size v' (fb s) /\ Below w.heap.size w w' := by
 obtain ⟨i0, hi0, hz0, hz1, hz2⟩ := info_parts Tryz.infoBind
 obtain ⟨ad, cap, rfl, hl, h⟩ := h
 go_enter Tryz.func86, Tryz.ntmps86
 go_wp2
 go_step3
 go_wp2
 go_step3
 go_wp2
 go_loopg [3, 10] s.length (fun g u i wr => ∃ k : Nat, k + g = s.length /\ i = .int .i64 k /\ Own wr w.heap.size u (fb (s.take k)) /\ Below w.heap.size w wr)
 case atStart => exact ⟨0, by omega, rfl, own_nil _ _, Below.refl _ _⟩
 case round =>
  obtain ⟨k, hk, rfl, hown, hbel⟩ := hrel
  cases gk with
  | succ g =>
   generalize wr = wo at *
   have hlt : k < s.length := by omega
   rcases h with h | ⟨b, o, rfl, hbs, h⟩
   ·subst h; simp at hlt
   ·obtain ⟨d, hd⟩ : ∃ d, s[k]? = some d := ⟨s[k], List.getElem?_eq_getElem hlt⟩
    obtain ⟨c0, c1, c2, c3⟩ := h k d hd
    rw [<- hbel.cell (p := ⟨b, _, none⟩) hbs] at c0 c1 c2 c3
    have hbw : b < wo.heap.size := Nat.lt_of_lt_of_le hbs hbel.size
    have HT := fb_take s k d hd
    have HL := fb_len (s.take k)
    rw [List.length_take] at HL
    obtain ⟨dx, dk, dn, ds⟩ := d
    simp only at c0 c1 c2 c3
    generalize fb (s.take k) = out at hown HT HL
    have HT0 : Hid (fb (s.take (k + 1)) = fbS out ⟨dx, dk, dn, ds⟩) := HT
    clear HT
    have HT := HT0
    clear HT0
    obtain ⟨ad', cap', rfl⟩ := own_len hown
    have HO : Hid (Own wo w.heap.size (.slice ad' out.length cap') out) := hown
    have hol : out.length <= 1000000000000 := by omega
    clear h hd hown HL
    have i1 : (0 : Int) <= (k : Int) := by omega
    have i2 : (k : Int) < (s.length : Int) := by omega
    go_wp2
    have hb0 : Below wo.heap.size wo (wo.alloc (.cells #[.int .i64 dx, .int .i64 dk, .int .i64 dn, .string ds] 149)) := below1 _ _
    have g0 := heap_alloc_new wo (.cells #[.int .i64 dx, .int .i64 dk, .int .i64 dn, .string ds] 149)
    clear c0 c1 c2 c3
    go_loopg [16] out.length (fun g2 i wr => ∃ j : Nat, j + g2 = out.length /\ i = .int .i64 j /\ hasX (out.take j) dx = false /\ Below wo.heap.size wo wr /\ wr.heap[wo.heap.size]? = some (.cells #[.int .i64 dx, .int .i64 dk, .int .i64 dn, .string ds] 149 (0, 0)))
    case atStart => exact ⟨0, by omega, rfl, rfl, hb0, g0⟩
    case round =>
     obtain ⟨j, hj, rfl, hx, hbq, gq⟩ := hrel
     have HX : Hid (hasX (out.take j) dx = false) := hx
     have hbww : Below w.heap.size w wr := hbel.trans (hbq.mono hbel.size)
     have hoq := HO.out.later hbq
     have HQ : Hid (wr.heap[wo.heap.size]? = some (.cells #[.int .i64 dx, .int .i64 dk, .int .i64 dn, .string ds] 149 (0, 0))) := gq
     obtain ⟨q0, q1, q2, q3⟩ := four gq
     have hwr : wo.heap.size < wr.heap.size := (Array.getElem?_eq_some_iff.1 gq).1
     clear hx gq
     cases gk with
     | succ g2 =>
      have hlt2 : j < out.length := by omega
      obtain ⟨e, he⟩ : ∃ e, out[j]? = some e := ⟨out[j], List.getElem?_eq_getElem hlt2⟩
      obtain ⟨gg, cc, hv, hg1, hg2⟩ := own_form hoq (by omega)
      simp only [Value.slice.injEq, true_and] at hv
      obtain ⟨rfl, rfl⟩ := hv
      obtain ⟨e0, e1, e2, e3⟩ := own_cells hoq j e he
      have HE : Hid (out[j]? = some e) := he
      obtain ⟨ex, ek, en, es⟩ := e
      simp only at e0 e1 e2 e3
      have HOQ : Hid _ := hoq
      clear he hoq
      have j1 : (0 : Int) <= (j : Int) := by omega
      have j2 : (j : Int) < (out.length : Int) := by omega
      by_cases hxx : ex = dx
      ·have hq : (ex == dx) = true := by simpa using hxx
       have HH : Hid (fbS out ⟨dx, dk, dn, ds⟩ = out) := by show fbS out _ = out; unfold fbS; rw [if_pos (hasX_yes out dx j _ HE.out hxx)]
       go_wp2
       go_roundg g
       case measure => omega
       case rel => exact ⟨k + 1, by omega, by go_num, by rw [HT.out, HH.out]; exact Own.later HOQ.out (below1 _ _), hbww.alloc hbww.size _⟩
      ·have hq : (ex == dx) = false := by simpa using hxx
       have hxx : Hid (¬ ex = dx) := hxx
       go_wp2
       go_roundg g2
       case measure => omega
       case rel => exact ⟨j + 1, by omega, by go_num, hasX_no out dx j _ HE.out HX.out hxx.out, hbq.alloc hbq.size _, by rw [Below.heap_alloc _ _ _ hwr]; exact HQ.out⟩
     | zero =>
      have hjl : j = out.length := by omega
      subst hjl
      have HH : Hid (fbS out ⟨dx, dk, dn, ds⟩ = out ++ [⟨dx, dk, dn, ds⟩]) := by
       have := HX.out
       rw [List.take_length] at this
       show fbS out _ = _; unfold fbS; rw [if_neg (by simp [this])]
      have HOQ : Hid (Own wr w.heap.size (.slice ad' out.length cap') out) := hoq
      have hsz : w.heap.size <= wr.heap.size := hbww.size
      clear hoq
      go_wp2_with (at_builtin; refine wpList_append_lies _ rfl _ _ _ rfl w.heap.size 149 i0 _ 4 40 Tryz.underlying105 hi0 hz0 hz1 hz2 rfl (by omega) (.slice ad' out.length cap') out.length (bcs out) (by rfl) (HOQ.out.later (below1 _ _)) ⟨wr.heap.size, 0, none⟩ 1 1 (Bd.cs ⟨dx, dk, dn, ds⟩) (by rfl) (by rfl) (World.news_of_block (cs := (Bd.cs ⟨dx, dk, dn, ds⟩).toArray) (t := 149) (fr := (0, 0)) (heap_alloc_new wr _)) (by simp [Value.oneCell', Bd.cs]) (by omega) (by unfold maxLen; omega) (by omega) (by simp; omega) (wr.heap.size + 1) (by simp) ?_; intro gg cap1 w1 hown1 hgrow hat hlt1)
      have R : Own w1 w.heap.size (.slice (some ⟨gg, 0, none⟩) (out.length + 1) cap1) (out ++ [⟨dx, dk, dn, ds⟩]) := by
       unfold Own; rw [bcs_snoc, List.length_append]; exact hown1
      have hlto := (HOQ.out.later (below1 wr (.cells (Bd.cs ⟨dx, dk, dn, ds⟩).toArray 149))).lt
      have RB : Below w.heap.size w w1 := (hbww.alloc hbww.size _).grown hgrow (by simp; omega) (fun q e => by have := hlto _ e; omega)
      have RO : Hid (Own w1 w.heap.size (.slice (some ⟨gg, 0, none⟩) (out.length + 1) cap1) (out ++ [⟨dx, dk, dn, ds⟩])) := R
      clear hown1 hgrow hat hlt1 R hlto
      go_wp2
      go_roundg g
      case measure => omega
      case rel => exact ⟨k + 1, by omega, by go_num, by rw [HT.out, HH.out]; exact RO.out, RB⟩
  | zero =>
   have HT : s.take k = s := List.take_of_length_le (by omega)
   rw [HT] at hown
   have HO : Hid (Own wr w.heap.size u3 (fb s)) := hown
   have hz : ¬ ((k : Int) < (s.length : Int)) := by omega
   clear HT hown h
   go_wp2
   go_ret
   exact ⟨_, rfl, HO.out, hbel⟩
end Go.Proofs.YtechceagghcipaaGreatDoor

/-
  law 8: BaseSets.
-/
import Derived.Test.YtechceagghcipaaGreatEG6
namespace Go.Proofs.YtechceagghcipaaGreat
open Go.RowKit
attribute [local go_sem ↓] Go.wp_at_zero Go.wp_at_succ

/-- An atom that came in. -/
structure KA8 (w : World) (x : At × Value) : Prop where
  ts : TsP w x.2 x.1.args
  k : ∀ t ∈ x.1.pl, KeyT t
  p : KeyP x.1.pd8
/-- The rounds, in memory. -/
def Rn8 (w : World) (v : Value) (P : List (List (At × Value) × Value)) : Prop :=
  ∃ a cap, v = .slice a P.length cap ∧ (P = [] ∨ ∃ b o, a = some ⟨b, o, none⟩ ∧ b < w.heap.size ∧ ∀ (i : Nat) p, P[i]? = some p → w.cell? ⟨b, o + i, none⟩ = some p.2) ∧ ∀ p ∈ P, As w p.2 p.1 ∧ ∀ x ∈ p.1, KA8 w x
def sl8s (l : List (At × Value)) : Nat := ((fsts l).flatMap At.pl).length
def zr8 (P : List (List (At × Value) × Value)) : Nat := (P.map fun p => sl8s p.1).sum
theorem zr8_take (P : List (List (At × Value) × Value)) (j : Nat) (p) (h : P[j]? = some p) : zr8 (P.take (j + 1)) = zr8 (P.take j) + sl8s p.1 := by
  unfold zr8
  rw [List.take_add_one, h, List.map_append, List.sum_append]
  simp
theorem zr8_le (P : List (List (At × Value) × Value)) (j : Nat) : zr8 (P.take j) ≤ zr8 P := by
  have : zr8 P = zr8 (P.take j) + zr8 (P.drop j) := by
    unfold zr8
    rw [← List.sum_append, ← List.map_append, List.take_append_drop]
  omega
theorem sl8s_take (l : List (At × Value)) (j : Nat) (x) (h : l[j]? = some x) : (((fsts l).take j).flatMap At.pl).length + x.1.pl.length ≤ sl8s l := by
  have h1 : (fsts l)[j]? = some x.1 := by unfold fsts; rw [List.getElem?_map, h]; rfl
  have h2 : ((fsts l).take (j + 1)).flatMap At.pl = ((fsts l).take j).flatMap At.pl ++ x.1.pl := by rw [List.take_add_one, h1]; simp
  have h3 : (fsts l).flatMap At.pl = ((fsts l).take (j + 1)).flatMap At.pl ++ ((fsts l).drop (j + 1)).flatMap At.pl := by rw [← List.flatMap_append, List.take_append_drop]
  unfold sl8s
  rw [h3, h2]
  simp only [List.length_append]
  omega
theorem sl8s_drop (l : List (At × Value)) (j : Nat) (x) (h : l[j]? = some x) : ((((fsts l).drop (j + 1)).reverse).flatMap At.pl).length + x.1.pl.length ≤ sl8s l := by
  have h1 : (fsts l)[j]? = some x.1 := by unfold fsts; rw [List.getElem?_map, h]; rfl
  have h3 : (fsts l).flatMap At.pl = ((fsts l).take j).flatMap At.pl ++ (x.1.pl ++ ((fsts l).drop (j + 1)).flatMap At.pl) := by
    have hj := (List.getElem?_eq_some_iff.1 h1).1
    have e : (fsts l).drop j = x.1 :: (fsts l).drop (j + 1) := by rw [List.drop_eq_getElem_cons hj]; congr 1; exact (List.getElem?_eq_some_iff.1 h1).2
    have : x.1.pl ++ ((fsts l).drop (j + 1)).flatMap At.pl = ((fsts l).drop j).flatMap At.pl := by rw [e, List.flatMap_cons]
    rw [this, ← List.flatMap_append, List.take_append_drop]
  have h4 : ((((fsts l).drop (j + 1)).reverse).flatMap At.pl).length = (((fsts l).drop (j + 1)).flatMap At.pl).length := by
    rw [List.length_flatMap, List.length_flatMap, List.map_reverse, List.sum_reverse_nat]
  unfold sl8s
  rw [h4, h3]
  simp only [List.length_append]
  omega
theorem up8s (l : List (At × Value)) (E : List (At × Int)) (j : Nat) (x) (h : l[j]? = some x) : ((fsts l).take (j + 1)).foldl aF8 E = aF8 (((fsts l).take j).foldl aF8 E) x.1 := by
  have h1 : (fsts l)[j]? = some x.1 := by unfold fsts; rw [List.getElem?_map, h]; rfl
  rw [List.take_add_one, h1]
  simp
theorem dn8s (l : List (At × Value)) (E : List (At × Int)) (j : Nat) (x) (h : l[j]? = some x) : ((fsts l).drop j).reverse.foldl aF8 E = aF8 (((fsts l).drop (j + 1)).reverse.foldl aF8 E) x.1 := by
  have h1 : (fsts l)[j]? = some x.1 := by unfold fsts; rw [List.getElem?_map, h]; rfl
  have hj := (List.getElem?_eq_some_iff.1 h1).1
  have e : (fsts l).drop j = x.1 :: (fsts l).drop (j + 1) := by rw [List.drop_eq_getElem_cons hj]; congr 1; exact (List.getElem?_eq_some_iff.1 h1).2
  rw [e, List.reverse_cons, List.foldl_append]
  rfl
def pb8 : At := ⟨⟨0, 0, ⟨#[]⟩⟩, ⟨#[80]⟩, []⟩
theorem pb8_no (E : List (At × Int)) : aF8 E pb8 = E := by
  have : pb8.fact = false := by decide
  unfold aF8
  rw [this]
  rfl
theorem pb8_k : (∀ t ∈ pb8.pl, KeyT t) ∧ KeyP pb8.pd8 := ⟨fun t ht => by
  obtain rfl : t = ⟨0, 0, ⟨#[]⟩⟩ := by simpa [pb8, At.pl] using ht
  exact keyT_of (by decide) (by decide) (by decide) (by decide) (by decide), ⟨by show (ByteArray.mk #[80]).size ≤ maxLen; unfold maxLen; decide, wfI8 (by decide) (by decide)⟩⟩
theorem at_get8 {w Y : World} {la : Option Addr} {l : List (At × Value)} {k : Nat} {x : At × Value} (hlr : l = [] ∨ ∃ b o, la = some ⟨b, o, none⟩ ∧ ARow w b o l) (hx : l[k]? = some x) (hbl : Below w.heap.size w Y) (kt : TsP w x.2 x.1.args) :
    ∃ lb lo xa xc, la = some ⟨lb, lo, none⟩ ∧ x.2 = .slice xa x.1.args.length xc ∧ Y.cell? ⟨lb, lo + k * 5, none⟩ = some (.int .i64 x.1.by_.k) ∧ Y.cell? ⟨lb, lo + k * 5 + 1, none⟩ = some (.int .i64 x.1.by_.n) ∧ Y.cell? ⟨lb, lo + k * 5 + 2, none⟩ = some (.string x.1.by_.s) ∧ Y.cell? ⟨lb, lo + k * 5 + 3, none⟩ = some (.string x.1.name) ∧ Y.cell? ⟨lb, lo + k * 5 + 4, none⟩ = some x.2 := by
  rcases hlr with hr | ⟨lb, lo, rfl, hlr⟩
  · rw [hr] at hx; simp at hx
  obtain ⟨a0, a1, a2, a3, a4⟩ := (hlr.2 k x hx)
  obtain ⟨xa, xc, hsh⟩ := kt.shape
  exact ⟨lb, lo, xa, xc, rfl, hsh, cell_step hbl hlr.1 a0, cell_step hbl hlr.1 a1, cell_step hbl hlr.1 a2, cell_step hbl hlr.1 a3, cell_step hbl hlr.1 a4⟩
theorem nodup_le8 {α : Type} {l : List α} : ∀ {L : List α}, l.Nodup → (∀ x ∈ l, x ∈ L) → l.length ≤ L.length := by
  induction l with
  | nil => intro L _ _; simp
  | cons a l ih =>
    intro L hn hs
    obtain ⟨hn1, hn2⟩ := List.nodup_cons.1 hn
    obtain ⟨s, t, rfl⟩ := List.append_of_mem (hs a (List.mem_cons_self ..))
    have h1 : ∀ x ∈ l, x ∈ s ++ t := fun x hx => by
      have h2 := hs x (List.mem_cons_of_mem _ hx)
      rw [List.mem_append, List.mem_cons] at h2
      rw [List.mem_append]
      rcases h2 with h2 | h2 | h2
      · exact Or.inl h2
      · exact absurd (h2 ▸ hx) hn1
      · exact Or.inr h2
    have := ih hn2 h1
    simp only [List.length_append, List.length_cons] at this ⊢
    omega
/-- The state between two rounds. -/
def BSt (w : World) (g h : Nat) (P : List (List (At × Value) × Value)) (j : Nat) (wr : World) : Prop :=
  ∃ m n E, Two w g h (fun _ => False) m n E E wr ∧ sz8 E ≤ zr8 (P.take j) ∧ m ≤ j * 8800000 ∧ n ≤ j * 8800000
set_option maxRecDepth 20000 in
set_option maxHeartbeats 2000000 in
theorem baseSets8_any (w : World) (rv tv : Value) (P : List (List (At × Value) × Value)) (T : List Int) (hR : Rn8 w rv P) (hT : Li Any w tv T) (hP : P.length ≤ 1048576) (hz : zr8 P ≤ 1048576) (hTl : T.length ≤ 1048576) :
    Calls Tryz.prog 5 #[rv, tv] w fun e w' => e = .returned (.bool true) ∧ Below w.heap.size w w' := by
  obtain ⟨ra, rc, rfl, hr, hrp⟩ := hR
  obtain ⟨ta, tc, rfl, htl, htc, htw, ht⟩ := hT
  have HR := hm7 hr
  have HRP := hm7 hrp
  have HT := hm7 ht
  have HP := hm7 hP
  have HZ := hm7 hz
  have HTL := hm7 hTl
  have HTW := hm7 htw
  clear hr hrp ht htw htl htc
  obtain ⟨n, hn⟩ : ∃ n, P.length = n := ⟨_, rfl⟩
  obtain ⟨nt, hnt⟩ : ∃ n, T.length = n := ⟨_, rfl⟩
  rw [hn, hnt]
  have HN := hm7 hn
  have HNT := hm7 hnt
  have n1 : n ≤ 1048576 := by omega
  have n2 : nt ≤ 1048576 := by omega
  clear hn hnt hP hTl hz
  go_enter Tryz.func5, Tryz.ntmps5
  go_upto_region 2 with (go_at_call 16; refine (two_new _).mono ?_; rintro e W1 ⟨g, A, rfl, h1⟩; have H1 := hm7 h1; clear h1)
  go_upto_region 3 with (go_at_call 16; refine (two_new2 H1.out).mono ?_; rintro e W2 ⟨h, rfl, h2⟩; have H2 := hm7 h2; clear h2 H1)
  go_wp2
  go_loopg [7, 8, 9, 10, 11, 12, 13] n (fun gg i _ _ _ _ _ _ wr => ∃ j : Nat, j + gg = n ∧ i = .int .i64 j ∧ BSt w g h P j wr)
  case atStart => exact ⟨0, by omega, rfl, 0, 0, [], H2.out, by simp [sz8], by omega, by omega⟩
  case round =>
    obtain ⟨j, hj, rfl, m, q, E, ht, hE, hm, hq⟩ := hrel
    cases gk with
    | succ gg =>
      have hlt : (j : Int) < (n : Int) := by omega
      have j0 : (0 : Int) ≤ (j : Int) := by omega
      obtain ⟨p, hp⟩ : ∃ p, P[j]? = some p := ⟨_, List.getElem?_eq_getElem (by have := HN.out; omega)⟩
      have hbl := ht.bl
      obtain ⟨hAs, hka⟩ := HRP.out p (List.mem_of_getElem? hp)
      have hzt := zr8_take P j p hp
      have hzl := zr8_le P (j + 1)
      have hzz := HZ.out
      have HKA := hm7 hka
      rcases HR.out with hr | ⟨rb, ro, rfl, hrl, hrc⟩
      · have := HN.out; rw [hr] at this; simp at this; omega
      have r0 := cell_step hbl hrl (hrc j p hp)
      obtain ⟨l, lv⟩ := p
      simp only at hAs HKA r0 hzt
      obtain ⟨la, lc, rfl, hll, hlr, -⟩ := hAs
      obtain ⟨ln, hln⟩ : ∃ ln, l.length = ln := ⟨_, rfl⟩
      rw [hln] at r0
      have HLN := hm7 hln
      have HLR := hm7 hlr
      have HZT := hm7 (show sz8 E + sl8s l ≤ 1048576 by omega)
      have HZJ := hm7 (show sz8 E + sl8s l ≤ zr8 (P.take (j + 1)) by omega)
      have hll8 : ln ≤ sl8s l := by
        rw [← hln]
        have : l.length = (fsts l).length := by simp [fsts]
        rw [this]
        unfold sl8s
        generalize fsts l = L
        induction L with
        | nil => simp
        | cons a L ih => rw [List.flatMap_cons, List.length_append, List.length_cons]; simp only [At.pl, List.length_cons]; omega
      have l1 : ln ≤ 1048576 := by have := HZT.out; omega
      have HT0 := hm7 ht
      have HND := hm7 ht.nd
      have HM := hm7 hm
      have HQ := hm7 hq
      clear ht hE hm hq hp hka hrc hln hlr hll hll8 hzt hzl hzz hbl
      go_wp2
      go_loopg [9] ln (fun g2 i wr => ∃ k : Nat, k + g2 = ln ∧ i = .int .i64 k ∧ Two w g h (fun _ => False) m q (((fsts l).take k).foldl aF8 E) E wr)
      case atStart => exact ⟨0, by omega, rfl, HT0.out⟩
      case round =>
        obtain ⟨k, hk, rfl, ht⟩ := hrel
        have HT2 := hm7 ht
        cases gk with
        | succ g2 =>
          have hlt2 : (k : Int) < (ln : Int) := by omega
          have k0 : (0 : Int) ≤ (k : Int) := by omega
          obtain ⟨x, hx⟩ : ∃ x, l[k]? = some x := ⟨_, List.getElem?_eq_getElem (by have := HLN.out; omega)⟩
          have hbl := ht.bl
          obtain ⟨kt, kk, kp⟩ := HKA.out x (List.mem_of_getElem? hx)
          have hup := up8s l E k x hx
          have hs1 := sl8s_take l k x hx
          have hs2 := sz8_Fs ((fsts l).take k) E
          have hs3 := HZT.out
          have HAD := hm7 (two_add ht x.1 x.2 (kt.later hbl) kk kp (by omega))
          rw [← hup] at HAD
          obtain ⟨lb, lo, xa, xc, rfl, hsh, a0, a1, a2, a3, a4⟩ := at_get8 HLR.out hx hbl kt
          obtain ⟨⟨⟨xk, xn, xs⟩, nm, al⟩, xv⟩ := x
          simp only at hsh a0 a1 a2 a3 a4 HAD
          subst hsh
          clear ht hbl kt kk kp hx hup hs1 hs2 hs3
          go_wp2_with (go_at_call 17; refine HAD.out.mono ?_; rintro e W3 ⟨⟨c, z, rfl⟩, h3⟩; have H3 := hm7 h3; clear h3 HAD HT2)
          go_roundg g2
          case measure => omega
          case rel => exact ⟨k + 1, by omega, by go_num, H3.out⟩
        | zero =>
          have hlt2 : ¬ (k : Int) < (ln : Int) := by omega
          have e1 : (fsts l).take k = fsts l := List.take_of_length_le (by have := HLN.out; simp [fsts]; omega)
          rw [e1] at HT2
          obtain ⟨E1, hE1⟩ : ∃ E1, (fsts l).foldl aF8 E = E1 := ⟨_, rfl⟩
          rw [hE1] at HT2
          have HE1 := hm7 hE1
          clear e1 hE1 ht HT0
          go_wp2
          go_loopg [10] ln (fun g3 i wr => ∃ y : Int, i = .int .i64 y ∧ y = (g3 : Int) - 1 ∧ g3 ≤ ln ∧ Two w g h (fun _ => False) m q E1 (((fsts l).drop g3).reverse.foldl aF8 E) wr)
          case atStart => exact ⟨(ln : Int) - 1, by go_num, rfl, Nat.le_refl _, by rw [List.drop_eq_nil_of_le (by have := HLN.out; simp [fsts]; omega)]; exact HT2.out⟩
          case round =>
            obtain ⟨y, rfl, hy, hgl, ht⟩ := hrel
            have HT3 := hm7 ht
            cases gk with
            | succ g3 =>
              obtain rfl : y = (g3 : Int) := by omega
              have hge : (0 : Int) ≤ (g3 : Int) := by omega
              have hlt3 : (g3 : Int) < (ln : Int) := by omega
              obtain ⟨x, hx⟩ : ∃ x, l[g3]? = some x := ⟨_, List.getElem?_eq_getElem (by have := HLN.out; omega)⟩
              have hbl := ht.bl
              obtain ⟨kt, kk, kp⟩ := HKA.out x (List.mem_of_getElem? hx)
              have hup := dn8s l E g3 x hx
              have hs1 := sl8s_drop l g3 x hx
              have hs2 := sz8_Fs (((fsts l).drop (g3 + 1)).reverse) E
              have hs3 := HZT.out
              have HAD := hm7 (two_add ht.swap x.1 x.2 (kt.later hbl) kk kp (by omega))
              rw [← hup] at HAD
              have HS4 := hm7 (show sz8 (((fsts l).drop g3).reverse.foldl aF8 E) + 1 ≤ 10000000 by rw [hup]; have := sz8_F (((fsts l).drop (g3 + 1)).reverse.foldl aF8 E) x.1; omega)
              have HX := hm7 (show ∀ Y : World, Below w.heap.size w Y → ∃ lb lo xa xc, la = some ⟨lb, lo, none⟩ ∧ x.2 = .slice xa x.1.args.length xc ∧ Y.cell? ⟨lb, lo + g3 * 5, none⟩ = some (.int .i64 x.1.by_.k) ∧ Y.cell? ⟨lb, lo + g3 * 5 + 1, none⟩ = some (.int .i64 x.1.by_.n) ∧ Y.cell? ⟨lb, lo + g3 * 5 + 2, none⟩ = some (.string x.1.by_.s) ∧ Y.cell? ⟨lb, lo + g3 * 5 + 3, none⟩ = some (.string x.1.name) ∧ Y.cell? ⟨lb, lo + g3 * 5 + 4, none⟩ = some x.2 from fun Y hY => at_get8 HLR.out hx hY kt)
              have HKT := hm7 kt
              have HKK := hm7 kk
              have HKP := hm7 kp
              have HXL := hm7 (show x.1.pl.length ≤ 1048576 by omega)
              obtain ⟨lb, lo, xa, xc, rfl, hsh, a0, a1, a2, a3, a4⟩ := at_get8 HLR.out hx hbl kt
              obtain ⟨⟨⟨xk, xn, xs⟩, nm, al⟩, xv⟩ := x
              simp only at hsh a0 a1 a2 a3 a4 HAD HX HKT HKK HKP HXL
              subst hsh
              have HXA : Hid (∀ Y : World, Below w.heap.size w Y → Y.cell? ⟨lb, lo + g3 * 5, none⟩ = some (.int .i64 xk) ∧ Y.cell? ⟨lb, lo + g3 * 5 + 1, none⟩ = some (.int .i64 xn) ∧ Y.cell? ⟨lb, lo + g3 * 5 + 2, none⟩ = some (.string xs) ∧ Y.cell? ⟨lb, lo + g3 * 5 + 3, none⟩ = some (.string nm) ∧ Y.cell? ⟨lb, lo + g3 * 5 + 4, none⟩ = some (.slice xa al.length xc)) := fun Y hY => by
                obtain ⟨lb', lo', xa', xc', e1, e2, k0, k1, k2, k3, k4⟩ := HX.out Y hY
                cases e1
                exact ⟨k0, k1, k2, k3, k4⟩
              have HGL := hm7 hgl
              clear hy hgl ht hbl kt kk kp hx hup hs1 hs2 hs3 HX
              go_upto_region 17 with (go_at_call 17; refine HAD.out.mono ?_; rintro e W3 ⟨⟨c, z, rfl⟩, h3⟩; have H3 := hm7 h3.swap; clear h3 HAD HT3 a0 a1 a2 a3 a4; obtain ⟨a0, a1, a2, a3, a4⟩ := HXA.out _ H3.out.bl)
              have HXL2 := hm7 (show al.length ≤ 1048576 by have := HXL.out; simp [At.pl] at this; omega)
              go_upto_region 18 with (go_at_call 18; refine (two_find H3.out.swap _ ⟨⟨xk, xn, xs⟩, nm, al⟩ _ (HKT.out.later H3.out.bl) (by have := HXL2.out; show al.length ≤ _; omega)).mono ?_; rintro e W4 ⟨v4, rfl, h4⟩; have H4 := hm7 h4.swap; clear h4 H3 a0 a1 a2 a3 a4; obtain ⟨a0, a1, a2, a3, a4⟩ := HXA.out _ H4.out.bl)
              go_upto_region 19 with (go_at_call 8; refine (two_part H4.out.swap ⟨⟨xk, xn, xs⟩, nm, al⟩ _ (HKT.out.later H4.out.bl) HKK.out HKP.out (by have := HXL.out; omega)).mono ?_; rintro e W5 ⟨q5, rfl, h5⟩; have H5 := hm7 (H4.out.below h5); clear h5 H4 a0 a1 a2 a3 a4)
              go_wp2_with (go_at_call 17; refine (two_add H5.out.swap pb8 _ (Or.inl ⟨rfl, rfl⟩) pb8_k.1 pb8_k.2 HS4.out).mono ?_; rw [pb8_no]; rintro e W6 ⟨⟨c, z, rfl⟩, h6⟩; have H6 := hm7 h6.swap; clear h6 H5)
              go_roundg g3
              case measure => omega
              case rel => exact ⟨(g3 : Int) - 1, by go_num, rfl, by have := HGL.out; omega, H6.out⟩
            | zero =>
              obtain rfl : y = -1 := by omega
              have HT4 : Hid (Two w g h (fun _ => False) m q E1 E1 wr) := by
                have h1 := aFs8_rev (fsts l) (E := E) (by exact HND.out)
                rw [HE1.out] at h1
                exact ht.perm h1.symm
              clear hy hgl ht HT3 HT2
              go_wp2
              obtain ⟨mt, hmt⟩ : ∃ mt, (if ln = 0 then 0 else nt) = mt := ⟨_, rfl⟩
              have HMT := hm7 hmt
              clear hmt
              go_loopg [11, 12] mt (fun g4 i _ wr => ∃ k : Nat, k + g4 = mt ∧ i = .int .i64 k ∧ Two w g h (fun _ => False) m q E1 E1 wr)
              case atStart => exact ⟨0, by omega, rfl, HT4.out⟩
              case round =>
                obtain ⟨k4, hk4, rfl, ht⟩ := hrel
                have HT5 := hm7 ht
                cases gk with
                | succ g4 =>
                  have h40 : ln ≠ 0 := fun e => by have := HMT.out; rw [if_pos e] at this; omega
                  have h41 : mt = nt := by have := HMT.out; rw [if_neg h40] at this; exact this.symm
                  have hlt4 : (k4 : Int) < (nt : Int) := by omega
                  have k40 : (0 : Int) ≤ (k4 : Int) := by omega
                  have hl0 : (ln : Int) > 0 := by omega
                  have hl1 : (0 : Int) < (ln : Int) := by omega
                  have hl2 : ¬ (ln : Int) = 0 := by omega
                  obtain ⟨z, hz⟩ : ∃ z, T[k4]? = some z := ⟨_, List.getElem?_eq_getElem (by have := HNT.out; omega)⟩
                  rcases HT.out with ⟨hT, -⟩ | ⟨tb, tof, rfl, htl, -, htc⟩
                  · rw [hT] at hz; simp at hz
                  have t0 := cell_step ht.bl htl (htc k4 z hz)
                  have HGT := hm7 hk4
                  have hl3 : 0 < ln := by omega
                  clear htc hz hk4 h41 h40 ht
                  go_upto_region 24 with fail
                  have hub : z.tmod (ln : Int) < (ln : Int) := Int.tmod_lt_of_pos z hl1
                  generalize z.tmod (ln : Int) = y at *
                  by_cases hy : (0 : Int) ≤ y
                  · obtain ⟨ya, rfl⟩ : ∃ ya : Nat, y = (ya : Int) := ⟨y.toNat, by omega⟩
                    obtain ⟨x, hx⟩ : ∃ x, l[ya]? = some x := ⟨_, List.getElem?_eq_getElem (by have := HLN.out; omega)⟩
                    have hbl := HT5.out.bl
                    obtain ⟨kt, kk, kp⟩ := HKA.out x (List.mem_of_getElem? hx)
                    have hs1 := sl8s_take l ya x hx
                    have hs3 := HZT.out
                    have hE1 : sz8 E1 ≤ 1048576 := by have h1 := sz8_Fs (fsts l) E; rw [HE1.out] at h1; unfold sl8s at hs3; omega
                    have hag : aF8 E1 x.1 = E1 := by
                      have := aF8_again (l := fsts l) (E := E) (a := x.1) (by unfold fsts; exact List.mem_map.2 ⟨x, List.mem_of_getElem? hx, rfl⟩)
                      rwa [HE1.out] at this
                    have HAD := hm7 (two_add HT5.out.swap x.1 x.2 (kt.later hbl) kk kp (by omega))
                    rw [hag] at HAD
                    obtain ⟨lb, lo, xa, xc, rfl, hsh, a0, a1, a2, a3, a4⟩ := at_get8 HLR.out hx hbl kt
                    obtain ⟨⟨⟨xk, xn, xs⟩, nm, al⟩, xv⟩ := x
                    simp only at hsh a0 a1 a2 a3 a4 HAD
                    subst hsh
                    clear hbl kt kk kp hx hs1 hs3 hE1 hag
                    go_wp2_with (go_at_call 17; refine HAD.out.mono ?_; rintro e W3 ⟨⟨c, z, rfl⟩, h3⟩; have H3 := hm7 h3.swap; clear h3 HAD HT5)
                    go_roundg g4
                    case measure => omega
                    case rel => exact ⟨k4 + 1, by have := HGT.out; omega, by go_num, H3.out⟩
                  · go_wp2
                    go_roundg g4
                    case measure => omega
                    case rel => exact ⟨k4 + 1, by have := HGT.out; omega, by go_num, HT5.out⟩
                | zero =>
                  go_upto_region 21 with fail
                  go_cut [80] from 72 to 80 (fun s80 wx => s80 = .bool false ∧ wx = wr)
                  case first =>
                    have hmt := HMT.out
                    by_cases h4 : (k4 : Int) < (nt : Int)
                    · have h40 : ln = 0 := by
                        by_cases e : ln = 0
                        · exact e
                        · rw [if_neg e] at hmt; omega
                      have hl2 : ¬ (ln : Int) > 0 := by omega
                      have hl3 : ¬ (0 : Int) < (ln : Int) := by omega
                      have HL0 := hm7 h40
                      clear h40 hmt hk4
                      go_wp2
                      go_meet
                      case rel => exact ⟨by rw [decide_eq_false (by have := HL0.out; omega)], rfl⟩
                    · clear hmt hk4
                      go_wp2
                      go_meet
                      case rel => exact ⟨rfl, rfl⟩
                  case rest =>
                    obtain ⟨rfl, rfl⟩ := hcut
                    have HS5 := hm7 (show sz8 E1 ≤ 1048576 ∧ sz8 E1 ≤ zr8 (P.take (j + 1)) by have h1 := sz8_Fs (fsts l) E; rw [HE1.out] at h1; have h2 := HZT.out; have h3 := HZJ.out; unfold sl8s at h2 h3; omega)
                    clear ht hk4 HT4
                    go_upto_region 28 with (first
                      | (go_at_call 19; refine (two_turn HT5.out (by have := HS5.out.1; omega)).mono ?_; rintro e W3 ⟨rfl, h3⟩; have H3 := hm7 h3.swap; clear h3 HT5)
                      | (go_at_call 19; refine (two_turn H3.out (by have := HS5.out.1; omega)).mono ?_; rintro e W4 ⟨rfl, h4⟩; have H4 := hm7 h4.swap; clear h4 H3))
                    have HS6 := hm7 (show sz8 (E1.map fun x => (x.1, tE8 x.2)) = sz8 E1 from sz8_map _ _)
                    generalize (E1.map fun x => (x.1, tE8 x.2)) = E2 at *
                    go_wp2
                    go_loopg [13] 8 (fun g5 i wr => ∃ p : Nat, p + g5 = 8 ∧ i = .int .i64 p ∧ ∃ m' q', Two w g h (fun _ => False) m' q' E2 E2 wr ∧ m' ≤ m + p * 1048576 ∧ q' ≤ q + p * 1048576)
                    case atStart => exact ⟨0, by omega, rfl, m, q, H4.out, by omega, by omega⟩
                    case round =>
                      obtain ⟨p, hp, rfl, m', q', ht, hm', hq'⟩ := hrel
                      have HT6 := hm7 ht
                      have HM' := hm7 hm'
                      have HQ' := hm7 hq'
                      clear ht hm' hq'
                      cases gk with
                      | succ g5 =>
                        have hlt5 : (p : Int) < 8 := by omega
                        have HB5 := hm7 (show m' ≤ 10000000000000 ∧ q' ≤ 10000000000000 by have := HM.out; have := HQ.out; have := HM'.out; have := HQ'.out; omega)
                        have HEL := hm7 (show sz8 E2 ≤ 1048576 by have := HS6.out; have := HS5.out.1; omega)
                        have HEN := hm7 (sz8_len E2)
                        go_wp2_with (first
                          | (go_at_call 7; refine (two_facts HT6.out _ (by have := HEL.out; omega) HB5.out.1).mono ?_; rintro e W5 ⟨fv1, Q1, rfl, f1, f2, f3, h5, -⟩; have HF1 := hm7 f1; have HF2 := hm7 f2; have HF3 := hm7 f3; have H5 := hm7 h5.swap; clear f1 f2 f3 h5 HT6)
                          | (go_at_call 7; refine (two_facts H5.out _ (by have := HEL.out; omega) HB5.out.2).mono ?_; rintro e W6 ⟨fv2, Q2, rfl, f1, f2, f3, h6, f4⟩; have HF4 := hm7 f1; have HF5 := hm7 f2; have HF6 := hm7 f3; have HF1' := hm7 (HF1.out.same fun b hb => f4 b (Or.inr hb)); have H6 := hm7 h6.swap.free; clear f1 f2 f3 f4 h6 H5 HF1)
                          | (go_at_call 20; have el1 : Q1.length ≤ 1048576 := (by have h1 := HF3.out.length_eq; have h2 := List.length_filter_le (fun x : At × Int => hp7 (p : Int) x.2) E2; rw [List.length_map, List.length_map] at h1; have := HEN.out; have := HEL.out; omega); have el2 : Q2.length ≤ 1048576 := (by have h1 := HF6.out.length_eq; have h2 := List.length_filter_le (fun x : At × Int => hp7 (p : Int) x.2) E2; rw [List.length_map, List.length_map] at h1; have := HEN.out; have := HEL.out; omega); have eqq := srtC8_eq HF2.out HF5.out (HF3.out.trans HF6.out.symm); refine (sameAtoms_any (Q1.map enc8) (Q2.map enc8) fv1 fv2 _ (HF1'.out.as (by omega)) (HF4.out.as (by omega))).mono ?_; rw [fsts_enc8, fsts_enc8, decide_eq_true eqq]; rintro e W7 ⟨rfl, hb⟩; have H7 := hm7 (H6.out.below hb); clear hb H6 el1 el2 eqq))
                        go_roundg g5
                        case measure => omega
                        case rel => exact ⟨p + 1, by omega, by go_num, _, _, H7.out, by have := HM'.out; have := HEN.out; have := HEL.out; omega, by have := HQ'.out; have := HEN.out; have := HEL.out; omega⟩
                      | zero =>
                        have hlt5 : ¬ (p : Int) < 8 := by omega
                        go_wp2
                        go_roundg gg
                        case measure => omega
                        case rel => exact ⟨j + 1, by omega, by go_num, _, _, E2, HT6.out, by have := HS6.out; have := HS5.out.2; omega, by have := HM.out; have := HM'.out; omega, by have := HQ.out; have := HQ'.out; omega⟩
    | zero =>
      have hlt : ¬ (j : Int) < (n : Int) := by omega
      have HT6 := hm7 ht
      have HEL := hm7 (show sz8 E ≤ 1048576 by have := zr8_le P j; have := HZ.out; omega)
      have HEN := hm7 (sz8_len E)
      clear ht hE hm hq
      go_wp2_with (first
        | (go_at_call 12; refine (two_preds HT6.out (by have := HEL.out; omega)).mono ?_; rintro e W5 ⟨v1, l1, rfl, f1, f2, f3, f4, hb⟩; have H5 := hm7 (HT6.out.below hb).swap; have HO := hm7 f1; have HF := hm7 (And.intro f2 (And.intro f3 f4)); clear f1 f2 f3 f4 hb HT6)
        | (go_at_call 12; refine (two_preds H5.out (by have := HEL.out; omega)).mono ?_; rintro e W6 ⟨v2, l2, rfl, f1, f2, f3, f4, hb⟩; have H6 := hm7 (H5.out.below hb).bl; have HO1 := hm7 (HO.out.later hb).tsP; have HO2 := hm7 f1.tsP; obtain rfl : l1 = l2 := srt8P_eq HF.out.2.1 f3 HF.out.1 f2 (fun p => (HF.out.2.2 p).trans (f4 p).symm); clear f1 f2 f3 f4 hb H5 HO)
        | (go_at_call 21; refine (lpreds8_yes l1 v1 v2 _ HO1.out HO2.out ?_).mono ?_; rotate_left; rintro e W7 ⟨rfl, hb⟩; have H7 := hm7 (H6.out.trans (hb.mono H6.out.size)); clear hb H6; rotate_left)
        | (go_at_call 13; refine (first8_any _).mono ?_; rintro e W8 ⟨rfl, hb⟩; have H8 := hm7 (H7.out.trans (hb.mono H7.out.size)); clear hb H7))
      · have h1 := nodup_le8 (L := E.map fun x => x.1.pd8) HF.out.1 fun p hp => by
          obtain ⟨x, hx, rfl⟩ := (HF.out.2.2 p).1 hp
          exact List.mem_map.2 ⟨x, hx, rfl⟩
        rw [List.length_map] at h1
        have := HEN.out
        have := HEL.out
        omega
      · go_ret
        exact ⟨rfl, H8.out⟩
end Go.Proofs.YtechceagghcipaaGreat

/-
  law 8: built.
-/
import Derived.Test.YtechceagghcipaaGreatEH1
import Derived.Test.YtechceagghcipaaGreatEH5
namespace Go.Proofs.YtechceagghcipaaGreat
open Go.RowKit
attribute [local go_sem ↓] Go.wp_at_zero Go.wp_at_succ

def Kd8 (l : List It8) : Prop := ∀ x ∈ l, (∀ t ∈ x.1.1.pl, KeyT t) ∧ KeyP x.1.1.pd8
def zo8 (Os : List Op8) : Nat := (Os.map Op8.sz).sum
theorem zo8_take (P : List Op8) (j : Nat) (p) (h : P[j]? = some p) : zo8 (P.take (j + 1)) = zo8 (P.take j) + p.a.1.pl.length := by
  unfold zo8
  rw [List.take_add_one, h, List.map_append, List.sum_append]
  simp [Op8.sz]
theorem zo8_le (P : List Op8) (j : Nat) : zo8 (P.take j) ≤ zo8 P := by
  have : zo8 P = zo8 (P.take j) + zo8 (P.drop j) := by
    unfold zo8
    rw [← List.sum_append, ← List.map_append, List.take_append_drop]
  omega
theorem bt_fr {W2 W3 : World} {base : Nat} {iv : Value} {l : List It8} {A A3 : Nat → Prop} (hI : IL8 W2 base iv l) (hd : ∀ b, Ib iv l b → ¬ A b) (hf : Fr A W2 W3) (hn : ∀ b, A3 b → A b ∨ W2.heap.size ≤ b) : IL8 W3 base iv l ∧ ∀ b, Ib iv l b → ¬ A3 b :=
  ⟨hI.same fun b hb => hf.block b (hI.lt hb).2 (hd b hb), fun b hb h3 => by
    rcases hn b h3 with h | h
    · exact hd b hb h
    · have := (hI.lt hb).2; omega⟩
theorem bt_add_done {w V W9 : World} {g : Nat} {A3 : Nat → Prop} {l : List It8} {iv v9 v7 : Value} {f : At} (hA : BP8 w A3 g 0 (sz8 (Ei l) + f.pl.length) (aE8 (Ei l) f) V) (hI : IL8 V w.heap.size iv l) (hd : ∀ b, Ib iv l b → ¬ A3 b) (ho : OwnIt W9 w.heap.size v9 (l ++ [((f, v7), 4)])) (hg : V.grownBy W9 iv.ownBlock) (hv : ∀ k, v9.ownBlock = some k → iv.ownBlock = some k ∨ V.heap.size ≤ k)
    (hx : OwnT V w.heap.size v7 f.args) (hn : f.args.length ≤ 1000000000) (hnew : ∀ b, v7.ownBlock = some b → ¬ A3 b ∧ iv.ownBlock ≠ some b) (hmem : f ∉ (Ei l).map Prod.fst) : Bt8 w g v9 (l ++ [((f, v7), 4)]) W9 := by
  refine ⟨A3, ?_, IL8.snoc hI ho hg hv hx hn (fun b hb => (hnew b hb).2), ?_⟩
  · have e : Ei (l ++ [((f, v7), 4)]) = aE8 (Ei l) f := by rw [Ei_app, aE8, if_neg hmem]; rfl
    rw [e, show sz8 (aE8 (Ei l) f) = sz8 (Ei l) + f.pl.length by rw [sz8_add, if_neg hmem]]
    exact hA.fr (Fr.grown hg (P := fun b => iv.ownBlock = some b) fun k e => e) fun b hb _ => ⟨hd b (Or.inl hb), (hI.o.lt b hb).1⟩
  · rintro b (hb | ⟨x, hx', hb⟩)
    · rcases hv b hb with h | h
      · exact hd b (Or.inl h)
      · intro ha; have := (hA.lt ha).2; omega
    · rcases List.mem_append.1 hx' with h | h
      · exact hd b (Or.inr ⟨x, h, hb⟩)
      · obtain rfl := List.mem_singleton.1 h
        exact (hnew b hb).1
/-- The items with the first k turned. -/
def tq8 (l : List It8) (k : Nat) : List It8 := (l.take k).map tI8 ++ l.drop k
theorem tq8_get {l : List It8} {k : Nat} {x : It8} (h : l[k]? = some x) : (tq8 l k)[k]? = some x := by
  have hk := (List.getElem?_eq_some_iff.1 h).1
  unfold tq8
  rw [List.getElem?_append_right (by simp; omega)]
  simp [Nat.min_eq_left (Nat.le_of_lt hk), h]
theorem tq8_set {l : List It8} {k : Nat} {x : It8} (h : l[k]? = some x) : (tq8 l k).set k (tI8 x) = tq8 l (k + 1) := by
  have hk := (List.getElem?_eq_some_iff.1 h).1
  have e : l.drop k = x :: l.drop (k + 1) := by rw [List.drop_eq_getElem_cons hk]; congr 1; exact (List.getElem?_eq_some_iff.1 h).2
  unfold tq8
  rw [List.set_append_right _ _ (by simp; omega), e, List.take_add_one, h]
  simp [Nat.min_eq_left (Nat.le_of_lt hk)]
theorem tq8_ib {iv : Value} {l : List It8} {k b : Nat} (h : Ib iv (tq8 l k) b) : Ib iv l b := by
  rcases h with h | ⟨x, hx, h⟩
  · exact Or.inl h
  · rcases List.mem_append.1 hx with hx | hx
    · obtain ⟨y, hy, rfl⟩ := List.mem_map.1 hx
      exact Or.inr ⟨y, List.mem_of_mem_take hy, h⟩
    · exact Or.inr ⟨x, List.mem_of_mem_drop hx, h⟩
theorem IL8.at {V : World} {base k n ic : Nat} {ia : Option Addr} {Q : List It8} {x : It8} (h : IL8 V base (.slice ia n ic) Q) (hx : Q[k]? = some x) : ∃ gb, ia = some ⟨gb, 0, none⟩ ∧ V.cell? ⟨gb, k * 6 + 5, none⟩ = some (.int .i64 x.2) ∧ V.frozen? ⟨gb, k * 6 + 5, none⟩ = false ∧ gb < V.heap.size := by
  have ho := h.o
  rcases h.o.2 with ⟨-, hn⟩ | ⟨g, cap', cur, hv, hb, hg, -⟩
  · rw [List.length_eq_zero_iff.1 hn] at hx; simp at hx
  · cases hv
    exact ⟨g, rfl, ho.cells k x hx 5 (by omega), frozen_of_row _ _ _ _ _ hg, (Array.getElem?_eq_some_iff.1 hg).1⟩
theorem tq8_same {l : List It8} {k : Nat} {x : It8} (h : l[k]? = some x) (hx : x.2 = 1) : tq8 l (k + 1) = tq8 l k := by
  have hg := tq8_get h
  have e : tI8 x = x := by
    obtain ⟨x1, px⟩ := x
    simp only at hx
    subst hx
    rfl
  rw [← tq8_set h, e]
  obtain ⟨hk, rfl⟩ := List.getElem?_eq_some_iff.1 hg
  exact List.set_getElem_self hk
theorem tq8_all (l : List It8) : tq8 l l.length = l.map tI8 := by simp [tq8]
def cn8 (l : List It8) (k : Nat) : Nat := ((Ei (l.take k)).filter fun x => hp7 4 x.2).length
theorem cn8_step {l : List It8} {k : Nat} {x : It8} (h : l[k]? = some x) : cn8 l (k + 1) = cn8 l k + if hp7 4 x.2 = true then 1 else 0 := by
  unfold cn8
  rw [List.take_add_one, h, Ei_app, List.filter_append, List.length_append]
  congr 1
  by_cases hp : hp7 4 x.2 = true
  · simp [Ei, hp]
  · simp [Ei, hp]
/-- What built answers. -/
def Br8 (w : World) (e : Ending) (w' : World) : Prop := ∃ g iv l, e = .returned (.tuple #[.pointer (some ⟨g, 0, none⟩), iv, .bool true]) ∧ Bt8 w g iv l w' ∧ sz8 (Ei l) ≤ 1048576 ∧ Kd8 l
/-- The state between two steps. -/
def Bu8 (w : World) (g : Nat) (Os : List Op8) (j : Nat) (iv : Value) (wr : World) : Prop := ∃ l, Bt8 w g iv l wr ∧ sz8 (Ei l) ≤ zo8 (Os.take j) ∧ Kd8 l
set_option maxRecDepth 20000 in
set_option maxHeartbeats 2000000 in
theorem built8_any (w : World) (sv : Value) (Os : List Op8) (hS : Sc8 w sv Os) (hl : Os.length ≤ 1048576) (hz : zo8 Os ≤ 1048576) :
    Calls Tryz.prog 6 #[sv] w (Br8 w) := by
  obtain ⟨sa, sc, rfl, hs, hok⟩ := hS
  have HS := hm7 hs
  have HOK := hm7 hok
  have HZ := hm7 hz
  obtain ⟨n, hn⟩ : ∃ n, Os.length = n := ⟨_, rfl⟩
  rw [hn]
  have HN := hm7 hn
  have n1 : n ≤ 1048576 := by omega
  clear hs hok hz hn hl
  go_enter Tryz.func6, Tryz.ntmps6
  go_upto_region 2 with (go_at_call 16; refine (two_new _).mono ?_; rintro e W1 ⟨g, A, rfl, h1⟩; have H1 := hm7 h1; clear h1)
  go_wp2
  go_loopg [7, 6, 8, 9, 10, 11, 12, 13, 14, 15] n (fun gg i iv _ _ _ _ _ _ _ _ wr => ∃ j : Nat, j + gg = n ∧ i = .int .i64 j ∧ Bu8 w g Os j iv wr)
  case atStart =>
    have h0 : ∀ b, Ib (.slice none 0 0) [] b → ¬ A b := fun b hb => by
      rcases hb with hb | ⟨x, hx, -⟩
      · cases hb
      · cases hx
    exact ⟨0, by omega, rfl, [], ⟨A, H1.out, IL8.nil _ _, h0⟩, by simp [sz8, Ei], nofun⟩
  case round =>
    obtain ⟨j, hj, rfl, l, ht, hE, hK⟩ := hrel
    obtain ⟨A, hA, hI, hd⟩ := ht
    obtain ⟨ia, ic, rfl⟩ := hI.o.form
    have hbl := hA.bl
    cases gk with
    | succ gg =>
      have hlt : (j : Int) < (n : Int) := by omega
      have j0 : (0 : Int) ≤ (j : Int) := by omega
      obtain ⟨p, hp⟩ : ∃ p, Os[j]? = some p := ⟨_, List.getElem?_eq_getElem (by have := HN.out; omega)⟩
      obtain ⟨kts, kk, knm⟩ := HOK.out p (List.mem_of_getElem? hp)
      have hz1 := zo8_take Os j p hp
      have hz2 := zo8_le Os (j + 1)
      have hz3 := HZ.out
      rcases HS.out with hr | ⟨sb, so, rfl, hsl, hsc⟩
      · have := HN.out; rw [hr] at this; simp at this; omega
      have hc := hsc j p hp
      obtain ⟨pk, ⟨⟨⟨fk, fn, fs⟩, nm, al⟩, fv⟩, pn, pt⟩ := p
      obtain ⟨fa, fc, hsh⟩ := kts.shape
      simp only at hsh
      subst hsh
      simp only [Op8.cs] at hc
      have c0 := cell_step hbl hsl (hc 0 _ rfl)
      rw [Nat.add_zero] at c0
      have c1 := cell_step hbl hsl (hc 1 _ rfl)
      rw [← Nat.add_assoc] at c1
      have c2 := cell_step hbl hsl (hc 2 _ rfl)
      rw [← Nat.add_assoc] at c2
      have c3 := cell_step hbl hsl (hc 3 _ rfl)
      rw [← Nat.add_assoc] at c3
      have c4 := cell_step hbl hsl (hc 4 _ rfl)
      rw [← Nat.add_assoc] at c4
      have c5 := cell_step hbl hsl (hc 5 _ rfl)
      rw [← Nat.add_assoc] at c5
      have c6 := cell_step hbl hsl (hc 6 _ rfl)
      rw [← Nat.add_assoc] at c6
      have c7 := cell_step hbl hsl (hc 7 _ rfl)
      rw [← Nat.add_assoc] at c7
      have HA := hm7 hA
      have HI := hm7 hI
      have HD := hm7 hd
      have HE := hm7 hE
      have HK := hm7 hK
      have HKT := hm7 kts
      have HKK := hm7 kk
      have HNM := hm7 knm
      have HZ1 := hm7 hz1
      simp only at HZ1 HKT HKK HNM
      have HZ2 := hm7 (show zo8 (Os.take (j + 1)) ≤ 1048576 by omega)
      clear hc hsc hp hA hI hd hE hK kts kk knm hz1 hz2 hz3
      go_upto_region 9 with fail
      have HBX := hm7 (Bk.new wr #[.int .i64 pk, .int .i64 fk, .int .i64 fn, .string fs, .string nm, .slice fa al.length fc, .int .i64 pn, .bool pt] 66)
      have HB1 := hm7 (below1 wr (.cells #[.int .i64 pk, .int .i64 fk, .int .i64 fn, .string fs, .string nm, .slice fa al.length fc, .int .i64 pn, .bool pt] 66))
      generalize wr.alloc (.cells #[.int .i64 pk, .int .i64 fk, .int .i64 fn, .string fs, .string nm, .slice fa al.length fc, .int .i64 pn, .bool pt] 66) = W2 at *
      have HA2 := hm7 (HA.out.below HB1.out)
      have HI2 := hm7 (HI.out.below HB1.out)
      have HCA := hm7 (show ¬ A wr.heap.size from fun h => by have := (HA.out.lt h).2; omega)
      have HCI := hm7 (show ¬ Ib (.slice ia l.length ic) l wr.heap.size from fun h => by have := (HI.out.lt h).2; omega)
      have HCW := hm7 (show w.heap.size ≤ wr.heap.size from hbl.size)
      generalize wr.heap.size = C at *
      clear c0 c1 c2 c3 c4 c5 c6 c7 HA HI hbl HB1
      have q0 := HBX.out.cell (i := 0) rfl
      by_cases hk1 : pk = 1
      · subst hk1
        have q1 := HBX.out.cell (i := 1) rfl
        have q2 := HBX.out.cell (i := 2) rfl
        have q3 := HBX.out.cell (i := 3) rfl
        have q4 := HBX.out.cell (i := 4) rfl
        have q5 := HBX.out.cell (i := 5) rfl
        obtain ⟨f, hf⟩ : ∃ f : At, f = ⟨⟨fk, fn, fs⟩, nm, al⟩ := ⟨_, rfl⟩
        have hfa : f.args = al := by rw [hf]
        have HPL := hm7 (show f.pl.length ≤ 1048576 ∧ f.pl.length = al.length + 1 ∧ sz8 (Ei l) + f.pl.length ≤ zo8 (Os.take (j + 1)) by
          have h1 := HZ1.out; have h2 := HZ2.out; have h3 := HE.out
          rw [← hf] at h1
          refine ⟨by omega, by rw [← hfa]; simp [At.pl], by omega⟩)
        have HKF := hm7 (show (∀ t ∈ f.pl, KeyT t) ∧ KeyP f.pd8 by rw [hf]; exact ⟨HKK.out, pd8_key HNM.out (by have := HPL.out; show al.length ≤ _; omega)⟩)
        have HTS := hm7 (show ∀ X : World, Below w.heap.size w X → TsP X (.slice fa al.length fc) f.args from fun X hX => by rw [hfa]; exact HKT.out.later hX)
        have HFA : Hid (∀ X : World, Below w.heap.size w X → Calls Tryz.prog 22 #[.agg #[.int .i64 fk, .int .i64 fn, .string fs, .string nm, .slice fa al.length fc]] X fun e Y' => e = .returned (.bool f.fact) ∧ Below X.heap.size X Y') := fun X hX => by
          have := fact_any f (.slice fa al.length fc) X ((HTS.out X hX).ts (by rw [hfa]; have := HPL.out; omega))
          rw [hf] at this ⊢
          exact this
        have HPC : Hid (∀ X : World, Below w.heap.size w X → IL8 X w.heap.size (.slice ia l.length ic) l → Calls Tryz.prog 11 #[.slice ia l.length ic, .agg #[.int .i64 fk, .int .i64 fn, .string fs, .string nm, .slice fa al.length fc]] X fun e Y' => e = .returned (.int .i64 (pl8 l f)) ∧ Below X.heap.size X Y') := fun X hX hI => by
          have := place8_any l (.slice ia l.length ic) f (.slice fa al.length fc) X hI.is ((HTS.out X hX).ts (by rw [hfa]; have := HPL.out; omega)) (by have h1 := HE.out; have h2 := sz8_len (Ei l); rw [Ei_len] at h2; have h3 := zo8_le Os j; have h4 := HZ.out; omega)
          rw [hf] at this ⊢
          exact this
        by_cases hfact : f.fact = true
        · by_cases hmem : f ∈ (Ei l).map Prod.fst
          · have HAD : Hid (Calls Tryz.prog 17 #[.pointer (some ⟨g, 0, none⟩), .agg #[.int .i64 fk, .int .i64 fn, .string fs, .string nm, .slice fa al.length fc]] W2 fun e Y' => e = .returned (.tuple #[.bool false, .int .i64 0]) ∧ BW8 w A g 0 (sz8 (Ei l)) (Ei l) W2 Y') := by
              have := bp_add_same HA2.out f (.slice fa al.length fc) (HTS.out _ HA2.out.bl) hfact HKF.out.1 HKF.out.2 (by rw [hfa]; have := HPL.out; omega) (by have := HPL.out; have := HZ2.out; omega) (by have := HPL.out; have := HZ2.out; have := sz8_len (Ei l); omega) hmem
              rw [hf] at this
              exact this
            rw [hfact] at HFA
            have hpl : ¬ pl8 l f < 0 := fun h => pl8_in.1 h hmem
            generalize pl8 l f = pv at *
            go_upto_region 12 with (go_at_call 17; refine HAD.out.mono ?_; rintro e W3 ⟨rfl, A3, k1, k2, k3⟩; have HA3 := hm7 k1; have HFR := hm7 k2; have HN3 := hm7 k3; clear k1 k2 k3 HAD)
            have HB3 := hm7 (HBX.out.fr HFR.out HCA.out)
            obtain ⟨hi3, hd3⟩ := bt_fr HI2.out HD.out HFR.out HN3.out
            have HI3 := hm7 hi3
            have HD3 := hm7 hd3
            clear hi3 hd3 q0 q1 q2 q3 q4 q5 HFR HN3 HA2 HI2 HBX
            have q1 := HB3.out.cell (i := 1) rfl
            have q2 := HB3.out.cell (i := 2) rfl
            have q3 := HB3.out.cell (i := 3) rfl
            have q4 := HB3.out.cell (i := 4) rfl
            have q5 := HB3.out.cell (i := 5) rfl
            go_upto_region 13 with (go_at_call 22; refine (HFA.out _ HA3.out.bl).mono ?_; rintro e W4 ⟨rfl, hb⟩; have HA4 := hm7 (HA3.out.below hb); have HI4 := hm7 (HI3.out.below hb); have HB4 := hm7 (HB3.out.below hb); clear hb HA3 HI3 HB3 HFA q1 q2 q3 q4 q5)
            have q1 := HB4.out.cell (i := 1) rfl
            have q2 := HB4.out.cell (i := 2) rfl
            have q3 := HB4.out.cell (i := 3) rfl
            have q4 := HB4.out.cell (i := 4) rfl
            have q5 := HB4.out.cell (i := 5) rfl
            go_wp2_with (go_at_call 11; refine (HPC.out _ HA4.out.bl HI4.out).mono ?_; rintro e W5 ⟨rfl, hb⟩; have HA5 := hm7 (HA4.out.below hb); have HI5 := hm7 (HI4.out.below hb); clear hb HA4 HI4 HB4 HPC q1 q2 q3 q4 q5)
            go_roundg gg
            case measure => omega
            case rel => exact ⟨j + 1, by omega, by go_num, l, ⟨A3, HA5.out, HI5.out, HD3.out⟩, by have := HPL.out; omega, HK.out⟩
          · have HAD : Hid (Calls Tryz.prog 17 #[.pointer (some ⟨g, 0, none⟩), .agg #[.int .i64 fk, .int .i64 fn, .string fs, .string nm, .slice fa al.length fc]] W2 fun e Y' => ∃ c : Bool, (c = true ↔ f ∉ (Ei l).map Prod.fst) ∧ e = .returned (.tuple #[.bool c, .int .i64 0]) ∧ BW8 w A g 0 (sz8 (Ei l) + f.pl.length) (aE8 (Ei l) f) W2 Y') := by
              have := bp_add HA2.out f (.slice fa al.length fc) (HTS.out _ HA2.out.bl) hfact HKF.out.1 HKF.out.2 (by rw [hfa]; have := HPL.out; omega) (by have := HPL.out; have := HZ2.out; omega) (by have := HPL.out; have := HZ2.out; have := sz8_len (Ei l); omega)
              rw [hf] at this ⊢
              exact this
            rw [hfact] at HFA
            have hpl : pl8 l f < 0 := pl8_in.2 hmem
            have HMEM := hm7 hmem
            generalize pl8 l f = pv at *
            go_upto_region 12 with (go_at_call 17; refine HAD.out.mono ?_; rintro e W3 ⟨c, hc, rfl, A3, k1, k2, k3⟩; obtain rfl : c = true := hc.2 HMEM.out; have HA3 := hm7 k1; have HFR := hm7 k2; have HN3 := hm7 k3; clear hc k1 k2 k3 HAD)
            have HB3 := hm7 (HBX.out.fr HFR.out HCA.out)
            obtain ⟨hi3, hd3⟩ := bt_fr HI2.out HD.out HFR.out HN3.out
            have HI3 := hm7 hi3
            have HD3 := hm7 hd3
            have HCA3 := hm7 (show ¬ A3 C from fun h => by rcases HN3.out C h with h | h; exact HCA.out h; have := HBX.out.lt; omega)
            clear hi3 hd3 q0 q1 q2 q3 q4 q5 HFR HN3 HA2 HI2 HBX
            have q1 := HB3.out.cell (i := 1) rfl
            have q2 := HB3.out.cell (i := 2) rfl
            have q3 := HB3.out.cell (i := 3) rfl
            have q4 := HB3.out.cell (i := 4) rfl
            have q5 := HB3.out.cell (i := 5) rfl
            go_upto_region 13 with (go_at_call 22; refine (HFA.out _ HA3.out.bl).mono ?_; rintro e W4 ⟨rfl, hb⟩; have HA4 := hm7 (HA3.out.below hb); have HI4 := hm7 (HI3.out.below hb); have HB4 := hm7 (HB3.out.below hb); clear hb HA3 HI3 HB3 HFA q1 q2 q3 q4 q5)
            have q1 := HB4.out.cell (i := 1) rfl
            have q2 := HB4.out.cell (i := 2) rfl
            have q3 := HB4.out.cell (i := 3) rfl
            have q4 := HB4.out.cell (i := 4) rfl
            have q5 := HB4.out.cell (i := 5) rfl
            go_upto_region 17 with (go_at_call 11; refine (HPC.out _ HA4.out.bl HI4.out).mono ?_; rintro e W5 ⟨rfl, hb⟩; have HA5 := hm7 (HA4.out.below hb); have HI5 := hm7 (HI4.out.below hb); have HB5 := hm7 (HB4.out.below hb); clear hb HA4 HI4 HB4 HPC q1 q2 q3 q4 q5)
            have q1 := HB5.out.cell (i := 1) rfl
            have q2 := HB5.out.cell (i := 2) rfl
            have q3 := HB5.out.cell (i := 3) rfl
            have q4 := HB5.out.cell (i := 4) rfl
            have q5 := HB5.out.cell (i := 5) rfl
            go_upto_region 18 with fail
            have HBD := hm7 (Bk.new W5 #[.int .i64 fk, .int .i64 fn, .string fs, .string nm, .slice none 0 0] 34)
            have HB6 := hm7 (below1 W5 (.cells #[.int .i64 fk, .int .i64 fn, .string fs, .string nm, .slice none 0 0] 34))
            generalize W5.alloc (.cells #[.int .i64 fk, .int .i64 fn, .string fs, .string nm, .slice none 0 0] 34) = W6 at *
            have HA6 := hm7 (HA5.out.below HB6.out)
            have HI6 := hm7 (HI5.out.below HB6.out)
            have HBC := hm7 (HB5.out.below HB6.out)
            have HDA := hm7 (show ¬ A3 W5.heap.size from fun h => by have := (HA5.out.lt h).2; omega)
            have HDI := hm7 (show ¬ Ib (.slice ia l.length ic) l W5.heap.size from fun h => by have := (HI5.out.lt h).2; omega)
            have HDW := hm7 (show w.heap.size ≤ W5.heap.size from HA5.out.bl.size)
            generalize W5.heap.size = D at *
            clear q1 q2 q3 q4 q5 HA5 HI5 HB5 HB6
            have q5 := HBC.out.cell (i := 5) rfl
            have d4 := HBD.out.cell (i := 4) rfl
            have HTS6 := hm7 (HKT.out.later HA6.out.bl)
            go_upto_region 19 with (at_builtin; refine app_terms rfl _ _ rfl W6.heap.size (.slice none 0 0) [] rfl (World.ownsRow_nil _ _ _ _) _ al rfl HTS6.out (by have := HPL.out; simp; omega) (Nat.le_refl _) ?_; intro v7 W7 ho7 hb7 hg7; have HO7 := hm7 ho7; have HB7 := hm7 hb7; obtain ⟨va, vc, ev, -⟩ := row7_form ho7; subst ev; have f4 := (HBD.out.below hb7).froz 4; have xl := (HBD.out.below hb7).lt; have d7 := (HBD.out.below hb7).cell (i := 4) rfl; clear ho7 hb7 hg7 q5 d4)
            have HBD8 := hm7 (show Bk (W7.setCell ⟨D, 4, none⟩ (.slice va al.length vc)) D #[.int .i64 fk, .int .i64 fn, .string fs, .string nm, .slice va al.length vc] 34 from (HBD.out.below HB7.out).set 4 (.slice va al.length vc))
            have HFD := hm7 (show Fr (fun b => b = D) W7 (W7.setCell ⟨D, 4, none⟩ (.slice va al.length vc)) from (Fr.refl _ _).set (Or.inl rfl))
            have HO8 := hm7 (show OwnT (W7.setCell ⟨D, 4, none⟩ (.slice va al.length vc)) W6.heap.size (.slice va al.length vc) al from row8_same HO7.out fun b hb => heap_setCell_other _ _ _ _ (fun e => by have h1 := (HO7.out.lt b hb).1; have h2 := HBD.out.lt; simp only at e; omega))
            have HA8 := hm7 ((HA6.out.below HB7.out).fr HFD.out fun b hb _ => by subst hb; exact ⟨HDA.out, HDW.out⟩)
            have HI8 := hm7 ((HI6.out.below HB7.out).same fun b hb => HFD.out.block b ((HI6.out.below HB7.out).lt hb).2 (fun e => HDI.out (e ▸ hb)))
            have HS8 := hm7 (show W6.heap.size ≤ (W7.setCell ⟨D, 4, none⟩ (.slice va al.length vc)).heap.size from Nat.le_trans HB7.out.size HFD.out.size)
            have HLA := hm7 (fun b (h : A3 b) => (HA6.out.lt h).2)
            have HW6 := hm7 HA6.out.bl.size
            have HLI := hm7 (fun b (h : Ib (.slice ia l.length ic) l b) => (HI6.out.lt h).2)
            generalize W7.setCell ⟨D, 4, none⟩ (.slice va al.length vc) = W8 at *
            clear HBD HFD HA6 HI6 HBC HTS6 HO7 HB7 f4 xl d7
            obtain ⟨⟨d0, d1⟩, d2, d3, d4⟩ := five8 HBD8.out
            go_wp2_with (at_builtin; refine iapp_one rfl _ _ rfl w.heap.size (.slice ia l.length ic) l rfl (HI8.out.o.later (below1 _ _)) W8.heap.size ((f, .slice va al.length vc), 4) rfl (by rw [hf]; exact Bk.new _ _ _) (by rw [hf]; simp [icell, acell, Value.oneCell']) (by have h1 := HE.out; have h2 := sz8_len (Ei l); rw [Ei_len] at h2; have h3 := zo8_le Os j; have h4 := HZ.out; omega) (Nat.le_trans HA8.out.bl.size (below1 _ _).size) ?_; intro v9 W9 ho9 hb9 hg9 hv9; have HO9 := hm7 ho9; have HG9 := hm7 hg9; have HV9 := hm7 hv9; clear ho9 hb9 hg9 hv9)
            go_roundg gg
            case measure => omega
            case rel =>
              have hb1 := below1 W8 (.cells #[.int .i64 fk, .int .i64 fn, .string fs, .string nm, .slice va al.length vc, .int .i64 4] 36)
              have hz9 := HPL.out
              have hnew : ∀ b, (Value.slice va al.length vc).ownBlock = some b → ¬ A3 b ∧ (Value.slice ia l.length ic).ownBlock ≠ some b := fun b hb => by
                have h1 := (HO8.out.lt b hb).1
                exact ⟨fun h => by have := HLA.out b h; omega, fun h => by have := HLI.out b (Or.inl h); omega⟩
              have hto : OwnT W8 w.heap.size (.slice va al.length vc) f.args := by rw [hfa]; exact row7_mono HO8.out HW6.out
              have key := bt_add_done (HA8.out.below hb1) (HI8.out.below hb1) HD3.out HO9.out HG9.out HV9.out (hto.later hb1) (by rw [hfa]; omega) hnew HMEM.out
              refine ⟨j + 1, by omega, by go_num, _, key, ?_, fun x hx => ?_⟩
              · have e : Ei (l ++ [((f, .slice va al.length vc), 4)]) = aE8 (Ei l) f := by rw [Ei_app, aE8, if_neg HMEM.out]; rfl
                rw [e, sz8_add, if_neg HMEM.out]
                exact hz9.2.2
              · rcases List.mem_append.1 hx with h | h
                · exact HK.out x h
                · obtain rfl := List.mem_singleton.1 h
                  exact HKF.out
        · have hff : f.fact = false := by simpa using hfact
          have HAD : Hid (Calls Tryz.prog 17 #[.pointer (some ⟨g, 0, none⟩), .agg #[.int .i64 fk, .int .i64 fn, .string fs, .string nm, .slice fa al.length fc]] W2 fun e Y' => e = .returned (.tuple #[.bool false, .int .i64 81]) ∧ Below W2.heap.size W2 Y') := by
            have := badd8_no f (.slice fa al.length fc) g W2 (HTS.out _ HA2.out.bl) (by rw [hfa]; have := HPL.out; omega) hff
            rw [hf] at this
            exact this
          rw [hff] at HFA
          clear hff hfact HPC
          go_upto_region 12 with (go_at_call 17; refine HAD.out.mono ?_; rintro e W3 ⟨rfl, hb⟩; have HA3 := hm7 (HA2.out.below hb); have HI3 := hm7 (HI2.out.below hb); have HB3 := hm7 (HBX.out.below hb); clear hb HAD HA2 HI2 HBX q0 q1 q2 q3 q4 q5)
          have q1 := HB3.out.cell (i := 1) rfl
          have q2 := HB3.out.cell (i := 2) rfl
          have q3 := HB3.out.cell (i := 3) rfl
          have q4 := HB3.out.cell (i := 4) rfl
          have q5 := HB3.out.cell (i := 5) rfl
          go_wp2_with (go_at_call 22; refine (HFA.out _ HA3.out.bl).mono ?_; rintro e W4 ⟨rfl, hb⟩; have HA4 := hm7 (HA3.out.below hb); have HI4 := hm7 (HI3.out.below hb); clear hb HA3 HI3 HB3 HFA q1 q2 q3 q4 q5)
          go_roundg gg
          case measure => omega
          case rel => exact ⟨j + 1, by omega, by go_num, l, ⟨A, HA4.out, HI4.out, HD.out⟩, by have := HPL.out; omega, HK.out⟩
      · by_cases hk2 : pk = 2
        · subst hk2
          have HPOS := hm7 HA2.out.pos
          have hll : l.length ≤ 1048576 := by have h2 := sz8_len (Ei l); rw [Ei_len] at h2; have h3 := HE.out; have h4 := zo8_le Os j; have h5 := HZ.out; omega
          go_wp2
          go_loopg [15, 14] l.length (fun g2 i nn wr => ∃ k : Nat, k + g2 = l.length ∧ i = .int .i64 k ∧ nn = .int .i64 (cn8 l k : Int) ∧ cn8 l k ≤ k ∧ BP8 w A g 0 (sz8 (Ei l)) (Ei l) wr ∧ IL8 wr w.heap.size (.slice ia l.length ic) (tq8 l k))
          case atStart => exact ⟨0, by omega, rfl, rfl, by simp [cn8, Ei], HA2.out, by simpa [tq8] using HI2.out⟩
          case round =>
            obtain ⟨k, hk, rfl, rfl, hcn, hA, hI⟩ := hrel
            have HA3 := hm7 hA
            have HI3 := hm7 hI
            cases gk with
            | succ g2 =>
              have hlt2 : (k : Int) < (l.length : Int) := by omega
              have k0 : (0 : Int) ≤ (k : Int) := by omega
              obtain ⟨x, hx⟩ : ∃ x, l[k]? = some x := ⟨_, List.getElem?_eq_getElem (by omega)⟩
              have hget := tq8_get hx
              obtain ⟨gb, rfl, e5, z5, hgb⟩ := hI.at hget
              have HX := hm7 hx
              have HCN := hm7 hcn
              have HSTEP := hm7 (cn8_step hx)
              have HSAME := hm7 (tq8_same hx)
              have HGA := hm7 (HD.out gb (Or.inl rfl))
              have HGW := hm7 (hI.o.lt gb rfl).1
              have HPART := hm7 (fun q => hI.part hget q)
              have HTQ := hm7 (tq8_set hx)
              have hpos : x.2 = 1 ∨ x.2 = 2 ∨ x.2 = 4 := HPOS.out (x.1.1, x.2) (by unfold Ei; exact List.mem_map.2 ⟨x, List.mem_of_getElem? hx, rfl⟩)
              clear hA hI hcn hget hx
              obtain ⟨x1, px⟩ := x
              simp only at e5 hpos HSAME HSTEP HPART
              unfold tI8 at HTQ
              simp only at HTQ
              rcases hpos with rfl | rfl | rfl
              · go_wp2
                go_roundg g2
                case measure => omega
                case rel => exact ⟨k + 1, by omega, by go_num, by rw [HSTEP.out, if_neg (by decide)]; rfl, by rw [HSTEP.out, if_neg (by decide)]; have := HCN.out; omega, HA3.out, by rw [HSAME.out (by trivial)]; exact HI3.out⟩
              · go_wp2
                go_roundg g2
                case measure => omega
                case rel => exact ⟨k + 1, by omega, by go_num, by rw [HSTEP.out, if_neg (by decide)]; rfl, by rw [HSTEP.out, if_neg (by decide)]; have := HCN.out; omega, HA3.out.fr ((Fr.refl (fun b => b = gb) _).set (Or.inl rfl)) fun b hb _ => by (subst hb; exact ⟨HGA.out, HGW.out⟩), by rw [← HTQ.out]; exact HPART.out 1⟩
              · have hcw : (cn8 l k : Int) ≤ 1048576 := by have h1 := HCN.out; have h2 := sz8_len (Ei l); rw [Ei_len] at h2; have h3 := HE.out; have h4 := zo8_le Os j; have h5 := HZ.out; omega
                go_wp2
                go_roundg g2
                case measure => omega
                case rel => exact ⟨k + 1, by omega, by go_num, by rw [HSTEP.out, if_pos (by decide)]; go_num, by rw [HSTEP.out, if_pos (by decide)]; have := HCN.out; omega, HA3.out.fr ((Fr.refl (fun b => b = gb) _).set (Or.inl rfl)) fun b hb _ => by (subst hb; exact ⟨HGA.out, HGW.out⟩), by rw [← HTQ.out]; exact HPART.out 2⟩
            | zero =>
              have hlt2 : ¬ (k : Int) < (l.length : Int) := by omega
              obtain rfl : k = l.length := by omega
              have ecn : cn8 l l.length = ((Ei l).filter fun x => hp7 4 x.2).length := by unfold cn8; rw [List.take_length]
              rw [tq8_all] at HI3
              have HTU := hm7 (bp_turn hA (by have h2 := sz8_len (Ei l); have h3 := HE.out; have h4 := zo8_le Os j; have h5 := HZ.out; omega))
              rw [← ecn] at HTU
              have HDT := hm7 (show ∀ b, Ib (.slice ia l.length ic) (l.map tI8) b → ¬ A b from fun b hb => HD.out b (tq8_ib (k := l.length) (by rw [tq8_all]; exact hb)))
              clear hA hI hcn ecn HA3
              go_wp2_with (go_at_call 19; refine HTU.out.mono ?_; rintro e W3 ⟨rfl, A3, k1, k2, k3⟩; have HA4 := hm7 k1; have HFR := hm7 k2; have HN3 := hm7 k3; clear k1 k2 k3 HTU)
              go_roundg gg
              case measure => omega
              case rel =>
                obtain ⟨hi4, hd4⟩ := bt_fr HI3.out HDT.out HFR.out HN3.out
                have h9 := HA4.out
                rw [Ei_turn] at h9
                have h10 : sz8 (Ei (l.map tI8)) = sz8 (Ei l) := by rw [← Ei_turn, sz8_map]
                rw [← h10] at h9
                refine ⟨j + 1, by omega, by go_num, l.map tI8, ⟨A3, h9, hi4, hd4⟩, by rw [h10]; have := HZ1.out; have := HE.out; omega, fun x hx => ?_⟩
                obtain ⟨y, hy, rfl⟩ := List.mem_map.1 hx
                exact HK.out y hy
        · have HK1 := hm7 hk1
          go_wp2
          go_roundg gg
          case measure => omega
          case rel => exact ⟨j + 1, by omega, by go_num, l, ⟨A, HA2.out, HI2.out, HD.out⟩, by have := HZ1.out; have := HE.out; omega, HK.out⟩
    | zero =>
      have hlt : ¬ (j : Int) < (n : Int) := by omega
      have HA := hm7 hA
      have HI := hm7 hI
      have HD := hm7 hd
      have HK := hm7 hK
      have HE := hm7 (show sz8 (Ei l) ≤ 1048576 by have := zo8_le Os j; have := HZ.out; omega)
      clear hA hI hd hE hK hbl
      go_wp2
      go_ret3
      exact ⟨g, _, l, rfl, ⟨A, HA.out, HI.out, HD.out⟩, HE.out, HK.out⟩
end Go.Proofs.YtechceagghcipaaGreat

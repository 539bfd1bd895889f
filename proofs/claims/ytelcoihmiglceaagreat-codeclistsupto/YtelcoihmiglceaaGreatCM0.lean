import Derived.Test.YtelcoihmiglceaaGreatSD5
import Derived.Test.YtelcoihmiglceaaGreatW3
import Derived.Test.YtelcoihmiglceaaGreatCL8
import Derived.Test.YtelcoihmiglceaaGreatCD1
import Derived.Test.YtelcoihmiglceaaGreatCG4
import Derived.Test.YtelcoihmiglceaaGreatCD3
namespace Go.Proofs.YtelcoihmiglceaaGreat

abbrev ltC3 (a b : Ck) : Prop := cmpC a b < 0
theorem dkN_mem {l : List Cm} {k : Ck} : ∀ n, k ∈ dkN l n -> ∃ i c, i < n /\ l[i]? = some c /\ c.key = k
 | 0, h => by simp [dkN] at h
 | n + 1, h => by
  unfold dkN at h
  rcases List.mem_append.1 h with h | h
  ·obtain ⟨i, c, h1, h2⟩ := dkN_mem n h
   exact ⟨i, c, by omega, h2⟩
  ·cases hc : l[n]? with
   | none => rw [hc] at h; simp at h
   | some c =>
    rw [hc] at h
    simp only at h
    split at h
    ·rw [List.mem_singleton] at h; exact ⟨n, c, by omega, hc, h.symm⟩
    ·simp at h
theorem dkN_has {l : List Cm} : ∀ n i c, i < n -> l[i]? = some c -> c.key ∈ dkN l n
 | 0, _, _, h, _ => by omega
 | n + 1, i, c, h, hc => by
  unfold dkN
  by_cases hi : i = n
  ·subst hi
   rw [hc]
   simp only
   by_cases hk : kpt l i c = true
   ·rw [if_pos hk]; simp
   ·have hk' : kpt l i c = false := by simpa using hk
    rw [if_neg hk, List.append_nil]
    unfold kpt prv at hk'
    by_cases h0 : i = 0
    ·rw [if_pos h0] at hk'; cases hk'
    ·rw [if_neg h0] at hk'
     cases hp : l[i - 1]? with
     | none => rw [hp] at hk'; cases hk'
     | some p =>
      rw [hp] at hk'
      simp only [ne_eq, decide_not, Bool.not_eq_false', decide_eq_true_eq] at hk'
      rw [cmp_key] at hk'
      have := ord_c.zero _ _ hk'
      rw [<- this]
      exact dkN_has i (i - 1) p (by omega) hp
  ·exact List.mem_append.2 (Or.inl (dkN_has n i c (by omega) hc))
theorem dkN_rise {l : List Cm} (hs : srtC l) : ∀ n, (dkN l n).Pairwise ltC3
 | 0 => List.Pairwise.nil
 | n + 1 => by
  have ih := dkN_rise hs n
  cases hc : l[n]? with
  | none => unfold dkN; rw [hc]; simpa using ih
  | some c =>
   by_cases hk : kpt l n c = true
   ·rw [dkN_yes hc hk]
    refine List.pairwise_append.2 ⟨ih, List.pairwise_singleton _ _, fun a ha b hb => ?_⟩
    rw [List.mem_singleton] at hb
    subst hb
    obtain ⟨i, x, hi, hx, rfl⟩ := dkN_mem n ha
    have hsr : ∀ i j (x y : Cm), i < j -> l[i]? = some x -> l[j]? = some y -> cmpC x.key y.key <= 0 := fun i j x y hij hx hy => by
     obtain ⟨h1, rfl⟩ := List.getElem?_eq_some_iff.1 hx
     obtain ⟨h2, rfl⟩ := List.getElem?_eq_some_iff.1 hy
     exact List.pairwise_iff_getElem.1 hs i j h1 h2 hij
    unfold kpt prv at hk
    rw [if_neg (by omega)] at hk
    obtain ⟨p, hp⟩ : ∃ p, l[n - 1]? = some p := ⟨_, List.getElem?_eq_getElem (by have := (List.getElem?_eq_some_iff.1 hc).1; omega)⟩
    rw [hp] at hk
    simp only [ne_eq, decide_not, Bool.not_eq_true', decide_eq_false_iff_not] at hk
    rw [cmp_key] at hk
    have h1 := hsr (n - 1) n p c (by omega) hp hc
    have h2 : cmpC p.key c.key < 0 := by omega
    have h3 : cmpC x.key p.key <= 0 := by
     by_cases e : i = n - 1
     ·subst e; rw [hx] at hp; cases hp; rw [ord_c.refl]; omega
     ·exact hsr i (n - 1) x p (by omega) hx hp
    exact (ord_c.tr _ _ _ h3 h1).2 (Or.inr h2)
   ·rw [dkN_no hc (by simpa using hk)]; exact ih
theorem rise_uniq : ∀ (a b : List Ck), a.Pairwise ltC3 -> b.Pairwise ltC3 -> (∀ k, k ∈ a ↔ k ∈ b) -> a = b
 | [], [], _, _, _ => rfl
 | [], y :: b, _, _, h => absurd ((h y).2 (List.mem_cons_self ..)) (by simp)
 | x :: a, [], _, _, h => absurd ((h x).1 (List.mem_cons_self ..)) (by simp)
 | x :: a, y :: b, ha, hb, h => by
  obtain ⟨ha1, ha2⟩ := List.pairwise_cons.1 ha
  obtain ⟨hb1, hb2⟩ := List.pairwise_cons.1 hb
  have e : x = y := by
   rcases List.mem_cons.1 ((h x).1 (List.mem_cons_self ..)) with e | hx
   ·exact e
   ·rcases List.mem_cons.1 ((h y).2 (List.mem_cons_self ..)) with e | hy
    ·exact e.symm
    ·have h1 : cmpC y x < 0 := hb1 x hx
     have h2 : cmpC x y < 0 := ha1 y hy
     have := ord_c.neg x y
     omega
  subst e
  rw [rise_uniq a b ha2 hb2 fun k => ⟨fun hk => ?_, fun hk => ?_⟩]
  ·rcases List.mem_cons.1 ((h k).1 (List.mem_cons_of_mem _ hk)) with e | hk'
   ·have h1 : cmpC x k < 0 := ha1 k hk
    rw [e, ord_c.refl] at h1; omega
   ·exact hk'
  ·rcases List.mem_cons.1 ((h k).2 (List.mem_cons_of_mem _ hk)) with e | hk'
   ·have h1 : cmpC x k < 0 := hb1 k hk
    rw [e, ord_c.refl] at h1; omega
   ·exact hk'
structure SetK (K : List Ck) (l : List Cm) : Prop where
 rise : K.Pairwise ltC3
 mem : ∀ k, k ∈ K ↔ ∃ c ∈ l, c.key = k
theorem SetK.of {l l' : List Cm} (hp : l'.Perm l) (hs : srtC l') : SetK (dkN l' l'.length) l :=
 ⟨dkN_rise hs _, fun k => ⟨fun h => by
   obtain ⟨i, c, -, hc, e⟩ := dkN_mem _ h
   exact ⟨c, hp.mem_iff.1 (List.mem_of_getElem? hc), e⟩, fun ⟨c, hc, e⟩ => by
   obtain ⟨i, hi, hc⟩ := List.mem_iff_getElem.1 (hp.mem_iff.2 hc)
   subst e
   exact dkN_has _ i c hi (by rw [List.getElem?_eq_getElem hi, hc])⟩⟩
theorem SetK.uniq {K K' : List Ck} {l l' : List Cm} (h : SetK K l) (h' : SetK K' l') (hm : ∀ c, c ∈ l ↔ c ∈ l') : K = K' :=
 rise_uniq K K' h.rise h'.rise fun k => by rw [h.mem, h'.mem]; exact ⟨fun ⟨c, hc, e⟩ => ⟨c, (hm c).1 hc, e⟩, fun ⟨c, hc, e⟩ => ⟨c, (hm c).2 hc, e⟩⟩
end Go.Proofs.YtelcoihmiglceaaGreat
namespace Go.Proofs.YtelcoihmiglceaaGreat
open Go.RowKit
attribute [local go_sem ↓] Go.wp_at_zero Go.wp_at_succ

theorem dkN_len (l : List Cm) : ∀ n, (dkN l n).length <= n
 | 0 => Nat.le_refl _
 | n + 1 => by
  have := dkN_len l n
  unfold dkN
  rw [List.length_append]
  split
  ·split <;> simp <;> omega
  ·simp; omega
theorem set2_any (l : List Cm) (v : Value) (w : World) (h : CsP w v l) (hl : l.length <= 1000000000) (hz : ∀ c ∈ l, c.sml) :
  Calls Tryz.prog 36 #[v] w fun e w' => ∃ v' o, e = .returned v' /\ CsP w' v' o /\ o.length <= l.length /\ SetK (o.map Cm.key) l /\ Below w.heap.size w w' :=
 (set_any l v w h hl hz).mono fun e w' ⟨v', he, o, ho, l', hk, hp, hs, hb⟩ => ⟨v', o, he, ho.csp, by
  have h1 := dkN_len l' l'.length
  rw [<- hk, List.length_map, hp.length_eq] at h1
  exact h1, by rw [hk]; exact SetK.of hp hs, hb⟩
end Go.Proofs.YtelcoihmiglceaaGreat
namespace Go.Proofs.YtelcoihmiglceaaGreat
open Go.RowKit

theorem rng_mkC {t : Tm} (h : rng t) : rng (mkC t) := by
 unfold mkC
 split
 ·exact h
 ·split
  ·exact ⟨by simp only; omega, by simp only; omega⟩
  ·exact h
theorem rng_fixT {t : Tm} (h : rng t) : rng (fixT t) := by
 unfold fixT
 split
 ·exact h
 ·exact rng_mkC h
theorem rng_zt : rng zt := ⟨by simp [zt], by simp [zt]⟩
theorem rng_sf {l : List Tm} {t : Tm} (h : rng t) : rng (sf l t) := by
 unfold sf grd
 split
 ·exact h
 ·split
  ·exact h
  ·exact h
theorem rng_mkA {a : At} (h : ∀ t ∈ a.pl, rng t) : ∀ t ∈ (mkA a).pl, rng t := fun t ht => by
 simp only [mkA, At.pl, List.mem_cons, List.mem_map] at ht
 rcases ht with rfl | ⟨u, hu, rfl⟩
 ·split
  ·exact h _ (by simp [At.pl])
  ·exact rng_zt
 ·exact rng_fixT (h u (by simp only [At.pl, List.mem_cons]; exact .inr (List.mem_of_mem_take hu)))
theorem made0_rng {x : Ck} (h : Rng x) : Rng (made0 x) := by
 refine ⟨fun a ha t ht => ?_, fun e he => ?_⟩
 ·rcases List.mem_cons.1 ha with rfl | ha
  ·have hm := rng_mkA (h.a x.1 (by simp))
   simp only [made0, At.pl, List.mem_cons, List.mem_map] at ht
   rcases ht with rfl | ⟨u, hu, rfl⟩
   ·split
    ·exact rng_zt
    ·exact hm _ (by simp [At.pl])
   ·exact rng_sf (hm u (by simp [At.pl, hu]))
  ·simp only [made0, List.mem_map] at ha
   obtain ⟨b, hb, rfl⟩ := ha
   exact rng_mkA (h.a b (List.mem_cons_of_mem _ (List.mem_of_mem_take hb))) t ht
 ·simp only [made0, List.mem_map] at he
  obtain ⟨b, hb, rfl⟩ := he
  have := h.e b (List.mem_of_mem_take hb)
  exact ⟨rng_sf (rng_fixT this.1), rng_sf (rng_fixT this.2)⟩
theorem dstep_len (l : List Tm) : ∀ acc : List Tm, (l.foldl dstepT acc).length <= acc.length + l.length := by
 induction l with
 | nil => intro acc; simp
 | cons x l ih =>
  intro acc
  have h1 := ih (dstepT acc x)
  have h2 : (dstepT acc x).length <= acc.length + 1 := by
   unfold dstepT
   split
   ·omega
   ·simp
  simp only [List.foldl_cons, List.length_cons]
  omega
theorem disT_len9 (l : List Tm) : (disT l).length <= l.length := by
 have h1 := dstep_len (l.filter Tm.var) []
 have h2 := List.length_filter_le Tm.var l
 unfold disT
 simp only [List.length_nil] at h1
 omega
theorem flat_lenK {α β : Type} {f : α -> List β} {k : Nat} : ∀ {l : List α}, (∀ x ∈ l, (f x).length <= k) -> (l.flatMap f).length <= l.length * k
 | [], _ => by simp
 | x :: l, h => by
  have h1 := h x (by simp)
  have h2 := flat_lenK (l := l) (fun y hy => h y (by simp [hy]))
  simp only [List.flatMap_cons, List.length_append, List.length_cons, Nat.add_mul, Nat.one_mul]
  omega
theorem val_terms {x : Ck} (h : Val0 x) : (Ck.terms x).length <= 97 := by
 have ha : ∀ a ∈ x.1 :: x.2.1, a.pl.length <= 9 := fun a ha => by
  have := (fit_of (h.e a ha)).len
  simp only [At.pl, List.length_cons]
  omega
 have h1 := ha x.1 (by simp)
 have h2 := flat_lenK (f := At.pl) (l := x.2.1) (fun a hx => ha a (List.mem_cons_of_mem _ hx))
 have h3 : (tls x.2.2).length <= x.2.2.length * 2 := flat_lenK (fun a _ => by simp)
 have h4 := h.bl
 have h5 := h.tl
 simp only [Ck.terms, List.length_append]
 omega
theorem rng_nmT {vs : List Tm} {t : Tm} (hv : vs.length <= 97) (h : rng t) : rng (nmT vs t) := by
 unfold nmT
 split
 ·rename_i hm
  have := ix_lt hm
  exact ⟨by simp only; omega, by simp only; omega⟩
 ·exact h
theorem made_rng (hp : nameOk nmP = true) {x : Ck} (h : Rng x) : Rng (madeK x) := by
 have hr := made0_rng h
 have hv := Nat.le_trans (disT_len9 (Ck.terms (made0 x))) (val_terms (made0_val hp x))
 unfold madeK normC
 generalize disT (Ck.terms (made0 x)) = vs at *
 generalize made0 x = y at *
 refine ⟨fun a ha t ht => ?_, fun e he => ?_⟩
 ·obtain ⟨b, hb, rfl⟩ : ∃ b ∈ y.1 :: y.2.1, a = mapA (nmT vs) b := by
   simp only [mapC, List.mem_cons, List.mem_map] at ha
   rcases ha with rfl | ⟨b, hb, rfl⟩
   ·exact ⟨y.1, by simp, rfl⟩
   ·exact ⟨b, by simp [hb], rfl⟩
  rw [mapA_pl, List.mem_map] at ht
  obtain ⟨u, hu, rfl⟩ := ht
  exact rng_nmT hv (hr.a b hb u hu)
 ·simp only [mapC, List.mem_map] at he
  obtain ⟨b, hb, rfl⟩ := he
  have := hr.e b hb
  exact ⟨rng_nmT hv this.1, rng_nmT hv this.2⟩
end Go.Proofs.YtelcoihmiglceaaGreat
namespace Go.Proofs.YtelcoihmiglceaaGreat
open Go.RowKit

def Br (w : World) (v : Value) (B : List Int) : Prop := byt B /\ ∃ a cap, v = .slice a B.length cap /\ B.length <= cap /\ B.length < 1000000000000000000 /\ (a = none -> cap = 0) /\ (B = [] ∨ ∃ b o, a = some ⟨b, o, none⟩ /\ b < w.heap.size /\ ∀ (i : Nat) (x : Int), B[i]? = some x -> w.cell? ⟨b, o + i, none⟩ = some (.int .u8 x))
theorem Br.later {w w' : World} {v : Value} {B : List Int} (h : Br w v B) (hb : Below w.heap.size w w') : Br w' v B := by
 obtain ⟨hy, a, cap, rfl, h0, h1, hn, h⟩ := h
 refine ⟨hy, a, cap, rfl, h0, h1, hn, h.imp id ?_⟩
 rintro ⟨b, o, rfl, h2, h3⟩
 exact ⟨b, o, rfl, Nat.lt_of_lt_of_le h2 hb.size, fun i x hx => cell_step hb h2 (h3 i x hx)⟩
theorem Br.bn {w : World} {v : Value} {B : List Int} (h : Br w v B) : Bn w v B := by
 obtain ⟨hy, a, cap, rfl, h0, h1, -, h⟩ := h
 exact ⟨a, cap, rfl, h0, by omega, h⟩
theorem app8r {ops : Array Oper} {rest : List Oper} {o : Oper} {a : Act} {Q : Exit -> Act -> World -> Prop} {w : World} (hgd : o.guard = none) (s x : Operand)
  (ho : o.op = .call { callee := .builtin .append, args := #[s, x], argTypes := #[37, 37] }) (base : Nat) (v : Value) (l : List Int) (hs : a.eval s = v) (hown : OwnB w base v l)
  (y : Value) (B : List Int) (hx : a.eval x = y) (hy : Br w y B) (hlen : l.length + B.length <= 1000000000000) (hbase : base <= w.heap.size)
  (h : ∀ v' w', Wr w base (l ++ B) v' w' -> wpList Tryz.prog ops Q rest (a.put o.dst v') w') : wpList Tryz.prog ops Q (o :: rest) a w := by
 obtain ⟨i, z, hi, hz0, hz1, hz2, hz3⟩ := infoU8_parts
 obtain ⟨hb, ad, cap, rfl, h0, h1, hn, hc⟩ := hy
 cases ad with
 | none =>
  have hcap := hn rfl
  subst hcap
  have hB : B = [] := List.eq_nil_of_length_eq_zero (by omega)
  subst hB
  refine wpList_append_own_none hgd s x 37 ho base 5 i 1 Tryz.underlying37 hi v l.length (ibs l) hs hown hx ?_
  exact h v w ⟨by rw [List.append_nil]; exact hown, Below.refl _ _, K8.refl _⟩
 | some ad =>
  refine wpList_append_own _ hgd s x 37 ho base 5 i z 1 1 Tryz.underlying37 hi hz0 hz1 hz2 hz3 (by omega) v l.length (ibs l) hs hown ad B.length cap (ibs B) hx (by simp [ibs]) ?_ (by simp [ibs, Value.oneCell']) (by unfold maxLen; omega) (by omega) hbase ?_
  ·intro j u hj
   rcases hc with rfl | ⟨b, o', e, -, hc⟩
   ·simp [ibs] at hj
   ·cases e
    simp only [ibs, List.getElem?_map, Option.map_eq_some_iff] at hj
    obtain ⟨x, hx, rfl⟩ := hj
    rw [Addr.add_mid]; exact hc j x hx
  ·intro v' w' h1 h2 _
   refine h v' w' ⟨?_, grown_below h2 (fun k hk => (World.ownsRow.lt hown k hk).1) hbase, hown.k8 h2⟩
   unfold OwnB
   rw [List.length_append, show ibs (l ++ B) = ibs l ++ ibs B by simp [ibs]]
   exact h1
def LentB (X : World) (base : Nat) (v : Value) (B : List Int) : Prop := ∃ g cap, v = .slice (some ⟨g, 0, none⟩) B.length cap /\ B.length + 3 <= cap /\ OwnB X base (.slice (some ⟨g, 0, none⟩) (B.length + 3) cap) (B ++ [91, 92, 93])
theorem LentB.cells {X : World} {base g cap : Nat} {B : List Int} (h : OwnB X base (.slice (some ⟨g, 0, none⟩) (B.length + 3) cap) (B ++ [91, 92, 93])) : g < X.heap.size /\ ∀ (i : Nat) (x : Int), (B ++ [91, 92, 93])[i]? = some x -> X.cell? ⟨g, i, none⟩ = some (.int .u8 x) := by
 refine ⟨(World.ownsRow.lt h g rfl).2, fun i x hx => ?_⟩
 have := World.ownsRow.cells h (g := g) rfl i (.int .u8 x) (by simp only [ibs, List.getElem?_map, hx, Option.map_some])
 rw [Addr.add_mid, Nat.zero_add] at this
 exact this
theorem LentB.bh {X : World} {base : Nat} {v : Value} {B : List Int} (h : LentB X base v B) (hy : byt B) (hl : B.length < 1000000000000000000) : Bh X v B := by
 obtain ⟨g, cap, rfl, h1, h2⟩ := h
 obtain ⟨h3, h4⟩ := LentB.cells h2
 refine ⟨hy, g, 0, cap, rfl, by omega, hl, h3, fun i x hx => ?_⟩
 rw [Nat.zero_add]
 exact h4 i x (by rw [List.getElem?_append_left (List.getElem?_eq_some_iff.1 hx).1]; exact hx)
theorem ownB_some {w : World} {base : Nat} {v : Value} {l : List Int} (h : OwnB w base v l) (hl : 0 < l.length) : ∃ g cap, v = .slice (some ⟨g, 0, none⟩) l.length cap /\ l.length <= cap := by
 rcases h.2 with ⟨-, hn⟩ | ⟨g, cap, cur, hv, -, -, hn, -⟩
 ·omega
 ·exact ⟨g, cap, hv, hn⟩
theorem ownB_form {w : World} {base : Nat} {v : Value} {l : List Int} (h : OwnB w base v l) : ∃ a n cap, v = .slice a n cap := by
 rcases h.2 with ⟨hv, -⟩ | ⟨g, cap, cur, hv, -⟩
 ·exact ⟨_, _, _, hv⟩
 ·exact ⟨_, _, _, hv⟩
set_option maxRecDepth 20000 in
set_option maxHeartbeats 2000000 in
theorem lendB_any (v : Value) (B : List Int) (w : World) (h : Br w v B) (hl : B.length <= 400000000000) :
  Calls Tryz.prog 19 #[v] w fun e w' => ∃ u, e = .returned u /\ LentB w' w.heap.size u B /\ Below w.heap.size w w' := by
 have HB : Hid (Br w v B) := h
 obtain ⟨a, cap, rfl⟩ : ∃ a cap, v = .slice a B.length cap := by obtain ⟨-, a, cap, e, -⟩ := h; exact ⟨a, cap, e⟩
 have z0 : (0 : Int) <= (B.length : Int) := by omega
 clear h
 go_enter Tryz.func19, Tryz.ntmps19
 go_wp2_with (first
  | (at_builtin; refine app8r rfl _ _ rfl w.heap.size (.slice none 0 0) [] (by rfl) (ownB_nil _ _) _ B (by rfl) HB.out (by simp; omega) (Nat.le_refl _) ?_; intro v1 w1 hw1; rw [List.nil_append] at hw1; have HW1 : Hid (Wr w w.heap.size B v1 w1) := hw1; have hz1 := hw1.low.size; obtain ⟨a1, n1, c1, rfl⟩ := ownB_form hw1.own; clear hw1)
  | (at_builtin; refine app8 rfl _ _ rfl w.heap.size _ B rfl (HW1.out.own.later (below1 _ _)) w1.heap.size [91, 92, 93] rfl (heap_alloc_new w1 _) (by simp) (by simp only [List.length_cons, List.length_nil]; omega) (by simp; omega) ?_; intro v2 w2 hw2; have HW2 : Hid (Wr w w.heap.size (B ++ [91, 92, 93]) v2 w2) := HW1.out.step (Wr.ahead (below1 _ _) hz1 hw2); obtain ⟨g2, c2, rfl, hc2⟩ := ownB_some hw2.own (by simp); rw [show (B ++ [(91 : Int), 92, 93]).length = B.length + 3 by simp] at HW2 hc2 ⊢; have hc3 : (B.length : Int) <= (c2 : Int) := (by omega); clear hw2))
 go_ret
 exact ⟨_, rfl, ⟨g2, c2, rfl, hc2, HW2.out.own⟩, HW2.out.low⟩
end Go.Proofs.YtelcoihmiglceaaGreat
namespace Go.Proofs.YtelcoihmiglceaaGreat
open Go.RowKit

theorem Bn.br {w : World} {v : Value} {l : List Int} (h : Bn w v l) (hb : byt l) (hl : l ≠ []) : Br w v l := by
 obtain ⟨a, cap, rfl, h0, h1, h⟩ := h
 rcases h with h | ⟨b, o, rfl, h2, h3⟩
 ·exact absurd h hl
 ·exact ⟨hb, _, cap, rfl, h0, h1, (fun h => by cases h), Or.inr ⟨b, o, rfl, h2, h3⟩⟩
end Go.Proofs.YtelcoihmiglceaaGreat
namespace Go.Proofs.YtelcoihmiglceaaGreat
open Go.RowKit

def Nz {α : Type} (x : Rd α) : Prop := ∀ c, x = .error c -> c ≠ 0
theorem nz_ok {α : Type} (a : α) (r : List Int) : Nz (.ok (a, r)) := fun c h => by cases h
theorem nz_err {α : Type} {e : Int} (h : e ≠ 0) : Nz (.error e : Rd α) := fun c hc => by cases hc; exact h
theorem nz_and {α β : Type} {x : Rd α} {f : α -> List Int -> Rd β} (h : Nz x) (hf : ∀ a r, Nz (f a r)) : Nz (x.and f) := fun c hc => by
 rcases x with e | ⟨a, r⟩
 ·simp only [Rd.and] at hc; exact h c (by cases hc; rfl)
 ·exact hf a r c hc
theorem nz_take (n : Nat) (l : List Int) : Nz (rTake n l) := by
 unfold rTake; split
 ·exact nz_err (by decide)
 ·exact nz_ok _ _
theorem nz_num (k : Nat) (l : List Int) : Nz (rNum k l) := nz_and (nz_take _ _) fun _ _ => nz_ok _ _
theorem nz_bnd (lo hi : Int) (l : List Int) : Nz (rBnd lo hi l) := nz_and (nz_num _ _) fun n r => by
 split
 ·exact nz_err (by decide)
 ·exact nz_ok _ _
theorem nz_one (cs : List Int) (l : List Int) : Nz (rOne cs l) := nz_and (nz_num _ _) fun n r => by
 split
 ·exact nz_ok _ _
 ·exact nz_err (by decide)
theorem nz_nat (l : List Int) : Nz (rNat l) := nz_and (nz_num _ _) fun n r => by
 split
 ·exact nz_err (by decide)
 ·exact nz_ok _ _
theorem nz_text (lo hi : Int) (l : List Int) : Nz (rText lo hi l) := nz_and (nz_bnd _ _ _) fun _ _ => nz_and (nz_take _ _) fun _ _ => nz_ok _ _
theorem nz_termOf (k lo : Int) (l : List Int) : Nz (rTermOf k lo l) := by
 unfold rTermOf
 split
 ·exact nz_and (nz_num _ _) fun _ _ => nz_ok _ _
 ·split
  ·exact nz_and (nz_text _ _ _) fun _ _ => nz_ok _ _
  ·split
   ·exact nz_and (nz_nat _) fun _ _ => nz_ok _ _
   ·exact nz_ok _ _
theorem nz_qual (l : List Int) : Nz (rQual l) := nz_and (nz_one _ _) fun _ _ => nz_termOf _ _ _
theorem nz_arg (l : List Int) : Nz (rArg l) := nz_and (nz_one _ _) fun _ _ => nz_termOf _ _ _
theorem nz_name (l : List Int) : Nz (rName l) := nz_and (nz_text _ _ _) fun _ _ => by
 split
 ·exact nz_ok _ _
 ·exact nz_err (by decide)
theorem nz_many {α : Type} {one : List Int -> Rd α} (h : ∀ l, Nz (one l)) : ∀ (n : Nat) (l : List Int), Nz (rMany one n l)
 | 0, _ => nz_ok _ _
 | n + 1, l => nz_and (h l) fun _ r => nz_and (nz_many h n r) fun _ _ => nz_ok _ _
theorem nz_atom (l : List Int) : Nz (rAtom l) := nz_and (nz_qual _) fun _ _ => nz_and (nz_name _) fun _ _ => nz_and (nz_bnd _ _ _) fun _ _ => nz_and (nz_many nz_arg _ _) fun _ _ => nz_ok _ _
theorem nz_test (l : List Int) : Nz (rTest l) := nz_and (nz_one _ _) fun _ _ => nz_and (nz_arg _) fun _ _ => nz_and (nz_arg _) fun _ _ => nz_ok _ _
theorem nz_clause (l : List Int) : Nz (rClause l) := nz_and (nz_atom _) fun _ _ => nz_and (nz_bnd _ _ _) fun _ _ => nz_and (nz_many nz_atom _ _) fun _ _ => nz_and (nz_bnd _ _ _) fun _ _ => nz_and (nz_many nz_test _ _) fun _ _ => by
 split
 ·exact nz_ok _ _
 ·exact nz_err (by decide)
theorem nz_whole {α : Type} {one : List Int -> Rd α} (h : ∀ l, Nz (one l)) {l : List Int} {c : Int} (e : rWhole one l = .error c) : c ≠ 0 := by
 unfold rWhole at e
 rcases hr : one l with d | ⟨a, r⟩
 ·rw [hr] at e; cases e; exact h l c hr
 ·rw [hr] at e
  simp only at e
  split at e
  ·cases e
  ·cases e; decide
theorem aB_byt9 {a : At} (h : Fit a) : byt (aB a) := by
 unfold aB
 refine (tB_byt h.by_).app ((sB_byt (by have := h.nm; omega)).app ?_)
 intro x hx
 rcases List.mem_cons.1 hx with rfl | hx
 ·have := h.len; omega
 ·obtain ⟨t, ht, hx⟩ := List.mem_flatMap.1 hx
  exact tB_byt (h.args t ht) x hx
theorem eB_byt9 {e : Te} (h : FitE e) : byt (eB e) := by
 intro x hx
 unfold eB at hx
 rcases List.mem_cons.1 hx with rfl | hx
 ·have := h.op; omega
 ·rcases List.mem_append.1 hx with hx | hx
  ·exact tB_byt h.l x hx
  ·exact tB_byt h.r x hx
theorem cB_byt9 {c : Cm} (h : c.chk = 0) : byt (cB c.key) := by
 obtain ⟨g1, g2, g3, g4⟩ := chk_fit h
 unfold cB
 refine (aB_byt9 (g1 _ (by simp))).app (byt.app ?_ ?_)
 ·intro x hx
  rcases List.mem_cons.1 hx with rfl | hx
  ·omega
  ·obtain ⟨a, ha, hx⟩ := List.mem_flatMap.1 hx
   exact aB_byt9 (g1 a (List.mem_cons_of_mem _ ha)) x hx
 ·intro x hx
  rcases List.mem_cons.1 hx with rfl | hx
  ·omega
  ·obtain ⟨a, ha, hx⟩ := List.mem_flatMap.1 hx
   exact eB_byt9 (g2 a ha) x hx
theorem cB_ne (x : Ck) : cB x ≠ [] := fun h => by
 have := congrArg List.length h
 simp [cB] at this
def kC (x : Ck) : Cm := ⟨(x.1, .slice none 0 0), x.2.1.map fun a => (a, .slice none 0 0), .slice none 0 0, x.2.2, .slice none 0 0⟩
theorem kC_key (x : Ck) : (kC x).key = x := by
 obtain ⟨h, b, t⟩ := x
 simp [kC, Cm.key, fsts, Function.comp_def]
end Go.Proofs.YtelcoihmiglceaaGreat

import Derived.Test.YtgbiicmkhlnniaaGreatDoorFD3
import Derived.Test.YtgbiicmkhlnniaaGreatDoorCL5
import Derived.Test.YtgbiicmkhlnniaaGreatDoorCL1
import Derived.Deep.CutRange
import Derived.Test.YtgbiicmkhlnniaaGreatDoorV2
import Derived.Test.YtgbiicmkhlnniaaGreatDoorRA16
import Derived.Laws.AppendOwn
import Derived.Laws.AppendOwnNone
/-
  ref 9: one step of the reference's Make beside the planner's. (Plain.)
-/
namespace Go.Proofs.YtgbiicmkhlnniaaGreatDoor
open Go.RowKit

theorem be9_bc {c : Cm} {met : List Bool} {A O Vs K : List Int} (hv : Val0 c.key) (hc : c.chk = 0) (h : Rl9 c met A O Vs K) {i m : Nat} {x y : At × Value} (hx : c.body[i]? = some x) (hy : c.body[m]? = some y) (hm : m < i) : be9 Vs x.1 y.1 = decide (bc9 c met i m < 0) := by
  have k39 : ∀ {k : Nat} {z : At × Value}, c.body[k]? = some z → ∀ t ∈ z.1.pl, K39 t := fun hz => val_pl hv _ (List.mem_cons_of_mem _ (List.mem_map.2 ⟨_, List.mem_of_getElem? hz, rfl⟩))
  have ex : kl9 c met i = (kr9 Vs x.1.pl x.1.pl.length).length := by unfold kl9; rw [hx, kr9_eq h _ (k39 hx) (body_vn9 hc hx)]
  have ey : kl9 c met m = (kr9 Vs y.1.pl y.1.pl.length).length := by unfold kl9; rw [hy, kr9_eq h _ (k39 hy) (body_vn9 hc hy)]
  have ax : al9 c i = x.1.args.length := by unfold al9; rw [hx]
  have ay : al9 c m = y.1.args.length := by unfold al9; rw [hy]
  unfold be9 bc9
  rw [ex, ey, ax, ay]
  generalize (kr9 Vs x.1.pl x.1.pl.length).length = kx
  generalize (kr9 Vs y.1.pl y.1.pl.length).length = ky
  generalize x.1.args.length = nx
  generalize y.1.args.length = ny
  have s3 : sg7 (i : Int) (m : Int) = 1 := by unfold sg7; rw [if_neg (by omega), if_pos (by omega)]
  by_cases e : kx = ky
  · subst e
    have s1 : sg7 (kx : Int) (kx : Int) = 0 := by unfold sg7; rw [if_neg (by omega), if_neg (by omega)]
    rw [if_pos rfl, s1, s3]
    rcases sg7_v (nx : Int) (ny : Int) with ⟨e2, h2⟩ | ⟨e2, h2⟩ | ⟨e2, h2⟩ <;> rw [e2]
    · rw [decide_eq_true (show nx < ny by omega)]; simp [or7]
    · rw [decide_eq_false (show ¬ nx < ny by omega)]; simp [or7]
    · rw [decide_eq_false (show ¬ nx < ny by omega)]; simp [or7]
  · rw [if_neg e]
    rcases sg7_v (ky : Int) (kx : Int) with ⟨e2, h2⟩ | ⟨e2, h2⟩ | ⟨e2, h2⟩ <;> rw [e2]
    · rw [decide_eq_true (show ky < kx by omega)]; simp [or7]
    · exact absurd (show kx = ky by omega) e
    · rw [decide_eq_false (show ¬ ky < kx by omega)]; simp [or7]
theorem tv9_nil {c : Cm} (hv : Val0 c.key) {n : Nat} {t : Te} (ht : c.tests[n]? = some t) : decide (tv9 t = []) = tk9 c (List.replicate (dis c.vars).length false) n := by
  obtain ⟨h1, h2⟩ := val_te hv t (List.mem_of_getElem? ht)
  have key : ∀ u : Tm, K39 u → kn9 (List.replicate (dis c.vars).length false) u = !decide (u.k = 3) := fun u hu => by
    unfold kn9
    cases hvu : u.var with
    | true =>
      have h3 : u.k = 3 := by simp only [Tm.var, decide_eq_true_eq] at hvu; exact hvu.1
      rw [List.getElem?_replicate]
      split <;> simp [h3]
    | false =>
      have h3 : ¬ u.k = 3 := fun e => by rw [hu e] at hvu; cases hvu
      simp [h3]
  unfold tk9
  rw [Int.toNat_natCast, ht]
  simp only [key _ h1, key _ h2]
  unfold tv9
  by_cases e1 : t.l.k = 3 <;> by_cases e2 : t.r.k = 3 <;> simp [e1, e2]
theorem tv9_in {c : Cm} {met : List Bool} {A O Vs K : List Int} (hv : Val0 c.key) (hc : c.chk = 0) (h : Rl9 c met A O Vs K) {n : Nat} {t : Te} (ht : c.tests[n]? = some t) : ((tv9 t).all fun v => decide (v ∈ Vs)) = tk9 c met n := by
  obtain ⟨h1, h2⟩ := val_te hv t (List.mem_of_getElem? ht)
  have hvn := chk_tv9 hc t (List.mem_of_getElem? ht)
  have e1 := kt9_eq h h1 (fun u hu => hvn u (by rw [List.mem_singleton.1 hu]; simp))
  have e2 := kt9_eq h h2 (fun u hu => hvn u (by rw [List.mem_singleton.1 hu]; simp))
  unfold tk9
  rw [Int.toNat_natCast, ht]
  simp only [← e1, ← e2]
  unfold tv9 kt9
  by_cases k1 : t.l.k = 3 <;> by_cases k2 : t.r.k = 3 <;> simp [k1, k2]
theorem mt9_at {l : List Int} : ∀ {met : List Bool} {i : Nat} {b : Bool}, (∀ v ∈ l, 0 ≤ v) → met[i]? = some b → (mt9 met l)[i]? = some (b || decide ((i : Int) ∈ l)) := by
  induction l with
  | nil => intro met i b _ h; simp [mt9, h]
  | cons v l ih =>
    intro met i b hl h
    show (mt9 (met.set v.toNat true) l)[i]? = _
    have hv := hl v (List.mem_cons_self ..)
    have hi : i < met.length := (List.getElem?_eq_some_iff.1 h).1
    by_cases e : v.toNat = i
    · have h1 : (met.set v.toNat true)[i]? = some true := by rw [List.getElem?_set, if_pos e, if_pos (by omega)]
      rw [ih (fun u hu => hl u (List.mem_cons_of_mem _ hu)) h1]
      have : (i : Int) ∈ v :: l := by rw [show (i : Int) = v by omega]; exact List.mem_cons_self ..
      rw [decide_eq_true this]; simp
    · have h1 : (met.set v.toNat true)[i]? = some b := by rw [List.getElem?_set, if_neg e]; exact h
      rw [ih (fun u hu => hl u (List.mem_cons_of_mem _ hu)) h1]
      have : (i : Int) ∈ v :: l ↔ (i : Int) ∈ l := by
        rw [List.mem_cons]
        exact ⟨fun h => h.elim (fun h => by omega) id, Or.inr⟩
      simp only [this]
theorem vs_sub {P : List Tm} : ∀ v ∈ vs P, ∃ t ∈ P, t.var = true ∧ t.n = v := by
  have key : ∀ (l : List Tm) (out : List Int) (v : Int), v ∈ l.foldl vS out → v ∈ out ∨ ∃ t ∈ l, t.var = true ∧ t.n = v := by
    intro l
    induction l with
    | nil => intro out v h; exact Or.inl h
    | cons u l ih =>
      intro out v h
      rcases ih (vS out u) v h with h | ⟨t, h1, h2⟩
      · unfold vS at h
        split at h
        · rename_i hv
          split at h
          · exact Or.inl h
          · rcases List.mem_append.1 h with h | h
            · exact Or.inl h
            · exact Or.inr ⟨u, List.mem_cons_self .., hv, (List.mem_singleton.1 h).symm⟩
        · exact Or.inl h
      · exact Or.inr ⟨t, List.mem_cons_of_mem _ h1, h2⟩
  intro v hv
  rcases key P [] v hv with h | h
  · cases h
  · exact h
/-- The tests told by a join, among those below i. -/
def tl9 (c : Cm) (met met' : List Bool) (i : Nat) : List Int := (up9 i).filter fun m => !tk9 c met m && tk9 c met' m
theorem tl9_succ (c : Cm) (met met' : List Bool) (i : Nat) : tl9 c met met' (i + 1) = tl9 c met met' i ++ if (!tk9 c met i && tk9 c met' i) = true then [(i : Int)] else [] := by
  unfold tl9
  rw [up9_succ, List.filter_append]
  congr 1
  rw [List.filter_cons, List.filter_nil]
theorem tl9_all (c : Cm) (met : List Bool) (n : Nat) : tl9 c met (jm9 c met n) c.tests.length = (jr9 c met (T9 c met) n).t := by
  show _ = (T9 c met).filter (tk9 c (jm9 c met n))
  unfold tl9 T9
  rw [List.filter_filter]
  refine List.filter_congr fun m _ => Bool.and_comm ..
def ah9i (c : Cm) (i : Nat) : List Int := (up9 i).filter (tk9 c (List.replicate (dis c.vars).length false))
theorem ah9i_succ (c : Cm) (i : Nat) : ah9i c (i + 1) = ah9i c i ++ if tk9 c (List.replicate (dis c.vars).length false) i = true then [(i : Int)] else [] := by
  unfold ah9i
  rw [up9_succ, List.filter_append]
  congr 1
  rw [List.filter_cons, List.filter_nil]
theorem Rl9.start (c : Cm) : Rl9 c (List.replicate (dis c.vars).length false) (up9 c.body.length) [] [] [] := by
  refine ⟨Ps9.start, ?_, fun k hk => ?_, ?_, fun i hi => ?_, fun n hn => ?_⟩
  · unfold up9
    rw [List.pairwise_map]
    exact List.pairwise_lt_range.imp fun h => by omega
  · exact ⟨fun h => (by cases h), fun h => absurd (List.mem_map.2 ⟨k, List.mem_range.2 hk, rfl⟩) h⟩
  · simp [up9_len]
  · rw [List.getElem?_replicate, if_pos hi]; rfl
  · constructor
    · intro h; cases h
    · rintro ⟨h1, h2⟩; rw [h1] at h2; cases h2
theorem Rl9.next {c : Cm} {met : List Bool} {A O Vs K : List Int} (hc : c.chk = 0) (h : Rl9 c met A O Vs K) {n : Nat} (hn : (n : Int) ∈ A) : Rl9 c (jm9 c met n) (jA9 A n) (O ++ [(n : Int)]) (Vs ++ vs (pls9 c n)) (K ++ (jr9 c met (T9 c met) n).t) := by
  have hvn : ∀ v ∈ vs (pls9 c n), 0 ≤ v := fun v hv => by
    obtain ⟨t, -, h1, rfl⟩ := vs_sub v hv
    exact var_nn9 h1
  have h0 : ∀ m : Int, tk9 c (List.replicate (dis c.vars).length false) m = true → tk9 c met m = true := fun m hm => by
    unfold tk9 at hm ⊢
    split at hm
    · simp only [Bool.and_eq_true] at hm ⊢
      have key : ∀ u : Tm, kn9 (List.replicate (dis c.vars).length false) u = true → kn9 met u = true := fun u hu => by
        unfold kn9 at hu ⊢
        cases hv : u.var with
        | false => rfl
        | true =>
          rw [hv, List.getElem?_replicate] at hu
          split at hu <;> simp at hu
      exact ⟨key _ hm.1, key _ hm.2⟩
    · cases hm
  refine ⟨h.ps.next hc hn, h.ri.filter _, fun k hk => ?_, ?_, fun i hi => ?_, fun m hm => ?_⟩
  · rw [List.mem_append, List.mem_singleton, h.o k hk]
    constructor
    · rintro (h1 | h1) h2
      · exact h1 (List.mem_filter.1 h2).1
      · have := (List.mem_filter.1 h2).2
        rw [h1] at this
        simp at this
    · intro h1
      by_cases e : (k : Int) = (n : Int)
      · exact Or.inr e
      · exact Or.inl fun h2 => h1 (List.mem_filter.2 ⟨h2, by simp [e]⟩)
  · have h1 := jA9_len h.ps.nd hn
    have h2 := h.ol
    unfold jA9 at h1 ⊢
    rw [List.length_append, List.length_singleton]
    omega
  · unfold jm9
    rw [mt9_at hvn (h.v i hi)]
    simp only [List.mem_append, Bool.decide_or]
  · rw [List.mem_append, h.k m hm]
    constructor
    · rintro (⟨h1, h2⟩ | h1)
      · exact ⟨tk9_mono h1, h2⟩
      · obtain ⟨h2, h3⟩ := List.mem_filter.1 h1
        obtain ⟨-, h4⟩ := List.mem_filter.1 h2
        refine ⟨h3, ?_⟩
        cases e2 : tk9 c (List.replicate (dis c.vars).length false) m with
        | false => rfl
        | true => rw [h0 _ e2] at h4; cases h4
    · rintro ⟨h1, h2⟩
      cases e2 : tk9 c met m with
      | true => exact Or.inl ⟨rfl, h2⟩
      | false =>
        refine Or.inr (List.mem_filter.2 ⟨List.mem_filter.2 ⟨List.mem_map.2 ⟨m, List.mem_range.2 hm, rfl⟩, by rw [e2]; rfl⟩, h1⟩)
end Go.Proofs.YtgbiicmkhlnniaaGreatDoor
/-
  ref's Places, Among, Vars, Fact; ints of the laws.
-/
namespace Go.Proofs.YtgbiicmkhlnniaaGreatDoor
open Go.RowKit

theorem ownT_one (w : World) (o : Obj) (t : Tm) : OwnT ((w.alloc o).alloc (.cells #[.int .i64 t.k, .int .i64 t.n, .string t.s] 23)) (w.heap.size + 1) (.slice (some ⟨w.heap.size + 1, 0, none⟩) 1 1) [t] := by
  refine ⟨by simp [tcs, Tm.cs], Or.inr ⟨_, 1, #[.int .i64 t.k, .int .i64 t.n, .string t.s], rfl, Nat.le_refl _, heap_alloc2_new _ _ _, Nat.le_refl _, by unfold maxLen; omega, by simp, by simp [tcs, Tm.cs]⟩⟩
theorem tcs_cons (t : Tm) (l : List Tm) : tcs (t :: l) = tcs [t] ++ tcs l := by simp [tcs]
set_option maxHeartbeats 2000000 in
theorem rplaces_any (a : At) (x : Value) (w : World) (h : TsO w x a.args) :
    Calls Tryz.prog 38 #[a.v x] w fun e w' => ∃ v', e = .returned v' ∧ OwnT w' w.heap.size v' a.pl ∧ Below w.heap.size w w' := by
  obtain ⟨i0, hi0, hz0, hz1, hz2⟩ := info_parts Tryz.infoTerm
  obtain ⟨⟨k, n, ss⟩, nm, l⟩ := a
  simp only [At.pl] at h ⊢
  rcases h with ⟨rfl, rfl⟩ | ⟨ad, cap, rfl, hl, h⟩
  · have h1 := ownT_one w (.cells #[.int .i64 k, .int .i64 n, .string ss, .string nm, .slice none 0 0] 26) ⟨k, n, ss⟩
    have H1 : Hid _ := h1
    clear h1
    go_enter Tryz.func38, Tryz.ntmps38
    go_wp2_with (at_builtin; refine wpList_append_own_none _ _ _ _ rfl (w.heap.size + 1) 23 i0 3 Tryz.underlying24 hi0 (.slice (some ⟨w.heap.size + 1, 0, none⟩) 1 1) 1 (tcs [⟨k, n, ss⟩]) (by rfl) H1.out (by rfl) ?_)
    go_ret
    exact ⟨_, rfl, OwnT.mono H1.out (by omega), below2 _ _ _⟩
  · have h1 := ownT_one w (.cells #[.int .i64 k, .int .i64 n, .string ss, .string nm, .slice (some ad) l.length cap] 26) ⟨k, n, ss⟩
    have H1 : Hid _ := h1
    clear h1
    have hnw : ∀ j u, (tcs l)[j]? = some u → ((w.alloc (.cells #[.int .i64 k, .int .i64 n, .string ss, .string nm, .slice (some ad) l.length cap] 26)).alloc (.cells #[.int .i64 k, .int .i64 n, .string ss] 23)).cell? (ad.add j) = some u := by
      rcases h with h | ⟨b, o, rfl, h⟩
      · subst h; intro j u hu; simp [tcs] at hu
      · exact trow_get (h.later (below2 _ _ _))
    have HN : Hid _ := hnw
    clear h hnw
    go_enter Tryz.func38, Tryz.ntmps38
    go_wp2_with (at_builtin; refine wpList_append_own _ rfl _ _ _ rfl (w.heap.size + 1) 23 i0 _ 3 32 Tryz.underlying24 hi0 hz0 hz1 hz2 rfl (by omega) (.slice (some ⟨w.heap.size + 1, 0, none⟩) 1 1) 1 (tcs [⟨k, n, ss⟩]) (by rfl) H1.out ad l.length cap (tcs l) (by rfl) (tcs_len l) HN.out (fun u hu => tcs_mem hu) (by unfold maxLen; omega) (by omega) (by simp) ?_; intro v1 w1 hown hgrow hnil)
    go_ret
    refine ⟨_, rfl, ?_, ?_⟩
    · refine OwnT.mono (b := w.heap.size + 1) ?_ (by omega)
      unfold OwnT
      rw [tcs_cons, List.length_cons, Nat.add_comm l.length 1]
      exact hown
    · exact (below2 _ _ _).grown hgrow (by simp; omega) (fun q e => by simp [Value.ownBlock] at e; omega)
set_option maxHeartbeats 1000000 in
theorem ramong_any (l : List Int) (v : Value) (x : Int) (base : Nat) (w : World) (h : OwnI w base v l) (hl : l.length < 1000000000000000000) :
    Calls Tryz.prog 40 #[v, .int .i64 x] w fun e w' => e = .returned (.bool (hasI l x)) ∧ Below w.heap.size w w' := by
  have HO : Hid (OwnI w base v l) := h
  obtain ⟨ad, cap, rfl⟩ := ownI_len h
  clear h
  go_enter Tryz.func40, Tryz.ntmps40
  go_wp2
  go_loopg [5] l.length (fun g i wr => ∃ j : Nat, j + g = l.length ∧ i = .int .i64 j ∧ hasI (l.take j) x = false ∧ wr = w)
  case atStart => exact ⟨0, by omega, rfl, rfl, rfl⟩
  case round =>
    obtain ⟨j, hj, rfl, hx, rfl⟩ := hrel
    have HI : Hid (hasI (l.take j) x = false) := hx
    have hoq := HO.out
    clear hx
    cases gk with
    | succ g =>
      have hlt : j < l.length := by omega
      obtain ⟨e, he⟩ : ∃ e, l[j]? = some e := ⟨_, List.getElem?_eq_getElem hlt⟩
      obtain ⟨gg, cc, hv, hg1, hg2⟩ := ownI_form hoq (by omega)
      simp only [Value.slice.injEq, true_and] at hv
      obtain ⟨rfl, rfl⟩ := hv
      have e0 := ownI_cells hoq j e he
      have HE : Hid (l[j]? = some e) := he
      clear he hoq
      have j1 : (0 : Int) ≤ (j : Int) := by omega
      have j2 : (j : Int) < (l.length : Int) := by omega
      by_cases hxx : e = x
      · have hq : (e == x) = true := by simpa using hxx
        have HH : Hid (hasI l x = true) := hasI_yes l x j _ HE.out hxx
        go_wp2
        go_ret
        exact ⟨ret_b HH.out.symm, Below.refl _ _⟩
      · have hq : (e == x) = false := by simpa using hxx
        have hxx : Hid (¬ e = x) := hxx
        go_wp2
        go_roundg g
        case measure => omega
        case rel => exact ⟨j + 1, by omega, by go_num, hasI_no l x j _ HE.out HI.out hxx.out, rfl⟩
    | zero =>
      obtain rfl : j = l.length := by omega
      have HH : Hid (hasI l x = false) := by have := HI.out; rwa [List.take_length] at this
      have hz : ¬ ((l.length : Int) < (l.length : Int)) := by omega
      clear hoq
      go_wp2
      go_ret
      exact ⟨ret_b HH.out.symm, Below.refl _ _⟩
end Go.Proofs.YtgbiicmkhlnniaaGreatDoor

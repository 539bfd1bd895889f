import Derived.Test.YtgbiicmkhlnniaaGreatDoorFB4
import Derived.Test.YtgbiicmkhlnniaaGreatDoorRA14
/-
  plan: a valid clause's variables; Make.
-/
namespace Go.Proofs.YtgbiicmkhlnniaaGreatDoor
open Go.RowKit
attribute [local go_sem ↓] Go.wp_at_zero Go.wp_at_succ

/-- The numbers below n. -/
def nts9 (n : Nat) : List Int := (List.range n).map fun i : Nat => (i : Int)
theorem mem_ints9 {n : Nat} {v : Int} : v ∈ nts9 n ↔ 0 ≤ v ∧ v < n := by
  simp only [nts9, List.mem_map, List.mem_range]
  exact ⟨fun ⟨i, h, e⟩ => by omega, fun ⟨h1, h2⟩ => ⟨v.toNat, by omega, by omega⟩⟩
theorem ints_succ9 (n : Nat) : nts9 (n + 1) = nts9 n ++ [(n : Int)] := by simp [nts9, List.range_succ]
theorem ints_len9 (n : Nat) : (nts9 n).length = n := by simp [nts9]
theorem mis_ints9 : ∀ (l : List Int) (n : Nat), (∀ v ∈ l, 0 ≤ v) → mis n l = false → ∃ m, n ≤ m ∧ l.foldl dstep (nts9 n) = nts9 m ∧ ∀ v ∈ l, v < m
  | [], n, _, _ => ⟨n, Nat.le_refl _, rfl, fun v hv => by cases hv⟩
  | v :: l, n, h0, h => by
    rw [mis] at h
    by_cases h1 : (n : Int) < v
    · rw [if_pos h1] at h; cases h
    · rw [if_neg h1] at h
      have hv := h0 v (by simp)
      rw [List.foldl_cons]
      by_cases h2 : v = n
      · rw [if_pos h2] at h
        have e : dstep (nts9 n) v = nts9 (n + 1) := by
          unfold dstep; rw [if_neg (by rw [mem_ints9]; omega), ints_succ9, h2]
        obtain ⟨m, k1, k2, k3⟩ := mis_ints9 l (n + 1) (fun u hu => h0 u (by simp [hu])) (by exact_mod_cast h)
        rw [e]
        refine ⟨m, by omega, k2, fun u hu => ?_⟩
        rcases List.mem_cons.1 hu with rfl | hu
        · omega
        · exact k3 u hu
      · rw [if_neg h2] at h
        have e : dstep (nts9 n) v = nts9 n := by
          unfold dstep; rw [if_pos (by rw [mem_ints9]; omega)]
        obtain ⟨m, k1, k2, k3⟩ := mis_ints9 l n (fun u hu => h0 u (by simp [hu])) h
        rw [e]
        refine ⟨m, k1, k2, fun u hu => ?_⟩
        rcases List.mem_cons.1 hu with rfl | hu
        · omega
        · exact k3 u hu
theorem var_nn9 {t : Tm} (h : t.var = true) : 0 ≤ t.n := by simp only [Tm.var, decide_eq_true_eq] at h; exact h.2.1
theorem chkL_none : ∀ (l : List (Bool × Int)), (∀ x ∈ l, x.2 ≠ 0) → chkL l = 0 → ∀ x ∈ l, x.1 = false
  | [], _, _, x, hx => by cases hx
  | y :: l, h, e, x, hx => by
    unfold chkL at e
    split at e
    · exact absurd e (h y (List.mem_cons_self ..))
    · rename_i hy
      rcases List.mem_cons.1 hx with rfl | hx
      · simpa using hy
      · exact chkL_none l (fun x hx => h x (List.mem_cons_of_mem _ hx)) e x hx
theorem chk_none9 {c : Cm} (h : c.chk = 0) : long c = false ∧ mis 0 c.vars = false := by
  have key := chkL_none c.rs (fun x hx => by
    simp only [Cm.rs, List.mem_cons, List.not_mem_nil, or_false] at hx
    rcases hx with rfl | rfl | rfl | rfl | rfl | rfl | rfl | rfl | rfl <;> simp) h
  exact ⟨key (long c, 31) (by simp [Cm.rs]), key (mis 0 c.vars, 35) (by simp [Cm.rs])⟩
theorem chk_vn9 {c : Cm} (h : c.chk = 0) {l : List Tm} (hl : ∀ t ∈ l, t ∈ c.terms) : Vn9 (dis c.vars).length l := by
  obtain ⟨m, -, h2, h3⟩ := mis_ints9 c.vars 0 (fun v hv => by
    obtain ⟨t, ht, rfl⟩ := List.mem_map.1 hv
    exact var_nn9 (List.mem_filter.1 ht).2) (chk_none9 h).2
  have e : (dis c.vars).length = m := by
    have : dis c.vars = nts9 m := h2
    rw [this, ints_len9]
  intro t ht hv
  have h4 := h3 t.n (List.mem_map.2 ⟨t, List.mem_filter.2 ⟨hl t ht, hv⟩, rfl⟩)
  have h5 := var_nn9 hv
  exact ⟨t.n.toNat, by omega, by omega⟩
theorem chk_bd9 {c : Cm} (h : c.chk = 0) : Bd9 c (dis c.vars).length (up9 c.body.length) := fun m hm => by
  obtain ⟨i, hi, rfl⟩ := List.mem_map.1 hm
  have hi := List.mem_range.1 hi
  refine ⟨i, c.body[i], rfl, List.getElem?_eq_getElem hi, chk_vn9 h fun t ht => ?_⟩
  exact List.mem_append_left _ (List.mem_flatMap.2 ⟨c.body[i], List.mem_cons_of_mem _ (List.getElem_mem hi), ht⟩)
theorem chk_tv9 {c : Cm} (h : c.chk = 0) : ∀ t ∈ c.tests, Vn9 (dis c.vars).length [t.l, t.r] := fun t ht => chk_vn9 h fun _ hu => List.mem_append_right _ (List.mem_flatMap.2 ⟨t, ht, hu⟩)
theorem chk_len9 {c : Cm} (h : c.chk = 0) : c.body.length ≤ 8 ∧ c.tests.length ≤ 8 := by
  have := (chk_none9 h).1
  simp only [long, Bool.or_eq_false_iff, decide_eq_false_iff_not] at this
  omega
theorem up9_in {n : Nat} {l : List Te} (h : l.length = n) : ∀ m ∈ up9 n, ∃ (i : Nat) (t : Te), m = (i : Int) ∧ l[i]? = some t := fun m hm => by
  obtain ⟨i, hi, rfl⟩ := List.mem_map.1 hm
  have hi := List.mem_range.1 hi
  exact ⟨i, l[i], rfl, List.getElem?_eq_getElem (by omega)⟩
theorem up9_nodup (n : Nat) : (up9 n).Nodup := by
  unfold up9
  refine List.Pairwise.map _ (R := fun a b => a ≠ b) (fun a b hab e => hab (by omega)) List.nodup_range
/-- The plan of a valid clause: the tests ahead, the joins. -/
def ah9 (c : Cm) : List Int := (up9 c.tests.length).filter (tk9 c (List.replicate (dis c.vars).length false))
def ts9 (c : Cm) : List Int := (up9 c.tests.length).filter fun n => !tk9 c (List.replicate (dis c.vars).length false) n
def js9 (c : Cm) (lead : Int) : List Js9 :=
  let met := List.replicate (dis c.vars).length false
  let A := up9 c.body.length
  if lead = -1 then pln9 c A.length met A (ts9 c)
  else jr9 c met (ts9 c) lead.toNat :: pln9 c (jA9 A lead.toNat).length (jm9 c met lead.toNat) (jA9 A lead.toNat) (jT9 c met (ts9 c) lead.toNat)
theorem planned9_any {w0 : World} {g : Nat} {c : Cm} {mv av tv : Value} {Y : World} (hc : c.chk = 0) (h : PN9 w0 g c mv av tv (List.replicate (dis c.vars).length false) (up9 c.body.length) (up9 c.tests.length) Y) (lead : Int) (h1 : -1 ≤ lead) (h2 : lead < c.body.length) :
    Calls Tryz.prog 14 #[.pointer (some ⟨g, 0, none⟩), .int .i64 lead] Y (PlQ9 w0 (ah9 c) (js9 c lead)) := by
  have hL := chk_len9 hc
  have hrl : (List.replicate (dis c.vars).length false).length = (dis c.vars).length := List.length_replicate ..
  by_cases hl : lead = -1
  · have := plan9_none w0 g c mv av tv _ _ _ Y h (by rw [hrl]; exact chk_bd9 hc) (up9_in rfl) (by rw [hrl]; exact chk_tv9 hc) (by rw [up9_len]; omega) (by rw [up9_len]; omega) (up9_nodup _)
    rw [hl]
    unfold js9
    rw [if_pos rfl]
    exact this
  · obtain ⟨n, rfl⟩ : ∃ n : Nat, lead = (n : Int) := ⟨lead.toNat, by omega⟩
    have hn : n < c.body.length := by omega
    have := plan9_lead w0 g c mv av tv _ _ _ Y h (by rw [hrl]; exact chk_bd9 hc) (up9_in rfl) (by rw [hrl]; exact chk_tv9 hc) (by rw [up9_len]; omega) (by rw [up9_len]; omega) (up9_nodup _) n c.body[n] (List.getElem?_eq_getElem hn) (List.mem_map.2 ⟨n, List.mem_range.2 hn, rfl⟩) (by
      rw [hrl]
      exact chk_vn9 hc fun t ht => List.mem_append_left _ (List.mem_flatMap.2 ⟨c.body[n], List.mem_cons_of_mem _ (List.getElem_mem hn), ht⟩))
    unfold js9
    rw [if_neg hl, Int.toNat_natCast]
    exact this
end Go.Proofs.YtgbiicmkhlnniaaGreatDoor
/-
  plan: Make.
-/
namespace Go.Proofs.YtgbiicmkhlnniaaGreatDoor
open Go.RowKit
attribute [local go_sem ↓] Go.wp_at_zero Go.wp_at_succ

/-- What Make answers. -/
def MkQ9 (c : Cm) (lead : Int) (Y : World) (e : Ending) (Y' : World) : Prop :=
  Below Y.heap.size Y Y' ∧ ((c.chk ≠ 0 ∧ e = .returned (.tuple #[.agg #[.slice none 0 0, .slice none 0 0], .int .i64 c.chk])) ∨
    (c.chk = 0 ∧ (lead < -1 ∨ (c.body.length : Int) ≤ lead) ∧ e = .returned (.tuple #[.agg #[.slice none 0 0, .slice none 0 0], .int .i64 91])) ∨
    (c.chk = 0 ∧ -1 ≤ lead ∧ lead < c.body.length ∧ ∃ av jv l, e = .returned (.tuple #[.agg #[av, jv], .int .i64 0]) ∧ OwI Y' Y.heap.size av (ah9 c) ∧ PJ9 Y' Y.heap.size jv l ∧ l.map Prod.fst = js9 c lead))
theorem PlQ9.store {w0 : World} {AH : List Int} {q : Nat} {V : World} {cur : Array Value} {av jv : Value} {l : List (Js9 × Value × Value)} (hq : Bk V q cur 35) (ha : OwI V w0.heap.size av AH) (hj : PJ9 V w0.heap.size jv l) (hb : Below w0.heap.size w0 V) {B : Nat} (hB : B ≤ w0.heap.size) (hBq : B ≤ q) : OwI ((V.setCell ⟨q, 0, none⟩ av).setCell ⟨q, 1, none⟩ jv) B av AH ∧ PJ9 ((V.setCell ⟨q, 0, none⟩ av).setCell ⟨q, 1, none⟩ jv) B jv l ∧ Below B w0 ((V.setCell ⟨q, 0, none⟩ av).setCell ⟨q, 1, none⟩ jv) := by
  have hf : Fr (fun b => b = q) V ((V.setCell ⟨q, 0, none⟩ av).setCell ⟨q, 1, none⟩ jv) := (((Fr.refl (fun b => b = q) V).set (Or.inl rfl)).set (Or.inl rfl))
  refine ⟨OwI.mono (row9_fr ha hf fun b e => Or.inr ⟨cur, 35, by rw [e]; exact hq, by decide⟩) hB, (hj.fr hf fun b e => Or.inr ⟨cur, 35, by rw [e]; exact hq, by decide, by decide⟩).mono hB, (hb.mono hB).trans (Fr.low (hf.mono (Q := fun b => B ≤ b) fun b _ e => by rw [e]; exact hBq) (Nat.le_trans hB hb.size))⟩
set_option maxRecDepth 20000 in
set_option maxHeartbeats 4000000 in
theorem make9_any (c : Cm) (lead : Int) (Y : World) (h : c.ok Y) (hwf : c.wf) (tp : ∀ x ∈ c.body, TsP Y x.2 x.1.args ∧ (c.chk = 0 → x.1.args.length ≤ 1000000)) (hnv : (dis c.vars).length ≤ 10000000000) :
    Calls Tryz.prog 5 #[c.v, .int .i64 lead] Y (MkQ9 c lead Y) := by
  obtain ⟨C, hC⟩ : ∃ C : Cm, C = c := ⟨_, rfl⟩
  suffices H : Calls Tryz.prog 5 #[c.v, .int .i64 lead] Y (MkQ9 C lead Y) by rw [hC] at H; exact H
  obtain ⟨⟨a, hn, cap, h1⟩, ⟨a1, cap1, h2⟩, ⟨a2, cap2, h3⟩, -, -⟩ := h.shape
  have HCK : Hid (∀ w' : World, Below Y.heap.size Y w' → Calls Tryz.prog 12 #[c.v] w' fun e w'' => e = .returned (.int .i64 C.chk) ∧ Below w'.heap.size w' w'') := fun w' hw => by rw [hC]; exact check9_any c w' (h.later hw) hwf
  have HNP : Hid (C.chk = 0 → ∀ w' : World, Below Y.heap.size Y w' → Calls Tryz.prog 13 #[c.v] w' fun e Y' => ∃ g mv av tv, e = .returned (.pointer (some ⟨g, 0, none⟩)) ∧ PN9 w' g C mv av tv (List.replicate (dis C.vars).length false) (up9 C.body.length) (up9 C.tests.length) Y') := fun hc w' hw => by rw [hC] at hc ⊢; exact newP9_any c w' (h.later hw) hwf (fun x hx => ⟨(tp x hx).1.later hw, (tp x hx).2 hc⟩) (by have := (chk_len9 hc).1; omega) (by have := (chk_len9 hc).2; omega) hnv
  have HCB : Hid (C.body.length = c.body.length) := by show _ = _; rw [hC]
  clear h hwf tp hnv hC
  obtain ⟨⟨⟨⟨k, m, s⟩, nm, ls⟩, hx⟩, body, bv, tests, tv⟩ := c
  simp only at h1 h2 h3 HCB
  subst h1 h2 h3
  obtain ⟨nb, hnb⟩ : ∃ nb, body.length = nb := ⟨_, rfl⟩
  obtain ⟨nt, hnt⟩ : ∃ nt, tests.length = nt := ⟨_, rfl⟩
  rw [hnb] at HCK HNP HCB ⊢
  rw [hnt] at HCK HNP ⊢
  clear hnb hnt
  have HCK1 : Hid (∀ w' : World, Below Y.heap.size Y w' → Calls Tryz.prog 12 #[.agg #[.int .i64 k, .int .i64 m, .string s, .string nm, .slice a hn cap, .slice a1 nb cap1, .slice a2 nt cap2]] w' fun e w'' => e = .returned (.int .i64 C.chk) ∧ Below w'.heap.size w' w'') := HCK.out
  have HNP1 : Hid (C.chk = 0 → ∀ w' : World, Below Y.heap.size Y w' → Calls Tryz.prog 13 #[.agg #[.int .i64 k, .int .i64 m, .string s, .string nm, .slice a hn cap, .slice a1 nb cap1, .slice a2 nt cap2]] w' fun e Y' => ∃ g mv av tv, e = .returned (.pointer (some ⟨g, 0, none⟩)) ∧ PN9 w' g C mv av tv (List.replicate (dis C.vars).length false) (up9 C.body.length) (up9 C.tests.length) Y') := HNP.out
  clear HCK HNP
  obtain ⟨b1, b0, hb0⟩ := two8 Y #[.int .i64 k, .int .i64 m, .string s, .string nm, .slice a hn cap, .slice a1 nb cap1, .slice a2 nt cap2] #[.slice none 0 0, .slice none 0 0] 30 35
  obtain ⟨Y0, hY0⟩ : ∃ Y0, (Y.alloc (.cells #[.int .i64 k, .int .i64 m, .string s, .string nm, .slice a hn cap, .slice a1 nb cap1, .slice a2 nt cap2] 30)).alloc (.cells #[.slice none 0 0, .slice none 0 0] 35) = Y0 := ⟨_, rfl⟩
  rw [hY0] at b1 b0 hb0
  have HB0 := hm7 hb0
  have HQE := hm7 (Eq.refl Y.heap.size)
  obtain ⟨q, hq⟩ : ∃ q, Y.heap.size = q := ⟨_, rfl⟩
  rw [hq] at b1 b0
  have HQ := hm7 hq
  have HB1 := hm7 b1
  have HQC := hm7 b0
  have d0 := b0.cell (i := 0) rfl
  have d1 := b0.cell (i := 1) rfl
  have d2 := b0.cell (i := 2) rfl
  have d3 := b0.cell (i := 3) rfl
  have d4 := b0.cell (i := 4) rfl
  have d5 := b0.cell (i := 5) rfl
  have d6 := b0.cell (i := 6) rfl
  clear hb0 b1 b0
  go_enter Tryz.func5, Tryz.ntmps5
  go_upto_region 1 with fail
  first | rw [hY0] | skip
  first | rw [hq] | skip
  clear hY0 hq
  go_upto_region 2 with (go_at_call 12; refine (HCK1.out Y0 HB0.out).mono ?_; rintro e W1 ⟨rfl, hb⟩; have HW1 := hm7 (HB0.out.trans (hb.mono HB0.out.size)); have HR1 := hm7 (HB1.out.below hb); have HC1 := hm7 (HQC.out.below hb); clear hb d0 d1 d2 d3 d4 d5 d6 HCK1)
  have r0 := HR1.out.cell (i := 0) rfl
  have r1 := HR1.out.cell (i := 1) rfl
  have f0 := HR1.out.froz 0
  have f1 := HR1.out.froz 1
  have d0 := HC1.out.cell (i := 0) rfl
  have d1 := HC1.out.cell (i := 1) rfl
  have d2 := HC1.out.cell (i := 2) rfl
  have d3 := HC1.out.cell (i := 3) rfl
  have d4 := HC1.out.cell (i := 4) rfl
  have d5 := HC1.out.cell (i := 5) rfl
  have d6 := HC1.out.cell (i := 6) rfl
  obtain ⟨ck, hck⟩ : ∃ ck, C.chk = ck := ⟨_, rfl⟩
  have HCE := hm7 hck
  rw [hck] at HNP1 ⊢
  clear hck
  have HZ := hm7 (((HR1.out.set 0 (.slice none 0 0)).set 1 (.slice none 0 0)))
  have z0 := HZ.out.cell (i := 0) rfl
  have z1 := HZ.out.cell (i := 1) rfl
  have HZB : Hid (Below Y.heap.size Y ((W1.setCell ⟨q + 1, 0, none⟩ (.slice none 0 0)).setCell ⟨q + 1, 1, none⟩ (.slice none 0 0))) := HW1.out.trans (Fr.low (Fr.set (Fr.set (Fr.refl (fun b => Y.heap.size ≤ b) W1) (Or.inl (by have := HQ.out; omega))) (Or.inl (by have := HQ.out; omega))) HW1.out.size)
  by_cases hk : ck = 0
  · subst hk
    by_cases hl1 : lead < -1
    · go_wp2
      refine bodyPost_ret (v := .tuple #[.agg #[.slice none 0 0, .slice none 0 0], .int .i64 91]) (by simp [results, Tryz.results5, go_sem, z0, z1]) rfl ?_
      exact ⟨HZB.out, Or.inr (Or.inl ⟨HCE.out, Or.inl hl1, rfl⟩)⟩
    · by_cases hl2 : (nb : Int) ≤ lead
      · go_wp2
        refine bodyPost_ret (v := .tuple #[.agg #[.slice none 0 0, .slice none 0 0], .int .i64 91]) (by simp [results, Tryz.results5, go_sem, z0, z1]) rfl ?_
        exact ⟨HZB.out, Or.inr (Or.inl ⟨HCE.out, Or.inr (by rw [HCB.out]; exact hl2), rfl⟩)⟩
      · have HLE := hm7 (show -1 ≤ lead by omega)
        have HLT := hm7 (show lead < (nb : Int) by omega)
        go_upto_region 6 with fail
        clear z0 z1 r0 r1 f0 f1
        go_wp2_with (first
          | (go_at_call 14; refine (planned9_any HCE.out HPN.out lead HLE.out (by rw [HCB.out]; exact HLT.out)).mono ?_; rintro e W3 ⟨av, jv, l, rfl, ha, hj, hmp, hb3⟩; have HMP := hm7 hmp; obtain ⟨va, vc, hav, -⟩ := row7_form ha; obtain ⟨vn, hvn⟩ : ∃ vn, (ah9 C).length = vn := ⟨_, rfl⟩; rw [hvn] at hav; clear hvn; subst hav; obtain ⟨ja, jc, hjv, -⟩ := row7_form hj.o; obtain ⟨jn, hjn⟩ : ∃ jn, l.length = jn := ⟨_, rfl⟩; rw [hjn] at hjv; clear hjn; subst hjv; have HR3 := hm7 (HR1.out.below hb3); have HST := hm7 (PlQ9.store HR3.out ha hj hb3 (B := Y.heap.size) HW1.out.size (by have := HQ.out; omega)); have r0 := HR3.out.cell (i := 0) rfl; have r1 := HR3.out.cell (i := 1) rfl; have f0 := HR3.out.froz 0; have f1 := HR3.out.froz 1; have HRZ := hm7 ((HR3.out.set 0 (.slice va vn vc)).set 1 (.slice ja jn jc)); clear ha hj hmp hb3)
          | (go_at_call 13; refine (HNP1.out rfl W1 HW1.out).mono ?_; rintro e W2 ⟨g, mv, av0, tv0, rfl, hpn⟩; have HPN := hm7 hpn; clear hpn d0 d1 d2 d3 d4 d5 d6))
        have z0 := HRZ.out.cell (i := 0) rfl
        have z1 := HRZ.out.cell (i := 1) rfl
        refine bodyPost_ret (v := .tuple #[.agg #[.slice va vn vc, .slice ja jn jc], .int .i64 0]) (by simp [results, Tryz.results5, go_sem, z0, z1]) rfl ?_
        exact ⟨HW1.out.trans HST.out.2.2, Or.inr (Or.inr ⟨HCE.out, HLE.out, by rw [HCB.out]; exact HLT.out, _, _, l, rfl, HST.out.1, HST.out.2.1, HMP.out⟩)⟩
  · have hk1 : (ck == 0) = false := by simp [hk]
    have hk2 : (ck != 0) = true := by simp [hk]
    go_wp2
    refine bodyPost_ret (v := .tuple #[.agg #[.slice none 0 0, .slice none 0 0], .int .i64 ck]) (by simp [results, Tryz.results5, go_sem, z0, z1]) rfl ?_
    exact ⟨HZB.out, Or.inl ⟨by rw [HCE.out]; exact hk, by rw [HCE.out]⟩⟩
end Go.Proofs.YtgbiicmkhlnniaaGreatDoor
/-
  plan: the sort of at most one row of terms; base.New, as much as law 9's first asks of it.
-/
namespace Go.Proofs.YtgbiicmkhlnniaaGreatDoor
open Go.RowKit

theorem insTs_tiny (v f : Value) (n : Nat) (h : n ≤ 1) (w : World) : Calls Tryz.prog 105 #[v, .int .i64 0, .int .i64 n, f] w fun e w' => e = .returned (.tuple #[]) ∧ w' = w := by
  have hn : ¬ (1 : Int) < (n : Int) := by omega
  go_enter Tryz.func105, Tryz.ntmps105
  go_wp2
  go_loop [8] (fun i => i = .int .i64 1) (fun _ => 0)
  case atStart => rfl
  case round =>
    subst hrel
    go_wp2
    go_end0
    exact ⟨rfl, rfl⟩
theorem pdqTs_tiny (v f : Value) (n : Nat) (h : n ≤ 1) (m : Int) (w : World) : Calls Tryz.prog 78 #[v, .int .i64 0, .int .i64 n, .int .i64 m, f] w fun e w' => e = .returned (.tuple #[]) ∧ w' = w := by
  have hn : (n : Int) ≤ 12 := by omega
  have hn0 : (0 : Int) ≤ n := by omega
  go_enter Tryz.func78, Tryz.ntmps78
  go_wp2
  go_loop [1, 2] (fun a b => a = .int .i64 0 ∧ b = .int .i64 n) (fun _ _ => 0)
  case atStart => exact ⟨rfl, rfl⟩
  case round =>
    obtain ⟨rfl, rfl⟩ := hrel
    go_wp2_with (go_at_call 105; refine (insTs_tiny _ _ _ h _).mono ?_; rintro e w1 ⟨rfl, rfl⟩)
    (try simp only [Exit.inBlock, Exit.then])
    refine bodyPost_ret (results_none rfl _ _ _) rfl ?_
    exact ⟨rfl, rfl⟩
theorem sortTs_tiny (a : Option Addr) (f : Value) (n cap : Nat) (h : n ≤ 1) (w : World) : Calls Tryz.prog 44 #[.slice a n cap, f] w fun e w' => e = .returned (.tuple #[]) ∧ w' = w := by
  have hw : IntKind.u64.wrap (n : Int) = n := by rw [IntKind.wrap_u64]; omega
  go_enter Tryz.func44, Tryz.ntmps44
  go_wp2_with (first
    | (go_at_call 79; refine (len_tiny n h _).mono ?_; rintro e w1 ⟨⟨m, rfl⟩, rfl⟩)
    | (go_at_call 78; refine (pdqTs_tiny _ _ n h _ _).mono ?_; rintro e w1 ⟨rfl, rfl⟩))
  go_end0
  exact ⟨rfl, rfl⟩
theorem newTable9_any (Y : World) : Calls Tryz.prog 42 #[] Y fun e Y' => (∃ m, e = .returned (.agg #[.slice none 0 0, .map (some m)])) ∧ Below Y.heap.size Y Y' := by
  have m1 := mk_map7 87
  go_enter Tryz.func42, Tryz.ntmps42
  go_wp2
  exact bodyPost_ret (v := .agg #[.slice none 0 0, .map (some (Y.heap.size + 1))]) (by simp [results, Tryz.results42, go_sem]) rfl ⟨⟨_, rfl⟩, below_step (below1 _ _) (below1 _ _)⟩
set_option maxRecDepth 20000 in
set_option maxHeartbeats 1000000 in
theorem new9_any (Y : World) : Calls Tryz.prog 26 #[] Y fun e Y' => (∃ g, e = .returned (.pointer (some ⟨g, 0, none⟩))) ∧ Below Y.heap.size Y Y' := by
  have m1 := mk_map7 91
  go_enter Tryz.func26, Tryz.ntmps26
  go_wp2_with (go_at_call 42; refine (newTable9_any _).mono ?_; rintro e w1 ⟨⟨m, rfl⟩, hb1⟩; have HB1 := hm7 hb1; clear hb1)
  go_ret
  exact ⟨⟨_, rfl⟩, HB1.out.trans ((below_step (below1 _ _) (below1 _ _)).mono HB1.out.size)⟩
end Go.Proofs.YtgbiicmkhlnniaaGreatDoor
/-
  plan: hold of no tests, values of no binds, solutions of a body without atoms.
-/
namespace Go.Proofs.YtgbiicmkhlnniaaGreatDoor
open Go.RowKit
attribute [local go_sem ↓] Go.wp_at_zero Go.wp_at_succ

theorem Tryz.infoTerm9 : (Tryz.prog.info? 23).map (fun i => (i.zero, i.size, i.bytes)) = some (some (.agg #[.int .i64 0, .int .i64 0, .string ⟨#[]⟩]), 3, 32) := by kernel_rfl
theorem Tryz.infoLoop9 : (Tryz.prog.info? 120).map (fun i => (i.zero, i.size, i.bytes)) = some (some (.agg #[.slice none 0 0, .slice none 0 0]), 2, 48) := by kernel_rfl
theorem hold9_none (p v : Value) (a : Option Addr) (c : Nat) (w : World) : Calls Tryz.prog 74 #[p, .slice a 0 c, v] w fun e w' => e = .returned (.bool true) ∧ w' = w := by
  go_enter Tryz.func74, Tryz.ntmps74
  go_wp2
  go_loop [13] (fun i => i = .int .i64 0) (fun _ => 0)
  case atStart => rfl
  case round =>
    subst hrel
    go_wp2
    go_ret
    exact ⟨rfl, rfl⟩
theorem mk9_terms (w : World) : (Instr.makeSlice 24 (.int .i64 0) (.int .i64 0)).run Tryz.prog w = .ok (.slice (some ⟨w.heap.size, 0, none⟩) 0 0) (w.alloc (.cells #[] 23)) := by
  obtain ⟨i, hi, h0, h1, h2⟩ := info7 Tryz.infoTerm9
  have h := run_make (P := Tryz.prog) w 24 23 i _ Tryz.underlying24 hi h0 .i64 .i64 0 0 (by omega) (by omega) (by rw [h2]; omega) (by omega)
  rw [h1, show madeCells (Value.agg #[.int .i64 0, .int .i64 0, .string ⟨#[]⟩]).cells (Int.toNat 0 * 3) = #[] by simp [madeCells]] at h
  exact h
theorem mk9_loops (w : World) : (Instr.makeSlice 115 (.int .i64 1) (.int .i64 1)).run Tryz.prog w = .ok (.slice (some ⟨w.heap.size, 0, none⟩) 1 1) (w.alloc (.cells #[.slice none 0 0, .slice none 0 0] 120)) := by
  obtain ⟨i, hi, h0, h1, h2⟩ := info7 Tryz.infoLoop9
  have h := run_make (P := Tryz.prog) w 115 120 i _ Tryz.underlying115 hi h0 .i64 .i64 1 1 (by omega) (by omega) (by rw [h2]; omega) (by omega)
  rw [h1, show madeCells (Value.agg #[.slice none 0 0, .slice none 0 0]).cells (Int.toNat 1 * 2) = #[.slice none 0 0, .slice none 0 0] by kernel_rfl] at h
  exact h
set_option maxRecDepth 20000 in
theorem values9_none (w : World) : Calls Tryz.prog 76 #[.slice none 0 0] w fun e w' => (∃ g, e = .returned (.slice (some ⟨g, 0, none⟩) 0 0)) ∧ Below w.heap.size w w' := by
  go_enter Tryz.func76, Tryz.ntmps76
  have m1 := mk9_terms
  go_wp2
  go_loop [11] (fun i => i = .int .i64 0) (fun _ => 0)
  case atStart => rfl
  case round =>
    subst hrel
    go_wp2
    go_ret
    exact ⟨⟨_, rfl⟩, below1 _ _⟩
/-- One solution without values. -/
def SL9 (w : World) (e : Ending) (w' : World) : Prop :=
  ∃ g cap r rc, e = .returned (.slice (some ⟨g, 0, none⟩) 1 cap) ∧ w'.cell? ⟨g, 0, none⟩ = some (.slice (some ⟨r, 0, none⟩) 0 rc) ∧ w.heap.size ≤ g ∧ g < w'.heap.size ∧ Below w.heap.size w w'
theorem Tryz.infoTerms9 : (Tryz.prog.info? 24).map (fun i => (i.zero, i.size, i.bytes)) = some (some (.slice none 0 0), 1, 24) := by kernel_rfl
set_option maxRecDepth 20000 in
set_option maxHeartbeats 1000000 in
theorem sol9_none (q : Nat) (cs : Array Value) (w : World) (hq : Bk w q cs 95) (a j : Option Addr) (ca cj : Nat) (h9 : cs[9]? = some (.slice a 0 ca)) (h10 : cs[10]? = some (.slice j 0 cj)) :
    Calls Tryz.prog 43 #[.pointer (some ⟨q, 0, none⟩)] w (SL9 w) := by
  have d9 := hq.cell h9
  have d10 := hq.cell h10
  have hql := hq.lt
  clear hq h9 h10
  have m1 := mk9_loops
  go_enter Tryz.func43, Tryz.ntmps43
  go_wp2
  go_step3
  go_wp2_with (go_at_call 74; refine (hold9_none _ _ _ _ _).mono ?_; rintro e w1 ⟨rfl, rfl⟩)
  go_step3
  go_wp2
  obtain ⟨W1, hW1⟩ : ∃ W1, w1.alloc (.cells #[.slice none 0 0, .slice none 0 0] 120) = W1 := ⟨_, rfl⟩
  have HB1 : Hid (Below w1.heap.size w1 W1) := by rw [← hW1]; exact below1 _ _
  have HK : Hid (Bk W1 w1.heap.size #[.slice none 0 0, .slice none 0 0] 120) := by rw [← hW1]; exact Bk.new _ _ _
  rw [hW1]
  obtain ⟨n0, hn0⟩ : ∃ n0, w1.heap.size = n0 := ⟨_, rfl⟩
  rw [hn0] at HK ⊢
  have HN0 := hm7 hn0
  clear hW1 hn0
  have d0 : W1.cell? ⟨n0, 0, none⟩ = some (.slice none 0 0) := HK.out.cell (i := 0) rfl
  have d1 : W1.cell? ⟨n0, 1, none⟩ = some (.slice none 0 0) := HK.out.cell (i := 1) rfl
  have hl := HK.out.lt
  go_loopg [3, 6] 0 (fun g f a wr => g = 0 ∧ f = .slice none 0 0 ∧ a = .int .i64 0 ∧ wr = W1)
  case atStart => exact ⟨rfl, rfl, rfl, rfl⟩
  case round =>
    obtain ⟨-, rfl, rfl, rfl⟩ := hrel
    go_upto_region 11 with (first
      | (go_at_call 76; refine (values9_none _).mono ?_; rintro e w2 ⟨⟨r, rfl⟩, hb⟩; have HB2 := hm7 hb; clear hb)
      | (at_builtin; refine gapp Tryz.underlying65 Tryz.infoTerms9 rfl (by omega) rfl _ _ rfl w2.heap.size (.slice none 0 0) 0 [] rfl (World.ownsRow_nil _ _ _ _) w2.heap.size (.slice (some ⟨r, 0, none⟩) 0 0) rfl (Bk.new _ _ _) rfl (by omega) (by simp) ?_; intro g2 q2 w3 ho2 hg2 hv2 hl2; have HO2 := hm7 ho2; have HB3 := hm7 ((below1 _ _).trans (Fr.low (Fr.grown (P := fun b => w2.heap.size ≤ b) hg2 (fun k hk => by cases hk)) (by simp))); clear ho2 hg2))
    rw [Nat.zero_add] at HO2
    have hs2 : w3.cell? ⟨g2, 0, none⟩ = some (.slice (some ⟨r, 0, none⟩) 0 0) := by
      obtain ⟨g, hg, -, -, hc, -⟩ := row7_at HO2.out (i := 0) (u := .slice (some ⟨r, 0, none⟩) 0 0) rfl
      simp only [Option.some.injEq, Addr.mk.injEq] at hg
      rw [hg.1]; exact hc
    have HS2 := hm7 hs2
    have hge : w1.heap.size ≤ g2 := by
      have h1 := HB1.out.size
      have h2 := HB2.out.size
      rcases hv2 with h | h
      · cases h
      · rw [h]; simp; omega
    have HB5 := hm7 ((HB1.out.trans (HB2.out.mono HB1.out.size)).trans (HB3.out.mono (Nat.le_trans HB1.out.size HB2.out.size)))
    have HK5 := hm7 ((HK.out.below HB2.out).below HB3.out)
    have HGE := hm7 hge
    have e0 : w3.cell? ⟨n0, 0, none⟩ = some (.slice none 0 0) := HK5.out.cell (i := 0) rfl
    have e1 : w3.cell? ⟨n0, 1, none⟩ = some (.slice none 0 0) := HK5.out.cell (i := 1) rfl
    have hl5 := HK5.out.lt
    clear hs2 hge hv2 d0 d1 hl HO2 HB2 HB3 HK HN0
    go_wp2
    go_loopg [6] 0 (fun g a wr => g = 0 ∧ a = .int .i64 0 ∧ wr = w3)
    case atStart => exact ⟨rfl, rfl, rfl⟩
    case round =>
      obtain ⟨-, rfl, rfl⟩ := hrel
      obtain ⟨W4, rfl⟩ : ∃ W4, W4 = wr := ⟨_, rfl⟩
      go_wp2
      go_loopg [] 0 (fun g wr => g = 0 ∧ wr = W4)
      case atStart => exact ⟨rfl, rfl⟩
      case round =>
        obtain ⟨-, rfl⟩ := hrel
        go_wp2
        rw [Exit.noGoto_ret]
        go_ret
        exact ⟨_, _, _, _, rfl, HS2.out, HGE.out, hl2, HB5.out⟩
end Go.Proofs.YtgbiicmkhlnniaaGreatDoor

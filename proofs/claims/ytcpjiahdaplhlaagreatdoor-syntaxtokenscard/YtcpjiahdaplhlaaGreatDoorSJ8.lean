import Derived.Test.YtcpjiahdaplhlaaGreatDoorSJ6
import Derived.Test.YtcpjiahdaplhlaaGreatDoorST5
/-
  law 5: lists: the same? (Written by SJ7.py.)
-/
namespace Go.Proofs.YtcpjiahdaplhlaaGreatDoor
open Go.RowKit
attribute [local go_sem ↓] Go.wp_at_zero Go.wp_at_succ

/-- One clause of a list. -/
theorem RL.get5 {F : Nat → Prop} {w : World} {v : Value} {l : List Cm} (h : RL F w v l) {j : Nat} {c : Cm} (hj : l[j]? = some c) : ∃ g cap, v = .slice (some ⟨g, 0, none⟩) l.length cap ∧ g < w.heap.size ∧ (w.cell? ⟨g, j * 7, none⟩ = some (.int .i64 c.head.1.by_.k) ∧ w.cell? ⟨g, j * 7 + 1, none⟩ = some (.int .i64 c.head.1.by_.n) ∧ w.cell? ⟨g, j * 7 + 2, none⟩ = some (.string c.head.1.by_.s) ∧ w.cell? ⟨g, j * 7 + 3, none⟩ = some (.string c.head.1.name) ∧ w.cell? ⟨g, j * 7 + 4, none⟩ = some c.head.2 ∧ w.cell? ⟨g, j * 7 + 5, none⟩ = some c.bv ∧ w.cell? ⟨g, j * 7 + 6, none⟩ = some c.tv) ∧ c.ok w := by
  have hlt := (List.getElem?_eq_some_iff.1 hj).1
  obtain ⟨g, cap, hv⟩ := row5_pos h.o (by omega)
  have hg := (World.ownsRow.lt h.o g (by rw [hv]; rfl)).2
  have ho := h.o
  rw [hv] at ho
  have hcell : ∀ i x, (cc5 c)[i]? = some x → w.cell? ⟨g, j * 7 + i, none⟩ = some x := fun i x hx => by
    have := row5_cell ho (cc5_get hj i x hx (by have := (List.getElem?_eq_some_iff.1 hx).1; exact this))
    rw [Nat.zero_add] at this
    exact this
  exact ⟨g, cap, hv, hg, ⟨hcell 0 _ rfl, hcell 1 _ rfl, hcell 2 _ rfl, hcell 3 _ rfl, hcell 4 _ rfl, hcell 5 _ rfl, hcell 6 _ rfl⟩, (h.k c (List.mem_of_getElem? hj)).ok⟩
theorem RL.form {F : Nat → Prop} {w : World} {v : Value} {l : List Cm} (h : RL F w v l) : ∃ a cap, v = .slice a l.length cap := by
  obtain ⟨a, c, e, -⟩ := row7_form h.o
  exact ⟨a, c, e⟩
set_option maxRecDepth 20000 in
set_option maxHeartbeats 4000000 in
theorem lists5_any (F G : Nat → Prop) (l q : List Cm) (v u : Value) (w : World) (h : RL F w v l) (hu : RL G w u q) (hk : l.map Cm.key = q.map Cm.key) (hl : l.length ≤ 1000000000) :
    Calls Tryz.prog 12 #[v, u] w fun e w' => e = .returned (.bool true) ∧ Below w.heap.size w w' := by
  have HP : Hid (RL F w v l) := h
  have HU : Hid (RL G w u q) := hu
  obtain ⟨va, vc, hv⟩ := h.form
  obtain ⟨ua, uc, hw⟩ := hu.form
  have hlen : q.length = l.length := by have := congrArg List.length hk; simpa using this.symm
  have HK : Hid (l.map Cm.key = q.map Cm.key) := hk
  rw [hlen] at hw
  obtain ⟨n, hn⟩ : ∃ n, l.length = n := ⟨_, rfl⟩
  have HN : Hid (l.length = n ∧ q.length = n) := ⟨hn, hlen.trans hn⟩
  rw [hn] at hv hw hl
  subst hv hw
  have n1 : ((n : Int) != (n : Int)) = false := by simp
  clear h hu hk hlen hn
  go_enter Tryz.func12, Tryz.ntmps12
  go_wp2
  go_loopg [5] n (fun g i wr => ∃ j : Nat, j + g = n ∧ i = .int .i64 (j : Int) ∧ Below w.heap.size w wr)
  case atStart => exact ⟨0, by omega, rfl, Below.refl _ _⟩
  case round =>
    obtain ⟨j, hg, rfl, hb⟩ := hrel
    have HB : Hid (Below w.heap.size w wr) := hb
    clear hb
    cases gk with
    | succ g =>
      have i0 : (0 : Int) ≤ (j : Int) := by omega
      have i1 : (j : Int) < (n : Int) := by omega
      obtain ⟨x, hx⟩ : ∃ c, l[j]? = some c := ⟨_, List.getElem?_eq_getElem (by have := HN.out.1; omega)⟩
      obtain ⟨y, hy⟩ : ∃ c, q[j]? = some c := ⟨_, List.getElem?_eq_getElem (by have := HN.out.2; omega)⟩
      have hxy : x.key = y.key := by
        have h1 : (l.map Cm.key)[j]? = some x.key := by rw [List.getElem?_map, hx]; rfl
        have h2 : (q.map Cm.key)[j]? = some y.key := by rw [List.getElem?_map, hy]; rfl
        rw [HK.out, h2] at h1
        exact (Option.some.inj h1).symm
      obtain ⟨sb, vc', ev, hz1, hce, hok⟩ := (HP.out.below HB.out).get5 hx
      obtain ⟨sd, uc', eu, hz2, hcd, hok2⟩ := (HU.out.below HB.out).get5 hy
      have HC0 := fun (X : World) (hX : Below wr.heap.size wr X) => clauses5_any x y X (hok.later hX) (hok2.later hX) hxy
      simp only [Value.slice.injEq] at ev eu
      obtain ⟨rfl, -, -⟩ := ev
      obtain ⟨rfl, -, -⟩ := eu
      have hsh := hok.shape
      have hsh2 := hok2.shape
      have HZ1 : Hid (sb < wr.heap.size) := hz1
      have HZ2 : Hid (sd < wr.heap.size) := hz2
      clear hx hy hxy hz1 hz2 hok hok2
      obtain ⟨⟨⟨⟨xk, xm, xs⟩, xn, xl⟩, xx⟩, xb, xbv, xt, xtv⟩ := x
      simp only at hce hsh
      obtain ⟨⟨x1, x2, x3, e1⟩, ⟨x4, x6, e2⟩, ⟨x7, x9, e3⟩, -, -⟩ := hsh
      obtain ⟨x5, h5⟩ : ∃ n, xb.length = n := ⟨_, rfl⟩
      obtain ⟨x8, h8⟩ : ∃ n, xt.length = n := ⟨_, rfl⟩
      rw [h5] at e2
      rw [h8] at e3
      subst e1 e2 e3
      clear h5 h8
      obtain ⟨⟨⟨⟨ck, cm, cs⟩, cn, cl⟩, cx⟩, cb, cbv, ct, ctv⟩ := y
      simp only at hcd hsh2
      obtain ⟨⟨c1, c2, c3, e1⟩, ⟨c4, c6, e2⟩, ⟨c7, c9, e3⟩, -, -⟩ := hsh2
      obtain ⟨c5, h5⟩ : ∃ n, cb.length = n := ⟨_, rfl⟩
      obtain ⟨c8, h8⟩ : ∃ n, ct.length = n := ⟨_, rfl⟩
      rw [h5] at e2
      rw [h8] at e3
      subst e1 e2 e3
      clear h5 h8
      have HE : Hid _ := hce
      have HD : Hid _ := hcd
      have HC : Hid (∀ Y : World, Below wr.heap.size wr Y → Calls Tryz.prog 33 #[.agg #[.int .i64 xk, .int .i64 xm, .string xs, .string xn, .slice x1 x2 x3, .slice x4 x5 x6, .slice x7 x8 x9], .agg #[.int .i64 ck, .int .i64 cm, .string cs, .string cn, .slice c1 c2 c3, .slice c4 c5 c6, .slice c7 c8 c9]] Y fun e w' => e = .returned (.bool true) ∧ Below Y.heap.size Y w') := HC0
      clear HC0 hce hcd
      go_upto_region 6 with fail
      refine wp_region_held_drew (S := fun w' => Below wr.heap.size wr w') (by kernel_rfl) (Below.refl _ _).drew (fun hH => ?_)
      revert hH
      generalize wr.drew = V
      intro hH
      refine wpAnyH_take (i := 0) (oi := ⟨_, _, _, _, _, _⟩) (v := .slice (some ⟨sb, 0, none⟩) n vc) rfl (by kernel_rfl) (by kernel_rfl) (by kernel_rfl) (fun _ _ _ h => h) (Or.inl ⟨by rfl, fun w' h => by have _h := h; go_simp⟩) hH ?_
      simp only [Act.put, List.setIfInBounds_toArray, List.set_cons_zero, List.set_cons_succ]
      refine wpAnyH_take (i := 1) (oi := ⟨_, _, _, _, _, _⟩) (v := .int .i64 (j : Int)) rfl (by kernel_rfl) (by kernel_rfl) (by kernel_rfl) (fun _ _ _ h => h) (Or.inl ⟨by rfl, fun w' h => by have _h := h; go_simp⟩) hH ?_
      simp only [Act.put, List.setIfInBounds_toArray, List.set_cons_zero, List.set_cons_succ]
      refine wpAnyH_take (i := 2) (oi := ⟨_, _, _, _, _, _⟩) (v := .pointer (some ⟨sb, j * 7, none⟩)) rfl (by kernel_rfl) (by kernel_rfl) (by kernel_rfl) (fun _ _ _ h => h) (Or.inl ⟨by rfl, fun w' h => by have _h := h; go_simp⟩) hH ?_
      simp only [Act.put, List.setIfInBounds_toArray, List.set_cons_zero, List.set_cons_succ]
      refine wpAnyH_take (i := 3) (oi := ⟨_, _, _, _, _, _⟩) (v := .agg #[.int .i64 xk, .int .i64 xm, .string xs, .string xn, .slice x1 x2 x3, .slice x4 x5 x6, .slice x7 x8 x9]) rfl (by kernel_rfl) (by kernel_rfl) (by kernel_rfl) (fun _ _ _ h => h) (Or.inl ⟨by rfl, fun w' h => by obtain ⟨p0, p1, p2, p3, p4, p5, p6⟩ := HE.out; have z := HZ1.out; have a0 := cell_step h z p0; have a1 := cell_step h z p1; have a2 := cell_step h z p2; have a3 := cell_step h z p3; have a4 := cell_step h z p4; have a5 := cell_step h z p5; have a6 := cell_step h z p6; clear p0 p1 p2 p3 p4 p5 p6; go_simp⟩) hH ?_
      simp only [Act.put, List.setIfInBounds_toArray, List.set_cons_zero, List.set_cons_succ]
      refine wpAnyH_take (i := 4) (oi := ⟨_, _, _, _, _, _⟩) (v := .slice (some ⟨sd, 0, none⟩) n uc) rfl (by kernel_rfl) (by kernel_rfl) (by kernel_rfl) (fun _ _ _ h => h) (Or.inl ⟨by rfl, fun w' h => by have _h := h; go_simp⟩) hH ?_
      simp only [Act.put, List.setIfInBounds_toArray, List.set_cons_zero, List.set_cons_succ]
      refine wpAnyH_take (i := 5) (oi := ⟨_, _, _, _, _, _⟩) (v := .int .i64 (j : Int)) rfl (by kernel_rfl) (by kernel_rfl) (by kernel_rfl) (fun _ _ _ h => h) (Or.inl ⟨by rfl, fun w' h => by have _h := h; go_simp⟩) hH ?_
      simp only [Act.put, List.setIfInBounds_toArray, List.set_cons_zero, List.set_cons_succ]
      refine wpAnyH_take (i := 6) (oi := ⟨_, _, _, _, _, _⟩) (v := .pointer (some ⟨sd, j * 7, none⟩)) rfl (by kernel_rfl) (by kernel_rfl) (by kernel_rfl) (fun _ _ _ h => h) (Or.inl ⟨by rfl, fun w' h => by have _h := h; go_simp⟩) hH ?_
      simp only [Act.put, List.setIfInBounds_toArray, List.set_cons_zero, List.set_cons_succ]
      refine wpAnyH_take (i := 7) (oi := ⟨_, _, _, _, _, _⟩) (v := .agg #[.int .i64 ck, .int .i64 cm, .string cs, .string cn, .slice c1 c2 c3, .slice c4 c5 c6, .slice c7 c8 c9]) rfl (by kernel_rfl) (by kernel_rfl) (by kernel_rfl) (fun _ _ _ h => h) (Or.inl ⟨by rfl, fun w' h => by obtain ⟨p0, p1, p2, p3, p4, p5, p6⟩ := HD.out; have z := HZ2.out; have a0 := cell_step h z p0; have a1 := cell_step h z p1; have a2 := cell_step h z p2; have a3 := cell_step h z p3; have a4 := cell_step h z p4; have a5 := cell_step h z p5; have a6 := cell_step h z p6; clear p0 p1 p2 p3 p4 p5 p6; go_simp⟩) hH ?_
      simp only [Act.put, List.setIfInBounds_toArray, List.set_cons_zero, List.set_cons_succ]
      refine wpAnyH_ready (rs := [8]) (by kernel_rfl) (by simp) ?_
      refine (AllReadyH.cons (o := ⟨_, _, _, _, _, _⟩) rfl (fun K hK => ?_) AllReadyH.nil)
      go_simp
      refine (HC.out _ hH).mono ?_
      rintro e V1 ⟨rfl, hb⟩
      refine hK.out _ _ (below_step hH hb) (fun hH => ?_)
      clear hK K hb
      refine wpAnyH_take (i := 9) (oi := ⟨_, _, _, _, _, _⟩) (v := .bool false) rfl (by kernel_rfl) (by kernel_rfl) (by kernel_rfl) (fun _ _ _ h => h) (Or.inl ⟨by rfl, fun w' _ => by go_simp⟩) hH ?_
      simp only [Act.put, List.setIfInBounds_toArray, List.set_cons_zero, List.set_cons_succ]
      refine wpAnyH_done (by kernel_rfl) ?_ _
      have HV : Hid (Below wr.heap.size wr V1) := hH
      clear hH HE HD HZ1 HZ2 HC
      go_wp2
      go_roundg g
      case measure => omega
      case rel => exact ⟨j + 1, by omega, by go_num, below_step HB.out HV.out⟩
    | zero =>
      have i1 : ¬ (j : Int) < (n : Int) := by omega
      go_wp2
      go_ret
      exact ⟨rfl, HB.out⟩
end Go.Proofs.YtcpjiahdaplhlaaGreatDoor
/-
  PLAIN: a fault's number is not 0.
-/
namespace Go.Proofs.YtcpjiahdaplhlaaGreatDoor
open Go.RowKit

variable {Q : Int × Int → Prop}
/-- What may be said of a fault at a token or at the end. -/
structure HQ (T : List Tk) (L : Nat) (Q : Int × Int → Prop) : Prop where
  t : ∀ (c : Int) (t : Tk), c ≠ 0 → t ∈ T → Q (c, t.a)
  l : ∀ c : Int, c ≠ 0 → Q (c, (L : Int))
theorem HQ.pl {T : List Tk} {L : Nat} (h : HQ T L Q) {c : Int} (hc : c ≠ 0) (s : Ps) : Q (c, pl5 T L s) := by
  unfold pl5
  cases hs : T[s.nx]? with
  | none => exact h.l c hc
  | some t => exact h.t c t hc (List.mem_of_getElem? hs)
def Er {α : Type} (Q : Int × Int → Prop) (k : Nat) (f : Ps → R5 α) : Prop := ∀ s e, s.op = k → f s = .error e → Q e
theorem Er.and {α β : Type} {k : Nat} {f : Ps → R5 α} {p : α → Ps → R5 β} (h : Er Q k f) (hg : Goes f) (hp : ∀ a, Er Q k (p a)) : Er Q k fun s => (f s).and p := fun s e hs he => by
  cases hf : f s with
  | error x =>
    have he' : (f s).and p = .error e := he
    rw [hf] at he'
    have : x = e := Except.error.inj he'
    exact this ▸ h s x hs hf
  | ok a =>
    obtain ⟨a, s'⟩ := a
    have he' : (f s).and p = .error e := he
    rw [hf] at he'
    exact hp a s' e ((hg s a s' hf).1.trans hs) he'
theorem er_pure {α : Type} {k : Nat} (F : Ps → α × Ps) : Er Q k fun s => (.ok (F s) : R5 α) := fun s e _ he => by cases he
theorem er_ok {α : Type} {k : Nat} (a : α) : Er Q k fun s => (.ok (a, s) : R5 α) := er_pure fun s => (a, s)
theorem Er.ite {α : Type} {k : Nat} {c : Ps → Prop} [∀ s, Decidable (c s)] {f p : Ps → R5 α} (h : Er Q k f) (hp : Er Q k p) : Er Q k fun s => if c s then f s else p s := fun s e hs he => by
  have he' : (if c s then f s else p s) = .error e := he
  by_cases hc : c s
  · rw [if_pos hc] at he'; exact h s e hs he'
  · rw [if_neg hc] at he'; exact hp s e hs he'
theorem er_tk {T : List Tk} {L : Nat} (hQ : HQ T L Q) (k : Nat) (ks : List Int) : Er Q k (tk5 T L ks) := fun s e _ he => by
  unfold tk5 at he
  cases hs : T[s.nx]? with
  | none =>
    rw [hs] at he
    rw [← Except.error.inj he]; exact hQ.l 51 (by decide)
  | some t =>
    rw [hs] at he
    have he' : (if t.k ∈ ks then _ else _ : R5 Tk) = .error e := he
    by_cases hk : t.k ∈ ks
    · rw [if_pos hk] at he'; cases he'
    · rw [if_neg hk] at he'
      rw [← Except.error.inj he']; exact hQ.t 51 t (by decide) (List.mem_of_getElem? hs)
theorem er_tm {T : List Tk} {L : Nat} (hQ : HQ T L Q) (k : Nat) : Er Q k (tm5 T L) := (er_tk hQ k _).and (goes_tk T L _) fun _ => er_pure _
theorem er_who {T : List Tk} {L : Nat} (hQ : HQ T L Q) (k : Nat) : Er Q k (who5 T L) := (er_tk hQ k _).and (goes_tk T L _) fun _ => er_pure _
theorem er_ls {α : Type} {one : Ps → R5 α} {T : List Tk} {L : Nat} (hQ : HQ T L Q) (k : Nat) (b : Int) (h : Er Q k one) (hg : Goes one) : ∀ (f : Nat) (acc : List α), Er Q k (ls5 one T L b f acc)
  | 0, acc => er_ok acc
  | f + 1, acc => Er.ite ((er_tk hQ k _).and (goes_tk T L _) fun _ => h.and hg fun a => er_ls hQ k b h hg f (acc ++ [a])) (er_ok acc)
theorem er_list {α : Type} {one : Ps → R5 α} {T : List Tk} {L : Nat} (hQ : HQ T L Q) (k : Nat) (b : Int) (h : Er Q k one) (hg : Goes one) : Er Q k (list5 one T L b) := h.and hg fun _ => er_ls hQ k b h hg _ _
theorem er_args {T : List Tk} {L : Nat} (hQ : HQ T L Q) (k : Nat) : Er Q k (args5 T L) := Er.ite ((er_tk hQ k _).and (goes_tk T L _) fun _ => (er_list hQ k 8 (er_tm hQ k) (goes_tm T L)).and (goes_list T L 8 (goes_tm T L)) fun l => (er_tk hQ k _).and (goes_tk T L _) fun _ => er_ok l) (er_ok [])
theorem er_by {T : List Tk} {L : Nat} (hQ : HQ T L Q) (k : Nat) : Er Q k (by5 T L) := Er.ite (er_ok _) ((er_who hQ k).and (goes_who T L) fun t => (er_tk hQ k _).and (goes_tk T L _) fun _ => er_ok t)
theorem er_at {T : List Tk} {L : Nat} (hQ : HQ T L Q) (k : Nat) : Er Q k (at5 T L) := (er_by hQ k).and (goes_by T L) fun _ => (er_tk hQ k _).and (goes_tk T L _) fun _ => (er_args hQ k).and (goes_args T L) fun _ => er_ok _
theorem er_te {T : List Tk} {L : Nat} (hQ : HQ T L Q) (k : Nat) : Er Q k (te5 T L) := (er_tm hQ k).and (goes_tm T L) fun _ => (er_tk hQ k _).and (goes_tk T L _) fun _ => (er_tm hQ k).and (goes_tm T L) fun _ => er_ok _
theorem er_alt {one : Ps → R5 (List (List Lf5))} {T : List Tk} {L : Nat} (hQ : HQ T L Q) (k : Nat) (h : Er Q k one) (hg : Goes one) : Er Q k (altOf5 one T L) :=
  (er_list hQ k 9 ((er_list hQ k 8 h hg).and (goes_list T L 8 hg) fun _ => er_ok _) (goes_conj T L hg)).and (goes_list T L 9 (goes_conj T L hg)) fun _ => er_ok _
theorem er_br {one : Ps → R5 (List (List Lf5))} {T : List Tk} {L : Nat} (hQ : HQ T L Q) (k : Nat) (h : k ≠ 16 → Er Q (k + 1) one) (hg : Goes one) : Er Q k (brOf5 one T L) := fun s e hs he => by
  unfold brOf5 at he
  by_cases e0 : s.op = 16
  · rw [if_pos e0] at he
    rw [← Except.error.inj he]; exact hQ.pl (by decide) s
  · rw [if_neg e0] at he
    have h1 := h fun e1 => e0 (hs.trans e1)
    have hi : Er Q (k + 1) (fun s => (altOf5 one T L s).and fun m s => (tk5 T L [7] s).and fun _ s => .ok (m, ⟨s.nx, s.op - 1, s.vs, s.nm⟩)) := (er_alt hQ (k + 1) h1 hg).and (goes_alt T L hg) fun m => (er_tk hQ (k + 1) _).and (goes_tk T L _) fun _ => er_pure _
    have hj : Er Q k (fun s => (altOf5 one T L ⟨s.nx, s.op + 1, s.vs, s.nm⟩).and fun m s => (tk5 T L [7] s).and fun _ s => .ok (m, ⟨s.nx, s.op - 1, s.vs, s.nm⟩)) := fun s e hs he => hi ⟨s.nx, s.op + 1, s.vs, s.nm⟩ e (by show s.op + 1 = k + 1; rw [hs]) he
    exact ((er_tk hQ k [6]).and (goes_tk T L _) fun _ => hj) s e hs he
theorem er_lit {T : List Tk} {L : Nat} (hQ : HQ T L Q) : ∀ f k : Nat, k ≤ 16 → k + f = 17 → Er Q k (lit5 T L f)
  | 0, k, hk, e => by omega
  | f + 1, k, hk, e => Er.ite (er_br hQ k (fun hne => er_lit hQ f (k + 1) (by omega) (by omega)) (goes_lit T L f)) (Er.ite ((er_at hQ k).and (goes_at T L) fun _ => er_ok _) ((er_te hQ k).and (goes_te T L) fun _ => er_ok _))
theorem er_bd {T : List Tk} {L : Nat} (hQ : HQ T L Q) : Er Q 0 (bd5 T L) := Er.ite ((er_tk hQ 0 _).and (goes_tk T L _) fun _ => er_alt hQ 0 (er_lit hQ 17 0 (by decide) rfl) (goes_lit T L 17)) (er_ok [[]])
theorem er_rh {T : List Tk} {L : Nat} (hQ : HQ T L Q) : Er Q 0 (rh5 T L) := (er_at hQ 0).and (goes_at T L) fun _ => (er_bd hQ).and (goes_bd T L) fun _ => (er_tk hQ 0 _).and (goes_tk T L _) fun _ => er_ok _
theorem er_cls {p : Int} (hp : ∀ c : Int, c ≠ 0 → Q (c, p)) (h : At) : ∀ (m : List (List Lf5)) (acc : List Ck) (e : Int × Int), cls5 p h m acc = .error e → Q e
  | [], acc, e, he => by cases he
  | x :: r, acc, e, he => by
    unfold cls5 at he
    by_cases e0 : ch5 (normC (ck5 h x)) = 0
    · rw [if_pos e0] at he; exact er_cls hp h r _ e he
    · rw [if_neg e0] at he
      rw [← Except.error.inj he]; exact hp _ e0
theorem er_rl {T : List Tk} {L nx : Nat} (hQ : HQ T L Q) {e : Int × Int} (he : rl5 T L nx = .error e) : Q e := by
  unfold rl5 at he
  cases hr : rh5 T L (s05 nx) with
  | error x =>
    rw [hr] at he
    have : x = e := Except.error.inj he
    exact this ▸ er_rh hQ (s05 nx) x rfl hr
  | ok p =>
    obtain ⟨⟨h, m⟩, s⟩ := p
    rw [hr] at he
    have he' : (if 64 < m.length then _ else _ : Except (Int × Int) (List Ck × Nat)) = .error e := he
    by_cases hm : 64 < m.length
    · rw [if_pos hm] at he'
      rw [← Except.error.inj he']; exact hQ.pl (by decide) _
    · rw [if_neg hm] at he'
      cases hc : cls5 (pl5 T L (s05 nx)) h m [] with
      | error x =>
        rw [hc] at he'
        have : x = e := Except.error.inj he'
        exact this ▸ er_cls (fun c h0 => hQ.pl h0 _) _ _ _ x hc
      | ok ks => rw [hc] at he'; cases he'
theorem er_pr {T : List Tk} {L : Nat} (hQ : HQ T L Q) : ∀ (f : Nat) (acc : List Ck) (nx : Nat) (e : Int × Int), pr5 T L f acc nx = .error e → Q e
  | 0, acc, nx, e, he => by cases he
  | f + 1, acc, nx, e, he => by
    unfold pr5 at he
    by_cases hn : nx < T.length
    · rw [if_pos hn] at he
      cases hr : rl5 T L nx with
      | error x =>
        rw [hr] at he
        have : x = e := Except.error.inj he
        exact this ▸ er_rl hQ hr
      | ok p => obtain ⟨ks, n'⟩ := p; rw [hr] at he; exact er_pr hQ f _ n' e he
    · rw [if_neg hn] at he; cases he
/-- Where tokens begin. -/
theorem ct_pl5 : ∀ (f : Nat) (l : List Int) (off : Nat) (acc : List Tk) (M : Nat), off + l.length ≤ M → (∀ t ∈ acc, 0 ≤ t.a ∧ t.a ≤ (M : Int)) → ∀ t ∈ (ct f l off acc).1, 0 ≤ t.a ∧ t.a ≤ (M : Int)
  | 0, _, _, acc, _, _, h => h
  | _ + 1, [], _, acc, _, _, h => h
  | f + 1, c :: r, off, acc, M, hM, h => by
    simp only [List.length_cons] at hM
    rw [ct_cons]
    by_cases q1 : c = 32 ∨ c = 9 ∨ c = 10 ∨ c = 13
    · rw [if_pos q1]
      exact ct_pl5 f r _ acc M (by omega) h
    · rw [if_neg q1]
      by_cases q2 : c = 37
      · rw [if_pos q2]
        have hle := le_le (c :: r)
        simp only [List.length_cons] at hle
        exact ct_pl5 f _ _ acc M (by rw [List.length_drop, List.length_cons]; omega) h
      · rw [if_neg q2]
        cases et : tok (c :: r) with
        | bad e o => intro t ht; cases ht
        | ok k x n len =>
          have htl := (tok_len c r).1 k x n len et
          refine ct_pl5 f _ _ _ M (by rw [List.length_drop, List.length_cons]; omega) fun t ht => ?_
          rcases List.mem_append.1 ht with ht | ht
          · exact h t ht
          · rw [List.mem_singleton.1 ht]
            exact ⟨by show (0 : Int) ≤ (off : Int); omega, by show (off : Int) ≤ (M : Int); omega⟩
end Go.Proofs.YtcpjiahdaplhlaaGreatDoor

/-
  SyntaxValid: the walk. (Written by SV9.py.)
-/
import Derived.Test.YtnikmcmkbjjcdaaGreatDoorSV8
import Derived.Test.YtnikmcmkbjjcdaaGreatDoorSJ5
import Derived.Test.YtnikmcmkbjjcdaaGreatDoorSJ12
namespace Go.Proofs.YtnikmcmkbjjcdaaGreatDoor
open Go.RowKit
attribute [local go_sem ↓] Go.wp_at_zero Go.wp_at_succ

/-- What Program answers of any text. -/
structure PgA (s : ByteArray) (c a : Int) (l : List Cm) : Prop where
  a0 : 0 ≤ a
  a1 : a ≤ (s.size : Int)
  ca : (c = 0 ∧ a = 0) ∨ (c ≠ 0 ∧ l = [])
  ln : l.length ≤ 200000000
  g : ∀ d ∈ l, Gd5 d.key
theorem pgA_any (s : ByteArray) (hs : s.size ≤ 9000000) (w : World) (hE : EnvOk w) (hO : OpsOk w) :
    Calls Tryz.prog 10 #[.string s] w fun e w' => ∃ v l c a, e = .returned (.tuple #[v, .agg #[.int .i64 c, .int .i64 a]]) ∧ RL (fun b => w.heap.size ≤ b) w' v l ∧ PgA s c a l ∧ Below w.heap.size w w' := by
  refine (program_any s hs w hE hO).mono ?_
  intro e w' h
  cases hp : pg5 s 1048576 with
  | error f =>
    rw [hp] at h
    obtain ⟨hb, v, c, a, rfl, rfl, rfl, rfl⟩ := h
    obtain ⟨h1, h2, h3⟩ := er_pg2 hp
    exact ⟨_, [], f.1, f.2, rfl, ⟨World.ownsRow_nil _ _ _ _, (fun g hg => by cases hg), fun c hc => by cases hc⟩, ⟨h2, h3, Or.inr ⟨h1, rfl⟩, Nat.zero_le _, fun d hd => by cases hd⟩, hb⟩
  | ok ks =>
    rw [hp] at h
    obtain ⟨hb, v, c, a, rfl, rfl, rfl, l, hk, hrl⟩ := h
    have hc : (cutL (blK s) 1048576).2.1 = 0 := by
      unfold pg5 at hp
      split at hp
      · assumption
      · cases hp
    obtain ⟨T, hT⟩ : ∃ T, cutL (blK s) 1048576 = (T, 0, 0) := by
      have h2 : (cutL (blK s) 1048576).2.2 = 0 := by
        unfold cutL at hc ⊢
        split at hc
        · exact absurd (show (41 : Int) = 0 from hc) (by decide)
        · rename_i hm
          rw [if_neg hm]
          rcases ct_fault ((blK s).length + 1) (blK s) 0 [] (by omega) with h1 | ⟨p, -, -, h3, -⟩
          · exact h1.2
          · exfalso; omega
      exact ⟨_, Prod.ext rfl (Prod.ext hc h2)⟩
    have hl := pg5_len hT hp
    refine ⟨v, l, 0, 0, rfl, hrl, ⟨Int.le_refl _, by omega, Or.inl ⟨rfl, rfl⟩, ?_, fun d hd => gd_pg hp d.key ?_⟩, hb⟩
    · have := congrArg List.length hk; rw [List.length_map] at this; omega
    · rw [← hk]; exact List.mem_map.2 ⟨d, hd, rfl⟩
/-- What Query answers of any text. -/
def QgA (s : ByteArray) (x : At) (c a : Int) : Prop := (c ≠ 0 ∧ x = at0 ∧ 0 ≤ a ∧ a ≤ (s.size : Int)) ∨ (c = 0 ∧ x.err = 0 ∧ normC (x, [], []) = (x, [], []) ∧ ∀ t ∈ x.pl, Tn5 t)
theorem qgA_any (s : ByteArray) (hs : s.size ≤ 9000000) (w : World) (hE : EnvOk w) (hO : OpsOk w) :
    Calls Tryz.prog 19 #[.string s] w fun e w' => ∃ (x : At) (y : Value) (c a : Int), e = .returned (.tuple #[x.v y, .agg #[.int .i64 c, .int .i64 a]]) ∧ Ts w' y x.args ∧ QgA s x c a ∧ Below w.heap.size w w' := by
  refine (query_any s hs w hE hO).mono ?_
  rintro e w' ⟨hb, x, y, c, a, rfl, hy, hm⟩
  cases hp : qg5 s 32768 with
  | error f =>
    rw [hp] at hm
    obtain ⟨rfl, rfl, rfl⟩ := hm
    obtain ⟨h1, h2, h3⟩ := er_qg hp
    exact ⟨_, _, _, _, rfl, ts_of_row hy (by show (0 : Nat) < _; omega), Or.inl ⟨h1, rfl, h2, h3⟩, hb⟩
  | ok x' =>
    rw [hp] at hm
    obtain ⟨rfl, rfl, rfl⟩ := hm
    obtain ⟨h1, h2, h3⟩ := ok_qg hp
    have := (err_zero' h1).2.1
    exact ⟨_, _, _, _, rfl, ts_of_row hy (by omega), Or.inr ⟨rfl, h1, h2, h3⟩, hb⟩
theorem val_len {x : Ck} (h : Val0 x) : (Ck.terms x).length ≤ 97 := by
  have h1 := body_len h
  have h2 := (err_zero' h.atom.1).2.1
  unfold Ck.terms tls
  rw [List.length_append, List.length_append]
  have h3 : x.1.pl.length = x.1.args.length + 1 := rfl
  have h4 : ∀ l : List Te, (l.flatMap fun t => [t.l, t.r]).length = 2 * l.length := by
    intro l
    induction l with
    | nil => rfl
    | cons t l ih => rw [List.flatMap_cons, List.length_append, ih, List.length_cons]; simp only [List.length_cons, List.length_nil]; omega
  have h5 := h4 x.2.2
  have h6 := h.tl
  omega
theorem gd_wf {d : Cm} (h : Gd5 d.key) : d.wf := by
  refine ⟨fun t ht _ => n64_wf (h.2 t (by rw [key_terms] at ht; exact ht)), ?_⟩
  rw [key_terms]
  have := val_len (ch_val5 h.1).1
  omega
theorem field5_h (a b c d e f g : Value) (w : World) : (Instr.field 37 (.agg #[a, b, c, d, e, f, g]) 0).run Tryz.prog w = .ok (.agg #[a, b, c, d, e]) w := by kernel_rfl
set_option maxRecDepth 20000 in
set_option maxHeartbeats 8000000 in
theorem valid_any (s : ByteArray) (hs : s.size ≤ 2000000) (w : World) (hE : EnvOk w) (hO : OpsOk w) :
    Calls Tryz.prog 6 #[.string s] w fun e w' => e = .returned (.bool true) ∧ Below w.heap.size w w' := by
  have h1 : ∀ X : World, Below w.heap.size w X → EnvOk X ∧ OpsOk X := fun X hX => ⟨hE.later hX, hO.fr (P := fun _ => False) (Fr.of hX) fun h => h⟩
  have HPG := hm7 (pgA_any s (by omega) w hE hO)
  have HQG : Hid (∀ X : World, Below w.heap.size w X → Calls Tryz.prog 19 #[.string s] X fun e w' => ∃ (x : At) (y : Value) (c a : Int), e = .returned (.tuple #[x.v y, .agg #[.int .i64 c, .int .i64 a]]) ∧ Ts w' y x.args ∧ QgA s x c a ∧ Below X.heap.size X w') := fun X hX => qgA_any s (by omega) X (h1 X hX).1 (h1 X hX).2
  have HF : Hid (∀ X : World, Below w.heap.size w X → Calls Tryz.prog 9 #[] X fun e w' => e = .returned (.bool true) ∧ Below X.heap.size X w') := fun X hX => first5_any X (h1 X hX).1 (h1 X hX).2
  have HPC : Hid (∀ (d : Cm) (X : World), Gd5 d.key → d.ok X → Below w.heap.size w X → Calls Tryz.prog 16 #[d.v] X fun e w' => e = .returned (.string (pc5 d.key)) ∧ Below X.heap.size X w') := fun d X hd ho hX => print5_any d X ho (gd_wf hd) (fun t ht => hd.2 t (by rw [key_terms] at ht; exact ht)) (h1 X hX).1 (h1 X hX).2
  have HCC : Hid (∀ (k : Ck) (X : World), Gd5 k → Below w.heap.size w X → Calls Tryz.prog 15 #[.string (pc5 k)] X fun e w' => ∃ d : Cm, e = .returned (.tuple #[d.v, .agg #[.int .i64 0, .int .i64 0]]) ∧ d.key = k ∧ d.ok w' ∧ Below X.heap.size X w') := fun k X hk hX => clause5_any (pc5 k) k (by have := pc5_len hk.1 hk.2; omega) X (h1 X hX).1 (h1 X hX).2 (pg_back hk.1 hk.2 (by decide))
  obtain ⟨sl, hsl⟩ : ∃ sl, s.size = sl := ⟨_, rfl⟩
  have HSL := hm7 hsl
  clear h1 hE hO
  go_enter Tryz.func6, Tryz.ntmps6
  go_upto_region 2 with (go_at_call 10; refine HPG.out.mono ?_; rintro e W1 ⟨v, l, c, a, rfl, hrl, hpa, hb⟩; have HB1 := hm7 (ft_step c a hb); have HRL := hm7 (hrl.below (below1 W1 (.cells #[.int .i64 c, .int .i64 a] 26))); have HFB := hm7 (Bk.new W1 #[.int .i64 c, .int .i64 a] 26); have HPA := hm7 hpa; clear hrl hpa hb)
  clear HPG
  revert HRL HFB HB1
  generalize W1.alloc (.cells #[.int .i64 c, .int .i64 a] 26) = W2
  generalize W1.heap.size = fb at *
  intro HB1 HRL HFB
  obtain ⟨va, vc, hvf⟩ := HRL.out.form
  obtain ⟨n, hn⟩ : ∃ n, l.length = n := ⟨_, rfl⟩
  rw [hn] at hvf
  subst hvf
  have HN := hm7 hn
  have hnb : n ≤ 200000000 := by have := HPA.out.ln; omega
  clear hn
  go_cut [44] from 15 (fun s44 wx => s44 = .bool false ∧ wx = W2)
  case first =>
    have x0 := HFB.out.cell (i := 0) rfl
    have x1 := HFB.out.cell (i := 1) rfl
    have a0 : ¬ a < 0 := by have := HPA.out.a0; omega
    have a1 : ¬ (sl : Int) < a := by have := HPA.out.a1; have := HSL.out; omega
    rw [HSL.out] at *
    rcases HPA.out.ca with ⟨hc, ha⟩ | ⟨hc, hl⟩
    · subst hc
      subst ha
      go_wp2
      go_meet
      case rel => exact ⟨rfl, rfl⟩
    · have hc1 : (c == 0) = false := by simp [hc]
      have hc2 : (c != 0) = true := by simp [hc]
      have hn0 : n = 0 := by rw [← HN.out, hl]; rfl
      subst hn0
      go_wp2
      go_meet
      case rel => exact ⟨rfl, rfl⟩
  case rest =>
  obtain ⟨rfl, hw⟩ := hcut
  rw [hw]
  clear hw
  go_wp2
  go_loopg [5] n (fun g i wr => ∃ j : Nat, j + g = n ∧ i = .int .i64 (j : Int) ∧ Below W2.heap.size W2 wr)
  case atStart => exact ⟨0, by omega, rfl, Below.refl _ _⟩
  case round =>
    obtain ⟨j, hg, rfl, hb⟩ := hrel
    have HB := hm7 hb
    have HBW := hm7 (below_step HB1.out hb)
    clear hb
    cases gk with
    | succ g =>
      have i0 : (0 : Int) ≤ (j : Int) := by omega
      have i1 : (j : Int) < (n : Int) := by omega
      obtain ⟨x, hx⟩ : ∃ c, l[j]? = some c := ⟨_, List.getElem?_eq_getElem (by have := HN.out; omega)⟩
      have HGD : Hid (Gd5 x.key) := HPA.out.g x (List.mem_of_getElem? hx)
      have HWF := hm7 (gd_wf HGD.out)
      have HRW := hm7 (HRL.out.below HB.out)
      obtain ⟨sb, vc', ev, hz, hce, hok⟩ := HRW.out.get5 hx
      rw [HN.out] at ev
      simp only [Value.slice.injEq] at ev
      obtain ⟨rfl, -, -⟩ := ev
      have HPX := hm7 (HPC.out x wr HGD.out hok HBW.out)
      have HCX : Hid (∀ X : World, Below wr.heap.size wr X → Calls Tryz.prog 15 #[.string (pc5 x.key)] X fun e w' => ∃ d : Cm, e = .returned (.tuple #[d.v, .agg #[.int .i64 0, .int .i64 0]]) ∧ d.key = x.key ∧ d.ok w' ∧ Below X.heap.size X w') := fun X hX => HCC.out x.key X HGD.out (below_step HBW.out hX)
      have HKX : Hid (∀ X : World, Below wr.heap.size wr X → Calls Tryz.prog 17 #[x.v] X fun e w' => e = .returned (.int .i64 0) ∧ Below X.heap.size X w') := fun X hX => by
        have := check9_any x X (hok.later hX) HWF.out
        rw [chk_ch5, HGD.out.1] at this
        exact this
      have HSX : Hid (∀ (d : Cm) (X : World), Below wr.heap.size wr X → d.ok X → d.key = x.key → Calls Tryz.prog 18 #[d.v, x.v] X fun e w' => e = .returned (.bool true) ∧ Below X.heap.size X w') := fun d X hX hd hk => clauses5_any d x X hd (hok.later hX) hk
      obtain ⟨tx, htx⟩ : ∃ t, pc5 x.key = t := ⟨_, rfl⟩
      rw [htx] at HPX HCX
      obtain ⟨kx, hkx⟩ : ∃ k, x.key = k := ⟨_, rfl⟩
      rw [hkx] at HCX HSX
      have hsh := hok.shape
      have HZ : Hid (sb < wr.heap.size) := hz
      clear hx hz hok HGD HWF HRW htx hkx
      obtain ⟨⟨⟨⟨xk, xm, xs⟩, xn, xl⟩, xx⟩, xb, xbv, xt, xtv⟩ := x
      simp only at hce hsh
      obtain ⟨⟨x1, x2, x3, e1⟩, ⟨x4, x6, e2⟩, ⟨x7, x9, e3⟩, -, -⟩ := hsh
      obtain ⟨x5, h5⟩ : ∃ n, xb.length = n := ⟨_, rfl⟩
      obtain ⟨x8, h8⟩ : ∃ n, xt.length = n := ⟨_, rfl⟩
      rw [h5] at e2
      rw [h8] at e3
      subst e1 e2 e3
      clear h5 h8
      have HE := hm7 hce
      obtain ⟨p0, p1, p2, p3, p4, p5, p6⟩ := hce
      go_upto_region 8 with (first
        | (go_at_call 16; refine HPX.out.mono ?_; rintro e W3 ⟨rfl, hb⟩; have HB3 := hm7 hb; clear hb p0 p1 p2 p3 p4 p5 p6)
        | (go_at_call 15; refine (HCX.out _ HB3.out).mono ?_; rintro e W4 ⟨y, rfl, hyk, hyo, hb⟩; have HB4 := hm7 (below_step HB3.out hb); have HYK := hm7 hyk; have hsh2 := hyo.shape; have HYO := hm7 hyo; clear hb hyk hyo; obtain ⟨⟨⟨⟨ck, cm, cs⟩, cn, cl⟩, cx⟩, cb, cbv, ct, ctv⟩ := y; simp only at hsh2; obtain ⟨⟨c1, c2, c3, e1⟩, ⟨c4, c6, e2⟩, ⟨c7, c9, e3⟩, -, -⟩ := hsh2; generalize cb.length = c5 at e2; generalize ct.length = c8 at e3; subst e1 e2 e3))
      obtain ⟨t1, t2, t3⟩ := two5 W4 #[.int .i64 ck, .int .i64 cm, .string cs, .string cn, .slice c1 c2 c3, .slice c4 c5 c6, .slice c7 c8 c9] #[.int .i64 0, .int .i64 0] 37 26
      have HG5 := hm7 t1
      have HC5 := hm7 t2
      have HB5 := hm7 (below_step HB4.out t3)
      have HYO5 := hm7 (HYO.out.later t3)
      clear t1 t2 t3
      revert HG5 HC5 HB5 HYO5
      generalize (W4.alloc (.cells #[.int .i64 ck, .int .i64 cm, .string cs, .string cn, .slice c1 c2 c3, .slice c4 c5 c6, .slice c7 c8 c9] 37)).alloc (.cells #[.int .i64 0, .int .i64 0] 26) = W5
      generalize W4.heap.size + 1 = gb at *
      generalize W4.heap.size = cb' at *
      intro HG5 HC5 HB5 HYO5
      obtain ⟨p0, p1, p2, p3, p4, p5, p6⟩ := HE.out
      have HE5 : Hid (W5.cell? ⟨sb, j * 7, none⟩ = some (.int .i64 xk) ∧ W5.cell? ⟨sb, j * 7 + 1, none⟩ = some (.int .i64 xm) ∧ W5.cell? ⟨sb, j * 7 + 2, none⟩ = some (.string xs) ∧ W5.cell? ⟨sb, j * 7 + 3, none⟩ = some (.string xn) ∧ W5.cell? ⟨sb, j * 7 + 4, none⟩ = some (.slice x1 x2 x3) ∧ W5.cell? ⟨sb, j * 7 + 5, none⟩ = some (.slice x4 x5 x6) ∧ W5.cell? ⟨sb, j * 7 + 6, none⟩ = some (.slice x7 x8 x9)) := ⟨cell_step HB5.out HZ.out p0, cell_step HB5.out HZ.out p1, cell_step HB5.out HZ.out p2, cell_step HB5.out HZ.out p3, cell_step HB5.out HZ.out p4, cell_step HB5.out HZ.out p5, cell_step HB5.out HZ.out p6⟩
      have HZ5 : Hid (sb < W5.heap.size) := Nat.lt_of_lt_of_le HZ.out HB5.out.size
      clear p0 p1 p2 p3 p4 p5 p6
      have HCK : Hid (∀ X : World, Below W5.heap.size W5 X → Calls Tryz.prog 17 #[.agg #[.int .i64 xk, .int .i64 xm, .string xs, .string xn, .slice x1 x2 x3, .slice x4 x5 x6, .slice x7 x8 x9]] X fun e w' => e = .returned (.int .i64 0) ∧ Below X.heap.size X w') := fun X hX => HKX.out X (below_step HB5.out hX)
      have HCS : Hid (∀ X : World, Below W5.heap.size W5 X → Calls Tryz.prog 18 #[.agg #[.int .i64 ck, .int .i64 cm, .string cs, .string cn, .slice c1 c2 c3, .slice c4 c5 c6, .slice c7 c8 c9], .agg #[.int .i64 xk, .int .i64 xm, .string xs, .string xn, .slice x1 x2 x3, .slice x4 x5 x6, .slice x7 x8 x9]] X fun e w' => e = .returned (.bool true) ∧ Below X.heap.size X w') := fun X hX => HSX.out ⟨(⟨⟨ck, cm, cs⟩, cn, cl⟩, .slice c1 c2 c3), cb, .slice c4 c5 c6, ct, .slice c7 c8 c9⟩ X (below_step HB5.out hX) (HYO5.out.later hX) HYK.out
      clear HPX HCX HKX HSX HYO HYO5 HYK HE HZ HB3 HB4
      refine wp_region_held_drew (S := fun w' => Below W5.heap.size W5 w') (by kernel_rfl) (Below.refl _ _).drew (fun hH => ?_)
      revert hH
      generalize W5.drew = V
      intro hH
      refine wpAnyH_take (i := 0) (oi := ⟨_, _, _, _, _, _⟩) (v := .slice (some ⟨sb, 0, none⟩) n vc) rfl (by kernel_rfl) (by kernel_rfl) (by kernel_rfl) (fun _ _ _ h => h) (Or.inl ⟨by rfl, fun w' h => by have _h := h; go_simp⟩) hH ?_
      simp only [Act.put, List.setIfInBounds_toArray, List.set_cons_zero, List.set_cons_succ]
      refine wpAnyH_take (i := 1) (oi := ⟨_, _, _, _, _, _⟩) (v := .int .i64 (j : Int)) rfl (by kernel_rfl) (by kernel_rfl) (by kernel_rfl) (fun _ _ _ h => h) (Or.inl ⟨by rfl, fun w' h => by have _h := h; go_simp⟩) hH ?_
      simp only [Act.put, List.setIfInBounds_toArray, List.set_cons_zero, List.set_cons_succ]
      refine wpAnyH_take (i := 2) (oi := ⟨_, _, _, _, _, _⟩) (v := .pointer (some ⟨sb, j * 7, none⟩)) rfl (by kernel_rfl) (by kernel_rfl) (by kernel_rfl) (fun _ _ _ h => h) (Or.inl ⟨by rfl, fun w' h => by have _h := h; go_simp⟩) hH ?_
      simp only [Act.put, List.setIfInBounds_toArray, List.set_cons_zero, List.set_cons_succ]
      refine wpAnyH_take (i := 3) (oi := ⟨_, _, _, _, _, _⟩) (v := .agg #[.int .i64 xk, .int .i64 xm, .string xs, .string xn, .slice x1 x2 x3, .slice x4 x5 x6, .slice x7 x8 x9]) rfl (by kernel_rfl) (by kernel_rfl) (by kernel_rfl) (fun _ _ _ h => h) (Or.inl ⟨by rfl, fun w' h => by obtain ⟨p0, p1, p2, p3, p4, p5, p6⟩ := HE5.out; have z := HZ5.out; have a0 := cell_step h z p0; have a1 := cell_step h z p1; have a2 := cell_step h z p2; have a3 := cell_step h z p3; have a4 := cell_step h z p4; have a5 := cell_step h z p5; have a6 := cell_step h z p6; clear p0 p1 p2 p3 p4 p5 p6; go_simp⟩) hH ?_
      simp only [Act.put, List.setIfInBounds_toArray, List.set_cons_zero, List.set_cons_succ]
      refine wpAnyH_ready (rs := [4]) (by kernel_rfl) (by simp) ?_
      refine (AllReadyH.cons (o := ⟨_, _, _, _, _, _⟩) rfl (fun K hK => ?_) AllReadyH.nil)
      go_simp
      refine (HCK.out _ hH).mono ?_
      rintro e V1 ⟨rfl, hb⟩
      refine hK.out _ _ (below_step hH hb) (fun hH => ?_)
      clear hK K hb
      try simp only [Act.put, List.setIfInBounds_toArray, List.set_cons_zero, List.set_cons_succ]
      refine wpAnyH_take (i := 5) (oi := ⟨_, _, _, _, _, _⟩) (v := .bool false) rfl (by kernel_rfl) (by kernel_rfl) (by kernel_rfl) (fun _ _ _ h => h) (Or.inl ⟨by rfl, fun w' h => by have _h := h; go_simp⟩) hH ?_
      simp only [Act.put, List.setIfInBounds_toArray, List.set_cons_zero, List.set_cons_succ]
      refine wpAnyH_take (i := 6) (oi := ⟨_, _, _, _, _, _⟩) (v := .bool false) rfl (by kernel_rfl) (by kernel_rfl) (by kernel_rfl) (fun _ _ _ h => h) (Or.inl ⟨by rfl, fun w' h => by have _h := h; go_simp⟩) hH ?_
      simp only [Act.put, List.setIfInBounds_toArray, List.set_cons_zero, List.set_cons_succ]
      refine wpAnyH_take (i := 7) (oi := ⟨_, _, _, _, _, _⟩) (v := .agg #[.int .i64 0, .int .i64 0]) rfl (by kernel_rfl) (by kernel_rfl) (by kernel_rfl) (fun _ _ _ h => h) (Or.inl ⟨by rfl, fun w' h => by have _h := h; have a0 := (HG5.out.below h).cell (i := 0) rfl; have a1 := (HG5.out.below h).cell (i := 1) rfl; go_simp⟩) hH ?_
      simp only [Act.put, List.setIfInBounds_toArray, List.set_cons_zero, List.set_cons_succ]
      refine wpAnyH_take (i := 8) (oi := ⟨_, _, _, _, _, _⟩) (v := .agg #[.int .i64 0, .int .i64 0]) rfl (by kernel_rfl) (by kernel_rfl) (by kernel_rfl) (fun _ _ _ h => h) (Or.inl ⟨by rfl, fun w' h => by have _h := h; go_simp⟩) hH ?_
      simp only [Act.put, List.setIfInBounds_toArray, List.set_cons_zero, List.set_cons_succ]
      refine wpAnyH_take (i := 9) (oi := ⟨_, _, _, _, _, _⟩) (v := .bool false) rfl (by kernel_rfl) (by kernel_rfl) (by kernel_rfl) (fun _ _ _ h => h) (Or.inl ⟨by rfl, fun w' h => by have _h := h; have hq := neq_ft0 w'; go_simp⟩) hH ?_
      simp only [Act.put, List.setIfInBounds_toArray, List.set_cons_zero, List.set_cons_succ]
      refine wpAnyH_take (i := 10) (oi := ⟨_, _, _, _, _, _⟩) (v := .bool false) rfl (by kernel_rfl) (by kernel_rfl) (by kernel_rfl) (fun _ _ _ h => h) (Or.inl ⟨by rfl, fun w' h => by have _h := h; go_simp⟩) hH ?_
      simp only [Act.put, List.setIfInBounds_toArray, List.set_cons_zero, List.set_cons_succ]
      refine wpAnyH_take (i := 11) (oi := ⟨_, _, _, _, _, _⟩) (v := .bool false) rfl (by kernel_rfl) (by kernel_rfl) (by kernel_rfl) (fun _ _ _ h => h) (Or.inl ⟨by rfl, fun w' h => by have _h := h; go_simp⟩) hH ?_
      simp only [Act.put, List.setIfInBounds_toArray, List.set_cons_zero, List.set_cons_succ]
      refine wpAnyH_take (i := 12) (oi := ⟨_, _, _, _, _, _⟩) (v := .agg #[.int .i64 ck, .int .i64 cm, .string cs, .string cn, .slice c1 c2 c3, .slice c4 c5 c6, .slice c7 c8 c9]) rfl (by kernel_rfl) (by kernel_rfl) (by kernel_rfl) (fun _ _ _ h => h) (Or.inl ⟨by rfl, fun w' h => by have _h := h; have a0 := (HC5.out.below h).cell (i := 0) rfl; have a1 := (HC5.out.below h).cell (i := 1) rfl; have a2 := (HC5.out.below h).cell (i := 2) rfl; have a3 := (HC5.out.below h).cell (i := 3) rfl; have a4 := (HC5.out.below h).cell (i := 4) rfl; have a5 := (HC5.out.below h).cell (i := 5) rfl; have a6 := (HC5.out.below h).cell (i := 6) rfl; go_simp⟩) hH ?_
      simp only [Act.put, List.setIfInBounds_toArray, List.set_cons_zero, List.set_cons_succ]
      refine wpAnyH_take (i := 13) (oi := ⟨_, _, _, _, _, _⟩) (v := .slice (some ⟨sb, 0, none⟩) n vc) rfl (by kernel_rfl) (by kernel_rfl) (by kernel_rfl) (fun _ _ _ h => h) (Or.inl ⟨by rfl, fun w' h => by have _h := h; go_simp⟩) hH ?_
      simp only [Act.put, List.setIfInBounds_toArray, List.set_cons_zero, List.set_cons_succ]
      refine wpAnyH_take (i := 14) (oi := ⟨_, _, _, _, _, _⟩) (v := .int .i64 (j : Int)) rfl (by kernel_rfl) (by kernel_rfl) (by kernel_rfl) (fun _ _ _ h => h) (Or.inl ⟨by rfl, fun w' h => by have _h := h; go_simp⟩) hH ?_
      simp only [Act.put, List.setIfInBounds_toArray, List.set_cons_zero, List.set_cons_succ]
      refine wpAnyH_take (i := 15) (oi := ⟨_, _, _, _, _, _⟩) (v := .pointer (some ⟨sb, j * 7, none⟩)) rfl (by kernel_rfl) (by kernel_rfl) (by kernel_rfl) (fun _ _ _ h => h) (Or.inl ⟨by rfl, fun w' h => by have _h := h; go_simp⟩) hH ?_
      simp only [Act.put, List.setIfInBounds_toArray, List.set_cons_zero, List.set_cons_succ]
      refine wpAnyH_take (i := 16) (oi := ⟨_, _, _, _, _, _⟩) (v := .agg #[.int .i64 xk, .int .i64 xm, .string xs, .string xn, .slice x1 x2 x3, .slice x4 x5 x6, .slice x7 x8 x9]) rfl (by kernel_rfl) (by kernel_rfl) (by kernel_rfl) (fun _ _ _ h => h) (Or.inl ⟨by rfl, fun w' h => by obtain ⟨p0, p1, p2, p3, p4, p5, p6⟩ := HE5.out; have z := HZ5.out; have a0 := cell_step h z p0; have a1 := cell_step h z p1; have a2 := cell_step h z p2; have a3 := cell_step h z p3; have a4 := cell_step h z p4; have a5 := cell_step h z p5; have a6 := cell_step h z p6; clear p0 p1 p2 p3 p4 p5 p6; go_simp⟩) hH ?_
      simp only [Act.put, List.setIfInBounds_toArray, List.set_cons_zero, List.set_cons_succ]
      refine wpAnyH_ready (rs := [17]) (by kernel_rfl) (by simp) ?_
      refine (AllReadyH.cons (o := ⟨_, _, _, _, _, _⟩) rfl (fun K hK => ?_) AllReadyH.nil)
      go_simp
      refine (HCS.out _ hH).mono ?_
      rintro e V2 ⟨rfl, hb⟩
      refine hK.out _ _ (below_step hH hb) (fun hH => ?_)
      clear hK K hb
      try simp only [Act.put, List.setIfInBounds_toArray, List.set_cons_zero, List.set_cons_succ]
      refine wpAnyH_take (i := 18) (oi := ⟨_, _, _, _, _, _⟩) (v := .bool false) rfl (by kernel_rfl) (by kernel_rfl) (by kernel_rfl) (fun _ _ _ h => h) (Or.inl ⟨by rfl, fun w' h => by have _h := h; go_simp⟩) hH ?_
      simp only [Act.put, List.setIfInBounds_toArray, List.set_cons_zero, List.set_cons_succ]
      refine wpAnyH_take (i := 19) (oi := ⟨_, _, _, _, _, _⟩) (v := .bool false) rfl (by kernel_rfl) (by kernel_rfl) (by kernel_rfl) (fun _ _ _ h => h) (Or.inl ⟨by rfl, fun w' h => by have _h := h; go_simp⟩) hH ?_
      simp only [Act.put, List.setIfInBounds_toArray, List.set_cons_zero, List.set_cons_succ]
      refine wpAnyH_done (by kernel_rfl) ?_ _
      have HV : Hid (Below W5.heap.size W5 V2) := hH
      clear hH HE5 HZ5 HG5 HC5 HCK HCS
      go_wp2
      go_roundg g
      case measure => omega
      case rel => exact ⟨j + 1, by omega, by go_num, below_step HB.out (below_step HB5.out HV.out)⟩
    | zero =>
      have i1 : ¬ (j : Int) < (n : Int) := by omega
      have HQX := hm7 (HQG.out wr HBW.out)
      clear HPC HCC HRL HFB HPA
      go_upto_region 11 with (go_at_call 19; refine HQX.out.mono ?_; rintro e W6 ⟨x, y, c2, a2, rfl, hts, hqa, hb⟩; obtain ⟨ya, yc, hyf, hyl, -⟩ := id hts; have HTS := hm7 hts; have HQA := hm7 hqa; have HB6 := hm7 (below_step HBW.out hb); clear hts hqa hb; obtain ⟨⟨ak, an, az⟩, am, al⟩ := x; generalize hyn : List.length _ = yn at hyf; subst hyf; have HYN := hm7 hyn; clear hyn)
      obtain ⟨t1, t2, t3⟩ := two5 W6 #[.int .i64 ak, .int .i64 an, .string az, .string am, .slice ya yn yc] #[.int .i64 c2, .int .i64 a2] 33 26
      have HG7 := hm7 t1
      have HA7 := hm7 t2
      have HB7 := hm7 (below_step HB6.out t3)
      have HT7 := hm7 (HTS.out.later t3)
      clear t1 t2 t3 HTS HQX
      revert HG7 HA7 HB7 HT7
      generalize (W6.alloc (.cells #[.int .i64 ak, .int .i64 an, .string az, .string am, .slice ya yn yc] 33)).alloc (.cells #[.int .i64 c2, .int .i64 a2] 26) = W7
      generalize W6.heap.size + 1 = gb at *
      generalize W6.heap.size = ab at *
      intro HG7 HA7 HB7 HT7
      have HFI : Hid (∀ X : World, Below W7.heap.size W7 X → Calls Tryz.prog 9 #[] X fun e w' => e = .returned (.bool true) ∧ Below X.heap.size X w') := fun X hX => HF.out X (below_step HB7.out hX)
      have g0 := HG7.out.cell (i := 0) rfl
      have g1 := HG7.out.cell (i := 1) rfl
      have HAT : Hid (∀ (y2 : Value) (X : World), Below W7.heap.size W7 X → Ts X y2 al → Calls Tryz.prog 20 #[At.v ⟨⟨ak, an, az⟩, am, al⟩ (.slice ya yn yc), At.v ⟨⟨ak, an, az⟩, am, al⟩ y2] X fun e w' => e = .returned (.bool true) ∧ Below X.heap.size X w') := fun y2 X hX h2 => by
        have := atoms5_any ⟨⟨ak, an, az⟩, am, al⟩ ⟨⟨ak, an, az⟩, am, al⟩ (.slice ya yn yc) y2 X (HT7.out.later hX) h2
        rw [decide_eq_true rfl] at this
        exact this
      rcases HQA.out with ⟨hc, hx0, h0, h1⟩ | ⟨hc, he, hno, htn⟩
      · have hc1 : (c2 == 0) = false := by simp [hc]
        have hc2 : (c2 != 0) = true := by simp [hc]
        rw [HSL.out] at h1
        have h2 : (0 : Int) ≤ a2 := h0
        have h3 : a2 ≤ (sl : Int) := h1
        have HA0 : Hid (Calls Tryz.prog 20 #[At.v ⟨⟨ak, an, az⟩, am, al⟩ (.slice ya yn yc), .agg #[.int .i64 0, .int .i64 0, .string ⟨#[]⟩, .string ⟨#[]⟩, .slice none 0 0]] W7 fun e w' => e = .returned (.bool true) ∧ Below W7.heap.size W7 w') := by
          have h4 : al = [] := congrArg At.args hx0
          have := atoms5_any ⟨⟨ak, an, az⟩, am, al⟩ at0 (.slice ya yn yc) (.slice none 0 0) W7 HT7.out ⟨none, 0, rfl, by show (0 : Nat) < _; decide, Or.inl rfl⟩
          rw [decide_eq_true hx0] at this
          exact this
        have b0 := HA7.out.cell (i := 0) rfl
        have b1 := HA7.out.cell (i := 1) rfl
        have b2 := HA7.out.cell (i := 2) rfl
        have b3 := HA7.out.cell (i := 3) rfl
        have b4 := HA7.out.cell (i := 4) rfl
        rw [HSL.out] at *
        clear hx0
        go_wp2_with (first
          | (go_at_call 20; refine HA0.out.mono ?_; rintro e W8 ⟨rfl, hb⟩; have HB8 := hm7 hb; clear hb b0 b1 b2 b3 b4 g0 g1; have g1 := (HG7.out.below HB8.out).cell (i := 1) rfl)
          | (go_at_call 9; refine (HFI.out _ HB8.out).mono ?_; rintro e W9 ⟨rfl, hb⟩; have HB9 := hm7 (below_step HB8.out hb); clear hb))
        go_ret
        exact ⟨rfl, below_step HB7.out HB9.out⟩
      · subst hc
        have HCA : Hid (∀ X : World, Below W7.heap.size W7 X → Calls Tryz.prog 21 #[.agg #[.int .i64 ak, .int .i64 an, .string az, .string am, .slice ya yn yc]] X fun e w' => e = .returned (.int .i64 0) ∧ Below X.heap.size X w') := fun X hX => by
          have := chk_any ⟨⟨ak, an, az⟩, am, al⟩ (.slice ya yn yc) X (HT7.out.later hX)
          rw [he] at this
          exact this
        have HNO : Hid (∀ X : World, Below W7.heap.size W7 X → Calls Tryz.prog 22 #[.agg #[.int .i64 ak, .int .i64 an, .string az, .string am, .slice ya yn yc, .slice none 0 0, .slice none 0 0]] X fun e w' => ∃ d : Cm, e = .returned d.v ∧ (d.head.1 = ⟨⟨ak, an, az⟩, am, al⟩ ∧ Ts w' d.head.2 al) ∧ Below X.heap.size X w') := fun X hX => by
          have hal := (err_zero' he).2.1
          have hck : Cm.key ⟨(⟨⟨ak, an, az⟩, am, al⟩, .slice ya yn yc), [], .slice none 0 0, [], .slice none 0 0⟩ = (⟨⟨ak, an, az⟩, am, al⟩, [], []) := rfl
          have htl : (Ck.terms (⟨⟨ak, an, az⟩, am, al⟩, [], [])).length ≤ 9 := by
            have h4 : Ck.terms ((⟨⟨ak, an, az⟩, am, al⟩ : At), [], []) = At.pl ⟨⟨ak, an, az⟩, am, al⟩ := by simp [Ck.terms, tls]
            rw [h4]
            show al.length + 1 ≤ 9
            have h5 : al.length ≤ 8 := hal
            omega
          refine (normalK_any ⟨(⟨⟨ak, an, az⟩, am, al⟩, .slice ya yn yc), [], .slice none 0 0, [], .slice none 0 0⟩ X ⟨HT7.out.later hX, ⟨none, 0, rfl, by show (0 : Nat) < _; decide, Or.inl rfl, fun x hx => by cases hx⟩, ⟨none, 0, rfl, by show (0 : Nat) < _; decide, Or.inl rfl⟩⟩ (by rw [hck]; omega) (fun t ht hv => ?_)).mono ?_
          · rw [hck, ← hno] at ht
            obtain ⟨q1, q2⟩ := norm_rng htl ht hv
            exact n64_wf (by unfold N64; omega)
          · rintro e w' ⟨d, rfl, hdk, hkp, hb⟩
            rw [hck, hno] at hdk
            have hd1 : d.head.1 = ⟨⟨ak, an, az⟩, am, al⟩ := congrArg (fun k : Ck => k.1) hdk
            refine ⟨d, rfl, ⟨hd1, ?_⟩, hb⟩
            have := hkp.kf.ok.h
            rw [hd1] at this
            exact this
        have HFD : Hid (∀ (d : Cm) (X : World), d.head.1 = ⟨⟨ak, an, az⟩, am, al⟩ → (Instr.field 37 d.v 0).run Tryz.prog X = .ok (At.v ⟨⟨ak, an, az⟩, am, al⟩ d.head.2) X) := fun d X hd => by
          have := field5_h (.int .i64 d.head.1.by_.k) (.int .i64 d.head.1.by_.n) (.string d.head.1.by_.s) (.string d.head.1.name) d.head.2 d.bv d.tv X
          rw [hd] at this
          rw [← hd]
          rw [hd]
          have e : d.v = .agg #[.int .i64 ak, .int .i64 an, .string az, .string am, d.head.2, d.bv, d.tv] := by show Value.agg _ = _; rw [hd]
          rw [e]
          exact this
        clear he hno htn HQA
        go_upto_region 13 with fail
        refine wp_region_held_drew (S := fun w' => Below W7.heap.size W7 w') (by kernel_rfl) (Below.refl _ _).drew (fun hH => ?_)
        revert hH
        generalize W7.drew = V
        intro hH
        refine wpAnyH_take (i := 0) (oi := ⟨_, _, _, _, _, _⟩) (v := .agg #[.int .i64 ak, .int .i64 an, .string az, .string am, .slice ya yn yc]) rfl (by kernel_rfl) (by kernel_rfl) (by kernel_rfl) (fun _ _ _ h => h) (Or.inl ⟨by rfl, fun w' h => by have _h := h; have a0 := (HA7.out.below h).cell (i := 0) rfl; have a1 := (HA7.out.below h).cell (i := 1) rfl; have a2 := (HA7.out.below h).cell (i := 2) rfl; have a3 := (HA7.out.below h).cell (i := 3) rfl; have a4 := (HA7.out.below h).cell (i := 4) rfl; go_simp⟩) hH ?_
        simp only [Act.put, List.setIfInBounds_toArray, List.set_cons_zero, List.set_cons_succ]
        refine wpAnyH_ready (rs := [1]) (by kernel_rfl) (by simp) ?_
        refine (AllReadyH.cons (o := ⟨_, _, _, _, _, _⟩) rfl (fun K hK => ?_) AllReadyH.nil)
        go_simp
        refine (HCA.out _ hH).mono ?_
        rintro e V1 ⟨rfl, hb⟩
        refine hK.out _ _ (below_step hH hb) (fun hH => ?_)
        clear hK K hb
        try simp only [Act.put, List.setIfInBounds_toArray, List.set_cons_zero, List.set_cons_succ]
        refine wpAnyH_take (i := 2) (oi := ⟨_, _, _, _, _, _⟩) (v := .bool true) rfl (by kernel_rfl) (by kernel_rfl) (by kernel_rfl) (fun _ _ _ h => h) (Or.inl ⟨by rfl, fun w' h => by have _h := h; go_simp⟩) hH ?_
        simp only [Act.put, List.setIfInBounds_toArray, List.set_cons_zero, List.set_cons_succ]
        refine wpAnyH_take (i := 3) (oi := ⟨_, _, _, _, _, _⟩) (v := .bool true) rfl (by kernel_rfl) (by kernel_rfl) (by kernel_rfl) (fun _ _ _ h => h) (Or.inl ⟨by rfl, fun w' h => by have _h := h; go_simp⟩) hH ?_
        simp only [Act.put, List.setIfInBounds_toArray, List.set_cons_zero, List.set_cons_succ]
        refine wpAnyH_take (i := 4) (oi := ⟨_, _, _, _, _, _⟩) (v := .agg #[.int .i64 ak, .int .i64 an, .string az, .string am, .slice ya yn yc]) rfl (by kernel_rfl) (by kernel_rfl) (by kernel_rfl) (fun _ _ _ h => h) (Or.inl ⟨by rfl, fun w' h => by have _h := h; have a0 := (HA7.out.below h).cell (i := 0) rfl; have a1 := (HA7.out.below h).cell (i := 1) rfl; have a2 := (HA7.out.below h).cell (i := 2) rfl; have a3 := (HA7.out.below h).cell (i := 3) rfl; have a4 := (HA7.out.below h).cell (i := 4) rfl; go_simp⟩) hH ?_
        simp only [Act.put, List.setIfInBounds_toArray, List.set_cons_zero, List.set_cons_succ]
        refine wpAnyH_take (i := 5) (oi := ⟨_, _, _, _, _, _⟩) (v := .agg #[.int .i64 ak, .int .i64 an, .string az, .string am, .slice ya yn yc]) rfl (by kernel_rfl) (by kernel_rfl) (by kernel_rfl) (fun _ _ _ h => h) (Or.inl ⟨by rfl, fun w' h => by have _h := h; have a0 := (HA7.out.below h).cell (i := 0) rfl; have a1 := (HA7.out.below h).cell (i := 1) rfl; have a2 := (HA7.out.below h).cell (i := 2) rfl; have a3 := (HA7.out.below h).cell (i := 3) rfl; have a4 := (HA7.out.below h).cell (i := 4) rfl; go_simp⟩) hH ?_
        simp only [Act.put, List.setIfInBounds_toArray, List.set_cons_zero, List.set_cons_succ]
        refine wpAnyH_take (i := 6) (oi := ⟨_, _, _, _, _, _⟩) (v := .agg #[.int .i64 ak, .int .i64 an, .string az, .string am, .slice ya yn yc, .slice none 0 0, .slice none 0 0]) rfl (by kernel_rfl) (by kernel_rfl) (by kernel_rfl) (fun _ _ _ h => h) (Or.inl ⟨by rfl, fun w' h => by have _h := h; go_simp⟩) hH ?_
        simp only [Act.put, List.setIfInBounds_toArray, List.set_cons_zero, List.set_cons_succ]
        refine wpAnyH_ready (rs := [7]) (by kernel_rfl) (by simp) ?_
        refine (AllReadyH.cons (o := ⟨_, _, _, _, _, _⟩) rfl (fun K hK => ?_) AllReadyH.nil)
        go_simp
        refine (HNO.out _ hH).mono ?_
        rintro e V2 ⟨dz, rfl, hdt, hb⟩
        have HDT := hm7 hdt
        refine hK.out _ _ (below_step hH hb) (fun hH => ?_)
        clear hK K hb hdt
        try simp only [Act.put, List.setIfInBounds_toArray, List.set_cons_zero, List.set_cons_succ]
        refine wpAnyH_take (i := 8) (oi := ⟨_, _, _, _, _, _⟩) (v := At.v ⟨⟨ak, an, az⟩, am, al⟩ dz.head.2) rfl (by kernel_rfl) (by kernel_rfl) (by kernel_rfl) (fun _ _ _ h => h) (Or.inl ⟨by rfl, fun w' h => by have _h := h; have hq := HFD.out dz w' HDT.out.1; go_simp⟩) hH ?_
        simp only [Act.put, List.setIfInBounds_toArray, List.set_cons_zero, List.set_cons_succ]
        refine wpAnyH_ready (rs := [9]) (by kernel_rfl) (by simp) ?_
        refine (AllReadyH.cons (o := ⟨_, _, _, _, _, _⟩) rfl (fun K hK => ?_) AllReadyH.nil)
        go_simp
        refine (HAT.out _ _ hH HDT.out.2).mono ?_
        rintro e V3 ⟨rfl, hb⟩
        refine hK.out _ _ (below_step hH hb) (fun hH => ?_)
        clear hK K hb
        try simp only [Act.put, List.setIfInBounds_toArray, List.set_cons_zero, List.set_cons_succ]
        refine wpAnyH_take (i := 10) (oi := ⟨_, _, _, _, _, _⟩) (v := .bool true) rfl (by kernel_rfl) (by kernel_rfl) (by kernel_rfl) (fun _ _ _ h => h) (Or.inl ⟨by rfl, fun w' h => by have _h := h; go_simp⟩) hH ?_
        simp only [Act.put, List.setIfInBounds_toArray, List.set_cons_zero, List.set_cons_succ]
        refine wpAnyH_take (i := 11) (oi := ⟨_, _, _, _, _, _⟩) (v := .bool true) rfl (by kernel_rfl) (by kernel_rfl) (by kernel_rfl) (fun _ _ _ h => h) (Or.inl ⟨by rfl, fun w' h => by have _h := h; go_simp⟩) hH ?_
        simp only [Act.put, List.setIfInBounds_toArray, List.set_cons_zero, List.set_cons_succ]
        refine wpAnyH_ready (rs := [12]) (by kernel_rfl) (by simp) ?_
        refine (AllReadyH.cons (o := ⟨_, _, _, _, _, _⟩) rfl (fun K hK => ?_) AllReadyH.nil)
        go_simp
        refine (HFI.out _ hH).mono ?_
        rintro e V4 ⟨rfl, hb⟩
        refine hK.out _ _ (below_step hH hb) (fun hH => ?_)
        clear hK K hb
        try simp only [Act.put, List.setIfInBounds_toArray, List.set_cons_zero, List.set_cons_succ]
        refine wpAnyH_take (i := 13) (oi := ⟨_, _, _, _, _, _⟩) (v := .bool true) rfl (by kernel_rfl) (by kernel_rfl) (by kernel_rfl) (fun _ _ _ h => h) (Or.inl ⟨by rfl, fun w' h => by have _h := h; go_simp⟩) hH ?_
        simp only [Act.put, List.setIfInBounds_toArray, List.set_cons_zero, List.set_cons_succ]
        refine wpAnyH_take (i := 14) (oi := ⟨_, _, _, _, _, _⟩) (v := .bool true) rfl (by kernel_rfl) (by kernel_rfl) (by kernel_rfl) (fun _ _ _ h => h) (Or.inl ⟨by rfl, fun w' h => by have _h := h; go_simp⟩) hH ?_
        simp only [Act.put, List.setIfInBounds_toArray, List.set_cons_zero, List.set_cons_succ]
        refine wpAnyH_done (by kernel_rfl) ?_ _
        have HV : Hid (Below W7.heap.size W7 V4) := hH
        clear hH
        go_wp2
        go_ret
        exact ⟨rfl, below_step HB7.out HV.out⟩
end Go.Proofs.YtnikmcmkbjjcdaaGreatDoor

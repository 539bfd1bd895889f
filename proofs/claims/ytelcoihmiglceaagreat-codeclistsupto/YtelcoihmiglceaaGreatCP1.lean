import Derived.Test.YtelcoihmiglceaaGreatCD3
import Derived.Test.YtelcoihmiglceaaGreatCL22
import Derived.Test.YtelcoihmiglceaaGreatCD1
import Derived.Test.YtelcoihmiglceaaGreatMD14
import Derived.Test.YtelcoihmiglceaaGreatSD4
namespace Go.Proofs.YtelcoihmiglceaaGreat
open Go.RowKit

def eB (e : Te) : List Int := e.op :: (tB e.l ++ tB e.r)
def cB (x : Ck) : List Int := aB x.1 ++ (((x.2.1.length : Int) :: x.2.1.flatMap aB) ++ ((x.2.2.length : Int) :: x.2.2.flatMap eB))
structure FitE (e : Te) : Prop where
 op : 1 <= e.op /\ e.op <= 4
 l : knd e.l
 r : knd e.r
theorem aB_len8 {a : At} (h : Fit a) : (aB a).length <= 1000 := by
 have h1 := (tB_len a.by_).2
 have h2 := h.by_.2
 have h3 := tBs_len h.args a.args.length
 unfold tBs at h3
 rw [List.take_length] at h3
 have h4 := h.nm
 have h5 := h.len
 unfold aB sB
 simp only [List.length_append, List.length_cons, bl_len]
 omega
theorem eB_len {e : Te} (h : FitE e) : (eB e).length <= 1000 := by
 have h1 := (tB_len e.l).2
 have h2 := h.l.2
 have h3 := (tB_len e.r).2
 have h4 := h.r.2
 unfold eB
 simp only [List.length_append, List.length_cons]
 omega
theorem flat_len {α : Type} {f : α -> List Int} : ∀ {l : List α}, (∀ x ∈ l, (f x).length <= 1000) -> (l.flatMap f).length <= l.length * 1000
 | [], _ => by simp
 | x :: l, h => by
  have h1 := h x (by simp)
  have h2 := flat_len (l := l) (fun y hy => h y (by simp [hy]))
  simp only [List.flatMap_cons, List.length_append, List.length_cons]
  omega
theorem flat_succ {α β : Type} {f : α -> List β} {l : List α} {j : Nat} {x : α} (h : l[j]? = some x) : (l.take (j + 1)).flatMap f = (l.take j).flatMap f ++ f x := by
 rw [List.take_add_one, h]; simp
set_option maxRecDepth 20000 in
set_option maxHeartbeats 2000000 in
theorem putTest_any (e : Te) (he : FitE e) (v : Value) (l : List Int) (base : Nat) (w : World) (h : OwnB w base v l) (hl : l.length <= 600000000000) (hB : base <= w.heap.size) :
  Calls Tryz.prog 67 #[v, .agg #[.int .i64 e.op, .int .i64 e.l.k, .int .i64 e.l.n, .string e.l.s, .int .i64 e.r.k, .int .i64 e.r.n, .string e.r.s]] w fun e' w' => ∃ v', e' = .returned v' /\ Wr w base (l ++ eB e) v' w' := by
 obtain ⟨op, x, y⟩ := e
 obtain ⟨⟨h1, h4⟩, f1, f2⟩ := he
 simp only at h1 h4 f1 f2
 have hm : op % 256 = op := by omega
 have hl1 : (l ++ [op]).length <= 600000010000 := by simp; omega
 have hl2 : (l ++ [op] ++ tB x).length <= 600001000000 := by have := (tB_len x).2; have := f1.2; rw [List.length_append]; omega
 have HP1 : Hid (∀ (v1 : Value) (X : World), OwnB X base v1 (l ++ [op]) -> base <= X.heap.size -> Calls Tryz.prog 78 #[v1, x.v] X fun e w' => ∃ v', e = .returned v' /\ Wr X base (l ++ [op] ++ tB x) v' w') := fun v1 X h1 h3 => putTerm_any x f1 v1 _ base X h1 (by omega) h3
 have HP2 : Hid (∀ (v1 : Value) (X : World), OwnB X base v1 (l ++ [op] ++ tB x) -> base <= X.heap.size -> Calls Tryz.prog 78 #[v1, y.v] X fun e w' => ∃ v', e = .returned v' /\ Wr X base (l ++ [op] ++ tB x ++ tB y) v' w') := fun v1 X h1 h3 => putTerm_any y f2 v1 _ base X h1 (by omega) h3
 have HE : Hid (l ++ eB ⟨op, x, y⟩ = l ++ [op] ++ tB x ++ tB y) := by show _ = _; simp [eB]
 have HO : Hid (OwnB w base v l) := h
 have HB : Hid (base <= w.heap.size) := hB
 clear h f1 f2
 obtain ⟨xk, xn, xs⟩ := x
 obtain ⟨yk, yn, ys⟩ := y
 go_enter Tryz.func67, Tryz.ntmps67
 go_wp2_with (first
  | (at_builtin; refine app8 rfl _ _ rfl base v l rfl (HO.out.later (below2 _ _ _)) (w.heap.size + 1) [op] rfl (Blk.new2 _ _ _ _) (by simp) (by simp only [List.length_cons, List.length_nil]; omega) (by simp; omega) ?_; intro v1 w1 ho1; have HW1 : Hid (Wr w base (l ++ [op]) v1 w1) := Wr.ahead (below2 _ _ _) HB.out ho1; have hz1 := HW1.out.low.size; have HK1 : Hid (Blk w1 _ _ _) := (Blk.old w #[.int .i64 op, .int .i64 xk, .int .i64 xn, .string xs, .int .i64 yk, .int .i64 yn, .string ys] 70 _).k8 ho1.k8 (by decide); obtain ⟨c0, c1, c2, c3, c4, c5, c6⟩ := cseven HK1.out; clear ho1)
  | (go_at_call 78; refine (HP1.out _ _ HW1.out.own (by omega)).mono ?_; rintro e w2 ⟨v2, rfl, hw2⟩; have HW2 : Hid (Wr w base _ v2 w2) := HW1.out.step hw2; have hz2 := HW2.out.low.size; have HK2 : Hid (Blk w2 _ _ _) := HK1.out.k8 hw2.k8 (by decide); clear c0 c1 c2 c3 c4 c5 c6 HP1; obtain ⟨c0, c1, c2, c3, c4, c5, c6⟩ := cseven HK2.out; clear hw2)
  | (go_at_call 78; refine (HP2.out _ _ HW2.out.own (by omega)).mono ?_; rintro e w3 ⟨v3, rfl, hw3⟩))
 go_ret
 exact ⟨_, rfl, by rw [HE.out]; exact HW2.out.step hw3⟩
set_option maxRecDepth 20000 in
set_option maxHeartbeats 2000000 in
theorem putTests_any (m : List Te) (hm : ∀ t ∈ m, FitE t) (hn : m.length <= 8) (y : Value) (v : Value) (l : List Int) (base : Nat) (w : World) (h : OwnB w base v l) (hl : l.length <= 400000000000) (hB : base <= w.heap.size) (hy : Es w y m) (hyB : ∀ X, Below base w X -> Es X y m) :
  Calls Tryz.prog 66 #[v, .int .i64 1, y, .func (.func 67) #[] #[]] w fun e w' => ∃ v', e = .returned v' /\ Wr w base (l ++ ((m.length : Int) :: (m.flatMap eB))) v' w' := by
 have HN : Hid (Calls Tryz.prog 73 #[v, .int .i64 1, .int .u64 (m.length : Int)] w fun e w' => ∃ v', e = .returned v' /\ Wr w base (l ++ [(m.length : Int)]) v' w') := by
  have := putNumber_any 1 (by omega) (m.length : Int) v l base w h (by omega) hB
  rw [be_one _ (by omega) (by omega)] at this
  exact this
 have HY : Hid (∀ X, Below base w X -> Es X y m) := hyB
 have HM : Hid (∀ t ∈ m, FitE t) := hm
 have HB : Hid (base <= w.heap.size) := hB
 obtain ⟨ad, cap, rfl⟩ : ∃ ad cap, y = .slice ad m.length cap := by obtain ⟨ad, cap, e, -⟩ := hy; exact ⟨ad, cap, e⟩
 clear h hyB hm hy
 go_enter Tryz.func66, Tryz.ntmps66
 go_wp2_with (go_at_call 73; refine HN.out.mono ?_; rintro e w1 ⟨v1, rfl, hw⟩; have HW : Hid (Wr w base (l ++ [(m.length : Int)]) v1 w1) := hw; clear hw)
 go_loopg [0, 19] m.length (fun g u i wr => ∃ j : Nat, j + g = m.length /\ i = .int .i64 j /\ Wr w base (l ++ [(m.length : Int)] ++ (m.take j).flatMap eB) u wr)
 case atStart => exact ⟨0, by omega, rfl, by rw [List.take_zero, List.flatMap_nil, List.append_nil]; exact HW.out⟩
 case round =>
  obtain ⟨j, hj, rfl, hw⟩ := hrel
  have HWr : Hid (Wr w base (l ++ [(m.length : Int)] ++ (m.take j).flatMap eB) u0 wr) := hw
  have hsz := hw.low.size
  clear hw
  cases gk with
  | succ g =>
   have hlt : j < m.length := by omega
   obtain ⟨t, ht⟩ : ∃ t, m[j]? = some t := ⟨_, List.getElem?_eq_getElem hlt⟩
   have htm := List.mem_of_getElem? ht
   have HS : Hid ((m.take (j + 1)).flatMap eB = (m.take j).flatMap eB ++ eB t) := flat_succ ht
   have hlen : (l ++ [(m.length : Int)] ++ (m.take j).flatMap eB).length <= 401000000000 := by
    have h1 := flat_len (f := eB) (l := m.take j) (fun x hx => eB_len (HM.out x (List.mem_of_mem_take hx)))
    rw [List.length_take] at h1
    simp only [List.length_append, List.length_cons, List.length_nil]; omega
   have HPT : Hid (∀ (v1 : Value) (X : World), OwnB X base v1 (l ++ [(m.length : Int)] ++ (m.take j).flatMap eB) -> base <= X.heap.size -> Below base w X -> Calls Tryz.prog 67 #[v1, .agg #[.int .i64 t.op, .int .i64 t.l.k, .int .i64 t.l.n, .string t.l.s, .int .i64 t.r.k, .int .i64 t.r.n, .string t.r.s]] X fun e w' => ∃ v', e = .returned v' /\ Wr X base (l ++ [(m.length : Int)] ++ (m.take j).flatMap eB ++ eB t) v' w') := fun v1 X h1 h3 _ => putTest_any t (HM.out t htm) v1 _ base X h1 (by omega) h3
   obtain ⟨ad', cap', hx, -, hxx⟩ := HY.out _ HWr.out.low
   simp only [Value.slice.injEq] at hx
   obtain ⟨rfl, -, rfl⟩ := hx
   rcases hxx with hxx | ⟨b, o, rfl, hbs, hxx⟩
   ·subst hxx; simp at hlt
   ·obtain ⟨c0, c1, c2, c3, c4, c5, c6⟩ := hxx j _ ht
    obtain ⟨op, ⟨xk, xn, xs⟩, ⟨yk, yn, ys⟩⟩ := t
    simp only at c0 c1 c2 c3 c4 c5 c6
    clear hxx ht htm
    have i1 : (0 : Int) <= (j : Int) := by omega
    have i2 : (j : Int) < (m.length : Int) := by omega
    go_wp2_with (go_at_call 67; refine (HPT.out _ _ (HWr.out.own.later (below1 _ _)) (by simp; omega) (HWr.out.low.trans ((below1 _ _).mono (by omega)))).mono ?_; rintro e w2 ⟨v2, rfl, hw2⟩)
    go_roundg g
    case measure => omega
    case rel =>
     refine ⟨j + 1, by omega, by go_num, ?_⟩
     rw [HS.out, <- List.append_assoc]
     exact HWr.out.step (Wr.ahead (below1 _ _) (by omega) hw2)
  | zero =>
   obtain rfl : j = m.length := by omega
   have hz : ¬ ((m.length : Int) < (m.length : Int)) := by omega
   go_wp2
   go_ret
   refine ⟨_, rfl, ?_⟩
   have := HWr.out
   rwa [List.take_length, List.append_assoc] at this
set_option maxRecDepth 20000 in
set_option maxHeartbeats 2000000 in
theorem putAtoms_any (m : List (At × Value)) (hm : ∀ t ∈ m, Fit t.1) (hn : m.length <= 8) (y : Value) (v : Value) (l : List Int) (base : Nat) (w : World) (h : OwnB w base v l) (hl : l.length <= 400000000000) (hB : base <= w.heap.size) (hy : As w y m) (hyB : ∀ X, Below base w X -> As X y m) :
  Calls Tryz.prog 65 #[v, .int .i64 1, y, .func (.func 42) #[] #[]] w fun e w' => ∃ v', e = .returned v' /\ Wr w base (l ++ ((m.length : Int) :: (m.flatMap (fun x => aB x.1)))) v' w' := by
 have HN : Hid (Calls Tryz.prog 73 #[v, .int .i64 1, .int .u64 (m.length : Int)] w fun e w' => ∃ v', e = .returned v' /\ Wr w base (l ++ [(m.length : Int)]) v' w') := by
  have := putNumber_any 1 (by omega) (m.length : Int) v l base w h (by omega) hB
  rw [be_one _ (by omega) (by omega)] at this
  exact this
 have HY : Hid (∀ X, Below base w X -> As X y m) := hyB
 have HM : Hid (∀ t ∈ m, Fit t.1) := hm
 have HB : Hid (base <= w.heap.size) := hB
 obtain ⟨ad, cap, rfl⟩ : ∃ ad cap, y = .slice ad m.length cap := by obtain ⟨ad, cap, e, -⟩ := hy; exact ⟨ad, cap, e⟩
 clear h hyB hm hy
 go_enter Tryz.func65, Tryz.ntmps65
 go_wp2_with (go_at_call 73; refine HN.out.mono ?_; rintro e w1 ⟨v1, rfl, hw⟩; have HW : Hid (Wr w base (l ++ [(m.length : Int)]) v1 w1) := hw; clear hw)
 go_loopg [0, 19] m.length (fun g u i wr => ∃ j : Nat, j + g = m.length /\ i = .int .i64 j /\ Wr w base (l ++ [(m.length : Int)] ++ (m.take j).flatMap (fun x => aB x.1)) u wr)
 case atStart => exact ⟨0, by omega, rfl, by rw [List.take_zero, List.flatMap_nil, List.append_nil]; exact HW.out⟩
 case round =>
  obtain ⟨j, hj, rfl, hw⟩ := hrel
  have HWr : Hid (Wr w base (l ++ [(m.length : Int)] ++ (m.take j).flatMap (fun x => aB x.1)) u0 wr) := hw
  have hsz := hw.low.size
  clear hw
  cases gk with
  | succ g =>
   have hlt : j < m.length := by omega
   obtain ⟨t, ht⟩ : ∃ t, m[j]? = some t := ⟨_, List.getElem?_eq_getElem hlt⟩
   have htm := List.mem_of_getElem? ht
   have HS : Hid ((m.take (j + 1)).flatMap (fun x => aB x.1) = (m.take j).flatMap (fun x => aB x.1) ++ aB t.1) := flat_succ ht
   have hlen : (l ++ [(m.length : Int)] ++ (m.take j).flatMap (fun x => aB x.1)).length <= 401000000000 := by
    have h1 := flat_len (f := (fun x => aB x.1)) (l := m.take j) (fun x hx => aB_len8 (HM.out x (List.mem_of_mem_take hx)))
    rw [List.length_take] at h1
    simp only [List.length_append, List.length_cons, List.length_nil]; omega
   have hTs : ∀ X, Below base w X -> ∀ x ∈ m, Ts X x.2 x.1.args := fun X hX => by obtain ⟨_, _, _, _, _, h⟩ := HY.out X hX; exact h
   have HPT : Hid (∀ (v1 : Value) (X : World), OwnB X base v1 (l ++ [(m.length : Int)] ++ (m.take j).flatMap (fun x => aB x.1)) -> base <= X.heap.size -> Below base w X -> Calls Tryz.prog 42 #[v1, t.1.v t.2] X fun e w' => ∃ v', e = .returned v' /\ Wr X base (l ++ [(m.length : Int)] ++ (m.take j).flatMap (fun x => aB x.1) ++ aB t.1) v' w') := fun v1 X h1 h3 hX => wAtom_any t.1 (HM.out t htm) t.2 v1 _ base X h1 (by omega) h3 (hTs X hX t htm) (fun Y hY => hTs Y (hX.trans hY) t htm)
   obtain ⟨ad', cap', hx, -, hxx, -⟩ := HY.out _ HWr.out.low
   simp only [Value.slice.injEq] at hx
   obtain ⟨rfl, -, rfl⟩ := hx
   rcases hxx with hxx | ⟨b, o, rfl, hbs, hxx⟩
   ·subst hxx; simp at hlt
   ·obtain ⟨c0, c1, c2, c3, c4⟩ := hxx j _ ht
    obtain ⟨⟨⟨xk, xn, xs⟩, nm, ls⟩, xv⟩ := t
    simp only at c0 c1 c2 c3 c4
    obtain ⟨xa, xcap, rfl⟩ : ∃ a cap, xv = .slice a ls.length cap := by obtain ⟨a, cap, e, -⟩ := hTs w (Below.refl _ _) _ htm; exact ⟨a, cap, e⟩
    clear hxx ht htm
    have i1 : (0 : Int) <= (j : Int) := by omega
    have i2 : (j : Int) < (m.length : Int) := by omega
    go_wp2_with (go_at_call 42; refine (HPT.out _ _ (HWr.out.own.later (below1 _ _)) (by simp; omega) (HWr.out.low.trans ((below1 _ _).mono (by omega)))).mono ?_; rintro e w2 ⟨v2, rfl, hw2⟩)
    go_roundg g
    case measure => omega
    case rel =>
     refine ⟨j + 1, by omega, by go_num, ?_⟩
     rw [HS.out, <- List.append_assoc]
     exact HWr.out.step (Wr.ahead (below1 _ _) (by omega) hw2)
  | zero =>
   obtain rfl : j = m.length := by omega
   have hz : ¬ ((m.length : Int) < (m.length : Int)) := by omega
   go_wp2
   go_ret
   refine ⟨_, rfl, ?_⟩
   have := HWr.out
   rwa [List.take_length, List.append_assoc] at this
theorem fsts_flat8 (l : List (At × Value)) : l.flatMap (fun x => aB x.1) = (fsts l).flatMap aB := by unfold fsts; rw [List.flatMap_map]
theorem fsts_len8 (l : List (At × Value)) : (fsts l).length = l.length := by unfold fsts; simp
set_option maxRecDepth 20000 in
set_option maxHeartbeats 2000000 in
theorem putClause_any (c : Cm) (v : Value) (l : List Int) (hc : (∀ a ∈ c.key.1 :: c.key.2.1, Fit a) /\ (∀ e ∈ c.key.2.2, FitE e) /\ c.key.2.1.length <= 8 /\ c.key.2.2.length <= 8) (base : Nat) (w : World) (ho : OwnB w base v l) (hl : l.length <= 300000000000) (hB : base <= w.heap.size) (hk : c.ok w) (hkB : ∀ X, Below base w X -> c.ok X) :
  Calls Tryz.prog 32 #[v, c.v] w fun e w' => ∃ v', e = .returned v' /\ Wr w base (l ++ cB c.key) v' w' := by
 obtain ⟨hd, hb, bv, ts, tv⟩ := c
 obtain ⟨g1, g2, g3, g4⟩ := hc
 simp only [Cm.key, fsts_len8] at g1 g2 g3 g4
 have l1 := aB_len8 (g1 hd.1 (by simp))
 have l2 : ((hb.length : Int) :: hb.flatMap fun x => aB x.1).length <= 10000 := by
  have := flat_len (f := fun x : At × Value => aB x.1) (l := hb) (fun x hx => aB_len8 (g1 x.1 (List.mem_cons_of_mem _ (List.mem_map_of_mem hx))))
  simp only [List.length_cons]; omega
 have HP1 : Hid (∀ (X : World), OwnB X base v l -> base <= X.heap.size -> Below base w X -> Calls Tryz.prog 42 #[v, hd.1.v hd.2] X fun e w' => ∃ v', e = .returned v' /\ Wr X base (l ++ aB hd.1) v' w') := fun X h1 h3 hX => wAtom_any hd.1 (g1 hd.1 (by simp)) hd.2 v l base X h1 (by omega) h3 (hkB X hX).h (fun Y hY => (hkB Y (hX.trans hY)).h)
 have HP2 : Hid (∀ (v1 : Value) (X : World), OwnB X base v1 (l ++ aB hd.1) -> base <= X.heap.size -> Below base w X -> Calls Tryz.prog 65 #[v1, .int .i64 1, bv, .func (.func 42) #[] #[]] X fun e w' => ∃ v', e = .returned v' /\ Wr X base (l ++ aB hd.1 ++ ((hb.length : Int) :: hb.flatMap fun x => aB x.1)) v' w') := fun v1 X h1 h3 hX => putAtoms_any hb (fun x hx => g1 x.1 (List.mem_cons_of_mem _ (List.mem_map_of_mem hx))) g3 bv v1 _ base X h1 (by rw [List.length_append]; omega) h3 (hkB X hX).b (fun Y hY => (hkB Y (hX.trans hY)).b)
 have HP3 : Hid (∀ (v1 : Value) (X : World), OwnB X base v1 (l ++ aB hd.1 ++ ((hb.length : Int) :: hb.flatMap fun x => aB x.1)) -> base <= X.heap.size -> Below base w X -> Calls Tryz.prog 66 #[v1, .int .i64 1, tv, .func (.func 67) #[] #[]] X fun e w' => ∃ v', e = .returned v' /\ Wr X base (l ++ aB hd.1 ++ ((hb.length : Int) :: hb.flatMap fun x => aB x.1) ++ ((ts.length : Int) :: ts.flatMap eB)) v' w') := fun v1 X h1 h3 hX => putTests_any ts g2 g4 tv v1 _ base X h1 (by rw [List.length_append, List.length_append]; omega) h3 (hkB X hX).t (fun Y hY => (hkB Y (hX.trans hY)).t)
 have HE : Hid (l ++ cB (Cm.key ⟨hd, hb, bv, ts, tv⟩) = l ++ aB hd.1 ++ ((hb.length : Int) :: hb.flatMap fun x => aB x.1) ++ ((ts.length : Int) :: ts.flatMap eB)) := by show _ = _; simp [cB, Cm.key, fsts_len8, fsts_flat8]
 have HB : Hid (base <= w.heap.size) := hB
 have HO : Hid (OwnB w base v l) := ho
 obtain ⟨⟨a1, n1, cap1, x1⟩, ⟨a2, cap2, x2⟩, ⟨a3, cap3, x3⟩, -, -⟩ := hk.shape
 simp only at x1 x2 x3
 obtain ⟨⟨⟨k, n, s⟩, nm, ls⟩, hv⟩ := hd
 simp only at x1
 subst x1 x2 x3
 clear hk hkB g1 g2 ho
 go_enter Tryz.func32, Tryz.ntmps32
 go_wp2_with (first
  | (go_at_call 42; refine (HP1.out _ (HO.out.later (below1 _ _)) (by simp; omega) ((below1 _ _).mono HB.out)).mono ?_; rintro e w1 ⟨v1, rfl, hw1⟩; have HW1 : Hid (Wr w base _ v1 w1) := Wr.ahead (below1 _ _) HB.out hw1; have hz1 := HW1.out.low.size; have HK1 : Hid (Blk w1 _ _ _) := (Blk.new w #[.int .i64 k, .int .i64 n, .string s, .string nm, .slice a1 n1 cap1, .slice a2 hb.length cap2, .slice a3 ts.length cap3] 30).k8 hw1.k8 (by decide); obtain ⟨c0, c1, c2, c3, c4, c5, c6⟩ := cseven HK1.out; clear hw1)
  | (go_at_call 65; refine (HP2.out _ _ HW1.out.own (by omega) HW1.out.low).mono ?_; rintro e w2 ⟨v2, rfl, hw2⟩; have HW2 : Hid (Wr w base _ v2 w2) := HW1.out.step hw2; have hz2 := HW2.out.low.size; have HK2 : Hid (Blk w2 _ _ _) := HK1.out.k8 hw2.k8 (by decide); clear c0 c1 c2 c3 c4 c5 c6; obtain ⟨c0, c1, c2, c3, c4, c5, c6⟩ := cseven HK2.out; clear hw2)
  | (go_at_call 66; refine (HP3.out _ _ HW2.out.own (by omega) HW2.out.low).mono ?_; rintro e w3 ⟨v3, rfl, hw3⟩))
 go_ret
 exact ⟨_, rfl, by rw [HE.out]; exact HW2.out.step hw3⟩
theorem chk_fit {c : Cm} (h : c.chk = 0) : (∀ a ∈ c.key.1 :: c.key.2.1, Fit a) /\ (∀ e ∈ c.key.2.2, FitE e) /\ c.key.2.1.length <= 8 /\ c.key.2.2.length <= 8 := by
 have h1 : long c = false := by
  cases e : long c
  ·rfl
  ·rw [chk_1 e] at h; cases h
 have h2 : aErr c.atoms = 0 := by
  by_cases e : aErr c.atoms = 0
  ·exact e
  ·rw [chk_2 h1 e] at h; exact absurd h e
 have h3 : badT c = false := by
  cases e : badT c
  ·rfl
  ·rw [chk_3 h1 h2 e] at h; cases h
 have hall := aErr_all h2
 unfold long at h1
 simp only [Bool.or_eq_false_iff, decide_eq_false_iff_not] at h1
 refine ⟨fun a ha => ?_, fun e he => ?_, by simp only [Cm.key, fsts_len8]; omega, by simp only [Cm.key]; omega⟩
 ·rcases List.mem_cons.1 ha with rfl | ha
  ·exact fit_of (hall c.head (by simp [Cm.atoms]))
  ·obtain ⟨x, hx, rfl⟩ := List.mem_map.1 ha
   exact fit_of (hall x (by simp [Cm.atoms, hx]))
 ·have := List.any_eq_false.1 h3 e he
  simp only [Bool.not_eq_true, Bool.not_eq_false'] at this
  unfold Te.ok at this
  simp only [Bool.and_eq_true, decide_eq_true_eq] at this
  exact ⟨this.1, knd_cov this.2.1, knd_cov this.2.2⟩
theorem cB_len {c : Cm} (h : c.chk = 0) : (cB c.key).length <= 20000 := by
 obtain ⟨g1, g2, g3, g4⟩ := chk_fit h
 have l1 := aB_len8 (g1 c.key.1 (by simp))
 have l2 := flat_len (f := aB) (l := c.key.2.1) (fun x hx => aB_len8 (g1 x (List.mem_cons_of_mem _ hx)))
 have l3 := flat_len (f := eB) (l := c.key.2.2) (fun x hx => eB_len (g2 x hx))
 unfold cB
 simp only [List.length_append, List.length_cons]
 omega
end Go.Proofs.YtelcoihmiglceaaGreat
namespace Go.Proofs.YtelcoihmiglceaaGreat
open Go.RowKit

def Ns (w : World) (v : Value) (h : List Int) : Prop := ∃ a cap, v = .slice a h.length cap /\ h.length < 1000000000000000000 /\ (h = [] ∨ ∃ b o, a = some ⟨b, o, none⟩ /\ b < w.heap.size /\ ∀ (i : Nat) (x : Int), h[i]? = some x -> w.cell? ⟨b, o + i, none⟩ = some (.int .i64 x))
theorem Ns.later {w w' : World} {v : Value} {l : List Int} (h : Ns w v l) (hb : Below w.heap.size w w') : Ns w' v l := by
 obtain ⟨a, cap, rfl, hl, h⟩ := h
 refine ⟨a, cap, rfl, hl, h.imp id ?_⟩
 rintro ⟨b, o, rfl, h2, h3⟩
 exact ⟨b, o, rfl, Nat.lt_of_lt_of_le h2 hb.size, fun i x hx => cell_step hb h2 (h3 i x hx)⟩
structure St where
 rule : Int
 vals : List Tm
 vv : Value
 uses : List Int
 uv : Value
abbrev St.v (s : St) : Value := .agg #[.int .i64 s.rule, s.vv, s.uv]
abbrev St.cs (s : St) : Array Value := #[.int .i64 s.rule, s.vv, s.uv]
def St.csl (s : St) : List Value := s.cs.toList
abbrev Sk := Int × List Tm × List Int
def St.key (s : St) : Sk := (s.rule, s.vals, s.uses)
structure St.ok (w : World) (s : St) : Prop where
 t : Ts w s.vv s.vals
 u : Ns w s.uv s.uses
theorem St.ok.later {w w' : World} {s : St} (h : s.ok w) (hb : Below w.heap.size w w') : s.ok w' := ⟨h.t.later hb, h.u.later hb⟩
theorem St.ok.shape {w : World} {s : St} (h : s.ok w) : (∃ a cap, s.vv = .slice a s.vals.length cap) /\ (∃ a cap, s.uv = .slice a s.uses.length cap) /\ s.vals.length < 1000000000000000000 /\ s.uses.length < 1000000000000000000 := by
 obtain ⟨⟨a, c, e, l, -⟩, ⟨a', c', e', l', -⟩⟩ := h
 exact ⟨⟨a, c, e⟩, ⟨a', c', e'⟩, l, l'⟩
def scs (l : List St) : List Value := l.flatMap St.csl
theorem scs_len (l : List St) : (scs l).length = l.length * 3 := by
 induction l with
 | nil => rfl
 | cons d l ih => simp only [scs, List.flatMap_cons, List.length_append, List.length_cons] at *; rw [ih]; simp [St.csl]; omega
theorem scs_app (l m : List St) : scs (l ++ m) = scs l ++ scs m := by simp [scs]
theorem scs_get (l : List St) (j : Nat) (d : St) (h : l[j]? = some d) (i : Nat) (hi : i < 3) : (scs l)[j * 3 + i]? = d.csl[i]? := by
 induction l generalizing j with
 | nil => simp at h
 | cons e l ih =>
  have hl : e.csl.length = 3 := rfl
  have ec : scs (e :: l) = e.csl ++ scs l := by simp [scs]
  cases j with
  | zero =>
   simp at h
   subst h
   rw [ec, Nat.zero_mul, Nat.zero_add, List.getElem?_append_left (by omega)]
  | succ j =>
   rw [List.getElem?_cons_succ] at h
   rw [ec, List.getElem?_append_right (by omega), hl, show (j + 1) * 3 + i - 3 = j * 3 + i by omega]
   exact ih j h
def OwnS (w : World) (base : Nat) (v : Value) (l : List St) : Prop := w.ownsRow base 66 3 v l.length (scs l)
def SRow (w : World) (b o : Nat) (l : List St) : Prop := b < w.heap.size /\ ∀ (i : Nat) (c : St), l[i]? = some c -> ∀ (k : Nat) (u : Value), c.csl[k]? = some u -> w.cell? ⟨b, o + i * 3 + k, none⟩ = some u
theorem SRow.later {w w' : World} {b o : Nat} {l : List St} (h : SRow w b o l) (hb : Below w.heap.size w w') : SRow w' b o l :=
 ⟨Nat.lt_of_lt_of_le h.1 hb.size, fun i c hc k u hu => by rw [hb.cell (p := ⟨b, _, none⟩) h.1]; exact h.2 i c hc k u hu⟩
structure SsP (w : World) (v : Value) (l : List St) : Prop where
 m : (v = .slice none 0 0 /\ l = []) ∨ ∃ ad cap, v = .slice (some ad) l.length cap /\ (l = [] ∨ ∃ b o, ad = ⟨b, o, none⟩ /\ SRow w b o l)
 ok : ∀ c ∈ l, c.ok w
theorem SsP.later {w w' : World} {v : Value} {l : List St} (h : SsP w v l) (hb : Below w.heap.size w w') : SsP w' v l := by
 refine ⟨?_, fun c hc => (h.ok c hc).later hb⟩
 rcases h.m with h | ⟨ad, cap, h1, h2⟩
 ·exact Or.inl h
 ·refine Or.inr ⟨ad, cap, h1, ?_⟩
  rcases h2 with h2 | ⟨b, o, h2, h3⟩
  ·exact Or.inl h2
  ·exact Or.inr ⟨b, o, h2, h3.later hb⟩
theorem OwnS.nil (w : World) (base : Nat) : OwnS w base (.slice none 0 0) [] := World.ownsRow_nil _ _ _ _
theorem OwnS.later {w w' : World} {base : Nat} {v : Value} {l : List St} (h : OwnS w base v l) (hb : Below w.heap.size w w') : OwnS w' base v l := by
 refine ⟨h.1, ?_⟩
 rcases h.2 with hn | ⟨g, cap, cur, hv, hbb, hg, rest⟩
 ·exact Or.inl hn
 ·exact Or.inr ⟨g, cap, cur, hv, hbb, (hb.block g (Array.getElem?_eq_some_iff.1 hg).1).trans hg, rest⟩
theorem OwnS.form {w : World} {base : Nat} {v : Value} {l : List St} (h : OwnS w base v l) : ∃ a cap, v = .slice a l.length cap := by
 rcases h.2 with ⟨rfl, hn⟩ | ⟨g, cap, cur, hv, _⟩
 ·exact ⟨none, 0, by rw [hn]⟩
 ·exact ⟨_, cap, hv⟩
theorem ssl_one {s : St} {w : World} (h : s.ok w) : ∀ u ∈ s.csl, u.oneCell' = true := by
 obtain ⟨⟨a, cp, e1⟩, ⟨a', cp', e2⟩, -, -⟩ := h.shape
 intro u hu
 simp only [St.csl, e1, e2] at hu
 simp at hu
 rcases hu with rfl | rfl | rfl <;> rfl
theorem Tryz.infoStep : (Tryz.prog.info? 66).map (fun i => (i.zero, i.size, i.bytes)) = some (some (.agg #[.int .i64 0, .slice none 0 0, .slice none 0 0]), 3, 56) := by kernel_rfl
theorem sapp_one {ops : Array Oper} {rest : List Oper} {o : Oper} {a : Act} {Q : Exit -> Act -> World -> Prop} {w : World} (hgd : o.guard = none) (s x : Operand)
  (ho : o.op = .call { callee := .builtin .append, args := #[s, x], argTypes := #[33, 33] }) (base : Nat) (v : Value) (l : List St) (hs : a.eval s = v) (hown : OwnS w base v l)
  (b : Nat) (y : St) (hx : a.eval x = .slice (some ⟨b, 0, none⟩) 1 1) (hblk : CBlk w b y.cs 66) {W : World} (h1c : y.ok W) (hlen : l.length <= 1000000000000) (hbase : base <= w.heap.size)
  (h : ∀ v' w', OwnS w' base v' (l ++ [y]) -> Below base w w' -> w.grownBy w' v.ownBlock -> (∀ k, v'.ownBlock = some k -> v.ownBlock = some k ∨ w.heap.size <= k) -> wpList Tryz.prog ops Q rest (a.put o.dst v') w') : wpList Tryz.prog ops Q (o :: rest) a w := by
 obtain ⟨i0, hi0, hz0, hz1, hz2⟩ := info_parts Tryz.infoStep
 refine wpList_append_lies _ hgd s x 33 ho base 66 i0 _ 3 56 Tryz.underlying33 hi0 hz0 hz1 hz2 rfl (by omega) v l.length (scs l) hs hown ⟨b, 0, none⟩ 1 1 (scs [y]) hx (by rw [scs_len]; rfl) ?_ (fun u hu => by obtain ⟨z, hz, hu⟩ := List.mem_flatMap.1 hu; rw [List.mem_singleton] at hz; subst hz; exact ssl_one h1c u hu) (by omega) (by unfold maxLen; omega) (by omega) hbase _ rfl ?_
 ·intro j u hj
  have := World.news_of_block (cs := y.cs) (t := 66) (fr := (0, 0)) hblk j u
  exact this (by simpa [scs, St.csl] using hj)
 ·intro g cap w' h1 h2 h3 h4
  refine h _ w' ?_ (grown_below3 h2 (fun k hk => (World.ownsRow.lt hown k hk).1) hbase) h2 (fun k hk => by cases hk; exact h3.imp id (fun e => Nat.le_of_eq e.symm))
  unfold OwnS
  rw [List.length_append, scs_app]
  exact h1
theorem OwnS.adr {w : World} {base n cap j : Nat} {a : Option Addr} {l : List St} {c : St} (h : OwnS w base (.slice a n cap) l) (hc : l[j]? = some c) : ∃ b o, a = some ⟨b, o, none⟩ /\ SRow w b o l := by
 rcases h.2 with ⟨-, hn⟩ | ⟨g', cap', cur, hv, hb, hg, hn, hcc, hs, ht⟩
 ·have := (List.getElem?_eq_some_iff.1 hc).1; omega
 ·simp only [Value.slice.injEq] at hv
  obtain ⟨rfl, -, rfl⟩ := hv
  refine ⟨g', 0, rfl, (Array.getElem?_eq_some_iff.1 hg).1, fun i d hd k u hu => ?_⟩
  have hk : k < 3 := by have := (List.getElem?_eq_some_iff.1 hu).1; simpa [St.csl] using this
  have hi := (List.getElem?_eq_some_iff.1 hd).1
  have h1 : (cur.toList.take (l.length * 3))[i * 3 + k]? = (scs l)[i * 3 + k]? := by rw [ht]
  rw [List.getElem?_take_of_lt (by omega), scs_get l i d hd k hk, hu] at h1
  rw [Nat.zero_add, cell_of_row _ _ _ _ _ _ hg]
  simpa using h1
theorem SsP.form {w : World} {v : Value} {l : List St} (h : SsP w v l) : ∃ a cap, v = .slice a l.length cap := by
 rcases h.m with ⟨rfl, rfl⟩ | ⟨ad, cap, rfl, -⟩
 ·exact ⟨none, 0, rfl⟩
 ·exact ⟨_, cap, rfl⟩
theorem SRow.three {w : World} {b o j : Nat} {l : List St} {c : St} (h : SRow w b o l) (hc : l[j]? = some c) :
  w.cell? ⟨b, o + j * 3, none⟩ = some (.int .i64 c.rule) /\ w.cell? ⟨b, o + j * 3 + 1, none⟩ = some c.vv /\ w.cell? ⟨b, o + j * 3 + 2, none⟩ = some c.uv :=
 ⟨h.2 j c hc 0 _ rfl, h.2 j c hc 1 _ rfl, h.2 j c hc 2 _ rfl⟩
theorem SsP.at_ {w : World} {a : Option Addr} {n cap j : Nat} {l : List St} {s : St} (h : SsP w (.slice a n cap) l) (hj : l[j]? = some s) : ∃ b o, a = some ⟨b, o, none⟩ /\ b < w.heap.size /\ SRow w b o l /\ s.ok w := by
 have hne : l ≠ [] := fun e => by rw [e] at hj; simp at hj
 rcases h.m with ⟨-, e⟩ | ⟨ad, cap', e, e' | ⟨b, o, rfl, hr⟩⟩
 ·exact absurd e hne
 ·exact absurd e' hne
 ·simp only [Value.slice.injEq] at e
  exact ⟨b, o, e.1, hr.1, hr, h.ok s (List.mem_of_getElem? hj)⟩
theorem CsP.at_ {w : World} {a : Option Addr} {n cap j : Nat} {l : List Cm} {s : Cm} (h : CsP w (.slice a n cap) l) (hj : l[j]? = some s) : ∃ b o, a = some ⟨b, o, none⟩ /\ b < w.heap.size /\ CRow w b o l /\ s.ok w := by
 have hne : l ≠ [] := fun e => by rw [e] at hj; simp at hj
 rcases h.m with ⟨-, e⟩ | ⟨ad, cap', e, e' | ⟨b, o, rfl, hr⟩⟩
 ·exact absurd e hne
 ·exact absurd e' hne
 ·simp only [Value.slice.injEq] at e
  exact ⟨b, o, e.1, hr.1, hr, h.ok s (List.mem_of_getElem? hj)⟩
structure Kt (t : TypeId) (w w' : World) : Prop where
 size : w.heap.size <= w'.heap.size
 block : ∀ (k : Nat) (c : Array Value) (t' : TypeId) (fr : Nat × Nat), w.heap[k]? = some (.cells c t' fr) -> t' ≠ t -> w'.heap[k]? = some (.cells c t' fr)
theorem Kt.trans {t : TypeId} {a b c : World} (h : Kt t a b) (k : Kt t b c) : Kt t a c := ⟨Nat.le_trans h.size k.size, fun i d t' fr hi ht => k.block i d t' fr (h.block i d t' fr hi ht) ht⟩
theorem Kt.of {t : TypeId} {w w' : World} (h : Below w.heap.size w w') : Kt t w w' := ⟨h.size, fun k _ _ _ hk _ => (h.block k (Array.getElem?_eq_some_iff.1 hk).1).trans hk⟩
theorem Kt.set {t : TypeId} {w : World} {G i : Nat} {cs : Array Value} {v : Value} {fr : Nat × Nat} (h : w.heap[G]? = some (.cells cs t fr)) : Kt t w (w.setCell ⟨G, i, none⟩ v) :=
 ⟨by simp [World.setCell], fun k c t' fr' hk ht => by
  rw [heap_setCell_other _ _ _ _ (show k ≠ G from fun e => by subst e; rw [h] at hk; cases hk; exact ht rfl)]
  exact hk⟩
theorem CBlk.kt {t t' : TypeId} {w w' : World} {g : Nat} {c : Array Value} (h : CBlk w g c t') (hk : Kt t w w') (ht : t' ≠ t) : CBlk w' g c t' := hk.block _ _ _ _ h ht
theorem row_kt {t e : TypeId} {w w' : World} {base n m : Nat} {v : Value} {xs : List Value} (h : w.ownsRow base e n v m xs) (hk : Kt t w w') (ht : e ≠ t) : w'.ownsRow base e n v m xs := by
 refine ⟨h.1, ?_⟩
 rcases h.2 with hn | ⟨g, cap, cur, hv, hbb, hg, rest⟩
 ·exact Or.inl hn
 ·exact Or.inr ⟨g, cap, cur, hv, hbb, hk.block _ _ _ _ hg ht, rest⟩
theorem row_agree {e : TypeId} {w w' : World} {base n m : Nat} {v : Value} {xs : List Value} (h : w.ownsRow base e n v m xs) (hb : ∀ k, v.ownBlock = some k -> w'.heap[k]? = w.heap[k]?) : w'.ownsRow base e n v m xs := by
 refine ⟨h.1, ?_⟩
 rcases h.2 with hn | ⟨g, cap, cur, rfl, hbb, hg, rest⟩
 ·exact Or.inl hn
 ·exact Or.inr ⟨g, cap, cur, rfl, hbb, (hb g rfl).trans hg, rest⟩
theorem row_grown {e : TypeId} {w w' : World} {base n m : Nat} {v : Value} {xs : List Value} (h : w.ownsRow base e n v m xs) (hg : w.grownBy w' v.ownBlock) : Kt e w w' := by
 refine ⟨hg.size, fun k c t fr hk ht => ?_⟩
 rw [hg.block k (Array.getElem?_eq_some_iff.1 hk).1 (fun e => ?_)]
 ·exact hk
 ·rcases h.2 with ⟨rfl, -⟩ | ⟨g, cap, cur, rfl, -, hgg, -⟩
  ·cases e
  ·cases e
   rw [hgg] at hk
   cases hk
   exact ht rfl
theorem row_block {e : TypeId} {w : World} {base n m k : Nat} {v : Value} {xs : List Value} (h : w.ownsRow base e n v m xs) (hk : v.ownBlock = some k) : base <= k /\ ∃ cur, w.heap[k]? = some (.cells cur e (0, 0)) := by
 rcases h.2 with ⟨rfl, -⟩ | ⟨g, cap, cur, rfl, hb, hgg, -⟩
 ·cases hk
 ·cases hk; exact ⟨hb, cur, hgg⟩
def nbs (l : List Int) : List Value := l.map (Value.int .i64)
def OwnN (w : World) (base : Nat) (v : Value) (l : List Int) : Prop := w.ownsRow base 3 1 v l.length (nbs l)
theorem ownN_nil (w : World) (base : Nat) : OwnN w base (.slice none 0 0) [] := World.ownsRow_nil _ _ _ _
theorem OwnN.later {w w' : World} {base : Nat} {v : Value} {l : List Int} (h : OwnN w base v l) (hb : Below w.heap.size w w') : OwnN w' base v l := by
 refine ⟨h.1, ?_⟩
 rcases h.2 with hn | ⟨g, cap, cur, hv, hbb, hg, rest⟩
 ·exact Or.inl hn
 ·exact Or.inr ⟨g, cap, cur, hv, hbb, (hb.block g (Array.getElem?_eq_some_iff.1 hg).1).trans hg, rest⟩
theorem OwnN.form {w : World} {base : Nat} {v : Value} {l : List Int} (h : OwnN w base v l) : ∃ a cap, v = .slice a l.length cap := by
 rcases h.2 with ⟨rfl, hn⟩ | ⟨g, cap, cur, hv, _⟩
 ·exact ⟨none, 0, by rw [hn]⟩
 ·exact ⟨_, cap, hv⟩
theorem OwnN.ns {w : World} {base : Nat} {v : Value} {l : List Int} (h : OwnN w base v l) (hl : l.length < 1000000000000000000) : Ns w v l := by
 rcases h.2 with ⟨rfl, hn⟩ | ⟨g, cap, cur, hv, hbb, hg, hn, hc, hs, ht⟩
 ·have : l = [] := List.eq_nil_of_length_eq_zero hn
  subst this
  exact ⟨none, 0, rfl, hl, Or.inl rfl⟩
 ·refine ⟨_, cap, hv, hl, Or.inr ⟨g, 0, rfl, (Array.getElem?_eq_some_iff.1 hg).1, fun i x hx => ?_⟩⟩
  have hi := (List.getElem?_eq_some_iff.1 hx).1
  have h1 : (cur.toList.take (l.length * 1))[i]? = (nbs l)[i]? := by rw [ht]
  rw [List.getElem?_take_of_lt (by omega)] at h1
  simp only [nbs, List.getElem?_map, hx, Option.map_some] at h1
  rw [Nat.zero_add, cell_of_row _ _ _ _ _ _ hg]
  simpa using h1
theorem Tryz.infoInt8 : (Tryz.prog.info? 3).map (fun i => (i.zero, i.size, i.bytes)) = some (some (.int .i64 0), 1, 8) := by kernel_rfl
theorem napp_one {ops : Array Oper} {rest : List Oper} {o : Oper} {a : Act} {Q : Exit -> Act -> World -> Prop} {w : World} (hgd : o.guard = none) (s x : Operand)
  (ho : o.op = .call { callee := .builtin .append, args := #[s, x], argTypes := #[64, 64] }) (base : Nat) (v : Value) (l : List Int) (hs : a.eval s = v) (hown : OwnN w base v l)
  (b : Nat) (y : Int) (hx : a.eval x = .slice (some ⟨b, 0, none⟩) 1 1) (hblk : CBlk w b #[.int .i64 y] 3) (hlen : l.length <= 1000000000000) (hbase : base <= w.heap.size)
  (h : ∀ v' w', OwnN w' base v' (l ++ [y]) -> Below base w w' -> w.grownBy w' v.ownBlock -> (∀ k, v'.ownBlock = some k -> v.ownBlock = some k ∨ w.heap.size <= k) -> wpList Tryz.prog ops Q rest (a.put o.dst v') w') : wpList Tryz.prog ops Q (o :: rest) a w := by
 obtain ⟨i0, hi0, hz0, hz1, hz2⟩ := info_parts Tryz.infoInt8
 refine wpList_append_lies _ hgd s x 64 ho base 3 i0 _ 1 8 Tryz.underlying64 hi0 hz0 hz1 hz2 rfl (by omega) v l.length (nbs l) hs hown ⟨b, 0, none⟩ 1 1 (nbs [y]) hx (by simp [nbs]) ?_ (by simp [nbs, Value.oneCell']) (by omega) (by unfold maxLen; omega) (by omega) hbase _ rfl ?_
 ·intro j u hj
  exact World.news_of_block (cs := #[.int .i64 y]) (t := 3) (fr := (0, 0)) hblk j u (by simpa [nbs] using hj)
 ·intro g cap w' h1 h2 h3 h4
  refine h _ w' ?_ (grown_below3 h2 (fun k hk => (World.ownsRow.lt hown k hk).1) hbase) h2 (fun k hk => by cases hk; exact h3.imp id (fun e => Nat.le_of_eq e.symm))
  unfold OwnN
  rw [List.length_append, show nbs (l ++ [y]) = nbs l ++ nbs [y] by simp [nbs]]
  exact h1
end Go.Proofs.YtelcoihmiglceaaGreat

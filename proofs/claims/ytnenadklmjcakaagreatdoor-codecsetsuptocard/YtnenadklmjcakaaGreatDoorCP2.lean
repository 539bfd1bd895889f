import Derived.Test.YtnenadklmjcakaaGreatDoorCD3
import Derived.Test.YtnenadklmjcakaaGreatDoorL1
import Derived.Test.YtnenadklmjcakaaGreatDoorT4
import Derived.Deep.RegionHeld3
import Derived.Test.YtnenadklmjcakaaGreatDoorSD4
import Derived.Test.YtnenadklmjcakaaGreatDoorCD10
import Derived.Test.YtnenadklmjcakaaGreatDoorCG3
namespace Go.Proofs.YtnenadklmjcakaaGreatDoor
open Go.RowKit

def eB (e : Te) : List Int := e.op :: (tB e.l ++ tB e.r)
def cB (x : Ck) : List Int := aB x.1 ++ (((x.2.1.length : Int) :: x.2.1.flatMap aB) ++ ((x.2.2.length : Int) :: x.2.2.flatMap eB))
structure FitE (e : Te) : Prop where
 op : 1 <= e.op /\ e.op <= 4
 l : knd e.l
 r : knd e.r
theorem aB_len8 {a : At} (h : Fit a) : (aB a).length <= 1000 := by
 have h1 := (tB_len a.by_).2
 have h2 := h.by_.2
 have h3 := tBs_len h.args a.args.length
 unfold tBs at h3
 rw [List.take_length] at h3
 have h4 := h.nm
 have h5 := h.len
 unfold aB sB
 simp only [List.length_append, List.length_cons, bl_len]
 omega
theorem eB_len {e : Te} (h : FitE e) : (eB e).length <= 1000 := by
 have h1 := (tB_len e.l).2
 have h2 := h.l.2
 have h3 := (tB_len e.r).2
 have h4 := h.r.2
 unfold eB
 simp only [List.length_append, List.length_cons]
 omega
theorem flat_len {α : Type} {f : α -> List Int} : ∀ {l : List α}, (∀ x ∈ l, (f x).length <= 1000) -> (l.flatMap f).length <= l.length * 1000
 | [], _ => by simp
 | x :: l, h => by
  have h1 := h x (by simp)
  have h2 := flat_len (l := l) (fun y hy => h y (by simp [hy]))
  simp only [List.flatMap_cons, List.length_append, List.length_cons]
  omega
theorem flat_succ {α β : Type} {f : α -> List β} {l : List α} {j : Nat} {x : α} (h : l[j]? = some x) : (l.take (j + 1)).flatMap f = (l.take j).flatMap f ++ f x := by
 rw [List.take_add_one, h]; simp
set_option maxRecDepth 20000 in
set_option maxHeartbeats 2000000 in
theorem putTest_any (e : Te) (he : FitE e) (v : Value) (l : List Int) (base : Nat) (w : World) (h : OwnB w base v l) (hl : l.length <= 600000000000) (hB : base <= w.heap.size) :
  Calls Tryz.prog 66 #[v, .agg #[.int .i64 e.op, .int .i64 e.l.k, .int .i64 e.l.n, .string e.l.s, .int .i64 e.r.k, .int .i64 e.r.n, .string e.r.s]] w fun e' w' => ∃ v', e' = .returned v' /\ Wr w base (l ++ eB e) v' w' := by
 obtain ⟨op, x, y⟩ := e
 obtain ⟨⟨h1, h4⟩, f1, f2⟩ := he
 simp only at h1 h4 f1 f2
 have hm : op % 256 = op := by omega
 have hl1 : (l ++ [op]).length <= 600000010000 := by simp; omega
 have hl2 : (l ++ [op] ++ tB x).length <= 600001000000 := by have := (tB_len x).2; have := f1.2; rw [List.length_append]; omega
 have HP1 : Hid (∀ (v1 : Value) (X : World), OwnB X base v1 (l ++ [op]) -> base <= X.heap.size -> Calls Tryz.prog 97 #[v1, x.v] X fun e w' => ∃ v', e = .returned v' /\ Wr X base (l ++ [op] ++ tB x) v' w') := fun v1 X h1 h3 => putTerm_any x f1 v1 _ base X h1 (by omega) h3
 have HP2 : Hid (∀ (v1 : Value) (X : World), OwnB X base v1 (l ++ [op] ++ tB x) -> base <= X.heap.size -> Calls Tryz.prog 97 #[v1, y.v] X fun e w' => ∃ v', e = .returned v' /\ Wr X base (l ++ [op] ++ tB x ++ tB y) v' w') := fun v1 X h1 h3 => putTerm_any y f2 v1 _ base X h1 (by omega) h3
 have HE : Hid (l ++ eB ⟨op, x, y⟩ = l ++ [op] ++ tB x ++ tB y) := by show _ = _; simp [eB]
 have HO : Hid (OwnB w base v l) := h
 have HB : Hid (base <= w.heap.size) := hB
 clear h f1 f2
 obtain ⟨xk, xn, xs⟩ := x
 obtain ⟨yk, yn, ys⟩ := y
 go_enter Tryz.func66, Tryz.ntmps66
 go_wp2_with (first
  | (at_builtin; refine app8 rfl _ _ rfl base v l rfl (HO.out.later (below2 _ _ _)) (w.heap.size + 1) [op] rfl (Blk.new2 _ _ _ _) (by simp) (by simp only [List.length_cons, List.length_nil]; omega) (by simp; omega) ?_; intro v1 w1 ho1; have HW1 : Hid (Wr w base (l ++ [op]) v1 w1) := Wr.ahead (below2 _ _ _) HB.out ho1; have hz1 := HW1.out.low.size; have HK1 : Hid (Blk w1 _ _ _) := (Blk.old w #[.int .i64 op, .int .i64 xk, .int .i64 xn, .string xs, .int .i64 yk, .int .i64 yn, .string ys] 94 _).k8 ho1.k8 (by decide); obtain ⟨c0, c1, c2, c3, c4, c5, c6⟩ := cseven HK1.out; clear ho1)
  | (go_at_call 97; refine (HP1.out _ _ HW1.out.own (by omega)).mono ?_; rintro e w2 ⟨v2, rfl, hw2⟩; have HW2 : Hid (Wr w base _ v2 w2) := HW1.out.step hw2; have hz2 := HW2.out.low.size; have HK2 : Hid (Blk w2 _ _ _) := HK1.out.k8 hw2.k8 (by decide); clear c0 c1 c2 c3 c4 c5 c6 HP1; obtain ⟨c0, c1, c2, c3, c4, c5, c6⟩ := cseven HK2.out; clear hw2)
  | (go_at_call 97; refine (HP2.out _ _ HW2.out.own (by omega)).mono ?_; rintro e w3 ⟨v3, rfl, hw3⟩))
 go_ret
 exact ⟨_, rfl, by rw [HE.out]; exact HW2.out.step hw3⟩
set_option maxRecDepth 20000 in
set_option maxHeartbeats 2000000 in
theorem putTests_any (m : List Te) (hm : ∀ t ∈ m, FitE t) (hn : m.length <= 8) (y : Value) (v : Value) (l : List Int) (base : Nat) (w : World) (h : OwnB w base v l) (hl : l.length <= 400000000000) (hB : base <= w.heap.size) (hy : Es w y m) (hyB : ∀ X, Below base w X -> Es X y m) :
  Calls Tryz.prog 65 #[v, .int .i64 1, y, .func (.func 66) #[] #[]] w fun e w' => ∃ v', e = .returned v' /\ Wr w base (l ++ ((m.length : Int) :: (m.flatMap eB))) v' w' := by
 have HN : Hid (Calls Tryz.prog 62 #[v, .int .i64 1, .int .u64 (m.length : Int)] w fun e w' => ∃ v', e = .returned v' /\ Wr w base (l ++ [(m.length : Int)]) v' w') := by
  have := putNumber_any 1 (by omega) (m.length : Int) v l base w h (by omega) hB
  rw [be_one _ (by omega) (by omega)] at this
  exact this
 have HY : Hid (∀ X, Below base w X -> Es X y m) := hyB
 have HM : Hid (∀ t ∈ m, FitE t) := hm
 have HB : Hid (base <= w.heap.size) := hB
 obtain ⟨ad, cap, rfl⟩ : ∃ ad cap, y = .slice ad m.length cap := by obtain ⟨ad, cap, e, -⟩ := hy; exact ⟨ad, cap, e⟩
 clear h hyB hm hy
 go_enter Tryz.func65, Tryz.ntmps65
 go_wp2_with (go_at_call 62; refine HN.out.mono ?_; rintro e w1 ⟨v1, rfl, hw⟩; have HW : Hid (Wr w base (l ++ [(m.length : Int)]) v1 w1) := hw; clear hw)
 go_loopg [0, 19] m.length (fun g u i wr => ∃ j : Nat, j + g = m.length /\ i = .int .i64 j /\ Wr w base (l ++ [(m.length : Int)] ++ (m.take j).flatMap eB) u wr)
 case atStart => exact ⟨0, by omega, rfl, by rw [List.take_zero, List.flatMap_nil, List.append_nil]; exact HW.out⟩
 case round =>
  obtain ⟨j, hj, rfl, hw⟩ := hrel
  have HWr : Hid (Wr w base (l ++ [(m.length : Int)] ++ (m.take j).flatMap eB) u0 wr) := hw
  have hsz := hw.low.size
  clear hw
  cases gk with
  | succ g =>
   have hlt : j < m.length := by omega
   obtain ⟨t, ht⟩ : ∃ t, m[j]? = some t := ⟨_, List.getElem?_eq_getElem hlt⟩
   have htm := List.mem_of_getElem? ht
   have HS : Hid ((m.take (j + 1)).flatMap eB = (m.take j).flatMap eB ++ eB t) := flat_succ ht
   have hlen : (l ++ [(m.length : Int)] ++ (m.take j).flatMap eB).length <= 401000000000 := by
    have h1 := flat_len (f := eB) (l := m.take j) (fun x hx => eB_len (HM.out x (List.mem_of_mem_take hx)))
    rw [List.length_take] at h1
    simp only [List.length_append, List.length_cons, List.length_nil]; omega
   have HPT : Hid (∀ (v1 : Value) (X : World), OwnB X base v1 (l ++ [(m.length : Int)] ++ (m.take j).flatMap eB) -> base <= X.heap.size -> Below base w X -> Calls Tryz.prog 66 #[v1, .agg #[.int .i64 t.op, .int .i64 t.l.k, .int .i64 t.l.n, .string t.l.s, .int .i64 t.r.k, .int .i64 t.r.n, .string t.r.s]] X fun e w' => ∃ v', e = .returned v' /\ Wr X base (l ++ [(m.length : Int)] ++ (m.take j).flatMap eB ++ eB t) v' w') := fun v1 X h1 h3 _ => putTest_any t (HM.out t htm) v1 _ base X h1 (by omega) h3
   obtain ⟨ad', cap', hx, -, hxx⟩ := HY.out _ HWr.out.low
   simp only [Value.slice.injEq] at hx
   obtain ⟨rfl, -, rfl⟩ := hx
   rcases hxx with hxx | ⟨b, o, rfl, hbs, hxx⟩
   ·subst hxx; simp at hlt
   ·obtain ⟨c0, c1, c2, c3, c4, c5, c6⟩ := hxx j _ ht
    obtain ⟨op, ⟨xk, xn, xs⟩, ⟨yk, yn, ys⟩⟩ := t
    simp only at c0 c1 c2 c3 c4 c5 c6
    clear hxx ht htm
    have i1 : (0 : Int) <= (j : Int) := by omega
    have i2 : (j : Int) < (m.length : Int) := by omega
    go_wp2_with (go_at_call 66; refine (HPT.out _ _ (HWr.out.own.later (below1 _ _)) (by simp; omega) (HWr.out.low.trans ((below1 _ _).mono (by omega)))).mono ?_; rintro e w2 ⟨v2, rfl, hw2⟩)
    go_roundg g
    case measure => omega
    case rel =>
     refine ⟨j + 1, by omega, by go_num, ?_⟩
     rw [HS.out, <- List.append_assoc]
     exact HWr.out.step (Wr.ahead (below1 _ _) (by omega) hw2)
  | zero =>
   obtain rfl : j = m.length := by omega
   have hz : ¬ ((m.length : Int) < (m.length : Int)) := by omega
   go_wp2
   go_ret
   refine ⟨_, rfl, ?_⟩
   have := HWr.out
   rwa [List.take_length, List.append_assoc] at this
set_option maxRecDepth 20000 in
set_option maxHeartbeats 2000000 in
theorem putAtoms_any (m : List (At × Value)) (hm : ∀ t ∈ m, Fit t.1) (hn : m.length <= 8) (y : Value) (v : Value) (l : List Int) (base : Nat) (w : World) (h : OwnB w base v l) (hl : l.length <= 400000000000) (hB : base <= w.heap.size) (hy : As w y m) (hyB : ∀ X, Below base w X -> As X y m) :
  Calls Tryz.prog 64 #[v, .int .i64 1, y, .func (.func 63) #[] #[]] w fun e w' => ∃ v', e = .returned v' /\ Wr w base (l ++ ((m.length : Int) :: (m.flatMap (fun x => aB x.1)))) v' w' := by
 have HN : Hid (Calls Tryz.prog 62 #[v, .int .i64 1, .int .u64 (m.length : Int)] w fun e w' => ∃ v', e = .returned v' /\ Wr w base (l ++ [(m.length : Int)]) v' w') := by
  have := putNumber_any 1 (by omega) (m.length : Int) v l base w h (by omega) hB
  rw [be_one _ (by omega) (by omega)] at this
  exact this
 have HY : Hid (∀ X, Below base w X -> As X y m) := hyB
 have HM : Hid (∀ t ∈ m, Fit t.1) := hm
 have HB : Hid (base <= w.heap.size) := hB
 obtain ⟨ad, cap, rfl⟩ : ∃ ad cap, y = .slice ad m.length cap := by obtain ⟨ad, cap, e, -⟩ := hy; exact ⟨ad, cap, e⟩
 clear h hyB hm hy
 go_enter Tryz.func64, Tryz.ntmps64
 go_wp2_with (go_at_call 62; refine HN.out.mono ?_; rintro e w1 ⟨v1, rfl, hw⟩; have HW : Hid (Wr w base (l ++ [(m.length : Int)]) v1 w1) := hw; clear hw)
 go_loopg [0, 19] m.length (fun g u i wr => ∃ j : Nat, j + g = m.length /\ i = .int .i64 j /\ Wr w base (l ++ [(m.length : Int)] ++ (m.take j).flatMap (fun x => aB x.1)) u wr)
 case atStart => exact ⟨0, by omega, rfl, by rw [List.take_zero, List.flatMap_nil, List.append_nil]; exact HW.out⟩
 case round =>
  obtain ⟨j, hj, rfl, hw⟩ := hrel
  have HWr : Hid (Wr w base (l ++ [(m.length : Int)] ++ (m.take j).flatMap (fun x => aB x.1)) u0 wr) := hw
  have hsz := hw.low.size
  clear hw
  cases gk with
  | succ g =>
   have hlt : j < m.length := by omega
   obtain ⟨t, ht⟩ : ∃ t, m[j]? = some t := ⟨_, List.getElem?_eq_getElem hlt⟩
   have htm := List.mem_of_getElem? ht
   have HS : Hid ((m.take (j + 1)).flatMap (fun x => aB x.1) = (m.take j).flatMap (fun x => aB x.1) ++ aB t.1) := flat_succ ht
   have hlen : (l ++ [(m.length : Int)] ++ (m.take j).flatMap (fun x => aB x.1)).length <= 401000000000 := by
    have h1 := flat_len (f := (fun x => aB x.1)) (l := m.take j) (fun x hx => aB_len8 (HM.out x (List.mem_of_mem_take hx)))
    rw [List.length_take] at h1
    simp only [List.length_append, List.length_cons, List.length_nil]; omega
   have hTs : ∀ X, Below base w X -> ∀ x ∈ m, Ts X x.2 x.1.args := fun X hX => by obtain ⟨_, _, _, _, _, h⟩ := HY.out X hX; exact h
   have HPT : Hid (∀ (v1 : Value) (X : World), OwnB X base v1 (l ++ [(m.length : Int)] ++ (m.take j).flatMap (fun x => aB x.1)) -> base <= X.heap.size -> Below base w X -> Calls Tryz.prog 63 #[v1, t.1.v t.2] X fun e w' => ∃ v', e = .returned v' /\ Wr X base (l ++ [(m.length : Int)] ++ (m.take j).flatMap (fun x => aB x.1) ++ aB t.1) v' w') := fun v1 X h1 h3 hX => wAtom_any t.1 (HM.out t htm) t.2 v1 _ base X h1 (by omega) h3 (hTs X hX t htm) (fun Y hY => hTs Y (hX.trans hY) t htm)
   obtain ⟨ad', cap', hx, -, hxx, -⟩ := HY.out _ HWr.out.low
   simp only [Value.slice.injEq] at hx
   obtain ⟨rfl, -, rfl⟩ := hx
   rcases hxx with hxx | ⟨b, o, rfl, hbs, hxx⟩
   ·subst hxx; simp at hlt
   ·obtain ⟨c0, c1, c2, c3, c4⟩ := hxx j _ ht
    obtain ⟨⟨⟨xk, xn, xs⟩, nm, ls⟩, xv⟩ := t
    simp only at c0 c1 c2 c3 c4
    obtain ⟨xa, xcap, rfl⟩ : ∃ a cap, xv = .slice a ls.length cap := by obtain ⟨a, cap, e, -⟩ := hTs w (Below.refl _ _) _ htm; exact ⟨a, cap, e⟩
    clear hxx ht htm
    have i1 : (0 : Int) <= (j : Int) := by omega
    have i2 : (j : Int) < (m.length : Int) := by omega
    go_wp2_with (go_at_call 63; refine (HPT.out _ _ (HWr.out.own.later (below1 _ _)) (by simp; omega) (HWr.out.low.trans ((below1 _ _).mono (by omega)))).mono ?_; rintro e w2 ⟨v2, rfl, hw2⟩)
    go_roundg g
    case measure => omega
    case rel =>
     refine ⟨j + 1, by omega, by go_num, ?_⟩
     rw [HS.out, <- List.append_assoc]
     exact HWr.out.step (Wr.ahead (below1 _ _) (by omega) hw2)
  | zero =>
   obtain rfl : j = m.length := by omega
   have hz : ¬ ((m.length : Int) < (m.length : Int)) := by omega
   go_wp2
   go_ret
   refine ⟨_, rfl, ?_⟩
   have := HWr.out
   rwa [List.take_length, List.append_assoc] at this
theorem fsts_flat8 (l : List (At × Value)) : l.flatMap (fun x => aB x.1) = (fsts l).flatMap aB := by unfold fsts; rw [List.flatMap_map]
theorem fsts_len8 (l : List (At × Value)) : (fsts l).length = l.length := by unfold fsts; simp
set_option maxRecDepth 20000 in
set_option maxHeartbeats 2000000 in
theorem putClause_any (c : Cm) (v : Value) (l : List Int) (hc : (∀ a ∈ c.key.1 :: c.key.2.1, Fit a) /\ (∀ e ∈ c.key.2.2, FitE e) /\ c.key.2.1.length <= 8 /\ c.key.2.2.length <= 8) (base : Nat) (w : World) (ho : OwnB w base v l) (hl : l.length <= 300000000000) (hB : base <= w.heap.size) (hk : c.ok w) (hkB : ∀ X, Below base w X -> c.ok X) :
  Calls Tryz.prog 29 #[v, c.v] w fun e w' => ∃ v', e = .returned v' /\ Wr w base (l ++ cB c.key) v' w' := by
 obtain ⟨hd, hb, bv, ts, tv⟩ := c
 obtain ⟨g1, g2, g3, g4⟩ := hc
 simp only [Cm.key, fsts_len8] at g1 g2 g3 g4
 have l1 := aB_len8 (g1 hd.1 (by simp))
 have l2 : ((hb.length : Int) :: hb.flatMap fun x => aB x.1).length <= 10000 := by
  have := flat_len (f := fun x : At × Value => aB x.1) (l := hb) (fun x hx => aB_len8 (g1 x.1 (List.mem_cons_of_mem _ (List.mem_map_of_mem hx))))
  simp only [List.length_cons]; omega
 have HP1 : Hid (∀ (X : World), OwnB X base v l -> base <= X.heap.size -> Below base w X -> Calls Tryz.prog 63 #[v, hd.1.v hd.2] X fun e w' => ∃ v', e = .returned v' /\ Wr X base (l ++ aB hd.1) v' w') := fun X h1 h3 hX => wAtom_any hd.1 (g1 hd.1 (by simp)) hd.2 v l base X h1 (by omega) h3 (hkB X hX).h (fun Y hY => (hkB Y (hX.trans hY)).h)
 have HP2 : Hid (∀ (v1 : Value) (X : World), OwnB X base v1 (l ++ aB hd.1) -> base <= X.heap.size -> Below base w X -> Calls Tryz.prog 64 #[v1, .int .i64 1, bv, .func (.func 63) #[] #[]] X fun e w' => ∃ v', e = .returned v' /\ Wr X base (l ++ aB hd.1 ++ ((hb.length : Int) :: hb.flatMap fun x => aB x.1)) v' w') := fun v1 X h1 h3 hX => putAtoms_any hb (fun x hx => g1 x.1 (List.mem_cons_of_mem _ (List.mem_map_of_mem hx))) g3 bv v1 _ base X h1 (by rw [List.length_append]; omega) h3 (hkB X hX).b (fun Y hY => (hkB Y (hX.trans hY)).b)
 have HP3 : Hid (∀ (v1 : Value) (X : World), OwnB X base v1 (l ++ aB hd.1 ++ ((hb.length : Int) :: hb.flatMap fun x => aB x.1)) -> base <= X.heap.size -> Below base w X -> Calls Tryz.prog 65 #[v1, .int .i64 1, tv, .func (.func 66) #[] #[]] X fun e w' => ∃ v', e = .returned v' /\ Wr X base (l ++ aB hd.1 ++ ((hb.length : Int) :: hb.flatMap fun x => aB x.1) ++ ((ts.length : Int) :: ts.flatMap eB)) v' w') := fun v1 X h1 h3 hX => putTests_any ts g2 g4 tv v1 _ base X h1 (by rw [List.length_append, List.length_append]; omega) h3 (hkB X hX).t (fun Y hY => (hkB Y (hX.trans hY)).t)
 have HE : Hid (l ++ cB (Cm.key ⟨hd, hb, bv, ts, tv⟩) = l ++ aB hd.1 ++ ((hb.length : Int) :: hb.flatMap fun x => aB x.1) ++ ((ts.length : Int) :: ts.flatMap eB)) := by show _ = _; simp [cB, Cm.key, fsts_len8, fsts_flat8]
 have HB : Hid (base <= w.heap.size) := hB
 have HO : Hid (OwnB w base v l) := ho
 obtain ⟨⟨a1, n1, cap1, x1⟩, ⟨a2, cap2, x2⟩, ⟨a3, cap3, x3⟩, -, -⟩ := hk.shape
 simp only at x1 x2 x3
 obtain ⟨⟨⟨k, n, s⟩, nm, ls⟩, hv⟩ := hd
 simp only at x1
 subst x1 x2 x3
 clear hk hkB g1 g2 ho
 go_enter Tryz.func29, Tryz.ntmps29
 go_wp2_with (first
  | (go_at_call 63; refine (HP1.out _ (HO.out.later (below1 _ _)) (by simp; omega) ((below1 _ _).mono HB.out)).mono ?_; rintro e w1 ⟨v1, rfl, hw1⟩; have HW1 : Hid (Wr w base _ v1 w1) := Wr.ahead (below1 _ _) HB.out hw1; have hz1 := HW1.out.low.size; have HK1 : Hid (Blk w1 _ _ _) := (Blk.new w #[.int .i64 k, .int .i64 n, .string s, .string nm, .slice a1 n1 cap1, .slice a2 hb.length cap2, .slice a3 ts.length cap3] 58).k8 hw1.k8 (by decide); obtain ⟨c0, c1, c2, c3, c4, c5, c6⟩ := cseven HK1.out; clear hw1)
  | (go_at_call 64; refine (HP2.out _ _ HW1.out.own (by omega) HW1.out.low).mono ?_; rintro e w2 ⟨v2, rfl, hw2⟩; have HW2 : Hid (Wr w base _ v2 w2) := HW1.out.step hw2; have hz2 := HW2.out.low.size; have HK2 : Hid (Blk w2 _ _ _) := HK1.out.k8 hw2.k8 (by decide); clear c0 c1 c2 c3 c4 c5 c6; obtain ⟨c0, c1, c2, c3, c4, c5, c6⟩ := cseven HK2.out; clear hw2)
  | (go_at_call 65; refine (HP3.out _ _ HW2.out.own (by omega) HW2.out.low).mono ?_; rintro e w3 ⟨v3, rfl, hw3⟩))
 go_ret
 exact ⟨_, rfl, by rw [HE.out]; exact HW2.out.step hw3⟩
theorem chk_fit {c : Cm} (h : c.chk = 0) : (∀ a ∈ c.key.1 :: c.key.2.1, Fit a) /\ (∀ e ∈ c.key.2.2, FitE e) /\ c.key.2.1.length <= 8 /\ c.key.2.2.length <= 8 := by
 have h1 : long c = false := by
  cases e : long c
  ·rfl
  ·rw [chk_1 e] at h; cases h
 have h2 : aErr c.atoms = 0 := by
  by_cases e : aErr c.atoms = 0
  ·exact e
  ·rw [chk_2 h1 e] at h; exact absurd h e
 have h3 : badT c = false := by
  cases e : badT c
  ·rfl
  ·rw [chk_3 h1 h2 e] at h; cases h
 have hall := aErr_all h2
 unfold long at h1
 simp only [Bool.or_eq_false_iff, decide_eq_false_iff_not] at h1
 refine ⟨fun a ha => ?_, fun e he => ?_, by simp only [Cm.key, fsts_len8]; omega, by simp only [Cm.key]; omega⟩
 ·rcases List.mem_cons.1 ha with rfl | ha
  ·exact fit_of (hall c.head (by simp [Cm.atoms]))
  ·obtain ⟨x, hx, rfl⟩ := List.mem_map.1 ha
   exact fit_of (hall x (by simp [Cm.atoms, hx]))
 ·have := List.any_eq_false.1 h3 e he
  simp only [Bool.not_eq_true, Bool.not_eq_false'] at this
  unfold Te.ok at this
  simp only [Bool.and_eq_true, decide_eq_true_eq] at this
  exact ⟨this.1, knd_cov this.2.1, knd_cov this.2.2⟩
theorem cB_len {c : Cm} (h : c.chk = 0) : (cB c.key).length <= 20000 := by
 obtain ⟨g1, g2, g3, g4⟩ := chk_fit h
 have l1 := aB_len8 (g1 c.key.1 (by simp))
 have l2 := flat_len (f := aB) (l := c.key.2.1) (fun x hx => aB_len8 (g1 x (List.mem_cons_of_mem _ hx)))
 have l3 := flat_len (f := eB) (l := c.key.2.2) (fun x hx => eB_len (g2 x hx))
 unfold cB
 simp only [List.length_append, List.length_cons]
 omega
end Go.Proofs.YtnenadklmjcakaaGreatDoor
namespace Go.Proofs.YtnenadklmjcakaaGreatDoor
open Go.RowKit

def Ns (w : World) (v : Value) (h : List Int) : Prop := ∃ a cap, v = .slice a h.length cap /\ h.length < 1000000000000000000 /\ (h = [] ∨ ∃ b o, a = some ⟨b, o, none⟩ /\ b < w.heap.size /\ ∀ (i : Nat) (x : Int), h[i]? = some x -> w.cell? ⟨b, o + i, none⟩ = some (.int .i64 x))
theorem Ns.later {w w' : World} {v : Value} {l : List Int} (h : Ns w v l) (hb : Below w.heap.size w w') : Ns w' v l := by
 obtain ⟨a, cap, rfl, hl, h⟩ := h
 refine ⟨a, cap, rfl, hl, h.imp id ?_⟩
 rintro ⟨b, o, rfl, h2, h3⟩
 exact ⟨b, o, rfl, Nat.lt_of_lt_of_le h2 hb.size, fun i x hx => cell_step hb h2 (h3 i x hx)⟩
structure St where
 rule : Int
 vals : List Tm
 vv : Value
 uses : List Int
 uv : Value
abbrev St.cs (s : St) : Array Value := #[.int .i64 s.rule, s.vv, s.uv]
def St.csl (s : St) : List Value := s.cs.toList
structure St.ok (w : World) (s : St) : Prop where
 t : Ts w s.vv s.vals
 u : Ns w s.uv s.uses
theorem St.ok.later {w w' : World} {s : St} (h : s.ok w) (hb : Below w.heap.size w w') : s.ok w' := ⟨h.t.later hb, h.u.later hb⟩
theorem St.ok.shape {w : World} {s : St} (h : s.ok w) : (∃ a cap, s.vv = .slice a s.vals.length cap) /\ (∃ a cap, s.uv = .slice a s.uses.length cap) /\ s.vals.length < 1000000000000000000 /\ s.uses.length < 1000000000000000000 := by
 obtain ⟨⟨a, c, e, l, -⟩, ⟨a', c', e', l', -⟩⟩ := h
 exact ⟨⟨a, c, e⟩, ⟨a', c', e'⟩, l, l'⟩
def SRow (w : World) (b o : Nat) (l : List St) : Prop := b < w.heap.size /\ ∀ (i : Nat) (c : St), l[i]? = some c -> ∀ (k : Nat) (u : Value), c.csl[k]? = some u -> w.cell? ⟨b, o + i * 3 + k, none⟩ = some u
theorem SRow.later {w w' : World} {b o : Nat} {l : List St} (h : SRow w b o l) (hb : Below w.heap.size w w') : SRow w' b o l :=
 ⟨Nat.lt_of_lt_of_le h.1 hb.size, fun i c hc k u hu => by rw [hb.cell (p := ⟨b, _, none⟩) h.1]; exact h.2 i c hc k u hu⟩
structure SsP (w : World) (v : Value) (l : List St) : Prop where
 m : (v = .slice none 0 0 /\ l = []) ∨ ∃ ad cap, v = .slice (some ad) l.length cap /\ (l = [] ∨ ∃ b o, ad = ⟨b, o, none⟩ /\ SRow w b o l)
 ok : ∀ c ∈ l, c.ok w
theorem SsP.later {w w' : World} {v : Value} {l : List St} (h : SsP w v l) (hb : Below w.heap.size w w') : SsP w' v l := by
 refine ⟨?_, fun c hc => (h.ok c hc).later hb⟩
 rcases h.m with h | ⟨ad, cap, h1, h2⟩
 ·exact Or.inl h
 ·refine Or.inr ⟨ad, cap, h1, ?_⟩
  rcases h2 with h2 | ⟨b, o, h2, h3⟩
  ·exact Or.inl h2
  ·exact Or.inr ⟨b, o, h2, h3.later hb⟩
theorem SsP.form {w : World} {v : Value} {l : List St} (h : SsP w v l) : ∃ a cap, v = .slice a l.length cap := by
 rcases h.m with ⟨rfl, rfl⟩ | ⟨ad, cap, rfl, -⟩
 ·exact ⟨none, 0, rfl⟩
 ·exact ⟨_, cap, rfl⟩
theorem SRow.three {w : World} {b o j : Nat} {l : List St} {c : St} (h : SRow w b o l) (hc : l[j]? = some c) :
  w.cell? ⟨b, o + j * 3, none⟩ = some (.int .i64 c.rule) /\ w.cell? ⟨b, o + j * 3 + 1, none⟩ = some c.vv /\ w.cell? ⟨b, o + j * 3 + 2, none⟩ = some c.uv :=
 ⟨h.2 j c hc 0 _ rfl, h.2 j c hc 1 _ rfl, h.2 j c hc 2 _ rfl⟩
theorem SsP.at_ {w : World} {a : Option Addr} {n cap j : Nat} {l : List St} {s : St} (h : SsP w (.slice a n cap) l) (hj : l[j]? = some s) : ∃ b o, a = some ⟨b, o, none⟩ /\ b < w.heap.size /\ SRow w b o l /\ s.ok w := by
 have hne : l ≠ [] := fun e => by rw [e] at hj; simp at hj
 rcases h.m with ⟨-, e⟩ | ⟨ad, cap', e, e' | ⟨b, o, rfl, hr⟩⟩
 ·exact absurd e hne
 ·exact absurd e' hne
 ·simp only [Value.slice.injEq] at e
  exact ⟨b, o, e.1, hr.1, hr, h.ok s (List.mem_of_getElem? hj)⟩
theorem CsP.at_ {w : World} {a : Option Addr} {n cap j : Nat} {l : List Cm} {s : Cm} (h : CsP w (.slice a n cap) l) (hj : l[j]? = some s) : ∃ b o, a = some ⟨b, o, none⟩ /\ b < w.heap.size /\ CRow w b o l /\ s.ok w := by
 have hne : l ≠ [] := fun e => by rw [e] at hj; simp at hj
 rcases h.m with ⟨-, e⟩ | ⟨ad, cap', e, e' | ⟨b, o, rfl, hr⟩⟩
 ·exact absurd e hne
 ·exact absurd e' hne
 ·simp only [Value.slice.injEq] at e
  exact ⟨b, o, e.1, hr.1, hr, h.ok s (List.mem_of_getElem? hj)⟩
structure Kt (t : TypeId) (w w' : World) : Prop where
 size : w.heap.size <= w'.heap.size
 block : ∀ (k : Nat) (c : Array Value) (t' : TypeId) (fr : Nat × Nat), w.heap[k]? = some (.cells c t' fr) -> t' ≠ t -> w'.heap[k]? = some (.cells c t' fr)
theorem Kt.trans {t : TypeId} {a b c : World} (h : Kt t a b) (k : Kt t b c) : Kt t a c := ⟨Nat.le_trans h.size k.size, fun i d t' fr hi ht => k.block i d t' fr (h.block i d t' fr hi ht) ht⟩
theorem Kt.of {t : TypeId} {w w' : World} (h : Below w.heap.size w w') : Kt t w w' := ⟨h.size, fun k _ _ _ hk _ => (h.block k (Array.getElem?_eq_some_iff.1 hk).1).trans hk⟩
theorem row_kt {t e : TypeId} {w w' : World} {base n m : Nat} {v : Value} {xs : List Value} (h : w.ownsRow base e n v m xs) (hk : Kt t w w') (ht : e ≠ t) : w'.ownsRow base e n v m xs := by
 refine ⟨h.1, ?_⟩
 rcases h.2 with hn | ⟨g, cap, cur, hv, hbb, hg, rest⟩
 ·exact Or.inl hn
 ·exact Or.inr ⟨g, cap, cur, hv, hbb, hk.block _ _ _ _ hg ht, rest⟩
theorem row_agree {e : TypeId} {w w' : World} {base n m : Nat} {v : Value} {xs : List Value} (h : w.ownsRow base e n v m xs) (hb : ∀ k, v.ownBlock = some k -> w'.heap[k]? = w.heap[k]?) : w'.ownsRow base e n v m xs := by
 refine ⟨h.1, ?_⟩
 rcases h.2 with hn | ⟨g, cap, cur, rfl, hbb, hg, rest⟩
 ·exact Or.inl hn
 ·exact Or.inr ⟨g, cap, cur, rfl, hbb, (hb g rfl).trans hg, rest⟩
theorem row_grown {e : TypeId} {w w' : World} {base n m : Nat} {v : Value} {xs : List Value} (h : w.ownsRow base e n v m xs) (hg : w.grownBy w' v.ownBlock) : Kt e w w' := by
 refine ⟨hg.size, fun k c t fr hk ht => ?_⟩
 rw [hg.block k (Array.getElem?_eq_some_iff.1 hk).1 (fun e => ?_)]
 ·exact hk
 ·rcases h.2 with ⟨rfl, -⟩ | ⟨g, cap, cur, rfl, -, hgg, -⟩
  ·cases e
  ·cases e
   rw [hgg] at hk
   cases hk
   exact ht rfl
theorem row_block {e : TypeId} {w : World} {base n m k : Nat} {v : Value} {xs : List Value} (h : w.ownsRow base e n v m xs) (hk : v.ownBlock = some k) : base <= k /\ ∃ cur, w.heap[k]? = some (.cells cur e (0, 0)) := by
 rcases h.2 with ⟨rfl, -⟩ | ⟨g, cap, cur, rfl, hb, hgg, -⟩
 ·cases hk
 ·cases hk; exact ⟨hb, cur, hgg⟩
end Go.Proofs.YtnenadklmjcakaaGreatDoor
namespace Go.Proofs.YtnenadklmjcakaaGreatDoor
open Go.RowKit

theorem row_blM {e : TypeId} {g base n m : Nat} {w w' : World} {v : Value} {xs : List Value} (h : w.ownsRow base e n v m xs) (hb : Bv g w.heap.size w w') (hg : g < base) : w'.ownsRow base e n v m xs := by
 refine ⟨h.1, ?_⟩
 rcases h.2 with hn | ⟨k, cap, cur, hv, hbb, hk, rest⟩
 ·exact Or.inl hn
 ·exact Or.inr ⟨k, cap, cur, hv, hbb, (hb.block k (Array.getElem?_eq_some_iff.1 hk).1 (by omega)).trans hk, rest⟩
set_option maxRecDepth 20000 in
set_option maxHeartbeats 1000000 in
theorem count8_any (g : Nat) (l : List Int) (w : World) (h : RdS w g l) :
  Calls Tryz.prog 82 #[.pointer (some ⟨g, 0, none⟩)] w (RdP g w (fun n u _ => u = .int .i64 n /\ 0 <= n /\ n <= 4294967295) (rNum 4 l)) := by
 have hN := number_any 4 (by omega) g l w h
 rcases hr : rNum 4 l with c | ⟨n, r⟩
 ·have HN : Hid (Calls Tryz.prog 121 #[.pointer (some ⟨g, 0, none⟩), .int .i64 4] w fun e w' => e = .panicked [pE c] /\ Bv g w.heap.size w w') := RdP.err hN hr
  clear hN h
  go_enter Tryz.func82, Tryz.ntmps82
  go_wp2_with (go_at_call 121; refine HN.out.mono ?_; rintro e w1 ⟨rfl, hb⟩)
  exact ⟨rfl, hb, rfl⟩
 ·have HN : Hid (Calls Tryz.prog 121 #[.pointer (some ⟨g, 0, none⟩), .int .i64 4] w fun e w' => ∃ v, e = .returned v /\ (v = .int .u64 n /\ 0 <= n /\ n < (256 : Int) ^ 4) /\ RdS w' g r /\ Bv g w.heap.size w w') := RdP.ok hN hr
  clear hN h
  go_enter Tryz.func82, Tryz.ntmps82
  go_wp2_with (go_at_call 121; refine HN.out.mono ?_; rintro e w1 ⟨v1, rfl, ⟨rfl, h0, h1⟩, hs, hb⟩; rw [show ((256 : Int) ^ 4) = 4294967296 by decide] at h1; have e1 : wrap64 n = n := (by unfold wrap64; omega))
  go_ret
  refine ⟨hb, _, rfl, ⟨?_, h0, by omega⟩, hs⟩
  first
   | rfl
   | rw [e1]
end Go.Proofs.YtnenadklmjcakaaGreatDoor
namespace Go.Proofs.YtnenadklmjcakaaGreatDoor
open Go.RowKit

theorem row_mono9 {e : TypeId} {w : World} {b b' n m : Nat} {v : Value} {xs : List Value} (h : w.ownsRow b e n v m xs) (hb : b' <= b) : w.ownsRow b' e n v m xs := by
 refine ⟨h.1, ?_⟩
 rcases h.2 with hn | ⟨g, cap, cur, hv, hbb, hg, rest⟩
 ·exact Or.inl hn
 ·exact Or.inr ⟨g, cap, cur, hv, Nat.le_trans hb hbb, hg, rest⟩
end Go.Proofs.YtnenadklmjcakaaGreatDoor
namespace Go.Proofs.YtnenadklmjcakaaGreatDoor
open Go.RowKit

theorem MC8.kt {t : TypeId} {B : Nat} {X X' : World} {d : Cm} (h : MC8 B X d) (hk : Kt t X X') (h1 : 52 ≠ t) (h2 : 54 ≠ t) (h3 : 94 ≠ t) : MC8 B X' d :=
 ⟨row_kt h.h hk h1, ⟨row_kt h.b.1 hk h2, fun y hy => row_kt (h.b.2 y hy) hk h1⟩, row_kt h.t hk h3⟩
structure OCL (X : World) (B : Nat) (v : Value) (l : List Cm) : Prop where
 o : OwnC X B v l
 m : ∀ c ∈ l, MC8 B X c /\ GC c.key
theorem OCL.nil (X : World) (B : Nat) : OCL X B (.slice none 0 0) [] := ⟨OwnC.nil _ _, fun c hc => by cases hc⟩
theorem OCL.blM {g B : Nat} {X X' : World} {v : Value} {l : List Cm} (h : OCL X B v l) (hb : Bv g X.heap.size X X') (hg : g < B) : OCL X' B v l := ⟨row_blM h.o hb hg, fun c hc => ⟨(h.m c hc).1.blM hb hg, (h.m c hc).2⟩⟩
theorem OCL.add {B : Nat} {X X' : World} {v v' : Value} {l : List Cm} {c : Cm} (h : OCL X B v l) (ho : OwnC X' B v' (l ++ [c])) (hk : Kt 58 X X') (hc : MC8 B X c /\ GC c.key) : OCL X' B v' (l ++ [c]) :=
 ⟨ho, fun d hd => by
  rcases List.mem_append.1 hd with hd | hd
  ·exact ⟨(h.m d hd).1.kt hk (by decide) (by decide) (by decide), (h.m d hd).2⟩
  ·rw [List.mem_singleton] at hd; subst hd; exact ⟨hc.1.kt hk (by decide) (by decide) (by decide), hc.2⟩⟩
end Go.Proofs.YtnenadklmjcakaaGreatDoor
namespace Go.Proofs.YtnenadklmjcakaaGreatDoor
open Go.RowKit

theorem OCL.mono {B B' : Nat} {X : World} {v : Value} {l : List Cm} (h : OCL X B v l) (hb : B' <= B) : OCL X B' v l := ⟨row_mono9 h.o hb, fun c hc => ⟨(h.m c hc).1.mono hb, (h.m c hc).2⟩⟩
end Go.Proofs.YtnenadklmjcakaaGreatDoor
namespace Go.Proofs.YtnenadklmjcakaaGreatDoor
open Go.RowKit

def cBm (c : Cm) : List Int := cB c.key
theorem flat_pre {α β : Type} {f : α -> List β} : ∀ {l : List α} {j : Nat} {x : α}, l[j]? = some x -> ((l.take j).flatMap f).length + (f x).length <= (l.flatMap f).length
 | [], j, x, h => by simp at h
 | a :: l, 0, x, h => by
  simp at h; subst h
  simp
 | a :: l, j + 1, x, h => by
  rw [List.getElem?_cons_succ] at h
  have := flat_pre (f := f) h
  simp only [List.take_succ_cons, List.flatMap_cons, List.length_append]
  omega
set_option maxRecDepth 20000 in
set_option maxHeartbeats 600000 in
theorem putClauses_any (m : List Cm) (hm : ∀ t ∈ m, t.chk = 0) (hn : m.length <= 1000000000000) (y : Value) (v : Value) (l : List Int) (base : Nat) (w : World) (h : OwnB w base v l) (hl : l.length + (m.flatMap cBm).length <= 100000000000) (hB : base <= w.heap.size) (hy : CsP w y m) (hyB : ∀ X, Below base w X -> CsP X y m) :
  Calls Tryz.prog 28 #[v, .int .i64 4, y, .func (.func 29) #[] #[]] w fun e w' => ∃ v', e = .returned v' /\ Wr w base (l ++ (be 4 (m.length : Int) ++ m.flatMap cBm)) v' w' := by
 have HN : Hid (Calls Tryz.prog 62 #[v, .int .i64 4, .int .u64 (m.length : Int)] w fun e w' => ∃ v', e = .returned v' /\ Wr w base (l ++ be 4 (m.length : Int)) v' w') := putNumber_any 4 (by omega) (m.length : Int) v l base w h (by omega) hB
 have HY : Hid (∀ X, Below base w X -> CsP X y m) := hyB
 have HM : Hid (∀ t ∈ m, t.chk = 0) := hm
 have HB : Hid (base <= w.heap.size) := hB
 have HL : Hid (l.length + (m.flatMap cBm).length <= 100000000000) := hl
 have e1 : (m.length : Int) % 18446744073709551616 = (m.length : Int) := by omega
 obtain ⟨ad, cap, rfl⟩ : ∃ ad cap, y = .slice ad m.length cap := hy.form
 clear h hyB hm hy hl
 go_enter Tryz.func28, Tryz.ntmps28
 go_wp2_with (go_at_call 62; refine HN.out.mono ?_; rintro e w1 ⟨v1, rfl, hw⟩; have HW : Hid (Wr w base (l ++ be 4 (m.length : Int)) v1 w1) := hw; clear hw)
 clear e1
 go_loopg [0, 19] m.length (fun g u i wr => ∃ j : Nat, j + g = m.length /\ i = .int .i64 j /\ Wr w base (l ++ be 4 (m.length : Int) ++ (m.take j).flatMap cBm) u wr)
 case atStart => exact ⟨0, by omega, rfl, by rw [List.take_zero, List.flatMap_nil, List.append_nil]; exact HW.out⟩
 case round =>
  obtain ⟨j, hj, rfl, hw⟩ := hrel
  have HWr : Hid (Wr w base (l ++ be 4 (m.length : Int) ++ (m.take j).flatMap cBm) u0 wr) := hw
  have hsz := hw.low.size
  clear hw
  cases gk with
  | succ g =>
   have hlt : j < m.length := by omega
   obtain ⟨t, ht⟩ : ∃ t, m[j]? = some t := ⟨_, List.getElem?_eq_getElem hlt⟩
   have htm := List.mem_of_getElem? ht
   have HS : Hid ((m.take (j + 1)).flatMap cBm = (m.take j).flatMap cBm ++ cBm t) := flat_succ ht
   have hlen : (l ++ be 4 (m.length : Int) ++ (m.take j).flatMap cBm).length + (cBm t).length <= 100000000010 := by
    have h1 := flat_pre (f := cBm) ht
    have h2 := HL.out
    rw [List.length_append, List.length_append, be_len]; omega
   have HPT : Hid (∀ (v1 : Value) (X : World), OwnB X base v1 (l ++ be 4 (m.length : Int) ++ (m.take j).flatMap cBm) -> base <= X.heap.size -> Below base w X -> Calls Tryz.prog 29 #[v1, t.v] X fun e w' => ∃ v', e = .returned v' /\ Wr X base (l ++ be 4 (m.length : Int) ++ (m.take j).flatMap cBm ++ cBm t) v' w') := fun v1 X h1 h3 hX => putClause_any t v1 _ (chk_fit (HM.out t htm)) base X h1 (by omega) h3 ((HY.out X hX).ok t htm) (fun Y hY => (HY.out Y (hX.trans hY)).ok t htm)
   obtain ⟨b, o, rfl, hbs, hr, hok⟩ := (HY.out _ HWr.out.low).at_ ht
   obtain ⟨c0, c1, c2, c3, c4, c5, c6⟩ := hr.seven ht
   obtain ⟨⟨a1, n1, cap1, x1⟩, ⟨a2, cap2, x2⟩, ⟨a3, cap3, x3⟩, -, -⟩ := hok.shape
   obtain ⟨⟨⟨⟨tk, tn, ts⟩, tm, tl⟩, tv⟩, tb, tbv, tt, ttv⟩ := t
   simp only at c0 c1 c2 c3 c4 c5 c6 x1 x2 x3
   subst x1 x2 x3
   clear hr hok
   clear ht htm hlen
   have i1 : (0 : Int) <= (j : Int) := by omega
   have i2 : (j : Int) < (m.length : Int) := by omega
   go_wp2_with (go_at_call 29; refine (HPT.out _ _ (HWr.out.own.later (below1 _ _)) (by simp; omega) (HWr.out.low.trans ((below1 _ _).mono (by omega)))).mono ?_; rintro e w2 ⟨v2, rfl, hw2⟩)
   go_roundg g
   case measure => omega
   case rel =>
    refine ⟨j + 1, by omega, by go_num, ?_⟩
    rw [HS.out, <- List.append_assoc]
    exact HWr.out.step (Wr.ahead (below1 _ _) (by omega) hw2)
  | zero =>
   obtain rfl : j = m.length := by omega
   have hz : ¬ ((m.length : Int) < (m.length : Int)) := by omega
   go_wp2
   go_ret
   refine ⟨_, rfl, ?_⟩
   have := HWr.out
   rwa [List.take_length, List.append_assoc] at this
end Go.Proofs.YtnenadklmjcakaaGreatDoor

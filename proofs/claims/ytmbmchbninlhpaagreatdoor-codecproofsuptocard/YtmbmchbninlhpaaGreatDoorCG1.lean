import Derived.Test.YtmbmchbninlhpaaGreatDoorCD2
import Derived.Test.YtmbmchbninlhpaaGreatDoorMD5
import Derived.Test.YtmbmchbninlhpaaGreatDoorMD2
import Derived.Test.YtmbmchbninlhpaaGreatDoorT4
namespace Go.Proofs.YtmbmchbninlhpaaGreatDoor
open Go.RowKit

set_option maxRecDepth 20000 in
set_option maxHeartbeats 2000000 in
theorem putTerm_any (t : Tm) (ht : knd t) (v : Value) (l : List Int) (base : Nat) (w : World) (h : OwnB w base v l) (hl : l.length <= 700000000000) (hB : base <= w.heap.size) :
  Calls Tryz.prog 64 #[v, t.v] w fun e w' => ∃ v', e = .returned v' /\ Wr w base (l ++ tB t) v' w' := by
 obtain ⟨k, n, s⟩ := t
 obtain ⟨hk, hs⟩ := ht
 simp only at hk hs
 have HO : Hid (OwnB w base v l) := h
 have HB : Hid (base <= w.heap.size) := hB
 clear h
 have HPI : Hid (∀ (v1 : Value) (m : List Int) (X : World), OwnB X base v1 m -> m.length <= 900000000000 -> base <= X.heap.size -> Calls Tryz.prog 62 #[v1, .int .i64 n] X fun e w' => ∃ v', e = .returned v' /\ Wr X base (m ++ be 8 (n % 18446744073709551616)) v' w') := fun v1 m X h1 h2 h3 => putInt_any n v1 m base X h1 h2 h3
 have HPT : Hid (∀ (v1 : Value) (m : List Int) (X : World), OwnB X base v1 m -> m.length <= 800000000000 -> base <= X.heap.size -> Calls Tryz.prog 108 #[v1, .string s] X fun e w' => ∃ v', e = .returned v' /\ Wr X base (m ++ sB s) v' w') := fun v1 m X h1 h2 h3 => putText_any s (by omega) v1 m base X h1 h2 h3
 have hl1 : ∀ x : Int, (l ++ [x]).length <= 700000010000 := fun x => by simp; omega
 rcases hk with rfl | rfl | rfl | rfl
 ·have HE : Hid (l ++ tB ⟨0, n, s⟩ = l ++ [0]) := by show _ = _; simp [tB]
  go_enter Tryz.func64, Tryz.ntmps64
  go_wp2_with (at_builtin; refine app8 rfl _ _ rfl base v l rfl (HO.out.later (below2 _ _ _)) (w.heap.size + 1) [0] rfl (Blk.new2 _ _ _ _) (by simp) (by simp only [List.length_cons, List.length_nil]; omega) (by simp; omega) ?_; intro v1 w1 ho1; have HW1 : Hid (Wr _ base (l ++ [0]) v1 w1) := ho1; obtain ⟨c0, c1, c2, -, -, -⟩ := three ((Blk.old w #[.int .i64 0, .int .i64 n, .string s] 56 _).k8 ho1.k8 (by decide)); clear ho1)
  go_ret
  exact ⟨_, rfl, by rw [HE.out]; exact Wr.ahead (below2 _ _ _) HB.out HW1.out⟩
 ·have HE : Hid (l ++ tB ⟨1, n, s⟩ = l ++ [1] ++ be 8 (n % 18446744073709551616)) := by show _ = _; simp [tB]
  go_enter Tryz.func64, Tryz.ntmps64
  go_wp2_with (first
   | (at_builtin; refine app8 rfl _ _ rfl base v l rfl (HO.out.later (below2 _ _ _)) (w.heap.size + 1) [1] rfl (Blk.new2 _ _ _ _) (by simp) (by simp only [List.length_cons, List.length_nil]; omega) (by simp; omega) ?_; intro v1 w1 ho1; have HW1 : Hid (Wr _ base (l ++ [1]) v1 w1) := ho1; have hz1 : w.heap.size + 2 <= w1.heap.size := (by have := ho1.low.size; simpa using this); obtain ⟨c0, c1, c2, -, -, -⟩ := three ((Blk.old w #[.int .i64 1, .int .i64 n, .string s] 56 _).k8 ho1.k8 (by decide)); clear ho1)
   | (go_at_call 62; refine (HPI.out v1 _ _ HW1.out.own (by have := hl1 1; omega) (by omega)).mono ?_; rintro e w2 ⟨v2, rfl, hw2⟩))
  go_ret
  exact ⟨_, rfl, by rw [HE.out]; exact Wr.ahead (below2 _ _ _) HB.out (HW1.out.step hw2)⟩
 ·have HE : Hid (l ++ tB ⟨2, n, s⟩ = l ++ [2] ++ sB s) := by show _ = _; simp [tB]
  go_enter Tryz.func64, Tryz.ntmps64
  go_wp2_with (first
   | (at_builtin; refine app8 rfl _ _ rfl base v l rfl (HO.out.later (below2 _ _ _)) (w.heap.size + 1) [2] rfl (Blk.new2 _ _ _ _) (by simp) (by simp only [List.length_cons, List.length_nil]; omega) (by simp; omega) ?_; intro v1 w1 ho1; have HW1 : Hid (Wr _ base (l ++ [2]) v1 w1) := ho1; have hz1 : w.heap.size + 2 <= w1.heap.size := (by have := ho1.low.size; simpa using this); obtain ⟨c0, c1, c2, -, -, -⟩ := three ((Blk.old w #[.int .i64 2, .int .i64 n, .string s] 56 _).k8 ho1.k8 (by decide)); clear ho1)
   | (go_at_call 108; refine (HPT.out v1 _ _ HW1.out.own (by have := hl1 2; omega) (by omega)).mono ?_; rintro e w2 ⟨v2, rfl, hw2⟩))
  go_ret
  exact ⟨_, rfl, by rw [HE.out]; exact Wr.ahead (below2 _ _ _) HB.out (HW1.out.step hw2)⟩
 ·have HE : Hid (l ++ tB ⟨3, n, s⟩ = l ++ [3] ++ be 8 (n % 18446744073709551616)) := by show _ = _; simp [tB]
  go_enter Tryz.func64, Tryz.ntmps64
  go_wp2_with (first
   | (at_builtin; refine app8 rfl _ _ rfl base v l rfl (HO.out.later (below2 _ _ _)) (w.heap.size + 1) [3] rfl (Blk.new2 _ _ _ _) (by simp) (by simp only [List.length_cons, List.length_nil]; omega) (by simp; omega) ?_; intro v1 w1 ho1; have HW1 : Hid (Wr _ base (l ++ [3]) v1 w1) := ho1; have hz1 : w.heap.size + 2 <= w1.heap.size := (by have := ho1.low.size; simpa using this); obtain ⟨c0, c1, c2, -, -, -⟩ := three ((Blk.old w #[.int .i64 3, .int .i64 n, .string s] 56 _).k8 ho1.k8 (by decide)); clear ho1)
   | (go_at_call 62; refine (HPI.out v1 _ _ HW1.out.own (by have := hl1 3; omega) (by omega)).mono ?_; rintro e w2 ⟨v2, rfl, hw2⟩))
  go_ret
  exact ⟨_, rfl, by rw [HE.out]; exact Wr.ahead (below2 _ _ _) HB.out (HW1.out.step hw2)⟩
def tBs (l : List Tm) (j : Nat) : List Int := (l.take j).flatMap tB
theorem tBs_succ {l : List Tm} {j : Nat} {t : Tm} (h : l[j]? = some t) : tBs l (j + 1) = tBs l j ++ tB t := by
 unfold tBs; rw [List.take_add_one, h]; simp
theorem tBs_len {l : List Tm} (hl : ∀ t ∈ l, knd t) (j : Nat) : (tBs l j).length <= j * 73 := by
 induction j with
 | zero => simp [tBs]
 | succ j ih =>
  cases h : l[j]? with
  | none => unfold tBs at ih ⊢; rw [List.take_add_one, h]; simp at ih ⊢; omega
  | some t =>
   rw [tBs_succ h, List.length_append]
   have := (tB_len t).2
   have := (hl t (List.mem_of_getElem? h)).2
   omega
set_option maxRecDepth 20000 in
set_option maxHeartbeats 2000000 in
theorem putTerms_any (m : List Tm) (hm : ∀ t ∈ m, knd t) (hn : m.length <= 255) (y : Value) (v : Value) (l : List Int) (base : Nat) (w : World) (h : OwnB w base v l) (hl : l.length <= 600000000000) (hB : base <= w.heap.size) (hy : Ts w y m) (hyB : ∀ X, Below base w X -> Ts X y m) :
  Calls Tryz.prog 63 #[v, .int .i64 1, y, .func (.func 64) #[] #[]] w fun e w' => ∃ v', e = .returned v' /\ Wr w base (l ++ ((m.length : Int) :: m.flatMap tB)) v' w' := by
 have HN : Hid (Calls Tryz.prog 57 #[v, .int .i64 1, .int .u64 (m.length : Int)] w fun e w' => ∃ v', e = .returned v' /\ Wr w base (l ++ [(m.length : Int)]) v' w') := by
  have := putNumber_any 1 (by omega) (m.length : Int) v l base w h (by omega) hB
  rw [be_one _ (by omega) (by omega)] at this
  exact this
 have HY : Hid (∀ X, Below base w X -> Ts X y m) := hyB
 have HM : Hid (∀ t ∈ m, knd t) := hm
 have HB : Hid (base <= w.heap.size) := hB
 obtain ⟨ad, cap, rfl, -, -⟩ := hy
 clear h hyB hm
 go_enter Tryz.func63, Tryz.ntmps63
 go_wp2_with (go_at_call 57; refine HN.out.mono ?_; rintro e w1 ⟨v1, rfl, hw⟩; have HW : Hid (Wr w base (l ++ [(m.length : Int)]) v1 w1) := hw; clear hw)
 go_loopg [0, 19] m.length (fun g u i wr => ∃ j : Nat, j + g = m.length /\ i = .int .i64 j /\ Wr w base (l ++ [(m.length : Int)] ++ tBs m j) u wr)
 case atStart => exact ⟨0, by omega, rfl, by rw [show tBs m 0 = [] from rfl, List.append_nil]; exact HW.out⟩
 case round =>
  obtain ⟨j, hj, rfl, hw⟩ := hrel
  have HWr : Hid (Wr w base (l ++ [(m.length : Int)] ++ tBs m j) u0 wr) := hw
  have hsz := hw.low.size
  clear hw
  cases gk with
  | succ g =>
   have hlt : j < m.length := by omega
   obtain ⟨t, ht⟩ : ∃ t, m[j]? = some t := ⟨_, List.getElem?_eq_getElem hlt⟩
   obtain ⟨ad', cap', hx, -, hxx⟩ := HY.out _ HWr.out.low
   simp only [Value.slice.injEq] at hx
   obtain ⟨rfl, -, rfl⟩ := hx
   rcases hxx with hxx | ⟨b, o, rfl, hbs, hxx⟩
   ·subst hxx; simp at hlt
   ·obtain ⟨c0, c1, c2⟩ := hxx j _ ht
    have hlen : (l ++ [(m.length : Int)] ++ tBs m j).length <= 601000000000 := by
     have := tBs_len HM.out j
     simp only [List.length_append, List.length_cons, List.length_nil]; omega
    have HT : Hid (m[j]? = some t) := ht
    have HPT : Hid (∀ (v1 : Value) (X : World), OwnB X base v1 (l ++ [(m.length : Int)] ++ tBs m j) -> base <= X.heap.size -> Calls Tryz.prog 64 #[v1, t.v] X fun e w' => ∃ v', e = .returned v' /\ Wr X base (l ++ [(m.length : Int)] ++ tBs m j ++ tB t) v' w') := fun v1 X h1 h3 => putTerm_any t (HM.out t (List.mem_of_getElem? ht)) v1 _ base X h1 (by omega) h3
    obtain ⟨tk, tn, ts⟩ := t
    simp only at c0 c1 c2
    clear hxx ht
    have i1 : (0 : Int) <= (j : Int) := by omega
    have i2 : (j : Int) < (m.length : Int) := by omega
    go_wp2_with (go_at_call 64; refine (HPT.out _ _ (HWr.out.own.later (below1 _ _)) (by simp; omega)).mono ?_; rintro e w2 ⟨v2, rfl, hw2⟩)
    go_roundg g
    case measure => omega
    case rel =>
     refine ⟨j + 1, by omega, by go_num, ?_⟩
     rw [tBs_succ HT.out, <- List.append_assoc]
     exact HWr.out.step (Wr.ahead (below1 _ _) (by omega) hw2)
  | zero =>
   obtain rfl : j = m.length := by omega
   have hz : ¬ ((m.length : Int) < (m.length : Int)) := by omega
   go_wp2
   go_ret
   refine ⟨_, rfl, ?_⟩
   have := HWr.out
   unfold tBs at this
   rwa [List.take_length, List.append_assoc] at this
set_option maxRecDepth 20000 in
set_option maxHeartbeats 2000000 in
theorem wAtom_any (a : At) (ha : Fit a) (y : Value) (v : Value) (l : List Int) (base : Nat) (w : World) (h : OwnB w base v l) (hl : l.length <= 500000000000) (hB : base <= w.heap.size) (hy : Ts w y a.args) (hyB : ∀ X, Below base w X -> Ts X y a.args) :
  Calls Tryz.prog 58 #[v, a.v y] w fun e w' => ∃ v', e = .returned v' /\ Wr w base (l ++ aB a) v' w' := by
 obtain ⟨t, nm, m⟩ := a
 obtain ⟨f1, f2, f3, f4⟩ := ha
 simp only at f1 f2 f3 f4 hy hyB
 have HP1 : Hid (∀ (v1 : Value) (X : World), OwnB X base v1 l -> base <= X.heap.size -> Calls Tryz.prog 64 #[v1, t.v] X fun e w' => ∃ v', e = .returned v' /\ Wr X base (l ++ tB t) v' w') := fun v1 X h1 h3 => putTerm_any t f1 v1 _ base X h1 (by omega) h3
 have hl1 : (l ++ tB t).length <= 500001000000 := by have := (tB_len t).2; have := f1.2; rw [List.length_append]; omega
 have hl2 : (l ++ tB t ++ sB nm).length <= 500002000000 := by rw [List.length_append]; simp only [sB, List.length_cons, bl_len]; omega
 have HP2 : Hid (∀ (v1 : Value) (X : World), OwnB X base v1 (l ++ tB t) -> base <= X.heap.size -> Calls Tryz.prog 108 #[v1, .string nm] X fun e w' => ∃ v', e = .returned v' /\ Wr X base (l ++ tB t ++ sB nm) v' w') := fun v1 X h1 h3 => putText_any nm (by omega) v1 _ base X h1 (by omega) h3
 have HP3 : Hid (∀ (v1 : Value) (X : World), OwnB X base v1 (l ++ tB t ++ sB nm) -> base <= X.heap.size -> Below base w X -> Calls Tryz.prog 63 #[v1, .int .i64 1, y, .func (.func 64) #[] #[]] X fun e w' => ∃ v', e = .returned v' /\ Wr X base (l ++ tB t ++ sB nm ++ ((m.length : Int) :: m.flatMap tB)) v' w') := fun v1 X h1 h3 h4 => putTerms_any m f4 (by omega) y v1 _ base X h1 (by omega) h3 (hyB X h4) (fun Y hY => hyB Y (h4.trans hY))
 have HE : Hid (l ++ aB ⟨t, nm, m⟩ = l ++ tB t ++ sB nm ++ ((m.length : Int) :: m.flatMap tB)) := by show _ = _; simp [aB, List.append_assoc]
 have HO : Hid (OwnB w base v l) := h
 have HB : Hid (base <= w.heap.size) := hB
 obtain ⟨ad, cap, rfl, -, -⟩ := hy
 clear h hyB f1 f2 f3 f4
 obtain ⟨k, n, s⟩ := t
 go_enter Tryz.func58, Tryz.ntmps58
 go_wp2_with (first
  | (go_at_call 64; refine (HP1.out _ _ (HO.out.later (below1 _ _)) (by simp; omega)).mono ?_; rintro e w1 ⟨v1, rfl, hw1⟩; have HW1 : Hid (Wr w base _ v1 w1) := Wr.ahead (below1 _ _) HB.out hw1; have B1 := (Blk.new w #[.int .i64 k, .int .i64 n, .string s, .string nm, .slice ad m.length cap] 58).k8 hw1.k8 (by decide); have HB1 : Hid (Blk _ _ _ _) := B1; obtain ⟨p0, p1, p2, p3, p4⟩ := five B1; have hz1 := HW1.out.low.size; clear hw1 B1)
  | (go_at_call 108; refine (HP2.out _ _ HW1.out.own (by omega)).mono ?_; rintro e w2 ⟨v2, rfl, hw2⟩; have HW2 : Hid (Wr w base _ v2 w2) := HW1.out.step hw2; have B2 := HB1.out.k8 hw2.k8 (by decide); clear p0 p1 p2 p3 p4; obtain ⟨p0, p1, p2, p3, p4⟩ := five B2; have hz2 := HW2.out.low.size; clear hw2 B2)
  | (go_at_call 63; refine (HP3.out _ _ HW2.out.own (by omega) HW2.out.low).mono ?_; rintro e w3 ⟨v3, rfl, hw3⟩))
 go_ret
 exact ⟨_, rfl, by rw [HE.out]; exact HW2.out.step hw3⟩
theorem name_size {s : ByteArray} (h : nameOk s = true) : s.size <= 64 := by
 unfold nameOk nameHead at h
 simp only [Bool.and_eq_true, decide_eq_true_eq] at h
 omega
theorem fit_of {a : At} (h : a.err = 0) : Fit a := by
 unfold At.err at h
 split at h
 ·cases h
 ·rename_i h1
  split at h
  ·cases h
  ·rename_i h2
   split at h
   ·cases h
   ·rename_i h3
    split at h
    ·rename_i h4
     exact ⟨knd_qual (by simpa using h3), name_size (by simpa using h1), by omega, fun t ht => knd_cov (List.all_eq_true.1 h4 t ht)⟩
    ·cases h
set_option maxRecDepth 20000 in
set_option maxHeartbeats 2000000 in
theorem atomW_ok (a : At) (y : Value) (w : World) (hy : Ts w y a.args) (he : a.err = 0) :
  Calls Tryz.prog 45 #[a.v y] w fun e w' => ∃ v, e = .returned (.tuple #[v, .int .i64 0]) /\ OwnB w' w.heap.size v (aB a) /\ Below w.heap.size w w' := by
 have HC : Hid (∀ X, Below w.heap.size w X -> Calls Tryz.prog 90 #[a.v y] X fun e w' => e = .returned (.int .i64 0) /\ Below X.heap.size X w') := fun X hX => by rw [<- he]; exact chk_any a y X (hy.later hX)
 have HP : Hid (∀ X : World, Below w.heap.size w X -> Calls Tryz.prog 58 #[.slice none 0 0, a.v y] X fun e w' => ∃ v', e = .returned v' /\ Wr X w.heap.size ([] ++ aB a) v' w') := fun X hX => wAtom_any a (fit_of he) y _ [] w.heap.size X (ownB_nil _ _) (by simp) hX.size (hy.later hX) (fun Y hY => hy.later (hX.trans hY))
 obtain ⟨ad, cap, rfl, -, -⟩ := hy
 obtain ⟨⟨k, n, s⟩, nm, m⟩ := a
 clear he
 go_enter Tryz.func45, Tryz.ntmps45
 go_wp2_with (first
  | (go_at_call 90; refine (HC.out _ (below1 _ _)).mono ?_; rintro e w1 ⟨rfl, hb1⟩; obtain ⟨p0, p1, p2, p3, p4⟩ := five ((Blk.new w #[.int .i64 k, .int .i64 n, .string s, .string nm, .slice ad m.length cap] 58).later hb1); have HB1 : Hid (Below w.heap.size w w1) := below_step (below1 _ _) hb1; clear hb1)
  | (go_at_call 58; refine (HP.out _ HB1.out).mono ?_; rintro e w2 ⟨v2, rfl, hw2⟩))
 refine bodyPost_ret (v := .tuple #[v2, .int .i64 0]) (by simp [results, Tryz.results45, go_sem]) rfl ⟨v2, rfl, ?_, HB1.out.trans hw2.low⟩
 have := hw2.own
 rwa [List.nil_append] at this
end Go.Proofs.YtmbmchbninlhpaaGreatDoor
namespace Go.Proofs.YtmbmchbninlhpaaGreatDoor
open Go.RowKit

def eB (e : Te) : List Int := e.op :: (tB e.l ++ tB e.r)
def cB (x : Ck) : List Int := aB x.1 ++ (((x.2.1.length : Int) :: x.2.1.flatMap aB) ++ ((x.2.2.length : Int) :: x.2.2.flatMap eB))
structure FitE (e : Te) : Prop where
 op : 1 <= e.op /\ e.op <= 4
 l : knd e.l
 r : knd e.r
theorem aB_len8 {a : At} (h : Fit a) : (aB a).length <= 1000 := by
 have h1 := (tB_len a.by_).2
 have h2 := h.by_.2
 have h3 := tBs_len h.args a.args.length
 unfold tBs at h3
 rw [List.take_length] at h3
 have h4 := h.nm
 have h5 := h.len
 unfold aB sB
 simp only [List.length_append, List.length_cons, bl_len]
 omega
theorem eB_len {e : Te} (h : FitE e) : (eB e).length <= 1000 := by
 have h1 := (tB_len e.l).2
 have h2 := h.l.2
 have h3 := (tB_len e.r).2
 have h4 := h.r.2
 unfold eB
 simp only [List.length_append, List.length_cons]
 omega
theorem flat_len {α : Type} {f : α -> List Int} : ∀ {l : List α}, (∀ x ∈ l, (f x).length <= 1000) -> (l.flatMap f).length <= l.length * 1000
 | [], _ => by simp
 | x :: l, h => by
  have h1 := h x (by simp)
  have h2 := flat_len (l := l) (fun y hy => h y (by simp [hy]))
  simp only [List.flatMap_cons, List.length_append, List.length_cons]
  omega
theorem flat_succ {α β : Type} {f : α -> List β} {l : List α} {j : Nat} {x : α} (h : l[j]? = some x) : (l.take (j + 1)).flatMap f = (l.take j).flatMap f ++ f x := by
 rw [List.take_add_one, h]; simp
set_option maxRecDepth 20000 in
set_option maxHeartbeats 2000000 in
theorem putTest_any (e : Te) (he : FitE e) (v : Value) (l : List Int) (base : Nat) (w : World) (h : OwnB w base v l) (hl : l.length <= 600000000000) (hB : base <= w.heap.size) :
  Calls Tryz.prog 61 #[v, .agg #[.int .i64 e.op, .int .i64 e.l.k, .int .i64 e.l.n, .string e.l.s, .int .i64 e.r.k, .int .i64 e.r.n, .string e.r.s]] w fun e' w' => ∃ v', e' = .returned v' /\ Wr w base (l ++ eB e) v' w' := by
 obtain ⟨op, x, y⟩ := e
 obtain ⟨⟨h1, h4⟩, f1, f2⟩ := he
 simp only at h1 h4 f1 f2
 have hm : op % 256 = op := by omega
 have hl1 : (l ++ [op]).length <= 600000010000 := by simp; omega
 have hl2 : (l ++ [op] ++ tB x).length <= 600001000000 := by have := (tB_len x).2; have := f1.2; rw [List.length_append]; omega
 have HP1 : Hid (∀ (v1 : Value) (X : World), OwnB X base v1 (l ++ [op]) -> base <= X.heap.size -> Calls Tryz.prog 64 #[v1, x.v] X fun e w' => ∃ v', e = .returned v' /\ Wr X base (l ++ [op] ++ tB x) v' w') := fun v1 X h1 h3 => putTerm_any x f1 v1 _ base X h1 (by omega) h3
 have HP2 : Hid (∀ (v1 : Value) (X : World), OwnB X base v1 (l ++ [op] ++ tB x) -> base <= X.heap.size -> Calls Tryz.prog 64 #[v1, y.v] X fun e w' => ∃ v', e = .returned v' /\ Wr X base (l ++ [op] ++ tB x ++ tB y) v' w') := fun v1 X h1 h3 => putTerm_any y f2 v1 _ base X h1 (by omega) h3
 have HE : Hid (l ++ eB ⟨op, x, y⟩ = l ++ [op] ++ tB x ++ tB y) := by show _ = _; simp [eB]
 have HO : Hid (OwnB w base v l) := h
 have HB : Hid (base <= w.heap.size) := hB
 clear h f1 f2
 obtain ⟨xk, xn, xs⟩ := x
 obtain ⟨yk, yn, ys⟩ := y
 go_enter Tryz.func61, Tryz.ntmps61
 go_wp2_with (first
  | (at_builtin; refine app8 rfl _ _ rfl base v l rfl (HO.out.later (below2 _ _ _)) (w.heap.size + 1) [op] rfl (Blk.new2 _ _ _ _) (by simp) (by simp only [List.length_cons, List.length_nil]; omega) (by simp; omega) ?_; intro v1 w1 ho1; have HW1 : Hid (Wr w base (l ++ [op]) v1 w1) := Wr.ahead (below2 _ _ _) HB.out ho1; have hz1 := HW1.out.low.size; have HK1 : Hid (Blk w1 _ _ _) := (Blk.old w #[.int .i64 op, .int .i64 xk, .int .i64 xn, .string xs, .int .i64 yk, .int .i64 yn, .string ys] 97 _).k8 ho1.k8 (by decide); obtain ⟨c0, c1, c2, c3, c4, c5, c6⟩ := cseven HK1.out; clear ho1)
  | (go_at_call 64; refine (HP1.out _ _ HW1.out.own (by omega)).mono ?_; rintro e w2 ⟨v2, rfl, hw2⟩; have HW2 : Hid (Wr w base _ v2 w2) := HW1.out.step hw2; have hz2 := HW2.out.low.size; have HK2 : Hid (Blk w2 _ _ _) := HK1.out.k8 hw2.k8 (by decide); clear c0 c1 c2 c3 c4 c5 c6 HP1; obtain ⟨c0, c1, c2, c3, c4, c5, c6⟩ := cseven HK2.out; clear hw2)
  | (go_at_call 64; refine (HP2.out _ _ HW2.out.own (by omega)).mono ?_; rintro e w3 ⟨v3, rfl, hw3⟩))
 go_ret
 exact ⟨_, rfl, by rw [HE.out]; exact HW2.out.step hw3⟩
set_option maxRecDepth 20000 in
set_option maxHeartbeats 2000000 in
theorem putTests_any (m : List Te) (hm : ∀ t ∈ m, FitE t) (hn : m.length <= 8) (y : Value) (v : Value) (l : List Int) (base : Nat) (w : World) (h : OwnB w base v l) (hl : l.length <= 400000000000) (hB : base <= w.heap.size) (hy : Es w y m) (hyB : ∀ X, Below base w X -> Es X y m) :
  Calls Tryz.prog 60 #[v, .int .i64 1, y, .func (.func 61) #[] #[]] w fun e w' => ∃ v', e = .returned v' /\ Wr w base (l ++ ((m.length : Int) :: (m.flatMap eB))) v' w' := by
 have HN : Hid (Calls Tryz.prog 57 #[v, .int .i64 1, .int .u64 (m.length : Int)] w fun e w' => ∃ v', e = .returned v' /\ Wr w base (l ++ [(m.length : Int)]) v' w') := by
  have := putNumber_any 1 (by omega) (m.length : Int) v l base w h (by omega) hB
  rw [be_one _ (by omega) (by omega)] at this
  exact this
 have HY : Hid (∀ X, Below base w X -> Es X y m) := hyB
 have HM : Hid (∀ t ∈ m, FitE t) := hm
 have HB : Hid (base <= w.heap.size) := hB
 obtain ⟨ad, cap, rfl⟩ : ∃ ad cap, y = .slice ad m.length cap := by obtain ⟨ad, cap, e, -⟩ := hy; exact ⟨ad, cap, e⟩
 clear h hyB hm hy
 go_enter Tryz.func60, Tryz.ntmps60
 go_wp2_with (go_at_call 57; refine HN.out.mono ?_; rintro e w1 ⟨v1, rfl, hw⟩; have HW : Hid (Wr w base (l ++ [(m.length : Int)]) v1 w1) := hw; clear hw)
 go_loopg [0, 19] m.length (fun g u i wr => ∃ j : Nat, j + g = m.length /\ i = .int .i64 j /\ Wr w base (l ++ [(m.length : Int)] ++ (m.take j).flatMap eB) u wr)
 case atStart => exact ⟨0, by omega, rfl, by rw [List.take_zero, List.flatMap_nil, List.append_nil]; exact HW.out⟩
 case round =>
  obtain ⟨j, hj, rfl, hw⟩ := hrel
  have HWr : Hid (Wr w base (l ++ [(m.length : Int)] ++ (m.take j).flatMap eB) u0 wr) := hw
  have hsz := hw.low.size
  clear hw
  cases gk with
  | succ g =>
   have hlt : j < m.length := by omega
   obtain ⟨t, ht⟩ : ∃ t, m[j]? = some t := ⟨_, List.getElem?_eq_getElem hlt⟩
   have htm := List.mem_of_getElem? ht
   have HS : Hid ((m.take (j + 1)).flatMap eB = (m.take j).flatMap eB ++ eB t) := flat_succ ht
   have hlen : (l ++ [(m.length : Int)] ++ (m.take j).flatMap eB).length <= 401000000000 := by
    have h1 := flat_len (f := eB) (l := m.take j) (fun x hx => eB_len (HM.out x (List.mem_of_mem_take hx)))
    rw [List.length_take] at h1
    simp only [List.length_append, List.length_cons, List.length_nil]; omega
   have HPT : Hid (∀ (v1 : Value) (X : World), OwnB X base v1 (l ++ [(m.length : Int)] ++ (m.take j).flatMap eB) -> base <= X.heap.size -> Below base w X -> Calls Tryz.prog 61 #[v1, .agg #[.int .i64 t.op, .int .i64 t.l.k, .int .i64 t.l.n, .string t.l.s, .int .i64 t.r.k, .int .i64 t.r.n, .string t.r.s]] X fun e w' => ∃ v', e = .returned v' /\ Wr X base (l ++ [(m.length : Int)] ++ (m.take j).flatMap eB ++ eB t) v' w') := fun v1 X h1 h3 _ => putTest_any t (HM.out t htm) v1 _ base X h1 (by omega) h3
   obtain ⟨ad', cap', hx, -, hxx⟩ := HY.out _ HWr.out.low
   simp only [Value.slice.injEq] at hx
   obtain ⟨rfl, -, rfl⟩ := hx
   rcases hxx with hxx | ⟨b, o, rfl, hbs, hxx⟩
   ·subst hxx; simp at hlt
   ·obtain ⟨c0, c1, c2, c3, c4, c5, c6⟩ := hxx j _ ht
    obtain ⟨op, ⟨xk, xn, xs⟩, ⟨yk, yn, ys⟩⟩ := t
    simp only at c0 c1 c2 c3 c4 c5 c6
    clear hxx ht htm
    have i1 : (0 : Int) <= (j : Int) := by omega
    have i2 : (j : Int) < (m.length : Int) := by omega
    go_wp2_with (go_at_call 61; refine (HPT.out _ _ (HWr.out.own.later (below1 _ _)) (by simp; omega) (HWr.out.low.trans ((below1 _ _).mono (by omega)))).mono ?_; rintro e w2 ⟨v2, rfl, hw2⟩)
    go_roundg g
    case measure => omega
    case rel =>
     refine ⟨j + 1, by omega, by go_num, ?_⟩
     rw [HS.out, <- List.append_assoc]
     exact HWr.out.step (Wr.ahead (below1 _ _) (by omega) hw2)
  | zero =>
   obtain rfl : j = m.length := by omega
   have hz : ¬ ((m.length : Int) < (m.length : Int)) := by omega
   go_wp2
   go_ret
   refine ⟨_, rfl, ?_⟩
   have := HWr.out
   rwa [List.take_length, List.append_assoc] at this
set_option maxRecDepth 20000 in
set_option maxHeartbeats 2000000 in
theorem putAtoms_any (m : List (At × Value)) (hm : ∀ t ∈ m, Fit t.1) (hn : m.length <= 8) (y : Value) (v : Value) (l : List Int) (base : Nat) (w : World) (h : OwnB w base v l) (hl : l.length <= 400000000000) (hB : base <= w.heap.size) (hy : As w y m) (hyB : ∀ X, Below base w X -> As X y m) :
  Calls Tryz.prog 59 #[v, .int .i64 1, y, .func (.func 58) #[] #[]] w fun e w' => ∃ v', e = .returned v' /\ Wr w base (l ++ ((m.length : Int) :: (m.flatMap (fun x => aB x.1)))) v' w' := by
 have HN : Hid (Calls Tryz.prog 57 #[v, .int .i64 1, .int .u64 (m.length : Int)] w fun e w' => ∃ v', e = .returned v' /\ Wr w base (l ++ [(m.length : Int)]) v' w') := by
  have := putNumber_any 1 (by omega) (m.length : Int) v l base w h (by omega) hB
  rw [be_one _ (by omega) (by omega)] at this
  exact this
 have HY : Hid (∀ X, Below base w X -> As X y m) := hyB
 have HM : Hid (∀ t ∈ m, Fit t.1) := hm
 have HB : Hid (base <= w.heap.size) := hB
 obtain ⟨ad, cap, rfl⟩ : ∃ ad cap, y = .slice ad m.length cap := by obtain ⟨ad, cap, e, -⟩ := hy; exact ⟨ad, cap, e⟩
 clear h hyB hm hy
 go_enter Tryz.func59, Tryz.ntmps59
 go_wp2_with (go_at_call 57; refine HN.out.mono ?_; rintro e w1 ⟨v1, rfl, hw⟩; have HW : Hid (Wr w base (l ++ [(m.length : Int)]) v1 w1) := hw; clear hw)
 go_loopg [0, 19] m.length (fun g u i wr => ∃ j : Nat, j + g = m.length /\ i = .int .i64 j /\ Wr w base (l ++ [(m.length : Int)] ++ (m.take j).flatMap (fun x => aB x.1)) u wr)
 case atStart => exact ⟨0, by omega, rfl, by rw [List.take_zero, List.flatMap_nil, List.append_nil]; exact HW.out⟩
 case round =>
  obtain ⟨j, hj, rfl, hw⟩ := hrel
  have HWr : Hid (Wr w base (l ++ [(m.length : Int)] ++ (m.take j).flatMap (fun x => aB x.1)) u0 wr) := hw
  have hsz := hw.low.size
  clear hw
  cases gk with
  | succ g =>
   have hlt : j < m.length := by omega
   obtain ⟨t, ht⟩ : ∃ t, m[j]? = some t := ⟨_, List.getElem?_eq_getElem hlt⟩
   have htm := List.mem_of_getElem? ht
   have HS : Hid ((m.take (j + 1)).flatMap (fun x => aB x.1) = (m.take j).flatMap (fun x => aB x.1) ++ aB t.1) := flat_succ ht
   have hlen : (l ++ [(m.length : Int)] ++ (m.take j).flatMap (fun x => aB x.1)).length <= 401000000000 := by
    have h1 := flat_len (f := (fun x => aB x.1)) (l := m.take j) (fun x hx => aB_len8 (HM.out x (List.mem_of_mem_take hx)))
    rw [List.length_take] at h1
    simp only [List.length_append, List.length_cons, List.length_nil]; omega
   have hTs : ∀ X, Below base w X -> ∀ x ∈ m, Ts X x.2 x.1.args := fun X hX => by obtain ⟨_, _, _, _, _, h⟩ := HY.out X hX; exact h
   have HPT : Hid (∀ (v1 : Value) (X : World), OwnB X base v1 (l ++ [(m.length : Int)] ++ (m.take j).flatMap (fun x => aB x.1)) -> base <= X.heap.size -> Below base w X -> Calls Tryz.prog 58 #[v1, t.1.v t.2] X fun e w' => ∃ v', e = .returned v' /\ Wr X base (l ++ [(m.length : Int)] ++ (m.take j).flatMap (fun x => aB x.1) ++ aB t.1) v' w') := fun v1 X h1 h3 hX => wAtom_any t.1 (HM.out t htm) t.2 v1 _ base X h1 (by omega) h3 (hTs X hX t htm) (fun Y hY => hTs Y (hX.trans hY) t htm)
   obtain ⟨ad', cap', hx, -, hxx, -⟩ := HY.out _ HWr.out.low
   simp only [Value.slice.injEq] at hx
   obtain ⟨rfl, -, rfl⟩ := hx
   rcases hxx with hxx | ⟨b, o, rfl, hbs, hxx⟩
   ·subst hxx; simp at hlt
   ·obtain ⟨c0, c1, c2, c3, c4⟩ := hxx j _ ht
    obtain ⟨⟨⟨xk, xn, xs⟩, nm, ls⟩, xv⟩ := t
    simp only at c0 c1 c2 c3 c4
    obtain ⟨xa, xcap, rfl⟩ : ∃ a cap, xv = .slice a ls.length cap := by obtain ⟨a, cap, e, -⟩ := hTs w (Below.refl _ _) _ htm; exact ⟨a, cap, e⟩
    clear hxx ht htm
    have i1 : (0 : Int) <= (j : Int) := by omega
    have i2 : (j : Int) < (m.length : Int) := by omega
    go_wp2_with (go_at_call 58; refine (HPT.out _ _ (HWr.out.own.later (below1 _ _)) (by simp; omega) (HWr.out.low.trans ((below1 _ _).mono (by omega)))).mono ?_; rintro e w2 ⟨v2, rfl, hw2⟩)
    go_roundg g
    case measure => omega
    case rel =>
     refine ⟨j + 1, by omega, by go_num, ?_⟩
     rw [HS.out, <- List.append_assoc]
     exact HWr.out.step (Wr.ahead (below1 _ _) (by omega) hw2)
  | zero =>
   obtain rfl : j = m.length := by omega
   have hz : ¬ ((m.length : Int) < (m.length : Int)) := by omega
   go_wp2
   go_ret
   refine ⟨_, rfl, ?_⟩
   have := HWr.out
   rwa [List.take_length, List.append_assoc] at this
theorem fsts_flat8 (l : List (At × Value)) : l.flatMap (fun x => aB x.1) = (fsts l).flatMap aB := by unfold fsts; rw [List.flatMap_map]
theorem fsts_len8 (l : List (At × Value)) : (fsts l).length = l.length := by unfold fsts; simp
set_option maxRecDepth 20000 in
set_option maxHeartbeats 2000000 in
theorem putClause_any (c : Cm) (v : Value) (l : List Int) (hc : (∀ a ∈ c.key.1 :: c.key.2.1, Fit a) /\ (∀ e ∈ c.key.2.2, FitE e) /\ c.key.2.1.length <= 8 /\ c.key.2.2.length <= 8) (base : Nat) (w : World) (ho : OwnB w base v l) (hl : l.length <= 300000000000) (hB : base <= w.heap.size) (hk : c.ok w) (hkB : ∀ X, Below base w X -> c.ok X) :
  Calls Tryz.prog 29 #[v, c.v] w fun e w' => ∃ v', e = .returned v' /\ Wr w base (l ++ cB c.key) v' w' := by
 obtain ⟨hd, hb, bv, ts, tv⟩ := c
 obtain ⟨g1, g2, g3, g4⟩ := hc
 simp only [Cm.key, fsts_len8] at g1 g2 g3 g4
 have l1 := aB_len8 (g1 hd.1 (by simp))
 have l2 : ((hb.length : Int) :: hb.flatMap fun x => aB x.1).length <= 10000 := by
  have := flat_len (f := fun x : At × Value => aB x.1) (l := hb) (fun x hx => aB_len8 (g1 x.1 (List.mem_cons_of_mem _ (List.mem_map_of_mem hx))))
  simp only [List.length_cons]; omega
 have HP1 : Hid (∀ (X : World), OwnB X base v l -> base <= X.heap.size -> Below base w X -> Calls Tryz.prog 58 #[v, hd.1.v hd.2] X fun e w' => ∃ v', e = .returned v' /\ Wr X base (l ++ aB hd.1) v' w') := fun X h1 h3 hX => wAtom_any hd.1 (g1 hd.1 (by simp)) hd.2 v l base X h1 (by omega) h3 (hkB X hX).h (fun Y hY => (hkB Y (hX.trans hY)).h)
 have HP2 : Hid (∀ (v1 : Value) (X : World), OwnB X base v1 (l ++ aB hd.1) -> base <= X.heap.size -> Below base w X -> Calls Tryz.prog 59 #[v1, .int .i64 1, bv, .func (.func 58) #[] #[]] X fun e w' => ∃ v', e = .returned v' /\ Wr X base (l ++ aB hd.1 ++ ((hb.length : Int) :: hb.flatMap fun x => aB x.1)) v' w') := fun v1 X h1 h3 hX => putAtoms_any hb (fun x hx => g1 x.1 (List.mem_cons_of_mem _ (List.mem_map_of_mem hx))) g3 bv v1 _ base X h1 (by rw [List.length_append]; omega) h3 (hkB X hX).b (fun Y hY => (hkB Y (hX.trans hY)).b)
 have HP3 : Hid (∀ (v1 : Value) (X : World), OwnB X base v1 (l ++ aB hd.1 ++ ((hb.length : Int) :: hb.flatMap fun x => aB x.1)) -> base <= X.heap.size -> Below base w X -> Calls Tryz.prog 60 #[v1, .int .i64 1, tv, .func (.func 61) #[] #[]] X fun e w' => ∃ v', e = .returned v' /\ Wr X base (l ++ aB hd.1 ++ ((hb.length : Int) :: hb.flatMap fun x => aB x.1) ++ ((ts.length : Int) :: ts.flatMap eB)) v' w') := fun v1 X h1 h3 hX => putTests_any ts g2 g4 tv v1 _ base X h1 (by rw [List.length_append, List.length_append]; omega) h3 (hkB X hX).t (fun Y hY => (hkB Y (hX.trans hY)).t)
 have HE : Hid (l ++ cB (Cm.key ⟨hd, hb, bv, ts, tv⟩) = l ++ aB hd.1 ++ ((hb.length : Int) :: hb.flatMap fun x => aB x.1) ++ ((ts.length : Int) :: ts.flatMap eB)) := by show _ = _; simp [cB, Cm.key, fsts_len8, fsts_flat8]
 have HB : Hid (base <= w.heap.size) := hB
 have HO : Hid (OwnB w base v l) := ho
 obtain ⟨⟨a1, n1, cap1, x1⟩, ⟨a2, cap2, x2⟩, ⟨a3, cap3, x3⟩, -, -⟩ := hk.shape
 simp only at x1 x2 x3
 obtain ⟨⟨⟨k, n, s⟩, nm, ls⟩, hv⟩ := hd
 simp only at x1
 subst x1 x2 x3
 clear hk hkB g1 g2 ho
 go_enter Tryz.func29, Tryz.ntmps29
 go_wp2_with (first
  | (go_at_call 58; refine (HP1.out _ (HO.out.later (below1 _ _)) (by simp; omega) ((below1 _ _).mono HB.out)).mono ?_; rintro e w1 ⟨v1, rfl, hw1⟩; have HW1 : Hid (Wr w base _ v1 w1) := Wr.ahead (below1 _ _) HB.out hw1; have hz1 := HW1.out.low.size; have HK1 : Hid (Blk w1 _ _ _) := (Blk.new w #[.int .i64 k, .int .i64 n, .string s, .string nm, .slice a1 n1 cap1, .slice a2 hb.length cap2, .slice a3 ts.length cap3] 62).k8 hw1.k8 (by decide); obtain ⟨c0, c1, c2, c3, c4, c5, c6⟩ := cseven HK1.out; clear hw1)
  | (go_at_call 59; refine (HP2.out _ _ HW1.out.own (by omega) HW1.out.low).mono ?_; rintro e w2 ⟨v2, rfl, hw2⟩; have HW2 : Hid (Wr w base _ v2 w2) := HW1.out.step hw2; have hz2 := HW2.out.low.size; have HK2 : Hid (Blk w2 _ _ _) := HK1.out.k8 hw2.k8 (by decide); clear c0 c1 c2 c3 c4 c5 c6; obtain ⟨c0, c1, c2, c3, c4, c5, c6⟩ := cseven HK2.out; clear hw2)
  | (go_at_call 60; refine (HP3.out _ _ HW2.out.own (by omega) HW2.out.low).mono ?_; rintro e w3 ⟨v3, rfl, hw3⟩))
 go_ret
 exact ⟨_, rfl, by rw [HE.out]; exact HW2.out.step hw3⟩
theorem chk_fit {c : Cm} (h : c.chk = 0) : (∀ a ∈ c.key.1 :: c.key.2.1, Fit a) /\ (∀ e ∈ c.key.2.2, FitE e) /\ c.key.2.1.length <= 8 /\ c.key.2.2.length <= 8 := by
 have h1 : long c = false := by
  cases e : long c
  ·rfl
  ·rw [chk_1 e] at h; cases h
 have h2 : aErr c.atoms = 0 := by
  by_cases e : aErr c.atoms = 0
  ·exact e
  ·rw [chk_2 h1 e] at h; exact absurd h e
 have h3 : badT c = false := by
  cases e : badT c
  ·rfl
  ·rw [chk_3 h1 h2 e] at h; cases h
 have hall := aErr_all h2
 unfold long at h1
 simp only [Bool.or_eq_false_iff, decide_eq_false_iff_not] at h1
 refine ⟨fun a ha => ?_, fun e he => ?_, by simp only [Cm.key, fsts_len8]; omega, by simp only [Cm.key]; omega⟩
 ·rcases List.mem_cons.1 ha with rfl | ha
  ·exact fit_of (hall c.head (by simp [Cm.atoms]))
  ·obtain ⟨x, hx, rfl⟩ := List.mem_map.1 ha
   exact fit_of (hall x (by simp [Cm.atoms, hx]))
 ·have := List.any_eq_false.1 h3 e he
  simp only [Bool.not_eq_true, Bool.not_eq_false'] at this
  unfold Te.ok at this
  simp only [Bool.and_eq_true, decide_eq_true_eq] at this
  exact ⟨this.1, knd_cov this.2.1, knd_cov this.2.2⟩
theorem cB_len {c : Cm} (h : c.chk = 0) : (cB c.key).length <= 20000 := by
 obtain ⟨g1, g2, g3, g4⟩ := chk_fit h
 have l1 := aB_len8 (g1 c.key.1 (by simp))
 have l2 := flat_len (f := aB) (l := c.key.2.1) (fun x hx => aB_len8 (g1 x (List.mem_cons_of_mem _ hx)))
 have l3 := flat_len (f := eB) (l := c.key.2.2) (fun x hx => eB_len (g2 x hx))
 unfold cB
 simp only [List.length_append, List.length_cons]
 omega
end Go.Proofs.YtmbmchbninlhpaaGreatDoor

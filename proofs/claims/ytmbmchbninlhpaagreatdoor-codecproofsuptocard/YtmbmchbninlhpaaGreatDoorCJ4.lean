import Derived.Test.YtmbmchbninlhpaaGreatDoorCP2
import Derived.Test.YtmbmchbninlhpaaGreatDoorCL12
import Derived.Test.YtmbmchbninlhpaaGreatDoorCE1
import Derived.Test.YtmbmchbninlhpaaGreatDoorCG3
import Derived.Test.YtmbmchbninlhpaaGreatDoorCG1
namespace Go.Proofs.YtmbmchbninlhpaaGreatDoor
open Go.RowKit

def fErr : List Cm -> Int
 | [] => 0
 | c :: l => if c.chk = 0 then fErr l else c.chk
def wOk (s : Sk) : Bool := s.2.1.all Tm.con && (s.2.2.all (fun n => decide (0 <= n)) && decide (0 <= s.1))
def wSt (s : St) : Bool := wOk s.key
def pErr (R : List Cm) (S : List St) : Int := if fErr R = 0 then (if S.all wSt = true then 0 else 63) else fErr R
def pB (R : List Cm) (S : List St) : List Int := be 4 (R.length : Int) ++ R.flatMap cBm ++ (be 4 (S.length : Int) ++ S.flatMap sBm)
theorem fErr_zero : ∀ {l : List Cm}, fErr l = 0 -> ∀ c ∈ l, c.chk = 0
 | [], _, c, hc => by simp at hc
 | a :: l, h, c, hc => by
  unfold fErr at h
  by_cases ha : a.chk = 0
  ·rw [if_pos ha] at h
   rcases List.mem_cons.1 hc with rfl | hc
   ·exact ha
   ·exact fErr_zero h c hc
  ·rw [if_neg ha] at h
   exact absurd h ha
theorem fErr_drop {l : List Cm} {j : Nat} {c : Cm} (h : l[j]? = some c) : fErr (l.drop j) = if c.chk = 0 then fErr (l.drop (j + 1)) else c.chk := by
 obtain ⟨hj, rfl⟩ := List.getElem?_eq_some_iff.1 h
 rw [List.drop_eq_getElem_cons hj]; rfl
theorem all_drop {α : Type} {f : α -> Bool} {l : List α} {j : Nat} {x : α} (h : l[j]? = some x) : (l.drop j).all f = (f x && (l.drop (j + 1)).all f) := by
 obtain ⟨hj, rfl⟩ := List.getElem?_eq_some_iff.1 h
 rw [List.drop_eq_getElem_cons hj]; rfl
set_option maxRecDepth 20000 in
set_option maxHeartbeats 600000 in
theorem firstError_any (l : List Cm) (v : Value) (w : World) (h : CsP w v l) (hwf : ∀ c ∈ l, c.wf) (hl : l.length <= 1000000000000) :
  Calls Tryz.prog 26 #[v] w fun e w' => e = .returned (.int .i64 (fErr l)) /\ Below w.heap.size w w' := by
 obtain ⟨F, hF⟩ : ∃ F, fErr l = F := ⟨_, rfl⟩
 rw [hF]
 have HF : Hid (fErr (l.drop 0) = F) := hF
 have HC : Hid (CsP w v l) := h
 have HWF : Hid (∀ c ∈ l, c.wf) := hwf
 obtain ⟨ad, cap, rfl⟩ := h.form
 clear h hF hwf
 go_enter Tryz.func26, Tryz.ntmps26
 go_wp2
 go_loopg [8] l.length (fun g i wr => ∃ j : Nat, j + g = l.length /\ i = .int .i64 j /\ fErr (l.drop j) = F /\ Below w.heap.size w wr)
 case atStart => exact ⟨0, by omega, rfl, HF.out, Below.refl _ _⟩
 case round =>
  obtain ⟨j, hj, rfl, hF, hb⟩ := hrel
  have HFj : Hid (fErr (l.drop j) = F) := hF
  have HB : Hid (Below w.heap.size w wr) := hb
  clear hF hb
  cases gk with
  | succ g =>
   have hlt : (j : Int) < (l.length : Int) := by omega
   have j0 : (0 : Int) <= (j : Int) := by omega
   obtain ⟨t, ht⟩ : ∃ t, l[j]? = some t := ⟨_, List.getElem?_eq_getElem (by omega)⟩
   obtain ⟨b, o, rfl, hbs, hr, hok⟩ := (HC.out.later HB.out).at_ ht
   have HS : Hid ((if t.chk = 0 then fErr (l.drop (j + 1)) else t.chk) = F) := by show _ = _; rw [<- fErr_drop ht]; exact HFj.out
   have HCK : Hid (∀ X : World, Below wr.heap.size wr X -> Calls Tryz.prog 55 #[t.v] X fun e w' => e = .returned (.int .i64 t.chk) /\ Below X.heap.size X w') := fun X hX => check9_any t X (hok.later hX) (HWF.out t (List.mem_of_getElem? ht))
   obtain ⟨c0, c1, c2, c3, c4, c5, c6⟩ := hr.seven ht
   obtain ⟨⟨a1, n1, cap1, x1⟩, ⟨a2, cap2, x2⟩, ⟨a3, cap3, x3⟩, -, -⟩ := hok.shape
   generalize t.chk = E at *
   obtain ⟨⟨⟨⟨tk, tn, ts⟩, tm, tl⟩, tv⟩, tb, tbv, tt, ttv⟩ := t
   simp only at c0 c1 c2 c3 c4 c5 c6 x1 x2 x3
   subst x1 x2 x3
   clear hr hok ht HFj
   by_cases he : E = 0
   ·subst he
    have HS2 : Hid (fErr (l.drop (j + 1)) = F) := by have := HS.out; rwa [if_pos rfl] at this
    clear HS
    go_wp2_with (go_at_call 55; refine (HCK.out _ (below1 _ _)).mono ?_; rintro e w1 ⟨rfl, hb⟩; have HB1 : Hid (Below w.heap.size w w1) := below_step (below_step HB.out (below1 _ _)) hb; clear hb)
    go_roundg g
    case measure => omega
    case rel => exact ⟨j + 1, by omega, by go_num, HS2.out, HB1.out⟩
   ·obtain rfl : E = F := by have := HS.out; rwa [if_neg he] at this
    have hne : (E != 0) = true := by simpa using he
    clear HS he
    go_wp2_with (go_at_call 55; refine (HCK.out _ (below1 _ _)).mono ?_; rintro e w1 ⟨rfl, hb⟩; have HB1 : Hid (Below w.heap.size w w1) := below_step (below_step HB.out (below1 _ _)) hb; clear hb)
    go_ret
    exact ⟨rfl, HB1.out⟩
  | zero =>
   obtain rfl : j = l.length := by omega
   obtain rfl : 0 = F := by have := HFj.out; rwa [List.drop_length] at this
   have hz : ¬ ((l.length : Int) < (l.length : Int)) := by omega
   go_wp2
   go_ret
   exact ⟨rfl, HB.out⟩
set_option maxRecDepth 20000 in
set_option maxHeartbeats 600000 in
theorem writable_any (s : St) (w : World) (h : s.ok w) :
  Calls Tryz.prog 27 #[s.v] w fun e w' => e = .returned (.bool (wSt s)) /\ Below w.heap.size w w' := by
 obtain ⟨R, hR⟩ : ∃ r, wSt s = r := ⟨_, rfl⟩
 rw [hR]
 obtain ⟨sr, sl, sv, su, sw⟩ := s
 have HR : Hid (((sl.drop 0).all Tm.con && (su.all (fun n => decide (0 <= n)) && decide (0 <= sr))) = R) := hR
 have HT : Hid (Ts w sv sl) := h.t
 have HU : Hid (Ns w sw su) := h.u
 obtain ⟨⟨a1, cap1, x1⟩, ⟨a2, cap2, x2⟩, l1, l2⟩ := h.shape
 simp only at x1 x2 l1 l2
 subst x1 x2
 have HX : Hid (CBlk (w.alloc (.cells #[.int .i64 sr, .slice a1 sl.length cap1, .slice a2 su.length cap2] 50)) w.heap.size #[.int .i64 sr, .slice a1 sl.length cap1, .slice a2 su.length cap2] 50) := CBlk.new _ _ _
 have HW0 : Hid (Below w.heap.size w (w.alloc (.cells #[.int .i64 sr, .slice a1 sl.length cap1, .slice a2 su.length cap2] 50))) := below1 _ _
 clear h hR
 go_enter Tryz.func27, Tryz.ntmps27
 go_wp2
 revert HX HW0
 generalize w.alloc (.cells #[.int .i64 sr, .slice a1 sl.length cap1, .slice a2 su.length cap2] 50) = W0
 intro HX HW0
 go_loopg [10] sl.length (fun g i wr => ∃ j : Nat, j + g = sl.length /\ i = .int .i64 j /\ ((sl.drop j).all Tm.con && (su.all (fun n => decide (0 <= n)) && decide (0 <= sr))) = R /\ Below W0.heap.size W0 wr)
 case atStart => exact ⟨0, by omega, rfl, HR.out, Below.refl _ _⟩
 case round =>
  obtain ⟨j, hj, rfl, hR, hb⟩ := hrel
  have HRj : Hid (((sl.drop j).all Tm.con && (su.all (fun n => decide (0 <= n)) && decide (0 <= sr))) = R) := hR
  have HB : Hid (Below W0.heap.size W0 wr) := hb
  clear hR hb HR
  cases gk with
  | succ g =>
   have hlt : (j : Int) < (sl.length : Int) := by omega
   have j0 : (0 : Int) <= (j : Int) := by omega
   obtain ⟨t, ht⟩ : ∃ t, sl[j]? = some t := ⟨_, List.getElem?_eq_getElem (by omega)⟩
   obtain ⟨ad', cap', hx, -, hxx⟩ := (HT.out.later HW0.out).later HB.out
   simp only [Value.slice.injEq] at hx
   obtain ⟨rfl, -, rfl⟩ := hx
   obtain ⟨b, o, rfl, hbs, hxx⟩ : ∃ b o, a1 = some ⟨b, o, none⟩ /\ TRow wr b o sl := by
    rcases hxx with hxx | h
    ·rw [hxx] at ht; simp at ht
    ·exact h
   obtain ⟨c0, c1, c2⟩ := hxx j _ ht
   have HS : Hid ((t.con && ((sl.drop (j + 1)).all Tm.con && (su.all (fun n => decide (0 <= n)) && decide (0 <= sr)))) = R) := by
    have := HRj.out; rw [all_drop ht, Bool.and_assoc] at this; exact this
   have hco := fun X : World => con_any t X
   clear hxx ht HRj
   cases hc : t.con
   ·obtain rfl : false = R := by have := HS.out; rwa [hc, Bool.false_and] at this
    rw [hc] at hco
    have HCO : Hid (∀ X : World, Calls Tryz.prog 56 #[t.v] X fun e w' => e = .returned (.bool false) /\ Below X.heap.size X w') := hco
    clear hco HS hc
    obtain ⟨tk, tn, ts⟩ := t
    simp only at c0 c1 c2
    go_wp2_with (go_at_call 56; refine (HCO.out _).mono ?_; rintro e w1 ⟨rfl, hb⟩; have HB1 : Hid (Below W0.heap.size W0 w1) := below_step (below_step HB.out (below1 _ _)) hb; clear hb)
    go_ret
    exact ⟨rfl, below_step HW0.out HB1.out⟩
   ·have HS2 : Hid (((sl.drop (j + 1)).all Tm.con && (su.all (fun n => decide (0 <= n)) && decide (0 <= sr))) = R) := by have := HS.out; rwa [hc, Bool.true_and] at this
    rw [hc] at hco
    have HCO : Hid (∀ X : World, Calls Tryz.prog 56 #[t.v] X fun e w' => e = .returned (.bool true) /\ Below X.heap.size X w') := hco
    clear hco HS hc
    obtain ⟨tk, tn, ts⟩ := t
    simp only at c0 c1 c2
    go_wp2_with (go_at_call 56; refine (HCO.out _).mono ?_; rintro e w1 ⟨rfl, hb⟩; have HB1 : Hid (Below W0.heap.size W0 w1) := below_step (below_step HB.out (below1 _ _)) hb; clear hb)
    go_roundg g
    case measure => omega
    case rel => exact ⟨j + 1, by omega, by go_num, HS2.out, HB1.out⟩
  | zero =>
   obtain rfl : j = sl.length := by omega
   have HR2 : Hid (((su.drop 0).all (fun n => decide (0 <= n)) && decide (0 <= sr)) = R) := by have := HRj.out; rw [List.drop_length] at this; exact this
   have hz : ¬ ((sl.length : Int) < (sl.length : Int)) := by omega
   have HU2 : Hid (Ns wr (.slice a2 su.length cap2) su) := (HU.out.later HW0.out).later HB.out
   have HX2 : Hid (CBlk wr w.heap.size #[.int .i64 sr, .slice a1 sl.length cap1, .slice a2 su.length cap2] 50) := HX.out.later HB.out
   have HB2 : Hid (Below w.heap.size w wr) := below_step HW0.out HB.out
   obtain ⟨c0, c1, c2⟩ := cthree HX2.out
   clear HRj HU HX HT HB HW0 hj
   generalize wr = wo at *
   go_wp2
   clear hz
   go_loopg [21] su.length (fun g i wr => ∃ j : Nat, j + g = su.length /\ i = .int .i64 j /\ ((su.drop j).all (fun n => decide (0 <= n)) && decide (0 <= sr)) = R /\ wr = wo)
   case atStart => exact ⟨0, by omega, rfl, HR2.out, rfl⟩
   case round =>
    obtain ⟨i, hi, rfl, hR, rfl⟩ := hrel
    have HRi : Hid (((su.drop i).all (fun n => decide (0 <= n)) && decide (0 <= sr)) = R) := hR
    clear hR HR2
    cases gk with
    | succ g =>
     have hlt : (i : Int) < (su.length : Int) := by omega
     have i0 : (0 : Int) <= (i : Int) := by omega
     obtain ⟨t, ht⟩ : ∃ t, su[i]? = some t := ⟨_, List.getElem?_eq_getElem (by omega)⟩
     obtain ⟨ad', cap', hx, -, hxx⟩ := HU2.out
     simp only [Value.slice.injEq] at hx
     obtain ⟨rfl, -, rfl⟩ := hx
     obtain ⟨b, o, rfl, hbs, hxx⟩ : ∃ b o, a2 = some ⟨b, o, none⟩ /\ b < wr.heap.size /\ ∀ (i : Nat) (x : Int), su[i]? = some x -> wr.cell? ⟨b, o + i, none⟩ = some (.int .i64 x) := by
      rcases hxx with hxx | h
      ·rw [hxx] at ht; simp at ht
      ·exact h
     have d0 := hxx i _ ht
     have HS : Hid ((decide (0 <= t) && ((su.drop (i + 1)).all (fun n => decide (0 <= n)) && decide (0 <= sr))) = R) := by
      have := HRi.out; rw [all_drop ht, Bool.and_assoc] at this; exact this
     clear hxx ht HRi
     by_cases hc : t < 0
     ·obtain rfl : false = R := by have := HS.out; rwa [decide_eq_false (by omega), Bool.false_and] at this
      clear HS
      go_wp2
      go_ret
      exact ⟨rfl, HB2.out⟩
     ·have HS2 : Hid (((su.drop (i + 1)).all (fun n => decide (0 <= n)) && decide (0 <= sr)) = R) := by have := HS.out; rwa [decide_eq_true (by omega), Bool.true_and] at this
      clear HS
      go_wp2
      go_roundg g
      case measure => omega
      case rel => exact ⟨i + 1, by omega, by go_num, HS2.out, rfl⟩
    | zero =>
     obtain rfl : i = su.length := by omega
     have hz : ¬ ((su.length : Int) < (su.length : Int)) := by omega
     have HS : Hid (decide (0 <= sr) = R) := by have := HRi.out; rw [List.drop_length, List.all_nil, Bool.true_and] at this; exact this
     clear HRi
     by_cases hc : 0 <= sr
     ·obtain rfl : true = R := by have := HS.out; rwa [decide_eq_true hc] at this
      go_wp2
      go_ret
      exact ⟨rfl, HB2.out⟩
     ·obtain rfl : false = R := by have := HS.out; rwa [decide_eq_false hc] at this
      go_wp2
      go_ret
      exact ⟨rfl, HB2.out⟩
end Go.Proofs.YtmbmchbninlhpaaGreatDoor
namespace Go.Proofs.YtmbmchbninlhpaaGreatDoor
open Go.RowKit

theorem fold_be (k : Nat) (n : Int) : ∀ v : Int, (be k n).foldl (fun v b => v * 256 + b) v = v * (256 : Int) ^ k + n % (256 : Int) ^ k := by
 induction k with
 | zero => intro v; simp [be, Int.emod_one]
 | succ k ih =>
  intro v
  simp only [be, List.foldl_cons, ih]
  have hp : (0 : Int) < 256 ^ k := Int.pow_pos (by omega)
  have e : (256 : Int) ^ (k + 1) = 256 ^ k * 256 := Int.pow_succ _ _
  rw [e]
  generalize (256 : Int) ^ k = A at *
  have h1 : n / (A * 256) = n / A / 256 := (Int.ediv_ediv_of_nonneg (Int.le_of_lt hp)).symm
  rw [Int.emod_def n (A * 256), h1, Int.emod_def n A, Int.emod_def (n / A) 256]
  generalize n / A = q
  generalize q / 256 = r
  grind
theorem val_be (k : Nat) (n : Int) : val (be k n) = n % (256 : Int) ^ k := by
 unfold val; rw [fold_be]; simp
theorem rTake_app (l r : List Int) : rTake l.length (l ++ r) = .ok (l, r) := by
 unfold rTake
 rw [if_neg (by simp)]
 simp
theorem rNum_be (k : Nat) (n : Int) (r : List Int) (h0 : 0 <= n) (h1 : n < (256 : Int) ^ k) : rNum k (be k n ++ r) = .ok (n, r) := by
 have := rTake_app (be k n) r
 rw [be_len] at this
 unfold rNum
 rw [this]
 simp only [Rd.and, val_be, Int.emod_eq_of_lt h0 h1]
theorem rNum_one (n : Int) (r : List Int) : rNum 1 (n :: r) = .ok (n, r) := by
 unfold rNum rTake
 simp [Rd.and, val]
theorem rBnd_one {lo hi n : Int} (r : List Int) (h0 : lo <= n) (h1 : n <= hi) : rBnd lo hi (n :: r) = .ok (n, r) := by
 unfold rBnd
 rw [rNum_one]
 simp only [Rd.and]
 rw [if_neg (by omega)]
theorem rOne_one {cs : List Int} {n : Int} (r : List Int) (h : n ∈ cs) : rOne cs (n :: r) = .ok (n, r) := by
 unfold rOne
 rw [rNum_one]
 simp only [Rd.and]
 rw [if_pos h]
theorem rText_sB {lo hi : Int} {s : ByteArray} (r : List Int) (h0 : lo <= s.size) (h1 : (s.size : Int) <= hi) : rText lo hi (sB s ++ r) = .ok (ofL (bl s), r) := by
 have := rTake_app (bl s) r
 rw [bl_len] at this
 unfold rText sB
 rw [List.cons_append, rBnd_one _ h0 h1]
 simp only [Rd.and, Int.toNat_natCast]
 rw [this]
end Go.Proofs.YtmbmchbninlhpaaGreatDoor
namespace Go.Proofs.YtmbmchbninlhpaaGreatDoor
open Go.RowKit

def rng (t : Tm) : Prop := -9223372036854775808 <= t.n /\ t.n <= 9223372036854775807
theorem wrap_back {n : Int} (h0 : -9223372036854775808 <= n) (h1 : n <= 9223372036854775807) : wrap64 (n % 18446744073709551616) = n := by
 unfold wrap64
 omega
theorem rTermOf_tB {t : Tm} (r : List Int) (lo : Int) (h : t.cov = true) (hr : rng t) (hl : t.k = 2 -> lo <= t.s.size) : ∃ l, tB t = t.k :: l /\ rTermOf t.k lo (l ++ r) = .ok (t, r) := by
 obtain ⟨k, n, s⟩ := t
 unfold Tm.cov at h
 simp only [Tm.con, Tm.var, Bool.or_eq_true, decide_eq_true_eq] at h
 obtain ⟨g0, g1⟩ := hr
 simp only at g0 g1 hl
 have hp : (256 : Int) ^ 8 = 18446744073709551616 := by decide
 rcases h with (⟨rfl, rfl⟩ | ⟨rfl, rfl, h2⟩) | ⟨rfl, h0, rfl⟩
 ·refine ⟨be 8 (n % 18446744073709551616), by simp [tB], ?_⟩
  unfold rTermOf
  rw [if_pos rfl, rNum_be 8 _ r (Int.emod_nonneg _ (by omega)) (by rw [hp]; exact Int.emod_lt_of_pos _ (by omega))]
  simp only [Rd.and]
  rw [wrap_back g0 g1]
 ·refine ⟨sB s, by simp [tB], ?_⟩
  unfold rTermOf
  rw [if_neg (by simp), if_pos rfl, rText_sB r (hl rfl) (by omega)]
  simp only [Rd.and]
  rw [ofL_bl]
 ·refine ⟨be 8 (n % 18446744073709551616), by simp [tB], ?_⟩
  unfold rTermOf rNat
  rw [if_neg (by simp), if_neg (by simp), if_pos rfl, rNum_be 8 _ r (Int.emod_nonneg _ (by omega)) (by rw [hp]; exact Int.emod_lt_of_pos _ (by omega))]
  simp only [Rd.and]
  rw [Int.emod_eq_of_lt h0 (by omega), if_neg (by omega)]
end Go.Proofs.YtmbmchbninlhpaaGreatDoor
namespace Go.Proofs.YtmbmchbninlhpaaGreatDoor
open Go.RowKit

structure Rng (x : Ck) : Prop where
 a : ∀ a ∈ x.1 :: x.2.1, ∀ t ∈ a.pl, rng t
 e : ∀ e ∈ x.2.2, rng e.l /\ rng e.r
end Go.Proofs.YtmbmchbninlhpaaGreatDoor
namespace Go.Proofs.YtmbmchbninlhpaaGreatDoor
open Go.RowKit

theorem fold_val (l : List Int) : ∀ v : Int, l.foldl (fun v b => v * 256 + b) v = v * (256 : Int) ^ l.length + val l := by
 induction l with
 | nil => intro v; simp [val]
 | cons b l ih =>
  intro v
  have e : (256 : Int) ^ (l.length + 1) = 256 ^ l.length * 256 := Int.pow_succ _ _
  have h2 : val (b :: l) = (0 * 256 + b) * 256 ^ l.length + val l := by unfold val; rw [List.foldl_cons, ih]; rfl
  rw [List.foldl_cons, ih, h2, List.length_cons, e]
  grind
theorem be_val {l : List Int} (h : byt l) : ∀ v : Int, be l.length (l.foldl (fun v b => v * 256 + b) v) = l := by
 induction l with
 | nil => intro v; rfl
 | cons b l ih =>
  intro v
  have hx := h b (by simp)
  have hl : byt l := fun x hx => h x (by simp [hx])
  obtain ⟨g0, g1⟩ := val_rng hl
  simp only [List.length_cons, be, List.foldl_cons]
  rw [ih hl]
  have hp : (0 : Int) < 256 ^ l.length := Int.pow_pos (by omega)
  rw [fold_val, Int.add_comm (_ * _), Int.add_mul_ediv_right _ _ (by omega), Int.ediv_eq_zero_of_lt g0 g1]
  rw [show (0 + (v * 256 + b)) % 256 = b by omega]
theorem byt_drop {l : List Int} (h : byt l) (n : Nat) : byt (l.drop n) := fun x hx => h x (List.mem_of_mem_drop hx)
theorem byt_take {l : List Int} (h : byt l) (n : Nat) : byt (l.take n) := fun x hx => h x (List.mem_of_mem_take hx)
theorem rTake_inv {n : Nat} {l b r : List Int} (hb : byt l) (h : rTake n l = .ok (b, r)) : l = b ++ r /\ b.length = n /\ byt b /\ byt r := by
 unfold rTake at h
 split at h
 ·cases h
 ·cases h
  exact ⟨(List.take_append_drop n l).symm, by rw [List.length_take]; omega, byt_take hb n, byt_drop hb n⟩
theorem rNum_inv {k : Nat} {l r : List Int} {n : Int} (hb : byt l) (h : rNum k l = .ok (n, r)) : l = be k n ++ r /\ byt r /\ 0 <= n /\ n < (256 : Int) ^ k := by
 unfold rNum at h
 rcases e : rTake k l with c | ⟨b, r'⟩
 ·rw [e] at h; cases h
 ·rw [e] at h
  simp only [Rd.and] at h
  cases h
  obtain ⟨h1, h2, h3, h4⟩ := rTake_inv hb e
  have := val_rng h3
  have h5 := be_val h3 0
  rw [h2] at this h5
  refine ⟨?_, h4, this⟩
  unfold val
  rw [h5]; exact h1
theorem rNum1_inv {l r : List Int} {n : Int} (hb : byt l) (h : rNum 1 l = .ok (n, r)) : l = n :: r /\ byt r /\ 0 <= n /\ n < 256 := by
 obtain ⟨h1, h2, h3, h4⟩ := rNum_inv hb h
 refine ⟨?_, h2, h3, by simpa using h4⟩
 rw [h1]
 simp only [be, List.cons_append, List.nil_append, Int.pow_zero, Int.ediv_one]
 rw [Int.emod_eq_of_lt h3 (by simpa using h4)]
theorem rBnd_inv {lo hi n : Int} {l r : List Int} (hb : byt l) (h : rBnd lo hi l = .ok (n, r)) : l = n :: r /\ byt r /\ 0 <= n /\ lo <= n /\ n <= hi := by
 unfold rBnd at h
 rcases e : rNum 1 l with c | ⟨m, r'⟩
 ·rw [e] at h; cases h
 ·rw [e] at h
  simp only [Rd.and] at h
  obtain ⟨h1, h2, h3, -⟩ := rNum1_inv hb e
  split at h
  ·cases h
  ·cases h; exact ⟨h1, h2, h3, by omega, by omega⟩
theorem rOne_inv {cs : List Int} {n : Int} {l r : List Int} (hb : byt l) (h : rOne cs l = .ok (n, r)) : l = n :: r /\ byt r /\ n ∈ cs := by
 unfold rOne at h
 rcases e : rNum 1 l with c | ⟨m, r'⟩
 ·rw [e] at h; cases h
 ·rw [e] at h
  simp only [Rd.and] at h
  obtain ⟨h1, h2, h3, -⟩ := rNum1_inv hb e
  split at h
  ·rename_i hm; cases h; exact ⟨h1, h2, hm⟩
  ·cases h
theorem rText_inv {lo hi : Int} {s : ByteArray} {l r : List Int} (hb : byt l) (h : rText lo hi l = .ok (s, r)) : l = sB s ++ r /\ byt r /\ lo <= s.size /\ (s.size : Int) <= hi := by
 unfold rText at h
 rcases e : rBnd lo hi l with c | ⟨n, r'⟩
 ·rw [e] at h; cases h
 ·rw [e] at h
  simp only [Rd.and] at h
  obtain ⟨h1, h2, h3, h4, h5⟩ := rBnd_inv hb e
  rcases e2 : rTake n.toNat r' with c | ⟨b, r2⟩
  ·rw [e2] at h; cases h
  ·rw [e2] at h
   simp only at h
   cases h
   obtain ⟨g1, g2, g3, g4⟩ := rTake_inv h2 e2
   have hs : ((ofL b).size : Int) = n := by rw [ofL_size, g2]; omega
   refine ⟨?_, g4, by omega, by omega⟩
   unfold sB
   rw [hs, bl_ofL g3, h1, g1]; rfl
theorem rTermOf_inv {k lo : Int} {t : Tm} {l r : List Int} (hb : byt l) (h : rTermOf k lo l = .ok (t, r)) (hk : k = 0 ∨ k = 1 ∨ k = 2 ∨ k = 3) : k :: l = tB t ++ r /\ byt r /\ (k = 0 -> t = zt) /\ (k ≠ 0 -> t.cov = true) /\ (k = 2 -> t.k = 2 /\ t.n = 0 /\ lo <= t.s.size /\ t.s.size <= 64) /\ (k = 3 -> t.var = true) /\ rng t := by
 unfold rTermOf at h
 rcases hk with rfl | rfl | rfl | rfl
 ·simp at h
  obtain ⟨rfl, rfl⟩ := h
  exact ⟨by simp [tB, zt], hb, fun _ => rfl, fun h => absurd rfl h, by simp, by simp, by simp [rng, zt]⟩
 ·rw [if_pos rfl] at h
  rcases e : rNum 8 l with c | ⟨n, r'⟩
  ·rw [e] at h; cases h
  ·rw [e] at h
   simp only [Rd.and] at h
   cases h
   obtain ⟨h1, h2, h3, h4⟩ := rNum_inv hb e
   have hp : (256 : Int) ^ 8 = 18446744073709551616 := by decide
   rw [hp] at h4
   have hw : wrap64 n % 18446744073709551616 = n := by unfold wrap64; omega
   refine ⟨?_, h2, by simp, fun _ => by simp [Tm.cov, Tm.con], by simp, by simp, w64_rng n⟩
   unfold tB
   simp only [true_or, if_true]
   rw [hw, h1]; rfl
 ·rw [if_neg (by simp), if_pos rfl] at h
  rcases e : rText lo 64 l with c | ⟨s, r'⟩
  ·rw [e] at h; cases h
  ·rw [e] at h
   simp only [Rd.and] at h
   cases h
   obtain ⟨h1, h2, h3, h4⟩ := rText_inv hb e
   refine ⟨?_, h2, by simp, fun _ => by simp only [Tm.cov, Tm.con, Bool.or_eq_true, decide_eq_true_eq]; exact .inl (.inr ⟨trivial, trivial, by omega⟩), fun _ => ⟨rfl, rfl, h3, by simp only; omega⟩, by simp, by simp [rng]⟩
   rw [h1]; simp [tB]
 ·rw [if_neg (by simp), if_neg (by simp), if_pos rfl] at h
  unfold rNat at h
  rcases e : rNum 8 l with c | ⟨n, r'⟩
  ·rw [e] at h; cases h
  ·rw [e] at h
   simp only [Rd.and] at h
   obtain ⟨h1, h2, h3, h4⟩ := rNum_inv hb e
   by_cases hn : 9223372036854775807 < n
   ·rw [if_pos hn] at h; cases h
   ·rw [if_neg hn] at h
    cases h
    have hv : Tm.var ⟨3, n, ⟨#[]⟩⟩ = true := by simp only [Tm.var, decide_eq_true_eq]; exact ⟨trivial, h3, trivial⟩
    refine ⟨?_, h2, by simp, fun _ => by simp only [Tm.cov, Bool.or_eq_true]; exact .inr hv, by simp, fun _ => hv, ⟨by simp only; omega, by simp only; omega⟩⟩
    unfold tB
    simp only [or_true, if_true]
    rw [Int.emod_eq_of_lt h3 (by omega), h1]; rfl
end Go.Proofs.YtmbmchbninlhpaaGreatDoor

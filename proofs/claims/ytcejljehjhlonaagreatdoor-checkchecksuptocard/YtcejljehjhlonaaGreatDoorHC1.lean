import Derived.Test.YtcejljehjhlonaaGreatDoorCP0
import Derived.Test.YtcejljehjhlonaaGreatDoorOQ1
import Derived.Test.YtcejljehjhlonaaGreatDoorCP1
import Derived.Test.YtcejljehjhlonaaGreatDoorMD1
namespace Go.Proofs.YtcejljehjhlonaaGreatDoor
open Go.RowKit

theorem aErr_fstH : ∀ {l l' : List (At × Value)}, fsts l = fsts l' -> aErr l = aErr l'
 | [], [], _ => rfl
 | [], _ :: _, h => by simp [fsts] at h
 | _ :: _, [], h => by simp [fsts] at h
 | x :: l, y :: l', h => by
  simp only [fsts, List.map_cons, List.cons.injEq] at h
  have ih := aErr_fstH (l := l) (l' := l') h.2
  unfold aErr
  rw [h.1, ih]
theorem chk_kH {c d : Cm} (h : d.key = c.key) : d.chk = c.chk := by
 have k1 : d.head.1 = c.head.1 := congrArg (fun k : Ck => k.1) h
 have k2 : fsts d.body = fsts c.body := congrArg (fun k : Ck => k.2.1) h
 have k3 : d.tests = c.tests := congrArg (fun k : Ck => k.2.2) h
 have e1 : long d = long c := by unfold long; rw [(key_len d).1, (key_len d).2, (key_len c).1, (key_len c).2, h]
 have e2 : aErr d.atoms = aErr c.atoms := aErr_fstH (by unfold Cm.atoms; simp only [fsts, List.map_cons]; rw [k1]; congr 1)
 have e3 : badT d = badT c := by unfold badT; rw [k3]
 have e4 : unb d = unb c := by rw [unb_key, unb_key, h]
 have e5 : mis 0 d.vars = mis 0 c.vars := by rw [mis_key, mis_key, h]
 unfold Cm.chk Cm.rs
 rw [e1, e2, e3, e4, e5, k1]
def chkH (x : Ck) : Int := Cm.chk ⟨(x.1, .slice none 0 0), x.2.1.map fun a => (a, .slice none 0 0), .slice none 0 0, x.2.2, .slice none 0 0⟩
theorem chk_keyH (c : Cm) : c.chk = chkH c.key := by
 unfold chkH
 refine chk_kH ?_
 simp [Cm.key, fsts]
theorem chk_ksH {c : Cm} (h : c.chk = 0) : KS c.key := by
 have h1 : long c = false := by
  cases e : long c
  ·rfl
  ·rw [chk_1 e] at h; cases h
 have h2 : aErr c.atoms = 0 := by
  by_cases e : aErr c.atoms = 0
  ·exact e
  ·rw [chk_2 h1 e] at h; exact absurd h e
 have hall := aErr_all h2
 have hl : c.body.length <= 8 /\ c.tests.length <= 8 := by
  simp only [long, decide_eq_false_iff_not, Bool.or_eq_false_iff] at h1
  omega
 rw [(key_len c).1, (key_len c).2] at hl
 refine ⟨(err_zero' (hall c.head (by simp [Cm.atoms]))).2.1, hl.1, hl.2, fun a ha => ?_⟩
 obtain ⟨x, hx, rfl⟩ := List.mem_map.1 ha
 exact (err_zero' (hall x (by simp [Cm.atoms, hx]))).2.1
theorem cvars_any (c : Cm) (w : World) (h : c.ok w) (hw : ∀ v ∈ c.vars, (Lit.int .i64 v).wf = true) (hvl : c.vars.length < 4000000000000000000) :
  Calls Tryz.prog 35 #[c.v] w fun e w' => e = .returned (.int .i64 ((dis c.vars).length : Nat)) /\ Below w.heap.size w w' := vars_any c w h hw hvl
theorem dis_lenH (l : List Tm) : (dis (vrs l)).length = (disT l).length := by rw [<- disT_n, List.length_map]
def nvH (c : Ck) : Nat := (disT (Ck.terms c)).length
def fitH (B : List At) (U : List Int) (F : List At) (i : Nat) : Bool := decide (B[i]? = (U[i]?).bind fun u => F[u.toNat]?)
def usH (U : List Int) (n : Nat) : Bool := U.all fun u => decide (0 <= u /\ u < (n : Int))
def ruleH (c : Ck) (V : List Tm) (U : List Int) (F : List At) : Except Int At :=
 if chkH c ≠ 0 then .error 122
 else if V.length ≠ nvH c then .error 123
 else if V.all Tm.con = false then .error 123
 else if U.length ≠ c.2.1.length then .error 124
 else if usH U F.length = false then .error 124
 else if (mapC (ins V) c).2.2.all Te.holds = false then .error 125
 else if (List.range (mapC (ins V) c).2.1.length).all (fitH (mapC (ins V) c).2.1 U F) = false then .error 126
 else .ok (mapC (ins V) c).1
def stepH (R : List Ck) (s : Sk) (F : List At) : Except Int At :=
 if 0 <= s.1 then match R[s.1.toNat]? with
  | none => .error 122
  | some c => ruleH c s.2.1 s.2.2 F
 else .error 122
theorem stepH_none {R : List Ck} {s : Sk} {F : List At} (h : ¬ (0 <= s.1 /\ s.1 < (R.length : Int))) : stepH R s F = .error 122 := by
 unfold stepH
 by_cases h0 : 0 <= s.1
 ·rw [if_pos h0, List.getElem?_eq_none (by omega)]
 ·rw [if_neg h0]
theorem stepH_some {R : List Ck} {s : Sk} {F : List At} {c : Ck} (h0 : 0 <= s.1) (h : R[s.1.toNat]? = some c) : stepH R s F = ruleH c s.2.1 s.2.2 F := by
 unfold stepH
 rw [if_pos h0, h]
theorem ruleH_1 {c : Ck} {V : List Tm} {U : List Int} {F : List At} (h : chkH c ≠ 0) : ruleH c V U F = .error 122 := by unfold ruleH; rw [if_pos h]
theorem ruleH_2 {c : Ck} {V : List Tm} {U : List Int} {F : List At} (h : chkH c = 0) (h2 : V.length ≠ nvH c) : ruleH c V U F = .error 123 := by unfold ruleH; rw [if_neg (by rw [h]; simp), if_pos h2]
theorem ruleH_3 {c : Ck} {V : List Tm} {U : List Int} {F : List At} (h : chkH c = 0) (h2 : V.length = nvH c) (h3 : V.all Tm.con = false) : ruleH c V U F = .error 123 := by unfold ruleH; rw [if_neg (by rw [h]; simp), if_neg (by simp [h2]), if_pos h3]
theorem ruleH_4 {c : Ck} {V : List Tm} {U : List Int} {F : List At} (h : chkH c = 0) (h2 : V.length = nvH c) (h3 : V.all Tm.con = true) (h4 : U.length ≠ c.2.1.length) : ruleH c V U F = .error 124 := by unfold ruleH; rw [if_neg (by rw [h]; simp), if_neg (by simp [h2]), if_neg (by simp [h3]), if_pos h4]
theorem ruleH_5 {c : Ck} {V : List Tm} {U : List Int} {F : List At} (h : chkH c = 0) (h2 : V.length = nvH c) (h3 : V.all Tm.con = true) (h4 : U.length = c.2.1.length) (h5 : usH U F.length = false) : ruleH c V U F = .error 124 := by unfold ruleH; rw [if_neg (by rw [h]; simp), if_neg (by simp [h2]), if_neg (by simp [h3]), if_neg (by simp [h4]), if_pos h5]
theorem ruleH_6 {c : Ck} {V : List Tm} {U : List Int} {F : List At} (h : chkH c = 0) (h2 : V.length = nvH c) (h3 : V.all Tm.con = true) (h4 : U.length = c.2.1.length) (h5 : usH U F.length = true) (h6 : (mapC (ins V) c).2.2.all Te.holds = false) : ruleH c V U F = .error 125 := by unfold ruleH; rw [if_neg (by rw [h]; simp), if_neg (by simp [h2]), if_neg (by simp [h3]), if_neg (by simp [h4]), if_neg (by simp [h5]), if_pos h6]
theorem ruleH_7 {c : Ck} {V : List Tm} {U : List Int} {F : List At} (h : chkH c = 0) (h2 : V.length = nvH c) (h3 : V.all Tm.con = true) (h4 : U.length = c.2.1.length) (h5 : usH U F.length = true) (h6 : (mapC (ins V) c).2.2.all Te.holds = true) (h7 : (List.range (mapC (ins V) c).2.1.length).all (fitH (mapC (ins V) c).2.1 U F) = false) : ruleH c V U F = .error 126 := by unfold ruleH; rw [if_neg (by rw [h]; simp), if_neg (by simp [h2]), if_neg (by simp [h3]), if_neg (by simp [h4]), if_neg (by simp [h5]), if_neg (by simp [h6]), if_pos h7]
theorem ruleH_8 {c : Ck} {V : List Tm} {U : List Int} {F : List At} (h : chkH c = 0) (h2 : V.length = nvH c) (h3 : V.all Tm.con = true) (h4 : U.length = c.2.1.length) (h5 : usH U F.length = true) (h6 : (mapC (ins V) c).2.2.all Te.holds = true) (h7 : (List.range (mapC (ins V) c).2.1.length).all (fitH (mapC (ins V) c).2.1 U F) = true) : ruleH c V U F = .ok (mapC (ins V) c).1 := by unfold ruleH; rw [if_neg (by rw [h]; simp), if_neg (by simp [h2]), if_neg (by simp [h3]), if_neg (by simp [h4]), if_neg (by simp [h5]), if_neg (by simp [h6]), if_neg (by simp [h7])]
def allH (R : List Ck) : List Sk -> List At -> Except Int (List At)
 | [], F => .ok F
 | s :: S, F => match stepH R s F with
  | .error c => .error c
  | .ok a => allH R S (F ++ [a])
def conH (R : List Ck) (S : List Sk) : Except Int (List At) := if S.length = 0 ∨ 5000 < S.length then .error 121 else allH R S []
theorem allF {α : Type} {l : List α} {p : α -> Bool} {j : Nat} {x : α} (h : l[j]? = some x) (hp : p x = false) : l.all p = false := by
 rw [List.all_eq_false]
 exact ⟨x, List.mem_of_getElem? h, by rw [hp]; simp⟩
theorem allT {α : Type} {l : List α} {p : α -> Bool} (h : ∀ (j : Nat) (x : α), l[j]? = some x -> p x = true) : l.all p = true := by
 rw [List.all_eq_true]
 intro x hx
 obtain ⟨j, hj⟩ := List.mem_iff_getElem?.1 hx
 exact h j x hj
end Go.Proofs.YtcejljehjhlonaaGreatDoor
namespace Go.Proofs.YtcejljehjhlonaaGreatDoor
open Go.RowKit
attribute [local go_sem ↓] Go.wp_at_zero Go.wp_at_succ

set_option maxHeartbeats 1000000 in
theorem eqT_any (a b : List Tm) (x y : Value) (w : World) (h : Ts w x a) (h' : Ts w y b) :
  Calls Tryz.prog 50 #[x, y] w fun e w' => e = .returned (.bool (decide (a = b))) /\ Below w.heap.size w w' := by
 obtain ⟨ad, cap, rfl, hl, h⟩ := h
 obtain ⟨ad', cap', rfl, hl', h'⟩ := h'
 by_cases e2 : a.length = b.length
 ·have hq2 : ((a.length : Int) == (b.length : Int)) = true := by simp; omega
  have hq3 : ((a.length : Int) != (b.length : Int)) = false := by simp; omega
  have E2 : Hid (a.length = b.length) := e2
  clear e2
  go_enter Tryz.func50, Tryz.ntmps50
  go_wp2
  go_loopg [13] a.length (fun g i wr => ∃ j : Nat, j + g = a.length /\ i = .int .i64 j /\ (a = b ↔ a.drop j = b.drop j) /\ Below w.heap.size w wr)
  case atStart => exact ⟨0, by omega, rfl, by simp, Below.refl _ _⟩
  case round =>
   obtain ⟨j, hj, rfl, hgo, hb⟩ := hrel
   have HG : Hid (a = b ↔ a.drop j = b.drop j) := hgo
   clear hgo
   cases gk with
   | succ g =>
    have hlt : (j : Int) < (a.length : Int) := by omega
    have hlt' : (j : Int) < (b.length : Int) := by have := E2.out; omega
    have j0 : (0 : Int) <= (j : Int) := by omega
    obtain ⟨t, ht⟩ : ∃ t, a[j]? = some t := ⟨_, List.getElem?_eq_getElem (by omega)⟩
    obtain ⟨u, hu⟩ : ∃ u, b[j]? = some u := ⟨_, List.getElem?_eq_getElem (by omega)⟩
    have HS : Hid ((a = b) ↔ (t = u /\ a.drop (j + 1) = b.drop (j + 1))) := HG.out.trans (drop_eq_step a b j t u ht hu)
    rcases h with h | ⟨b1, o1, rfl, hb1, h⟩
    ·subst h; simp at hj
    rcases h' with h' | ⟨b2, o2, rfl, hb2, h'⟩
    ·subst h'; simp at hu
    obtain ⟨p0, p1, p2⟩ := h j t ht
    obtain ⟨q0, q1, q2⟩ := h' j u hu
    rw [<- hb.cell (p := ⟨b1, _, none⟩) hb1] at p0 p1 p2
    rw [<- hb.cell (p := ⟨b2, _, none⟩) hb2] at q0 q1 q2
    have he := run_neq_tm t u
    clear h h' ht hu
    obtain ⟨tk, tn, ts⟩ := t
    obtain ⟨uk, un, us⟩ := u
    simp only at p0 p1 p2 q0 q1 q2
    by_cases htu : Tm.mk tk tn ts = ⟨uk, un, us⟩
    ·have HS2 : Hid (a = b ↔ a.drop (j + 1) = b.drop (j + 1)) := by
      have := HS.out; show a = b ↔ _; simpa [htu] using this
     rw [decide_eq_true htu] at he
     clear htu
     go_wp2
     go_quiet (fail)
     go_wp2
     go_roundg g
     case measure => omega
     case rel => exact ⟨j + 1, by omega, by go_num, HS2.out, below_drewN hb _⟩
    ·have HS2 : Hid (decide (a = b) = false) := decide_eq_false fun e => htu (HS.out.1 e).1
     rw [decide_eq_false htu] at he
     clear htu
     go_wp2
     go_quiet (fail)
     go_wp2
     go_ret
     exact ⟨ret_b HS2.out.symm, below_drewN hb _⟩
   | zero =>
    have hlt : ¬ (j : Int) < (a.length : Int) := by omega
    have HS2 : Hid (decide (a = b) = true) := decide_eq_true (HG.out.2 (by rw [List.drop_eq_nil_of_le (by omega), List.drop_eq_nil_of_le (by have := E2.out; omega)]))
    clear hj h h'
    go_wp2
    go_ret
    exact ⟨ret_b HS2.out.symm, hb⟩
 ·have hq2 : ((a.length : Int) == (b.length : Int)) = false := by simp; omega
  have hq3 : ((a.length : Int) != (b.length : Int)) = true := by simp; omega
  have HS2 : Hid (decide (a = b) = false) := decide_eq_false fun e => e2 (by rw [e])
  clear e2 h h'
  go_enter Tryz.func50, Tryz.ntmps50
  go_wp2
  go_ret
  exact ⟨ret_b HS2.out.symm, Below.refl _ _⟩

set_option maxHeartbeats 1000000 in
theorem hsame_any (a b : At) (x y : Value) (w : World) (h : Ts w x a.args) (h' : Ts w y b.args) :
  Calls Tryz.prog 28 #[a.v x, b.v y] w fun e w' => e = .returned (.bool (decide (a = b))) /\ Below w.heap.size w w' := by
 obtain ⟨⟨k, n, s⟩, nm, l⟩ := a
 obtain ⟨⟨k', n', s'⟩, nm', l'⟩ := b
 have HX : Hid (Ts w x l) := h
 have HY : Hid (Ts w y l') := h'
 obtain ⟨xa, xc, hxs, -⟩ := h
 obtain ⟨ya, yc, hys, -⟩ := h'
 simp only at hxs hys
 subst hxs hys
 obtain ⟨r, hr⟩ : ∃ r, decide (At.mk ⟨k, n, s⟩ nm l = At.mk ⟨k', n', s'⟩ nm' l') = r := ⟨_, rfl⟩
 rw [hr]
 have HR : Hid ((decide (Tm.mk k n s = ⟨k', n', s'⟩) && (decide (nm.toList = nm'.toList) && decide (l = l'))) = r) := by
  show _ = r
  rw [<- hr, Bool.eq_iff_iff]
  simp only [Bool.and_eq_true, decide_eq_true_eq, At.mk.injEq]
  exact ⟨fun ⟨p, q, r⟩ => ⟨p, toList_inj q, r⟩, fun ⟨p, q, r⟩ => ⟨p, by rw [q], r⟩⟩
 clear hr
 have he := run_eql_tm ⟨k, n, s⟩ ⟨k', n', s'⟩
 by_cases e2 : Tm.mk k n s = ⟨k', n', s'⟩
 ·rw [decide_eq_true e2] at he
  by_cases e1 : nm.toList = nm'.toList
  ·have hq1 : (nm.toList == nm'.toList) = true := by simpa using e1
   have HR2 : Hid (decide (l = l') = r) := by show _ = r; rw [<- HR.out]; simp [e1, e2]
   clear e1 e2 HR
   go_enter Tryz.func28, Tryz.ntmps28
   go_wp2_with (go_at_call 50; refine (eqT_any l l' _ _ _ (HX.out.later (below2 _ _ _)) (HY.out.later (below2 _ _ _))).mono ?_; rw [HR2.out]; rintro e w1 ⟨rfl, hb1⟩)
   go_ret
   exact ⟨rfl, below_step (below2 _ _ _) hb1⟩
  ·have HR2 : Hid (false = r) := by show false = r; rw [<- HR.out]; simp [e1]
   have hq1 : (nm.toList == nm'.toList) = false := by simpa using e1
   clear e1 e2 HR
   go_enter Tryz.func28, Tryz.ntmps28
   go_wp2
   go_ret
   exact ⟨ret_b HR2.out, below2 _ _ _⟩
 ·have HR2 : Hid (false = r) := by show false = r; rw [<- HR.out]; simp [e2]
  rw [decide_eq_false e2] at he
  clear e2 HR
  go_enter Tryz.func28, Tryz.ntmps28
  go_wp2
  go_ret
  exact ⟨ret_b HR2.out, below2 _ _ _⟩
def pH (c : Int) : PanicEntry := { v := .iface 28 (.int .i64 c), recovered := false }
theorem demand_yes (c : Int) (w : World) : Calls Tryz.prog 32 #[.bool true, .int .i64 c] w fun e w' => e = .returned (.tuple #[]) /\ w' = w := by
 go_enter Tryz.func32, Tryz.ntmps32
 go_wp2
 go_end0
 exact ⟨rfl, rfl⟩
theorem demand_no (c : Int) (w : World) : Calls Tryz.prog 32 #[.bool false, .int .i64 c] w fun e w' => e = .panicked [pH c] /\ w' = w := by
 go_enter Tryz.func32, Tryz.ntmps32
 go_wp2
 exact ⟨rfl, rfl, rfl⟩
theorem isPlace_any (n : Int) (m : Nat) (w : World) : Calls Tryz.prog 33 #[.int .i64 n, .int .i64 (m : Int)] w fun e w' => e = .returned (.bool (decide (0 <= n /\ n < (m : Int)))) /\ w' = w := by
 by_cases h0 : 0 <= n
 ·by_cases h1 : n < (m : Int)
  ·have hd : decide (0 <= n /\ n < (m : Int)) = true := decide_eq_true ⟨h0, h1⟩
   rw [hd]
   clear hd
   go_enter Tryz.func33, Tryz.ntmps33
   go_wp2
   go_ret
   exact ⟨rfl, rfl⟩
  ·have hd : decide (0 <= n /\ n < (m : Int)) = false := decide_eq_false (fun h => h1 h.2)
   rw [hd]
   clear hd
   go_enter Tryz.func33, Tryz.ntmps33
   go_wp2
   go_ret
   exact ⟨rfl, rfl⟩
 ·have hd : decide (0 <= n /\ n < (m : Int)) = false := decide_eq_false (fun h => h0 h.1)
  rw [hd]
  clear hd
  go_enter Tryz.func33, Tryz.ntmps33
  go_wp2
  go_ret
  exact ⟨rfl, rfl⟩
end Go.Proofs.YtcejljehjhlonaaGreatDoor

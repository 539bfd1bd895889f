import Derived.Test.YtnikmcmkbjjcdaaGreatDoorJ4
import Derived.Test.YtnikmcmkbjjcdaaGreatDoorPR4
/-
  syntax: Program; law 5's first.
-/
namespace Go.Proofs.YtnikmcmkbjjcdaaGreatDoor
open Go.RowKit
attribute [local go_sem ↓] Go.wp_at_zero Go.wp_at_succ

theorem pair_put {w : World} {g : Nat} {t : TypeId} {x y a b : Value} (h : Bk w g #[x, y] t) : Bk ((w.setCell ⟨g, 0, none⟩ a).setCell ⟨g, 1, none⟩ b) g #[a, b] t := by
  have := (h.set 0 a).set 1 b
  simpa using this
set_option maxRecDepth 20000 in
set_option maxHeartbeats 2000000 in
theorem program_any (s : ByteArray) (hs : s.size ≤ 9000000) (w : World) (hE : EnvOk w) (hO : OpsOk w) :
    Calls Tryz.prog 10 #[.string s] w (ReP w (pg5 s 1048576)) := by
  have HB0 := hm7 (below1 w (.cells #[.int .i64 0, .int .i64 0] 26))
  have HR0 := hm7 (Bk.new w #[.int .i64 0, .int .i64 0] 26)
  have HRD := hm7 (readC_any s 1048576 hs (by decide) _ (hE.later HB0.out) (hO.fr (P := fun _ => False) (Fr.of HB0.out) fun h => h))
  obtain ⟨R, hR⟩ : ∃ R, pg5 s 1048576 = R := ⟨_, rfl⟩
  rw [hR] at HRD ⊢
  clear hE hO hR
  have HWZ : Hid ((w.alloc (.cells #[.int .i64 0, .int .i64 0] 26)).heap.size = w.heap.size + 1) := by show _ = _; simp
  go_enter Tryz.func10, Tryz.ntmps10
  go_wp2_with (go_at_call 28; refine HRD.out.mono ?_; rintro e W1 ⟨hb, v, c, a, rfl, hm⟩; have HM := hm7 hm; have HR1 := hm7 (HR0.out.below hb); have HB1 := hm7 (HB0.out.trans (hb.mono HB0.out.size)); have r0 := HR1.out.cell (i := 0) rfl; have r1 := HR1.out.cell (i := 1) rfl; have f0 := HR1.out.froz 0; have f1 := HR1.out.froz 1; have hrl := HR1.out.lt; clear hb hm)
  have HR2 := hm7 (pair_put (a := .int .i64 c) (b := .int .i64 a) HR1.out)
  have z0 := HR2.out.cell (i := 0) rfl
  have z1 := HR2.out.cell (i := 1) rfl
  refine bodyPost_ret (v := .tuple #[v, .agg #[.int .i64 c, .int .i64 a]]) (by simp [results, Tryz.results10, go_sem, z0, z1]) rfl ?_
  have hfq : Fr (fun b => b = w.heap.size) W1 ((W1.setCell ⟨w.heap.size, 0, none⟩ (.int .i64 c)).setCell ⟨w.heap.size, 1, none⟩ (.int .i64 a)) := ((Fr.refl (fun b => b = w.heap.size) _).set (Or.inl rfl)).set (Or.inl rfl)
  refine ⟨(HB1.out.setCell (p := ⟨w.heap.size, 0, none⟩) (Nat.le_refl _) _).setCell (p := ⟨w.heap.size, 1, none⟩) (Nat.le_refl _) _, v, c, a, rfl, ?_⟩
  have hm := HM.out
  cases R with
  | error f => exact hm
  | ok ks =>
    obtain ⟨h1, h2, l, h3, h4⟩ := hm
    refine ⟨h1, h2, l, h3, (h4.fr hfq fun b hb e => ?_).mono fun b _ hb => ?_⟩
    · have := HWZ.out; omega
    · have := HWZ.out; omega
/-- The text whose meaning the document fixes, and what is printed of it. -/
def fT1 : ByteArray := ⟨#[112, 40, 88, 41, 32, 58, 45, 32, 40, 113, 40, 88, 44, 32, 95, 41, 59, 32, 88, 32, 33, 61, 32, 51, 44, 32, 97, 110, 110, 32, 115, 97, 121, 115, 32, 114, 40, 88, 41, 41, 46]⟩
def fT2 : ByteArray := ⟨#[112, 40, 86, 48, 41, 32, 58, 45, 32, 97, 110, 110, 32, 115, 97, 121, 115, 32, 114, 40, 86, 48, 41, 44, 32, 86, 48, 32, 33, 61, 32, 51, 46]⟩
def okF : Bool := match pg5 fT1 1048576 with
  | .ok [a, b] => decide (a.2.1.length = 1 ∧ b.2.2.length = 1 ∧ pc5 b = fT2 ∧ (∀ t ∈ Ck.terms b, (-9223372036854775808 ≤ t.n ∧ t.n ≤ 9223372036854775807)) ∧ (Ck.terms b).length ≤ 100)
  | _ => false
set_option maxRecDepth 100000 in
theorem okF_yes : okF = true := by kernel_rfl
end Go.Proofs.YtnikmcmkbjjcdaaGreatDoor
/-
  SyntaxDeep: PLAIN: the text's tokens; what they say.
-/
namespace Go.Proofs.YtnikmcmkbjjcdaaGreatDoor
open Go.RowKit

/-- The text. -/
def dx5 : Nat → ByteArray
  | 0 => ⟨#[112, 32, 58, 45, 32]⟩
  | n + 1 => dx5 n ++ (⟨#[40]⟩ : ByteArray)
def dy5 (n : Nat) : Nat → ByteArray
  | 0 => dx5 n ++ (⟨#[113]⟩ : ByteArray)
  | m + 1 => dy5 n m ++ (⟨#[41]⟩ : ByteArray)
def dt5 (n m : Nat) : ByteArray := dy5 n m ++ (⟨#[46]⟩ : ByteArray)
theorem bl_app5 (s t : ByteArray) : blK (s ++ t) = blK s ++ blK t := by
  unfold blK
  simp
theorem bl_dx (n : Nat) : blK (dx5 n) = [112, 32, 58, 45, 32] ++ List.replicate n 40 := by
  induction n with
  | zero => rfl
  | succ n ih => rw [dx5, bl_app5, ih, List.replicate_succ', List.append_assoc]; rfl
theorem bl_dt (n m : Nat) : blK (dt5 n m) = [112, 32, 58, 45, 32] ++ List.replicate n 40 ++ [113] ++ List.replicate m 41 ++ [46] := by
  have h : blK (dy5 n m) = [112, 32, 58, 45, 32] ++ List.replicate n 40 ++ [113] ++ List.replicate m 41 := by
    induction m with
    | zero => rw [dy5, bl_app5, bl_dx]; simp; rfl
    | succ m ih => rw [dy5, bl_app5, ih, List.replicate_succ', List.append_assoc, List.append_assoc]; simp; rfl
  rw [dt5, bl_app5, h]
  rfl
theorem dt5_size (n m : Nat) : (dt5 n m).size = 7 + n + m := by
  have h := congrArg List.length (bl_dt n m)
  rw [bl_len] at h
  simp at h
  omega
def tkO (o : Nat) : Tk := ⟨6, ofL [], 0, (o : Int), ((o + 1 : Nat) : Int)⟩
def tkS (o : Nat) : Tk := ⟨7, ofL [], 0, (o : Int), ((o + 1 : Nat) : Int)⟩
theorem tok_open (x : Int) (r : List Int) (hx : x = 40 ∨ x = 113) : tok (40 :: x :: r) = .ok 6 [] 0 1 := by
  rcases hx with rfl | rfl <;> rfl
theorem tok_shut (x : Int) (r : List Int) (hx : x = 41 ∨ x = 46) : tok (41 :: x :: r) = .ok 7 [] 0 1 := by
  rcases hx with rfl | rfl <;> rfl
theorem ct_one {f : Nat} {c : Int} {r : List Int} {off : Nat} {acc : List Tk} {k n : Int} (h1 : ¬ (c = 32 ∨ c = 9 ∨ c = 10 ∨ c = 13)) (h2 : ¬ c = 37) (ht : tok (c :: r) = .ok k [] n 1) : ct (f + 1) (c :: r) off acc = ct f r (off + 1) (acc ++ [⟨k, ofL [], n, off, (off + 1 : Nat)⟩]) := by
  rw [ct, if_neg h1, if_neg h2, ht]
  rfl
theorem ct_opens (tail : List Int) (ht : ∃ x r, tail = x :: r ∧ (x = 40 ∨ x = 113)) : ∀ (n f off : Nat) (acc : List Tk), ct (f + n) (List.replicate n 40 ++ tail) off acc = ct f tail (off + n) (acc ++ (List.range n).map fun i => tkO (off + i))
  | 0, f, off, acc => by simp
  | n + 1, f, off, acc => by
    obtain ⟨x, r, hxr, hx⟩ := ht
    have h1 : ∃ y r', List.replicate n 40 ++ tail = y :: r' ∧ (y = 40 ∨ y = 113) := by
      cases n with
      | zero => exact ⟨x, r, by rw [hxr]; rfl, hx⟩
      | succ n => exact ⟨40, List.replicate n 40 ++ tail, rfl, Or.inl rfl⟩
    obtain ⟨y, r', hy, hy2⟩ := h1
    have h2 : ct (f + (n + 1)) (List.replicate (n + 1) 40 ++ tail) off acc = ct (f + n) (List.replicate n 40 ++ tail) (off + 1) (acc ++ [tkO off]) := by
      rw [List.replicate_succ, List.cons_append, ← Nat.add_assoc]
      exact ct_one (by omega) (by omega) (by rw [hy]; exact tok_open y r' hy2)
    rw [h2, ct_opens tail ⟨x, r, hxr, hx⟩ n f (off + 1) (acc ++ [tkO off]), List.range_succ_eq_map, List.map_cons, List.map_map, List.append_assoc]
    congr 1
    · omega
    · congr 1
      simp only [List.singleton_append, Nat.add_zero, List.cons.injEq, true_and]
      apply List.map_congr_left
      intro i _
      simp only [Function.comp]
      congr 1
      omega
theorem ct_shuts : ∀ (m f off : Nat) (acc : List Tk), ct (f + m) (List.replicate m 41 ++ [46]) off acc = ct f [46] (off + m) (acc ++ (List.range m).map fun i => tkS (off + i))
  | 0, f, off, acc => by simp
  | m + 1, f, off, acc => by
    have h1 : ∃ y r', List.replicate m 41 ++ [46] = y :: r' ∧ (y = 41 ∨ y = (46 : Int)) := by
      cases m with
      | zero => exact ⟨46, [], rfl, Or.inr rfl⟩
      | succ m => exact ⟨41, List.replicate m 41 ++ [46], rfl, Or.inl rfl⟩
    obtain ⟨y, r', hy, hy2⟩ := h1
    have h2 : ct (f + (m + 1)) (List.replicate (m + 1) 41 ++ [46]) off acc = ct (f + m) (List.replicate m 41 ++ [46]) (off + 1) (acc ++ [tkS off]) := by
      rw [List.replicate_succ, List.cons_append, ← Nat.add_assoc]
      exact ct_one (by omega) (by omega) (by rw [hy]; exact tok_shut y r' hy2)
    rw [h2, ct_shuts m f (off + 1) (acc ++ [tkS off]), List.range_succ_eq_map, List.map_cons, List.map_map, List.append_assoc]
    congr 1
    · omega
    · congr 1
      simp only [List.singleton_append, Nat.add_zero, List.cons.injEq, true_and]
      apply List.map_congr_left
      intro i _
      simp only [Function.comp]
      congr 1
      omega
def tkP : Tk := ⟨1, ofL [112], 0, 0, 1⟩
def tkI : Tk := ⟨11, ofL [], 0, 2, 4⟩
def tkQ (o : Nat) : Tk := ⟨1, ofL [113], 0, (o : Int), ((o + 1 : Nat) : Int)⟩
def tkD (o : Nat) : Tk := ⟨10, ofL [], 0, (o : Int), ((o + 1 : Nat) : Int)⟩
/-- Its tokens. -/
def dT5 (n m : Nat) : List Tk := [tkP, tkI] ++ ((List.range n).map fun i => tkO (5 + i)) ++ [tkQ (5 + n)] ++ ((List.range m).map fun i => tkS (6 + n + i)) ++ [tkD (6 + n + m)]
theorem ct_word (f off : Nat) (acc : List Tk) (x : Int) (r : List Int) (hx : x = 41 ∨ x = 46) : ct (f + 1) (113 :: x :: r) off acc = ct f (x :: r) (off + 1) (acc ++ [tkQ off]) := by
  rcases hx with rfl | rfl
  · rfl
  · rfl
theorem cut_dt (n m : Nat) (hn : n ≤ 200) (hm : m ≤ 200) : cutL (blK (dt5 n m)) 1048576 = (dT5 n m, 0, 0) := by
  unfold cutL
  rw [if_neg (by rw [bl_len, dt5_size]; omega), bl_len, dt5_size, bl_dt]
  have e1 : [112, 32, 58, 45, 32] ++ List.replicate n (40 : Int) ++ [113] ++ List.replicate m 41 ++ [46] = 112 :: 32 :: 58 :: 45 :: 32 :: (List.replicate n 40 ++ (113 :: (List.replicate m 41 ++ [46]))) := by simp
  rw [e1]
  have hb : ∀ (f : Nat) (t : List Int), ct (f + 5) (112 :: 32 :: 58 :: 45 :: 32 :: t) 0 [] = ct (f + 1) t 5 [tkP, tkI] := fun f t => rfl
  rw [show 7 + n + m + 1 = (n + m + 3) + 5 by omega, hb, show n + m + 3 + 1 = (m + 4) + n by omega, ct_opens _ ⟨113, _, rfl, Or.inr rfl⟩]
  have h1 : ∃ y r', List.replicate m 41 ++ [46] = y :: r' ∧ (y = 41 ∨ y = (46 : Int)) := by
    cases m with
    | zero => exact ⟨46, [], rfl, Or.inr rfl⟩
    | succ m => exact ⟨41, List.replicate m 41 ++ [46], rfl, Or.inl rfl⟩
  obtain ⟨y, r', hy, hy2⟩ := h1
  rw [hy, show m + 4 = (m + 3) + 1 by omega, ct_word _ _ _ y r' hy2, ← hy, show m + 3 = 3 + m by omega, ct_shuts]
  have hd : ∀ (off : Nat) (acc : List Tk), ct 3 [46] off acc = (acc ++ [tkD off], 0, 0) := fun off acc => rfl
  rw [hd, show 5 + n + 1 = 6 + n by omega]
  unfold dT5
  simp only [List.append_assoc]
/-- What stands where. -/
structure DT (n m : Nat) (T : List Tk) : Prop where
  p : T[0]? = some tkP
  i : T[1]? = some tkI
  o : ∀ i, i < n → T[2 + i]? = some (tkO (5 + i))
  q : T[2 + n]? = some (tkQ (5 + n))
  s : ∀ j, j < m → T[3 + n + j]? = some (tkS (6 + n + j))
  d : T[3 + n + m]? = some (tkD (6 + n + m))
  l : T.length = 4 + n + m
theorem dt_dT (n m : Nat) : DT n m (dT5 n m) := by
  have e : dT5 n m = tkP :: tkI :: (((List.range n).map fun i => tkO (5 + i)) ++ (tkQ (5 + n) :: (((List.range m).map fun i => tkS (6 + n + i)) ++ [tkD (6 + n + m)]))) := by unfold dT5; simp
  have g : ∀ k, (dT5 n m)[2 + k]? = (((List.range n).map fun i => tkO (5 + i)) ++ (tkQ (5 + n) :: (((List.range m).map fun i => tkS (6 + n + i)) ++ [tkD (6 + n + m)])))[k]? := fun k => by
    rw [e, show 2 + k = k + 1 + 1 by omega, List.getElem?_cons_succ, List.getElem?_cons_succ]
  have ln : ((List.range n).map fun i => tkO (5 + i)).length = n := by simp
  have lm : ((List.range m).map fun i => tkS (6 + n + i)).length = m := by simp
  refine ⟨by rw [e]; rfl, by rw [e]; rfl, fun i hi => ?_, ?_, fun j hj => ?_, ?_, ?_⟩
  · rw [g, List.getElem?_append_left (by rw [ln]; exact hi), List.getElem?_map, List.getElem?_range hi]; rfl
  · rw [g, List.getElem?_append_right (by rw [ln]; exact Nat.le_refl _), ln, Nat.sub_self]; rfl
  · rw [show 3 + n + j = 2 + (n + 1 + j) by omega, g, List.getElem?_append_right (by rw [ln]; omega), ln, show n + 1 + j - n = j + 1 by omega, List.getElem?_cons_succ, List.getElem?_append_left (by rw [lm]; exact hj), List.getElem?_map, List.getElem?_range hj]; rfl
  · rw [show 3 + n + m = 2 + (n + 1 + m) by omega, g, List.getElem?_append_right (by rw [ln]; omega), ln, show n + 1 + m - n = m + 1 by omega, List.getElem?_cons_succ, List.getElem?_append_right (by rw [lm]; exact Nat.le_refl _), lm, Nat.sub_self]; rfl
  · rw [e]; simp; omega
theorem kd_at {T : List Tk} {s : Ps} {k : Nat} {t : Tk} (h : T[s.nx + k]? = some t) : kd5 T s k = t.k := by unfold kd5; rw [h]; rfl
theorem tk_at {T : List Tk} {L : Nat} {s : Ps} {t : Tk} {ks : List Int} (h : T[s.nx]? = some t) (hk : t.k ∈ ks) : tk5 T L ks s = .ok (t, ⟨s.nx + 1, s.op, s.vs, s.nm⟩) := by unfold tk5; rw [h]; simp [hk]
theorem tk_no {T : List Tk} {L : Nat} {s : Ps} {t : Tk} {ks : List Int} (h : T[s.nx]? = some t) (hk : ¬ t.k ∈ ks) : tk5 T L ks s = .error (51, t.a) := by unfold tk5; rw [h]; simp [hk]
/-- A bare word is an atom without arguments. -/
theorem at_bare {T : List Tk} {L : Nat} {s : Ps} {t u : Tk} (h : T[s.nx]? = some t) (hk : t.k = 1) (h1 : T[s.nx + 1]? = some u) (h5 : u.k ≠ 5) (h6 : u.k ≠ 6) : at5 T L s = .ok (⟨⟨0, 0, ⟨#[]⟩⟩, t.x, []⟩, ⟨s.nx + 1, s.op, s.vs, s.nm⟩) := by
  have e0 : kd5 T s 0 = 1 := by rw [kd_at (k := 0) h]; exact hk
  have e1 : kd5 T s 1 ≠ 5 := by rw [kd_at (k := 1) h1]; exact h5
  have e2 : by5 T L s = .ok (⟨0, 0, ⟨#[]⟩⟩, s) := by unfold by5; rw [if_pos ⟨e0, e1⟩]
  have e3 : args5 T L ⟨s.nx + 1, s.op, s.vs, s.nm⟩ = .ok ([], ⟨s.nx + 1, s.op, s.vs, s.nm⟩) := by
    unfold args5
    rw [if_neg (by rw [kd_at (s := ⟨s.nx + 1, s.op, s.vs, s.nm⟩) (k := 0) h1]; exact h6)]
  unfold at5
  rw [R5.and_ok e2, R5.and_ok (tk_at (ks := [1]) h (by rw [hk]; simp)), R5.and_ok e3]
/-- One thing alone. -/
theorem list_one {α : Type} {one : Ps → R5 α} {T : List Tk} {L : Nat} {b : Int} {s s' : Ps} {a : α} (h : one s = .ok (a, s')) (hk : kd5 T s' 0 ≠ b) : list5 one T L b s = .ok ([a], s') := by
  unfold list5
  rw [R5.and_ok h]
  unfold ls5
  rw [if_neg hk]
theorem list_err {α : Type} {one : Ps → R5 α} {T : List Tk} {L : Nat} {b : Int} {s : Ps} {e : Int × Int} (h : one s = .error e) : list5 one T L b s = .error e := by
  unfold list5
  rw [R5.and_err h]
theorem alt_one {one : Ps → R5 (List (List Lf5))} {T : List Tk} {L : Nat} {s s' : Ps} {x : List Lf5} (h : one s = .ok ([x], s')) (h8 : kd5 T s' 0 ≠ 8) (h9 : kd5 T s' 0 ≠ 9) : altOf5 one T L s = .ok ([x], s') := by
  have e1 : conjOf5 one T L s = .ok ([x], s') := by
    unfold conjOf5
    rw [R5.and_ok (list_one h h8)]
    simp [cross5]
  unfold altOf5
  rw [R5.and_ok (list_one e1 h9)]
  rfl
theorem alt_err {one : Ps → R5 (List (List Lf5))} {T : List Tk} {L : Nat} {s : Ps} {e : Int × Int} (h : one s = .error e) : altOf5 one T L s = .error e := by
  have e1 : conjOf5 one T L s = .error e := by
    unfold conjOf5
    rw [R5.and_err (list_err h)]
  unfold altOf5
  rw [R5.and_err (list_err e1)]
def qAt5 : At := ⟨⟨0, 0, ⟨#[]⟩⟩, ofL [113], []⟩
/-- The kind behind the closed brackets is none of a list's signs. -/
theorem DT.kind {n m : Nat} {T : List Tk} (h : DT n m T) {s : Ps} (k : Nat) (hk : s.nx = 3 + n + k) (hm : k ≤ m) : kd5 T s 0 ≠ 8 ∧ kd5 T s 0 ≠ 9 := by
  by_cases e : k < m
  · rw [kd_at (k := 0) (t := tkS (6 + n + k)) (by rw [Nat.add_zero, hk]; exact h.s k e)]
    exact ⟨by show (7 : Int) ≠ 8; decide, by show (7 : Int) ≠ 9; decide⟩
  · have e2 : k = m := by omega
    rw [kd_at (k := 0) (t := tkD (6 + n + m)) (by rw [Nat.add_zero, hk, e2]; exact h.d)]
    exact ⟨by show (10 : Int) ≠ 8; decide, by show (10 : Int) ≠ 9; decide⟩
/-- Brackets inside brackets. -/
theorem deep5 {n m L : Nat} {T : List Tk} (h : DT n m T) : ∀ (f i vs : Nat) (nm : ByteArray → Option Nat), i ≤ n → i ≤ 16 → 17 ≤ i + f → lit5 T L f ⟨2 + i, i, vs, nm⟩ = if 16 < n then .error (52, 21) else if n - i ≤ m then .ok ([[.a qAt5]], ⟨3 + n + (n - i), i, vs, nm⟩) else .error (51, ((6 + n + m : Nat) : Int))
  | 0, i, vs, nm, hi, h16, hf => by omega
  | f + 1, i, vs, nm, hi, h16, hf => by
    unfold lit5
    by_cases hin : i < n
    · have ho := h.o i hin
      rw [if_pos (by rw [kd_at (k := 0) ho]; rfl)]
      unfold brOf5
      by_cases e16 : i = 16
      · rw [if_pos e16, if_pos (by omega)]
        show Except.error (52, pl5 T L _) = _
        unfold pl5
        rw [ho, e16]
        rfl
      · rw [if_neg e16, R5.and_ok (tk_at (ks := [6]) ho (by show (6 : Int) ∈ [6]; decide))]
        have ih := deep5 (L := L) h f (i + 1) vs nm (by omega) (by omega) (by omega)
        have e1 : (⟨2 + i + 1, i + 1, vs, nm⟩ : Ps) = ⟨2 + (i + 1), i + 1, vs, nm⟩ := by rw [Nat.add_assoc]
        show R5.and (altOf5 (lit5 T L f) T L ⟨2 + i + 1, i + 1, vs, nm⟩) _ = _
        rw [e1]
        by_cases hn16 : 16 < n
        · rw [if_pos hn16] at ih
          rw [R5.and_err (alt_err ih), if_pos hn16]
        · rw [if_neg hn16] at ih
          rw [if_neg hn16]
          by_cases hm : n - (i + 1) ≤ m
          · rw [if_pos hm] at ih
            obtain ⟨k8, k9⟩ := h.kind (s := ⟨3 + n + (n - (i + 1)), i + 1, vs, nm⟩) (n - (i + 1)) rfl hm
            rw [R5.and_ok (alt_one ih k8 k9)]
            by_cases hm2 : n - i ≤ m
            · have hs := h.s (n - (i + 1)) (by omega)
              rw [R5.and_ok (tk_at (ks := [7]) (s := ⟨3 + n + (n - (i + 1)), i + 1, vs, nm⟩) hs (by show (7 : Int) ∈ [7]; decide)), if_pos hm2]
              have e2 : 3 + n + (n - (i + 1)) + 1 = 3 + n + (n - i) := by omega
              simp only [e2, Nat.add_sub_cancel]
            · have hd : T[3 + n + (n - (i + 1))]? = some (tkD (6 + n + m)) := by rw [show n - (i + 1) = m by omega]; exact h.d
              rw [R5.and_err (tk_no (ks := [7]) (s := ⟨3 + n + (n - (i + 1)), i + 1, vs, nm⟩) hd (by show ¬ (10 : Int) ∈ [7]; decide)), if_neg hm2]
              rfl
          · rw [if_neg hm] at ih
            rw [R5.and_err (alt_err ih), if_neg (by omega)]
    · have e : i = n := by omega
      subst e
      have hq := h.q
      have hnx : ∃ u, T[2 + i + 1]? = some u ∧ u.k ≠ 5 ∧ u.k ≠ 6 ∧ op5 u.k = 0 := by
        cases m with
        | zero => exact ⟨tkD (6 + i + 0), by rw [show 2 + i + 1 = 3 + i + 0 by omega]; exact h.d, by show (10 : Int) ≠ 5; decide, by show (10 : Int) ≠ 6; decide, by show op5 10 = 0; decide⟩
        | succ m => exact ⟨tkS (6 + i + 0), by rw [show 2 + i + 1 = 3 + i + 0 by omega]; exact h.s 0 (by omega), by show (7 : Int) ≠ 5; decide, by show (7 : Int) ≠ 6; decide, by show op5 7 = 0; decide⟩
      obtain ⟨u, hu, hu5, hu6, huo⟩ := hnx
      rw [if_neg (by rw [kd_at (k := 0) hq]; show ¬ (1 : Int) = 6; decide)]
      have hba : ba5 T ⟨2 + i, i, vs, nm⟩ = true := by
        unfold ba5
        rw [if_pos (by rw [kd_at (k := 0) hq]; rfl), kd_at (k := 1) hu, huo]
        rfl
      rw [if_pos hba, R5.and_ok (at_bare hq rfl hu hu5 hu6), if_neg (by omega), if_pos (by omega)]
      simp only [Nat.sub_self, Nat.add_zero, show 2 + i + 1 = 3 + i by omega]
      rfl
def pAt5 : At := ⟨⟨0, 0, ⟨#[]⟩⟩, ofL [112], []⟩
def kDP : Ck := normC (ck5 pAt5 [.a qAt5])
theorem kDP_ch : ch5 kDP = 0 := by kernel_rfl
theorem kDP_body : kDP.2.1 = [qAt5] := by kernel_rfl
/-- What the text says. -/
theorem pg_dt (n m : Nat) (hn : n ≤ 200) (hm : m ≤ 200) : pg5 (dt5 n m) 1048576 = if 16 < n then .error (52, 21) else if n < m then .error (51, ((6 + 2 * n : Nat) : Int)) else if m < n then .error (51, ((6 + n + m : Nat) : Int)) else .ok [kDP] := by
  unfold pg5
  rw [cut_dt n m hn hm]
  dsimp only
  rw [if_pos rfl]
  have h := dt_dT n m
  obtain ⟨T, hT⟩ : ∃ T, dT5 n m = T := ⟨_, rfl⟩
  rw [hT] at h ⊢
  generalize (dt5 n m).size = L
  have hl := h.l
  have e1 : at5 T L (s05 0) = .ok (pAt5, ⟨1, 0, 0, fun _ => none⟩) := at_bare (s := s05 0) h.p rfl h.i (by decide) (by decide)
  have e2 : bd5 T L ⟨1, 0, 0, fun _ => none⟩ = altOf5 (lit5 T L 17) T L ⟨2 + 0, 0, 0, fun _ => none⟩ := by
    unfold bd5
    rw [if_pos (by rw [kd_at (s := ⟨1, 0, 0, fun _ => none⟩) (k := 0) h.i]; rfl), R5.and_ok (tk_at (ks := [11]) (s := ⟨1, 0, 0, fun _ => none⟩) h.i (by decide))]
  have hd := deep5 (L := L) h 17 0 0 (fun _ => none) (Nat.zero_le _) (Nat.zero_le _) (Nat.le_refl _)
  have hrl : ∀ e, altOf5 (lit5 T L 17) T L ⟨2 + 0, 0, 0, fun _ => none⟩ = .error e → rl5 T L 0 = .error e := fun e he => by
    unfold rl5 rh5
    rw [R5.and_ok e1, R5.and_err (e2.trans he)]
  have hp : ∀ (e : Int × Int) (f : Nat), rl5 T L 0 = .error e → pr5 T L (f + 1) [] 0 = .error e := fun e f he => by
    rw [pr5, if_pos (by rw [hl]; omega), he]
  by_cases h16 : 16 < n
  · rw [if_pos h16] at hd ⊢
    exact hp _ _ (hrl _ (alt_err hd))
  · rw [if_neg h16] at hd ⊢
    rw [Nat.sub_zero] at hd
    by_cases hmn : m < n
    · rw [if_neg (by omega)] at hd
      rw [if_neg (by omega), if_pos hmn]
      exact hp _ _ (hrl _ (alt_err hd))
    · rw [if_pos (by omega)] at hd
      obtain ⟨k8, k9⟩ := h.kind (s := ⟨3 + n + n, 0, 0, fun _ => none⟩) n rfl (by omega)
      have ha := alt_one (L := L) hd k8 k9
      by_cases hnm : n < m
      · rw [if_pos hnm]
        have hs := h.s n hnm
        refine hp _ _ ?_
        unfold rl5 rh5
        rw [R5.and_ok e1, R5.and_ok (e2.trans ha), R5.and_err (tk_no (ks := [10]) (s := ⟨3 + n + n, 0, 0, fun _ => none⟩) hs (by show ¬ (7 : Int) ∈ [10]; decide))]
        show Except.error (51, ((6 + n + n : Nat) : Int)) = _
        rw [show 6 + n + n = 6 + 2 * n by omega]
      · rw [if_neg hnm, if_neg hmn]
        have hme : m = n := by omega
        subst hme
        have hrl2 : rl5 T L 0 = .ok ([kDP], 4 + m + m) := by
          unfold rl5 rh5
          rw [R5.and_ok e1, R5.and_ok (e2.trans ha), R5.and_ok (tk_at (ks := [10]) (s := ⟨3 + m + m, 0, 0, fun _ => none⟩) h.d (by show (10 : Int) ∈ [10]; decide))]
          show (if 64 < 1 then (Except.error (53, pl5 T L (s05 0)) : Except (Int × Int) (List Ck × Nat)) else match cls5 (pl5 T L (s05 0)) pAt5 [[.a qAt5]] [] with
            | .error e => Except.error e
            | .ok ks => Except.ok (ks, 3 + m + m + 1)) = _
          rw [if_neg (by decide)]
          have hc : cls5 (pl5 T L (s05 0)) pAt5 [[.a qAt5]] [] = .ok [kDP] := by
            rw [cls5]
            show (if ch5 kDP = 0 then cls5 _ _ [] ([] ++ [kDP]) else _) = _
            rw [if_pos kDP_ch]
            rfl
          rw [hc]
          show Except.ok ([kDP], 3 + m + m + 1) = _
          rw [show 3 + m + m + 1 = 4 + m + m by omega]
        rw [pr5, if_pos (by rw [hl]; omega), hrl2]
        show pr5 T L T.length ([] ++ [kDP]) (4 + m + m) = _
        rw [hl, show 4 + m + m = (3 + m + m) + 1 by omega, pr5, if_neg (by rw [hl]; omega)]
        rfl
end Go.Proofs.YtnikmcmkbjjcdaaGreatDoor

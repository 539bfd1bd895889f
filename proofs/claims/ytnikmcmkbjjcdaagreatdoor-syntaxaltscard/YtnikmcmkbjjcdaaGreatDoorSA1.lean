import Derived.Test.YtnikmcmkbjjcdaaGreatDoorSJ4
import Derived.Test.YtnikmcmkbjjcdaaGreatDoorPR4
import Derived.Lib.AtoiAllCases
import Derived.Laws.AppendOwnNone
import Derived.Laws.AppendOwn
import Derived.Test.YtnikmcmkbjjcdaaGreatDoorSY0
/-
  PLAIN: what is printed is cut into its tokens.
-/
namespace Go.Proofs.YtnikmcmkbjjcdaaGreatDoor
open Go.RowKit

/-- What goes on with no run and with no sign. -/
def St5 (y : List Int) : Prop := rl y = 0 ∧ ∀ r, ¬ y = 61 :: r
/-- Bytes that are cut into these tokens but for their places, whatever stands behind them; b: if it doesn't go on with the last one. -/
def Cz5 (b : Bool) (z : List Int) (l : List Tk) : Prop :=
  byt z ∧ ∀ y, byt y → (b = true → St5 y) → ∀ (f off : Nat) (acc : List Tk), (z ++ y).length < f → ∃ (g : Nat) (T : List Tk), y.length < g ∧ ct f (z ++ y) off acc = ct g y (off + z.length) (acc ++ T) ∧ T.map Tk.bar = l
theorem Cz5.app {b c : Bool} {z y : List Int} {l m : List Tk} (h : Cz5 b z l) (k : Cz5 c y m) (hs : b = true → ∃ x r, y = x :: r ∧ rnb x = false ∧ x ≠ 61) : Cz5 c (z ++ y) (l ++ m) := by
  refine ⟨fun x hx => (List.mem_append.1 hx).elim (h.1 x) (k.1 x), fun u hu hc f off acc hf => ?_⟩
  rw [List.append_assoc] at hf ⊢
  have hyu : byt (y ++ u) := fun x hx => (List.mem_append.1 hx).elim (k.1 x) (hu x)
  obtain ⟨g, T, hg, e, hT⟩ := h.2 (y ++ u) hyu (fun hb => by
    obtain ⟨x, r, rfl, h1, h2⟩ := hs hb
    exact ⟨by show rl (x :: (r ++ u)) = 0; rw [rl_cons, if_neg (by rw [h1]; simp)], fun q e => by simp at e; exact h2 e.1⟩) f off acc hf
  obtain ⟨g', T', hg', e', hT'⟩ := k.2 u hu hc g (off + z.length) (acc ++ T) hg
  refine ⟨g', T ++ T', hg', ?_, by rw [List.map_append, hT, hT']⟩
  rw [e, e', List.length_append, List.append_assoc, Nat.add_assoc]
theorem Cz5.weak {b : Bool} {z : List Int} {l : List Tk} (h : Cz5 b z l) : Cz5 true z l := ⟨h.1, fun y hy hs => h.2 y hy fun _ => hs rfl⟩
theorem Cz5.tok {t : Tk} {s : ByteArray} (hs : spl t = some s) (ho : okt t) (hb : t = t.bar) : Cz5 (enr t.k || decide (t.k = 15)) (blK s) [t] := by
  refine ⟨bl_byt s, fun y hy hst f off acc hf => ?_⟩
  have hst2 : stp t y := ⟨fun he => (hst (by rw [he]; rfl)).1, fun hk => (hst (by simp [hk])).2⟩
  obtain ⟨c, r, ec, n1, n2, -, -⟩ := spl_head hs
  obtain ⟨ht, hx⟩ := tok_spl hs ho hst2 hy
  have hd : (blK s ++ y).drop s.size = y := by rw [← bl_len]; exact List.drop_left
  have hl : (blK s).length = s.size := bl_len s
  rw [List.length_append, hl] at hf
  have hsz : 0 < s.size := by rw [← bl_len, ec]; simp
  obtain ⟨f, rfl⟩ : ∃ g, f = g + 1 := ⟨f - 1, by omega⟩
  refine ⟨f, [⟨t.k, t.x, t.n, off, (off + s.size : Nat)⟩], by omega, ?_, ?_⟩
  · rw [hl]
    rw [ec, List.cons_append] at ht hd ⊢
    rw [ct_cons, if_neg n1, if_neg n2, ht]
    show ct f ((c :: (r ++ y)).drop s.size) (off + s.size) (acc ++ [⟨t.k, ofL (tbs t), t.n, off, (off + s.size : Nat)⟩]) = _
    rw [hd, ← hx]
  · show [t.bar] = [t]
    rw [← hb]
theorem Cz5.gap (c : Int) (h : c = 32 ∨ c = 10) : Cz5 false [c] [] := by
  refine ⟨by intro x hx; simp at hx; omega, fun y hy _ f off acc hf => ?_⟩
  simp only [List.singleton_append, List.length_cons] at hf
  obtain ⟨f, rfl⟩ : ∃ g, f = g + 1 := ⟨f - 1, by omega⟩
  refine ⟨f, [], by omega, ?_, rfl⟩
  show ct (f + 1) (c :: y) off acc = _
  rw [ct_cons, if_pos (by omega)]
  simp
/-- A sign's token. -/
def tS (k : Int) : Tk := ⟨k, ⟨#[]⟩, 0, 0, 0⟩
theorem Cz5.sgn {k : Int} {s : ByteArray} (h : spl (tS k) = some s) : Cz5 (enr k || decide (k = 15)) (blK s) [tS k] :=
  Cz5.tok h ⟨by show (0 : Nat) ≤ _; omega, by show -9223372036854775808 ≤ (0 : Int); decide, by show (0 : Int) ≤ _; decide⟩ rfl
theorem sgn_8 : Cz5 false [44] [tS 8] := Cz5.sgn (k := 8) (s := ⟨#[44]⟩) (by kernel_rfl)
theorem sgn_6 : Cz5 false [40] [tS 6] := Cz5.sgn (k := 6) (s := ⟨#[40]⟩) (by kernel_rfl)
theorem sgn_7 : Cz5 false [41] [tS 7] := Cz5.sgn (k := 7) (s := ⟨#[41]⟩) (by kernel_rfl)
theorem sgn_10 : Cz5 false [46] [tS 10] := Cz5.sgn (k := 10) (s := ⟨#[46]⟩) (by kernel_rfl)
theorem sgn_11 : Cz5 false [58, 45] [tS 11] := Cz5.sgn (k := 11) (s := ⟨#[58, 45]⟩) (by kernel_rfl)
theorem z64 : -9223372036854775808 ≤ (0 : Int) ∧ (0 : Int) ≤ 9223372036854775807 := by decide
/-- A name is a word. -/
theorem name_wrd {s : ByteArray} (h : nameOk s = true) : wrd s = true ∧ s.size ≤ 64 := by
  unfold nameOk nameHead at h
  simp only [Bool.and_eq_true, decide_eq_true_eq] at h
  obtain ⟨⟨⟨h1, h2, h3⟩, h4⟩, h5⟩ := h
  have hp : 0 < s.size := size_posK h1
  have hch : ∀ i, i < s.size → ch s i = atK_ s i := fun i hi => by rw [ch_lt s i hi, atK_lt s i hi]
  have h6 : sml (atK_ s 0) = true := by
    rw [hch 0 hp] at h4
    simp only [small, decide_eq_true_eq] at h4
    simp only [sml, Bool.and_eq_true, decide_eq_true_eq]
    exact h4
  have h7 : ∀ d j, s.size - j = d → j ≤ s.size → rne s j = s.size := by
    intro d
    induction d with
    | zero => intro j hd hj; obtain rfl : j = s.size := by omega
              exact rne_end
    | succ d ih =>
      intro j hd hj
      have hlt : j < s.size := by omega
      have h8 := h5 j hlt
      rw [hch j hlt] at h8
      have h9 : rnb (atK_ s j) = true := by
        simp only [nb, decide_eq_true_eq] at h8
        simp only [rnb, sml, grt, dig, Bool.or_eq_true, Bool.and_eq_true, decide_eq_true_eq]
        omega
      rw [← rne_yes hlt h9]
      exact ih (j + 1) (by omega) (by omega)
  have h10 : ¬ s = saysB := fun e => h3 e
  refine ⟨?_, by omega⟩
  unfold wrd
  rw [h6, h7 _ 0 rfl (Nat.zero_le _)]
  simp [h1, h10]
def tN (x : ByteArray) : Tk := ⟨1, x, 0, 0, 0⟩
theorem cz_name {x : ByteArray} (h : nameOk x = true) : Cz5 true (blK x) [tN x] := by
  obtain ⟨h1, h2⟩ := name_wrd h
  refine (Cz5.tok (t := tN x) ?_ ⟨by show x.size ≤ _; omega, z64.1, z64.2⟩ rfl).weak
  exact (if_pos rfl).trans (if_pos ⟨h1, rfl⟩)
end Go.Proofs.YtnikmcmkbjjcdaaGreatDoor
/-
  PLAIN: the tokens of an atom, a test, a clause; how long their texts are.
-/
namespace Go.Proofs.YtnikmcmkbjjcdaaGreatDoor
open Go.RowKit

theorem Cz5.eq {b : Bool} {z z' : List Int} {l l' : List Tk} (h : Cz5 b z l) (hz : z' = z) (hl : l' = l) : Cz5 b z' l' := by rw [hz, hl]; exact h
end Go.Proofs.YtnikmcmkbjjcdaaGreatDoor
/-
  syntax: Program; law 5's first.
-/
namespace Go.Proofs.YtnikmcmkbjjcdaaGreatDoor
open Go.RowKit
attribute [local go_sem ↓] Go.wp_at_zero Go.wp_at_succ

theorem pair_put {w : World} {g : Nat} {t : TypeId} {x y a b : Value} (h : Bk w g #[x, y] t) : Bk ((w.setCell ⟨g, 0, none⟩ a).setCell ⟨g, 1, none⟩ b) g #[a, b] t := by
  have := (h.set 0 a).set 1 b
  simpa using this
set_option maxRecDepth 20000 in
set_option maxHeartbeats 2000000 in
theorem program_any (s : ByteArray) (hs : s.size ≤ 9000000) (w : World) (hE : EnvOk w) (hO : OpsOk w) :
    Calls Tryz.prog 10 #[.string s] w (ReP w (pg5 s 1048576)) := by
  have HB0 := hm7 (below1 w (.cells #[.int .i64 0, .int .i64 0] 26))
  have HR0 := hm7 (Bk.new w #[.int .i64 0, .int .i64 0] 26)
  have HRD := hm7 (readC_any s 1048576 hs (by decide) _ (hE.later HB0.out) (hO.fr (P := fun _ => False) (Fr.of HB0.out) fun h => h))
  obtain ⟨R, hR⟩ : ∃ R, pg5 s 1048576 = R := ⟨_, rfl⟩
  rw [hR] at HRD ⊢
  clear hE hO hR
  have HWZ : Hid ((w.alloc (.cells #[.int .i64 0, .int .i64 0] 26)).heap.size = w.heap.size + 1) := by show _ = _; simp
  go_enter Tryz.func10, Tryz.ntmps10
  go_wp2_with (go_at_call 28; refine HRD.out.mono ?_; rintro e W1 ⟨hb, v, c, a, rfl, hm⟩; have HM := hm7 hm; have HR1 := hm7 (HR0.out.below hb); have HB1 := hm7 (HB0.out.trans (hb.mono HB0.out.size)); have r0 := HR1.out.cell (i := 0) rfl; have r1 := HR1.out.cell (i := 1) rfl; have f0 := HR1.out.froz 0; have f1 := HR1.out.froz 1; have hrl := HR1.out.lt; clear hb hm)
  have HR2 := hm7 (pair_put (a := .int .i64 c) (b := .int .i64 a) HR1.out)
  have z0 := HR2.out.cell (i := 0) rfl
  have z1 := HR2.out.cell (i := 1) rfl
  refine bodyPost_ret (v := .tuple #[v, .agg #[.int .i64 c, .int .i64 a]]) (by simp [results, Tryz.results10, go_sem, z0, z1]) rfl ?_
  have hfq : Fr (fun b => b = w.heap.size) W1 ((W1.setCell ⟨w.heap.size, 0, none⟩ (.int .i64 c)).setCell ⟨w.heap.size, 1, none⟩ (.int .i64 a)) := ((Fr.refl (fun b => b = w.heap.size) _).set (Or.inl rfl)).set (Or.inl rfl)
  refine ⟨(HB1.out.setCell (p := ⟨w.heap.size, 0, none⟩) (Nat.le_refl _) _).setCell (p := ⟨w.heap.size, 1, none⟩) (Nat.le_refl _) _, v, c, a, rfl, ?_⟩
  have hm := HM.out
  cases R with
  | error f => exact hm
  | ok ks =>
    obtain ⟨h1, h2, l, h3, h4⟩ := hm
    refine ⟨h1, h2, l, h3, (h4.fr hfq fun b hb e => ?_).mono fun b _ hb => ?_⟩
    · have := HWZ.out; omega
    · have := HWZ.out; omega
/-- The text whose meaning the document fixes, and what is printed of it. -/
def fT1 : ByteArray := ⟨#[112, 40, 88, 41, 32, 58, 45, 32, 40, 113, 40, 88, 44, 32, 95, 41, 59, 32, 88, 32, 33, 61, 32, 51, 44, 32, 97, 110, 110, 32, 115, 97, 121, 115, 32, 114, 40, 88, 41, 41, 46]⟩
def fT2 : ByteArray := ⟨#[112, 40, 86, 48, 41, 32, 58, 45, 32, 97, 110, 110, 32, 115, 97, 121, 115, 32, 114, 40, 86, 48, 41, 44, 32, 86, 48, 32, 33, 61, 32, 51, 46]⟩
def okF : Bool := match pg5 fT1 1048576 with
  | .ok [a, b] => decide (a.2.1.length = 1 ∧ b.2.2.length = 1 ∧ pc5 b = fT2 ∧ (∀ t ∈ Ck.terms b, (-9223372036854775808 ≤ t.n ∧ t.n ≤ 9223372036854775807)) ∧ (Ck.terms b).length ≤ 100)
  | _ => false
set_option maxRecDepth 100000 in
theorem okF_yes : okF = true := by kernel_rfl
end Go.Proofs.YtnikmcmkbjjcdaaGreatDoor
/-
  SyntaxDeep: PLAIN: the text's tokens; what they say.
-/
namespace Go.Proofs.YtnikmcmkbjjcdaaGreatDoor
open Go.RowKit

theorem kd_at {T : List Tk} {s : Ps} {k : Nat} {t : Tk} (h : T[s.nx + k]? = some t) : kd5 T s k = t.k := by unfold kd5; rw [h]; rfl
theorem tk_at {T : List Tk} {L : Nat} {s : Ps} {t : Tk} {ks : List Int} (h : T[s.nx]? = some t) (hk : t.k ∈ ks) : tk5 T L ks s = .ok (t, ⟨s.nx + 1, s.op, s.vs, s.nm⟩) := by unfold tk5; rw [h]; simp [hk]
/-- A bare word is an atom without arguments. -/
theorem at_bare {T : List Tk} {L : Nat} {s : Ps} {t u : Tk} (h : T[s.nx]? = some t) (hk : t.k = 1) (h1 : T[s.nx + 1]? = some u) (h5 : u.k ≠ 5) (h6 : u.k ≠ 6) : at5 T L s = .ok (⟨⟨0, 0, ⟨#[]⟩⟩, t.x, []⟩, ⟨s.nx + 1, s.op, s.vs, s.nm⟩) := by
  have e0 : kd5 T s 0 = 1 := by rw [kd_at (k := 0) h]; exact hk
  have e1 : kd5 T s 1 ≠ 5 := by rw [kd_at (k := 1) h1]; exact h5
  have e2 : by5 T L s = .ok (⟨0, 0, ⟨#[]⟩⟩, s) := by unfold by5; rw [if_pos ⟨e0, e1⟩]
  have e3 : args5 T L ⟨s.nx + 1, s.op, s.vs, s.nm⟩ = .ok ([], ⟨s.nx + 1, s.op, s.vs, s.nm⟩) := by
    unfold args5
    rw [if_neg (by rw [kd_at (s := ⟨s.nx + 1, s.op, s.vs, s.nm⟩) (k := 0) h1]; exact h6)]
  unfold at5
  rw [R5.and_ok e2, R5.and_ok (tk_at (ks := [1]) h (by rw [hk]; simp)), R5.and_ok e3]
/-- One thing alone. -/
theorem list_one {α : Type} {one : Ps → R5 α} {T : List Tk} {L : Nat} {b : Int} {s s' : Ps} {a : α} (h : one s = .ok (a, s')) (hk : kd5 T s' 0 ≠ b) : list5 one T L b s = .ok ([a], s') := by
  unfold list5
  rw [R5.and_ok h]
  unfold ls5
  rw [if_neg hk]
end Go.Proofs.YtnikmcmkbjjcdaaGreatDoor
/-
  PLAIN: tokens of what is printed are read as what was printed.
-/
namespace Go.Proofs.YtnikmcmkbjjcdaaGreatDoor
open Go.RowKit

/-- Tokens that stand there, but for their places. -/
def Ly5 (T : List Tk) (i : Nat) (l : List Tk) : Prop := ∀ (k : Nat) (t : Tk), l[k]? = some t → ∃ u, T[i + k]? = some u ∧ u.bar = t
theorem Ly5.left {T : List Tk} {i : Nat} {l m : List Tk} (h : Ly5 T i (l ++ m)) : Ly5 T i l := fun k t ht => h k t (by rw [List.getElem?_append_left (List.getElem?_eq_some_iff.1 ht).1]; exact ht)
theorem Ly5.right {T : List Tk} {i : Nat} {l m : List Tk} (h : Ly5 T i (l ++ m)) : Ly5 T (i + l.length) m := fun k t ht => by
  have := h (l.length + k) t (by rw [List.getElem?_append_right (by omega), Nat.add_sub_cancel_left]; exact ht)
  rw [Nat.add_assoc]
  exact this
theorem Ly5.head {T : List Tk} {i : Nat} {t : Tk} {l : List Tk} (h : Ly5 T i (t :: l)) : ∃ u, T[i]? = some u ∧ u.bar = t := h 0 t rfl
theorem Ly5.tail {T : List Tk} {i : Nat} {t : Tk} {l : List Tk} (h : Ly5 T i (t :: l)) : Ly5 T (i + 1) l := fun k u hu => by
  have := h (k + 1) u (by rw [List.getElem?_cons_succ]; exact hu)
  rw [show i + 1 + k = i + (k + 1) by omega]
  exact this
theorem Ly5.all {T l : List Tk} (h : T.map Tk.bar = l) : Ly5 T 0 l := fun k t ht => by
  rw [← h, List.getElem?_map] at ht
  rw [Nat.zero_add]
  cases e : T[k]? with
  | none => rw [e] at ht; cases ht
  | some u => rw [e] at ht; exact ⟨u, rfl, Option.some.inj ht⟩
theorem Ly5.len {T : List Tk} {i : Nat} {l : List Tk} (h : Ly5 T i l) (h0 : l ≠ []) : i + l.length ≤ T.length := by
  have hp : 0 < l.length := List.length_pos_iff.2 h0
  obtain ⟨u, hu, -⟩ := h (l.length - 1) (l[l.length - 1]'(by omega)) (List.getElem?_eq_getElem _)
  have := (List.getElem?_eq_some_iff.1 hu).1
  omega
/-- The kind of what stands there. -/
def kA5 (T : List Tk) (i : Nat) : Int := ((T[i]?).map Tk.k).getD 0
theorem kd_kA (T : List Tk) (s : Ps) (k : Nat) : kd5 T s k = kA5 T (s.nx + k) := rfl
theorem kA_ly {T : List Tk} {i : Nat} {t : Tk} {l : List Tk} (h : Ly5 T i (t :: l)) : kA5 T i = t.k := by
  obtain ⟨u, hu, e⟩ := h.head
  unfold kA5
  rw [hu, ← e]
  rfl
/-- Names are told apart by their numbers. -/
def Ij5 (s : Ps) : Prop := (∀ x k, s.nm x = some k → k < s.vs) ∧ ∀ x y k, s.nm x = some k → s.nm y = some k → x = y
/-- More names; those that there were stay. -/
structure Gn5 (s s' : Ps) : Prop where
  o : s'.op = s.op
  n : ∀ x k, x ≠ us5 → s.nm x = some k → s'.nm x = some k
  i : Ij5 s → Ij5 s'
theorem Gn5.refl (s : Ps) : Gn5 s s := ⟨rfl, fun _ _ _ h => h, fun h => h⟩
theorem Gn5.nx (s : Ps) (n : Nat) : Gn5 s ⟨n, s.op, s.vs, s.nm⟩ := ⟨rfl, fun _ _ _ h => h, fun h => h⟩
theorem Gn5.trans {a b c : Ps} (h : Gn5 a b) (k : Gn5 b c) : Gn5 a c := ⟨k.o.trans h.o, fun x n hx e => k.n x n hx (h.n x n hx e), fun e => k.i (h.i e)⟩
end Go.Proofs.YtnikmcmkbjjcdaaGreatDoor
/-
  SyntaxAlts: PLAIN: the text, its tokens, what they say. (Written by a program, in part out of SV3.)
-/
namespace Go.Proofs.YtnikmcmkbjjcdaaGreatDoor
open Go.RowKit

/-- Lists of tokens with a sign between. -/
def jq5 (b : Int) : List (List Tk) → List Tk
  | [] => []
  | x :: r => x ++ r.flatMap fun y => tS b :: y
def jy5 (c : Int) : List (List Int) → List Int
  | [] => []
  | x :: r => x ++ r.flatMap fun y => [c, 32] ++ y
/-- A list of things, each read back. -/
theorem lsQ {α β : Type} {one : Ps → R5 α} {T : List Tk} {L : Nat} {b : Int} (tk : β → List Tk) (r : Ps → β → α) (K : Ps → β → Prop) (P : Int → Prop) (o : Nat) (hm : ∀ s s' x, Gn5 s s' → K s x → K s' x ∧ r s' x = r s x) (hb : b ≠ 0) (hP : P b) :
    ∀ (l : List β) (f : Nat) (acc : List α) (s : Ps), (∀ x ∈ l, ∀ s : Ps, s.op = o → Ly5 T s.nx (tk x) → P (kA5 T (s.nx + (tk x).length)) → ∃ s', one s = .ok (r s' x, s') ∧ s'.nx = s.nx + (tk x).length ∧ Gn5 s s' ∧ K s' x) →
      l.length ≤ f → s.op = o → Ly5 T s.nx (l.flatMap fun x => tS b :: tk x) → kA5 T (s.nx + (l.flatMap fun x => tS b :: tk x).length) ≠ b → P (kA5 T (s.nx + (l.flatMap fun x => tS b :: tk x).length)) →
      ∃ s', ls5 one T L b f acc s = .ok (acc ++ l.map (r s'), s') ∧ s'.nx = s.nx + (l.flatMap fun x => tS b :: tk x).length ∧ Gn5 s s' ∧ ∀ x ∈ l, K s' x
  | [], f, acc, s, _, _, _, _, hne, _ => by
    refine ⟨s, ?_, rfl, Gn5.refl s, fun x hx => by cases hx⟩
    cases f with
    | zero => unfold ls5; simp
    | succ f =>
      unfold ls5
      rw [if_neg (show ¬ kd5 T s 0 = b from hne)]
      simp
  | x :: l, 0, acc, s, _, hf, _, _, _, _ => by simp at hf
  | x :: l, f + 1, acc, s, ho, hf, hop, hl, hne, hp => by
    rw [List.flatMap_cons] at hl hne hp ⊢
    obtain ⟨u, hu, e⟩ := hl.head
    have ek : u.k = b := congrArg Tk.k e
    have hl1 : Ly5 T (s.nx + 1) (tk x ++ l.flatMap fun x => tS b :: tk x) := hl.tail
    have hl2 := hl1.right
    have hnext : P (kA5 T (s.nx + 1 + (tk x).length)) := by
      cases l with
      | nil => simpa [Nat.add_assoc, Nat.add_comm, Nat.add_left_comm] using hp
      | cons y r =>
        rw [List.flatMap_cons] at hl2
        rw [kA_ly (t := tS b) hl2]
        exact hP
    obtain ⟨s2, h1, h2, h3, h4⟩ := ho x (List.mem_cons_self ..) ⟨s.nx + 1, s.op, s.vs, s.nm⟩ hop hl1.left hnext
    have hlen : (tS b :: tk x ++ l.flatMap fun x => tS b :: tk x).length = 1 + (tk x).length + (l.flatMap fun x => tS b :: tk x).length := by
      rw [List.length_append, List.length_cons]; omega
    rw [hlen] at hne hp ⊢
    have h2' : s2.nx = s.nx + 1 + (tk x).length := h2
    have hpos : s.nx + (1 + (tk x).length + (l.flatMap fun x => tS b :: tk x).length) = s2.nx + (l.flatMap fun x => tS b :: tk x).length := by rw [h2']; omega
    rw [hpos] at hne hp
    obtain ⟨s3, h5, h6, h7, h8⟩ := lsQ tk r K P o hm hb hP l f (acc ++ [r s2 x]) s2 (fun y hy => ho y (List.mem_cons_of_mem _ hy)) (by simp only [List.length_cons] at hf; omega) (h3.o.trans hop) (by rw [h2']; exact hl2) hne hp
    have h9 := hm s2 s3 x h7 h4
    refine ⟨s3, ?_, by rw [hpos]; exact h6, (Gn5.nx s _).trans (h3.trans h7), fun y hy => ?_⟩
    · unfold ls5
      rw [if_pos (by rw [kd_at (k := 0) hu]; exact ek), R5.and_ok (tk_at hu (by rw [ek]; simp)), R5.and_ok h1, h5, List.map_cons, h9.2, List.append_assoc]
      rfl
    · rcases List.mem_cons.1 hy with rfl | hy
      · exact h9.1
      · exact h8 y hy
theorem flatQ_ge {β : Type} (b : Int) (f : β → List Tk) : ∀ l : List β, l.length ≤ (l.flatMap fun x => tS b :: f x).length
  | [] => Nat.le_refl _
  | x :: l => by
    have := flatQ_ge b f l
    rw [List.flatMap_cons, List.length_append, List.length_cons, List.length_cons]
    omega
theorem listQ {α β : Type} {one : Ps → R5 α} {T : List Tk} {L : Nat} {b : Int} (tk : β → List Tk) (r : Ps → β → α) (K : Ps → β → Prop) (P : Int → Prop) (o : Nat) (hm : ∀ s s' x, Gn5 s s' → K s x → K s' x ∧ r s' x = r s x) (hb : b ≠ 0) (hP : P b)
    (x : β) (l : List β) (s : Ps) (hop : s.op = o) (ho : ∀ y ∈ x :: l, ∀ s : Ps, s.op = o → Ly5 T s.nx (tk y) → P (kA5 T (s.nx + (tk y).length)) → ∃ s', one s = .ok (r s' y, s') ∧ s'.nx = s.nx + (tk y).length ∧ Gn5 s s' ∧ K s' y)
    (hl : Ly5 T s.nx (jq5 b ((x :: l).map tk))) (hne : kA5 T (s.nx + (jq5 b ((x :: l).map tk)).length) ≠ b) (hp : P (kA5 T (s.nx + (jq5 b ((x :: l).map tk)).length))) :
    ∃ s', list5 one T L b s = .ok ((x :: l).map (r s'), s') ∧ s'.nx = s.nx + (jq5 b ((x :: l).map tk)).length ∧ Gn5 s s' ∧ ∀ y ∈ x :: l, K s' y := by
  have ej : jq5 b ((x :: l).map tk) = tk x ++ l.flatMap fun y => tS b :: tk y := by
    rw [List.map_cons]
    show tk x ++ _ = _
    rw [List.flatMap_map]
  rw [ej] at hl hne hp ⊢
  rw [List.length_append] at hne hp ⊢
  have hl2 := hl.right
  have hnext : P (kA5 T (s.nx + (tk x).length)) := by
    cases l with
    | nil => simpa using hp
    | cons y r =>
      rw [List.flatMap_cons] at hl2
      rw [kA_ly (t := tS b) hl2]
      exact hP
  obtain ⟨s2, h1, h2, h3, h4⟩ := ho x (List.mem_cons_self ..) s hop hl.left hnext
  rw [← Nat.add_assoc, ← h2] at hne hp
  rw [← h2] at hl2
  have hlen : l.length ≤ T.length + 1 := by
    cases l with
    | nil => exact Nat.zero_le _
    | cons y r =>
      have h5 := hl2.len (by rw [List.flatMap_cons]; simp)
      have h6 := flatQ_ge b tk (y :: r)
      omega
  obtain ⟨s3, h5, h6, h7, h8⟩ := lsQ (L := L) tk r K P o hm hb hP l (T.length + 1) [r s2 x] s2 (fun y hy => ho y (List.mem_cons_of_mem _ hy)) hlen (h3.o.trans hop) hl2 hne hp
  have h9 := hm s2 s3 x h7 h4
  refine ⟨s3, ?_, by rw [h6, h2, Nat.add_assoc], h3.trans h7, fun y hy => ?_⟩
  · unfold list5
    rw [R5.and_ok h1, h5, List.map_cons, h9.2]
    rfl
  · rcases List.mem_cons.1 hy with rfl | hy
    · exact h9.1
    · exact h8 y hy
theorem cq_tail {c b : Int} (hs : Cz5 false [c] [tS b]) (hc : rnb c = false ∧ c ≠ 61) : ∀ (ps : List (List Int × List Tk)), (∀ p ∈ ps, Cz5 true p.1 p.2) → Cz5 true ((ps.map Prod.fst).flatMap fun y => [c, 32] ++ y) ((ps.map Prod.snd).flatMap fun y => tS b :: y)
  | [], _ => ⟨fun x hx => by simp at hx, fun y _ _ f off acc hf => ⟨f, [], hf, by simp, rfl⟩⟩
  | p :: ps, h => by
    have ih := cq_tail hs hc ps fun q hq => h q (List.mem_cons_of_mem _ hq)
    have h1 : Cz5 true ([c, 32] ++ p.1) (tS b :: p.2) := ((hs.app (Cz5.gap 32 (Or.inl rfl)) fun h => by cases h).app (h p (List.mem_cons_self ..)) fun h => by cases h)
    rw [List.map_cons, List.map_cons, List.flatMap_cons, List.flatMap_cons]
    cases ps with
    | nil => simpa using h1
    | cons q r => exact h1.app ih fun _ => ⟨c, _, rfl, hc.1, hc.2⟩
theorem cq_join {c b : Int} (hs : Cz5 false [c] [tS b]) (hc : rnb c = false ∧ c ≠ 61) : ∀ {ps : List (List Int × List Tk)}, (∀ p ∈ ps, Cz5 true p.1 p.2) → Cz5 true (jy5 c (ps.map Prod.fst)) (jq5 b (ps.map Prod.snd))
  | [], _ => ⟨fun x hx => by simp [jy5] at hx, fun y _ _ f off acc hf => ⟨f, [], hf, by simp [jy5], rfl⟩⟩
  | p :: ps, h => by
    have ih := cq_tail hs hc ps fun q hq => h q (List.mem_cons_of_mem _ hq)
    have h1 := h p (List.mem_cons_self ..)
    show Cz5 true (p.1 ++ _) (p.2 ++ _)
    cases ps with
    | nil => simpa using h1
    | cons q r => exact h1.app ih fun _ => ⟨c, _, rfl, hc.1, hc.2⟩
theorem sgn_9 : Cz5 false [59] [tS 9] := Cz5.sgn (k := 9) (s := ⟨#[59]⟩) (by kernel_rfl)
theorem jy5_snoc (c : Int) (l : List (List Int)) (x : List Int) : jy5 c (l ++ [x]) = if l = [] then x else jy5 c l ++ ([c, 32] ++ x) := by
  cases l with
  | nil => simp [jy5]
  | cons y r => simp [jy5]
/-- A letter's name; that of none. -/
def nx5 (c : Int) : ByteArray := ofL [120, 97 + c % 26]
def no5 : ByteArray := ⟨#[110, 111, 110, 101]⟩
theorem nx5_all : ∀ r : Nat, r < 26 → nameOk (ofL [120, 97 + (r : Int)]) = true := by decide
theorem nx5_ok (c : Int) : nameOk (nx5 c) = true := by
  obtain ⟨r, hr⟩ : ∃ r : Nat, c % 26 = r := ⟨(c % 26).toNat, by omega⟩
  unfold nx5
  rw [hr]
  exact nx5_all r (by omega)
theorem no5_ok : nameOk no5 = true := by decide
/-- The names of a part. -/
def nm5 (s : ByteArray) : List ByteArray := if s.size = 0 then [no5] else ((blK s).take 9).map nx5
theorem nm5_ok (s : ByteArray) : ∀ x ∈ nm5 s, nameOk x = true := by
  unfold nm5
  split
  · intro x hx; rw [List.mem_singleton.1 hx]; exact no5_ok
  · intro x hx
    obtain ⟨c, -, rfl⟩ := List.mem_map.1 hx
    exact nx5_ok c
theorem nm5_len (s : ByteArray) : 1 ≤ (nm5 s).length ∧ (nm5 s).length ≤ 9 := by
  unfold nm5
  split
  · exact ⟨Nat.le_refl _, by simp⟩
  · rename_i h
    rw [List.length_map, List.length_take, bl_len]
    omega
/-- A part's text so far, whole; the text so far. -/
def pu5 (s : ByteArray) : Nat → ByteArray
  | 0 => ⟨#[40]⟩
  | j + 1 => ((if 0 < j then pu5 s j ++ (⟨#[59, 32]⟩ : ByteArray) else pu5 s j) ++ (⟨#[120]⟩ : ByteArray)) ++ ofL [97 + atK_ s j % 26]
def ptx (s : ByteArray) : ByteArray := (if s.size = 0 then pu5 s (min s.size 9) ++ no5 else pu5 s (min s.size 9)) ++ (⟨#[41]⟩ : ByteArray)
def tu5 (bs : List ByteArray) : Nat → ByteArray
  | 0 => ⟨#[104, 32, 58, 45, 32]⟩
  | j + 1 => (if 0 < j then tu5 bs j ++ (⟨#[44, 32]⟩ : ByteArray) else tu5 bs j) ++ ptx ((bs[j]?).getD ⟨#[]⟩)
def txA (bs : List ByteArray) : ByteArray := ((⟨#[32, 32]⟩ : ByteArray) ++ tu5 bs bs.length) ++ (⟨#[46]⟩ : ByteArray)
theorem byt2 {a b : Int} (ha : 0 ≤ a ∧ a ≤ 255) (hb : 0 ≤ b ∧ b ≤ 255) : byt [a, b] := fun x hx => by simp at hx; omega
theorem bl_nx5 (c : Int) : blK (nx5 c) = [120, 97 + c % 26] := bl_ofL (byt2 (by omega) (by omega))
theorem bl_pu5 (s : ByteArray) : ∀ j, j ≤ s.size → blK (pu5 s j) = 40 :: jy5 59 ((((blK s).take j).map nx5).map blK)
  | 0, _ => by simp [pu5, jy5]; rfl
  | j + 1, h => by
    have ih := bl_pu5 s j (by omega)
    have hlt : j < s.size := by omega
    have e1 : blK ⟨#[120]⟩ = [120] := rfl
    have e2 : blK ⟨#[59, 32]⟩ = [59, 32] := rfl
    have e3 : blK (ofL [97 + atK_ s j % 26]) = [97 + atK_ s j % 26] := bl_ofL (fun x hx => by simp at hx; omega)
    unfold pu5
    rw [bl_appJ5, bl_appJ5, e1, e3, take_snoc s j hlt, List.map_append, List.map_append, List.map_cons, List.map_cons, List.map_nil, List.map_nil, jy5_snoc, bl_nx5]
    by_cases hj : 0 < j
    · rw [if_pos hj, bl_appJ5, e2, ih, if_neg (by
        intro e
        have := congrArg List.length e
        rw [List.length_map, List.length_map, List.length_take, bl_len, List.length_nil] at this
        omega)]
      simp
    · obtain rfl : j = 0 := by omega
      rw [if_neg hj, ih]
      simp [jy5]
theorem bl_ptx (s : ByteArray) : blK (ptx s) = 40 :: (jy5 59 ((nm5 s).map blK) ++ [41]) := by
  have e1 : blK ⟨#[41]⟩ = [41] := rfl
  unfold ptx nm5
  rw [bl_appJ5, e1]
  by_cases h : s.size = 0
  · rw [if_pos h, if_pos h, bl_appJ5, bl_pu5 s _ (Nat.min_le_left _ _), h]
    simp [jy5]
  · rw [if_neg h, if_neg h, bl_pu5 s _ (Nat.min_le_left _ _)]
    have e2 : (blK s).take (min s.size 9) = (blK s).take 9 := by
      rw [← bl_len s]
      rcases Nat.le_total (blK s).length 9 with h9 | h9
      · rw [Nat.min_eq_left h9, List.take_of_length_le (Nat.le_refl _), List.take_of_length_le h9]
      · rw [Nat.min_eq_right h9]
    rw [e2]
    rfl
theorem bl_tu5 (bs : List ByteArray) : ∀ j, j ≤ bs.length → blK (tu5 bs j) = [104, 32, 58, 45, 32] ++ jy5 44 ((bs.take j).map fun s => blK (ptx s))
  | 0, _ => by simp [tu5, jy5]; rfl
  | j + 1, h => by
    have ih := bl_tu5 bs j (by omega)
    have hlt : j < bs.length := by omega
    have hg : bs[j]? = some bs[j] := List.getElem?_eq_getElem hlt
    have e2 : blK ⟨#[44, 32]⟩ = [44, 32] := rfl
    unfold tu5
    rw [bl_appJ5, List.take_add_one, hg, List.map_append]
    show _ = [104, 32, 58, 45, 32] ++ jy5 44 (_ ++ [blK (ptx bs[j])])
    rw [jy5_snoc]
    by_cases hj : 0 < j
    · rw [if_pos hj, bl_appJ5, e2, ih, if_neg (by
        intro e
        have := congrArg List.length e
        rw [List.length_map, List.length_take, List.length_nil] at this
        omega)]
      simp
    · obtain rfl : j = 0 := by omega
      rw [if_neg hj, ih]
      simp [jy5]
theorem pu5_size (s : ByteArray) : ∀ j, (pu5 s j).size ≤ 1 + 4 * j
  | 0 => by show (1 : Nat) ≤ _; omega
  | j + 1 => by
    have ih := pu5_size s j
    have e1 : (⟨#[120]⟩ : ByteArray).size = 1 := rfl
    have e2 : (⟨#[59, 32]⟩ : ByteArray).size = 2 := rfl
    have e3 : (ofL [97 + atK_ s j % 26]).size = 1 := by rw [ofL_sz]; rfl
    unfold pu5
    rw [ByteArray.size_append, ByteArray.size_append, e1, e3]
    split
    · rw [ByteArray.size_append, e2]; omega
    · omega
theorem ptx_size (s : ByteArray) : (ptx s).size ≤ 42 := by
  have h := pu5_size s (min s.size 9)
  have e1 : (⟨#[41]⟩ : ByteArray).size = 1 := rfl
  have e2 : no5.size = 4 := rfl
  unfold ptx
  rw [ByteArray.size_append, e1]
  split
  · rw [ByteArray.size_append, e2]; omega
  · omega
theorem tu5_size (bs : List ByteArray) : ∀ j, (tu5 bs j).size ≤ 5 + 44 * j
  | 0 => by show (5 : Nat) ≤ _; omega
  | j + 1 => by
    have ih := tu5_size bs j
    have h := ptx_size ((bs[j]?).getD ⟨#[]⟩)
    have e2 : (⟨#[44, 32]⟩ : ByteArray).size = 2 := rfl
    unfold tu5
    rw [ByteArray.size_append]
    split
    · rw [ByteArray.size_append, e2]; omega
    · omega
end Go.Proofs.YtnikmcmkbjjcdaaGreatDoor

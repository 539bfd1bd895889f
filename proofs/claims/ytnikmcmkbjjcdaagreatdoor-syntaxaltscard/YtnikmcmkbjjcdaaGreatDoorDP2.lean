import Derived.Shelf.Strings.BuilderK
import Derived.Ground.NamesProg
import Derived.Test.YtnikmcmkbjjcdaaGreatDoorProg
import Derived.Test.YtnikmcmkbjjcdaaGreatDoorSA1
import Derived.Test.YtnikmcmkbjjcdaaGreatDoorA1
import Derived.Deep.RegionHeld3
import Derived.Test.YtnikmcmkbjjcdaaGreatDoorSJ4
import Derived.Test.YtnikmcmkbjjcdaaGreatDoorSA3
import Derived.Maps.AppendAt
import Derived.Laws.OwnMore
/-
  DERIVED: strings.Builder's WriteByte at this dump, in plain words (as lay-plain.mjs writes them; laid by hand out of strings.Join's, as shelf_lay wants a type that no body names).
-/
namespace Go.Proofs
open Go.Shelf
def Tryz.wbyteL_ren : Go.Shelf.Ren := ⟨fun | 167 => 45 | 156 => 33 | 165 => 59 | 166 => 44 | 169 => 46 | 240 => 77 | 241 => 87 | 276 => 97 | 277 => 106 | n => n, fun | 31 => 39 | 9 => 9 | 3 => 3 | 4 => 4 | 0 => 0 | 20 => 20 | 72 => 100 | 76 => 103 | 70 => 98 | 37 => 74 | 75 => 102 | 127 => 121 | 164 => 147 | 5 => 5 | 80 => 106 | n => n, fun | n => n⟩
theorem Tryz.wbyteL : Go.Proofs.Lays.n167 Tryz.prog Tryz.wbyteL_ren := {
  f167 := Tryz.func45.trans (congrArg some (by kernel_rfl))
  mixed := by kernel_rfl
  f240 := Tryz.func77.trans (congrArg some (by kernel_rfl))
  f276 := Tryz.func97.trans (congrArg some (by kernel_rfl))
  t0 := Tryz.underlying0
  a0 := Tryz.isAgg0
  z0 := Tryz.sizeOf0
  v0 := Tryz.zeroValue0
  t4 := Tryz.underlying4
  a4 := Tryz.isAgg4
  z4 := Tryz.sizeOf4
  v4 := Tryz.zeroValue4
  t5 := Tryz.underlying5
  a5 := Tryz.isAgg5
  z5 := Tryz.sizeOf5
  v5 := Tryz.zeroValue5
  t9 := Tryz.underlying9
  a9 := Tryz.isAgg9
  z9 := Tryz.sizeOf9
  v9 := Tryz.zeroValue9
  t20 := Tryz.underlying20
  a20 := Tryz.isAgg20
  z20 := Tryz.sizeOf20
  v20 := Tryz.zeroValue20
  t37 := Tryz.underlying74
  a37 := Tryz.isAgg74
  z37 := Tryz.sizeOf74
  v37 := Tryz.zeroValue74
  t70 := Tryz.underlying98
  a70 := Tryz.isAgg98
  z70 := Tryz.sizeOf98
  v70 := Tryz.zeroValue98
  t72 := Tryz.underlying100
  a72 := Tryz.isAgg100
  z72 := Tryz.sizeOf100
  v72 := Tryz.zeroValue100
  t75 := Tryz.underlying102
  a75 := Tryz.isAgg102
  z75 := Tryz.sizeOf102
  v75 := Tryz.zeroValue102
  t164 := Tryz.underlying147
  a164 := Tryz.isAgg147
  z164 := Tryz.sizeOf147
  v164 := Tryz.zeroValue147 }
end Go.Proofs
/-
  law 5: first.
-/
namespace Go.Proofs.YtnikmcmkbjjcdaaGreatDoor
open Go.RowKit
attribute [local go_sem ↓] Go.wp_at_zero Go.wp_at_succ

theorem neq_ft0 (w : World) : (binOp .neq 26 (.agg #[.int .i64 0, .int .i64 0]) (.agg #[.int .i64 0, .int .i64 0])).run Tryz.prog w = .ok (.bool false) w := by kernel_rfl
/-- What first's text says. -/
theorem first_pg : ∃ a b : Ck, pg5 fT1 1048576 = .ok [a, b] ∧ a.2.1.length = 1 ∧ b.2.2.length = 1 ∧ pc5 b = fT2 ∧ (∀ t ∈ Ck.terms b, N64 t.n) ∧ (Ck.terms b).length ≤ 100 := by
  have h := okF_yes
  unfold okF at h
  split at h
  · rename_i a b e
    obtain ⟨h1, h2, h3, h4, h5⟩ := of_decide_eq_true h
    exact ⟨a, b, e, h1, h2, h3, h4, h5⟩
  · cases h
theorem n64_wf {n : Int} (h : N64 n) : (Lit.int .i64 n).wf = true := by
  obtain ⟨h1, h2⟩ := h
  simp only [Lit.wf, IntKind.min, IntKind.max, Bool.and_eq_true]
  constructor <;> simp [IntKind.signed, IntKind.bits] <;> omega
theorem cc5_get : ∀ {l : List Cm} {j : Nat} {c : Cm}, l[j]? = some c → ∀ i u, (cc5 c)[i]? = some u → i < 7 → (l.flatMap cc5)[j * 7 + i]? = some u
  | [], j, t, h, i, u, hu, hi => by simp at h
  | y :: l, 0, t, h, i, u, hu, hi => by
    simp only [List.getElem?_cons_zero, Option.some.injEq] at h
    subst h
    rw [List.flatMap_cons, Nat.zero_mul, Nat.zero_add, List.getElem?_append_left (by simpa [cc5] using hi)]
    exact hu
  | y :: l, j + 1, t, h, i, u, hu, hi => by
    rw [List.getElem?_cons_succ] at h
    have ih := cc5_get h i u hu hi
    rw [List.flatMap_cons, List.getElem?_append_right (by simp [cc5]; omega), show (j + 1) * 7 + i - (cc5 y).length = j * 7 + i by simp [cc5]; omega]
    exact ih
set_option maxRecDepth 20000 in
set_option maxHeartbeats 4000000 in
theorem first5_any (w : World) (hE : EnvOk w) (hO : OpsOk w) :
    Calls Tryz.prog 9 #[] w fun e w' => e = .returned (.bool true) ∧ Below w.heap.size w w' := by
  obtain ⟨ka, kb, hpg, hla, hlb, hpc, hnb, hlen⟩ := first_pg
  have HPG := hm7 (program_any fT1 (by decide) w hE hO)
  rw [hpg] at HPG
  have HE := hm7 hE
  have HO := hm7 hO
  unfold fT1 at HPG
  clear hpg hE hO
  have hnq := neq_ft0
  go_enter Tryz.func9, Tryz.ntmps9
  go_upto_region 2 with (go_at_call 10; refine HPG.out.mono ?_; rintro e W1 ⟨hb, v, c, a, rfl, rfl, rfl, l, hk, hrl⟩; have hl2 : l.length = 2 := (by have := congrArg List.length hk; simpa using this); obtain ⟨vg, vc, hvf⟩ := row5_pos hrl.o (by omega); rw [hl2] at hvf; subst hvf; have HK := hm7 hk; have HRL := hm7 hrl; have HB1 := hm7 hb; have HL2 := hm7 hl2; clear hb hk hrl hl2)
  obtain ⟨d, e, hde⟩ : ∃ d e, l = [d, e] := by
    match l, HL2.out with
    | [d, e], _ => exact ⟨d, e, rfl⟩
  subst hde
  have hkd : d.key = ka ∧ e.key = kb := by
    have := HK.out
    simp only [List.map_cons, List.map_nil, List.cons.injEq, and_true] at this
    exact this
  have hod := (HRL.out.k d (by simp)).ok
  have hoe := (HRL.out.k e (by simp)).ok
  have hdl : d.body.length = 1 := by rw [(key_len d).1, hkd.1]; exact hla
  have hel : e.tests.length = 1 := by rw [(key_len e).2, hkd.2]; exact hlb
  have HPR : Hid (∀ X : World, Below W1.heap.size W1 X → Calls Tryz.prog 16 #[e.v] X fun e w' => e = .returned (.string fT2) ∧ Below X.heap.size X w') := fun X hX => by
    have := print5_any e X (hoe.later hX) ⟨fun t ht _ => n64_wf (hnb t (by rw [key_terms, hkd.2] at ht; exact ht)), by rw [key_terms, hkd.2]; omega⟩ (fun t ht => hnb t (by rw [key_terms, hkd.2] at ht; exact ht)) (HE.out.later (HB1.out.trans (hX.mono HB1.out.size))) (HO.out.fr (P := fun _ => False) (Fr.of (HB1.out.trans (hX.mono HB1.out.size))) fun h => h)
    rw [hkd.2, hpc] at this
    exact this
  obtain ⟨-, ⟨db, dbc, edb⟩, ⟨dt, dtc, edt⟩, -, -⟩ := hod.shape
  obtain ⟨⟨eh, ehn, ehc, eeh⟩, ⟨eb, ebc, eeb⟩, ⟨et, etc', eet⟩, -, -⟩ := hoe.shape
  rw [hdl] at edb
  rw [hel] at eet
  have HRO : Hid (W1.ownsRow 0 37 7 (.slice (some ⟨vg, 0, none⟩) 2 vc) 2 ([d, e].flatMap cc5)) := HRL.out.o
  have q5 := row5_cell HRO.out (cc5_get (l := [d, e]) (j := 0) rfl 5 d.bv rfl (by omega))
  have p0 := row5_cell HRO.out (cc5_get (l := [d, e]) (j := 1) rfl 0 _ rfl (by omega))
  have p1 := row5_cell HRO.out (cc5_get (l := [d, e]) (j := 1) rfl 1 _ rfl (by omega))
  have p2 := row5_cell HRO.out (cc5_get (l := [d, e]) (j := 1) rfl 2 _ rfl (by omega))
  have p3 := row5_cell HRO.out (cc5_get (l := [d, e]) (j := 1) rfl 3 _ rfl (by omega))
  have p4 := row5_cell HRO.out (cc5_get (l := [d, e]) (j := 1) rfl 4 _ rfl (by omega))
  have p5 := row5_cell HRO.out (cc5_get (l := [d, e]) (j := 1) rfl 5 _ rfl (by omega))
  have p6 := row5_cell HRO.out (cc5_get (l := [d, e]) (j := 1) rfl 6 _ rfl (by omega))
  rw [edb] at q5
  obtain ⟨⟨⟨⟨hk1, hn1, hs1⟩, hm1, ha1⟩, hv1⟩, body1, bv1, tests1, tv1⟩ := e
  dsimp only at eeh eeb eet HPR p0 p1 p2 p3 p4 p5 p6
  generalize body1.length = bl1 at eeb
  subst eeh
  subst eeb
  subst eet
  simp only [Nat.zero_mul, Nat.one_mul, Nat.zero_add, Nat.add_zero] at q5 p0 p1 p2 p3 p4 p5 p6
  have hvg := (World.ownsRow.lt HRO.out vg rfl).2
  have HB2 := hm7 (below1 W1 (.cells #[.int .i64 0, .int .i64 0] 26))
  have HFX := hm7 (Bk.new W1 #[.int .i64 0, .int .i64 0] 26)
  unfold fT2 at HPR
  clear hla hlb hpc hnb hlen hkd hod hoe hdl hel HK edt HPG
  have x0 := HFX.out.cell (i := 0) rfl
  have x1 := HFX.out.cell (i := 1) rfl
  go_upto_region 4 with fail
  go_wp2_with (go_at_call 16; refine (HPR.out _ HB2.out).mono ?_; rintro e w3 ⟨rfl, hb⟩; have HB3 := hm7 (HB1.out.trans ((HB2.out.trans (hb.mono HB2.out.size)).mono HB1.out.size)); clear hb)
  go_ret
  exact ⟨rfl, HB3.out⟩
end Go.Proofs.YtnikmcmkbjjcdaaGreatDoor
/-
  law 5: terms, atoms: the same?
-/
namespace Go.Proofs.YtnikmcmkbjjcdaaGreatDoor
open Go.RowKit
attribute [local go_sem ↓] Go.wp_at_zero Go.wp_at_succ

theorem As.get5 {w : World} {a : Option Addr} {n cap j : Nat} {l : List (At × Value)} (h : As w (.slice a n cap) l) (hj : j < n) :
    ∃ (b o : Nat) (t : At × Value), a = some ⟨b, o, none⟩ ∧ l[j]? = some t ∧ b < w.heap.size ∧ (w.cell? ⟨b, o + j * 5, none⟩ = some (.int .i64 t.1.by_.k) ∧ w.cell? ⟨b, o + j * 5 + 1, none⟩ = some (.int .i64 t.1.by_.n) ∧ w.cell? ⟨b, o + j * 5 + 2, none⟩ = some (.string t.1.by_.s) ∧ w.cell? ⟨b, o + j * 5 + 3, none⟩ = some (.string t.1.name) ∧ w.cell? ⟨b, o + j * 5 + 4, none⟩ = some t.2) ∧ Ts w t.2 t.1.args := by
  obtain ⟨a', cap', e, hl, hm, ht⟩ := h
  simp only [Value.slice.injEq] at e
  obtain ⟨rfl, rfl, rfl⟩ := e
  obtain ⟨t, htj⟩ : ∃ t, l[j]? = some t := ⟨_, List.getElem?_eq_getElem hj⟩
  rcases hm with rfl | ⟨b, o, rfl, hr⟩
  · simp at hj
  · exact ⟨b, o, t, rfl, htj, hr.1, hr.2 j t htj, ht t (List.mem_of_getElem? htj)⟩
end Go.Proofs.YtnikmcmkbjjcdaaGreatDoor
/-
  law 5: lists: the same? (Written by SJ7.py.)
-/
namespace Go.Proofs.YtnikmcmkbjjcdaaGreatDoor
open Go.RowKit
attribute [local go_sem ↓] Go.wp_at_zero Go.wp_at_succ

/-- One clause of a list. -/
theorem RL.get5 {F : Nat → Prop} {w : World} {v : Value} {l : List Cm} (h : RL F w v l) {j : Nat} {c : Cm} (hj : l[j]? = some c) : ∃ g cap, v = .slice (some ⟨g, 0, none⟩) l.length cap ∧ g < w.heap.size ∧ (w.cell? ⟨g, j * 7, none⟩ = some (.int .i64 c.head.1.by_.k) ∧ w.cell? ⟨g, j * 7 + 1, none⟩ = some (.int .i64 c.head.1.by_.n) ∧ w.cell? ⟨g, j * 7 + 2, none⟩ = some (.string c.head.1.by_.s) ∧ w.cell? ⟨g, j * 7 + 3, none⟩ = some (.string c.head.1.name) ∧ w.cell? ⟨g, j * 7 + 4, none⟩ = some c.head.2 ∧ w.cell? ⟨g, j * 7 + 5, none⟩ = some c.bv ∧ w.cell? ⟨g, j * 7 + 6, none⟩ = some c.tv) ∧ c.ok w := by
  have hlt := (List.getElem?_eq_some_iff.1 hj).1
  obtain ⟨g, cap, hv⟩ := row5_pos h.o (by omega)
  have hg := (World.ownsRow.lt h.o g (by rw [hv]; rfl)).2
  have ho := h.o
  rw [hv] at ho
  have hcell : ∀ i x, (cc5 c)[i]? = some x → w.cell? ⟨g, j * 7 + i, none⟩ = some x := fun i x hx => by
    have := row5_cell ho (cc5_get hj i x hx (by have := (List.getElem?_eq_some_iff.1 hx).1; exact this))
    rw [Nat.zero_add] at this
    exact this
  exact ⟨g, cap, hv, hg, ⟨hcell 0 _ rfl, hcell 1 _ rfl, hcell 2 _ rfl, hcell 3 _ rfl, hcell 4 _ rfl, hcell 5 _ rfl, hcell 6 _ rfl⟩, (h.k c (List.mem_of_getElem? hj)).ok⟩
theorem RL.form {F : Nat → Prop} {w : World} {v : Value} {l : List Cm} (h : RL F w v l) : ∃ a cap, v = .slice a l.length cap := by
  obtain ⟨a, c, e, -⟩ := row7_form h.o
  exact ⟨a, c, e⟩
end Go.Proofs.YtnikmcmkbjjcdaaGreatDoor
/-
  PLAIN: a fault's number is not 0.
-/
namespace Go.Proofs.YtnikmcmkbjjcdaaGreatDoor
open Go.RowKit

variable {Q : Int × Int → Prop}
/-- What may be said of a fault at a token or at the end. -/
structure HQ (T : List Tk) (L : Nat) (Q : Int × Int → Prop) : Prop where
  t : ∀ (c : Int) (t : Tk), c ≠ 0 → t ∈ T → Q (c, t.a)
  l : ∀ c : Int, c ≠ 0 → Q (c, (L : Int))
end Go.Proofs.YtnikmcmkbjjcdaaGreatDoor
/-
  law 5: part, names; append of a list, empty or not.
-/
namespace Go.Proofs.YtnikmcmkbjjcdaaGreatDoor
open Go.RowKit
attribute [local go_sem ↓] Go.wp_at_zero Go.wp_at_succ

theorem conv1 {W : World} {g : Nat} {c : Int} (hc : 0 ≤ c ∧ c ≤ 255) (h : Bk W g #[.int .u8 c] 5) : (convert 74 9 (.slice (some ⟨g, 0, none⟩) 1 1)).run Tryz.prog W = .ok (.string (ofL [c])) W :=
  conv_bytes (base := 0) (l := [c]) ⟨rfl, Or.inr ⟨g, 1, _, rfl, Nat.zero_le _, h, Nat.le_refl _, by unfold maxLen; omega, rfl, rfl⟩⟩ (by simp) (fun x hx => by simp at hx; omega)
set_option maxRecDepth 20000 in
set_option maxHeartbeats 2000000 in
theorem part5_any (s : ByteArray) (hs : s.size ≤ 1000000000000000000) (w : World) :
    Calls Tryz.prog 11 #[.string s, .string ⟨#[59, 32]⟩] w fun e w' => e = .returned (.string (ptx s)) ∧ Below w.heap.size w w' := by
  obtain ⟨m, hm⟩ : ∃ m, min s.size 9 = m := ⟨_, rfl⟩
  have HM := hm7 hm
  have hm9 : m ≤ 9 := by omega
  have hmz : m ≤ s.size := by omega
  have hmd : m = 9 ∨ m = s.size := by omega
  have HPT : Hid (ptx s = (if s.size = 0 then pu5 s m ++ no5 else pu5 s m) ++ (⟨#[41]⟩ : ByteArray)) := by show _ = _; unfold ptx; rw [hm]
  clear hm
  go_enter Tryz.func11, Tryz.ntmps11
  go_wp2
  go_loopg [5, 6] m (fun g tx i wr => ∃ j : Nat, j + g = m ∧ i = .int .i64 (j : Int) ∧ tx = .string (pu5 s j) ∧ Below w.heap.size w wr)
  case atStart => exact ⟨0, by omega, rfl, rfl, Below.refl _ _⟩
  case round =>
    obtain ⟨j, hj, rfl, rfl, hb⟩ := hrel
    have HB := hm7 hb
    clear hb
    have hpz := pu5_size s j
    cases gk with
    | succ g =>
      have i0 : (0 : Int) ≤ (j : Int) := by omega
      have i1 : (j : Int) < (s.size : Int) := by omega
      have i2 : (j : Int) < 9 := by omega
      have hix := fun (W : World) (k : IntKind) => run_index_atK s j (by omega) (j : Int) rfl W k
      have hcr := at_range s j
      obtain ⟨c, hc⟩ : ∃ c, atK_ s j = c := ⟨_, rfl⟩
      rw [hc] at hix hcr
      obtain ⟨d, hd⟩ : ∃ d, c % 26 = d := ⟨_, rfl⟩
      have hd0 : 0 ≤ d ∧ d ≤ 25 := by omega
      have HD : Hid (atK_ s j % 26 = d) := by show _ = _; rw [hc]; exact hd
      have hrm : c.tmod 26 = d := by rw [Int.tmod_eq_emod_of_nonneg hcr.1]; exact hd
      have hcv := conv1 (W := wr.alloc (.cells #[.int .u8 (97 + d)] 5)) (c := 97 + d) (by omega) (Bk.new wr #[.int .u8 (97 + d)] 5)
      have hz1 : (ofL [97 + d]).size = 1 := by rw [ofL_sz]; rfl
      have HBX := hm7 (below1 wr (.cells #[.int .u8 (97 + d)] 5))
      obtain ⟨cv, hcv2⟩ : ∃ v, ofL [97 + d] = v := ⟨_, rfl⟩
      rw [hcv2] at hcv hz1
      have HPU : Hid (pu5 s (j + 1) = ((if 0 < j then pu5 s j ++ (⟨#[59, 32]⟩ : ByteArray) else pu5 s j) ++ (⟨#[120]⟩ : ByteArray)) ++ cv) := by show _ = _; rw [pu5, HD.out, hcv2]
      obtain ⟨A, hA⟩ : ∃ A, pu5 s j = A := ⟨_, rfl⟩
      rw [hA] at HPU hpz ⊢
      clear hc hd hcv2 hA
      by_cases hj0 : 0 < j
      · have i3 : (0 : Int) < (j : Int) := by omega
        rw [if_pos hj0] at HPU
        obtain ⟨B, hB⟩ : ∃ B, A ++ (⟨#[59, 32]⟩ : ByteArray) = B := ⟨_, rfl⟩
        have hBz : B.size = A.size + 2 := by rw [← hB, ByteArray.size_append]; rfl
        obtain ⟨C, hC⟩ : ∃ C, B ++ (⟨#[120]⟩ : ByteArray) = C := ⟨_, rfl⟩
        have hCz : C.size = B.size + 1 := by rw [← hC, ByteArray.size_append]; rfl
        rw [hB, hC] at HPU
        have g1 : ¬ 9223372036854775807 < A.size + 2 := by omega
        have g2 : ¬ 9223372036854775807 < B.size + 1 := by omega
        have g3 : ¬ 9223372036854775807 < C.size + cv.size := by omega
        go_wp2
        go_roundg g
        case measure => omega
        case rel => exact ⟨j + 1, by omega, by go_num, by rw [HPU.out], below_step HB.out HBX.out⟩
      · have i3 : ¬ (0 : Int) < (j : Int) := by omega
        rw [if_neg hj0] at HPU
        obtain ⟨C, hC⟩ : ∃ C, A ++ (⟨#[120]⟩ : ByteArray) = C := ⟨_, rfl⟩
        have hCz : C.size = A.size + 1 := by rw [← hC, ByteArray.size_append]; rfl
        rw [hC] at HPU
        have g2 : ¬ 9223372036854775807 < A.size + 1 := by omega
        have g3 : ¬ 9223372036854775807 < C.size + cv.size := by omega
        go_wp2
        go_roundg g
        case measure => omega
        case rel => exact ⟨j + 1, by omega, by go_num, by rw [HPU.out], below_step HB.out HBX.out⟩
    | zero =>
      obtain rfl : j = m := by omega
      obtain ⟨A, hA⟩ : ∃ A, pu5 s j = A := ⟨_, rfl⟩
      rw [hA] at HPT hpz ⊢
      have g1 : ¬ 9223372036854775807 < A.size + 1 := by omega
      clear hA
      by_cases hz : s.size = 0
      · rw [if_pos hz] at HPT
        have hz1 : ((s.size : Int) == 0) = true := by simp [hz]
        obtain ⟨B, hB⟩ : ∃ B, A ++ (⟨#[110, 111, 110, 101]⟩ : ByteArray) = B := ⟨_, rfl⟩
        have HPT2 : Hid (ptx s = B ++ (⟨#[41]⟩ : ByteArray)) := by show _ = _; rw [HPT.out, ← hB]; rfl
        have hBz : B.size = A.size + 4 := by rw [← hB, ByteArray.size_append]; rfl
        have g2 : ¬ 9223372036854775807 < A.size + 4 := by omega
        have g3 : ¬ 9223372036854775807 < B.size + 1 := by omega
        have i1 : ¬ (j : Int) < (s.size : Int) := by omega
        clear hz
        go_wp2
        go_ret
        exact ⟨by rw [HPT2.out]; rfl, HB.out⟩
      · rw [if_neg hz] at HPT
        have hz1 : ((s.size : Int) == 0) = false := beq_eq_false_iff_ne.2 (by omega)
        by_cases hjs : j < s.size
        · have i1 : (j : Int) < (s.size : Int) := by omega
          have i2 : ¬ (j : Int) < 9 := by omega
          go_wp2
          go_ret
          exact ⟨by rw [HPT.out]; rfl, HB.out⟩
        · have i1 : ¬ (j : Int) < (s.size : Int) := by omega
          go_wp2
          go_ret
          exact ⟨by rw [HPT.out]; rfl, HB.out⟩
/-- append of a list, empty or not. -/
theorem apR5 {T e : TypeId} {z : Value} {by_ size : Nat} (hT : Tryz.prog.underlying T = some (.slice e)) (hI : (Tryz.prog.info? e).map (fun i => (i.zero, i.size, i.bytes)) = some (some z, size, by_)) (hz : z.cells.size = size) (hsz : 0 < size) (hby : by_ ≤ 1000)
    (ty : TypeId) (w : World) (base : Nat) (v : Value) (n : Nat) (l : List Value) (hown : w.ownsRow base e size v n l) (y : Value) (m base' : Nat) (ys : List Value) (hy : w.ownsRow base' e size y m ys) (hone : ∀ u ∈ ys, u.oneCell' = true) (hlen : n + m ≤ 100000000000) (hbase : base ≤ w.heap.size) :
    ∃ v' w', (Builtin.append_ #[T, T] ty #[v, y]).run Tryz.prog w = .ok v' w' ∧ w'.ownsRow base e size v' (n + m) (l ++ ys) ∧ w.grownBy w' v.ownBlock ∧ (v'.ownBlock = v.ownBlock ∨ v'.ownBlock = some w.heap.size) := by
  obtain ⟨i, hi, h1, h2, h3⟩ := info5 hI
  rcases hy.2 with ⟨rfl, rfl⟩ | ⟨g, cap, cur, rfl, -⟩
  · have hys : ys = [] := List.length_eq_zero_iff.1 (by have := hy.1; simpa using this)
    refine ⟨v, w, run_append_owned_none (P := Tryz.prog) w base T ty e i size hT hi v n l hown, ?_, World.grownBy.refl _ _, Or.inl rfl⟩
    rw [hys, List.append_nil]
    exact hown
  · obtain ⟨v', w', g1, g2, g3, -, g4⟩ := run_append_own_at (P := Tryz.prog) w base T ty e i _ size by_ hT hi h1 h2 h3 hz hsz v n l hown ⟨g, 0, none⟩ m cap ys hy.1 (fun j u hj => by
        have := row5_cell hy hj
        rw [Go.WideShapes.add_plain]
        exact this) hone (by unfold maxLen; omega) (Nat.le_trans (Nat.mul_le_mul hlen hby) (by decide)) hbase
    exact ⟨v', w', g1, g2, g3, g4⟩
/-- .. as a step of a region. -/
theorem stepR5 {T : TypeId} {ops : Array Oper} {o : Oper} {a : Act} {K : Act → World → Prop} {Q : Exit → Act → World → Prop} {E : Prop} {w w' : World} (hgd : o.guard = none) (s x : Operand) (ho : o.op = .call { callee := .builtin .append, args := #[s, x], argTypes := #[T, T] }) (v y v' : Value) (hs : a.eval s = v) (hx : a.eval x = y)
    (hr : (Builtin.append_ #[T, T] o.type #[v, y]).run Tryz.prog w = .ok v' w') (h : K (a.put o.dst v') w') : if Region.wanted o (yielded ops a.tmps) = true then Oper.wp Tryz.prog o a w K Q else E := by
  have hw : Region.wanted o (yielded ops a.tmps) = true := by simp [Region.wanted, hgd]
  rw [if_pos hw]
  unfold Oper.wp
  simp [execOp, ho, resolve, invoke, builtin, hs, hx, hr, Result.andThen]
  exact h
/-- Texts that a call laid. -/
def Sx5 (w : World) (base : Nat) (v : Value) (l : List ByteArray) : Prop := w.ownsRow base 9 1 v l.length (l.map Value.string)
theorem Sx5.one {w : World} {b base : Nat} {x : ByteArray} (h : Bk w b #[.string x] 9) (hb : base ≤ b) : Sx5 w base (.slice (some ⟨b, 0, none⟩) 1 1) [x] :=
  ⟨rfl, Or.inr ⟨b, 1, _, rfl, hb, h, Nat.le_refl _, by unfold maxLen; omega, rfl, rfl⟩⟩
theorem strs_one (l : List ByteArray) : ∀ u ∈ l.map Value.string, u.oneCell' = true := fun u hu => by
  obtain ⟨x, -, rfl⟩ := List.mem_map.1 hu
  rfl
set_option maxRecDepth 20000 in
set_option maxHeartbeats 2000000 in
theorem names5_any (s : ByteArray) (hs : s.size ≤ 1000000000000000000) (w : World) :
    Calls Tryz.prog 12 #[.string s] w fun e w' => ∃ v, e = .returned v ∧ Sx5 w' w.heap.size v (nm5 s) ∧ Below w.heap.size w w' := by
  obtain ⟨m, hm⟩ : ∃ m, min s.size 9 = m := ⟨_, rfl⟩
  have hm9 : m ≤ 9 := by omega
  have hmz : m ≤ s.size := by omega
  have hmd : m = 9 ∨ m = s.size := by omega
  clear hm
  go_enter Tryz.func12, Tryz.ntmps12
  go_wp2
  go_loopg [3, 4] m (fun g u i wr => ∃ j : Nat, j + g = m ∧ i = .int .i64 (j : Int) ∧ Sx5 wr w.heap.size u (((blK s).take j).map nx5) ∧ Below w.heap.size w wr)
  case atStart => exact ⟨0, by omega, rfl, World.ownsRow_nil _ _ _ _, Below.refl _ _⟩
  case round =>
    obtain ⟨j, hj, rfl, ho, hb⟩ := hrel
    have HB := hm7 hb
    have HLJ : Hid ((((blK s).take j).map nx5).length = j) := by show _ = _; rw [List.length_map, List.length_take, bl_len]; omega
    have ho2 : wr.ownsRow w.heap.size 9 1 u3 j ((((blK s).take j).map nx5).map Value.string) := by have := ho; unfold Sx5 at this; rw [HLJ.out] at this; exact this
    obtain ⟨ua, uc, huf, -⟩ := row7_form ho2
    have HO := hm7 ho2
    subst huf
    have hsz := hb.size
    clear hb ho ho2
    cases gk with
    | succ g =>
      have i0 : (0 : Int) ≤ (j : Int) := by omega
      have i1 : (j : Int) < (s.size : Int) := by omega
      have i2 : (j : Int) < 9 := by omega
      have hlt : j < s.size := by omega
      have hix := fun (W : World) (k : IntKind) => run_index_atK s j hlt (j : Int) rfl W k
      have hcr := at_range s j
      have HTK : Hid ((((blK s).take (j + 1)).map nx5) = ((blK s).take j).map nx5 ++ [nx5 (atK_ s j)]) := by show _ = _; rw [take_snoc s j hlt, List.map_append]; rfl
      obtain ⟨c, hc⟩ : ∃ c, atK_ s j = c := ⟨_, rfl⟩
      rw [hc] at hix hcr HTK
      obtain ⟨d, hd⟩ : ∃ d, c % 26 = d := ⟨_, rfl⟩
      have hd0 : 0 ≤ d ∧ d ≤ 25 := by omega
      have hrm : c.tmod 26 = d := by rw [Int.tmod_eq_emod_of_nonneg hcr.1]; exact hd
      have hcv := conv1 (W := wr.alloc (.cells #[.int .u8 (97 + d)] 5)) (c := 97 + d) (by omega) (Bk.new wr #[.int .u8 (97 + d)] 5)
      have hz1 : (ofL [97 + d]).size = 1 := by rw [ofL_sz]; rfl
      have HBX := hm7 (below1 wr (.cells #[.int .u8 (97 + d)] 5))
      have HNX : Hid (nx5 c = (⟨#[120]⟩ : ByteArray) ++ ofL [97 + d]) := by
        show _ = _
        have : blK (nx5 c) = blK ((⟨#[120]⟩ : ByteArray) ++ ofL [97 + d]) := by rw [bl_nx5, bl_appJ5, hd, bl_ofL (l := [97 + d]) (fun x hx => by simp at hx; omega)]; rfl
        have h2 := congrArg ofL this
        rw [ofL_bl, ofL_bl] at h2
        exact h2
      obtain ⟨cv, hcv2⟩ : ∃ v, ofL [97 + d] = v := ⟨_, rfl⟩
      rw [hcv2] at hcv hz1 HNX
      obtain ⟨C, hC⟩ : ∃ C, (⟨#[120]⟩ : ByteArray) ++ cv = C := ⟨_, rfl⟩
      rw [hC] at HNX
      have g3 : ¬ 9223372036854775807 < 1 + cv.size := by omega
      clear hc hd hcv2
      have HO2 := hm7 (row7_below (row7_below HO.out HBX.out) (below1 (wr.alloc (.cells #[.int .u8 (97 + d)] 5)) (.cells #[.string C] 9)))
      go_wp2_with (at_builtin; refine gapp5 Tryz.underlying39 Tryz.infoStr5 rfl (by decide) (by decide) rfl _ _ rfl w.heap.size (.slice ua j uc) j ((((blK s).take j).map nx5).map Value.string) rfl HO2.out (wr.alloc (.cells #[.int .u8 (97 + d)] 5)).heap.size #[.string C] (by simp; rfl) (Bk.new _ _ _) rfl (by simp [Value.oneCell']) (by omega) (by simp; omega) ?_; intro g5' q5 w5 ho5 hg5 hv5 hl5; have HO5 := hm7 ho5; have HG5 := hm7 hg5; clear ho5 hg5 hv5 hl5)
      try go_wp2
      go_roundg g
      case measure => omega
      case rel =>
        refine ⟨j + 1, by omega, by go_num, ?_, ?_⟩
        · rw [HTK.out]
          unfold Sx5
          rw [List.length_append, HLJ.out, List.map_append, HNX.out]
          exact HO5.out
        · have b1 := below_step (below_step HB.out HBX.out) (below1 (wr.alloc (.cells #[.int .u8 (97 + d)] 5)) (.cells #[.string C] 9))
          exact b1.grown HG5.out b1.size fun k e => (World.ownsRow.lt HO2.out k e).1
    | zero =>
      obtain rfl : j = m := by omega
      by_cases hz : s.size = 0
      · have hz0 : j = 0 := by omega
        subst hz0
        have HNM : Hid (nm5 s = [no5]) := by show _ = _; unfold nm5; rw [if_pos hz]
        have i1 : ¬ ((0 : Nat) : Int) < (s.size : Int) := by omega
        have HL0 : Hid (((((blK s).take 0).map nx5).map Value.string) = []) := rfl
        have HO2 := hm7 (row7_below HO.out (below1 wr (.cells #[.string no5] 9)))
        unfold no5 at HO2
        clear hz
        go_wp2_with (at_builtin; refine gapp5 Tryz.underlying39 Tryz.infoStr5 rfl (by decide) (by decide) rfl _ _ rfl w.heap.size (.slice ua 0 uc) 0 ((((blK s).take 0).map nx5).map Value.string) rfl HO2.out wr.heap.size #[.string ⟨#[110, 111, 110, 101]⟩] rfl (Bk.new _ _ _) rfl (by simp [Value.oneCell']) (by omega) (by simp; omega) ?_; intro g5' q5 w5 ho5 hg5 hv5 hl5; have HO5 := hm7 ho5; have HG5 := hm7 hg5; clear ho5 hg5 hv5 hl5)
        try go_wp2
        go_ret
        refine ⟨_, rfl, ?_, ?_⟩
        · rw [HNM.out]
          exact HO5.out
        · have b1 := below_step HB.out (below1 wr (.cells #[.string ⟨#[110, 111, 110, 101]⟩] 9))
          exact b1.grown HG5.out b1.size fun k e => (World.ownsRow.lt HO2.out k e).1
      · have hjz : ((j : Int) == 0) = false := beq_eq_false_iff_ne.2 (by omega)
        have HNM : Hid (nm5 s = ((blK s).take j).map nx5) := by
          show _ = _
          unfold nm5
          rw [if_neg hz]
          rcases hmd with e | e
          · rw [e]
          · rw [e, ← bl_len, List.take_of_length_le (Nat.le_refl _), List.take_of_length_le (by rw [bl_len]; omega)]
        by_cases hjs : j < s.size
        · have i1 : (j : Int) < (s.size : Int) := by omega
          have i2 : ¬ (j : Int) < 9 := by omega
          go_wp2
          go_ret
          refine ⟨_, rfl, ?_, HB.out⟩
          rw [HNM.out]
          unfold Sx5
          rw [HLJ.out]
          exact HO.out
        · have i1 : ¬ (j : Int) < (s.size : Int) := by omega
          go_wp2
          go_ret
          refine ⟨_, rfl, ?_, HB.out⟩
          rw [HNM.out]
          unfold Sx5
          rw [HLJ.out]
          exact HO.out
end Go.Proofs.YtnikmcmkbjjcdaaGreatDoor
/-
  SyntaxDeep: the walk.
-/
namespace Go.Proofs.YtnikmcmkbjjcdaaGreatDoor
open Go.RowKit
attribute [local go_sem ↓] Go.wp_at_zero Go.wp_at_succ

theorem eql_ft5 (e p : Int) (w : World) : (binOp .eql 26 (.agg #[.int .i64 e, .int .i64 p]) (.agg #[.int .i64 e, .int .i64 p])).run Tryz.prog w = .ok (.bool true) w := by
  go_simp
end Go.Proofs.YtnikmcmkbjjcdaaGreatDoor

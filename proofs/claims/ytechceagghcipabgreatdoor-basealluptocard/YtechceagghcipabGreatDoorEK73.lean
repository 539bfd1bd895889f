import Derived.Test.YtechceagghcipabGreatDoorEK2
import Derived.Test.YtechceagghcipabGreatDoorEG4
import Derived.Test.YtechceagghcipabGreatDoorT2
import Derived.Deep.DeepHandedRow
import Derived.LaidMore
import Derived.Test.YtechceagghcipabGreatDoorCards
import Derived.Test.YtechceagghcipabGreatDoorTie
import Derived.SevenTiedAt
import Derived.JoinedCond
namespace Go.Proofs.YtechceagghcipabGreatDoor
open Go.RowKit
def FP8 (w : World) (b r c s k z : Nat) (Y : World) : Prop :=
 ∃ A B M T R A' B' M' T' R', (DO8 w A B b r M T R Y /\ M <= k * 1048577 /\ T <= z /\ sz8 (Ei R) <= z) /\ (DO8 w A' B' c s M' T' R' Y /\ M' <= k * 1048577 /\ T' <= z /\ sz8 (Ei R') <= z) /\ ∀ x, A x ∨ B x -> ¬ (A' x ∨ B' x)
theorem FP8.swap {w : World} {b r c s k z : Nat} {Y : World} (h : FP8 w b r c s k z Y) : FP8 w c s b r k z Y := by
 obtain ⟨A, B, M, T, R, A', B', M', T', R', h1, h2, h3⟩ := h
 exact ⟨A', B', M', T', R', A, B, M, T, R, h2, h1, fun x hx hy => h3 x hy hx⟩
theorem FP8.bl {w : World} {b r c s k z : Nat} {Y : World} (h : FP8 w b r c s k z Y) : Below w.heap.size w Y := by
 obtain ⟨A, B, M, T, R, A', B', M', T', R', h1, -⟩ := h
 exact h1.1.p.bl
set_option maxRecDepth 20000 in
theorem FP8.does {w : World} {b r c s k z : Nat} {Y : World} (h : FP8 w b r c s k z Y) (hk9 : k <= 1048576) (kk fr to_ n : Int) (two : Bool) (fk fn : Int) (fs fnm : ByteArray) (fl : List Tm) (xa : Option Addr) (xc : Nat) (hx : TsP w (.slice xa fl.length xc) fl) (hk : ∀ t ∈ (⟨⟨fk, fn, fs⟩, fnm, fl⟩ : At).pl, KeyT t) (hkp : KeyP (⟨⟨fk, fn, fs⟩, fnm, fl⟩ : At).pd8) (hB : BehA w) (hz : z + (⟨⟨fk, fn, fs⟩, fnm, fl⟩ : At).pl.length <= 1048576) :
  Calls Tryz.prog 8 #[.pointer (some ⟨b, 0, none⟩), .pointer (some ⟨r, 0, none⟩), .agg #[.int .i64 kk, .int .i64 fk, .int .i64 fn, .string fs, .string fnm, .slice xa fl.length xc, .int .i64 n, .bool two], .int .i64 fr, .int .i64 to_] Y fun e Y' => e = .returned (.bool true) /\ FP8 w b r c s (k + 1) (z + (⟨⟨fk, fn, fs⟩, fnm, fl⟩ : At).pl.length) Y' := by
 obtain ⟨A, B, M, T, R, A', B', M', T', R', ⟨h1, h2, h3, h4⟩, ⟨h5, h6, h7, h8⟩, h9⟩ := h
 obtain ⟨L, hL⟩ : ∃ L, (⟨⟨fk, fn, fs⟩, fnm, fl⟩ : At).pl.length = L := ⟨_, rfl⟩
 have hq1 : M <= 5000000000000 := by omega
 have hq2 : T + (⟨⟨fk, fn, fs⟩, fnm, fl⟩ : At).pl.length <= 100000000 := by rw [hL] at hz ⊢; omega
 have hq3 : sz8 (Ei R) <= 1048576 := by rw [hL] at hz; omega
 have hq4 : (⟨⟨fk, fn, fs⟩, fnm, fl⟩ : At).pl.length <= 1048576 := by rw [hL] at hz ⊢; omega
 refine (does8_any w A B b r M T R Y kk fr to_ n two fk fn fs fnm fl xa xc h1 hx hk hkp hB hq1 hq2 hq3 hq4).mono ?_
 rintro e Y' ⟨rfl, A2, B2, M2, T2, R2, k1, k2, k3, k4, k5, k6⟩
 refine ⟨rfl, A2, B2, M2, T2, R2, A', B', M', T', R', ⟨k1, by rw [Nat.succ_mul]; omega, Nat.le_trans k3 (Nat.add_le_add_right h3 _), Nat.le_trans k4 (Nat.add_le_add_right h4 _)⟩, ⟨h5.fr k5 fun x hx _ => ⟨⟨fun hy => h9 x hx (Or.inl hy), fun hy => h9 x hx (Or.inr hy)⟩, (h1.lt hx).1⟩, Nat.le_trans h6 (Nat.mul_le_mul_right _ (Nat.le_succ _)), Nat.le_trans h7 (Nat.le_add_right _ _), Nat.le_trans h8 (Nat.le_add_right _ _)⟩, fun x hx hy => ?_⟩
 rcases k6 x hx with h | h
 ·exact h9 x h hy
 ·have := (h5.lt hy).2; omega
end Go.Proofs.YtechceagghcipabGreatDoor
namespace Go.Proofs.YtechceagghcipabGreatDoor
open Go.RowKit
attribute [local go_sem ↓] Go.wp_at_zero Go.wp_at_succ
set_option maxRecDepth 20000 in
set_option maxHeartbeats 2000000 in
theorem plays8_any (w : World) (sv : Value) (Os : List Op8) (fr to_ : Int) (hS : Sc8 w sv Os) (hB : BehA w) (hl : Os.length <= 1048576) (hz : zo8 Os <= 1048576) :
  Calls Tryz.prog 5 #[sv, .int .i64 fr, .int .i64 to_] w fun e w' => e = .returned (.bool true) /\ Below w.heap.size w w' := by
 obtain ⟨sa, sc, rfl, hs, hok⟩ := hS
 have HS := hm7 hs
 have HOK := hm7 hok
 have HZ := hm7 hz
 have HBH := hm7 hB
 obtain ⟨n, hn⟩ : ∃ n, Os.length = n := ⟨_, rfl⟩
 rw [hn]
 have HN := hm7 hn
 have n1 : n <= 1048576 := by omega
 clear hs hok hz hn hl hB
 go_enter Tryz.func5, Tryz.ntmps5
 go_upto_region 2 with (go_at_call 6; refine (bp_new w w (Below.refl _ _)).mono ?_; rintro e W1 ⟨b, A1, rfl, h1, h2, h3⟩; have H1 := hm7 h1; have HL1 := hm7 h2; have HB1 := hm7 h3; clear h1 h2 h3)
 go_upto_region 3 with (go_at_call 6; refine (bp_new w W1 HB1.out).mono ?_; rintro e W2 ⟨c, A2, rfl, h1, h2, h3⟩; have H2 := hm7 h1; have HL2 := hm7 h2; have HB2 := hm7 h3; clear h1 h2 h3)
 have HB12 := hm7 (HB1.out.trans (HB2.out.mono HB1.out.size))
 go_upto_region 6 with (go_at_call 7; refine (rbnew8_any w W2 HB12.out).mono ?_; rintro e W3 ⟨r, B1, l1, rfl, h1, h2, h3⟩; have H3 := hm7 h1; have HL3 := hm7 h2; have HB3 := hm7 h3; clear h1 h2 h3)
 have HB13 := hm7 (HB12.out.trans (HB3.out.mono HB12.out.size))
 go_upto_region 7 with (go_at_call 7; refine (rbnew8_any w W3 HB13.out).mono ?_; rintro e W4 ⟨s, B2, l2, rfl, h1, h2, h3⟩; have H4 := hm7 h1; have HL4 := hm7 h2; have HB4 := hm7 h3; clear h1 h2 h3)
 have HFP : Hid (FP8 w b r c s 0 0 W4) := by
  have e0 : Ei [] = [] := rfl
  have p1 : BP8 w A1 b 0 0 (Ei []) W4 := ((H1.out.below HB2.out).below HB3.out).below HB4.out
  have p2 : BP8 w A2 c 0 0 (Ei []) W4 := (H2.out.below HB3.out).below HB4.out
  have q1 : RB8 w B1 r l1 [] W4 := H3.out.below HB4.out
  have s2 := HB2.out.size
  have s3 := HB3.out.size
  have t1 : ∀ x, A1 x -> x < W1.heap.size := fun x hx => (H1.out.lt hx).2
  have t2 : ∀ x, A2 x -> W1.heap.size <= x /\ x < W2.heap.size := fun x hx => ⟨HL2.out x hx, (H2.out.lt hx).2⟩
  have t3 : ∀ x, B1 x -> W2.heap.size <= x /\ x < W3.heap.size := fun x hx => ⟨HL3.out x hx, (H3.out.lt hx).2⟩
  have t4 : ∀ x, B2 x -> W3.heap.size <= x := HL4.out
  refine ⟨A1, B1, 0, 0, [], A2, B2, 0, 0, [], ⟨⟨p1, ⟨l1, q1⟩, fun x h1 h2 => ?_, List.Pairwise.nil, nofun⟩, by omega, Nat.le_refl _, by simp [sz8, Ei]⟩, ⟨⟨p2, ⟨l2, H4.out⟩, fun x h1 h2 => ?_, List.Pairwise.nil, nofun⟩, by omega, Nat.le_refl _, by simp [sz8, Ei]⟩, fun x h1 h2 => ?_⟩
  ·have := t1 x h1; have := t3 x h2; omega
  ·have := t2 x h1; have := t4 x h2; omega
  ·rcases h1 with h1 | h1 <;> rcases h2 with h2 | h2
   ·have := t1 x h1; have := t2 x h2; omega
   ·have := t1 x h1; have := t4 x h2; omega
   ·have := t3 x h1; have := t2 x h2; omega
   ·have := t3 x h1; have := t4 x h2; omega
 clear H1 H2 H3 H4 HL1 HL2 HL3 HL4 HB1 HB2 HB3 HB4 HB12 HB13
 go_wp2
 go_loopg [11] n (fun gg i wr => ∃ j : Nat, j + gg = n /\ i = .int .i64 j /\ FP8 w b r c s j (zo8 (Os.take j)) wr)
 case atStart => exact ⟨0, by omega, rfl, by simpa [zo8] using HFP.out⟩
 case round =>
  obtain ⟨j, hj, rfl, hp8⟩ := hrel
  have HP := hm7 hp8
  have hbl := hp8.bl
  clear hp8 HFP
  cases gk with
  | succ gg =>
   have hlt : (j : Int) < (n : Int) := by omega
   have j0 : (0 : Int) <= (j : Int) := by omega
   obtain ⟨p, hp⟩ : ∃ p, Os[j]? = some p := ⟨_, List.getElem?_eq_getElem (by have := HN.out; omega)⟩
   obtain ⟨kts, kk, knm⟩ := HOK.out p (List.mem_of_getElem? hp)
   have hz1 := zo8_take Os j p hp
   have hz2 := zo8_le Os (j + 1)
   have hz3 := HZ.out
   rcases HS.out with hr | ⟨sb, so, rfl, hsl, hsc⟩
   ·have := HN.out; rw [hr] at this; simp at this; omega
   have hc := hsc j p hp
   obtain ⟨pk, ⟨⟨⟨fk, fn, fs⟩, nm, al⟩, fv⟩, pn, pt⟩ := p
   obtain ⟨fa, fc, hsh⟩ := kts.shape
   simp only at hsh
   subst hsh
   simp only [Op8.cs] at hc
   simp only at kts kk knm hz1
   have hkp : KeyP (⟨⟨fk, fn, fs⟩, nm, al⟩ : At).pd8 := pd8_key knm (by have h9 : al.length <= (⟨⟨fk, fn, fs⟩, nm, al⟩ : At).pl.length := (by simp [At.pl]); simp only; omega)
   have c0 := cell_step hbl hsl (hc 0 _ rfl)
   rw [Nat.add_zero] at c0
   have c1 := cell_step hbl hsl (hc 1 _ rfl)
   rw [<- Nat.add_assoc] at c1
   have c2 := cell_step hbl hsl (hc 2 _ rfl)
   rw [<- Nat.add_assoc] at c2
   have c3 := cell_step hbl hsl (hc 3 _ rfl)
   rw [<- Nat.add_assoc] at c3
   have c4 := cell_step hbl hsl (hc 4 _ rfl)
   rw [<- Nat.add_assoc] at c4
   have c5 := cell_step hbl hsl (hc 5 _ rfl)
   rw [<- Nat.add_assoc] at c5
   have c6 := cell_step hbl hsl (hc 6 _ rfl)
   rw [<- Nat.add_assoc] at c6
   have c7 := cell_step hbl hsl (hc 7 _ rfl)
   rw [<- Nat.add_assoc] at c7
   have HZN := hm7 hz1
   cases pt with
   | false =>
    have HD := hm7 (HP.out.does (by omega) pk fr to_ pn false fk fn fs nm al fa fc kts kk hkp HBH.out (by omega))
    have HC7 : Hid (∀ X, Below w.heap.size w X -> X.cell? ⟨sb, so + j * 8 + 7, none⟩ = some (.bool false)) := fun X hX => by
     have := cell_step hX hsl (hc 7 _ rfl)
     rw [<- Nat.add_assoc] at this
     exact this
    clear hc hsc kts kk knm hkp hp hz1 hz2 hz3 hbl
    go_upto_region 12 with (go_at_call 8; refine HD.out.mono ?_; rintro e Z ⟨rfl, hz9⟩; have HPZ := hm7 hz9; have d7 := HC7.out Z hz9.bl; clear hz9 c0 c1 c2 c3 c4 c5 c6 c7 HD)
    go_wp2
    go_roundg gg
    case measure => omega
    case rel => exact ⟨j + 1, by omega, by go_num, by rw [HZN.out]; exact HPZ.out⟩
   | true =>
    have HD := hm7 (HP.out.swap.does (by omega) pk fr to_ pn true fk fn fs nm al fa fc kts kk hkp HBH.out (by omega))
    clear hc hsc kts kk knm hkp hp hz1 hz2 hz3 hbl
    go_wp2_with (go_at_call 8; refine HD.out.mono ?_; rintro e Z ⟨rfl, hz9⟩; have HPZ := hm7 hz9.swap; clear hz9 c0 c1 c2 c3 c4 c5 c6 c7 HD)
    go_roundg gg
    case measure => omega
    case rel => exact ⟨j + 1, by omega, by go_num, by rw [HZN.out]; exact HPZ.out⟩
  | zero =>
   have hlt : ¬ (j : Int) < (n : Int) := by omega
   have HBF := hm7 hbl
   clear hbl
   go_wp2_with (go_at_call 9; refine (first8_any _).mono ?_; rintro e W8 ⟨rfl, hb⟩; have H8 := hm7 (HBF.out.trans (hb.mono HBF.out.size)); clear hb HBF)
   go_ret
   exact ⟨rfl, H8.out⟩
end Go.Proofs.YtechceagghcipabGreatDoor
namespace Go.Proofs.YtechceagghcipabGreatDoor
open Go.ChangeShapes Go.WideShapes Go.ChangeAt Go.RowKit Go.Joins Go.Deep
theorem Tryz.gBT8 : Tryz.prog.globalNamed "hearsay/hearsayref03.behindTerm" = some 0 := by kernel_rfl
theorem Tryz.tBT8 : (Tryz.prog.globals[0]?).map (·.type) = some 30 := by kernel_rfl
theorem terms_lits8 {H : Type} {enc : TypeId × Value -> H} {W : World} {base : Nat} {spare : Nat -> Bool} {held : Bool} {fuel : Nat} {cs : List Value} {x : DataW H × List MemPlace}
  (h : DataW.trod enc Tryz.prog W base spare held fuel 30 cs = some x) (hl : cs.length = 3) : ∃ t : Tm, cs = [.int .i64 t.k, .int .i64 t.n, .string t.s] /\ x.1 = .agg [.lit (.int .i64 t.k), .lit (.int .i64 t.n), .lit (.string t.s.data.toList)] := by
 obtain ⟨c0, c1, c2, rfl⟩ := list3 hl
 obtain ⟨y0, y1, y2, n, hd, -, h0, h1, h2⟩ := trod_struct3 Tryz.underlying30 h
 rw [Tryz.cellsInt] at h0 h1
 rw [Tryz.cellsString] at h2
 obtain ⟨k, e0, f0, -⟩ := DataW.trod_int Tryz.underlying3 h0
 obtain ⟨m, e1, f1, -⟩ := DataW.trod_int Tryz.underlying3 h1
 obtain ⟨s, e2, f2, -⟩ := DataW.trod_string Tryz.underlying9 h2
 simp at e0 e1 e2
 subst e0 e1 e2
 refine ⟨⟨k, m, s⟩, rfl, ?_⟩
 rw [hd, f0, f1, f2]
set_option maxRecDepth 100000 in
theorem behA_of_laid {W : World} (h : laidMetH Tryz.prog [("hearsay/hearsayref03.behindTerm", Rows.laid_hearsay_hearsayref03_behindTerm)] W) : BehA W := by
 rw [MakeChecks.laidMetH_plain _ _ _ (by kernel_rfl)] at h
 obtain ⟨ps, ⟨g1, t1, cs1, f1, p1, q1, hg1, ht1, hv1, hd1, _, _⟩, _, _⟩ := h
 obtain rfl := Option.some.inj (Tryz.gBT8.symm.trans hg1)
 obtain rfl := Option.some.inj (Tryz.tBT8.symm.trans ht1)
 obtain ⟨y0, y1, y2, n, -, hl, -, -, -⟩ := trod_struct3 Tryz.underlying30 hd1
 rw [Tryz.cellsTerm] at hl
 obtain ⟨d, e, hx⟩ := terms_lits8 hd1 hl
 have hc : ∀ i, W.cell? ⟨0, i, none⟩ = d.cs[i]? := fun i => by
  have := World.var?_cell hg1 hv1 i
  rw [Tm.cs, <- e]; simpa using this
 simp only [Rows.laid_hearsay_hearsayref03_behindTerm, DataW.agg.injEq, List.cons.injEq, DataW.lit.injEq, Lit.int.injEq, Lit.string.injEq, true_and, and_true] at hx
 have hs : d.s = ⟨#[98, 101, 104, 105, 110, 100]⟩ := ByteArray.ext (Array.toList_inj.1 hx.2.2.symm)
 have h0 := hc 0; have h1 := hc 1; have h2 := hc 2
 simp only [Tm.cs, <- hx.1, <- hx.2.1, hs] at h0 h1 h2
 exact ⟨World.block_lt_of_cell? W _ h0, trivial, h0, h1, h2, trivial⟩
end Go.Proofs.YtechceagghcipabGreatDoor
namespace Go.Proofs.YtechceagghcipabGreatDoor
open Go.ChangeShapes Go.WideShapes Go.ChangeAt Go.RowKit
set_option maxRecDepth 20000 in
theorem baseAll8_any (w : World) (sv : Value) (Os : List Op8) (hS : Sc8 w sv Os) (hB : BehA w) (hl : Os.length <= 1048576) (hz : zo8 Os <= 1048576) :
  Calls Tryz.prog 4 #[sv] w fun e w' => e = .returned (.bool true) /\ Below w.heap.size w w' := by
 have HC := hm7 (plays8_any w sv Os 1 7 hS hB hl hz)
 obtain ⟨sa, sc, rfl, -⟩ := hS
 go_enter Tryz.func4, Tryz.ntmps4
 go_wp2_with (go_at_call 5; refine HC.out.mono ?_; rintro e W1 ⟨rfl, hb⟩; have HB := hm7 hb; clear hb)
 go_ret
 exact ⟨rfl, HB.out⟩
theorem baseAll_met (os : Os) (args : Array Value) : laidMetH Tryz.prog [("hearsay/hearsayref03.behindTerm", Rows.laid_hearsay_hearsayref03_behindTerm)] ((World.doorLaid Tryz.prog 400 os).forCall (fun _ _ => 0) ⟨#[], args, []⟩).memory :=
 laidMetH_of_parts3 (fuel := 8) (laidMet_of_run' 8 (by kernel_rfl) (by kernel_rfl)) (by kernel_rfl) (by kernel_rfl)
theorem baseAll_reads (os : Os) {H : Type} (enc : TypeId × Value -> H) : ∃ places, DataW.whole enc Tryz.prog ((World.doorLaid Tryz.prog 400 os).forCall (fun _ _ => 0) ⟨#[], #[.slice none 0 0], []⟩).memory Tryz.f4.params.toList Rows.baseAllSpec.vars false #[.slice none 0 0].toList 8 = some ([.nil], [], places) :=
 ⟨[], by kernel_rfl⟩
set_option maxRecDepth 100000 in
theorem baseAll_lifted (os : Os) (started : os.Started) (H : Type) (enc : TypeId × Value -> H) (F : Stop.Interp) :
  ReturnsInHanded {} Tryz.checked os 4 .any ((Rows.OpenSpec.upto Rows.baseAllSpec).preRow enc Tryz.prog Tryz.f4 Rows.baseAllUptoRow.domain false Rows.baseAllUptoRow.laid) (((Rows.OpenSpec.upto Rows.baseAllSpec).at F).post enc Tryz.prog Tryz.f4 false true false false) := by
 obtain ⟨places, hx⟩ := baseAll_reads os enc
 refine returnsInHanded_of_row (C := Tryz.checked) (s := Rows.OpenSpec.upto Rows.baseAllSpec) Tryz.own started (by kernel_rfl) Tryz.func4
  (witness_row_at (enc := enc) (C := Tryz.checked) false (World.doorLaid Tryz.prog 400 os) #[.slice none 0 0] rfl (by kernel_rfl) (by kernel_rfl) (by kernel_rfl)
   (OpenSpec.preRow_of_cond 8 hx (by kernel_rfl) (fun k hk => by cases hk; kernel_rfl) (by kernel_rfl) (baseAll_met os _))) ?_
 intro W base args ds gs before hval0 hW _ hcond hsz0 hL0 _ _
 have hk : Rows.uptoSmall H (ds ++ gs) = true := hcond _ rfl
 have hL : laidMetH Tryz.prog [("hearsay/hearsayref03.behindTerm", Rows.laid_hearsay_hearsayref03_behindTerm)] W := hL0
 have hval : ∀ (j : Nat) t v, Tryz.f4.params[j]? = some t -> args[j]? = some v -> Value.okWide Tryz.prog W .any base t v := hval0
 have hsz : (DataW.weightsEach Tryz.prog (Tryz.f4.params.toList ++ Rows.baseAllSpec.plain.varTypes Tryz.prog) (ds ++ gs)).all (· <= reachBytes) = true := hsz0
 have hW' := hW
 obtain ⟨p, q, hA0, hV, rfl, hfz, hnd⟩ := hW
 have hA : DataW.TrodAll enc Tryz.prog W 0 (fun _ => true) true Tryz.f4.params.toList args.toList ds p := hA0
 rw [Tryz.params4] at hA hval hsz
 obtain ⟨v0, vs0, d0, ds0, p0, q0, hargs, rfl, rfl, h0, r0⟩ := trodAll_cons hA
 obtain ⟨rfl, rfl, rfl⟩ := trodAll_nil r0
 obtain rfl : args = #[v0] := by cases args; simp_all
 obtain ⟨rfl, rfl⟩ := trodVars_none hV
 have k0 := h0
 have lt0 : ∀ x ∈ p0, x.block < W.heap.size := by obtain ⟨m, hm⟩ := k0; exact DataW.trod_lt m _ _ _ hm
 have sz : ∀ n ∈ DataW.weightsEach Tryz.prog _ _, n <= reachBytes := fun n hn => by simpa using List.all_eq_true.1 hsz n hn
 have hbk : Rows.uptoBulkAll ([d0] ++ []) <= 1048576 := of_decide_eq_true hk
 simp only [List.cons_append, List.nil_append, Rows.uptoBulkAll] at hbk
 obtain ⟨a0, n0, c0, rfl⟩ := okWide_slice Tryz.underlying22 (hval 0 22 v0 rfl rfl)
 obtain ⟨f0, hf0⟩ := h0
 obtain ⟨w0, O0, hcs0, b0, bl0, bt0⟩ := open_ops8 hf0 (fun n hn => sz n (DataW.weights_mem_each (j := 0) rfl rfl n hn))
 simp [Value.cells] at hcs0
 subst hcs0
 simp only at bl0 bt0
 clear hA0 hval0
 refine (baseAll8_any W _ O0 b0 (behA_of_laid hL) (by omega) (by have h9 : zo8 O0 <= Rows.uptoBulk d0 := bt0; omega)).mono fun e W' ⟨he, bel⟩ => ?_
 subst he
 exact ⟨_, rfl, _, _, _, [], _, [], hW', trodAll_mk1 (shut_bool Tryz.underlying4 _), (trodAll_cons_mk (Below.trod Tryz.laidOut (by kernel_rfl) (of_decide_eq_true (by kernel_rfl)) k0 bel lt0) trodAll_mk0), rfl, bel.frame _, fun h => by cases h⟩
theorem baseAll_row : Rows.BaseAllUptoSaid :=
 OpenClaim.holds_of_cond 4 Tryz.f4 rfl rfl rfl rfl rfl rfl rfl ⟨rfl, rfl, rfl, rfl, rfl⟩ rfl rfl rfl rfl rfl (by kernel_rfl) Tryz.func4 (by kernel_rfl)
  (of_decide_eq_true (by kernel_rfl)) (by unfold Func.isWrapper; first | (rw [if_pos (by decide +kernel)]; kernel_rfl) | (rw [if_neg (by decide +kernel)]; exact ⟨rfl, rfl⟩))
  (fun os started H enc _ F => by rw [OpenClaim.pre_eq_preRow]; exact baseAll_lifted os started H enc F)
theorem baseAll_holds : Rows.BaseAllUptoCardSaid :=
 Claim7.holds_tied_plain_at .later [] _ _ _ _
  baseAll_row (fun _ h => by cases h) (by kernel_rfl) (fun _ h => by cases h) baseAllUpto_row_tie rfl ⟨rfl, rfl⟩ (by kernel_rfl) rfl
  (fun f fn hf hfn => by
   obtain rfl : f = 4 := Option.some.inj ((show Tryz.prog.funcNamed "hearsay/hearsaylaw08.BaseAll" = some 4 by kernel_rfl).symm.trans hf) |>.symm
   obtain rfl : fn = Tryz.f4 := (Option.some.inj (Tryz.func4.symm.trans hfn)).symm
   exact ⟨by kernel_rfl, fun j t ht => by
    rw [Tryz.params4] at ht
    have h3 : t = 22 := by
     rcases j with _ | j
     ·simpa using ht.symm
     ·simp at ht
    subst h3
    exact (show Tryz.prog.wantsStandIn 22 = false by kernel_rfl)⟩)
  (by kernel_rfl)
#print axioms baseAll_holds
end Go.Proofs.YtechceagghcipabGreatDoor

import Derived.Test.YtnenadklmjcakaaGreatDoorCL1
import Derived.Test.YtnenadklmjcakaaGreatDoorSD17
import Derived.Test.YtnenadklmjcakaaGreatDoorSD5
import Derived.Test.YtnenadklmjcakaaGreatDoorCK1
import Derived.ProofKit
import Derived.OpenShut
import Derived.ShutString
import Derived.ChangeOld
import Derived.Below
import Derived.Lib.SmallJoins
import Derived.Deep.Slices
import Derived.Deep.Strs
import Derived.SizedLaws
import Derived.Test.YtnenadklmjcakaaGreatDoorL1
import Derived.Test.YtnenadklmjcakaaGreatDoorRows
import Derived.Test.YtnenadklmjcakaaGreatDoorT4
import Derived.Deep.DeepHandedRow
import Derived.LaidMore
import Derived.Test.YtnenadklmjcakaaGreatDoorSD4
namespace Go.Proofs.YtnenadklmjcakaaGreatDoor
open Go.RowKit

theorem LentC.later {X X' : World} {B : Nat} {u : Value} {LB : List Cm} (h : LentC X B u LB) (hb : Below X.heap.size X X') : LentC X' B u LB := by
 obtain ⟨⟨g, cap, e, ho⟩, ht⟩ := h
 exact ⟨⟨g, cap, e, ho.later hb⟩, fun d hd => (ht d hd).later hb⟩
theorem LentC.csp {X : World} {B : Nat} {u : Value} {LB : List Cm} (h : LentC X B u LB) (hs : ∀ d ∈ LB, (Ck.terms d.key).length <= 4000000) : CsP X u LB := by
 obtain ⟨⟨g, cap, rfl, ho⟩, ht⟩ := h
 refine ⟨Or.inr ⟨⟨g, 0, none⟩, cap, rfl, ?_⟩, fun d hd => (ht d hd).okk (hs d hd)⟩
 obtain ⟨b, o, e, hr⟩ := ho.adr (j := LB.length) (c := bC) (by simp)
 cases e
 exact Or.inr ⟨g, 0, rfl, hr.1, fun i c hc => hr.2 i c (by rw [List.getElem?_append_left (List.getElem?_eq_some_iff.1 hc).1]; exact hc)⟩
set_option maxRecDepth 20000 in
set_option maxHeartbeats 4000000 in
theorem keptCs_any (p LB : List Cm) (v y : Value) (base : Nat) (w : World) (h : CsP w y p) (hs : ∀ c ∈ p, (Ck.terms c.key).length <= 4000000) (ho : LentC w base v LB) (hk : LB.map Cm.key = p.map Cm.key) (hB : BehOk w) (hl : p.length <= 1000000000) :
  Calls Tryz.prog 9 #[v, y] w fun e w' => e = .returned (.bool true) /\ Below w.heap.size w w' := by
 have hlen : LB.length = p.length := by have := congrArg List.length hk; simpa using this
 have HLO : Hid (LentC w base v LB) := ho
 have HP : Hid (CsP w y p) := h
 have HS : Hid (∀ c ∈ p, (Ck.terms c.key).length <= 4000000) := hs
 have HK : Hid (LB.map Cm.key = p.map Cm.key) := hk
 have HB : Hid (BehOk w) := hB
 have HLL : Hid (LB.length = p.length) := hlen
 obtain ⟨ua, uc, rfl⟩ := h.form
 obtain ⟨⟨g0, cap, rfl, ho⟩, ht⟩ := ho
 have HO : Hid (OwnC w base (.slice (some ⟨g0, 0, none⟩) (LB.length + 1) cap) (LB ++ [bC])) := ho
 have HT : Hid (∀ d ∈ LB, Lent base w d) := ht
 have hcap : LB.length + 1 <= cap := by
  obtain ⟨g, cp, e, hc⟩ := ownC_some ho
  simp only [Value.slice.injEq] at e; omega
 have hcap' : (p.length : Int) + 1 <= (cap : Int) := by omega
 have hq3 : ((p.length : Int) != (p.length : Int)) = false := by simp
 rw [hlen]
 clear h hs ho hk hB ht hlen hcap HLO
 go_enter Tryz.func9, Tryz.ntmps9
 go_wp2
 go_loopg [5] p.length (fun g i wr => ∃ j : Nat, j + g = p.length /\ i = .int .i64 (j : Int) /\ Below w.heap.size w wr)
 case atStart => exact ⟨0, by omega, rfl, Below.refl _ _⟩
 case round =>
  obtain ⟨j, hj, rfl, hb⟩ := hrel
  have HBr : Hid (Below w.heap.size w wr) := hb
  clear hb
  obtain ⟨b', o', eg, hrow⟩ := (HO.out.later HBr.out).adr (j := LB.length) (c := bC) (by simp)
  cases eg
  have HROW : Hid (CRow wr g0 0 (LB ++ [bC])) := hrow
  clear hrow
  cases gk with
  | succ g =>
   have i1 : (j : Int) < (p.length : Int) := by omega
   have i0 : (0 : Int) <= (j : Int) := by omega
   obtain ⟨x, hx⟩ : ∃ t, LB[j]? = some t := ⟨_, List.getElem?_eq_getElem (by have := HLL.out; omega)⟩
   obtain ⟨y, hy⟩ : ∃ u, p[j]? = some u := ⟨_, List.getElem?_eq_getElem (by omega)⟩
   have hxy : x.key = y.key := by
    have e : (LB.map Cm.key)[j]? = (p.map Cm.key)[j]? := by rw [HK.out]
    rw [List.getElem?_map, List.getElem?_map, hx, hy] at e
    exact Option.some.inj e
   have mx := List.mem_of_getElem? hx
   have my := List.mem_of_getElem? hy
   obtain ⟨sd, sq, rfl, hrwy⟩ := (HP.out.later HBr.out).get hy
   have hsvx := HROW.out.seven (j := j) (c := x) (by rw [List.getElem?_append_left (List.getElem?_eq_some_iff.1 hx).1]; exact hx)
   simp only [Nat.zero_add] at hsvx
   have hzx := HROW.out.1
   have hsvy := hrwy.seven hy
   have hzy := hrwy.1
   have hshx := ((HT.out x mx).okk (by rw [hxy]; exact HS.out y my)).shape
   have hshy := (HP.out.ok y my).shape
   have HCS0 := fun (Y : World) (hY : Below wr.heap.size wr Y) => keptC_any x y base Y ((HP.out.ok y my).later (below_step HBr.out hY)) ((HT.out x mx).later (below_step HBr.out hY)) hxy (HS.out y my) (HB.out.later (below_step HBr.out hY))
   clear hx hy mx my hxy hrwy HROW
   obtain ⟨⟨⟨⟨xk, xm, xs⟩, xn, xl⟩, xx⟩, xb, xbv, xt, xtv⟩ := x
   simp only at hsvx hshx
   obtain ⟨⟨x1, x2, x3, e1⟩, ⟨x4, x6, e2⟩, ⟨x7, x9, e3⟩, -, -⟩ := hshx
   obtain ⟨x5, h5⟩ : ∃ n, xb.length = n := ⟨_, rfl⟩
   obtain ⟨x8, h8⟩ : ∃ n, xt.length = n := ⟨_, rfl⟩
   rw [h5] at e2
   rw [h8] at e3
   subst e1 e2 e3
   clear h5 h8
   obtain ⟨⟨⟨⟨yk, ym, ys⟩, yn, yl⟩, yx⟩, yb, ybv, yt, ytv⟩ := y
   simp only at hsvy hshy
   obtain ⟨⟨y1, y2, y3, e1⟩, ⟨y4, y6, e2⟩, ⟨y7, y9, e3⟩, -, -⟩ := hshy
   obtain ⟨y5, h5⟩ : ∃ n, yb.length = n := ⟨_, rfl⟩
   obtain ⟨y8, h8⟩ : ∃ n, yt.length = n := ⟨_, rfl⟩
   rw [h5] at e2
   rw [h8] at e3
   subst e1 e2 e3
   clear h5 h8
   obtain ⟨q0, q1, q2, q3, q4, q5, q6⟩ := hsvx
   have HQ := conj7 q0 q1 q2 q3 q4 q5 q6
   have HQz : Hid (g0 < wr.heap.size) := hzx
   clear q0 q1 q2 q3 q4 q5 q6 hzx
   obtain ⟨q0, q1, q2, q3, q4, q5, q6⟩ := hsvy
   have HR := conj7 q0 q1 q2 q3 q4 q5 q6
   have HRz : Hid (sd < wr.heap.size) := hzy
   clear q0 q1 q2 q3 q4 q5 q6 hzy
   have HCS : Hid (∀ Y : World, Below wr.heap.size wr Y -> Calls Tryz.prog 34 #[.agg #[.int .i64 xk, .int .i64 xm, .string xs, .string xn, .slice x1 x2 x3, .slice x4 x5 x6, .slice x7 x8 x9], .agg #[.int .i64 yk, .int .i64 ym, .string ys, .string yn, .slice y1 y2 y3, .slice y4 y5 y6, .slice y7 y8 y9]] Y fun e w' => e = .returned (.bool true) /\ Below Y.heap.size Y w') := HCS0
   clear HCS0
   go_upto_region 6 with fail
   refine wp_region_held_drew (S := fun w' => Below wr.heap.size wr w') (by kernel_rfl) (Below.refl _ _).drew (fun hH => ?_)
   revert hH
   generalize wr.drew = V
   intro hH
   refine wTk 0 (.slice (some ⟨g0, 0, none⟩) p.length cap) rfl (by kernel_rfl) (fun _ _ _ h => h) (Or.inl ⟨by rfl, fun w' _ => by go_simp⟩) hH ?_
   simp only [wA8, wB8, wC8, wD8]
   refine wTk 1 (.int .i64 (j : Int)) rfl (by kernel_rfl) (fun _ _ _ h => h) (Or.inl ⟨by rfl, fun w' _ => by go_simp⟩) hH ?_
   simp only [wA8, wB8, wC8, wD8]
   refine wTk 2 (.pointer (some ⟨g0, j * 7, none⟩)) rfl (by kernel_rfl) (fun _ _ _ h => h) (Or.inl ⟨by rfl, fun w' _ => by go_simp⟩) hH ?_
   simp only [wA8, wB8, wC8, wD8]
   refine wTk 3 (.agg #[.int .i64 xk, .int .i64 xm, .string xs, .string xn, .slice x1 x2 x3, .slice x4 x5 x6, .slice x7 x8 x9]) rfl (by kernel_rfl) (fun _ _ _ h => h) (Or.inl ⟨by rfl, fun w' h => by obtain ⟨q0, q1, q2, q3, q4, q5, q6⟩ := Hid.out HQ; have z := Hid.out HQz; have y0 := cell_step h z q0; have y1 := cell_step h z q1; have y2 := cell_step h z q2; have y3 := cell_step h z q3; have y4 := cell_step h z q4; have y5 := cell_step h z q5; have y6 := cell_step h z q6; clear q0 q1 q2 q3 q4 q5 q6; go_simp⟩) hH ?_
   simp only [wA8, wB8, wC8, wD8]
   refine wTk 4 (.slice (some ⟨sd, sq, none⟩) p.length uc) rfl (by kernel_rfl) (fun _ _ _ h => h) (Or.inl ⟨by rfl, fun w' _ => by go_simp⟩) hH ?_
   simp only [wA8, wB8, wC8, wD8]
   refine wTk 5 (.int .i64 (j : Int)) rfl (by kernel_rfl) (fun _ _ _ h => h) (Or.inl ⟨by rfl, fun w' _ => by go_simp⟩) hH ?_
   simp only [wA8, wB8, wC8, wD8]
   refine wTk 6 (.pointer (some ⟨sd, sq + j * 7, none⟩)) rfl (by kernel_rfl) (fun _ _ _ h => h) (Or.inl ⟨by rfl, fun w' _ => by go_simp⟩) hH ?_
   simp only [wA8, wB8, wC8, wD8]
   refine wTk 7 (.agg #[.int .i64 yk, .int .i64 ym, .string ys, .string yn, .slice y1 y2 y3, .slice y4 y5 y6, .slice y7 y8 y9]) rfl (by kernel_rfl) (fun _ _ _ h => h) (Or.inl ⟨by rfl, fun w' h => by obtain ⟨q0, q1, q2, q3, q4, q5, q6⟩ := Hid.out HR; have z := Hid.out HRz; have y0 := cell_step h z q0; have y1 := cell_step h z q1; have y2 := cell_step h z q2; have y3 := cell_step h z q3; have y4 := cell_step h z q4; have y5 := cell_step h z q5; have y6 := cell_step h z q6; clear q0 q1 q2 q3 q4 q5 q6; go_simp⟩) hH ?_
   simp only [wA8, wB8, wC8, wD8]
   refine wRd 8 (by kernel_rfl) rfl (fun K hK => ?_)
   go_simp
   refine (HCS.out _ hH).mono ?_
   rintro e V1 ⟨rfl, hb⟩
   refine hK.out _ _ (below_step hH hb) (fun hH => ?_)
   clear hK K hb
   refine wTk 9 (.bool false) rfl (by kernel_rfl) (fun _ _ _ h => h) (Or.inl ⟨by rfl, fun w' _ => by go_simp⟩) hH ?_
   simp only [wA8, wB8, wC8, wD8]
   refine wpAnyH_done (by kernel_rfl) ?_ _
   have HV : Hid (Below wr.heap.size wr V1) := hH
   clear hH
   go_wp2
   go_roundg g
   case measure => omega
   case rel => exact ⟨j + 1, by omega, by go_num, below_step HBr.out HV.out⟩
  | zero =>
   have hz : ¬ ((j : Int) < (p.length : Int)) := by omega
   have i1 : (p.length : Int) < (p.length : Int) + 1 := by omega
   have i0 : (0 : Int) <= (p.length : Int) := by omega
   have hsv := HROW.out.seven (j := p.length) (c := bC) (by rw [<- HLL.out]; simp)
   simp only [Nat.zero_add, bC] at hsv
   obtain ⟨q0, q1, q2, q3, q4, q5, q6⟩ := hsv
   clear HROW
   go_wp2
   go_ret
   exact ⟨rfl, HBr.out⟩
end Go.Proofs.YtnenadklmjcakaaGreatDoor
namespace Go.Proofs.YtnenadklmjcakaaGreatDoor
open Go.ChangeShapes Go.WideShapes Go.ChangeAt Go.RowKit Go.Joins
open Go.ChangeMaps (open_string shut_string)

theorem Tryz.own : ownKnob Tryz.prog.godebug = none := by kernel_rfl
theorem Tryz.laidOut : laidOutB Tryz.prog = true := by kernel_rfl
theorem Tryz.cellsTerm : Tryz.prog.cellsOf 52 = 3 := by kernel_rfl

end Go.Proofs.YtnenadklmjcakaaGreatDoor
namespace Go.Proofs.YtnenadklmjcakaaGreatDoor
open Go.ChangeShapes Go.WideShapes Go.ChangeAt Go.RowKit Go.Joins Go.Deep

theorem Tryz.cellsAtom : Tryz.prog.cellsOf 54 = 5 := by kernel_rfl
theorem Tryz.cellsInt : Tryz.prog.cellsOf 3 = 1 := by kernel_rfl
theorem Tryz.cellsString : Tryz.prog.cellsOf 9 = 1 := by kernel_rfl
theorem Tryz.cellsTerms : Tryz.prog.cellsOf 47 = 1 := by kernel_rfl
theorem Tryz.bytesTerm : Tryz.prog.bytesOf 52 = 32 := by kernel_rfl
theorem list3 {α : Type} {l : List α} (h : l.length = 3) : ∃ a b c, l = [a, b, c] := by
 match l, h with
 | [a, b, c], _ => exact ⟨a, b, c, rfl⟩
theorem list5 {α : Type} {l : List α} (h : l.length = 5) : ∃ a b c d e, l = [a, b, c, d, e] := by
 match l, h with
 | [a, b, c, d, e], _ => exact ⟨a, b, c, d, e, rfl⟩
end Go.Proofs.YtnenadklmjcakaaGreatDoor
namespace Go.Proofs.YtnenadklmjcakaaGreatDoor
open Go.ChangeShapes Go.WideShapes Go.ChangeAt Go.RowKit Go.Joins Go.Deep

theorem weights_mem_all {H : Type} {P : Program} {e : TypeId} {d : DataW H} {n : Nat} (hn : n ∈ d.weights P e) : ∀ {ds : List (DataW H)}, d ∈ ds -> n ∈ DataW.weightsAll P e ds
 | x :: r, h => by
  rw [DataW.weightsAll, List.mem_append]
  rcases List.mem_cons.1 h with rfl | h
  ·exact Or.inl hn
  ·exact Or.inr (weights_mem_all hn h)
theorem Tryz.cellsTest3 : Tryz.prog.cellsOf 94 = 7 := by kernel_rfl
theorem Tryz.cellsClause : Tryz.prog.cellsOf 58 = 7 := by kernel_rfl
theorem Tryz.cellsAtoms : Tryz.prog.cellsOf 55 = 1 := by kernel_rfl
theorem Tryz.cellsTests : Tryz.prog.cellsOf 56 = 1 := by kernel_rfl
theorem Tryz.bytesAtom : Tryz.prog.bytesOf 54 = 72 := by kernel_rfl
theorem Tryz.bytesTest : Tryz.prog.bytesOf 94 = 72 := by kernel_rfl
theorem clist7 {α : Type} {l : List α} (h : l.length = 7) : ∃ a b c d e f g, l = [a, b, c, d, e, f, g] := by
 match l, h with
 | [a, b, c, d, e, f, g], _ => exact ⟨a, b, c, d, e, f, g, rfl⟩
end Go.Proofs.YtnenadklmjcakaaGreatDoor
namespace Go.Proofs.YtnenadklmjcakaaGreatDoor
open Go.ChangeShapes Go.WideShapes Go.ChangeAt Go.RowKit Go.Joins Go.Deep

theorem bulkN_pos {H : Type} (d : DataW H) : 1 <= Rows.uptoBulk d := by
 cases d with
 | lit l => cases l <;> simp [Rows.uptoBulk]
 | _ => simp [Rows.uptoBulk]
theorem bulkN_len {H : Type} (l : List (DataW H)) : l.length <= Rows.uptoBulkAll l := by
 induction l with
 | nil => simp
 | cons d r ih => have := bulkN_pos d; simp only [Rows.uptoBulkAll, List.length_cons]; omega
theorem bulkN_slice {H : Type} (l r : List (DataW H)) : l.length <= Rows.uptoBulk (.slice l r) := by
 have := bulkN_len l; simp only [Rows.uptoBulk]; omega
theorem bulkN_sum {H α : Type} (g : Nat -> List α) (D : Nat -> DataW H) : ∀ l : List Nat, (∀ i ∈ l, (g i).length <= Rows.uptoBulk (D i)) -> (l.flatMap g).length <= Rows.uptoBulkAll (l.map D)
 | [], _ => by simp
 | i :: l, h => by
  have h1 := h i (by simp)
  have h2 := bulkN_sum g D l fun j hj => h j (by simp [hj])
  rw [List.flatMap_cons, List.length_append, List.map_cons]
  simp only [Rows.uptoBulkAll]
  omega
end Go.Proofs.YtnenadklmjcakaaGreatDoor
namespace Go.Proofs.YtnenadklmjcakaaGreatDoor
open Go.ChangeShapes Go.WideShapes Go.ChangeAt Go.RowKit Go.Joins Go.Deep

theorem Tryz.gBT : Tryz.prog.globalNamed "hearsay/hearsayref03.behindTerm" = some 1 := by kernel_rfl
theorem Tryz.tBT : (Tryz.prog.globals[1]?).map (·.type) = some 52 := by kernel_rfl
theorem Tryz.gBE : Tryz.prog.globalNamed "hearsay/hearsayref03.behindTest" = some 0 := by kernel_rfl
theorem Tryz.tBE : (Tryz.prog.globals[0]?).map (·.type) = some 94 := by kernel_rfl
theorem terms_lits {H : Type} {enc : TypeId × Value -> H} {W : World} {base : Nat} {spare : Nat -> Bool} {held : Bool} {fuel : Nat} {cs : List Value} {x : DataW H × List MemPlace}
  (h : DataW.trod enc Tryz.prog W base spare held fuel 52 cs = some x) (hl : cs.length = 3) : ∃ t : Tm, cs = [.int .i64 t.k, .int .i64 t.n, .string t.s] /\ x.1 = .agg [.lit (.int .i64 t.k), .lit (.int .i64 t.n), .lit (.string t.s.data.toList)] := by
 obtain ⟨c0, c1, c2, rfl⟩ := list3 hl
 obtain ⟨y0, y1, y2, n, hd, -, h0, h1, h2⟩ := trod_struct3 Tryz.underlying52 h
 rw [Tryz.cellsInt] at h0 h1
 rw [Tryz.cellsString] at h2
 obtain ⟨k, e0, f0, -⟩ := DataW.trod_int Tryz.underlying3 h0
 obtain ⟨m, e1, f1, -⟩ := DataW.trod_int Tryz.underlying3 h1
 obtain ⟨s, e2, f2, -⟩ := DataW.trod_string Tryz.underlying9 h2
 simp at e0 e1 e2
 subst e0 e1 e2
 refine ⟨⟨k, m, s⟩, rfl, ?_⟩
 rw [hd, f0, f1, f2]
theorem tests_lits {H : Type} {enc : TypeId × Value -> H} {W : World} {base : Nat} {spare : Nat -> Bool} {held : Bool} {fuel : Nat} {cs : List Value} {x : DataW H × List MemPlace}
  (hf : DataW.trod enc Tryz.prog W base spare held fuel 94 cs = some x) (hl : cs.length = 7) : ∃ t : Te, cs = [.int .i64 t.op, .int .i64 t.l.k, .int .i64 t.l.n, .string t.l.s, .int .i64 t.r.k, .int .i64 t.r.n, .string t.r.s] /\ x.1 = .agg [.lit (.int .i64 t.op), .agg [.lit (.int .i64 t.l.k), .lit (.int .i64 t.l.n), .lit (.string t.l.s.data.toList)], .agg [.lit (.int .i64 t.r.k), .lit (.int .i64 t.r.n), .lit (.string t.r.s.data.toList)]] := by
 obtain ⟨c0, c1, c2, c3, c4, c5, c6, rfl⟩ := clist7 hl
 obtain ⟨y0, y1, y2, n, hd, -, h0, h1, h2⟩ := trod_struct3 Tryz.underlying94 hf
 rw [Tryz.cellsInt] at h0
 rw [Tryz.cellsTerm] at h1 h2
 obtain ⟨k, e0, f0, -⟩ := DataW.trod_int Tryz.underlying3 h0
 obtain ⟨t, e1, f1⟩ := terms_lits h1 (by simp)
 obtain ⟨u, e2, f2⟩ := terms_lits h2 (by simp)
 simp at e0 e1 e2
 subst e0
 obtain ⟨rfl, rfl, rfl⟩ := e1
 obtain ⟨rfl, rfl, rfl⟩ := e2
 refine ⟨⟨k, t, u⟩, rfl, ?_⟩
 rw [hd, f0, f1, f2]
set_option maxRecDepth 100000 in
theorem beh_of_laid {W : World} (h : laidMetH Tryz.prog [("hearsay/hearsayref03.behindTerm", Rows.laid_hearsay_hearsayref03_behindTerm), ("hearsay/hearsayref03.behindTest", Rows.laid_hearsay_hearsayref03_behindTest)] W) : BehOk W := by
 rw [MakeChecks.laidMetH_plain _ _ _ (by kernel_rfl)] at h
 obtain ⟨ps, ⟨g1, t1, cs1, f1, p1, q1, hg1, ht1, hv1, hd1, ⟨g0, t0, cs0, f0, p0, q0, hg0, ht0, hv0, hd0, _, _⟩, _⟩, _, _⟩ := h
 obtain rfl := Option.some.inj (Tryz.gBE.symm.trans hg0)
 obtain rfl := Option.some.inj (Tryz.tBE.symm.trans ht0)
 obtain rfl := Option.some.inj (Tryz.gBT.symm.trans hg1)
 obtain rfl := Option.some.inj (Tryz.tBT.symm.trans ht1)
 obtain ⟨y0, y1, y2, n, -, hl, -, -, -⟩ := trod_struct3 Tryz.underlying52 hd1
 rw [Tryz.cellsTerm] at hl
 obtain ⟨d, e, hx⟩ := terms_lits hd1 hl
 have hc : ∀ i, W.cell? ⟨1, i, none⟩ = d.cs[i]? := fun i => by
  have := World.var?_cell hg1 hv1 i
  rw [Tm.cs, <- e]; simpa using this
 simp only [Rows.laid_hearsay_hearsayref03_behindTerm, DataW.agg.injEq, List.cons.injEq, DataW.lit.injEq, Lit.int.injEq, Lit.string.injEq, true_and, and_true] at hx
 have hs : d.s = ⟨#[98, 101, 104, 105, 110, 100]⟩ := ByteArray.ext (Array.toList_inj.1 hx.2.2.symm)
 have h0 := hc 0; have h1 := hc 1; have h2 := hc 2
 simp only [Tm.cs, <- hx.1, <- hx.2.1, hs] at h0 h1 h2
 obtain ⟨z0, z1, z2, n', -, hl', -, -, -⟩ := trod_struct3 Tryz.underlying94 hd0
 rw [Tryz.cellsTest3] at hl'
 obtain ⟨d', e', hx'⟩ := tests_lits hd0 hl'
 have hc' : ∀ i, W.cell? ⟨0, i, none⟩ = (ecell d')[i]? := fun i => by
  have := World.var?_cell hg0 hv0 i
  rw [ecell, <- e']; simpa using this
 simp only [Rows.laid_hearsay_hearsayref03_behindTest, DataW.agg.injEq, List.cons.injEq, DataW.lit.injEq, Lit.int.injEq, Lit.string.injEq, true_and, and_true] at hx'
 have hs1 : d'.l.s = ⟨#[]⟩ := ByteArray.ext (Array.toList_inj.1 hx'.2.1.2.2.symm)
 have hs2 : d'.r.s = ⟨#[]⟩ := ByteArray.ext (Array.toList_inj.1 hx'.2.2.2.2.symm)
 have k0 := hc' 0; have k1 := hc' 1; have k2 := hc' 2; have k3 := hc' 3; have k4 := hc' 4; have k5 := hc' 5; have k6 := hc' 6
 simp only [ecell, <- hx'.1, <- hx'.2.1.1, <- hx'.2.1.2.1, <- hx'.2.2.1, <- hx'.2.2.2.1, hs1, hs2] at k0 k1 k2 k3 k4 k5 k6
 exact ⟨World.block_lt_of_cell? W _ h0, World.block_lt_of_cell? W _ k0, h0, h1, h2, k0, k1, k2, k3, k4, k5, k6⟩
end Go.Proofs.YtnenadklmjcakaaGreatDoor
namespace Go.Proofs.YtnenadklmjcakaaGreatDoor
open Go.ChangeShapes Go.WideShapes Go.ChangeAt Go.RowKit Go.Joins Go.Deep

theorem bulkN_mem {H : Type} {d : DataW H} : ∀ {l : List (DataW H)}, d ∈ l -> Rows.uptoBulk d <= Rows.uptoBulkAll l
 | x :: r, h => by
  simp only [Rows.uptoBulkAll]
  rcases List.mem_cons.1 h with rfl | h
  ·omega
  ·have := bulkN_mem h; omega
end Go.Proofs.YtnenadklmjcakaaGreatDoor

import Derived.Shelf.Strings.BuilderK
import Derived.Ground.NamesProg
import Derived.Test.YtnikmcmkbjjcdaaGreatDoorProg
import Derived.Test.YtnikmcmkbjjcdaaGreatDoorSV2
import Derived.Test.YtnikmcmkbjjcdaaGreatDoorSJ4
import Derived.Test.YtnikmcmkbjjcdaaGreatDoorPR4
/-
  DERIVED: strings.Builder's WriteByte at this dump, in plain words (as lay-plain.mjs writes them; laid by hand out of strings.Join's, as shelf_lay wants a type that no body names).
-/
namespace Go.Proofs
open Go.Shelf
def Tryz.wbyteL_ren : Go.Shelf.Ren := ⟨fun | 167 => 45 | 156 => 33 | 165 => 59 | 166 => 44 | 169 => 46 | 240 => 77 | 241 => 87 | 276 => 97 | 277 => 106 | n => n, fun | 31 => 39 | 9 => 9 | 3 => 3 | 4 => 4 | 0 => 0 | 20 => 20 | 72 => 100 | 76 => 103 | 70 => 98 | 37 => 74 | 75 => 102 | 127 => 121 | 164 => 147 | 5 => 5 | 80 => 106 | n => n, fun | n => n⟩
theorem Tryz.wbyteL : Go.Proofs.Lays.n167 Tryz.prog Tryz.wbyteL_ren := {
  f167 := Tryz.func45.trans (congrArg some (by kernel_rfl))
  mixed := by kernel_rfl
  f240 := Tryz.func77.trans (congrArg some (by kernel_rfl))
  f276 := Tryz.func97.trans (congrArg some (by kernel_rfl))
  t0 := Tryz.underlying0
  a0 := Tryz.isAgg0
  z0 := Tryz.sizeOf0
  v0 := Tryz.zeroValue0
  t4 := Tryz.underlying4
  a4 := Tryz.isAgg4
  z4 := Tryz.sizeOf4
  v4 := Tryz.zeroValue4
  t5 := Tryz.underlying5
  a5 := Tryz.isAgg5
  z5 := Tryz.sizeOf5
  v5 := Tryz.zeroValue5
  t9 := Tryz.underlying9
  a9 := Tryz.isAgg9
  z9 := Tryz.sizeOf9
  v9 := Tryz.zeroValue9
  t20 := Tryz.underlying20
  a20 := Tryz.isAgg20
  z20 := Tryz.sizeOf20
  v20 := Tryz.zeroValue20
  t37 := Tryz.underlying74
  a37 := Tryz.isAgg74
  z37 := Tryz.sizeOf74
  v37 := Tryz.zeroValue74
  t70 := Tryz.underlying98
  a70 := Tryz.isAgg98
  z70 := Tryz.sizeOf98
  v70 := Tryz.zeroValue98
  t72 := Tryz.underlying100
  a72 := Tryz.isAgg100
  z72 := Tryz.sizeOf100
  v72 := Tryz.zeroValue100
  t75 := Tryz.underlying102
  a75 := Tryz.isAgg102
  z75 := Tryz.sizeOf102
  v75 := Tryz.zeroValue102
  t164 := Tryz.underlying147
  a164 := Tryz.isAgg147
  z164 := Tryz.sizeOf147
  v164 := Tryz.zeroValue147 }
end Go.Proofs
/-
  syntax: strings.Builder's calls; PrintAll, PrintQuery.
-/
namespace Go.Proofs.YtnikmcmkbjjcdaaGreatDoor
open Go.RowKit
attribute [local go_sem ↓] Go.wp_at_zero Go.wp_at_succ

theorem Tryz.extraW : Builder.Extra Tryz.prog Tryz.wbyteL_ren where
  sizeBuilder := by kernel_rfl
  liesBuilder := by kernel_rfl
  t5 := Tryz.underlying5
  a5 := Tryz.isAgg5
  z5 := Tryz.sizeOf5
  v5 := Tryz.zeroValue5
  infoByte := by kernel_rfl
  cellsByte := by kernel_rfl
  sizeByte := by kernel_rfl
  neB5 := by decide
/-- A builder that holds these bytes. -/
def Bd5 (w : World) (B b : Nat) (l : List UInt8) : Prop := Lib.IsBuilderF 100 5 B b (Lib.byteCells l) w
theorem bdF_later {T e : TypeId} {B b : Nat} {p : Value} {bs : List Value} {w w' : World} (h : Lib.BuilderAtF T e B b p bs w) (hb : Below w.heap.size w w') : Lib.BuilderAtF T e B b p bs w' := by
  obtain ⟨hB, v, hbk, ⟨ho, hown⟩, hne⟩ := h
  have hlt := (Array.getElem?_eq_some_iff.1 hbk).1
  refine ⟨hB, v, (hb.block b hlt).trans hbk, ⟨ho, ?_⟩, hne⟩
  rcases hown with h | ⟨g, cap, cur, fz, h1, h2, h3, h4⟩
  · exact Or.inl h
  · exact Or.inr ⟨g, cap, cur, fz, h1, h2, (hb.block g (Array.getElem?_eq_some_iff.1 h3).1).trans h3, h4⟩
theorem Bd5.later {w w' : World} {B b : Nat} {l : List UInt8} (h : Bd5 w B b l) (hb : Below w.heap.size w w') : Bd5 w' B b l := h.imp (fun x => bdF_later x hb) fun x => bdF_later x hb
theorem Bd5.new (w : World) : Bd5 (w.alloc (.cells #[.pointer none, .slice none 0 0] 100)) w.heap.size w.heap.size [] := Lib.IsBuilderF.of (Lib.fresh_isBuilder 100 5 w)
theorem byteCells_app (a b : List UInt8) : Lib.byteCells (a ++ b) = Lib.byteCells a ++ Lib.byteCells b := by simp [Lib.byteCells]
theorem bdWS_any (s : ByteArray) (B b : Nat) (l : List UInt8) (w : World) (h : Bd5 w B b l) (hl : l.length + s.size ≤ 100000000000) (hB : B ≤ w.heap.size) :
    Calls Tryz.prog 44 #[.pointer (some ⟨b, 0, none⟩), .string s] w fun e w' => e = .returned (.tuple #[.int .i64 s.size, .nilIface]) ∧ Bd5 w' B b (l ++ s.data.toList) ∧ Below B w w' := by
  refine (Any.Builder_WriteString_k (P := Tryz.prog) (ρ := Tryz.joinL_ren) { Tryz.joinL with } Tryz.extraJ B b (Lib.byteCells l) s w h (by rw [Lib.byteCells_length]; omega) hB).mono ?_
  rintro e w' ⟨rfl, h1, h2, -⟩
  refine ⟨rfl, ?_, h2⟩
  unfold Bd5
  rw [byteCells_app]
  exact Or.inr h1
theorem bdWB_any (c : UInt8) (B b : Nat) (l : List UInt8) (w : World) (h : Bd5 w B b l) (hl : l.length + 1 ≤ 100000000000) (hB : B ≤ w.heap.size) :
    Calls Tryz.prog 45 #[.pointer (some ⟨b, 0, none⟩), .int .u8 c.toNat] w fun e w' => e = .returned .nilIface ∧ Bd5 w' B b (l ++ [c]) ∧ Below B w w' := by
  refine (Any.Builder_WriteByte_k (P := Tryz.prog) (ρ := Tryz.wbyteL_ren) Tryz.wbyteL Tryz.extraW B b (Lib.byteCells l) c.toNat w h (by rw [Lib.byteCells_length]; omega) hB).mono ?_
  rintro e w' ⟨rfl, h1, h2, -⟩
  refine ⟨rfl, ?_, h2⟩
  unfold Bd5
  rw [byteCells_app]
  exact Or.inr h1
theorem bdST_any (B b : Nat) (l : List UInt8) (w : World) (h : Bd5 w B b l) (hB : B ≤ w.heap.size) :
    Calls Tryz.prog 46 #[.pointer (some ⟨b, 0, none⟩)] w fun e w' => e = .returned (.string ⟨l.toArray⟩) ∧ Below B w w' := by
  refine (Any.Builder_String_any_k (P := Tryz.prog) (ρ := Tryz.joinL_ren) { Tryz.joinL with } Tryz.extraJ B b l w h hB).mono ?_
  rintro e w' ⟨rfl, -, h2, -⟩
  exact ⟨rfl, h2⟩
/-- The clauses' texts, a line each. -/
def ln5 (k : Ck) : List UInt8 := if pc5 k = ⟨#[]⟩ then [] else (pc5 k).data.toList ++ [10]
def pal5 (ks : List Ck) : List UInt8 := ks.flatMap ln5
theorem ba_pos {s : ByteArray} (h : 0 < s.size) : s ≠ ⟨#[]⟩ := fun e => by rw [e] at h; exact absurd h (by decide)
theorem pc5_ne {k : Ck} (h : ch5 k = 0) : pc5 k ≠ ⟨#[]⟩ := by
  apply ba_pos
  unfold pc5
  rw [if_pos h, ByteArray.size_append]
  have e46 : (⟨#[46]⟩ : ByteArray).size = 1 := rfl
  omega
theorem pc5_no {k : Ck} (h : ch5 k ≠ 0) : pc5 k = ⟨#[]⟩ := by unfold pc5; rw [if_neg h]
theorem ln5_len {k : Ck} (hn : ∀ t ∈ Ck.terms k, N64 t.n) : (ln5 k).length ≤ 27000 := by
  unfold ln5
  split
  · exact Nat.zero_le _
  · rename_i h
    have hc : ch5 k = 0 := by
      by_cases hc : ch5 k = 0
      · exact hc
      · exact absurd (pc5_no hc) h
    have h1 := pc5_len hc hn
    have h2 : (pc5 k).data.toList.length = (pc5 k).size := by rw [Array.length_toList]; rfl
    rw [List.length_append, h2]
    simp only [List.length_cons, List.length_nil]
    omega
/-- A list of clauses in memory. -/
structure Cx5 (w : World) (v : Value) (l : List Cm) : Prop where
  m : ∃ a cap, v = .slice a l.length cap ∧ (l = [] ∨ ∃ b o, a = some ⟨b, o, none⟩ ∧ b < w.heap.size ∧ ∀ (j : Nat) (c : Cm), l[j]? = some c → w.cell? ⟨b, o + j * 7, none⟩ = some (.int .i64 c.head.1.by_.k) ∧ w.cell? ⟨b, o + j * 7 + 1, none⟩ = some (.int .i64 c.head.1.by_.n) ∧ w.cell? ⟨b, o + j * 7 + 2, none⟩ = some (.string c.head.1.by_.s) ∧ w.cell? ⟨b, o + j * 7 + 3, none⟩ = some (.string c.head.1.name) ∧ w.cell? ⟨b, o + j * 7 + 4, none⟩ = some c.head.2 ∧ w.cell? ⟨b, o + j * 7 + 5, none⟩ = some c.bv ∧ w.cell? ⟨b, o + j * 7 + 6, none⟩ = some c.tv)
  ok : ∀ c ∈ l, c.ok w
theorem Cx5.below {w w' : World} {v : Value} {l : List Cm} (h : Cx5 w v l) (hb : Below w.heap.size w w') : Cx5 w' v l := by
  obtain ⟨⟨a, cap, e, hm⟩, ho⟩ := h
  refine ⟨⟨a, cap, e, hm.imp id ?_⟩, fun c hc => (ho c hc).later hb⟩
  rintro ⟨b, o, e1, hlt, hc⟩
  refine ⟨b, o, e1, Nat.lt_of_lt_of_le hlt hb.size, fun j c hj => ?_⟩
  obtain ⟨c0, c1, c2, c3, c4, c5, c6⟩ := hc j c hj
  exact ⟨cell_step hb hlt c0, cell_step hb hlt c1, cell_step hb hlt c2, cell_step hb hlt c3, cell_step hb hlt c4, cell_step hb hlt c5, cell_step hb hlt c6⟩
/-- What an opened clause's numbers are. -/
def Nw5 (c : Cm) : Prop := c.wf ∧ ∀ t ∈ c.terms, N64 t.n
set_option maxRecDepth 20000 in
set_option maxHeartbeats 4000000 in
theorem printAll_any (l : List Cm) (v : Value) (w : World) (h : Cx5 w v l) (hl : l.length ≤ 2000000) (hc : ∀ c ∈ l, Nw5 c) (hE : EnvOk w) (hO : OpsOk w) :
    Calls Tryz.prog 25 #[v] w fun e w' => e = .returned (.string ⟨(pal5 (l.map Cm.key)).toArray⟩) ∧ Below w.heap.size w w' := by
  have HP := hm7 h
  obtain ⟨⟨va, vc, hv, hm⟩, -⟩ := h
  obtain ⟨n, hn⟩ : ∃ n, l.length = n := ⟨_, rfl⟩
  rw [hn] at hv hl
  subst hv
  have HN := hm7 hn
  have HM := hm7 hm
  have HC := hm7 hc
  have HPR : Hid (∀ (c : Cm) (X : World), c ∈ l → c.ok X → Below w.heap.size w X → Calls Tryz.prog 16 #[c.v] X fun e w' => e = .returned (.string (pc5 c.key)) ∧ Below X.heap.size X w') := fun c X hcl ho hX => print5_any c X ho (hc c hcl).1 (hc c hcl).2 (hE.later hX) (hO.fr (P := fun _ => False) (Fr.of hX) fun h => h)
  have HB0 := hm7 (below1 w (.cells #[.pointer none, .slice none 0 0] 100))
  have HD0 := hm7 (Bd5.new w)
  clear hn hm hc hE hO
  go_enter Tryz.func25, Tryz.ntmps25
  go_upto_region 2 with fail
  revert HB0 HD0
  generalize w.alloc (.cells #[.pointer none, .slice none 0 0] 100) = W0
  intro HB0 HD0
  obtain ⟨q, hq⟩ : ∃ q, w.heap.size = q := ⟨_, rfl⟩
  rw [hq] at HD0 ⊢
  have HQ := hm7 hq
  clear hq
  go_wp2
  go_loopg [9] n (fun g i wr => ∃ j : Nat, j + g = n ∧ i = .int .i64 (j : Int) ∧ Bd5 wr q q (pal5 ((l.take j).map Cm.key)) ∧ (pal5 ((l.take j).map Cm.key)).length ≤ 27000 * j ∧ Below q w wr)
  case atStart => exact ⟨0, by omega, rfl, HD0.out, Nat.zero_le _, by have := HB0.out; rw [HQ.out] at this; exact this⟩
  case round =>
    obtain ⟨j, hg, rfl, hbd, hpl, hb⟩ := hrel
    have HD := hm7 hbd
    have HPL := hm7 hpl
    have HB : Hid (Below w.heap.size w wr) := by have := hb; rw [← HQ.out] at this; exact this
    have HQW : Hid (q ≤ wr.heap.size) := by have := hb.size; rw [HQ.out] at this; exact this
    clear hbd hpl hb
    cases gk with
    | succ g =>
      have i0 : (0 : Int) ≤ (j : Int) := by omega
      have i1 : (j : Int) < (n : Int) := by omega
      obtain ⟨x, hx⟩ : ∃ c, l[j]? = some c := ⟨_, List.getElem?_eq_getElem (by have := HN.out; omega)⟩
      have hxl := List.mem_of_getElem? hx
      have hok := (HP.out.below HB.out).ok x hxl
      rcases HM.out with e | ⟨sb, so, rfl, hz, hce⟩
      · rw [e] at hx; simp at hx
      obtain ⟨p0, p1, p2, p3, p4, p5, p6⟩ := hce j x hx
      have q0 := cell_step HB.out hz p0
      have q1 := cell_step HB.out hz p1
      have q2 := cell_step HB.out hz p2
      have q3 := cell_step HB.out hz p3
      have q4 := cell_step HB.out hz p4
      have q5 := cell_step HB.out hz p5
      have q6 := cell_step HB.out hz p6
      have hzr : sb < wr.heap.size := Nat.lt_of_lt_of_le hz HB.out.size
      clear p0 p1 p2 p3 p4 p5 p6 hce hz
      have HNX := hm7 (HC.out x hxl)
      have HTK : Hid (pal5 ((l.take (j + 1)).map Cm.key) = pal5 ((l.take j).map Cm.key) ++ ln5 x.key) := by
        show _ = _
        rw [List.take_add_one, hx]
        simp [pal5]
      have HLN : Hid ((ln5 x.key).length ≤ 27000) := ln5_len fun t ht => HNX.out.2 t (by rw [key_terms]; exact ht)
      have hsh := hok.shape
      obtain ⟨⟨x1, x2, x3, e1⟩, ⟨x4, x6, e2⟩, ⟨x7, x9, e3⟩, -, -⟩ := hsh
      have HPX : Hid (∀ X : World, Below wr.heap.size wr X → Calls Tryz.prog 16 #[x.v] X fun e w' => e = .returned (.string (pc5 x.key)) ∧ Below X.heap.size X w') := fun X hX => HPR.out x X hxl (hok.later hX) (below_step HB.out hX)
      obtain ⟨A, hA⟩ : ∃ A, pal5 ((l.take j).map Cm.key) = A := ⟨_, rfl⟩
      rw [hA] at HD HPL HTK
      obtain ⟨lx, hlx⟩ : ∃ z, ln5 x.key = z := ⟨_, rfl⟩
      rw [hlx] at HTK HLN
      unfold ln5 at hlx
      obtain ⟨tx, htx⟩ : ∃ t, pc5 x.key = t := ⟨_, rfl⟩
      rw [htx] at HPX hlx
      obtain ⟨x5, h5⟩ : ∃ n, x.body.length = n := ⟨_, rfl⟩
      obtain ⟨x8, h8⟩ : ∃ n, x.tests.length = n := ⟨_, rfl⟩
      rw [h5] at e2
      rw [h8] at e3
      clear hx hxl hok htx hA h5 h8 HNX
      obtain ⟨⟨⟨⟨xk, xm, xs⟩, xn, xl⟩, xx⟩, xb, xbv, xt, xtv⟩ := x
      simp only at q0 q1 q2 q3 q4 q5 q6 e1 e2 e3
      subst e1 e2 e3
      have HBX := hm7 (below1 wr (.cells #[.int .i64 xk, .int .i64 xm, .string xs, .string xn, .slice x1 x2 x3, .slice x4 x5 x6, .slice x7 x8 x9] 37))
      have HXX := hm7 (Bk.new wr #[.int .i64 xk, .int .i64 xm, .string xs, .string xn, .slice x1 x2 x3, .slice x4 x5 x6, .slice x7 x8 x9] 37)
      have HXB : Hid (∀ X : World, Below wr.heap.size wr X → Bd5 X q q A) := fun X hX => HD.out.later hX
      have HBX1 : Hid (∀ X : World, Below (wr.alloc (.cells #[.int .i64 xk, .int .i64 xm, .string xs, .string xn, .slice x1 x2 x3, .slice x4 x5 x6, .slice x7 x8 x9] 37)).heap.size (wr.alloc (.cells #[.int .i64 xk, .int .i64 xm, .string xs, .string xn, .slice x1 x2 x3, .slice x4 x5 x6, .slice x7 x8 x9] 37)) X → Below wr.heap.size wr X) := fun X hX => below_step HBX.out hX
      have HBQ : Hid (∀ X : World, Below wr.heap.size wr X → Below q w X) := fun X hX => by have := below_step HB.out hX; rw [HQ.out] at this; exact this
      go_upto_region 5 with fail
      clear q0 q1 q2 q3 q4 q5 q6
      revert HBX HXX HBX1
      generalize wr.alloc (.cells #[.int .i64 xk, .int .i64 xm, .string xs, .string xn, .slice x1 x2 x3, .slice x4 x5 x6, .slice x7 x8 x9] 37) = W1
      generalize wr.heap.size = xbk at *
      intro HBX HXX HBX1
      have HD1 := hm7 (HXB.out W1 HBX.out)
      have HP1 := hm7 (HPX.out W1 HBX.out)
      have c0 := HXX.out.cell (i := 0) rfl
      have c1 := HXX.out.cell (i := 1) rfl
      have c2 := HXX.out.cell (i := 2) rfl
      have c3 := HXX.out.cell (i := 3) rfl
      have c4 := HXX.out.cell (i := 4) rfl
      have c5 := HXX.out.cell (i := 5) rfl
      have c6 := HXX.out.cell (i := 6) rfl
      by_cases he : tx = ⟨#[]⟩
      · rw [if_pos he] at hlx
        subst he
        subst hlx
        go_wp2_with (go_at_call 16; refine HP1.out.mono ?_; rintro e W2 ⟨rfl, hb⟩; have HB2 := hm7 hb; clear hb c0 c1 c2 c3 c4 c5 c6)
        go_roundg g
        case measure => omega
        case rel =>
          refine ⟨j + 1, by omega, by go_num, ?_, ?_, ?_⟩
          · rw [HTK.out, List.append_nil]; exact HD1.out.later HB2.out
          · rw [HTK.out, List.append_nil]; have := HPL.out; omega
          · exact HBQ.out _ (HBX1.out _ HB2.out)
      · rw [if_neg he] at hlx
        subst hlx
        have he1 : (tx.toList == []) = false := by rw [strE, decide_eq_false he]
        have he2 : tx.toList.isEmpty = false := by rw [isEK, decide_eq_false he]
        have HTZ : Hid (tx.data.toList.length = tx.size) := by show _ = _; rw [Array.length_toList]; rfl
        have hsz : A.length + tx.size + 1 ≤ 100000000000 := by
          have h1 := HPL.out
          have h2 := HLN.out
          rw [List.length_append, HTZ.out] at h2
          simp only [List.length_cons, List.length_nil] at h2
          have h3 : 27000 * j ≤ 27000 * 2000000 := Nat.mul_le_mul_left _ (by omega)
          omega
        have HWS : Hid (∀ X : World, Bd5 X q q A → q ≤ X.heap.size → Calls Tryz.prog 44 #[.pointer (some ⟨q, 0, none⟩), .string tx] X fun e w' => e = .returned (.tuple #[.int .i64 tx.size, .nilIface]) ∧ Bd5 w' q q (A ++ tx.data.toList) ∧ Below q X w') := fun X h1 h2 => bdWS_any tx q q A X h1 (by omega) h2
        have HWB : Hid (∀ X : World, Bd5 X q q (A ++ tx.data.toList) → q ≤ X.heap.size → Calls Tryz.prog 45 #[.pointer (some ⟨q, 0, none⟩), .int .u8 10] X fun e w' => e = .returned .nilIface ∧ Bd5 w' q q (A ++ tx.data.toList ++ [10]) ∧ Below q X w') := fun X h1 h2 => bdWB_any 10 q q _ X h1 (by rw [List.length_append, HTZ.out]; omega) h2
        go_wp2_with (first
          | (go_at_call 16; refine HP1.out.mono ?_; rintro e W2 ⟨rfl, hb⟩; have HB2 := hm7 (HBQ.out _ (HBX1.out _ hb)); have HD2 := hm7 (HD1.out.later hb); have HQ2 : Hid (q ≤ W2.heap.size) := (by have := HB2.out.size; rw [HQ.out] at this; exact this); clear hb c0 c1 c2 c3 c4 c5 c6)
          | (go_at_call 44; refine (HWS.out _ HD2.out HQ2.out).mono ?_; rintro e W3 ⟨rfl, hd, hb⟩; have HB3 := hm7 (HB2.out.trans hb); have HD3 := hm7 hd; have HQ3 : Hid (q ≤ W3.heap.size) := (by have := HB3.out.size; rw [HQ.out] at this; exact this); clear hb hd)
          | (go_at_call 45; refine (HWB.out _ HD3.out HQ3.out).mono ?_; rintro e W4 ⟨rfl, hd, hb⟩; have HB4 := hm7 (HB3.out.trans hb); have HD4 := hm7 hd; clear hb hd))
        go_roundg g
        case measure => omega
        case rel =>
          refine ⟨j + 1, by omega, by go_num, ?_, ?_, HB4.out⟩
          · rw [HTK.out, ← List.append_assoc]; exact HD4.out
          · rw [HTK.out, List.length_append]; have := HPL.out; have := HLN.out; omega
    | zero =>
      have i1 : ¬ (j : Int) < (n : Int) := by omega
      have HA : Hid (l.take j = l) := List.take_of_length_le (by have := HN.out; omega)
      rw [HA.out] at HD
      have HST := hm7 (bdST_any q q _ wr HD.out HQW.out)
      go_wp2_with (go_at_call 46; refine HST.out.mono ?_; rintro e W9 ⟨rfl, hb⟩; have HB9 := hm7 hb; clear hb)
      go_ret
      refine ⟨rfl, HB.out.trans ?_⟩
      rw [HQ.out]
      exact HB9.out
end Go.Proofs.YtnikmcmkbjjcdaaGreatDoor
/-
  syntax: Program; law 5's first.
-/
namespace Go.Proofs.YtnikmcmkbjjcdaaGreatDoor
open Go.RowKit
attribute [local go_sem ↓] Go.wp_at_zero Go.wp_at_succ

theorem pair_put {w : World} {g : Nat} {t : TypeId} {x y a b : Value} (h : Bk w g #[x, y] t) : Bk ((w.setCell ⟨g, 0, none⟩ a).setCell ⟨g, 1, none⟩ b) g #[a, b] t := by
  have := (h.set 0 a).set 1 b
  simpa using this
set_option maxRecDepth 20000 in
set_option maxHeartbeats 2000000 in
theorem program_any (s : ByteArray) (hs : s.size ≤ 9000000) (w : World) (hE : EnvOk w) (hO : OpsOk w) :
    Calls Tryz.prog 10 #[.string s] w (ReP w (pg5 s 1048576)) := by
  have HB0 := hm7 (below1 w (.cells #[.int .i64 0, .int .i64 0] 26))
  have HR0 := hm7 (Bk.new w #[.int .i64 0, .int .i64 0] 26)
  have HRD := hm7 (readC_any s 1048576 hs (by decide) _ (hE.later HB0.out) (hO.fr (P := fun _ => False) (Fr.of HB0.out) fun h => h))
  obtain ⟨R, hR⟩ : ∃ R, pg5 s 1048576 = R := ⟨_, rfl⟩
  rw [hR] at HRD ⊢
  clear hE hO hR
  have HWZ : Hid ((w.alloc (.cells #[.int .i64 0, .int .i64 0] 26)).heap.size = w.heap.size + 1) := by show _ = _; simp
  go_enter Tryz.func10, Tryz.ntmps10
  go_wp2_with (go_at_call 28; refine HRD.out.mono ?_; rintro e W1 ⟨hb, v, c, a, rfl, hm⟩; have HM := hm7 hm; have HR1 := hm7 (HR0.out.below hb); have HB1 := hm7 (HB0.out.trans (hb.mono HB0.out.size)); have r0 := HR1.out.cell (i := 0) rfl; have r1 := HR1.out.cell (i := 1) rfl; have f0 := HR1.out.froz 0; have f1 := HR1.out.froz 1; have hrl := HR1.out.lt; clear hb hm)
  have HR2 := hm7 (pair_put (a := .int .i64 c) (b := .int .i64 a) HR1.out)
  have z0 := HR2.out.cell (i := 0) rfl
  have z1 := HR2.out.cell (i := 1) rfl
  refine bodyPost_ret (v := .tuple #[v, .agg #[.int .i64 c, .int .i64 a]]) (by simp [results, Tryz.results10, go_sem, z0, z1]) rfl ?_
  have hfq : Fr (fun b => b = w.heap.size) W1 ((W1.setCell ⟨w.heap.size, 0, none⟩ (.int .i64 c)).setCell ⟨w.heap.size, 1, none⟩ (.int .i64 a)) := ((Fr.refl (fun b => b = w.heap.size) _).set (Or.inl rfl)).set (Or.inl rfl)
  refine ⟨(HB1.out.setCell (p := ⟨w.heap.size, 0, none⟩) (Nat.le_refl _) _).setCell (p := ⟨w.heap.size, 1, none⟩) (Nat.le_refl _) _, v, c, a, rfl, ?_⟩
  have hm := HM.out
  cases R with
  | error f => exact hm
  | ok ks =>
    obtain ⟨h1, h2, l, h3, h4⟩ := hm
    refine ⟨h1, h2, l, h3, (h4.fr hfq fun b hb e => ?_).mono fun b _ hb => ?_⟩
    · have := HWZ.out; omega
    · have := HWZ.out; omega
/-- The text whose meaning the document fixes, and what is printed of it. -/
def fT1 : ByteArray := ⟨#[112, 40, 88, 41, 32, 58, 45, 32, 40, 113, 40, 88, 44, 32, 95, 41, 59, 32, 88, 32, 33, 61, 32, 51, 44, 32, 97, 110, 110, 32, 115, 97, 121, 115, 32, 114, 40, 88, 41, 41, 46]⟩
def fT2 : ByteArray := ⟨#[112, 40, 86, 48, 41, 32, 58, 45, 32, 97, 110, 110, 32, 115, 97, 121, 115, 32, 114, 40, 86, 48, 41, 44, 32, 86, 48, 32, 33, 61, 32, 51, 46]⟩
def okF : Bool := match pg5 fT1 1048576 with
  | .ok [a, b] => decide (a.2.1.length = 1 ∧ b.2.2.length = 1 ∧ pc5 b = fT2 ∧ (∀ t ∈ Ck.terms b, (-9223372036854775808 ≤ t.n ∧ t.n ≤ 9223372036854775807)) ∧ (Ck.terms b).length ≤ 100)
  | _ => false
set_option maxRecDepth 100000 in
theorem okF_yes : okF = true := by kernel_rfl
end Go.Proofs.YtnikmcmkbjjcdaaGreatDoor
/-
  SyntaxDeep: PLAIN: the text's tokens; what they say.
-/
namespace Go.Proofs.YtnikmcmkbjjcdaaGreatDoor
open Go.RowKit

theorem kd_at {T : List Tk} {s : Ps} {k : Nat} {t : Tk} (h : T[s.nx + k]? = some t) : kd5 T s k = t.k := by unfold kd5; rw [h]; rfl
theorem tk_at {T : List Tk} {L : Nat} {s : Ps} {t : Tk} {ks : List Int} (h : T[s.nx]? = some t) (hk : t.k ∈ ks) : tk5 T L ks s = .ok (t, ⟨s.nx + 1, s.op, s.vs, s.nm⟩) := by unfold tk5; rw [h]; simp [hk]
/-- One thing alone. -/
theorem list_one {α : Type} {one : Ps → R5 α} {T : List Tk} {L : Nat} {b : Int} {s s' : Ps} {a : α} (h : one s = .ok (a, s')) (hk : kd5 T s' 0 ≠ b) : list5 one T L b s = .ok ([a], s') := by
  unfold list5
  rw [R5.and_ok h]
  unfold ls5
  rw [if_neg hk]
end Go.Proofs.YtnikmcmkbjjcdaaGreatDoor
/-
  PLAIN: tokens of what is printed are read as what was printed.
-/
namespace Go.Proofs.YtnikmcmkbjjcdaaGreatDoor
open Go.RowKit

/-- Tokens that stand there, but for their places. -/
def Ly5 (T : List Tk) (i : Nat) (l : List Tk) : Prop := ∀ (k : Nat) (t : Tk), l[k]? = some t → ∃ u, T[i + k]? = some u ∧ u.bar = t
theorem Ly5.left {T : List Tk} {i : Nat} {l m : List Tk} (h : Ly5 T i (l ++ m)) : Ly5 T i l := fun k t ht => h k t (by rw [List.getElem?_append_left (List.getElem?_eq_some_iff.1 ht).1]; exact ht)
theorem Ly5.right {T : List Tk} {i : Nat} {l m : List Tk} (h : Ly5 T i (l ++ m)) : Ly5 T (i + l.length) m := fun k t ht => by
  have := h (l.length + k) t (by rw [List.getElem?_append_right (by omega), Nat.add_sub_cancel_left]; exact ht)
  rw [Nat.add_assoc]
  exact this
theorem Ly5.head {T : List Tk} {i : Nat} {t : Tk} {l : List Tk} (h : Ly5 T i (t :: l)) : ∃ u, T[i]? = some u ∧ u.bar = t := h 0 t rfl
theorem Ly5.tail {T : List Tk} {i : Nat} {t : Tk} {l : List Tk} (h : Ly5 T i (t :: l)) : Ly5 T (i + 1) l := fun k u hu => by
  have := h (k + 1) u (by rw [List.getElem?_cons_succ]; exact hu)
  rw [show i + 1 + k = i + (k + 1) by omega]
  exact this
theorem Ly5.all {T l : List Tk} (h : T.map Tk.bar = l) : Ly5 T 0 l := fun k t ht => by
  rw [← h, List.getElem?_map] at ht
  rw [Nat.zero_add]
  cases e : T[k]? with
  | none => rw [e] at ht; cases ht
  | some u => rw [e] at ht; exact ⟨u, rfl, Option.some.inj ht⟩
theorem Ly5.len {T : List Tk} {i : Nat} {l : List Tk} (h : Ly5 T i l) (h0 : l ≠ []) : i + l.length ≤ T.length := by
  have hp : 0 < l.length := List.length_pos_iff.2 h0
  obtain ⟨u, hu, -⟩ := h (l.length - 1) (l[l.length - 1]'(by omega)) (List.getElem?_eq_getElem _)
  have := (List.getElem?_eq_some_iff.1 hu).1
  omega
/-- The kind of what stands there. -/
def kA5 (T : List Tk) (i : Nat) : Int := ((T[i]?).map Tk.k).getD 0
theorem kd_kA (T : List Tk) (s : Ps) (k : Nat) : kd5 T s k = kA5 T (s.nx + k) := rfl
theorem kA_ly {T : List Tk} {i : Nat} {t : Tk} {l : List Tk} (h : Ly5 T i (t :: l)) : kA5 T i = t.k := by
  obtain ⟨u, hu, e⟩ := h.head
  unfold kA5
  rw [hu, ← e]
  rfl
/-- Names are told apart by their numbers. -/
def Ij5 (s : Ps) : Prop := (∀ x k, s.nm x = some k → k < s.vs) ∧ ∀ x y k, s.nm x = some k → s.nm y = some k → x = y
/-- More names; those that there were stay. -/
structure Gn5 (s s' : Ps) : Prop where
  o : s'.op = s.op
  n : ∀ x k, x ≠ us5 → s.nm x = some k → s'.nm x = some k
  i : Ij5 s → Ij5 s'
theorem Gn5.refl (s : Ps) : Gn5 s s := ⟨rfl, fun _ _ _ h => h, fun h => h⟩
theorem Gn5.nx (s : Ps) (n : Nat) : Gn5 s ⟨n, s.op, s.vs, s.nm⟩ := ⟨rfl, fun _ _ _ h => h, fun h => h⟩
theorem Gn5.trans {a b c : Ps} (h : Gn5 a b) (k : Gn5 b c) : Gn5 a c := ⟨k.o.trans h.o, fun x n hx e => k.n x n hx (h.n x n hx e), fun e => k.i (h.i e)⟩
theorem va_back {x : ByteArray} (hx : x ≠ us5) (s : Ps) : (va5 x s).2.nm x = some (va5 x s).1 ∧ Gn5 s (va5 x s).2 ∧ (va5 x s).2.nx = s.nx := by
  unfold va5
  by_cases h : (s.nm x).isSome = true ∧ x ≠ us5
  · rw [if_pos h]
    obtain ⟨k, hk⟩ := Option.isSome_iff_exists.1 h.1
    exact ⟨by rw [hk]; rfl, Gn5.refl s, rfl⟩
  · rw [if_neg h]
    have hno : s.nm x = none := by
      cases e : s.nm x with
      | none => rfl
      | some k => exact absurd ⟨by rw [e]; rfl, hx⟩ h
    refine ⟨by simp [nput], ⟨rfl, fun y k hy e => ?_, fun hi => ⟨fun y k e => ?_, fun y z k e e' => ?_⟩⟩, rfl⟩
    · show nput s.nm x s.vs y = some k
      unfold nput
      rw [if_neg (fun q => by rw [q, hno] at e; cases e)]
      exact e
    · have e1 : nput s.nm x s.vs y = some k := e
      show k < s.vs + 1
      unfold nput at e1
      by_cases q : y = x
      · rw [if_pos q] at e1; have := Option.some.inj e1; omega
      · rw [if_neg q] at e1; have := hi.1 y k e1; omega
    · have e1 : nput s.nm x s.vs y = some k := e
      have e2 : nput s.nm x s.vs z = some k := e'
      unfold nput at e1 e2
      by_cases q : y = x
      · by_cases q' : z = x
        · rw [q, q']
        · rw [if_pos q] at e1; rw [if_neg q'] at e2
          have := hi.1 z k e2
          have := Option.some.inj e1
          omega
      · by_cases q' : z = x
        · rw [if_neg q] at e1; rw [if_pos q'] at e2
          have := hi.1 y k e1
          have := Option.some.inj e2
          omega
        · rw [if_neg q] at e1; rw [if_neg q'] at e2
          exact hi.2 y z k e1 e2
/-- A term as it is read, once all names are known. -/
def rv5 (s : Ps) (t : Tm) : Tm := if t.var = true then ⟨3, (((s.nm (vn5 t.n)).getD 0 : Nat) : Int), ⟨#[]⟩⟩ else t
def Kn5 (s : Ps) (t : Tm) : Prop := t.var = true → ∃ k, s.nm (vn5 t.n) = some k
theorem Gn5.kn {s s' : Ps} {t : Tm} (h : Gn5 s s') (k : Kn5 s t) : Kn5 s' t ∧ rv5 s' t = rv5 s t := by
  refine ⟨fun hv => ?_, ?_⟩
  · obtain ⟨m, hm⟩ := k hv
    exact ⟨m, h.n _ _ (vn5_us _) hm⟩
  · unfold rv5
    by_cases hv : t.var = true
    · obtain ⟨m, hm⟩ := k hv
      rw [if_pos hv, if_pos hv, hm, h.n _ _ (vn5_us _) hm]
    · rw [if_neg hv, if_neg hv]
theorem kn_map {s s' : Ps} (h : Gn5 s s') : ∀ {l : List Tm}, (∀ t ∈ l, Kn5 s t) → (∀ t ∈ l, Kn5 s' t) ∧ l.map (rv5 s') = l.map (rv5 s)
  | [], _ => ⟨(fun t ht => by cases ht), rfl⟩
  | t :: l, k => by
    have h1 := h.kn (k t (List.mem_cons_self ..))
    have h2 := kn_map h fun u hu => k u (List.mem_cons_of_mem _ hu)
    refine ⟨fun u hu => ?_, by rw [List.map_cons, List.map_cons, h1.2, h2.2]⟩
    rcases List.mem_cons.1 hu with rfl | hu
    · exact h1.1
    · exact h2.1 u hu
theorem tT_kind (t : Tm) : (tT t).k = 1 ∨ (tT t).k = 2 ∨ (tT t).k = 3 ∨ (tT t).k = 4 := by
  unfold tT
  (repeat' split) <;> simp
theorem tk_back {T : List Tk} {L : Nat} {ks : List Int} {s : Ps} {t : Tm} (hc : t.cov = true) (hl : Ly5 T s.nx [tT t]) (hk : (tT t).k ∈ ks) : ∃ s', (tk5 T L ks s).and (fun u s => (.ok (mean5 u s) : R5 Tm)) = .ok (rv5 s' t, s') ∧ s'.nx = s.nx + 1 ∧ Gn5 s s' ∧ Kn5 s' t := by
  obtain ⟨u, hu, e⟩ := hl.head
  have ek : u.k = (tT t).k := by rw [← e]; rfl
  have ex : u.x = (tT t).x := by rw [← e]; rfl
  have en : u.n = (tT t).n := by rw [← e]; rfl
  rw [R5.and_ok (tk_at hu (by rw [ek]; exact hk))]
  obtain ⟨s1, hs1⟩ : ∃ s1 : Ps, (⟨s.nx + 1, s.op, s.vs, s.nm⟩ : Ps) = s1 := ⟨_, rfl⟩
  have g1 : Gn5 s s1 := by rw [← hs1]; exact Gn5.nx s _
  have n1 : s1.nx = s.nx + 1 := by rw [← hs1]
  rw [hs1]
  unfold mean5
  rw [ek, ex, en]
  unfold tT
  by_cases hv : t.var = true
  · rw [if_pos hv]
    obtain ⟨h1, h2, h3⟩ := va_back (vn5_us t.n) s1
    refine ⟨(va5 (vn5 t.n) s1).2, ?_, h3.trans n1, g1.trans h2, fun _ => ⟨_, h1⟩⟩
    unfold rv5
    rw [if_pos rfl, if_pos hv, h1]
    rfl
  · rw [if_neg hv]
    have hcon : t.con = true := by
      unfold Tm.cov at hc
      cases h : t.con
      · rw [h] at hc; exact absurd hc (by simpa using hv)
      · rfl
    simp only [Tm.con, decide_eq_true_eq] at hcon
    have hr : ∀ s, rv5 s t = t := fun s => by unfold rv5; rw [if_neg hv]
    have hno : Kn5 s1 t := fun h => absurd h hv
    by_cases hk1 : t.k = 1
    · rw [if_pos hk1]
      refine ⟨s1, ?_, n1, g1, hno⟩
      rw [hr, if_neg (show ¬ (4 : Int) = 2 by decide), if_pos rfl]
      have h0 : t.s = ⟨#[]⟩ := by rcases hcon with h | h; exact h.2; omega
      obtain ⟨a, b, c⟩ := t
      simp only at hk1 h0 ⊢
      rw [hk1, h0]
    · rw [if_neg hk1]
      have h2 : t.k = 2 ∧ t.n = 0 := by rcases hcon with h | h; exact absurd h.1 hk1; exact ⟨h.1, h.2.1⟩
      have ht : (⟨2, 0, t.s⟩ : Tm) = t := by
        obtain ⟨a, b, c⟩ := t
        simp only at h2 ⊢
        rw [h2.1, h2.2]
      by_cases hw : wrd t.s = true
      · rw [if_pos hw]
        refine ⟨s1, ?_, n1, g1, hno⟩
        rw [hr, if_neg (show ¬ (1 : Int) = 2 by decide), if_neg (show ¬ (1 : Int) = 4 by decide), ht]
      · rw [if_neg hw]
        refine ⟨s1, ?_, n1, g1, hno⟩
        rw [hr, if_neg (show ¬ (3 : Int) = 2 by decide), if_neg (show ¬ (3 : Int) = 4 by decide), ht]
theorem tm_back {T : List Tk} {L : Nat} {s : Ps} {t : Tm} (hc : t.cov = true) (hl : Ly5 T s.nx [tT t]) : ∃ s', tm5 T L s = .ok (rv5 s' t, s') ∧ s'.nx = s.nx + 1 ∧ Gn5 s s' ∧ Kn5 s' t :=
  tk_back hc hl (by rcases tT_kind t with h | h | h | h <;> rw [h] <;> simp)
/-- A list of things, each read back. -/
theorem ls_back {α β : Type} {one : Ps → R5 α} {T : List Tk} {L : Nat} {b : Int} (tk : β → List Tk) (r : Ps → β → α) (K : Ps → β → Prop) (P : Int → Prop) (hm : ∀ s s' x, Gn5 s s' → K s x → K s' x ∧ r s' x = r s x) (hb : b ≠ 0) (hP : P b) :
    ∀ (l : List β) (f : Nat) (acc : List α) (s : Ps), (∀ x ∈ l, ∀ s : Ps, Ly5 T s.nx (tk x) → P (kA5 T (s.nx + (tk x).length)) → ∃ s', one s = .ok (r s' x, s') ∧ s'.nx = s.nx + (tk x).length ∧ Gn5 s s' ∧ K s' x) →
      l.length ≤ f → Ly5 T s.nx (l.flatMap fun x => tS b :: tk x) → kA5 T (s.nx + (l.flatMap fun x => tS b :: tk x).length) ≠ b → P (kA5 T (s.nx + (l.flatMap fun x => tS b :: tk x).length)) →
      ∃ s', ls5 one T L b f acc s = .ok (acc ++ l.map (r s'), s') ∧ s'.nx = s.nx + (l.flatMap fun x => tS b :: tk x).length ∧ Gn5 s s' ∧ ∀ x ∈ l, K s' x
  | [], f, acc, s, _, _, _, hne, _ => by
    refine ⟨s, ?_, rfl, Gn5.refl s, fun x hx => by cases hx⟩
    cases f with
    | zero => unfold ls5; simp
    | succ f =>
      unfold ls5
      rw [if_neg (show ¬ kd5 T s 0 = b from hne)]
      simp
  | x :: l, 0, acc, s, _, hf, _, _, _ => by simp at hf
  | x :: l, f + 1, acc, s, ho, hf, hl, hne, hp => by
    rw [List.flatMap_cons] at hl hne hp ⊢
    obtain ⟨u, hu, e⟩ := hl.head
    have ek : u.k = b := congrArg Tk.k e
    have hl1 : Ly5 T (s.nx + 1) (tk x ++ l.flatMap fun x => tS b :: tk x) := hl.tail
    have hl2 := hl1.right
    have hnext : P (kA5 T (s.nx + 1 + (tk x).length)) := by
      cases l with
      | nil => simpa [Nat.add_assoc, Nat.add_comm, Nat.add_left_comm] using hp
      | cons y r =>
        rw [List.flatMap_cons] at hl2
        rw [kA_ly (t := tS b) hl2]
        exact hP
    obtain ⟨s2, h1, h2, h3, h4⟩ := ho x (List.mem_cons_self ..) ⟨s.nx + 1, s.op, s.vs, s.nm⟩ hl1.left hnext
    have hlen : (tS b :: tk x ++ l.flatMap fun x => tS b :: tk x).length = 1 + (tk x).length + (l.flatMap fun x => tS b :: tk x).length := by
      rw [List.length_append, List.length_cons]; omega
    rw [hlen] at hne hp ⊢
    have h2' : s2.nx = s.nx + 1 + (tk x).length := h2
    have hpos : s.nx + (1 + (tk x).length + (l.flatMap fun x => tS b :: tk x).length) = s2.nx + (l.flatMap fun x => tS b :: tk x).length := by rw [h2']; omega
    rw [hpos] at hne hp
    obtain ⟨s3, h5, h6, h7, h8⟩ := ls_back tk r K P hm hb hP l f (acc ++ [r s2 x]) s2 (fun y hy => ho y (List.mem_cons_of_mem _ hy)) (by simp only [List.length_cons] at hf; omega) (by rw [h2']; exact hl2) hne hp
    have h9 := hm s2 s3 x h7 h4
    refine ⟨s3, ?_, by rw [hpos]; exact h6, (Gn5.nx s _).trans (h3.trans h7), fun y hy => ?_⟩
    · unfold ls5
      rw [if_pos (by rw [kd_at (k := 0) hu]; exact ek), R5.and_ok (tk_at hu (by rw [ek]; simp)), R5.and_ok h1, h5, List.map_cons, h9.2, List.append_assoc]
      rfl
    · rcases List.mem_cons.1 hy with rfl | hy
      · exact h9.1
      · exact h8 y hy
theorem flat_ge {β : Type} (f : β → List Tk) : ∀ l : List β, l.length ≤ (l.flatMap fun x => tS 8 :: f x).length
  | [] => Nat.le_refl _
  | x :: l => by
    have := flat_ge f l
    rw [List.flatMap_cons, List.length_append, List.length_cons, List.length_cons]
    omega
theorem list_back {α β : Type} {one : Ps → R5 α} {T : List Tk} {L : Nat} (tk : β → List Tk) (r : Ps → β → α) (K : Ps → β → Prop) (P : Int → Prop) (hm : ∀ s s' x, Gn5 s s' → K s x → K s' x ∧ r s' x = r s x) (hP : P 8)
    (x : β) (l : List β) (s : Ps) (ho : ∀ y ∈ x :: l, ∀ s : Ps, Ly5 T s.nx (tk y) → P (kA5 T (s.nx + (tk y).length)) → ∃ s', one s = .ok (r s' y, s') ∧ s'.nx = s.nx + (tk y).length ∧ Gn5 s s' ∧ K s' y)
    (hl : Ly5 T s.nx (jt5 ((x :: l).map tk))) (hne : kA5 T (s.nx + (jt5 ((x :: l).map tk)).length) ≠ 8) (hp : P (kA5 T (s.nx + (jt5 ((x :: l).map tk)).length))) :
    ∃ s', list5 one T L 8 s = .ok ((x :: l).map (r s'), s') ∧ s'.nx = s.nx + (jt5 ((x :: l).map tk)).length ∧ Gn5 s s' ∧ ∀ y ∈ x :: l, K s' y := by
  have ej : jt5 ((x :: l).map tk) = tk x ++ l.flatMap fun y => tS 8 :: tk y := by
    rw [List.map_cons]
    show tk x ++ _ = _
    rw [List.flatMap_map]
  rw [ej] at hl hne hp ⊢
  rw [List.length_append] at hne hp ⊢
  have hl2 := hl.right
  have hnext : P (kA5 T (s.nx + (tk x).length)) := by
    cases l with
    | nil => simpa using hp
    | cons y r =>
      rw [List.flatMap_cons] at hl2
      rw [kA_ly (t := tS 8) hl2]
      exact hP
  obtain ⟨s2, h1, h2, h3, h4⟩ := ho x (List.mem_cons_self ..) s hl.left hnext
  rw [← Nat.add_assoc, ← h2] at hne hp
  rw [← h2] at hl2
  have hlen : l.length ≤ T.length + 1 := by
    cases l with
    | nil => exact Nat.zero_le _
    | cons y r =>
      have h5 := hl2.len (by rw [List.flatMap_cons]; simp)
      have h6 := flat_ge tk (y :: r)
      omega
  obtain ⟨s3, h5, h6, h7, h8⟩ := ls_back (L := L) tk r K P hm (by decide) hP l (T.length + 1) [r s2 x] s2 (fun y hy => ho y (List.mem_cons_of_mem _ hy)) hlen hl2 hne hp
  have h9 := hm s2 s3 x h7 h4
  refine ⟨s3, ?_, by rw [h6, h2, Nat.add_assoc], h3.trans h7, fun y hy => ?_⟩
  · unfold list5
    rw [R5.and_ok h1, h5, List.map_cons, h9.2]
    rfl
  · rcases List.mem_cons.1 hy with rfl | hy
    · exact h9.1
    · exact h8 y hy
end Go.Proofs.YtnikmcmkbjjcdaaGreatDoor

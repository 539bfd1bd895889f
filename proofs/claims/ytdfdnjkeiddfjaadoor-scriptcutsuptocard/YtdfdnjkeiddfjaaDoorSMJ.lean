/-
  script (stage 25): whether a row has a part for all that a step says.
-/
import Derived.Test.YtdfdnjkeiddfjaaDoorSMI
import Derived.Test.YtdfdnjkeiddfjaaDoorSMG
import Derived.Maps.RangeWalk
namespace Go.Proofs.YtdfdnjkeiddfjaaDoor
open Go.RowKit
attribute [local go_sem ↓] Go.wp_at_zero Go.wp_at_succ
attribute [local go_sem] run_store_funcA

/-- Is a step's field zero? -/
def emA (d : SdO) (bn : Nat) (l : Int) : Bool :=
  if l = 119 then decide (d.who = ⟨#[]⟩) else if l = 111 then decide (d.too = ⟨#[]⟩) else if l = 116 then decide (d.tx = ⟨#[]⟩) else if l = 98 then decide (bn = 0) else if l = 110 then decide (d.n = 0) else if l = 109 then decide (d.m = 0) else decide (d.q = 0)
theorem PtA.empty {W : World} {p : Int} {v : Value} (h : PtA W p v) (d : SdO) (a : Option Addr) (bn bc : Nat) : ∃ f1 c1 f2 c2 f c, v = .agg #[.func (.func f1) #[] c1, .func (.func f2) #[] c2, .func (.func f) #[] c] ∧ (∀ (args : Array Value) (X : World), (callFunc f args).run Tryd.prog X = .ok (.enter f args) X) ∧ ∀ X, Below W.heap.size W X → Calls Tryd.prog f (#[d.v a bn bc] ++ c) X fun e w' => e = .returned (.bool (emA d bn (letA p))) ∧ Below X.heap.size X w' := by
  rcases h with ⟨rfl, rfl⟩ | ⟨rfl, rfl⟩ | ⟨g, rfl, (⟨rfl, hg⟩ | ⟨rfl, hg⟩)⟩ | ⟨g, rfl, (⟨rfl, hg⟩ | ⟨rfl, hg⟩ | ⟨rfl, hg⟩)⟩
  · exact ⟨_, _, _, _, _, _, rfl, enters_of Tryd.func53 (by kernel_rfl) rfl, fun X hX => emptyA_3 d a bn bc X⟩
  · exact ⟨_, _, _, _, _, _, rfl, enters_of Tryd.func56 (by kernel_rfl) rfl, fun X hX => emptyA_4 d a bn bc X⟩
  · exact ⟨_, _, _, _, _, _, rfl, enters_of Tryd.func73 (by kernel_rfl) rfl, fun X hX => emptyA_1 d a bn bc g X (hg.later hX)⟩
  · exact ⟨_, _, _, _, _, _, rfl, enters_of Tryd.func73 (by kernel_rfl) rfl, fun X hX => emptyA_2 d a bn bc g X (hg.later hX)⟩
  · exact ⟨_, _, _, _, _, _, rfl, enters_of Tryd.func76 (by kernel_rfl) rfl, fun X hX => emptyA_5 d a bn bc g X (hg.later hX)⟩
  · exact ⟨_, _, _, _, _, _, rfl, enters_of Tryd.func76 (by kernel_rfl) rfl, fun X hX => emptyA_6 d a bn bc g X (hg.later hX)⟩
  · exact ⟨_, _, _, _, _, _, rfl, enters_of Tryd.func76 (by kernel_rfl) rfl, fun X hX => emptyA_7 d a bn bc g X (hg.later hX)⟩
theorem PtA.spell {W : World} {p : Int} {v : Value} (h : PtA W p v) (d : SdO) (b : ByteArray) (a : Option Addr) (bc : Nat) (ho : OkS d b) : ∃ f1 c1 f c f3 c3, v = .agg #[.func (.func f1) #[] c1, .func (.func f) #[] c, .func (.func f3) #[] c3] ∧ (∀ (args : Array Value) (X : World), (callFunc f args).run Tryd.prog X = .ok (.enter f args) X) ∧ ∀ X, Below W.heap.size W X → EnvOk X → LbW (fun _ => True) X (.slice a b.size bc) (blK b) → Calls Tryd.prog f (#[d.v a b.size bc] ++ c) X fun e w' => e = .returned (.string (shS d b (letA p))) ∧ Below X.heap.size X w' := by
  rcases h with ⟨rfl, rfl⟩ | ⟨rfl, rfl⟩ | ⟨g, rfl, (⟨rfl, hg⟩ | ⟨rfl, hg⟩)⟩ | ⟨g, rfl, (⟨rfl, hg⟩ | ⟨rfl, hg⟩ | ⟨rfl, hg⟩)⟩
  · exact ⟨_, _, _, _, _, _, rfl, enters_of Tryd.func52 (by kernel_rfl) rfl, fun X hX hE hl => spellA_3 d a b.size bc X ho.tx⟩
  · exact ⟨_, _, _, _, _, _, rfl, enters_of Tryd.func55 (by kernel_rfl) rfl, fun X hX hE hl => spellA_4 d b a bc X ho.b hl⟩
  · exact ⟨_, _, _, _, _, _, rfl, enters_of Tryd.func70 (by kernel_rfl) rfl, fun X hX hE hl => spellA_1 d a b.size bc g X ho.who hE (hg.later hX)⟩
  · exact ⟨_, _, _, _, _, _, rfl, enters_of Tryd.func70 (by kernel_rfl) rfl, fun X hX hE hl => spellA_2 d a b.size bc g X ho.too hE (hg.later hX)⟩
  · exact ⟨_, _, _, _, _, _, rfl, enters_of Tryd.func75 (by kernel_rfl) rfl, fun X hX hE hl => spellA_5 d a b.size bc g X ho.n.1 ho.n.2 hE (hg.later hX)⟩
  · exact ⟨_, _, _, _, _, _, rfl, enters_of Tryd.func75 (by kernel_rfl) rfl, fun X hX hE hl => spellA_6 d a b.size bc g X ho.m.1 ho.m.2 hE (hg.later hX)⟩
  · exact ⟨_, _, _, _, _, _, rfl, enters_of Tryd.func75 (by kernel_rfl) rfl, fun X hX hE hl => spellA_7 d a b.size bc g X ho.q.1 ho.q.2 hE (hg.later hX)⟩
/-- Has the row a part for all that the step says? -/
def hoA (l : List Int) (d : SdO) (bn : Nat) : Prop := ∀ p : Int, 1 ≤ p → p ≤ 7 → p ∈ l ∨ emA d bn (letA p) = true
theorem PsA.rng {W : World} {B b : Nat} {f : Int → Option Value} (h : PsA W B b 7 f) : ∃ D : DataW Value, W.ownsMap Tryd.prog 3 rawE b 7 D ∧ (∀ p : Int, 1 ≤ p → p ≤ 7 → (f p).isSome = true → Maps.has D (.int .i64 p) = true) ∧ ∀ (x c : Value) (kl : Lit) (y : DataW Value × List MemPlace), keyOf Tryd.prog 3 x = some kl → rawE c = some y → (∀ zd, D.atKey kl zd = y.1) → ∃ p : Int, x = .int .i64 p ∧ kl = .int .i64 p ∧ f p = some c := by
  obtain ⟨D, h1, h2, h3, h4⟩ := h.m.ex
  refine ⟨D, h1, fun p hp1 hp2 hs => by rw [(h4 p (wfI_of (by omega) (by omega))).1]; exact hs, fun x c kl y hkey hv hat => ?_⟩
  obtain ⟨p, rfl, rfl, hw⟩ := Maps.keyOf_int_inv Tryd.underlying3 hkey
  refine ⟨p, rfl, rfl, ?_⟩
  have h5 := h4 p hw
  cases hf : f p with
  | none =>
    exfalso
    have hh := h5.1
    rw [hf] at hh
    have q1 := hat (.held (.bool true))
    have q2 := hat (.held (.bool false))
    rw [Maps.atKey_of_not_has hh] at q1 q2
    exact absurd (q1.trans q2.symm) (by simp)
  | some u =>
    have h6 := h5.2 u hf (.held c)
    have hy : y = (DataW.held c, []) := (Option.some.inj hv).symm
    rw [hat, hy] at h6
    have h7 : c = u := by simpa using h6
    rw [h7]
theorem below_grownA {w w' : World} (h : Below w.heap.size w w') : w.grownBy w' none := ⟨h.os, h.tape, h.output, h.size, fun k hk _ => h.block k hk⟩
theorem sameI {p q : Int} : (Lit.int .i64 p).sameKey (Lit.int .i64 q) = true ↔ p = q := by
  simp [Lit.sameKey]
set_option maxRecDepth 20000 in
set_option maxHeartbeats 4000000 in
theorem holdsA_any (r : RoA) (d : SdO) (a : Option Addr) (bn bc : Nat) (w : World) : Calls Tryd.prog 23 #[r.v, d.v a bn bc] w fun e w' => (∃ R : Bool, e = .returned (.bool R) ∧ (R = true ↔ hoA r.l3 d bn)) ∧ Below w.heap.size w w' := by
  obtain ⟨x, k, oa, ob, oc⟩ := r
  obtain ⟨dk, who, too, tx, dn, dm, dq⟩ := d
  have hb1 := below2K w (.cells #[.string x, .int .i64 k, .int .i64 oa, .int .i64 ob, .int .i64 oc] 55) (.cells #[.int .i64 dk, .string who, .string too, .string tx, .slice a bn bc, .int .i64 dn, .int .i64 dm, .int .i64 dq] 24)
  have hk1 := BlkK.old w #[.string x, .int .i64 k, .int .i64 oa, .int .i64 ob, .int .i64 oc] 55 (.cells #[.int .i64 dk, .string who, .string too, .string tx, .slice a bn bc, .int .i64 dn, .int .i64 dm, .int .i64 dq] 24)
  have hd1 := BlkK.new2 w #[.int .i64 dk, .string who, .string too, .string tx, .slice a bn bc, .int .i64 dn, .int .i64 dm, .int .i64 dq] 24 (.cells #[.string x, .int .i64 k, .int .i64 oa, .int .i64 ob, .int .i64 oc] 55)
  simp only [RoA.v]
  go_enter Tryd.func23, Tryd.ntmps23
  go_upto_region 1 with (fail)
  revert hb1 hk1 hd1
  generalize (w.alloc _).alloc _ = W1
  intro hb1 hk1 hd1
  have HB1 := hm7 hb1
  have HK1 := hm7 hk1
  have HD1 := hm7 hd1
  clear hb1 hk1 hd1
  go_wp2_with (first
    | (go_at_call 33; refine (partsA_any _).mono ?_; rintro e w2 ⟨mb, f, rfl, hp2, hf2, hb2⟩; obtain ⟨D, hD, hhas, hin⟩ := hp2.rng; have HP2 := hm7 hp2; have HF2 := hm7 hf2; have HB2 := hm7 hb2; have HM := hm7 hD; have HHAS := hm7 hhas; have HIN := hm7 hin; clear hp2 hf2 hb2 hD hhas hin)
    | (at_range; refine wpList_range_own _ rfl _ 84 rfl 3 64 (Maps.int_keyed Tryd.underlying3) Tryd.underlying84 _ mb 7 _ rfl HM.out ?_; intro w0 hrg0 hg0 hs0))
  go_frame
  go_loopw [5, 6] (fun _ _ wr => ∃ (left : Lit → Bool) (cnt : Nat), wr.ranges Tryd.prog 3 rawE mb w2.heap.size 7 D left cnt ∧ (∀ p : Int, 1 ≤ p → p ≤ 7 → left (.int .i64 p) = false → p ∈ ([oa, ob, oc] : List Int) ∨ emA ⟨dk, who, too, tx, dn, dm, dq⟩ bn (letA p) = true) ∧ Below w2.heap.size w2 wr)
    (fun _ _ wr => wr.rangeLeft mb w2.heap.size)
  case atStart => exact ⟨_, _, hrg0, (fun p h1 h2 h3 => absurd h3 (by rw [HHAS.out p h1 h2 ((HF2.out p).2 ⟨h1, h2⟩)]; decide)), (Below.refl _ _).grown hg0 (Nat.le_refl _) (fun j hj => by cases hj)⟩
  case round =>
    obtain ⟨left, cnt, hrg, hS, hb⟩ := hrel
    have HRG := hm7 hrg
    have HS := hm7 hS
    have HB := hm7 hb
    clear hrg hS hb
    go_wp2_with (at_next; refine wpList_next_ranges _ rfl _ rfl 3 (Maps.int_keyed Tryd.underlying3) rawE (fun v : Value => v) (fun c : Value => c) (fun key kl hk => ⟨key, rfl⟩) (fun v y hv => ⟨v, rfl⟩) mb w2.heap.size 7 _ _ _ rfl HRG.out ?_ ?_)
    · intro hc0 hl0
      have HL0 := hm7 hl0
      clear hc0 hl0
      go_wp2
      go_ret
      exact ⟨⟨true, rfl, by simp only [true_iff]; exact fun p h1 h2 => HS.out p h1 h2 (HL0.out _)⟩, below_stepK HB1.out (below_stepK HB2.out HB.out)⟩
    · intro x' c kl y py w3 cnt1 hkey hlk hv hat hrg1 hlt hg1 hs1 hen
      obtain ⟨p, rfl, rfl, hfp⟩ := HIN.out x' c kl (y, py) hkey hv hat
      have hpp := (HF2.out p).1 (by rw [hfp]; rfl)
      obtain ⟨f1, c1, f2, c2, fE, cE, rfl, hent, hem⟩ := (HP2.out.p p c hfp).empty ⟨dk, who, too, tx, dn, dm, dq⟩ a bn bc
      have HR1 := hm7 hrg1
      have HB3 : Hid (Below w2.heap.size w2 w3) := HB.out.grown hg1 HB.out.size (fun j hj => by cases hj; exact Nat.le_refl _)
      have HLT := hm7 hlt
      have HPP := hm7 hpp
      have HEM := hm7 hem
      have HST : Hid (∀ q : Int, 1 ≤ q → q ≤ 7 → (left (.int .i64 q) && !(Lit.int .i64 q).sameKey (.int .i64 p)) = false → q = p ∨ (q ∈ ([oa, ob, oc] : List Int) ∨ emA ⟨dk, who, too, tx, dn, dm, dq⟩ bn (letA q) = true)) := fun q h1 h2 h3 => by
        by_cases hqp : q = p
        · exact Or.inl hqp
        · refine Or.inr (HS.out q h1 h2 ?_)
          have : (Lit.int .i64 q).sameKey (.int .i64 p) = false := by
            cases hs : (Lit.int .i64 q).sameKey (.int .i64 p) with
            | false => rfl
            | true => exact absurd (sameI.1 hs) hqp
          rw [this] at h3
          simpa using h3
      clear hkey hlk hv hat hrg1 hlt hg1 hs1 hfp hpp hem
      try simp only at hen
      go_upto_region 4 with (fail)
      have hb4 := below1K w3 (.cells #[.func (.func f1) #[] c1, .func (.func f2) #[] c2, .func (.func fE) #[] cE] 64)
      have hp4 := BlkK.new w3 #[.func (.func f1) #[] c1, .func (.func f2) #[] c2, .func (.func fE) #[] cE] 64
      have hr4 := HR1.out.kept (below_grownA hb4) (by simp) (by simp)
      clear hen
      revert hb4 hp4 hr4
      generalize w3.alloc _ = W4
      intro hb4 hp4 hr4
      have hbt : Below W1.heap.size W1 W4 := below_stepK HB2.out (HB3.out.trans (hb4.mono HB3.out.size))
      have hk4 := HK1.out.later hbt
      have hd4 := HD1.out.later hbt
      have hi4 : IntsA W4 w.heap.size 2 [oa, ob, oc] := by
        intro i y hi
        match i, hi with
        | 0, hi => cases hi; exact cell8 hk4 2 _ rfl
        | 1, hi => cases hi; exact cell8 hk4 3 _ rfl
        | 2, hi => cases hi; exact cell8 hk4 4 _ rfl
      have HCO : Hid (Calls Tryd.prog 34 #[.slice (some ⟨w.heap.size, 2, none⟩) 3 3, .int .i64 p] W4 fun e w' => e = .returned (.bool (decide (p ∈ ([oa, ob, oc] : List Int)))) ∧ w' = W4) := containsI_any w.heap.size 2 3 [oa, ob, oc] p W4 hi4 (by simp)
      have HB4 : Hid (Below w2.heap.size w2 W4) := HB3.out.trans (hb4.mono HB3.out.size)
      have HR4 := hm7 hr4
      have x2 := cell8 hp4 2 _ rfl
      have d0 := cell8 hd4 0 _ rfl
      have d1 := cell8 hd4 1 _ rfl
      have d2 := cell8 hd4 2 _ rfl
      have d3 := cell8 hd4 3 _ rfl
      have d4 := cell8 hd4 4 _ rfl
      have d5 := cell8 hd4 5 _ rfl
      have d6 := cell8 hd4 6 _ rfl
      have d7 := cell8 hd4 7 _ rfl
      clear hb4 hp4 hr4 hbt hk4 hd4 hi4
      by_cases hm : p ∈ ([oa, ob, oc] : List Int)
      · rw [decide_eq_true hm] at HCO
        have HMM := hm7 hm
        clear hm
        go_wp2_with (go_at_call 34; refine HCO.out.mono ?_; rintro e wx ⟨rfl, rfl⟩)
        go_roundw
        case rel => exact ⟨_, cnt1, HR4.out, fun q h1 h2 h3 => (HST.out q h1 h2 h3).elim (fun e => by rw [e]; exact Or.inl HMM.out) id, HB4.out⟩
        case measure => rw [HR4.out.left_eq, HRG.out.left_eq]; exact HLT.out
      · rw [decide_eq_false hm] at HCO
        have HMM := hm7 hm
        have HE4 := hm7 (HEM.out W4 HB4.out)
        clear hm
        have hEV : ∃ ev, emA ⟨dk, who, too, tx, dn, dm, dq⟩ bn (letA p) = ev := ⟨_, rfl⟩
        obtain ⟨ev, hev⟩ := hEV
        have HEV := hm7 hev
        rw [hev] at HE4
        clear hev
        cases ev with
        | true =>
          go_wp2_with (first | (go_at_call 34; refine HCO.out.mono ?_; rintro e wx ⟨rfl, rfl⟩) | (refine HE4.out.mono ?_; rintro e w5 ⟨rfl, hb5⟩; have HB5 := hm7 hb5; clear hb5))
          go_roundw
          case rel => exact ⟨_, cnt1, HR4.out.kept (below_grownA HB5.out) (by simp) (by simp), fun q h1 h2 h3 => (HST.out q h1 h2 h3).elim (fun e => by rw [e]; exact Or.inr HEV.out) id, HB4.out.trans (HB5.out.mono HB4.out.size)⟩
          case measure => rw [(HR4.out.kept (below_grownA HB5.out) (by simp) (by simp)).left_eq, HRG.out.left_eq]; exact HLT.out
        | false =>
          go_wp2_with (first | (go_at_call 34; refine HCO.out.mono ?_; rintro e wx ⟨rfl, rfl⟩) | (refine HE4.out.mono ?_; rintro e w5 ⟨rfl, hb5⟩; have HB5 := hm7 hb5; clear hb5))
          go_ret
          refine ⟨⟨false, rfl, ?_⟩, below_stepK HB1.out (below_stepK HB2.out (HB4.out.trans (HB5.out.mono HB4.out.size)))⟩
          refine ⟨fun h => (by cases h), fun h => ?_⟩
          rcases h p HPP.out.1 HPP.out.2 with h | h
          · exact absurd h HMM.out
          · rw [HEV.out] at h; cases h
end Go.Proofs.YtdfdnjkeiddfjaaDoor

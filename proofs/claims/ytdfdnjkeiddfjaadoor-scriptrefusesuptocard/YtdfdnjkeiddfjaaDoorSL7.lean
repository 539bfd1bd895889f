import Derived.Test.YtdfdnjkeiddfjaaDoorSXL
import Derived.Test.YtdfdnjkeiddfjaaDoorSMH
import Derived.Deep.WholeRow
import Derived.Great.Walk
import Derived.Laws.Tables
/-
  hearsaylaw25: parts.
-/
namespace Go.Proofs.YtdfdnjkeiddfjaaDoor
open Go.RowKit
attribute [local go_sem ↓] Go.wp_at_zero Go.wp_at_succ

def paL : Array Value := #[.string ⟨#[]⟩, .string ⟨#[]⟩, .string ⟨#[101, 110, 114, 111, 108, 108]⟩, .string ⟨#[119]⟩, .string ⟨#[97, 115, 115, 101, 114, 116]⟩, .string ⟨#[119, 116]⟩, .string ⟨#[114, 101, 116, 114, 97, 99, 116]⟩, .string ⟨#[119, 116]⟩, .string ⟨#[101, 120, 112, 111, 114, 116]⟩, .string ⟨#[119, 116, 110]⟩, .string ⟨#[105, 109, 112, 111, 114, 116]⟩, .string ⟨#[119, 110]⟩, .string ⟨#[102, 111, 114, 103, 101, 116]⟩, .string ⟨#[119, 116]⟩, .string ⟨#[113, 117, 101, 114, 121]⟩, .string ⟨#[119, 116, 110]⟩, .string ⟨#[97, 115, 107]⟩, .string ⟨#[119, 116]⟩, .string ⟨#[119, 97, 116, 99, 104]⟩, .string ⟨#[119, 116]⟩, .string ⟨#[110, 101, 119, 115]⟩, .string ⟨#[119, 110]⟩, .string ⟨#[119, 104, 121]⟩, .string ⟨#[119, 116]⟩, .string ⟨#[108, 111, 115, 115]⟩, .string ⟨#[119, 111]⟩, .string ⟨#[112, 114, 111, 118, 101]⟩, .string ⟨#[119, 116, 110]⟩, .string ⟨#[115, 104, 111, 119]⟩, .string ⟨#[119, 110]⟩, .string ⟨#[99, 108, 97, 117, 115, 101, 115]⟩, .string ⟨#[119]⟩, .string ⟨#[100, 114, 111, 112]⟩, .string ⟨#[110]⟩, .string ⟨#[99, 111, 112, 121]⟩, .string ⟨#[110]⟩, .string ⟨#[115, 119, 97, 112]⟩, .string ⟨#[110, 109]⟩, .string ⟨#[102, 108, 105, 112]⟩, .string ⟨#[110, 109, 107]⟩, .string ⟨#[99, 117, 116]⟩, .string ⟨#[110, 109]⟩, .string ⟨#[102, 111, 114, 103, 101]⟩, .string ⟨#[98]⟩, .string ⟨#[119, 97, 105, 116, 105, 110, 103]⟩, .string ⟨#[]⟩, .string ⟨#[99, 114, 97, 115, 104]⟩, .string ⟨#[119, 109]⟩, .string ⟨#[114, 101, 100, 117, 110, 100, 97, 110, 116]⟩, .string ⟨#[119]⟩]
theorem pa_at {i : Nat} (h : i < 24) : paL[(i + 1) * 2]? = some (.string (rwS.getD i zrS).x) ∧ paL[(i + 1) * 2 + 1]? = some (.string (rwS.getD i zrS).p) := by
  have key : ∀ (l : List RwS) (m : List Value), m = l.flatMap (fun r => [.string r.x, .string r.p]) → ∀ i, i < l.length → m[i * 2]? = some (.string (l.getD i zrS).x) ∧ m[i * 2 + 1]? = some (.string (l.getD i zrS).p) := by
    intro l
    induction l with
    | nil => intro m _ i hi; simp at hi
    | cons r l ih =>
      intro m hm i hi
      subst hm
      cases i with
      | zero => exact ⟨rfl, rfl⟩
      | succ i =>
        have := ih _ rfl i (by simpa using hi)
        rw [show (i + 1) * 2 = i * 2 + 1 + 1 by omega]
        exact this
  have h2 := key rwS (paL.toList.drop 2) (by kernel_rfl) i h
  rw [List.getElem?_drop, List.getElem?_drop, Array.getElem?_toList, Array.getElem?_toList] at h2
  rw [show (i + 1) * 2 = 2 + i * 2 by omega, show 2 + i * 2 + 1 = 2 + (i * 2 + 1) by omega]
  exact h2
theorem wpList_act {P : Program} {ops : Array Oper} {Q : Exit → Act → World → Prop} {rest : List Oper} {a a' : Act} {w : World} (h : a = a') (k : wpList P ops Q rest a' w) : wpList P ops Q rest a w := by rw [h]; exact k
def zeL : Array Value := #[.string ⟨#[]⟩, .string ⟨#[]⟩, .string ⟨#[]⟩, .string ⟨#[]⟩, .string ⟨#[]⟩, .string ⟨#[]⟩, .string ⟨#[]⟩, .string ⟨#[]⟩, .string ⟨#[]⟩, .string ⟨#[]⟩, .string ⟨#[]⟩, .string ⟨#[]⟩, .string ⟨#[]⟩, .string ⟨#[]⟩, .string ⟨#[]⟩, .string ⟨#[]⟩, .string ⟨#[]⟩, .string ⟨#[]⟩, .string ⟨#[]⟩, .string ⟨#[]⟩, .string ⟨#[]⟩, .string ⟨#[]⟩, .string ⟨#[]⟩, .string ⟨#[]⟩, .string ⟨#[]⟩, .string ⟨#[]⟩, .string ⟨#[]⟩, .string ⟨#[]⟩, .string ⟨#[]⟩, .string ⟨#[]⟩, .string ⟨#[]⟩, .string ⟨#[]⟩, .string ⟨#[]⟩, .string ⟨#[]⟩, .string ⟨#[]⟩, .string ⟨#[]⟩, .string ⟨#[]⟩, .string ⟨#[]⟩, .string ⟨#[]⟩, .string ⟨#[]⟩, .string ⟨#[]⟩, .string ⟨#[]⟩, .string ⟨#[]⟩, .string ⟨#[]⟩, .string ⟨#[]⟩, .string ⟨#[]⟩, .string ⟨#[]⟩, .string ⟨#[]⟩, .string ⟨#[]⟩, .string ⟨#[]⟩]
set_option maxRecDepth 20000 in
set_option maxHeartbeats 4000000 in
theorem partsL_any (i : Nat) (hi : i < 24) (w : World) : Calls Tryd.prog 25 #[.int .i64 ((i : Int) + 1)] w fun e w' => e = .returned (.tuple #[.string (rwS.getD i zrS).x, .string (rwS.getD i zrS).p]) ∧ Below w.heap.size w w' := by
  have i0 : (0 : Int) ≤ (i : Int) + 1 := by omega
  have i1 : (i : Int) + 1 < 25 := by omega
  have hpa := pa_at hi
  obtain ⟨X, hX⟩ : ∃ X, (rwS.getD i zrS).x = X := ⟨_, rfl⟩
  obtain ⟨P, hP⟩ : ∃ P, (rwS.getD i zrS).p = P := ⟨_, rfl⟩
  rw [hX, hP] at hpa ⊢
  have HPA := hm7 hpa
  clear hX hP hpa
  go_enter Tryd.func25, Tryd.ntmps25
  go_upto_region 1 with (fail)
  refine wp_region_list ?_
  refine wpList_build rfl _ _ rfl (by kernel_rfl) ?_
  refine wpList_build rfl _ _ rfl (by kernel_rfl) ?_
  refine wpList_build rfl _ _ rfl (by kernel_rfl) ?_
  refine wpList_build rfl _ _ rfl (by kernel_rfl) ?_
  refine wpList_build rfl _ _ rfl (by kernel_rfl) ?_
  refine wpList_build rfl _ _ rfl (by kernel_rfl) ?_
  refine wpList_build rfl _ _ rfl (by kernel_rfl) ?_
  refine wpList_build rfl _ _ rfl (by kernel_rfl) ?_
  refine wpList_build rfl _ _ rfl (by kernel_rfl) ?_
  refine wpList_build rfl _ _ rfl (by kernel_rfl) ?_
  refine wpList_build rfl _ _ rfl (by kernel_rfl) ?_
  refine wpList_build rfl _ _ rfl (by kernel_rfl) ?_
  refine wpList_build rfl _ _ rfl (by kernel_rfl) ?_
  refine wpList_build rfl _ _ rfl (by kernel_rfl) ?_
  refine wpList_build rfl _ _ rfl (by kernel_rfl) ?_
  refine wpList_build rfl _ _ rfl (by kernel_rfl) ?_
  refine wpList_build rfl _ _ rfl (by kernel_rfl) ?_
  refine wpList_build rfl _ _ rfl (by kernel_rfl) ?_
  refine wpList_build rfl _ _ rfl (by kernel_rfl) ?_
  refine wpList_build rfl _ _ rfl (by kernel_rfl) ?_
  refine wpList_build rfl _ _ rfl (by kernel_rfl) ?_
  refine wpList_build rfl _ _ rfl (by kernel_rfl) ?_
  refine wpList_build rfl _ _ rfl (by kernel_rfl) ?_
  refine wpList_build rfl _ _ rfl (by kernel_rfl) ?_
  refine wpList_build rfl _ _ rfl (by kernel_rfl) ?_
  refine wpList_build rfl _ _ rfl (by kernel_rfl) ?_
  refine Great.wpList_allocTo rfl (some 4) rfl (.pointer (some ⟨w.heap.size, 0, none⟩)) (.cells zeL 89) (by kernel_rfl) ?_
  refine wpList_store_row rfl 89 _ _ rfl w.heap.size paL (by kernel_rfl) (by kernel_rfl) 89 zeL (heap_alloc_new _ _) (by kernel_rfl) (by kernel_rfl) (by kernel_rfl) ?_
  refine wpList_act (a' := ⟨#[.int .i64 ((i : Int) + 1), undef, .string ⟨#[]⟩, .string ⟨#[]⟩, .pointer (some ⟨w.heap.size, 0, none⟩), .agg #[.string ⟨#[]⟩, .string ⟨#[]⟩], .agg #[.string ⟨#[101, 110, 114, 111, 108, 108]⟩, .string ⟨#[119]⟩], .agg #[.string ⟨#[97, 115, 115, 101, 114, 116]⟩, .string ⟨#[119, 116]⟩], .agg #[.string ⟨#[114, 101, 116, 114, 97, 99, 116]⟩, .string ⟨#[119, 116]⟩], .agg #[.string ⟨#[101, 120, 112, 111, 114, 116]⟩, .string ⟨#[119, 116, 110]⟩], .agg #[.string ⟨#[105, 109, 112, 111, 114, 116]⟩, .string ⟨#[119, 110]⟩], .agg #[.string ⟨#[102, 111, 114, 103, 101, 116]⟩, .string ⟨#[119, 116]⟩], .agg #[.string ⟨#[113, 117, 101, 114, 121]⟩, .string ⟨#[119, 116, 110]⟩], .agg #[.string ⟨#[97, 115, 107]⟩, .string ⟨#[119, 116]⟩], .agg #[.string ⟨#[119, 97, 116, 99, 104]⟩, .string ⟨#[119, 116]⟩], .agg #[.string ⟨#[110, 101, 119, 115]⟩, .string ⟨#[119, 110]⟩], .agg #[.string ⟨#[119, 104, 121]⟩, .string ⟨#[119, 116]⟩], .agg #[.string ⟨#[108, 111, 115, 115]⟩, .string ⟨#[119, 111]⟩], .agg #[.string ⟨#[112, 114, 111, 118, 101]⟩, .string ⟨#[119, 116, 110]⟩], .agg #[.string ⟨#[115, 104, 111, 119]⟩, .string ⟨#[119, 110]⟩], .agg #[.string ⟨#[99, 108, 97, 117, 115, 101, 115]⟩, .string ⟨#[119]⟩], .agg #[.string ⟨#[100, 114, 111, 112]⟩, .string ⟨#[110]⟩], .agg #[.string ⟨#[99, 111, 112, 121]⟩, .string ⟨#[110]⟩], .agg #[.string ⟨#[115, 119, 97, 112]⟩, .string ⟨#[110, 109]⟩], .agg #[.string ⟨#[102, 108, 105, 112]⟩, .string ⟨#[110, 109, 107]⟩], .agg #[.string ⟨#[99, 117, 116]⟩, .string ⟨#[110, 109]⟩], .agg #[.string ⟨#[102, 111, 114, 103, 101]⟩, .string ⟨#[98]⟩], .agg #[.string ⟨#[119, 97, 105, 116, 105, 110, 103]⟩, .string ⟨#[]⟩], .agg #[.string ⟨#[99, 114, 97, 115, 104]⟩, .string ⟨#[119, 109]⟩], .agg #[.string ⟨#[114, 101, 100, 117, 110, 100, 97, 110, 116]⟩, .string ⟨#[119]⟩], .agg paL, undef, undef, undef, undef, undef, undef, undef, undef], []⟩) (by kernel_rfl) ?_
  rw [World.setRow_alloc_new]
  have hb := BlkK.new w paL 89
  have HB := hm7 (below1K w (.cells paL 89))
  revert hb HB
  generalize w.alloc (.cells paL 89) = W
  intro hb HB
  have c0 := cell8 hb _ _ HPA.out.1
  have c1 := cell8 hb _ _ HPA.out.2
  clear hb
  go_wp2
  go_quiet (fail)
  go_wp2
  go_ret2
  exact ⟨ret_2 rfl rfl, HB.out.trans ((bdrewS W nq).mono HB.out.size)⟩
end Go.Proofs.YtdfdnjkeiddfjaaDoor
/-
  hearsaylaw25: made.
-/
namespace Go.Proofs.YtdfdnjkeiddfjaaDoor
open Go.RowKit
attribute [local go_sem ↓] Go.wp_at_zero Go.wp_at_succ

def mkI (d : SdO) : Nat := (d.k % 24).toNat
theorem mkI_lt (d : SdO) : mkI d < 24 := by unfold mkI; omega
def mkP (d : SdO) : ByteArray := (rwS.getD (mkI d) zrS).p
/-- The step that made makes. -/
def mkD (d : SdO) : SdO :=
  ⟨(mkI d : Int) + 1, if inS (mkP d) 119 = true then ctL d.who else ⟨#[]⟩, if inS (mkP d) 111 = true then ctL d.too else ⟨#[]⟩, if inS (mkP d) 116 = true then ctL d.tx else ⟨#[]⟩, if inS (mkP d) 110 = true then d.n else 0, if inS (mkP d) 109 = true then d.m else 0, if inS (mkP d) 107 = true then d.q else 0⟩
def mkB (d : SdO) (b : ByteArray) : ByteArray := if inS (mkP d) 98 = true then ctL b else ⟨#[]⟩
theorem mk_cl (d : SdO) (b : ByteArray) : ClS (rwS.getD (mkI d) zrS).p (mkD d) (mkB d b) := by
  unfold ClS
  simp only [mem_in]
  unfold mkD mkB mkP
  refine ⟨?_, ?_, ?_, ?_, ?_, ?_, ?_⟩
  all_goals
    try dsimp only
    split
    · exact Or.inr (by assumption)
    · exact Or.inl rfl
theorem mk_ok {d : SdO} (b : ByteArray) (hn : N64S d.n) (hm : N64S d.m) (hq : N64S d.q) : OkS (mkD d) (mkB d b) := by
  have h4 := fun s => ctL_size s
  have hi := mkI_lt d
  have z : (⟨#[]⟩ : ByteArray).size = 0 := rfl
  unfold mkD mkB
  refine ⟨?_, ?_, ?_, ?_, ⟨by simp only; omega, by simp only; omega⟩, ?_, ?_, ?_⟩
  all_goals
    try dsimp only
    split
  all_goals first | assumption | exact z64S | (rw [z]; omega) | (have := ctL_size d.who; omega) | (have := ctL_size d.too; omega) | (have := ctL_size d.tx; omega) | (have := ctL_size b; omega)
theorem mkI_rem (d : SdO) : (Int.tmod d.k 24 < 0 ∧ Int.tmod d.k 24 + 24 = (mkI d : Int)) ∨ (¬ Int.tmod d.k 24 < 0 ∧ Int.tmod d.k 24 = (mkI d : Int)) := by
  have h1 := Int.mul_tdiv_add_tmod d.k 24
  have h2 := Int.tmod_lt_of_pos d.k (show (0 : Int) < 24 by decide)
  have h3 := Int.lt_tmod_of_pos d.k (show (0 : Int) < 24 by decide)
  unfold mkI
  generalize Int.tmod d.k 24 = r at *
  generalize Int.tdiv d.k 24 = q at *
  omega
/-- Which letters a row can have. -/
def hasAll : List (List Bool) := [[true, false, false, false, false, false, false], [true, false, true, false, false, false, false], [true, false, true, false, true, false, false], [true, false, false, false, true, false, false], [true, true, false, false, false, false, false], [false, false, false, false, true, false, false], [false, false, false, false, true, true, false], [false, false, false, false, true, true, true], [false, false, false, true, false, false, false], [false, false, false, false, false, false, false], [true, false, false, false, false, true, false]]
theorem rw_has {i : Nat} (h : i < 24) : [inS (rwS.getD i zrS).p 119, inS (rwS.getD i zrS).p 111, inS (rwS.getD i zrS).p 116, inS (rwS.getD i zrS).p 98, inS (rwS.getD i zrS).p 110, inS (rwS.getD i zrS).p 109, inS (rwS.getD i zrS).p 107] ∈
    hasAll := by
  have : ∀ i : Nat, i < 24 → [inS (rwS.getD i zrS).p 119, inS (rwS.getD i zrS).p 111, inS (rwS.getD i zrS).p 116, inS (rwS.getD i zrS).p 98, inS (rwS.getD i zrS).p 110, inS (rwS.getD i zrS).p 109, inS (rwS.getD i zrS).p 107] ∈
    hasAll := of_decide_eq_true (by kernel_rfl)
  exact this i h
end Go.Proofs.YtdfdnjkeiddfjaaDoor

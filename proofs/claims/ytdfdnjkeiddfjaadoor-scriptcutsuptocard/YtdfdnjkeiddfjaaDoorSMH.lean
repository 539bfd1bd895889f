import Derived.Test.YtdfdnjkeiddfjaaDoorSX5
import Derived.Test.YtdfdnjkeiddfjaaDoorKR9
import Derived.Lib.ItoaLen
/-
  script (stage 25): PLAIN: a step with small fields has a line; blanks and a remark change nothing.
-/
namespace Go.Proofs.YtdfdnjkeiddfjaaDoor
open Go.RowKit

theorem ib_len {n : Int} (h : N64S n) : (ibS n).size ≤ 21 := by
  have := Lib.itoa_length_le n h.1 h.2
  show (Lib.itoa n).toArray.size ≤ 21
  simpa using this
/-- Small fields. -/
structure SmS (d : SdO) (b : ByteArray) : Prop where
  who : d.who.size ≤ 4000
  too : d.too.size ≤ 4000
  tx : d.tx.size ≤ 4000
  b : b.size ≤ 4000
theorem sh_le {d : SdO} {b : ByteArray} (h : OkS d b) (hs : SmS d b) (p : Int) : (shS d b p).size ≤ 16002 := by
  have h1 := qt_size d.who
  have h2 := qt_size d.too
  have h3 := qt_size d.tx
  have h4 := qt_size b
  have n1 := nm_le d.who
  have n2 := nm_le d.too
  obtain ⟨s1, s2, s3, s4⟩ := hs
  have i1 := ib_len h.n
  have i2 := ib_len h.m
  have i3 := ib_len h.q
  unfold shS
  repeat' split
  all_goals omega
theorem jo_le {d : SdO} {b : ByteArray} (h : OkS d b) (hs : SmS d b) : ∀ (ps : List Int) (s : ByteArray), (joS d b ps s).size ≤ s.size + ps.length * 16003
  | [], s => by simp [joS]
  | p :: ps, s => by
    have ih := jo_le h hs ps (s ++ (⟨#[32]⟩ : ByteArray) ++ shS d b p)
    have h1 := sh_le h hs p
    simp only [ByteArray.size_append] at ih
    have : (⟨#[32]⟩ : ByteArray).size = 1 := rfl
    rw [List.length_cons, Nat.add_mul]
    show (joS d b ps _).size ≤ _
    omega
/-- A step's line. -/
def stL (d : SdO) (b : ByteArray) (i : Nat) : ByteArray := joS d b (blK (rwS.getD i zrS).p) (rwS.getD i zrS).x
theorem st_size {d : SdO} {b : ByteArray} (h : OkS d b) (hs : SmS d b) (i : Nat) : (stL d b i).size ≤ 48018 := by
  have h1 := jo_le h hs (blK (rwS.getD i zrS).p) (rwS.getD i zrS).x
  have h2 := rw_le i
  have h3 : (blK (rwS.getD i zrS).p).length ≤ 3 := by rw [bl_len]; exact h2.2
  unfold stL
  omega
theorem st_pr {d : SdO} {b : ByteArray} (h : OkS d b) (hs : SmS d b) {i : Nat} (hi : i < 24) (hk : d.k = (i : Int) + 1) (hc : ClS (rwS.getD i zrS).p d b) : prS d b = some (stL d b i) := by
  rw [pr_of hi hk hc]
  exact if_pos (by have := st_size h hs i; unfold stL at this; omega)
theorem rw_pos {i : Nat} (h : i < 24) : 3 ≤ (rwS.getD i zrS).x.size := by
  have : ∀ i : Nat, i < 24 → 3 ≤ (rwS.getD i zrS).x.size := by decide
  exact this i h
theorem st_ne (d : SdO) (b : ByteArray) {i : Nat} (hi : i < 24) : stL d b i ≠ ⟨#[]⟩ := fun e => by
  have h1 := jo_size d b (blK (rwS.getD i zrS).p) (rwS.getD i zrS).x
  have h2 := rw_pos hi
  have h3 : (stL d b i).size = 0 := by rw [e]; rfl
  unfold stL at h3
  omega
theorem st_bl {d : SdO} {b : ByteArray} (h : OkS d b) {i : Nat} (hi : i < 24) : blS (stL d b i) = false := by
  unfold blS
  have hc := (ln_cz h hi).cut (Int.le_refl _)
  rw [show cutL (blK (stL d b i)) ((stL d b i).size : Int) = _ from hc]
  simp [lnT]
theorem bl_app3 (a b c : ByteArray) : blK (a ++ b ++ c) = blK a ++ blK b ++ blK c := by rw [bl_append, bl_append]
/-- Blanks ahead of it, a remark behind it. -/
theorem st_remark {d : SdO} {b r : ByteArray} (h : OkS d b) (hs : SmS d b) {i : Nat} (hi : i < 24) (hk : d.k = (i : Int) + 1) (hc : ClS (rwS.getD i zrS).p d b) (hr : ∀ x ∈ blK r, x ≠ 10) (hz : r.size ≤ 4000) :
    rdS ((((⟨#[32, 9]⟩ : ByteArray) ++ stL d b i) ++ (⟨#[32, 37, 32]⟩ : ByteArray)) ++ r) = ⟨d, b, 0, 0⟩ := by
  have hsz := st_size h hs i
  have e1 : (⟨#[32, 9]⟩ : ByteArray).size = 2 := rfl
  have e2 : (⟨#[32, 37, 32]⟩ : ByteArray).size = 3 := rfl
  have hcz : CzP true ([32] ++ ([9] ++ blK (stL d b i))) (fun o => lnT d b (rwS.getD i zrS) (o + 2)) :=
    ((CzP.gap 32 (Or.inl rfl)).app ((CzP.gap 9 (Or.inr (Or.inl rfl))).app (ln_cz h hi) (fun e => by cases e)) (fun e => by cases e)).eq rfl fun o => by simp [Nat.add_assoc]
  have hcut := hcz.remark (s := (((⟨#[32, 9]⟩ : ByteArray) ++ stL d b i) ++ (⟨#[32, 37, 32]⟩ : ByteArray)) ++ r) (r := 32 :: blK r) (by
    rw [bl_append, bl_append, bl_append]
    simp only [List.append_assoc]
    rfl) (by
    intro x hx
    rcases List.mem_cons.1 hx with rfl | hx
    · decide
    · exact hr x hx) (Int.le_refl _)
  rw [rd_of (by simp only [ByteArray.size_append]; omega) hcut, rl_ln hi hk hc]
end Go.Proofs.YtdfdnjkeiddfjaaDoor
/-
  script (stage 25): PLAIN: how long a printed line may be; its parts, one after the other.
-/
namespace Go.Proofs.YtdfdnjkeiddfjaaDoor
open Go.RowKit

theorem sh_big {d : SdO} {b : ByteArray} (h : OkS d b) (p : Int) : (shS d b p).size ≤ 8000002 := by
  have h1 := qt_size d.who
  have h2 := qt_size d.too
  have h3 := qt_size d.tx
  have h4 := qt_size b
  have n1 := nm_le d.who
  have n2 := nm_le d.too
  have i1 := ib_len h.n
  have i2 := ib_len h.m
  have i3 := ib_len h.q
  have o1 := h.who
  have o2 := h.too
  have o3 := h.tx
  have o4 := h.b
  unfold shS
  repeat' split
  all_goals omega
theorem jo_big {d : SdO} {b : ByteArray} (h : OkS d b) : ∀ (ps : List Int) (s : ByteArray), (joS d b ps s).size ≤ s.size + ps.length * 8000003
  | [], s => by simp [joS]
  | p :: ps, s => by
    have ih := jo_big h ps (s ++ (⟨#[32]⟩ : ByteArray) ++ shS d b p)
    have h1 := sh_big h p
    simp only [ByteArray.size_append] at ih
    have : (⟨#[32]⟩ : ByteArray).size = 1 := rfl
    rw [List.length_cons, Nat.add_mul]
    show (joS d b ps _).size ≤ _
    omega
theorem at_bl2 {s : ByteArray} {k : Nat} (h : k < s.size) : (blK s)[k]? = some (atK_ s k) := by
  have := bl_drop h
  rw [List.drop_eq_getElem_cons (by rw [bl_len]; exact h)] at this
  rw [List.getElem?_eq_getElem (by rw [bl_len]; exact h), (List.cons.inj this).1]
theorem jo_step (d : SdO) (b P X : ByteArray) {k : Nat} (h : k < P.size) : joS d b ((blK P).take (k + 1)) X = joS d b ((blK P).take k) X ++ (⟨#[32]⟩ : ByteArray) ++ shS d b (atK_ P k) := by
  rw [List.take_add_one, at_bl2 h, jo_app]
  rfl
end Go.Proofs.YtdfdnjkeiddfjaaDoor

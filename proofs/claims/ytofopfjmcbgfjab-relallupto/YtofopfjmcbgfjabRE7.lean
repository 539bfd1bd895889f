import Derived.Test.YtofopfjmcbgfjabRE61
import Derived.Test.YtofopfjmcbgfjabRE62
import Derived.Test.YtofopfjmcbgfjabRE63
import Derived.Test.YtofopfjmcbgfjabRE64
import Derived.Test.YtofopfjmcbgfjabRE65
import Derived.Test.YtofopfjmcbgfjabRE67
import Derived.Test.YtofopfjmcbgfjabRE60
import Derived.Test.YtofopfjmcbgfjabRA31
import Derived.Test.YtofopfjmcbgfjabRows
import Derived.Deep.Slices
import Derived.Deep.Strs
import Derived.SizedLaws
import Derived.ChangeSame
import Derived.ChangeSlices
import Derived.ProofKit
import Derived.OpenShut
import Derived.ShutString
import Derived.ChangeOld
import Derived.Below
import Derived.Lib.SmallJoins
import Derived.ChangeMaps5
/-
  law 7: plays (written by RE6.py).
-/
namespace Go.Proofs.Ytofopfjmcbgfjab
theorem plays7_any (HF : FindsOk) (w : World) (T R : Nat → Prop) (g h m : Nat) (s : St7) (Y : World) (k parts stop : Int) (two : Bool) (row cols key : List Int) (rv cv kv : Value) (H : BO w T R g h m s Y) (ho : OpM w Y ⟨k, parts, stop, two, row, cols, key⟩ rv cv kv) (hm : m ≤ 10000000000000) (hc : s.rows.length < 10000000000) :
    Calls Try.prog 8 #[.agg #[.pointer (some ⟨g, 0, none⟩), .pointer (some ⟨h, 0, none⟩)], opv ⟨k, parts, stop, two, row, cols, key⟩ rv cv kv] Y (PyQ w T R g h m (step7 s k row) Y) := by
  by_cases k1 : k = 1
  · exact plays7_1 w T R g h m s Y k parts stop two row cols key rv cv kv H ho hm hc k1
  by_cases k2 : k = 2
  · exact plays7_2 w T R g h m s Y k parts stop two row cols key rv cv kv H ho hm hc k2
  by_cases k3 : k = 3
  · exact plays7_3 w T R g h m s Y k parts stop two row cols key rv cv kv H ho hm hc k3
  by_cases k4 : k = 4
  · exact plays7_4 w T R g h m s Y k parts stop two row cols key rv cv kv H ho hm hc k4
  by_cases k5 : k = 5
  · exact plays7_5 w T R g h m s Y k parts stop two row cols key rv cv kv H ho hm hc k5
  by_cases k6 : k = 6
  · exact plays7_6 HF w T R g h m s Y k parts stop two row cols key rv cv kv H ho hm hc k6
  exact plays7_7 w T R g h m s Y k parts stop two row cols key rv cv kv H ho hm hc k1 k2 k3 k4 k5 k6
end Go.Proofs.Ytofopfjmcbgfjab
/-
  law 7: two pairs of relations; either may be none.
-/
namespace Go.Proofs.Ytofopfjmcbgfjab
open Go.RowKit

/-- A pair as the law holds it: both relations, or none. -/
def BP (w : World) (T R : Nat → Prop) (m : Nat) (v : Value) (s : St7) (Y : World) : Prop :=
  (v = .agg #[.pointer none, .pointer none] ∧ (∀ b, ¬ T b ∧ ¬ R b)) ∨ ∃ g h, v = .agg #[.pointer (some ⟨g, 0, none⟩), .pointer (some ⟨h, 0, none⟩)] ∧ BO w T R g h m s Y
theorem BP.fr {w Y Y' : World} {T R P : Nat → Prop} {m : Nat} {v : Value} {s : St7} (H : BP w T R m v s Y) (hf : Fr P Y Y') (hP : ∀ b, P b → b < Y.heap.size → w.heap.size ≤ b ∧ ¬ T b ∧ ¬ R b) : BP w T R m v s Y' := by
  rcases H with H | ⟨g, h, hv, H⟩
  · exact Or.inl H
  · exact Or.inr ⟨g, h, hv, H.fr hf hP⟩
theorem BP.below {w Y Y' : World} {T R : Nat → Prop} {m : Nat} {v : Value} {s : St7} (H : BP w T R m v s Y) (hb : Below Y.heap.size Y Y') : BP w T R m v s Y' := H.fr (P := fun _ => False) (Fr.of hb) fun _ h => h.elim
theorem BP.t {w Y : World} {T R : Nat → Prop} {m : Nat} {v : Value} {s : St7} (H : BP w T R m v s Y) : ∀ b, T b ∨ R b → w.heap.size ≤ b ∧ b < Y.heap.size := fun b hb => by
  rcases H with ⟨-, H⟩ | ⟨g, h, hv, H⟩
  · exact (hb.elim (H b).1 (H b).2).elim
  · exact hb.elim (H.p.t b) (H.r.t b)
theorem begin7_bp (w Y : World) (hb : Below w.heap.size w Y) (n : Int) (hn : n ≤ 9223372036854775807) : Calls Try.prog 6 #[.int .i64 n] Y fun e Y' => ∃ v T R s, e = .returned (.tuple #[v, .bool true]) ∧ BP w T R 0 v s Y' ∧ s.rows = [] ∧ (∀ b, T b ∨ R b → Y.heap.size ≤ b) ∧ Below Y.heap.size Y Y' := by
  by_cases h0 : n < 0
  · refine (begin7_no Y n h0).mono ?_
    rintro e Y' ⟨rfl, hb'⟩
    exact ⟨_, fun _ => False, fun _ => False, New7 0, rfl, Or.inl ⟨rfl, fun _ => ⟨id, id⟩⟩, rfl, fun b hb => hb.elim False.elim False.elim, hb'⟩
  · obtain ⟨k, rfl⟩ : ∃ k : Nat, n = (k : Int) := ⟨n.toNat, by omega⟩
    refine (begin7_any w Y hb k (by omega)).mono ?_
    rintro e Y' ⟨g, h, T, R, rfl, hbo, ht, hb'⟩
    exact ⟨_, T, R, New7 k, rfl, Or.inr ⟨g, h, rfl, hbo⟩, rfl, ht, hb'⟩
/-- Two pairs, each in blocks of its own. -/
structure TP (w : World) (T1 R1 T2 R2 : Nat → Prop) (m : Nat) (v1 v2 : Value) (s1 s2 : St7) (Y : World) : Prop where
  a : BP w T1 R1 m v1 s1 Y
  b : BP w T2 R2 m v2 s2 Y
  d : ∀ b, T1 b ∨ R1 b → ¬ (T2 b ∨ R2 b)
end Go.Proofs.Ytofopfjmcbgfjab
/-
  law 7: what comes in, opened.
-/
namespace Go.Proofs.Ytofopfjmcbgfjab
open Go.ChangeShapes Go.WideShapes Go.ChangeAt Go.RowKit Go.Joins Go.Deep

theorem bulk7_pos {H : Type} (d : DataW H) : 1 ≤ Rows.uptoBulk d := by
  cases d with
  | lit l => cases l <;> simp [Rows.uptoBulk]
  | _ => simp [Rows.uptoBulk]
theorem bulk7_len {H : Type} (l : List (DataW H)) : l.length ≤ Rows.uptoBulkAll l := by
  induction l with
  | nil => simp
  | cons d r ih => have := bulk7_pos d; simp only [Rows.uptoBulkAll, List.length_cons]; omega
theorem bulk7_slice {H : Type} (l r : List (DataW H)) : l.length ≤ Rows.uptoBulk (.slice l r) := by
  have := bulk7_len l; simp only [Rows.uptoBulk]; omega
theorem bulk7_sum {H : Type} (g : Nat → Nat) (D : Nat → DataW H) : ∀ l : List Nat, (∀ i ∈ l, g i ≤ Rows.uptoBulk (D i)) → (l.map g).sum ≤ Rows.uptoBulkAll (l.map D)
  | [], _ => by simp
  | i :: l, h => by
    have h1 := h i (by simp)
    have h2 := bulk7_sum g D l fun j hj => h j (by simp [hj])
    rw [List.map_cons, List.map_cons, List.sum_cons]
    simp only [Rows.uptoBulkAll]
    omega
theorem Try.cellsInt7 : Try.prog.cellsOf 3 = 1 := by kernel_rfl
theorem Try.cellsInts7 : Try.prog.cellsOf 32 = 1 := by kernel_rfl
theorem Try.cellsIntss7 : Try.prog.cellsOf 48 = 1 := by kernel_rfl
theorem open_li7 {H : Type} {enc : TypeId × Value → H} {W : World} {base fuel : Nat} {spare : Nat → Bool} {held : Bool} {cs : List Value} {x : DataW H × List MemPlace}
    (h : DataW.trod enc Try.prog W base spare held fuel 32 cs = some x) : ∃ v l, cs = [v] ∧ Li Any W v l := by
  rcases open_ints Try.underlying32 Try.underlying3 Try.cellsInt7 h with ⟨rfl, -⟩ | ⟨a, n, c, zs, rfl, -, hl, hcm, hzl, hx, hcell, hwf⟩
  · exact ⟨_, [], rfl, Li.nil _ _⟩
  · have hz : n ≤ zs.length := by rw [hzl]; split <;> omega
    have htl : (zs.take n).length = n := by rw [List.length_take]; omega
    refine ⟨_, zs.take n, rfl, ⟨some a, c, by rw [htl], by omega, by unfold maxLen at hcm; omega, fun m hm => hwf m (List.mem_of_mem_take hm), ?_⟩⟩
    rcases Nat.eq_zero_or_pos n with h0 | h0
    · left; rw [h0]; exact ⟨rfl, fun e => by cases e⟩
    · right
      obtain ⟨b, o, spot⟩ := a
      have c0 := hcell 0 (by omega)
      have hspot : spot = none := by simpa [Addr.add] using World.cell?_spot c0
      subst hspot
      refine ⟨b, o, rfl, World.block_lt_of_cell? W _ c0, trivial, fun i x hi => ?_⟩
      have hil : i < n := by have := (List.getElem?_eq_some_iff.1 hi).1; omega
      have hc := hcell i (by omega)
      rw [Addr.add_mid] at hc
      rw [hc]
      rw [List.getElem?_take_of_lt hil] at hi
      simp [List.getD, hi]
/-- The same with the list's length. -/
theorem open_li8 {H : Type} {enc : TypeId × Value → H} {W : World} {base fuel : Nat} {spare : Nat → Bool} {held : Bool} {cs : List Value} {x : DataW H × List MemPlace}
    (h : DataW.trod enc Try.prog W base spare held fuel 32 cs = some x) : ∃ v l, cs = [v] ∧ Li Any W v l ∧ l.length ≤ Rows.uptoBulk x.1 := by
  obtain ⟨v, l, hcs, hli⟩ := open_li7 h
  refine ⟨v, l, hcs, hli, ?_⟩
  rcases open_ints Try.underlying32 Try.underlying3 Try.cellsInt7 h with ⟨h1, rfl⟩ | ⟨a, n, c, zs, h1, -, hl, hcm, hzl, rfl, hcell, hwf⟩
  · rw [hcs] at h1
    obtain ⟨a', cap, e, -⟩ := hli
    simp [e] at h1
    simp [h1.2.1]
  · rw [hcs] at h1
    obtain ⟨a', cap, e, -⟩ := hli
    simp [e] at h1
    have hz : n ≤ zs.length := by rw [hzl]; split <;> omega
    have h2 := bulk7_slice (H := H) (lits .i64 (zs.take n)) (lits .i64 (zs.drop n))
    have h3 : (lits (H := H) .i64 (zs.take n)).length = n := by unfold lits; rw [List.length_map, List.length_take]; omega
    rw [h3] at h2
    rw [h1.2.1]
    exact h2
/-- A list of things of one cell each, opened. -/
theorem open_list7 {H α : Type} {enc : TypeId × Value → H} {W : World} {base fuel : Nat} {spare : Nat → Bool} {held : Bool} {cs : List Value} {x : DataW H × List MemPlace} {T e : TypeId} (hT : Try.prog.underlying T = some (.slice e)) (hce : Try.prog.cellsOf e = 1)
    (z : α × Value) (Ok : α × Value → Prop) (sz : α → Nat) (hel : ∀ (n : Nat) (cs' : List Value) (y : DataW H × List MemPlace), DataW.trod enc Try.prog W base spare held n e cs' = some y → cs'.length = 1 → ∃ p : α × Value, cs' = [p.2] ∧ Ok p ∧ sz p.1 ≤ Rows.uptoBulk y.1)
    (h : DataW.trod enc Try.prog W base spare held fuel T cs = some x) :
    ∃ (v : Value) (P : List (α × Value)), cs = [v] ∧ (∃ a cap, v = .slice a P.length cap ∧ (P = [] ∨ ∃ b o, a = some ⟨b, o, none⟩ ∧ b < W.heap.size ∧ ∀ (i : Nat) p, P[i]? = some p → W.cell? ⟨b, o + i, none⟩ = some p.2) ∧ ∀ p ∈ P, Ok p) ∧ P.length ≤ Rows.uptoBulk x.1 ∧ (P.map fun p => sz p.1).sum ≤ Rows.uptoBulk x.1 := by
  rcases open_slice hT h with ⟨rfl, -⟩ | ⟨a, len, cap, m, n, D, Pl, rfl, hba, hlc, hcm, hm, hx, hel'⟩
  · exact ⟨_, [], rfl, ⟨none, 0, rfl, Or.inl rfl, fun p hp => by simp at hp⟩, by simp, by simp⟩
  · rw [hce] at hel'
    have hlm : len ≤ m := by rw [hm]; split <;> omega
    have key : ∀ i : Nat, ∃ c : α × Value, i < len → W.cell? (a.add i) = some c.2 ∧ Ok c ∧ sz c.1 ≤ Rows.uptoBulk (D i) := fun i => by
      by_cases hi : i < len
      · obtain ⟨cs', h1, h2⟩ := hel' i (by omega)
        obtain ⟨-, hl, hc⟩ := World.cells?_some h1
        obtain ⟨c, rfl, hok, hbk⟩ := hel n cs' _ h2 hl
        refine ⟨c, fun _ => ⟨?_, hok, hbk⟩⟩
        have := hc 0 (by simp)
        rw [Nat.mul_one] at this
        simpa [Addr.add] using this
      · exact ⟨z, fun h => absurd h hi⟩
    obtain ⟨f, hf⟩ := Classical.axiomOfChoice key
    refine ⟨_, (List.range len).map f, rfl, ⟨some a, cap, by simp, ?_, fun c hc => ?_⟩, by rw [hx]; simpa using bulk7_slice ((List.range len).map D) _, ?_⟩
    · rcases Nat.eq_zero_or_pos len with h0 | h0
      · left; subst h0; rfl
      · right
        obtain ⟨b, off, spot⟩ := a
        have h00 := (hf 0 h0).1
        have hspot : spot = none := by simpa [Addr.add] using World.cell?_spot h00
        subst hspot
        refine ⟨b, off, rfl, World.block_lt_of_cell? W _ (by simpa [Addr.add] using h00), fun i c hc => ?_⟩
        have hi : i < len := by have := (List.getElem?_eq_some_iff.1 hc).1; simpa using this
        have e : c = f i := by
          rw [List.getElem?_map, List.getElem?_range hi] at hc; simpa using hc.symm
        subst e
        have := (hf i hi).1
        rw [add_plain] at this
        exact this
    · obtain ⟨i, hi, rfl⟩ := List.mem_map.1 hc
      exact (hf i (List.mem_range.1 hi)).2.1
    · have h1 := bulk7_sum (fun i => sz (f i).1) D (List.range len) fun i hi => (hf i (List.mem_range.1 hi)).2.2
      rw [List.map_map]
      rw [hx]
      simp only [Rows.uptoBulk]
      have e : (fun p : α × Value => sz p.1) ∘ f = fun i => sz (f i).1 := rfl
      rw [e]
      omega
theorem open_rn7 {H : Type} {enc : TypeId × Value → H} {W : World} {base fuel : Nat} {spare : Nat → Bool} {held : Bool} {cs : List Value} {x : DataW H × List MemPlace}
    (h : DataW.trod enc Try.prog W base spare held fuel 48 cs = some x) : ∃ v P, cs = [v] ∧ Rn7 W v P ∧ P.length ≤ Rows.uptoBulk x.1 := by
  obtain ⟨v, P, h1, h2, h3, -⟩ := open_list7 Try.underlying48 Try.cellsInts7 ([], .slice none 0 0) (fun p : List Int × Value => Li Any W p.2 p.1) (fun _ => 0) (fun n cs' y hy _ => by
    obtain ⟨v, l, e, hl⟩ := open_li7 hy
    exact ⟨(l, v), e, hl, Nat.zero_le _⟩) h
  exact ⟨v, P, h1, h2, h3⟩
end Go.Proofs.Ytofopfjmcbgfjab
/-
  law 7: a script that comes in, opened.
-/
namespace Go.Proofs.Ytofopfjmcbgfjab
open Go.ChangeShapes Go.WideShapes Go.ChangeAt Go.RowKit Go.Joins Go.Deep

theorem Try.cellsOp7 : Try.prog.cellsOf 34 = 7 := by kernel_rfl
theorem Try.cellsBool7 : Try.prog.cellsOf 4 = 1 := by kernel_rfl
/-- A step's numbers and lists. -/
structure Op7 where
  k : Int
  parts : Int
  stop : Int
  two : Bool
  row : List Int
  cols : List Int
  key : List Int
  rv : Value
  cv : Value
  kv : Value
def Op7.cs (o : Op7) : List Value := [.int .i64 o.k, .int .i64 o.parts, .int .i64 o.stop, .bool o.two, o.rv, o.cv, o.kv]
structure Op7.Ok (W : World) (o : Op7) : Prop where
  r : Li Any W o.rv o.row
  c : Li Any W o.cv o.cols
  k : Li Any W o.kv o.key
def Op7.sz (o : Op7) : Nat := o.row.length + o.cols.length + o.key.length
set_option maxRecDepth 100000 in
theorem open_op7 {H : Type} {enc : TypeId × Value → H} {W : World} {base fuel : Nat} {spare : Nat → Bool} {held : Bool} {cs : List Value} {x : DataW H × List MemPlace}
    (h : DataW.trod enc Try.prog W base spare held fuel 34 cs = some x) : ∃ o : Op7, cs = o.cs ∧ o.Ok W ∧ o.sz ≤ Rows.uptoBulk x.1 := by
  obtain ⟨xs, n, e0, rfl, hl, hlen, hf⟩ := DataW.trod_struct Try.underlying34 h
  rw [Try.cellsOp7] at hl
  match xs, hlen with
  | [y0, y1, y2, y3, y4, y5, y6], _ =>
    match cs, hl with
    | [c0, c1, c2, c3, c4, c5, c6], _ =>
      have h0 := hf 0 _ rfl
      have h1 := hf 1 _ rfl
      have h2 := hf 2 _ rfl
      have h3 := hf 3 _ rfl
      have h4 := hf 4 _ rfl
      have h5 := hf 5 _ rfl
      have h6 := hf 6 _ rfl
      simp [Try.cellsInt7, Try.cellsBool7, Try.cellsInts7] at h0 h1 h2 h3 h4 h5 h6
      obtain ⟨k, e0, -, -⟩ := DataW.trod_int Try.underlying3 h0
      obtain ⟨p, e1, -, -⟩ := DataW.trod_int Try.underlying3 h1
      obtain ⟨q, e2, -, -⟩ := DataW.trod_int Try.underlying3 h2
      obtain ⟨b, e3, -⟩ := DataW.trod_bool Try.underlying4 h3
      obtain ⟨rv, r, e4, hr, br⟩ := open_li8 h4
      obtain ⟨cv, c, e5, hc, bc⟩ := open_li8 h5
      obtain ⟨kv, ke, e6, hk, bk⟩ := open_li8 h6
      simp at e0 e1 e2 e3 e4 e5 e6
      subst e0 e1 e2 e3 e4 e5 e6
      exact ⟨⟨k, p, q, b, r, c, ke, _, _, _⟩, rfl, ⟨hr, hc, hk⟩, by simp only [Op7.sz, List.map, Rows.uptoBulk, Rows.uptoBulkAll]; omega⟩
/-- A script, where it lies. -/
def Sc7 (W : World) (v : Value) (Os : List Op7) : Prop := ∃ a cap, v = .slice a Os.length cap ∧ (Os = [] ∨ ∃ b o, a = some ⟨b, o, none⟩ ∧ b < W.heap.size ∧ ∀ (i : Nat) (p : Op7), Os[i]? = some p → ∀ (j : Nat) (c : Value), p.cs[j]? = some c → W.cell? ⟨b, o + (i * 7 + j), none⟩ = some c) ∧ ∀ p ∈ Os, p.Ok W
set_option maxRecDepth 100000 in
theorem open_ops7 {H : Type} {enc : TypeId × Value → H} {W : World} {base fuel : Nat} {spare : Nat → Bool} {held : Bool} {cs : List Value} {x : DataW H × List MemPlace}
    (h : DataW.trod enc Try.prog W base spare held fuel 22 cs = some x) : ∃ v Os, cs = [v] ∧ Sc7 W v Os ∧ Os.length ≤ Rows.uptoBulk x.1 ∧ (Os.map Op7.sz).sum ≤ Rows.uptoBulk x.1 := by
  rcases open_slice Try.underlying22 h with ⟨rfl, -⟩ | ⟨a, len, cap, m, n, D, Pl, rfl, hba, hlc, hcm, hm, hx, hel'⟩
  · exact ⟨_, [], rfl, ⟨none, 0, rfl, Or.inl rfl, fun p hp => by simp at hp⟩, by simp, by simp⟩
  · rw [Try.cellsOp7] at hel'
    have hlm : len ≤ m := by rw [hm]; split <;> omega
    have key : ∀ i : Nat, ∃ p : Op7, i < len → (∀ (j : Nat) (c : Value), p.cs[j]? = some c → W.cell? (a.add (i * 7 + j)) = some c) ∧ p.Ok W ∧ p.sz ≤ Rows.uptoBulk (D i) := fun i => by
      by_cases hi : i < len
      · obtain ⟨cs', h1, h2⟩ := hel' i (by omega)
        obtain ⟨-, hl, hc⟩ := World.cells?_some h1
        obtain ⟨p, rfl, hok, hbk⟩ := open_op7 h2
        refine ⟨p, fun _ => ⟨fun j c hj => ?_, hok, hbk⟩⟩
        have hj7 : j < 7 := (List.getElem?_eq_some_iff.1 hj).1
        have h5 := hc j hj7
        rw [hj] at h5
        by_cases j1 : j = 0
        · by_cases i1 : i = 0
          · simpa [Addr.add, j1, i1] using h5
          · have i2 : ¬ i * 7 = 0 := by omega
            simpa [Addr.add, j1, i1, i2] using h5
        · by_cases i1 : i = 0
          · simpa [Addr.add, j1, i1] using h5
          · have i2 : ¬ i * 7 = 0 := by omega
            simpa [Addr.add, j1, i1, i2, Nat.add_assoc] using h5
      · exact ⟨⟨0, 0, 0, false, [], [], [], .slice none 0 0, .slice none 0 0, .slice none 0 0⟩, fun h => absurd h hi⟩
    obtain ⟨f, hf⟩ := Classical.axiomOfChoice key
    refine ⟨_, (List.range len).map f, rfl, ⟨some a, cap, by simp, ?_, fun c hc => ?_⟩, by rw [hx]; simpa using bulk7_slice ((List.range len).map D) _, ?_⟩
    · rcases Nat.eq_zero_or_pos len with h0 | h0
      · left; subst h0; rfl
      · right
        obtain ⟨b, off, spot⟩ := a
        have h00 := (hf 0 h0).1 0 _ rfl
        have hspot : spot = none := by simpa [Addr.add] using World.cell?_spot h00
        subst hspot
        refine ⟨b, off, rfl, World.block_lt_of_cell? W _ (by simpa [Addr.add] using h00), fun i c hc j u hu => ?_⟩
        have hi : i < len := by have := (List.getElem?_eq_some_iff.1 hc).1; simpa using this
        have e : c = f i := by
          rw [List.getElem?_map, List.getElem?_range hi] at hc; simpa using hc.symm
        subst e
        have := (hf i hi).1 j u hu
        rw [add_plain] at this
        exact this
    · obtain ⟨i, hi, rfl⟩ := List.mem_map.1 hc
      exact (hf i (List.mem_range.1 hi)).2.1
    · have h1 := bulk7_sum (fun i => (f i).sz) D (List.range len) fun i hi => (hf i (List.mem_range.1 hi)).2.2
      rw [List.map_map]
      rw [hx]
      simp only [Rows.uptoBulk]
      have e : Op7.sz ∘ f = fun i => (f i).sz := rfl
      rw [e]
      omega
end Go.Proofs.Ytofopfjmcbgfjab

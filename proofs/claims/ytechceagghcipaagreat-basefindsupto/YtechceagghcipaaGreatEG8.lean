import Derived.Test.YtechceagghcipaaGreatEG4
import Derived.Test.YtechceagghcipaaGreatRows
import Derived.Deep.Slices
import Derived.Deep.Strs
import Derived.SizedLaws
import Derived.ChangeSame
import Derived.ChangeSlices
import Derived.ProofKit
import Derived.OpenShut
import Derived.ShutString
import Derived.ChangeOld
import Derived.Below
import Derived.Lib.SmallJoins
import Derived.ChangeMaps5
/-
  law 8: two bases side by side.
-/
namespace Go.Proofs.YtechceagghcipaaGreat
open Go.RowKit

def sz8 (E : List (At × Int)) : Nat := (E.map fun x => x.1.pl.length).sum
theorem sz8_add (E : List (At × Int)) (f : At) : sz8 (aE8 E f) = if f ∈ E.map Prod.fst then sz8 E else sz8 E + f.pl.length := by
  unfold aE8
  split
  · rfl
  · simp [sz8]
theorem sz8_len (E : List (At × Int)) : E.length ≤ sz8 E := by
  induction E with
  | nil => simp [sz8]
  | cons x E ih =>
    have : 1 ≤ x.1.pl.length := by simp [At.pl]
    simp only [sz8, List.map_cons, List.sum_cons, List.length_cons] at ih ⊢
    omega
theorem sz8_map (E : List (At × Int)) (k : Int → Int) : sz8 (E.map fun x => (x.1, k x.2)) = sz8 E := by simp [sz8, Function.comp_def]
theorem ens8_same {L : List Tm} : ∀ {T : List Tm}, kn8 T L = true → ens8 T L = T := by
  induction L with
  | nil => intro T _; rfl
  | cons t L ih =>
    intro T h
    have h1 : (ix8 T t).isSome = true := by
      simp only [kn8, List.all_cons, Bool.and_eq_true] at h; exact h.1
    have h2 : kn8 T L = true := by
      simp only [kn8, List.all_cons, Bool.and_eq_true] at h; exact h.2
    show ens8 (en8 T t) L = T
    rw [show en8 T t = T from if_pos h1, ih h2]
theorem EL8_kn {T : List Tm} {K : List Pd} {s : Pd → St7} (h : In8 T K s) {f : At} (hf : f ∈ (EL8 T K s).map Prod.fst) : kn8 T f.pl = true := by
  unfold EL8 at hf
  rw [List.map_flatMap] at hf
  obtain ⟨p, hp, hf⟩ := List.mem_flatMap.1 hf
  rw [ep8_fst] at hf
  obtain ⟨r, hr, rfl⟩ := List.mem_map.1 hf
  obtain ⟨n, -, -, -, h4⟩ := h.ar p hp
  exact (h4 r hr).at.2.2.1
end Go.Proofs.YtechceagghcipaaGreat
/-
  law 8: two bases side by side, their calls.
-/
namespace Go.Proofs.YtechceagghcipaaGreat
open Go.RowKit

section
variable {w0 : World} {g h m n : Nat} {X A B : Nat → Prop} {E F : List (At × Int)} {Y Y' : World}
section
variable {tb : Nat}
theorem bp_add_same (h : BP8 w0 A g m tb E Y) (f : At) (x : Value) (hx : TsP Y x f.args) (hf : f.fact = true) (hk : ∀ t ∈ f.pl, KeyT t) (hkp : KeyP f.pd8) (hn : f.args.length ≤ 100000000) (ht : tb + f.pl.length ≤ 1000000000) (hE : E.length < 1000000000) (hm : f ∈ E.map Prod.fst) :
    Calls Tryz.prog 17 #[.pointer (some ⟨g, 0, none⟩), f.v x] Y fun e Y' => e = .returned (.tuple #[.bool false, .int .i64 0]) ∧ BW8 w0 A g m tb E Y Y' := by
  obtain ⟨tv, mn, mr, ga, B, T, K, s, h1, h2, h3, h4, h5⟩ := h
  have hEl := h4.length_eq
  have hKl := K_len h2
  have hwd : f.pl.length = (st8 K s f.pd8 f.args.length).wd := by
    by_cases hp : f.pd8 ∈ K
    · have e : st8 K s f.pd8 f.args.length = s f.pd8 := if_pos hp
      obtain ⟨n, k1, -, k3, -⟩ := h2.ar _ hp
      have enn : n = f.args.length := by have : f.pd8.ar = (f.args.length : Int) := rfl; omega
      rw [e, k3, enn]
      simp [At.pl]
      omega
    · have e : st8 K s f.pd8 f.args.length = New7 (1 + f.args.length) := if_neg hp
      rw [e]
      simp [At.pl, New7]
      omega
  have hc : (st8 K s f.pd8 f.args.length).rows.length < 10000000000 := by
    by_cases hp : f.pd8 ∈ K
    · have e : st8 K s f.pd8 f.args.length = s f.pd8 := if_pos hp
      rw [e]
      have := rows_len h2 hp
      omega
    · have e : st8 K s f.pd8 f.args.length = New7 (1 + f.args.length) := if_neg hp
      rw [e]
      simp [New7]
  refine (badd8_any w0 g tv mn mr ga B m T K s f x Y h1 hx hf hk hkp (by omega) (by omega) hwd hc).mono ?_
  rintro e Y' ⟨rfl, s', ⟨tv', ga', B', k1, k2, k3⟩, k4, k5⟩
  obtain ⟨q1, q2⟩ := add_EL8 h2 f hn (by omega) hc k4 k5
  have e2 : aE8 E f = E := if_pos hm
  have e3 := ens8_same (EL8_kn h2 ((h4.map Prod.fst).mem_iff.1 hm))
  have e4 : decide (nm8 (ens8 T f.pl) f.pl ∉ (st8 K s f.pd8 f.args.length).rows) = false := decide_eq_false fun hc => hc ((add_mem h2 f).2 ((h4.map Prod.fst).mem_iff.1 hm))
  refine ⟨by rw [e4], _, ⟨tv', mn, mr, ga', B', _, _, s', k1, q1, ?_, by have := (aE8_perm h4 f).trans q2.symm; rwa [e2] at this, fun b => Iff.rfl⟩, k2.mono fun b _ hb => (h5 b).2 hb, fun b hb => (k3 b hb).imp (h5 b).2 id⟩
  rw [e3]
  exact h3
end
theorem two_new (Y : World) : Calls Tryz.prog 16 #[] Y fun e Y' => ∃ g A, e = .returned (.pointer (some ⟨g, 0, none⟩)) ∧ BP8 Y A g 0 0 [] Y' := by
  refine (bp_new Y Y (Below.refl _ _)).mono ?_
  rintro e Y' ⟨g, A, rfl, h, -⟩
  exact ⟨g, A, rfl, h⟩
end
theorem AL8.as {V : World} {base : Nat} {fv : Value} {Q : List (At × Nat)} (h : AL8 V base fv Q) (hl : Q.length ≤ 1000000000) : As V fv (Q.map enc8) := by
  refine h.o.a.as (by rw [List.length_map]; omega) fun x hx => ?_
  obtain ⟨y, hy, rfl⟩ := List.mem_map.1 hx
  obtain ⟨k1, -, k3⟩ := h.t y hy
  exact TBlk.ts rfl (by omega) k1
end Go.Proofs.YtechceagghcipaaGreat
/-
  law 8: what comes in, opened. (Written by EG8.py.)
-/
namespace Go.Proofs.YtechceagghcipaaGreat
open Go.ChangeShapes Go.WideShapes Go.ChangeAt Go.RowKit Go.Joins Go.Deep

theorem list3 {α : Type} {l : List α} (h : l.length = 3) : ∃ a b c, l = [a, b, c] := by
  match l, h with
  | [a, b, c], _ => exact ⟨a, b, c, rfl⟩
theorem list5 {α : Type} {l : List α} (h : l.length = 5) : ∃ a b c d e, l = [a, b, c, d, e] := by
  match l, h with
  | [a, b, c, d, e], _ => exact ⟨a, b, c, d, e, rfl⟩
theorem Tryz.cellsInt : Tryz.prog.cellsOf 3 = 1 := by kernel_rfl
theorem Tryz.cellsString : Tryz.prog.cellsOf 9 = 1 := by kernel_rfl
theorem Tryz.cellsTerms : Tryz.prog.cellsOf 32 = 1 := by kernel_rfl
theorem Tryz.cellsAtom : Tryz.prog.cellsOf 34 = 5 := by kernel_rfl
theorem Tryz.bytesTerm : Tryz.prog.bytesOf 31 = 32 := by kernel_rfl
theorem weights_mem_all {H : Type} {P : Program} {e : TypeId} {d : DataW H} {n : Nat} (hn : n ∈ d.weights P e) : ∀ {ds : List (DataW H)}, d ∈ ds → n ∈ DataW.weightsAll P e ds
  | x :: r, h => by
    rw [DataW.weightsAll, List.mem_append]
    rcases List.mem_cons.1 h with rfl | h
    · exact Or.inl hn
    · exact Or.inr (weights_mem_all hn h)
theorem bulkN_pos {H : Type} (d : DataW H) : 1 ≤ Rows.uptoBulk d := by
  cases d with
  | lit l => cases l <;> simp [Rows.uptoBulk]
  | _ => simp [Rows.uptoBulk]
theorem bulkN_len {H : Type} (l : List (DataW H)) : l.length ≤ Rows.uptoBulkAll l := by
  induction l with
  | nil => simp
  | cons d r ih => have := bulkN_pos d; simp only [Rows.uptoBulkAll, List.length_cons]; omega
theorem bulkN_slice {H : Type} (l r : List (DataW H)) : l.length ≤ Rows.uptoBulk (.slice l r) := by
  have := bulkN_len l; simp only [Rows.uptoBulk]; omega
theorem bulk7_pos {H : Type} (d : DataW H) : 1 ≤ Rows.uptoBulk d := by
  cases d with
  | lit l => cases l <;> simp [Rows.uptoBulk]
  | _ => simp [Rows.uptoBulk]
theorem bulk7_len {H : Type} (l : List (DataW H)) : l.length ≤ Rows.uptoBulkAll l := by
  induction l with
  | nil => simp
  | cons d r ih => have := bulk7_pos d; simp only [Rows.uptoBulkAll, List.length_cons]; omega
theorem bulk7_slice {H : Type} (l r : List (DataW H)) : l.length ≤ Rows.uptoBulk (.slice l r) := by
  have := bulk7_len l; simp only [Rows.uptoBulk]; omega
theorem bulk7_sum {H : Type} (g : Nat → Nat) (D : Nat → DataW H) : ∀ l : List Nat, (∀ i ∈ l, g i ≤ Rows.uptoBulk (D i)) → (l.map g).sum ≤ Rows.uptoBulkAll (l.map D)
  | [], _ => by simp
  | i :: l, h => by
    have h1 := h i (by simp)
    have h2 := bulk7_sum g D l fun j hj => h j (by simp [hj])
    rw [List.map_cons, List.map_cons, List.sum_cons]
    simp only [Rows.uptoBulkAll]
    omega
theorem Tryz.cellsInt7 : Tryz.prog.cellsOf 3 = 1 := by kernel_rfl
theorem term_of_cellsY {H : Type} {enc : TypeId × Value → H} {W : World} {base : Nat} {spare : Nat → Bool} {held : Bool} {fuel : Nat} {cs : List Value} {x : DataW H × List MemPlace}
    (h : DataW.trod enc Tryz.prog W base spare held fuel 31 cs = some x) (hl : cs.length = 3) : ∃ t : Tm, cs = [.int .i64 t.k, .int .i64 t.n, .string t.s] ∧ KeyT t := by
  obtain ⟨c0, c1, c2, rfl⟩ := list3 hl
  obtain ⟨y0, y1, y2, n, -, -, h0, h1, h2⟩ := trod_struct3 Tryz.underlying31 h
  rw [Tryz.cellsInt] at h0 h1
  rw [Tryz.cellsString] at h2
  obtain ⟨k, e0, -, hwk⟩ := DataW.trod_int Tryz.underlying3 h0
  obtain ⟨m, e1, -, hwn⟩ := DataW.trod_int Tryz.underlying3 h1
  obtain ⟨s, e2, -, hwf⟩ := DataW.trod_string Tryz.underlying9 h2
  simp at e0 e1 e2
  subst e0 e1 e2
  exact ⟨⟨k, m, s⟩, rfl, hwk, hwn, hwf⟩
set_option maxRecDepth 100000 in
theorem open_termsY {H : Type} {enc : TypeId × Value → H} {W : World} {base : Nat} {spare : Nat → Bool} {held : Bool} {fuel : Nat} {cs : List Value} {x : DataW H × List MemPlace}
    (h : DataW.trod enc Tryz.prog W base spare held fuel 32 cs = some x) (hw : ∀ n ∈ x.1.weights Tryz.prog 32, n ≤ reachBytes) : ∃ v l, cs = [v] ∧ (Ts W v l ∧ TsP W v l) ∧ l.length ≤ Rows.uptoBulk x.1 ∧ ∀ t ∈ l, KeyT t := by
  rcases open_slice Tryz.underlying32 h with ⟨rfl, -⟩ | ⟨a, len, cap, m, n, D, Pl, rfl, hba, hlc, hcm, hm, hx, hel⟩
  · exact ⟨_, [], rfl, ⟨⟨none, 0, rfl, by simp, Or.inl rfl⟩, Or.inl ⟨rfl, rfl⟩⟩, by simp, fun t ht => by cases ht⟩
  · have hlen : len < 1000000000000000000 := by
      have := hw ((((List.range len).map D).length + ((List.range (m - len)).map fun j => D (len + j)).length) * Tryz.prog.bytesOf 31) (by rw [hx]; simp [DataW.weights, Tryz.underlying32])
      rw [Tryz.bytesTerm] at this
      simp only [List.length_map, List.length_range, reachBytes] at this
      omega
    rw [Tryz.cellsTerm] at hel
    have hlm : len ≤ m := by rw [hm]; split <;> omega
    have key : ∀ i : Nat, ∃ t : Tm, i < len → KeyT t ∧ W.cell? (a.add (i * 3)) = some (.int .i64 t.k) ∧ W.cell? ((a.add (i * 3)).add 1) = some (.int .i64 t.n) ∧ W.cell? ((a.add (i * 3)).add 2) = some (.string t.s) := fun i => by
      by_cases hi : i < len
      · obtain ⟨cs', h1, h2⟩ := hel i (by omega)
        obtain ⟨-, hl, hc⟩ := World.cells?_some h1
        obtain ⟨t, rfl, hwf⟩ := term_of_cellsY h2 hl
        exact ⟨t, fun _ => ⟨hwf, hc 0 (by omega), hc 1 (by omega), hc 2 (by omega)⟩⟩
      · exact ⟨zt, fun h => absurd h hi⟩
    obtain ⟨f, hf⟩ := Classical.axiomOfChoice key
    have hgo : (List.range len).map f = [] ∨ ∃ b o, a = ⟨b, o, none⟩ ∧ TRow W b o ((List.range len).map f) := by
      rcases Nat.eq_zero_or_pos len with h0 | h0
      · left; subst h0; rfl
      · right
        obtain ⟨b, off, spot⟩ := a
        have hspot : spot = none := by simpa [Addr.add] using World.cell?_spot (hf 0 h0).2.1
        subst hspot
        refine ⟨b, off, rfl, ?_, fun i t ht => ?_⟩
        · exact World.block_lt_of_cell? W _ (by have := (hf 0 h0).2.1; simpa [Addr.add] using this)
        · have hi : i < len := by have := (List.getElem?_eq_some_iff.1 ht).1; simpa using this
          have e : t = f i := by
            rw [List.getElem?_map, List.getElem?_range hi] at ht; simpa using ht.symm
          subst e
          have := (hf i hi).2
          rw [add_plain, add_plain, add_plain] at this
          exact this
    refine ⟨_, (List.range len).map f, rfl, ⟨⟨some a, cap, by simp, by simpa using hlen, ?_⟩, Or.inr ⟨a, cap, by simp, hgo⟩⟩, by rw [hx]; simpa using bulkN_slice ((List.range len).map D) _, fun t ht => by obtain ⟨i, hi, rfl⟩ := List.mem_map.1 ht; exact (hf i (List.mem_range.1 hi)).1⟩
    rcases hgo with hq | ⟨b, o, rfl, hq⟩
    · exact Or.inl hq
    · exact Or.inr ⟨b, o, rfl, hq⟩
set_option maxRecDepth 100000 in
theorem atom_of_cellsY {H : Type} {enc : TypeId × Value → H} {W : World} {base : Nat} {spare : Nat → Bool} {held : Bool} {fuel : Nat} {cs : List Value} {x : DataW H × List MemPlace}
    (hf : DataW.trod enc Tryz.prog W base spare held fuel 34 cs = some x) (hl : cs.length = 5) (hw : ∀ n ∈ x.1.weights Tryz.prog 34, n ≤ reachBytes) : ∃ a : At × Value, cs = [.int .i64 a.1.by_.k, .int .i64 a.1.by_.n, .string a.1.by_.s, .string a.1.name, a.2] ∧ (Ts W a.2 a.1.args ∧ TsP W a.2 a.1.args) ∧ a.1.pl.length ≤ Rows.uptoBulk x.1 ∧ (∀ t ∈ a.1.pl, KeyT t) ∧ a.1.name.size ≤ maxLen := by
  obtain ⟨c0, c1, c2, c3, c4, rfl⟩ := list5 hl
  obtain ⟨y0, y1, y2, n, hd, -, h0, h1, h2⟩ := trod_struct3 Tryz.underlying34 hf
  rw [Tryz.cellsTerm] at h0
  rw [Tryz.cellsString] at h1
  rw [Tryz.cellsTerms] at h2
  obtain ⟨t, e0, ht⟩ := term_of_cellsY h0 (by simp)
  obtain ⟨s, e1, -, hs⟩ := DataW.trod_string Tryz.underlying9 h1
  obtain ⟨v, l, e2, hx, hbk, hwl⟩ := open_termsY h2 (fun m hm => by
    refine hw m ?_
    rw [hd, DataW.weights, Tryz.underlying34]
    exact DataW.weights_mem_each (j := 2) rfl rfl m hm)
  simp at e0 e1 e2
  obtain ⟨rfl, rfl, rfl⟩ := e0
  subst e1 e2
  refine ⟨(⟨t, s, l⟩, c4), rfl, hx, ?_, fun u hu => ?_, hs⟩
  · rw [hd]
    have := bulkN_pos y0.1
    simp only [Rows.uptoBulk, Rows.uptoBulkAll, At.pl, List.length_cons]
    omega
  · rcases List.mem_cons.1 hu with rfl | hu
    · exact ht
    · exact hwl u hu
theorem pd8_key {a : At} (h : a.name.size ≤ maxLen) (hl : a.args.length ≤ 1000000000) : KeyP a.pd8 := ⟨h, wfI8 (by show _ ≤ (a.args.length : Int); omega) (by show (a.args.length : Int) ≤ _; omega)⟩
end Go.Proofs.YtechceagghcipaaGreat

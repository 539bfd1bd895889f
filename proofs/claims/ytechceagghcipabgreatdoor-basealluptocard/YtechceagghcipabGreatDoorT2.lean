import Derived.Test.YtechceagghcipabGreatDoorRows
import Derived.Deep.Slices
import Derived.Deep.Strs
import Derived.SizedLaws
import Derived.ChangeSame
import Derived.ChangeSlices
import Derived.ProofKit
import Derived.OpenShut
import Derived.ShutString
import Derived.ChangeOld
import Derived.Below
import Derived.Lib.SmallJoins
import Derived.ChangeMaps5
import Derived.Test.YtechceagghcipabGreatDoorEJ1
import Derived.Test.YtechceagghcipabGreatDoorB4
import Derived.Test.YtechceagghcipabGreatDoorA1
import Derived.Test.YtechceagghcipabGreatDoorW2
namespace Go.Proofs.YtechceagghcipabGreatDoor
open Go.ChangeShapes Go.WideShapes Go.ChangeAt Go.RowKit Go.Joins Go.Deep
theorem list3 {α : Type} {l : List α} (h : l.length = 3) : ∃ a b c, l = [a, b, c] := by
 match l, h with
 | [a, b, c], _ => exact ⟨a, b, c, rfl⟩
theorem list5 {α : Type} {l : List α} (h : l.length = 5) : ∃ a b c d e, l = [a, b, c, d, e] := by
 match l, h with
 | [a, b, c, d, e], _ => exact ⟨a, b, c, d, e, rfl⟩
theorem Tryz.cellsInt : Tryz.prog.cellsOf 3 = 1 := by kernel_rfl
theorem Tryz.cellsString : Tryz.prog.cellsOf 9 = 1 := by kernel_rfl
theorem Tryz.cellsTerms : Tryz.prog.cellsOf 31 = 1 := by kernel_rfl
theorem Tryz.cellsAtom : Tryz.prog.cellsOf 33 = 5 := by kernel_rfl
theorem Tryz.bytesTerm : Tryz.prog.bytesOf 30 = 32 := by kernel_rfl
theorem weights_mem_all {H : Type} {P : Program} {e : TypeId} {d : DataW H} {n : Nat} (hn : n ∈ d.weights P e) : ∀ {ds : List (DataW H)}, d ∈ ds -> n ∈ DataW.weightsAll P e ds
 | x :: r, h => by
  rw [DataW.weightsAll, List.mem_append]
  rcases List.mem_cons.1 h with rfl | h
  ·exact Or.inl hn
  ·exact Or.inr (weights_mem_all hn h)
theorem bulkN_pos {H : Type} (d : DataW H) : 1 <= Rows.uptoBulk d := by
 cases d with
 | lit l => cases l <;> simp [Rows.uptoBulk]
 | _ => simp [Rows.uptoBulk]
theorem bulkN_len {H : Type} (l : List (DataW H)) : l.length <= Rows.uptoBulkAll l := by
 induction l with
 | nil => simp
 | cons d r ih => have := bulkN_pos d; simp only [Rows.uptoBulkAll, List.length_cons]; omega
theorem bulkN_slice {H : Type} (l r : List (DataW H)) : l.length <= Rows.uptoBulk (.slice l r) := by
 have := bulkN_len l; simp only [Rows.uptoBulk]; omega
theorem bulk7_pos {H : Type} (d : DataW H) : 1 <= Rows.uptoBulk d := by
 cases d with
 | lit l => cases l <;> simp [Rows.uptoBulk]
 | _ => simp [Rows.uptoBulk]
theorem bulk7_len {H : Type} (l : List (DataW H)) : l.length <= Rows.uptoBulkAll l := by
 induction l with
 | nil => simp
 | cons d r ih => have := bulk7_pos d; simp only [Rows.uptoBulkAll, List.length_cons]; omega
theorem bulk7_slice {H : Type} (l r : List (DataW H)) : l.length <= Rows.uptoBulk (.slice l r) := by
 have := bulk7_len l; simp only [Rows.uptoBulk]; omega
theorem bulk7_sum {H : Type} (g : Nat -> Nat) (D : Nat -> DataW H) : ∀ l : List Nat, (∀ i ∈ l, g i <= Rows.uptoBulk (D i)) -> (l.map g).sum <= Rows.uptoBulkAll (l.map D)
 | [], _ => by simp
 | i :: l, h => by
  have h1 := h i (by simp)
  have h2 := bulk7_sum g D l fun j hj => h j (by simp [hj])
  rw [List.map_cons, List.map_cons, List.sum_cons]
  simp only [Rows.uptoBulkAll]
  omega
theorem Tryz.cellsInt7 : Tryz.prog.cellsOf 3 = 1 := by kernel_rfl
theorem term_of_cellsY {H : Type} {enc : TypeId × Value -> H} {W : World} {base : Nat} {spare : Nat -> Bool} {held : Bool} {fuel : Nat} {cs : List Value} {x : DataW H × List MemPlace}
  (h : DataW.trod enc Tryz.prog W base spare held fuel 30 cs = some x) (hl : cs.length = 3) : ∃ t : Tm, cs = [.int .i64 t.k, .int .i64 t.n, .string t.s] /\ KeyT t := by
 obtain ⟨c0, c1, c2, rfl⟩ := list3 hl
 obtain ⟨y0, y1, y2, n, -, -, h0, h1, h2⟩ := trod_struct3 Tryz.underlying30 h
 rw [Tryz.cellsInt] at h0 h1
 rw [Tryz.cellsString] at h2
 obtain ⟨k, e0, -, hwk⟩ := DataW.trod_int Tryz.underlying3 h0
 obtain ⟨m, e1, -, hwn⟩ := DataW.trod_int Tryz.underlying3 h1
 obtain ⟨s, e2, -, hwf⟩ := DataW.trod_string Tryz.underlying9 h2
 simp at e0 e1 e2
 subst e0 e1 e2
 exact ⟨⟨k, m, s⟩, rfl, hwk, hwn, hwf⟩
set_option maxRecDepth 100000 in
theorem open_termsY {H : Type} {enc : TypeId × Value -> H} {W : World} {base : Nat} {spare : Nat -> Bool} {held : Bool} {fuel : Nat} {cs : List Value} {x : DataW H × List MemPlace}
  (h : DataW.trod enc Tryz.prog W base spare held fuel 31 cs = some x) (hw : ∀ n ∈ x.1.weights Tryz.prog 31, n <= reachBytes) : ∃ v l, cs = [v] /\ (Ts W v l /\ TsP W v l) /\ l.length <= Rows.uptoBulk x.1 /\ ∀ t ∈ l, KeyT t := by
 rcases open_slice Tryz.underlying31 h with ⟨rfl, -⟩ | ⟨a, len, cap, m, n, D, Pl, rfl, hba, hlc, hcm, hm, hx, hel⟩
 ·exact ⟨_, [], rfl, ⟨⟨none, 0, rfl, by simp, Or.inl rfl⟩, Or.inl ⟨rfl, rfl⟩⟩, by simp, fun t ht => by cases ht⟩
 ·have hlen : len < 1000000000000000000 := by
   have := hw ((((List.range len).map D).length + ((List.range (m - len)).map fun j => D (len + j)).length) * Tryz.prog.bytesOf 30) (by rw [hx]; simp [DataW.weights, Tryz.underlying31])
   rw [Tryz.bytesTerm] at this
   simp only [List.length_map, List.length_range, reachBytes] at this
   omega
  rw [Tryz.cellsTerm] at hel
  have hlm : len <= m := by rw [hm]; split <;> omega
  have key : ∀ i : Nat, ∃ t : Tm, i < len -> KeyT t /\ W.cell? (a.add (i * 3)) = some (.int .i64 t.k) /\ W.cell? ((a.add (i * 3)).add 1) = some (.int .i64 t.n) /\ W.cell? ((a.add (i * 3)).add 2) = some (.string t.s) := fun i => by
   by_cases hi : i < len
   ·obtain ⟨cs', h1, h2⟩ := hel i (by omega)
    obtain ⟨-, hl, hc⟩ := World.cells?_some h1
    obtain ⟨t, rfl, hwf⟩ := term_of_cellsY h2 hl
    exact ⟨t, fun _ => ⟨hwf, hc 0 (by omega), hc 1 (by omega), hc 2 (by omega)⟩⟩
   ·exact ⟨zt, fun h => absurd h hi⟩
  obtain ⟨f, hf⟩ := Classical.axiomOfChoice key
  have hgo : (List.range len).map f = [] ∨ ∃ b o, a = ⟨b, o, none⟩ /\ TRow W b o ((List.range len).map f) := by
   rcases Nat.eq_zero_or_pos len with h0 | h0
   ·left; subst h0; rfl
   ·right
    obtain ⟨b, off, spot⟩ := a
    have hspot : spot = none := by simpa [Addr.add] using World.cell?_spot (hf 0 h0).2.1
    subst hspot
    refine ⟨b, off, rfl, ?_, fun i t ht => ?_⟩
    ·exact World.block_lt_of_cell? W _ (by have := (hf 0 h0).2.1; simpa [Addr.add] using this)
    ·have hi : i < len := by have := (List.getElem?_eq_some_iff.1 ht).1; simpa using this
     have e : t = f i := by
      rw [List.getElem?_map, List.getElem?_range hi] at ht; simpa using ht.symm
     subst e
     have := (hf i hi).2
     rw [add_plain, add_plain, add_plain] at this
     exact this
  refine ⟨_, (List.range len).map f, rfl, ⟨⟨some a, cap, by simp, by simpa using hlen, ?_⟩, Or.inr ⟨a, cap, by simp, hgo⟩⟩, by rw [hx]; simpa using bulkN_slice ((List.range len).map D) _, fun t ht => by obtain ⟨i, hi, rfl⟩ := List.mem_map.1 ht; exact (hf i (List.mem_range.1 hi)).1⟩
  rcases hgo with hq | ⟨b, o, rfl, hq⟩
  ·exact Or.inl hq
  ·exact Or.inr ⟨b, o, rfl, hq⟩
set_option maxRecDepth 100000 in
theorem atom_of_cellsY {H : Type} {enc : TypeId × Value -> H} {W : World} {base : Nat} {spare : Nat -> Bool} {held : Bool} {fuel : Nat} {cs : List Value} {x : DataW H × List MemPlace}
  (hf : DataW.trod enc Tryz.prog W base spare held fuel 33 cs = some x) (hl : cs.length = 5) (hw : ∀ n ∈ x.1.weights Tryz.prog 33, n <= reachBytes) : ∃ a : At × Value, cs = [.int .i64 a.1.by_.k, .int .i64 a.1.by_.n, .string a.1.by_.s, .string a.1.name, a.2] /\ (Ts W a.2 a.1.args /\ TsP W a.2 a.1.args) /\ a.1.pl.length <= Rows.uptoBulk x.1 /\ (∀ t ∈ a.1.pl, KeyT t) /\ a.1.name.size <= maxLen := by
 obtain ⟨c0, c1, c2, c3, c4, rfl⟩ := list5 hl
 obtain ⟨y0, y1, y2, n, hd, -, h0, h1, h2⟩ := trod_struct3 Tryz.underlying33 hf
 rw [Tryz.cellsTerm] at h0
 rw [Tryz.cellsString] at h1
 rw [Tryz.cellsTerms] at h2
 obtain ⟨t, e0, ht⟩ := term_of_cellsY h0 (by simp)
 obtain ⟨s, e1, -, hs⟩ := DataW.trod_string Tryz.underlying9 h1
 obtain ⟨v, l, e2, hx, hbk, hwl⟩ := open_termsY h2 (fun m hm => by
  refine hw m ?_
  rw [hd, DataW.weights, Tryz.underlying33]
  exact DataW.weights_mem_each (j := 2) rfl rfl m hm)
 simp at e0 e1 e2
 obtain ⟨rfl, rfl, rfl⟩ := e0
 subst e1 e2
 refine ⟨(⟨t, s, l⟩, c4), rfl, hx, ?_, fun u hu => ?_, hs⟩
 ·rw [hd]
  have := bulkN_pos y0.1
  simp only [Rows.uptoBulk, Rows.uptoBulkAll, At.pl, List.length_cons]
  omega
 ·rcases List.mem_cons.1 hu with rfl | hu
  ·exact ht
  ·exact hwl u hu
theorem pd8_key {a : At} (h : a.name.size <= maxLen) (hl : a.args.length <= 1000000000) : KeyP a.pd8 := ⟨h, wfI8 (by show _ <= (a.args.length : Int); omega) (by show (a.args.length : Int) <= _; omega)⟩
end Go.Proofs.YtechceagghcipabGreatDoor
namespace Go.Proofs.YtechceagghcipabGreatDoor
open Go.ChangeShapes Go.WideShapes Go.ChangeAt Go.RowKit Go.Joins Go.Deep
theorem Tryz.cellsOp8 : Tryz.prog.cellsOf 35 = 8 := by kernel_rfl
theorem Tryz.cellsBool8 : Tryz.prog.cellsOf 4 = 1 := by kernel_rfl
structure Op8 where
 k : Int
 a : At × Value
 n : Int
 two : Bool
def Op8.cs (o : Op8) : List Value := [.int .i64 o.k, .int .i64 o.a.1.by_.k, .int .i64 o.a.1.by_.n, .string o.a.1.by_.s, .string o.a.1.name, o.a.2, .int .i64 o.n, .bool o.two]
structure Op8.Ok (W : World) (o : Op8) : Prop where
 ts : TsP W o.a.2 o.a.1.args
 k : ∀ t ∈ o.a.1.pl, KeyT t
 nm : o.a.1.name.size <= maxLen
def Op8.sz (o : Op8) : Nat := o.a.1.pl.length
set_option maxRecDepth 100000 in
theorem open_op8 {H : Type} {enc : TypeId × Value -> H} {W : World} {base fuel : Nat} {spare : Nat -> Bool} {held : Bool} {cs : List Value} {x : DataW H × List MemPlace}
  (h : DataW.trod enc Tryz.prog W base spare held fuel 35 cs = some x) (hw : ∀ n ∈ x.1.weights Tryz.prog 35, n <= reachBytes) : ∃ o : Op8, cs = o.cs /\ o.Ok W /\ o.sz <= Rows.uptoBulk x.1 := by
 obtain ⟨xs, n, e0, hd, hl, hlen, hf⟩ := DataW.trod_struct Tryz.underlying35 h
 rw [Tryz.cellsOp8] at hl
 match xs, hlen with
 | [y0, y1, y2, y3], _ =>
  match cs, hl with
  | [c0, c1, c2, c3, c4, c5, c6, c7], _ =>
   have h0 := hf 0 _ rfl
   have h1 := hf 1 _ rfl
   have h2 := hf 2 _ rfl
   have h3 := hf 3 _ rfl
   simp [Tryz.cellsInt7, Tryz.cellsBool8, Tryz.cellsAtom] at h0 h1 h2 h3
   obtain ⟨k, e0, -, -⟩ := DataW.trod_int Tryz.underlying3 h0
   obtain ⟨a, e1, ⟨-, k1⟩, k2, k3, k4⟩ := atom_of_cellsY h1 (by simp) (fun m hm => by
    refine hw m ?_
    rw [hd, DataW.weights, Tryz.underlying35]
    exact DataW.weights_mem_each (j := 1) rfl rfl m hm)
   obtain ⟨p, e2, -, -⟩ := DataW.trod_int Tryz.underlying3 h2
   obtain ⟨b, e3, -⟩ := DataW.trod_bool Tryz.underlying4 h3
   simp at e0 e1 e2 e3
   obtain ⟨rfl, rfl, rfl, rfl, rfl⟩ := e1
   subst e0 e2 e3
   refine ⟨⟨k, a, p, b⟩, rfl, ⟨k1, k3, k4⟩, ?_⟩
   rw [hd]
   simp only [Op8.sz, List.map, Rows.uptoBulk, Rows.uptoBulkAll]
   omega
def Sc8 (W : World) (v : Value) (Os : List Op8) : Prop := ∃ a cap, v = .slice a Os.length cap /\ (Os = [] ∨ ∃ b o, a = some ⟨b, o, none⟩ /\ b < W.heap.size /\ ∀ (i : Nat) (p : Op8), Os[i]? = some p -> ∀ (j : Nat) (c : Value), p.cs[j]? = some c -> W.cell? ⟨b, o + (i * 8 + j), none⟩ = some c) /\ ∀ p ∈ Os, p.Ok W
set_option maxRecDepth 100000 in
theorem open_ops8 {H : Type} {enc : TypeId × Value -> H} {W : World} {base fuel : Nat} {spare : Nat -> Bool} {held : Bool} {cs : List Value} {x : DataW H × List MemPlace}
  (h : DataW.trod enc Tryz.prog W base spare held fuel 22 cs = some x) (hw : ∀ n ∈ x.1.weights Tryz.prog 22, n <= reachBytes) : ∃ v Os, cs = [v] /\ Sc8 W v Os /\ Os.length <= Rows.uptoBulk x.1 /\ (Os.map Op8.sz).sum <= Rows.uptoBulk x.1 := by
 rcases open_slice Tryz.underlying22 h with ⟨rfl, -⟩ | ⟨a, len, cap, m, n, D, Pl, rfl, hba, hlc, hcm, hm, hx, hel'⟩
 ·exact ⟨_, [], rfl, ⟨none, 0, rfl, Or.inl rfl, fun p hp => by simp at hp⟩, by simp, by simp⟩
 ·rw [Tryz.cellsOp8] at hel'
  have hlm : len <= m := by rw [hm]; split <;> omega
  have key : ∀ i : Nat, ∃ p : Op8, i < len -> (∀ (j : Nat) (c : Value), p.cs[j]? = some c -> W.cell? (a.add (i * 8 + j)) = some c) /\ p.Ok W /\ p.sz <= Rows.uptoBulk (D i) := fun i => by
   by_cases hi : i < len
   ·obtain ⟨cs', h1, h2⟩ := hel' i (by omega)
    obtain ⟨-, hl, hc⟩ := World.cells?_some h1
    obtain ⟨p, rfl, hok, hbk⟩ := open_op8 h2 (fun m hm => hw m (by
     rw [hx, DataW.weights, Tryz.underlying22]
     exact List.mem_cons_of_mem _ (List.mem_append.2 (Or.inl (weights_mem_all hm (List.mem_map.2 ⟨i, List.mem_range.2 hi, rfl⟩))))))
    refine ⟨p, fun _ => ⟨fun j c hj => ?_, hok, hbk⟩⟩
    have hj8 : j < 8 := (List.getElem?_eq_some_iff.1 hj).1
    have h5 := hc j hj8
    rw [hj] at h5
    by_cases j1 : j = 0
    ·by_cases i1 : i = 0
     ·simpa [Addr.add, j1, i1] using h5
     ·have i2 : ¬ i * 8 = 0 := by omega
      simpa [Addr.add, j1, i1, i2] using h5
    ·by_cases i1 : i = 0
     ·simpa [Addr.add, j1, i1] using h5
     ·have i2 : ¬ i * 8 = 0 := by omega
      simpa [Addr.add, j1, i1, i2, Nat.add_assoc] using h5
   ·exact ⟨⟨0, (⟨zt, ⟨#[]⟩, []⟩, .slice none 0 0), 0, false⟩, fun h => absurd h hi⟩
  obtain ⟨f, hf⟩ := Classical.axiomOfChoice key
  refine ⟨_, (List.range len).map f, rfl, ⟨some a, cap, by simp, ?_, fun c hc => ?_⟩, by rw [hx]; simpa using bulk7_slice ((List.range len).map D) _, ?_⟩
  ·rcases Nat.eq_zero_or_pos len with h0 | h0
   ·left; subst h0; rfl
   ·right
    obtain ⟨b, off, spot⟩ := a
    have h00 := (hf 0 h0).1 0 _ rfl
    have hspot : spot = none := by simpa [Addr.add] using World.cell?_spot h00
    subst hspot
    refine ⟨b, off, rfl, World.block_lt_of_cell? W _ (by simpa [Addr.add] using h00), fun i c hc j u hu => ?_⟩
    have hi : i < len := by have := (List.getElem?_eq_some_iff.1 hc).1; simpa using this
    have e : c = f i := by
     rw [List.getElem?_map, List.getElem?_range hi] at hc; simpa using hc.symm
    subst e
    have := (hf i hi).1 j u hu
    rw [add_plain] at this
    exact this
  ·obtain ⟨i, hi, rfl⟩ := List.mem_map.1 hc
   exact (hf i (List.mem_range.1 hi)).2.1
  ·have h1 := bulk7_sum (fun i => (f i).sz) D (List.range len) fun i hi => (hf i (List.mem_range.1 hi)).2.2
   rw [List.map_map]
   rw [hx]
   simp only [Rows.uptoBulk]
   have e : Op8.sz ∘ f = fun i => (f i).sz := rfl
   rw [e]
   omega
end Go.Proofs.YtechceagghcipabGreatDoor
namespace Go.Proofs.YtechceagghcipabGreatDoor
open Go.RowKit
attribute [local go_sem ↓] Go.wp_at_zero Go.wp_at_succ
def Kd8 (l : List It8) : Prop := ∀ x ∈ l, (∀ t ∈ x.1.1.pl, KeyT t) /\ KeyP x.1.1.pd8
def zo8 (Os : List Op8) : Nat := (Os.map Op8.sz).sum
theorem zo8_take (P : List Op8) (j : Nat) (p) (h : P[j]? = some p) : zo8 (P.take (j + 1)) = zo8 (P.take j) + p.a.1.pl.length := by
 unfold zo8
 rw [List.take_add_one, h, List.map_append, List.sum_append]
 simp [Op8.sz]
theorem zo8_le (P : List Op8) (j : Nat) : zo8 (P.take j) <= zo8 P := by
 have : zo8 P = zo8 (P.take j) + zo8 (P.drop j) := by
  unfold zo8
  rw [<- List.sum_append, <- List.map_append, List.take_append_drop]
 omega
end Go.Proofs.YtechceagghcipabGreatDoor
namespace Go.Proofs.YtechceagghcipabGreatDoor
open Go.RowKit
def pc8 (l : List It8) (parts : Int) (k : Nat) : Nat := ((Ei (l.take k)).filter fun x => hp7 parts x.2).length
theorem pc8_step {l : List It8} {parts : Int} {k : Nat} {x : It8} (h : l[k]? = some x) : pc8 l parts (k + 1) = pc8 l parts k + if hp7 parts x.2 = true then 1 else 0 := by
 unfold pc8
 rw [List.take_add_one, h, Ei_app, List.filter_append, List.length_append]
 congr 1
 by_cases hp : hp7 parts x.2 = true
 ·simp [Ei, hp]
 ·have : hp7 parts x.2 = false := by simpa using hp
  simp [Ei, this]
theorem Ei_mem {l : List It8} {k : Nat} {x : It8} (h : l[k]? = some x) : (x.1.1, x.2) ∈ Ei l := List.mem_map.2 ⟨x, List.mem_of_getElem? h, rfl⟩
instance decPd8 : DecidableEq Pd := fun p q => decidable_of_iff (p.nm = q.nm /\ p.ar = q.ar) ⟨fun h => Pd.ext' h.1 h.2, fun h => by subst h; exact ⟨rfl, rfl⟩⟩
theorem nodup_len8 {α : Type} [DecidableEq α] : ∀ (l m : List α), l.Nodup -> (∀ u ∈ l, u ∈ m) -> l.length <= m.length := by
 intro l
 induction l with
 | nil => intro m _ _; exact Nat.zero_le _
 | cons a l ih =>
  intro m h hs
  rw [List.nodup_cons] at h
  have hm : a ∈ m := hs a List.mem_cons_self
  have := ih (m.erase a) h.2 fun u hu => (List.mem_erase_of_ne (a := u) (b := a) (fun e => h.1 (by rw [<- e]; exact hu))).2 (hs u (List.mem_cons_of_mem _ hu))
  rw [List.length_erase_of_mem hm] at this
  have := List.length_pos_of_mem hm
  rw [List.length_cons]
  omega
end Go.Proofs.YtechceagghcipabGreatDoor
namespace Go.Proofs.YtechceagghcipabGreatDoor
open Go.RowKit
set_option maxHeartbeats 1000000 in
theorem rlook_any (l : List Bd) (v : Value) (x : Int) (w : World) (h : Bs w v l) :
  Calls Tryz.prog 92 #[v, .int .i64 x] w fun e w' => e = .returned (.tuple #[(lookT l x).v, .bool (lookB l x)]) /\ Below w.heap.size w w' := by
 obtain ⟨ad, cap, rfl, hl, h⟩ := h
 go_enter Tryz.func92, Tryz.ntmps92
 go_wp2
 go_loopw [6] (fun i wr => ∃ k : Nat, k <= l.length /\ i = .int .i64 k /\ look l x = look (l.drop k) x /\ Below w.heap.size w wr ∧
   wr.heap[w.heap.size]? = some (.cells #[.int .i64 0, .int .i64 0, .string ⟨#[]⟩] 30 (0, 0))) (fun i _ => l.length - (intOf i).toNat)
 case atStart => exact ⟨0, by omega, rfl, by simp, below1 _ _, heap_alloc_new _ _⟩
 case round =>
  obtain ⟨k, hk, rfl, hlk, hbel, hres⟩ := hrel
  have HL : Hid (look l x = look (l.drop k) x) := hlk
  clear hlk
  by_cases hlt : k < l.length
  ·rcases h with h | ⟨b, o, rfl, hbs, h⟩
   ·subst h; simp at hlt
   ·obtain ⟨d, hd⟩ : ∃ d, l[k]? = some d := ⟨l[k], List.getElem?_eq_getElem hlt⟩
    obtain ⟨c0, c1, c2, c3⟩ := h k d hd
    have HD : Hid (l[k]? = some d) := hd
    rw [<- hbel.cell (p := ⟨b, _, none⟩) hbs] at c0 c1 c2 c3
    obtain ⟨q0, q1, q2, f0, f1, f2⟩ := three hres
    have hws : w.heap.size < wr.heap.size := (Array.getElem?_eq_some_iff.1 hres).1
    have hbw : b < wr.heap.size := by omega
    obtain ⟨dx, dk, dn, ds⟩ := d
    simp only at c0 c1 c2 c3
    have HR0 : Hid (wr.heap[w.heap.size]? = some (.cells #[.int .i64 0, .int .i64 0, .string ⟨#[]⟩] 30 (0, 0))) := hres
    clear h hd hres
    have i1 : (0 : Int) <= (k : Int) := by omega
    have i2 : (k : Int) < (l.length : Int) := by omega
    by_cases hx : dx = x
    ·have hq : (dx == x) = true := by simpa using hx
     go_wp2
     refine bodyPost_ret (v := .tuple #[Tm.v ⟨dk, dn, ds⟩, .bool true]) (by simp [results, Tryz.results92, go_sem, q0, q1, q2]) rfl ⟨?_, ?_⟩
     ·have e := HL.out.trans (look_hit l x k _ HD.out hx)
      simp [lookT, lookB, e]
     ·exact (((hbel.setCell (Nat.le_refl _) _).setCell (Nat.le_refl _) _).setCell (Nat.le_refl _) _)
    ·have hq : (dx == x) = false := by simpa using hx
     have HX : Hid (look l x = look (l.drop (k + 1)) x) := HL.out.trans (look_drop l x k _ HD.out hx)
     go_wp2
     go_roundw
     case rel => exact ⟨k + 1, by omega, by go_num, HX.out, hbel, HR0.out⟩
     case measure => simp [intOf]; omega
  ·obtain ⟨q0, q1, q2, f0, f1, f2⟩ := three hres
   clear h
   go_wp2
   refine bodyPost_ret (v := .tuple #[zt.v, .bool false]) (by simp [results, Tryz.results92, go_sem, q0, q1, q2, zt]) rfl ⟨?_, ?_⟩
   ·have e := HL.out
    rw [List.drop_eq_nil_of_le (by omega)] at e
    simp [lookT, lookB, e, look]
   ·exact (((hbel.setCell (Nat.le_refl _) _).setCell (Nat.le_refl _) _).setCell (Nat.le_refl _) _)
end Go.Proofs.YtechceagghcipabGreatDoor
namespace Go.Proofs.YtechceagghcipabGreatDoor
open Go.RowKit
attribute [local go_sem ↓] Go.wp_at_zero Go.wp_at_succ
set_option maxHeartbeats 1000000 in
theorem rbecome_any (s : List Bd) (v : Value) (t : Tm) (w : World) (h : Bs w v s) :
  Calls Tryz.prog 102 #[v, t.v] w fun e w' => e = .returned (become s t).v /\ Below w.heap.size w w' := by
 have HS : Hid (Bs w v s) := h
 clear h
 obtain ⟨k, n, ss⟩ := t
 cases hv : Tm.var ⟨k, n, ss⟩
 ·have HV : Hid (Tm.var ⟨k, n, ss⟩ = false) := hv
  have HB : Hid (become s ⟨k, n, ss⟩ = ⟨k, n, ss⟩) := by show become s _ = _; unfold become; rw [hv]; rfl
  clear hv
  go_enter Tryz.func102, Tryz.ntmps102
  go_wp2_with (go_at_call 90; refine (rvar_any ⟨k, n, ss⟩ _).mono ?_; rw [HV.out]; rintro e w1 ⟨rfl, hb1⟩; have C1 := (BoxB.start _ _ _ _ _).later hb1; obtain ⟨p0, p1, p2, -, -, -⟩ := three C1.1; obtain ⟨q0, q1, q2, f0, f1, f2⟩ := three C1.2.1; have B1 : Hid (BoxB _ _ _ _ _ _) := C1; clear C1)
  refine bodyPost_ret (v := Tm.v ⟨k, n, ss⟩) (by simp [results, Tryz.results102, go_sem, q0, q1, q2]) rfl ⟨?_, ?_⟩
  ·rw [HB.out]
  ·exact bset (bset (bset (Hid.out B1).2.2 (Nat.le_succ _)) (Nat.le_succ _)) (Nat.le_succ _)
 ·have HV : Hid (Tm.var ⟨k, n, ss⟩ = true) := hv
  cases hl : look s n with
  | none =>
   have HB : Hid (become s ⟨k, n, ss⟩ = ⟨k, n, ss⟩) := by show become s _ = _; unfold become; rw [hv, if_pos rfl, hl]; rfl
   have LT : Hid (lookT s n = zt) := by show lookT s n = zt; unfold lookT; rw [hl]; rfl
   have LB : Hid (lookB s n = false) := by show lookB s n = false; unfold lookB; rw [hl]; rfl
   clear hv hl
   go_enter Tryz.func102, Tryz.ntmps102
   go_wp2_with (first
    | (go_at_call 90; refine (rvar_any ⟨k, n, ss⟩ _).mono ?_; rw [HV.out]; rintro e w1 ⟨rfl, hb1⟩; have C1 := (BoxB.start _ _ _ _ _).later hb1; obtain ⟨p0, p1, p2, -, -, -⟩ := three C1.1; have B1 : Hid (BoxB _ _ _ _ _ _) := C1; clear C1)
    | (go_at_call 92; refine (rlook_any s v n _ (HS.out.later (Hid.out B1).2.2)).mono ?_; rw [LT.out, LB.out]; rintro e w2 ⟨rfl, hb2⟩; clear p0 p1 p2; have C2 := (Hid.out B1).later hb2; obtain ⟨p0, p1, p2, -, -, -⟩ := three C2.1; obtain ⟨q0, q1, q2, f0, f1, f2⟩ := three C2.2.1; have zz := C2.lt; have zz0 : w.heap.size < w2.heap.size := Nat.lt_of_succ_lt zz; have B2 : Hid (BoxB _ _ _ _ _ _) := C2; clear C2))
   refine bodyPost_ret (v := Tm.v ⟨k, n, ss⟩) (by simp [results, Tryz.results102, go_sem, q0, q1, q2, zz]) rfl ⟨?_, ?_⟩
   ·rw [HB.out]
   ·exact balloc (bset (bset (bset (Hid.out B2).2.2 (Nat.le_succ _)) (Nat.le_succ _)) (Nat.le_succ _))
  | some q =>
   have HB : Hid (become s ⟨k, n, ss⟩ = q) := by show become s _ = _; unfold become; rw [hv, if_pos rfl, hl]; rfl
   have LT : Hid (lookT s n = q) := by show lookT s n = q; unfold lookT; rw [hl]; rfl
   have LB : Hid (lookB s n = true) := by show lookB s n = true; unfold lookB; rw [hl]; rfl
   obtain ⟨qk, qn, qs⟩ := q
   clear hv hl
   go_enter Tryz.func102, Tryz.ntmps102
   go_wp2_with (first
    | (go_at_call 90; refine (rvar_any ⟨k, n, ss⟩ _).mono ?_; rw [HV.out]; rintro e w1 ⟨rfl, hb1⟩; have C1 := (BoxB.start _ _ _ _ _).later hb1; obtain ⟨p0, p1, p2, -, -, -⟩ := three C1.1; have B1 : Hid (BoxB _ _ _ _ _ _) := C1; clear C1)
    | (go_at_call 92; refine (rlook_any s v n _ (HS.out.later (Hid.out B1).2.2)).mono ?_; rw [LT.out, LB.out]; rintro e w2 ⟨rfl, hb2⟩; clear p0 p1 p2; have C2 := (Hid.out B1).later hb2; obtain ⟨p0, p1, p2, -, -, -⟩ := three C2.1; obtain ⟨q0, q1, q2, f0, f1, f2⟩ := three C2.2.1; have zz := C2.lt; have zz0 : w.heap.size < w2.heap.size := Nat.lt_of_succ_lt zz; have B2 : Hid (BoxB _ _ _ _ _ _) := C2; clear C2))
   refine bodyPost_ret (v := Tm.v ⟨qk, qn, qs⟩) (by simp [results, Tryz.results102, go_sem, q0, q1, q2, zz]) rfl ⟨?_, ?_⟩
   ·rw [HB.out]
   ·exact balloc (bset (bset (bset (Hid.out B2).2.2 (Nat.le_succ _)) (Nat.le_succ _)) (Nat.le_succ _))
end Go.Proofs.YtechceagghcipabGreatDoor

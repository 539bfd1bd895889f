import Derived.Test.YtechceagghcipaaGreatDoorEG8
namespace Go.Proofs.YtechceagghcipaaGreatDoor
open Go.ChangeShapes Go.WideShapes Go.ChangeAt Go.RowKit Go.Joins Go.Deep

theorem Tryz.cellsOp8 : Tryz.prog.cellsOf 48 = 8 := by kernel_rfl
theorem Tryz.cellsBool8 : Tryz.prog.cellsOf 4 = 1 := by kernel_rfl
structure Op8 where
 k : Int
 a : At × Value
 n : Int
 two : Bool
def Op8.cs (o : Op8) : List Value := [.int .i64 o.k, .int .i64 o.a.1.by_.k, .int .i64 o.a.1.by_.n, .string o.a.1.by_.s, .string o.a.1.name, o.a.2, .int .i64 o.n, .bool o.two]
structure Op8.Ok (W : World) (o : Op8) : Prop where
 ts : TsP W o.a.2 o.a.1.args
 k : ∀ t ∈ o.a.1.pl, KeyT t
 nm : o.a.1.name.size <= maxLen
def Op8.sz (o : Op8) : Nat := o.a.1.pl.length
set_option maxRecDepth 100000 in
theorem open_op8 {H : Type} {enc : TypeId × Value -> H} {W : World} {base fuel : Nat} {spare : Nat -> Bool} {held : Bool} {cs : List Value} {x : DataW H × List MemPlace}
  (h : DataW.trod enc Tryz.prog W base spare held fuel 48 cs = some x) (hw : ∀ n ∈ x.1.weights Tryz.prog 48, n <= reachBytes) : ∃ o : Op8, cs = o.cs /\ o.Ok W /\ o.sz <= Rows.uptoBulk x.1 := by
 obtain ⟨xs, n, e0, hd, hl, hlen, hf⟩ := DataW.trod_struct Tryz.underlying48 h
 rw [Tryz.cellsOp8] at hl
 match xs, hlen with
 | [y0, y1, y2, y3], _ =>
  match cs, hl with
  | [c0, c1, c2, c3, c4, c5, c6, c7], _ =>
   have h0 := hf 0 _ rfl
   have h1 := hf 1 _ rfl
   have h2 := hf 2 _ rfl
   have h3 := hf 3 _ rfl
   simp [Tryz.cellsInt7, Tryz.cellsBool8, Tryz.cellsAtom] at h0 h1 h2 h3
   obtain ⟨k, e0, -, -⟩ := DataW.trod_int Tryz.underlying3 h0
   obtain ⟨a, e1, ⟨-, k1⟩, k2, k3, k4⟩ := atom_of_cellsY h1 (by simp) (fun m hm => by
    refine hw m ?_
    rw [hd, DataW.weights, Tryz.underlying48]
    exact DataW.weights_mem_each (j := 1) rfl rfl m hm)
   obtain ⟨p, e2, -, -⟩ := DataW.trod_int Tryz.underlying3 h2
   obtain ⟨b, e3, -⟩ := DataW.trod_bool Tryz.underlying4 h3
   simp at e0 e1 e2 e3
   obtain ⟨rfl, rfl, rfl, rfl, rfl⟩ := e1
   subst e0 e2 e3
   refine ⟨⟨k, a, p, b⟩, rfl, ⟨k1, k3, k4⟩, ?_⟩
   rw [hd]
   simp only [Op8.sz, List.map, Rows.uptoBulk, Rows.uptoBulkAll]
   omega
def Sc8 (W : World) (v : Value) (Os : List Op8) : Prop := ∃ a cap, v = .slice a Os.length cap /\ (Os = [] ∨ ∃ b o, a = some ⟨b, o, none⟩ /\ b < W.heap.size /\ ∀ (i : Nat) (p : Op8), Os[i]? = some p -> ∀ (j : Nat) (c : Value), p.cs[j]? = some c -> W.cell? ⟨b, o + (i * 8 + j), none⟩ = some c) /\ ∀ p ∈ Os, p.Ok W
set_option maxRecDepth 100000 in
theorem open_ops8 {H : Type} {enc : TypeId × Value -> H} {W : World} {base fuel : Nat} {spare : Nat -> Bool} {held : Bool} {cs : List Value} {x : DataW H × List MemPlace}
  (h : DataW.trod enc Tryz.prog W base spare held fuel 22 cs = some x) (hw : ∀ n ∈ x.1.weights Tryz.prog 22, n <= reachBytes) : ∃ v Os, cs = [v] /\ Sc8 W v Os /\ Os.length <= Rows.uptoBulk x.1 /\ (Os.map Op8.sz).sum <= Rows.uptoBulk x.1 := by
 rcases open_slice Tryz.underlying22 h with ⟨rfl, -⟩ | ⟨a, len, cap, m, n, D, Pl, rfl, hba, hlc, hcm, hm, hx, hel'⟩
 ·exact ⟨_, [], rfl, ⟨none, 0, rfl, Or.inl rfl, fun p hp => by simp at hp⟩, by simp, by simp⟩
 ·rw [Tryz.cellsOp8] at hel'
  have hlm : len <= m := by rw [hm]; split <;> omega
  have key : ∀ i : Nat, ∃ p : Op8, i < len -> (∀ (j : Nat) (c : Value), p.cs[j]? = some c -> W.cell? (a.add (i * 8 + j)) = some c) /\ p.Ok W /\ p.sz <= Rows.uptoBulk (D i) := fun i => by
   by_cases hi : i < len
   ·obtain ⟨cs', h1, h2⟩ := hel' i (by omega)
    obtain ⟨-, hl, hc⟩ := World.cells?_some h1
    obtain ⟨p, rfl, hok, hbk⟩ := open_op8 h2 (fun m hm => hw m (by
     rw [hx, DataW.weights, Tryz.underlying22]
     exact List.mem_cons_of_mem _ (List.mem_append.2 (Or.inl (weights_mem_all hm (List.mem_map.2 ⟨i, List.mem_range.2 hi, rfl⟩))))))
    refine ⟨p, fun _ => ⟨fun j c hj => ?_, hok, hbk⟩⟩
    have hj8 : j < 8 := (List.getElem?_eq_some_iff.1 hj).1
    have h5 := hc j hj8
    rw [hj] at h5
    by_cases j1 : j = 0
    ·by_cases i1 : i = 0
     ·simpa [Addr.add, j1, i1] using h5
     ·have i2 : ¬ i * 8 = 0 := by omega
      simpa [Addr.add, j1, i1, i2] using h5
    ·by_cases i1 : i = 0
     ·simpa [Addr.add, j1, i1] using h5
     ·have i2 : ¬ i * 8 = 0 := by omega
      simpa [Addr.add, j1, i1, i2, Nat.add_assoc] using h5
   ·exact ⟨⟨0, (⟨zt, ⟨#[]⟩, []⟩, .slice none 0 0), 0, false⟩, fun h => absurd h hi⟩
  obtain ⟨f, hf⟩ := Classical.axiomOfChoice key
  refine ⟨_, (List.range len).map f, rfl, ⟨some a, cap, by simp, ?_, fun c hc => ?_⟩, by rw [hx]; simpa using bulk7_slice ((List.range len).map D) _, ?_⟩
  ·rcases Nat.eq_zero_or_pos len with h0 | h0
   ·left; subst h0; rfl
   ·right
    obtain ⟨b, off, spot⟩ := a
    have h00 := (hf 0 h0).1 0 _ rfl
    have hspot : spot = none := by simpa [Addr.add] using World.cell?_spot h00
    subst hspot
    refine ⟨b, off, rfl, World.block_lt_of_cell? W _ (by simpa [Addr.add] using h00), fun i c hc j u hu => ?_⟩
    have hi : i < len := by have := (List.getElem?_eq_some_iff.1 hc).1; simpa using this
    have e : c = f i := by
     rw [List.getElem?_map, List.getElem?_range hi] at hc; simpa using hc.symm
    subst e
    have := (hf i hi).1 j u hu
    rw [add_plain] at this
    exact this
  ·obtain ⟨i, hi, rfl⟩ := List.mem_map.1 hc
   exact (hf i (List.mem_range.1 hi)).2.1
  ·have h1 := bulk7_sum (fun i => (f i).sz) D (List.range len) fun i hi => (hf i (List.mem_range.1 hi)).2.2
   rw [List.map_map]
   rw [hx]
   simp only [Rows.uptoBulk]
   have e : Op8.sz ∘ f = fun i => (f i).sz := rfl
   rw [e]
   omega
end Go.Proofs.YtechceagghcipaaGreatDoor

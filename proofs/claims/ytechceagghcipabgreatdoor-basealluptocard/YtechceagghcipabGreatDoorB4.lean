import Derived.Test.YtechceagghcipabGreatDoorB2
namespace Go.Proofs.YtechceagghcipabGreatDoor
open Go.RowKit
def TRow (w : World) (b o : Nat) (l : List Tm) : Prop :=
 b < w.heap.size /\ ∀ i t, l[i]? = some t -> w.cell? ⟨b, o + i * 3, none⟩ = some (.int .i64 t.k) /\ w.cell? ⟨b, o + i * 3 + 1, none⟩ = some (.int .i64 t.n) /\ w.cell? ⟨b, o + i * 3 + 2, none⟩ = some (.string t.s)
def Ts (w : World) (v : Value) (l : List Tm) : Prop :=
 ∃ a cap, v = .slice a l.length cap /\ l.length < 1000000000000000000 /\ (l = [] ∨ ∃ b o, a = some ⟨b, o, none⟩ /\ TRow w b o l)
theorem TRow.later {w w' : World} {b o l} (h : TRow w b o l) (hb : Below w.heap.size w w') : TRow w' b o l :=
 ⟨Nat.lt_of_lt_of_le h.1 hb.size, fun i t ht => by
  have := h.2 i t ht
  rw [hb.cell (p := ⟨b, _, none⟩) h.1, hb.cell (p := ⟨b, _, none⟩) h.1, hb.cell (p := ⟨b, _, none⟩) h.1]; exact this⟩
theorem Ts.later {w w' : World} {v l} (h : Ts w v l) (hb : Below w.heap.size w w') : Ts w' v l := by
 obtain ⟨a, cap, rfl, hl, h⟩ := h
 refine ⟨a, cap, rfl, hl, ?_⟩
 rcases h with h | ⟨b, o, rfl, h⟩
 ·exact Or.inl h
 ·exact Or.inr ⟨b, o, rfl, h.later hb⟩
structure At where
 by_ : Tm
 name : ByteArray
 args : List Tm
abbrev At.v (a : At) (x : Value) : Value := .agg #[.int .i64 a.by_.k, .int .i64 a.by_.n, .string a.by_.s, .string a.name, x]
def At.pl (a : At) : List Tm := a.by_ :: a.args
theorem places_any (a : At) (x : Value) (w : World) (h : Ts w x a.args) :
  Calls Tryz.prog 60 #[a.v x] w fun e w' => e = .returned (.int .i64 a.pl.length) /\ Below w.heap.size w w' := by
 obtain ⟨⟨k, n, s⟩, nm, l⟩ := a
 obtain ⟨ad, cap, rfl, hl, -⟩ := h
 simp only at hl
 go_enter Tryz.func60, Tryz.ntmps60
 go_wp2
 go_ret
 exact ⟨ret_i (by simp [At.pl]; omega), below1 _ _⟩
set_option maxHeartbeats 400000 in
theorem place_any (a : At) (x : Value) (i : Nat) (t : Tm) (ht : a.pl[i]? = some t) (w : World) (h : Ts w x a.args) :
  Calls Tryz.prog 62 #[a.v x, .int .i64 i] w fun e w' => e = .returned t.v /\ Below w.heap.size w w' := by
 obtain ⟨⟨k, n, s⟩, nm, l⟩ := a
 obtain ⟨ad, cap, rfl, hl, h⟩ := h
 simp only at hl
 cases i with
 | zero =>
  simp only [At.pl, List.getElem?_cons_zero, Option.some.injEq] at ht
  subst ht
  go_enter Tryz.func62, Tryz.ntmps62
  go_wp2
  exact bodyPost_ret (v := Tm.v ⟨k, n, s⟩) (by simp [results, Tryz.results62, go_sem]) rfl ⟨rfl, below2 _ _ _⟩
 | succ i =>
  simp only [At.pl, List.getElem?_cons_succ] at ht
  have hi : i < l.length := (List.getElem?_eq_some_iff.1 ht).1
  rcases h with h | ⟨b, o, rfl, hbs, h⟩
  ·subst h; simp at hi
  ·obtain ⟨c0, c1, c2⟩ := h i t ht
   obtain ⟨k', n', s'⟩ := t
   simp only at c0 c1 c2
   have TT : Hid (l[i]? = some ⟨k', n', s'⟩) := ht
   clear h ht
   have i1 : (0 : Int) <= (i : Int) := by omega
   have i2 : (i : Int) < (l.length : Int) := by omega
   have e1 : ((i + 1 : Nat) : Int) - 1 = i := by omega
   go_enter Tryz.func62, Tryz.ntmps62
   go_wp2
   exact bodyPost_ret (v := Tm.v ⟨k', n', s'⟩) (by simp [results, Tryz.results62, go_sem]) rfl ⟨rfl, below2 _ _ _⟩
def shB (a b : At) : Bool := a.name.toList == b.name.toList && a.args.length == b.args.length
set_option maxHeartbeats 400000 in
theorem sameShape_any (a b : At) (x y : Value) (w : World) (h : Ts w x a.args) (h' : Ts w y b.args) :
  Calls Tryz.prog 147 #[a.v x, b.v y] w fun e w' => e = .returned (.bool (shB a b)) /\ Below w.heap.size w w' := by
 obtain ⟨⟨k, n, s⟩, nm, l⟩ := a
 obtain ⟨⟨k', n', s'⟩, nm', l'⟩ := b
 obtain ⟨ad, cap, rfl, hl, -⟩ := h
 obtain ⟨ad', cap', rfl, hl', -⟩ := h'
 simp only at hl hl'
 unfold shB
 go_enter Tryz.func147, Tryz.ntmps147
 go_wp2
 all_goals
  go_ret
  refine ⟨ret_b ?_, below2 _ _ _⟩
  simp_all
  try (rw [Bool.eq_iff_iff]; simp; omega)
theorem three {w : World} {g : Nat} {a b c : Value} {t : TypeId} (h : w.heap[g]? = some (.cells #[a, b, c] t (0, 0))) :
  w.cell? ⟨g, 0, none⟩ = some a /\ w.cell? ⟨g, 1, none⟩ = some b /\ w.cell? ⟨g, 2, none⟩ = some c /\ w.frozen? ⟨g, 0, none⟩ = false /\ w.frozen? ⟨g, 1, none⟩ = false /\ w.frozen? ⟨g, 2, none⟩ = false :=
 ⟨cell_of_row _ _ _ _ _ _ h, cell_of_row _ _ _ _ _ _ h, cell_of_row _ _ _ _ _ _ h, frozen_of_row _ _ _ _ _ h, frozen_of_row _ _ _ _ _ h, frozen_of_row _ _ _ _ _ h⟩
structure Bd where
 x : Int
 «to» : Tm
deriving DecidableEq
def BRow (w : World) (b o : Nat) (l : List Bd) : Prop :=
 b < w.heap.size /\ ∀ i t, l[i]? = some t -> w.cell? ⟨b, o + i * 4, none⟩ = some (.int .i64 t.x) /\ w.cell? ⟨b, o + i * 4 + 1, none⟩ = some (.int .i64 t.to.k) /\ w.cell? ⟨b, o + i * 4 + 2, none⟩ = some (.int .i64 t.to.n) /\ w.cell? ⟨b, o + i * 4 + 3, none⟩ = some (.string t.to.s)
def Bs (w : World) (v : Value) (l : List Bd) : Prop :=
 ∃ a cap, v = .slice a l.length cap /\ l.length < 1000000000000000000 /\ (l = [] ∨ ∃ b o, a = some ⟨b, o, none⟩ /\ BRow w b o l)
theorem BRow.later {w w' : World} {b o l} (h : BRow w b o l) (hb : Below w.heap.size w w') : BRow w' b o l :=
 ⟨Nat.lt_of_lt_of_le h.1 hb.size, fun i t ht => by
  have := h.2 i t ht
  rw [hb.cell (p := ⟨b, _, none⟩) h.1, hb.cell (p := ⟨b, _, none⟩) h.1, hb.cell (p := ⟨b, _, none⟩) h.1, hb.cell (p := ⟨b, _, none⟩) h.1]; exact this⟩
theorem Bs.later {w w' : World} {v l} (h : Bs w v l) (hb : Below w.heap.size w w') : Bs w' v l := by
 obtain ⟨a, cap, rfl, hl, h⟩ := h
 refine ⟨a, cap, rfl, hl, ?_⟩
 rcases h with h | ⟨b, o, rfl, h⟩
 ·exact Or.inl h
 ·exact Or.inr ⟨b, o, rfl, h.later hb⟩
def look : List Bd -> Int -> Option Tm
 | [], _ => none
 | d :: r, x => if d.x = x then some d.to else look r x
def zt : Tm := ⟨0, 0, ⟨#[]⟩⟩
def lookT (l : List Bd) (x : Int) : Tm := (look l x).getD zt
def lookB (l : List Bd) (x : Int) : Bool := (look l x).isSome
theorem look_drop (l : List Bd) (x : Int) (i : Nat) (d : Bd) (h : l[i]? = some d) (hd : ¬ d.x = x) : look (l.drop i) x = look (l.drop (i + 1)) x := by
 have hi := (List.getElem?_eq_some_iff.1 h).1
 have e := (List.getElem?_eq_some_iff.1 h).2
 rw [List.drop_eq_getElem_cons hi, e, look, if_neg hd]
theorem look_hit (l : List Bd) (x : Int) (i : Nat) (d : Bd) (h : l[i]? = some d) (hd : d.x = x) : look (l.drop i) x = some d.to := by
 have hi := (List.getElem?_eq_some_iff.1 h).1
 have e := (List.getElem?_eq_some_iff.1 h).2
 rw [List.drop_eq_getElem_cons hi, e, look, if_pos hd]
set_option maxHeartbeats 1000000 in
theorem look_any (l : List Bd) (v : Value) (x : Int) (w : World) (h : Bs w v l) :
  Calls Tryz.prog 150 #[v, .int .i64 x] w fun e w' => e = .returned (.tuple #[(lookT l x).v, .bool (lookB l x)]) /\ Below w.heap.size w w' := by
 have h0 := h
 obtain ⟨ad, cap, rfl, hl, h⟩ := h
 go_enter Tryz.func150, Tryz.ntmps150
 go_wp2
 go_loopw [10] (fun i wr => ∃ k : Nat, k <= l.length /\ i = .int .i64 k /\ look l x = look (l.drop k) x /\ Below w.heap.size w wr ∧
   wr.heap[w.heap.size]? = some (.cells #[.int .i64 0, .int .i64 0, .string ⟨#[]⟩] 30 (0, 0))) (fun i _ => l.length - (intOf i).toNat)
 case atStart => exact ⟨0, by omega, rfl, by simp, below1 _ _, heap_alloc_new _ _⟩
 case round =>
  obtain ⟨k, hk, rfl, hlk, hbel, hres⟩ := hrel
  have HL : Hid (look l x = look (l.drop k) x) := hlk
  clear hlk
  by_cases hlt : k < l.length
  ·rcases h with h | ⟨b, o, rfl, hbs, h⟩
   ·subst h; simp at hlt
   ·obtain ⟨d, hd⟩ : ∃ d, l[k]? = some d := ⟨l[k], List.getElem?_eq_getElem hlt⟩
    obtain ⟨c0, c1, c2, c3⟩ := h k d hd
    have HD : Hid (l[k]? = some d) := hd
    rw [<- hbel.cell (p := ⟨b, _, none⟩) hbs] at c0 c1 c2 c3
    obtain ⟨q0, q1, q2, f0, f1, f2⟩ := three hres
    have hws : w.heap.size < wr.heap.size := (Array.getElem?_eq_some_iff.1 hres).1
    have hbw : b < wr.heap.size := by omega
    obtain ⟨dx, dk, dn, ds⟩ := d
    simp only at c0 c1 c2 c3
    have HR0 : Hid (wr.heap[w.heap.size]? = some (.cells #[.int .i64 0, .int .i64 0, .string ⟨#[]⟩] 30 (0, 0))) := hres
    clear h hd h0 hres
    have i1 : (0 : Int) <= (k : Int) := by omega
    have i2 : (k : Int) < (l.length : Int) := by omega
    by_cases hx : dx = x
    ·have hq : (dx == x) = true := by simpa using hx
     go_wp2
     refine bodyPost_ret (v := .tuple #[Tm.v ⟨dk, dn, ds⟩, .bool true]) (by simp [results, Tryz.results150, go_sem, q0, q1, q2, hws]) rfl ⟨?_, ?_⟩
     ·have e := HL.out.trans (look_hit l x k _ HD.out hx)
      simp [lookT, lookB, e]
     ·exact (((hbel.setCell (Nat.le_refl _) _).setCell (Nat.le_refl _) _).setCell (Nat.le_refl _) _).alloc (by simpa using hbel.size) _
    ·have hq : (dx == x) = false := by simpa using hx
     have HX : Hid (look l x = look (l.drop (k + 1)) x) := HL.out.trans (look_drop l x k _ HD.out hx)
     have HR : Hid (wr.heap[w.heap.size]? = some (.cells #[.int .i64 0, .int .i64 0, .string ⟨#[]⟩] 30 (0, 0))) := HR0.out
     go_wp2
     go_roundw
     case rel => exact ⟨k + 1, by omega, by go_num, HX.out, hbel.alloc hbel.size _, by rw [Below.heap_alloc _ _ _ hws]; exact HR.out⟩
     case measure => simp [intOf]; omega
  ·obtain ⟨q0, q1, q2, f0, f1, f2⟩ := three hres
   clear h0 h
   go_wp2
   refine bodyPost_ret (v := .tuple #[zt.v, .bool false]) (by simp [results, Tryz.results150, go_sem, q0, q1, q2, zt]) rfl ⟨?_, ?_⟩
   ·have e := HL.out
    rw [List.drop_eq_nil_of_le (by omega)] at e
    simp [lookT, lookB, e, look]
   ·exact (((hbel.setCell (Nat.le_refl _) _).setCell (Nat.le_refl _) _).setCell (Nat.le_refl _) _)
end Go.Proofs.YtechceagghcipabGreatDoor

/-
  How far replaced has come with Normal's function. (Written by NR5.py.)
-/
import Derived.Test.YtcpjiahdaplhlaaGreatDoorNR4
import Derived.Test.YtcpjiahdaplhlaaGreatDoorNR3
namespace Go.Proofs.YtcpjiahdaplhlaaGreatDoor
open Go.RowKit Go.Shelf

theorem CBlk.bl {m g : Nat} {W W' : World} {c : Array Value} {t : TypeId} (h : CBlk W g c t) (hb : Bl m W.heap.size W W') (hg : g ≠ m) : CBlk W' g c t := (hb.block _ h.lt hg).trans h
theorem ABlk.bl {m : Nat} {w w' : World} {g n : Nat} {l : List (At × Value)} (h : ABlk w g n l) (hb : Bl m w.heap.size w w') (hg : g ≠ m) : ABlk w' g n l := by
  obtain ⟨C, h1, h2⟩ := h
  exact ⟨C, (hb.block _ (Array.getElem?_eq_some_iff.1 h1).1 hg).trans h1, h2⟩
theorem EBlk.bl {m : Nat} {w w' : World} {g n : Nat} {l : List Te} (h : EBlk w g n l) (hb : Bl m w.heap.size w w') (hg : g ≠ m) : EBlk w' g n l := by
  obtain ⟨C, h1, h2⟩ := h
  exact ⟨C, (hb.block _ (Array.getElem?_eq_some_iff.1 h1).1 hg).trans h1, h2⟩
theorem TsN.bl {m P : Nat} {vs : List Int} {w w' : World} {g : Nat} {v : Value} {l : List Tm} (h : TsN w g v l) (hN : NM w P m vs) (hb : Bl m w.heap.size w w') : TsN w' g v l := ⟨h.1.bl hN hb, h.2⟩
theorem As.bl {m P : Nat} {vs : List Int} {w w' : World} {v : Value} {l : List (At × Value)} (h : As w v l) (hN : NM w P m vs) (hb : Bl m w.heap.size w w') : As w' v l := by
  obtain ⟨a, cap, rfl, hl, h, ht⟩ := h
  refine ⟨a, cap, rfl, hl, ?_, fun x hx => (ht x hx).bl hN hb⟩
  rcases h with h | ⟨b, o, rfl, h1, h2⟩
  · exact Or.inl h
  · cases l with
    | nil => exact Or.inl rfl
    | cons t l =>
      have hne : b ≠ m := by
        rintro rfl
        have := (h2 0 t rfl).1
        rw [hN.no] at this; cases this
      refine Or.inr ⟨b, o, rfl, Nat.lt_of_lt_of_le h1 hb.size, fun i u hu => ?_⟩
      have := h2 i u hu
      rw [hb.cell (p := ⟨b, _, none⟩) h1 hne, hb.cell (p := ⟨b, _, none⟩) h1 hne, hb.cell (p := ⟨b, _, none⟩) h1 hne, hb.cell (p := ⟨b, _, none⟩) h1 hne, hb.cell (p := ⟨b, _, none⟩) h1 hne]; exact this
theorem Es.bl {m P : Nat} {vs : List Int} {w w' : World} {v : Value} {l : List Te} (h : Es w v l) (hN : NM w P m vs) (hb : Bl m w.heap.size w w') : Es w' v l := by
  obtain ⟨a, cap, rfl, hl, h⟩ := h
  refine ⟨a, cap, rfl, hl, ?_⟩
  rcases h with h | ⟨b, o, rfl, h1, h2⟩
  · exact Or.inl h
  · cases l with
    | nil => exact Or.inl rfl
    | cons t l =>
      have hne : b ≠ m := by
        rintro rfl
        have := (h2 0 t rfl).1
        rw [hN.no] at this; cases this
      refine Or.inr ⟨b, o, rfl, Nat.lt_of_lt_of_le h1 hb.size, fun i u hu => ?_⟩
      have := h2 i u hu
      rw [hb.cell (p := ⟨b, _, none⟩) h1 hne, hb.cell (p := ⟨b, _, none⟩) h1 hne, hb.cell (p := ⟨b, _, none⟩) h1 hne, hb.cell (p := ⟨b, _, none⟩) h1 hne, hb.cell (p := ⟨b, _, none⟩) h1 hne, hb.cell (p := ⟨b, _, none⟩) h1 hne, hb.cell (p := ⟨b, _, none⟩) h1 hne]; exact this
theorem Cm.ok.bl {m P : Nat} {vs : List Int} {w w' : World} {c : Cm} (h : c.ok w) (hN : NM w P m vs) (hb : Bl m w.heap.size w w') : c.ok w' := ⟨h.h.bl hN hb, h.b.bl hN hb, h.t.bl hN hb⟩
/-- A list made one by one, with a state. -/
def mapS {α β : Type} (f : List Int → α → β) (g : List Int → α → List Int) : List Int → List α → List β
  | _, [] => []
  | vs, x :: l => f vs x :: mapS f g (g vs x) l
def foldS {α : Type} (g : List Int → α → List Int) : List Int → List α → List Int
  | vs, [] => vs
  | vs, x :: l => foldS g (g vs x) l
theorem mapS_len {α β : Type} (f : List Int → α → β) (g : List Int → α → List Int) : ∀ (l : List α) (vs : List Int), (mapS f g vs l).length = l.length
  | [], _ => rfl
  | x :: l, vs => by simp [mapS, mapS_len f g l]
theorem mapS_at {α β : Type} {f : List Int → α → β} {g : List Int → α → List Int} : ∀ {l : List α} {vs : List Int} {j : Nat} {t : α}, l[j]? = some t → (mapS f g vs l)[j]? = some (f (foldS g vs (l.take j)) t)
  | [], _, _, _, h => by simp at h
  | u :: l, vs, 0, t, h => by
    simp only [List.getElem?_cons_zero, Option.some.injEq] at h
    subst h; rfl
  | u :: l, vs, j + 1, t, h => by
    simp only [List.getElem?_cons_succ] at h
    simp only [mapS, List.getElem?_cons_succ, List.take_succ_cons, foldS]
    exact mapS_at h
theorem foldS_take {α : Type} {g : List Int → α → List Int} : ∀ {l : List α} {vs : List Int} {j : Nat} {t : α}, l[j]? = some t → foldS g vs (l.take (j + 1)) = g (foldS g vs (l.take j)) t
  | [], _, _, _, h => by simp at h
  | u :: l, vs, 0, t, h => by
    simp only [List.getElem?_cons_zero, Option.some.injEq] at h
    subst h; simp [foldS]
  | u :: l, vs, j + 1, t, h => by
    simp only [List.getElem?_cons_succ] at h
    rw [List.take_succ_cons, List.take_succ_cons, foldS, foldS, foldS_take h]
/-- What Normal's function makes of an atom, of a test, and the numbers asked behind it. -/
def atN (vs : List Int) (a : At) : At := ⟨nsT vs a.by_, a.name, nsL (nst vs a.by_) a.args⟩
def atS (vs : List Int) (a : At) : List Int := stL (nst vs a.by_) a.args
def teN (vs : List Int) (x : Te) : Te := ⟨x.op, nsT vs x.l, nsT (nst vs x.l) x.r⟩
def teS (vs : List Int) (x : Te) : List Int := nst (nst vs x.l) x.r
/-- How many terms atoms hold. -/
def totA : List At → Nat
  | [] => 0
  | a :: l => a.args.length + 1 + totA l
theorem atS_len (vs : List Int) (a : At) : (atS vs a).length ≤ vs.length + (a.args.length + 1) := by
  have := stL_len a.args (nst vs a.by_); have := nst_len vs a.by_; unfold atS; omega
theorem teS_len (vs : List Int) (x : Te) : (teS vs x).length ≤ vs.length + 2 := by
  have := nst_len (nst vs x.l) x.r; have := nst_len vs x.l; unfold teS; omega
theorem foldA_len : ∀ (l : List At) (vs : List Int) (j : Nat), (foldS atS vs (l.take j)).length ≤ vs.length + totA l
  | [], vs, j => by simp [foldS]
  | a :: l, vs, 0 => by simp [foldS]
  | a :: l, vs, j + 1 => by
    have := foldA_len l (atS vs a) j; have := atS_len vs a
    simp only [List.take_succ_cons, foldS, totA]; omega
theorem totA_mem : ∀ {l : List At} {j : Nat} {a : At} (vs : List Int), l[j]? = some a → (foldS atS vs (l.take j)).length + (a.args.length + 1) ≤ vs.length + totA l
  | [], _, _, _, h => by simp at h
  | u :: l, 0, a, vs, h => by
    simp only [List.getElem?_cons_zero, Option.some.injEq] at h
    subst h; simp only [List.take_zero, foldS, totA]; omega
  | u :: l, j + 1, a, vs, h => by
    simp only [List.getElem?_cons_succ] at h
    have := totA_mem (atS vs u) h; have := atS_len vs u
    simp only [List.take_succ_cons, foldS, totA]; omega
theorem foldE_len : ∀ (l : List Te) (vs : List Int) (j : Nat), (foldS teS vs (l.take j)).length ≤ vs.length + 2 * j
  | [], vs, j => by simp [foldS]
  | a :: l, vs, 0 => by simp [foldS]
  | a :: l, vs, j + 1 => by
    have := foldE_len l (teS vs a) j; have := teS_len vs a
    simp only [List.take_succ_cons, foldS]; omega
/-- How far replaced has come: its boxes, the head, the atoms so far. -/
structure RN (q P : Nat) (st : List Int) (w X : World) (o : Array Value) (k1 kb : Nat) (hd : Tm) (nm : ByteArray) (L1 : List Tm) (M1 Bh M2 : Nat) (l : List (At × Value)) : Prop where
  bc : CBlk X w.heap.size o 53
  br : CBlk X (w.heap.size + 1) zcs 53
  bh : CBlk X Bh #[.int .i64 hd.k, .int .i64 hd.n, .string hd.s, .string nm, .slice (some ⟨M1, 0, none⟩) k1 k1] 42
  a : ABlk X M2 kb l
  t1 : TsN X M2 (.slice (some ⟨M1, 0, none⟩) k1 k1) L1
  ts : ∀ x ∈ l, TsN X M2 x.2 x.1.args ∧ ∀ b, x.2.ownBlock = some b → b < X.heap.size ∧ w.heap.size + 2 ≤ b
  bw : Bl q w.heap.size w X
  o1 : w.heap.size + 1 < Bh
  o2 : Bh < M2
  m1 : w.heap.size + 2 ≤ M1
  m2 : M1 < Bh
  n : NM X P q st
  hq : q < w.heap.size
  hP : P < w.heap.size
/-- .. and the tests so far. -/
structure QN (q P : Nat) (st : List Int) (w X : World) (o : Array Value) (k1 kb kt : Nat) (hd : Tm) (nm : ByteArray) (L1 : List Tm) (M1 Bh M2 : Nat) (lb : List (At × Value)) (M3 : Nat) (lt : List Te) : Prop where
  bc : CBlk X w.heap.size o 53
  br : CBlk X (w.heap.size + 1) zcs 53
  bh : CBlk X Bh #[.int .i64 hd.k, .int .i64 hd.n, .string hd.s, .string nm, .slice (some ⟨M1, 0, none⟩) k1 k1] 42
  a : ABlk X M2 kb lb
  t1 : TsN X M3 (.slice (some ⟨M1, 0, none⟩) k1 k1) L1
  t2 : M1 ≠ M2
  ts : ∀ x ∈ lb, TsN X M3 x.2 x.1.args ∧ x.2.ownBlock ≠ some M2 ∧ ∀ b, x.2.ownBlock = some b → w.heap.size + 2 ≤ b
  e : EBlk X M3 kt lt
  bw : Bl q w.heap.size w X
  o1 : w.heap.size + 1 < Bh
  o2 : Bh < M2
  o3 : M2 < M3
  m1 : w.heap.size + 2 ≤ M1
  n : NM X P q st
  hq : q < w.heap.size
  hP : P < w.heap.size
theorem RN.later {q P : Nat} {st : List Int} {w X X' : World} {o : Array Value} {k1 kb : Nat} {hd : Tm} {nm : ByteArray} {L1 : List Tm} {M1 Bh M2 : Nat} {l : List (At × Value)} (h : RN q P st w X o k1 kb hd nm L1 M1 Bh M2 l) (hb : Below X.heap.size X X') : RN q P st w X' o k1 kb hd nm L1 M1 Bh M2 l :=
  ⟨h.bc.later hb, h.br.later hb, h.bh.later hb, h.a.later hb, h.t1.later hb, fun x hx => ⟨(h.ts x hx).1.later hb, fun b e => ⟨Nat.lt_of_lt_of_le ((h.ts x hx).2 b e).1 hb.size, ((h.ts x hx).2 b e).2⟩⟩, Bl.step h.bw (Bl.of hb), h.o1, h.o2, h.m1, h.m2, h.n.later hb, h.hq, h.hP⟩
theorem RN.put {q P : Nat} {st : List Int} {w X : World} {o : Array Value} {k1 kb : Nat} {hd : Tm} {nm : ByteArray} {L1 : List Tm} {M1 Bh M2 : Nat} {l : List (At × Value)} (h : RN q P st w X o k1 kb hd nm L1 M1 Bh M2 l) (hl : l.length < kb) (x : At × Value) (hx : TsN X M2 x.2 x.1.args) (hx' : ∀ b, x.2.ownBlock = some b → b < X.heap.size ∧ w.heap.size + 2 ≤ b) : RN q P st w (Aput X M2 l.length x) o k1 kb hd nm L1 M1 Bh M2 (l ++ [x]) := by
  have o1 := h.o1
  have o2 := h.o2
  have n1 : w.heap.size ≠ M2 := by omega
  have n2 : w.heap.size + 1 ≠ M2 := by omega
  have n3 : Bh ≠ M2 := by omega
  have n4 : w.heap.size ≤ M2 := by omega
  have hq := h.hq
  have hP := h.hP
  have n6 : P ≠ M2 := by omega
  have n7 : q ≠ M2 := by omega
  refine ⟨((((h.bc.off n1).off n1).off n1).off n1).off n1, ((((h.br.off n2).off n2).off n2).off n2).off n2, ((((h.bh.off n3).off n3).off n3).off n3).off n3, h.a.put hl x, ((((h.t1.off).off).off).off).off, fun y hy => ?_, ((((h.bw.setCell n4 _).setCell n4 _).setCell n4 _).setCell n4 _).setCell n4 _, o1, o2, h.m1, h.m2, ((((h.n.off n6 n7).off n6 n7).off n6 n7).off n6 n7).off n6 n7, h.hq, h.hP⟩
  rcases List.mem_append.1 hy with hy | hy
  · exact ⟨((((((h.ts y hy).1).off).off).off).off).off, fun b e => ⟨by simpa [World.setCell] using ((h.ts y hy).2 b e).1, ((h.ts y hy).2 b e).2⟩⟩
  · rw [List.mem_singleton] at hy; subst hy; exact ⟨((((hx.off).off).off).off).off, fun b e => ⟨by simpa [World.setCell] using (hx' b e).1, (hx' b e).2⟩⟩
theorem QN.later {q P : Nat} {st : List Int} {w X X' : World} {o : Array Value} {k1 kb kt : Nat} {hd : Tm} {nm : ByteArray} {L1 : List Tm} {M1 Bh M2 M3 : Nat} {l : List (At × Value)} {lt : List Te} (h : QN q P st w X o k1 kb kt hd nm L1 M1 Bh M2 l M3 lt) (hb : Below X.heap.size X X') : QN q P st w X' o k1 kb kt hd nm L1 M1 Bh M2 l M3 lt :=
  ⟨h.bc.later hb, h.br.later hb, h.bh.later hb, h.a.later hb, h.t1.later hb, h.t2, fun x hx => ⟨(h.ts x hx).1.later hb, (h.ts x hx).2⟩, h.e.later hb, Bl.step h.bw (Bl.of hb), h.o1, h.o2, h.o3, h.m1, h.n.later hb, h.hq, h.hP⟩
theorem QN.put {q P : Nat} {st : List Int} {w X : World} {o : Array Value} {k1 kb kt : Nat} {hd : Tm} {nm : ByteArray} {L1 : List Tm} {M1 Bh M2 M3 : Nat} {l : List (At × Value)} {lt : List Te} (h : QN q P st w X o k1 kb kt hd nm L1 M1 Bh M2 l M3 lt) (hl : lt.length < kt) (x : Te) : QN q P st w (Eput X M3 lt.length x) o k1 kb kt hd nm L1 M1 Bh M2 l M3 (lt ++ [x]) := by
  have o1 := h.o1
  have o2 := h.o2
  have o3 := h.o3
  have n1 : w.heap.size ≠ M3 := by omega
  have n2 : w.heap.size + 1 ≠ M3 := by omega
  have n3 : Bh ≠ M3 := by omega
  have n5 : M2 ≠ M3 := by omega
  have n4 : w.heap.size ≤ M3 := by omega
  have hq := h.hq
  have hP := h.hP
  have n6 : P ≠ M3 := by omega
  have n7 : q ≠ M3 := by omega
  exact ⟨((((((h.bc.off n1).off n1).off n1).off n1).off n1).off n1).off n1, ((((((h.br.off n2).off n2).off n2).off n2).off n2).off n2).off n2, ((((((h.bh.off n3).off n3).off n3).off n3).off n3).off n3).off n3, ((((((h.a.other n5).other n5).other n5).other n5).other n5).other n5).other n5, ((((((h.t1.off).off).off).off).off).off).off, h.t2, fun y hy => ⟨(((((((h.ts y hy).1.off).off).off).off).off).off).off, (h.ts y hy).2⟩, h.e.put hl x, ((((((h.bw.setCell n4 _).setCell n4 _).setCell n4 _).setCell n4 _).setCell n4 _).setCell n4 _).setCell n4 _, o1, o2, o3, h.m1, ((((((h.n.off n6 n7).off n6 n7).off n6 n7).off n6 n7).off n6 n7).off n6 n7).off n6 n7, h.hq, h.hP⟩
theorem RN.bl {q P : Nat} {st st' : List Int} {w X X' : World} {o : Array Value} {k1 kb : Nat} {hd : Tm} {nm : ByteArray} {L1 : List Tm} {M1 Bh M2 : Nat} {l : List (At × Value)} (h : RN q P st w X o k1 kb hd nm L1 M1 Bh M2 l) (hb : Bl q X.heap.size X X') (hn : NM X' P q st') : RN q P st' w X' o k1 kb hd nm L1 M1 Bh M2 l := by
  have o1 := h.o1
  have o2 := h.o2
  have hq := h.hq
  exact ⟨h.bc.bl hb (by omega), h.br.bl hb (by omega), h.bh.bl hb (by omega), h.a.bl hb (by omega), h.t1.bl h.n hb, fun x hx => ⟨(h.ts x hx).1.bl h.n hb, fun b e => ⟨Nat.lt_of_lt_of_le ((h.ts x hx).2 b e).1 hb.size, ((h.ts x hx).2 b e).2⟩⟩, Bl.step h.bw hb, h.o1, h.o2, h.m1, h.m2, hn, h.hq, h.hP⟩
theorem QN.bl {q P : Nat} {st st' : List Int} {w X X' : World} {o : Array Value} {k1 kb kt : Nat} {hd : Tm} {nm : ByteArray} {L1 : List Tm} {M1 Bh M2 M3 : Nat} {l : List (At × Value)} {lt : List Te} (h : QN q P st w X o k1 kb kt hd nm L1 M1 Bh M2 l M3 lt) (hb : Bl q X.heap.size X X') (hn : NM X' P q st') : QN q P st' w X' o k1 kb kt hd nm L1 M1 Bh M2 l M3 lt := by
  have o1 := h.o1
  have o2 := h.o2
  have o3 := h.o3
  have hq := h.hq
  exact ⟨h.bc.bl hb (by omega), h.br.bl hb (by omega), h.bh.bl hb (by omega), h.a.bl hb (by omega), h.t1.bl h.n hb, h.t2, fun x hx => ⟨(h.ts x hx).1.bl h.n hb, (h.ts x hx).2⟩, h.e.bl hb (by omega), Bl.step h.bw hb, h.o1, h.o2, h.o3, h.m1, hn, h.hq, h.hP⟩
end Go.Proofs.YtcpjiahdaplhlaaGreatDoor

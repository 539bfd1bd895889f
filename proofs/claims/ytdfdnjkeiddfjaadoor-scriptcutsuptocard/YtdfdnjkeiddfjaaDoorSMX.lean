/-
  script (stage 25): a step and a fault in two boxes; how they are answered.
-/
import Derived.Test.YtdfdnjkeiddfjaaDoorSM0
namespace Go.Proofs.YtdfdnjkeiddfjaaDoor
open Go.RowKit
attribute [local go_sem ↓] Go.wp_at_zero Go.wp_at_succ

def SdO.cs (d : SdO) (v : Value) : Array Value := #[.int .i64 d.k, .string d.who, .string d.too, .string d.tx, v, .int .i64 d.n, .int .i64 d.m, .int .i64 d.q]
/-- A step's box. -/
structure BxS (W : World) (g : Nat) (d : SdO) (v : Value) (b : ByteArray) : Prop where
  blk : BlkK W g (d.cs v) 24
  lb : LbW (fun _ => True) W v (blK b)
/-- What Read answered, in two boxes. -/
theorem boxR {w w1 : World} {r : RsS} {a : Option Addr} {c : Nat} (hb1 : Below w.heap.size w w1) (ho : OwY w1 w.heap.size (.slice a r.b.size c) (blK r.b)) :
    BxS ((w1.alloc (.cells (r.d.cs (.slice a r.b.size c)) 24)).alloc (.cells #[.int .i64 r.e, .int .i64 r.p] 27)) w1.heap.size r.d (.slice a r.b.size c) r.b ∧
    BlkK ((w1.alloc (.cells (r.d.cs (.slice a r.b.size c)) 24)).alloc (.cells #[.int .i64 r.e, .int .i64 r.p] 27)) (w1.heap.size + 1) #[.int .i64 r.e, .int .i64 r.p] 27 ∧
    OwY ((w1.alloc (.cells (r.d.cs (.slice a r.b.size c)) 24)).alloc (.cells #[.int .i64 r.e, .int .i64 r.p] 27)) w.heap.size (.slice a r.b.size c) (blK r.b) ∧
    Below w.heap.size w ((w1.alloc (.cells (r.d.cs (.slice a r.b.size c)) 24)).alloc (.cells #[.int .i64 r.e, .int .i64 r.p] 27)) := by
  have hb := below2K w1 (.cells (r.d.cs (.slice a r.b.size c)) 24) (.cells #[.int .i64 r.e, .int .i64 r.p] 27)
  have ho2 := ho.later hb
  exact ⟨⟨BlkK.old w1 _ _ _, (ho2.lb (bl_bytW _)).mono fun _ _ _ => trivial⟩, BlkK.new2 w1 _ _ _, ho2, hb1.trans (hb.mono hb1.size)⟩
theorem BxS.cells {W : World} {g : Nat} {d : SdO} {v : Value} {b : ByteArray} (h : BxS W g d v b) : W.cell? ⟨g, 0, none⟩ = some (.int .i64 d.k) ∧ W.cell? ⟨g, 1, none⟩ = some (.string d.who) ∧ W.cell? ⟨g, 2, none⟩ = some (.string d.too) ∧ W.cell? ⟨g, 3, none⟩ = some (.string d.tx) ∧ W.cell? ⟨g, 4, none⟩ = some v ∧ W.cell? ⟨g, 5, none⟩ = some (.int .i64 d.n) ∧ W.cell? ⟨g, 6, none⟩ = some (.int .i64 d.m) ∧ W.cell? ⟨g, 7, none⟩ = some (.int .i64 d.q) :=
  ⟨cell8 h.blk 0 _ rfl, cell8 h.blk 1 _ rfl, cell8 h.blk 2 _ rfl, cell8 h.blk 3 _ rfl, cell8 h.blk 4 _ rfl, cell8 h.blk 5 _ rfl, cell8 h.blk 6 _ rfl, cell8 h.blk 7 _ rfl⟩
theorem ft_cells {W : World} {g : Nat} {e p : Int} (h : BlkK W g #[.int .i64 e, .int .i64 p] 27) : W.cell? ⟨g, 0, none⟩ = some (.int .i64 e) ∧ W.cell? ⟨g, 1, none⟩ = some (.int .i64 p) := ⟨cell8 h 0 _ rfl, cell8 h 1 _ rfl⟩
theorem LbW.setg {F : Nat → Prop} {g i : Nat} {w : World} {v u : Value} {l : List Int} (h : LbW F w v l) (hg : ∀ b, F b → b ≠ g) : LbW F (w.setCell ⟨g, i, none⟩ u) v l :=
  h.same (Below.setCell (Below.refl g w) (p := ⟨g, i, none⟩) (Nat.le_refl _) u).size fun b _ hb => heap_setCell_other _ _ _ _ (hg b hb)
/-- What Read answered, written into two boxes. -/
theorem boxW {w8 : World} {gx gf : Nat} {d d' : SdO} {v v' : Value} {b b' : ByteArray} {e0 p0 e p : Int} (h : BxS w8 gx d v b) (hf : BlkK w8 gf #[.int .i64 e0, .int .i64 p0] 27) (hne : gx ≠ gf) (hl : LbW (fun x => x ≠ gx ∧ x ≠ gf) w8 v' (blK b')) :
    BxS ((((((((((w8.setCell ⟨gx, 0, none⟩ (.int .i64 d'.k)).setCell ⟨gx, 1, none⟩ (.string d'.who)).setCell ⟨gx, 2, none⟩ (.string d'.too)).setCell ⟨gx, 3, none⟩ (.string d'.tx)).setCell ⟨gx, 4, none⟩ (v')).setCell ⟨gx, 5, none⟩ (.int .i64 d'.n)).setCell ⟨gx, 6, none⟩ (.int .i64 d'.m)).setCell ⟨gx, 7, none⟩ (.int .i64 d'.q)).setCell ⟨gf, 0, none⟩ (.int .i64 e)).setCell ⟨gf, 1, none⟩ (.int .i64 p)) gx d' v' b' ∧ BlkK ((((((((((w8.setCell ⟨gx, 0, none⟩ (.int .i64 d'.k)).setCell ⟨gx, 1, none⟩ (.string d'.who)).setCell ⟨gx, 2, none⟩ (.string d'.too)).setCell ⟨gx, 3, none⟩ (.string d'.tx)).setCell ⟨gx, 4, none⟩ (v')).setCell ⟨gx, 5, none⟩ (.int .i64 d'.n)).setCell ⟨gx, 6, none⟩ (.int .i64 d'.m)).setCell ⟨gx, 7, none⟩ (.int .i64 d'.q)).setCell ⟨gf, 0, none⟩ (.int .i64 e)).setCell ⟨gf, 1, none⟩ (.int .i64 p)) gf #[.int .i64 e, .int .i64 p] 27 ∧ (∀ base : Nat, base ≤ gx → base ≤ gf → ∀ w, Below base w w8 → Below base w ((((((((((w8.setCell ⟨gx, 0, none⟩ (.int .i64 d'.k)).setCell ⟨gx, 1, none⟩ (.string d'.who)).setCell ⟨gx, 2, none⟩ (.string d'.too)).setCell ⟨gx, 3, none⟩ (.string d'.tx)).setCell ⟨gx, 4, none⟩ (v')).setCell ⟨gx, 5, none⟩ (.int .i64 d'.n)).setCell ⟨gx, 6, none⟩ (.int .i64 d'.m)).setCell ⟨gx, 7, none⟩ (.int .i64 d'.q)).setCell ⟨gf, 0, none⟩ (.int .i64 e)).setCell ⟨gf, 1, none⟩ (.int .i64 p))) := by
  have h8 : BlkK (((((((((w8.setCell ⟨gx, 0, none⟩ (.int .i64 d'.k)).setCell ⟨gx, 1, none⟩ (.string d'.who)).setCell ⟨gx, 2, none⟩ (.string d'.too)).setCell ⟨gx, 3, none⟩ (.string d'.tx)).setCell ⟨gx, 4, none⟩ (v')).setCell ⟨gx, 5, none⟩ (.int .i64 d'.n)).setCell ⟨gx, 6, none⟩ (.int .i64 d'.m)).setCell ⟨gx, 7, none⟩ (.int .i64 d'.q))) gx (d'.cs v') 24 := store8 h.blk
  have hgx : ∀ b, (b ≠ gx ∧ b ≠ gf) → b ≠ gx := fun b h => h.1
  have hgf : ∀ b, (b ≠ gx ∧ b ≠ gf) → b ≠ gf := fun b h => h.2
  refine ⟨⟨(h8.other hne).other hne, ?_⟩, ?_, fun base hx hf' w hw => ?_⟩
  · exact ((((((((((hl.setg hgx).setg hgx).setg hgx).setg hgx).setg hgx).setg hgx).setg hgx).setg hgx).setg hgf).setg hgf).mono fun _ _ _ => trivial
  · exact store2 ((((((((hf.other hne.symm).other hne.symm).other hne.symm).other hne.symm).other hne.symm).other hne.symm).other hne.symm).other hne.symm)
  · exact (((((((((hw.setCell hx _).setCell hx _).setCell hx _).setCell hx _).setCell hx _).setCell hx _).setCell hx _).setCell hx _).setCell hf' _).setCell hf' _
/-- A step and a fault are answered. -/
theorem ret_RS {fn : Func} {i j : Nat} (hf : fn.results = #[.cell i 24, .cell j 27]) (tmps : Array Value) (w : World) (g h : Nat) (c : Array Value) (e p : Value)
    (h4 : tmps[i]?.getD undef = .pointer (some ⟨g, 0, none⟩)) (h5 : tmps[j]?.getD undef = .pointer (some ⟨h, 0, none⟩)) (hb : BlkK w g c 24) (hc : ∃ a0 a1 a2 a3 a4 a5 a6 a7, c = #[a0, a1, a2, a3, a4, a5, a6, a7]) (hh : BlkK w h #[e, p] 27) : (results fn tmps).run Tryd.prog w = .ok (.tuple #[.agg c, .agg #[e, p]]) w := by
  obtain ⟨a0, a1, a2, a3, a4, a5, a6, a7, rfl⟩ := hc
  have c0 := cell8 hb 0 a0 rfl
  have c1 := cell8 hb 1 a1 rfl
  have c2 := cell8 hb 2 a2 rfl
  have c3 := cell8 hb 3 a3 rfl
  have c4 := cell8 hb 4 a4 rfl
  have c5 := cell8 hb 5 a5 rfl
  have c6 := cell8 hb 6 a6 rfl
  have c7 := cell8 hb 7 a7 rfl
  have d0 := cell8 hh 0 e rfl
  have d1 := cell8 hh 1 p rfl
  simp [results, hf, h4, h5, go_sem, c0, c1, c2, c3, c4, c5, c6, c7, d0, d1]
def z8S : Array Value := #[.int .i64 0, .string ⟨#[]⟩, .string ⟨#[]⟩, .string ⟨#[]⟩, .slice none 0 0, .int .i64 0, .int .i64 0, .int .i64 0]
/-- The answer's two boxes, still empty; all else of the call's own stays. -/
structure RtS (w : World) (wx : World) : Prop where
  d : BlkK wx w.heap.size z8S 24
  f : BlkK wx (w.heap.size + 1) #[.int .i64 0, .int .i64 0] 27
  b : Below w.heap.size w wx
theorem RtS.later {w wx wy : World} (h : RtS w wx) (hb : Below wx.heap.size wx wy) : RtS w wy := ⟨h.d.later hb, h.f.later hb, below_stepK h.b hb⟩
theorem RtS.cells {w wx : World} (h : RtS w wx) : (wx.cell? ⟨w.heap.size, 0, none⟩ = some (.int .i64 0) ∧ wx.cell? ⟨w.heap.size, 1, none⟩ = some (.string ⟨#[]⟩) ∧ wx.cell? ⟨w.heap.size, 2, none⟩ = some (.string ⟨#[]⟩) ∧ wx.cell? ⟨w.heap.size, 3, none⟩ = some (.string ⟨#[]⟩) ∧ wx.cell? ⟨w.heap.size, 4, none⟩ = some (.slice none 0 0) ∧ wx.cell? ⟨w.heap.size, 5, none⟩ = some (.int .i64 0) ∧ wx.cell? ⟨w.heap.size, 6, none⟩ = some (.int .i64 0) ∧ wx.cell? ⟨w.heap.size, 7, none⟩ = some (.int .i64 0)) ∧
    (∀ j, wx.frozen? ⟨w.heap.size, j, none⟩ = false) ∧ wx.cell? ⟨w.heap.size + 1, 0, none⟩ = some (.int .i64 0) ∧ wx.cell? ⟨w.heap.size + 1, 1, none⟩ = some (.int .i64 0) ∧ ∀ j, wx.frozen? ⟨w.heap.size + 1, j, none⟩ = false :=
  ⟨⟨cell8 h.d 0 _ rfl, cell8 h.d 1 _ rfl, cell8 h.d 2 _ rfl, cell8 h.d 3 _ rfl, cell8 h.d 4 _ rfl, cell8 h.d 5 _ rfl, cell8 h.d 6 _ rfl, cell8 h.d 7 _ rfl⟩, froz8 h.d, cell8 h.f 0 _ rfl, cell8 h.f 1 _ rfl, froz8 h.f⟩
theorem bkD {X : World} {g : Nat} {c : Array Value} {t : TypeId} (h : BlkK X g c t) : BlkK X.drew g c t := h
theorem blD {B : Nat} {w X : World} (h : Below B w X) : Below B w X.drew := ⟨h.os, h.tape, h.output, h.size, h.block⟩
/-- A fault is answered. -/
theorem endE {fn : Func} {a : Act} {w wx : World} {tmps : Array Value} {e p : Int} {i j : Nat} (hf : fn.results = #[.cell i 24, .cell j 27]) (ha : a = ⟨tmps, []⟩) (h4 : tmps[i]?.getD undef = .pointer (some ⟨w.heap.size, 0, none⟩)) (h5 : tmps[j]?.getD undef = .pointer (some ⟨w.heap.size + 1, 0, none⟩))
    (hd : BlkK wx w.heap.size z8S 24) (hh : BlkK wx (w.heap.size + 1) #[.int .i64 e, .int .i64 p] 27) (hb : Below w.heap.size w wx) : bodyPost Tryd.prog fn (RdQ w (noS e p)) .ret a wx := by
  subst ha
  refine bodyPost_ret (ret_RS hf _ _ w.heap.size (w.heap.size + 1) _ _ _ h4 h5 hd ⟨_, _, _, _, _, _, _, _, rfl⟩ hh) rfl ?_
  exact ⟨none, 0, rfl, Or.inl ⟨rfl, rfl⟩, hb⟩
/-- The boxes written: a fault. -/
theorem rtE {w wx : World} (h : RtS w wx) (e p : Int) :
    BlkK (((((((((((wx.setCell ⟨w.heap.size, 0, none⟩ (.int .i64 0)).setCell ⟨w.heap.size, 1, none⟩ (.string ⟨#[]⟩)).setCell ⟨w.heap.size, 2, none⟩ (.string ⟨#[]⟩)).setCell ⟨w.heap.size, 3, none⟩ (.string ⟨#[]⟩)).setCell ⟨w.heap.size, 4, none⟩ (.slice none 0 0)).setCell ⟨w.heap.size, 5, none⟩ (.int .i64 0)).setCell ⟨w.heap.size, 6, none⟩ (.int .i64 0)).setCell ⟨w.heap.size, 7, none⟩ (.int .i64 0)).setCell ⟨w.heap.size + 1, 0, none⟩ (.int .i64 e)).setCell ⟨w.heap.size + 1, 1, none⟩ (.int .i64 p))) w.heap.size z8S 24 ∧
    BlkK (((((((((((wx.setCell ⟨w.heap.size, 0, none⟩ (.int .i64 0)).setCell ⟨w.heap.size, 1, none⟩ (.string ⟨#[]⟩)).setCell ⟨w.heap.size, 2, none⟩ (.string ⟨#[]⟩)).setCell ⟨w.heap.size, 3, none⟩ (.string ⟨#[]⟩)).setCell ⟨w.heap.size, 4, none⟩ (.slice none 0 0)).setCell ⟨w.heap.size, 5, none⟩ (.int .i64 0)).setCell ⟨w.heap.size, 6, none⟩ (.int .i64 0)).setCell ⟨w.heap.size, 7, none⟩ (.int .i64 0)).setCell ⟨w.heap.size + 1, 0, none⟩ (.int .i64 e)).setCell ⟨w.heap.size + 1, 1, none⟩ (.int .i64 p))) (w.heap.size + 1) #[.int .i64 e, .int .i64 p] 27 ∧
    Below w.heap.size w (((((((((((wx.setCell ⟨w.heap.size, 0, none⟩ (.int .i64 0)).setCell ⟨w.heap.size, 1, none⟩ (.string ⟨#[]⟩)).setCell ⟨w.heap.size, 2, none⟩ (.string ⟨#[]⟩)).setCell ⟨w.heap.size, 3, none⟩ (.string ⟨#[]⟩)).setCell ⟨w.heap.size, 4, none⟩ (.slice none 0 0)).setCell ⟨w.heap.size, 5, none⟩ (.int .i64 0)).setCell ⟨w.heap.size, 6, none⟩ (.int .i64 0)).setCell ⟨w.heap.size, 7, none⟩ (.int .i64 0)).setCell ⟨w.heap.size + 1, 0, none⟩ (.int .i64 e)).setCell ⟨w.heap.size + 1, 1, none⟩ (.int .i64 p))) := by
  have hx : BxS wx w.heap.size zdS (.slice none 0 0) ⟨#[]⟩ := ⟨h.d, LbW.nil _ _⟩
  have := boxW (d' := zdS) (v' := .slice none 0 0) (b' := ⟨#[]⟩) (e := e) (p := p) hx h.f (by omega) (LbW.nil _ _)
  exact ⟨this.1.blk, this.2.1, this.2.2 _ (Nat.le_refl _) (Nat.le_succ _) _ h.b⟩
/-- The boxes written: a step. -/
theorem rtR {w wx : World} (h : RtS w wx) {base : Nat} (hbase : w.heap.size + 2 ≤ base) (d : SdO) {v : Value} {b : ByteArray} (ho : OwY wx base v (blK b)) :
    BlkK ((((((((((wx.setCell ⟨w.heap.size, 0, none⟩ (.int .i64 d.k)).setCell ⟨w.heap.size, 1, none⟩ (.string d.who)).setCell ⟨w.heap.size, 2, none⟩ (.string d.too)).setCell ⟨w.heap.size, 3, none⟩ (.string d.tx)).setCell ⟨w.heap.size, 4, none⟩ (v)).setCell ⟨w.heap.size, 5, none⟩ (.int .i64 d.n)).setCell ⟨w.heap.size, 6, none⟩ (.int .i64 d.m)).setCell ⟨w.heap.size, 7, none⟩ (.int .i64 d.q)).setCell ⟨w.heap.size + 1, 0, none⟩ (.int .i64 0)).setCell ⟨w.heap.size + 1, 1, none⟩ (.int .i64 0)) w.heap.size (d.cs v) 24 ∧
    BlkK ((((((((((wx.setCell ⟨w.heap.size, 0, none⟩ (.int .i64 d.k)).setCell ⟨w.heap.size, 1, none⟩ (.string d.who)).setCell ⟨w.heap.size, 2, none⟩ (.string d.too)).setCell ⟨w.heap.size, 3, none⟩ (.string d.tx)).setCell ⟨w.heap.size, 4, none⟩ (v)).setCell ⟨w.heap.size, 5, none⟩ (.int .i64 d.n)).setCell ⟨w.heap.size, 6, none⟩ (.int .i64 d.m)).setCell ⟨w.heap.size, 7, none⟩ (.int .i64 d.q)).setCell ⟨w.heap.size + 1, 0, none⟩ (.int .i64 0)).setCell ⟨w.heap.size + 1, 1, none⟩ (.int .i64 0)) (w.heap.size + 1) #[.int .i64 0, .int .i64 0] 27 ∧
    OwY ((((((((((wx.setCell ⟨w.heap.size, 0, none⟩ (.int .i64 d.k)).setCell ⟨w.heap.size, 1, none⟩ (.string d.who)).setCell ⟨w.heap.size, 2, none⟩ (.string d.too)).setCell ⟨w.heap.size, 3, none⟩ (.string d.tx)).setCell ⟨w.heap.size, 4, none⟩ (v)).setCell ⟨w.heap.size, 5, none⟩ (.int .i64 d.n)).setCell ⟨w.heap.size, 6, none⟩ (.int .i64 d.m)).setCell ⟨w.heap.size, 7, none⟩ (.int .i64 d.q)).setCell ⟨w.heap.size + 1, 0, none⟩ (.int .i64 0)).setCell ⟨w.heap.size + 1, 1, none⟩ (.int .i64 0)) base v (blK b) ∧
    Below w.heap.size w ((((((((((wx.setCell ⟨w.heap.size, 0, none⟩ (.int .i64 d.k)).setCell ⟨w.heap.size, 1, none⟩ (.string d.who)).setCell ⟨w.heap.size, 2, none⟩ (.string d.too)).setCell ⟨w.heap.size, 3, none⟩ (.string d.tx)).setCell ⟨w.heap.size, 4, none⟩ (v)).setCell ⟨w.heap.size, 5, none⟩ (.int .i64 d.n)).setCell ⟨w.heap.size, 6, none⟩ (.int .i64 d.m)).setCell ⟨w.heap.size, 7, none⟩ (.int .i64 d.q)).setCell ⟨w.heap.size + 1, 0, none⟩ (.int .i64 0)).setCell ⟨w.heap.size + 1, 1, none⟩ (.int .i64 0)) := by
  have hx : BxS wx w.heap.size zdS (.slice none 0 0) ⟨#[]⟩ := ⟨h.d, LbW.nil _ _⟩
  have := boxW (d' := d) (v' := v) (b' := b) (e := 0) (p := 0) hx h.f (by omega) ((ho.lb (bl_bytW _)).mono fun k _ hk => by have := hk.1; constructor <;> omega)
  exact ⟨this.1.blk, this.2.1, (((((((((ho.set (by omega)).set (by omega)).set (by omega)).set (by omega)).set (by omega)).set (by omega)).set (by omega)).set (by omega)).set (by omega)).set (by omega), this.2.2 _ (Nat.le_refl _) (Nat.le_succ _) _ h.b⟩
/-- A step is answered. -/
theorem endR {fn : Func} {a : Act} {w wx : World} {tmps : Array Value} {d : SdO} {b : ByteArray} {q : Option Addr} {c base : Nat} {i j : Nat} (hf : fn.results = #[.cell i 24, .cell j 27]) (ha : a = ⟨tmps, []⟩) (h4 : tmps[i]?.getD undef = .pointer (some ⟨w.heap.size, 0, none⟩)) (h5 : tmps[j]?.getD undef = .pointer (some ⟨w.heap.size + 1, 0, none⟩))
    (hd : BlkK wx w.heap.size (d.cs (.slice q b.size c)) 24) (hh : BlkK wx (w.heap.size + 1) #[.int .i64 0, .int .i64 0] 27) (ho : OwY wx base (.slice q b.size c) (blK b)) (hbase : w.heap.size ≤ base) (hb : Below w.heap.size w wx) : bodyPost Tryd.prog fn (RdQ w ⟨d, b, 0, 0⟩) .ret a wx := by
  subst ha
  refine bodyPost_ret (ret_RS hf _ _ w.heap.size (w.heap.size + 1) _ _ _ h4 h5 hd ⟨_, _, _, _, _, _, _, _, rfl⟩ hh) rfl ?_
  exact ⟨q, c, rfl, ho.mono hbase, hb⟩
theorem go_yesS {L p : Int} {ps : List Int} {t : Tk} {l : List Tk} {d : SdO} {b : ByteArray} (h : ftS p t.k = true) : goS L (p :: ps) (t :: l) d b = goS L ps l (putS p d t) (putB p b t) := if_pos h
theorem go_nayS {L p : Int} {ps : List Int} {t : Tk} {l : List Tk} {d : SdO} {b : ByteArray} (h : ftS p t.k = false) : goS L (p :: ps) (t :: l) d b = noS 253 t.a := if_neg (by rw [h]; decide)
end Go.Proofs.YtdfdnjkeiddfjaaDoor

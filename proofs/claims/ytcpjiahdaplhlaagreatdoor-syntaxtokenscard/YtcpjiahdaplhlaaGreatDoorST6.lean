/-
  law 5: spelt.
-/
import Derived.Test.YtcpjiahdaplhlaaGreatDoorST5
import Derived.Test.YtcpjiahdaplhlaaGreatDoorB2
import Derived.Test.YtcpjiahdaplhlaaGreatDoorSY0
import Derived.BigQuiet
import Derived.Test.YtcpjiahdaplhlaaGreatDoorSJ8
import Derived.Maps.AppendAt
import Derived.Laws.OwnMore
namespace Go.Proofs.YtcpjiahdaplhlaaGreatDoor
open Go.RowKit
attribute [local go_sem ↓] Go.wp_at_zero Go.wp_at_succ

theorem Tryz.infoInt5 : (Tryz.prog.info? 3).map (fun i => (i.zero, i.size, i.bytes)) = some (some (.int .i64 0), 1, 8) := by kernel_rfl
theorem Tryz.infoStrT5 : (Tryz.prog.info? 9).map (fun i => (i.zero, i.size, i.bytes)) = some (some (.string ⟨#[]⟩), 1, 16) := by kernel_rfl
/-- Rows of two kinds lie apart. -/
theorem row_ne {w : World} {B B' e e' n n' m m' : Nat} {v v' : Value} {l l' : List Value} (h : w.ownsRow B e n v m l) (h' : w.ownsRow B' e' n' v' m' l') (he : e ≠ e') : v.ownBlock = none ∨ v.ownBlock ≠ v'.ownBlock := by
  rcases h.2 with ⟨rfl, -⟩ | ⟨g, cap, cur, rfl, -, hg, -⟩
  · exact Or.inl rfl
  · right
    rcases h'.2 with ⟨rfl, -⟩ | ⟨g', cap', cur', rfl, -, hg', -⟩
    · simp [Value.ownBlock]
    · simp only [Value.ownBlock, ne_eq, Option.some.injEq]
      rintro rfl
      rw [hg] at hg'
      simp only [Option.some.injEq, Obj.cells.injEq] at hg'
      exact he hg'.2.1
theorem row_bk {w : World} {B e n m g : Nat} {v : Value} {l : List Value} {c : Array Value} {t : TypeId} (h : w.ownsRow B e n v m l) (hb : Bk w g c t) (he : e ≠ t) : v.ownBlock ≠ some g := by
  rcases h.2 with ⟨rfl, -⟩ | ⟨g', cap, cur, rfl, -, hg, -⟩
  · simp [Value.ownBlock]
  · simp only [Value.ownBlock, ne_eq, Option.some.injEq]
    rintro rfl
    have hb : w.heap[g']? = some (.cells c t (0, 0)) := hb
    rw [hg] at hb
    simp only [Option.some.injEq, Obj.cells.injEq] at hb
    exact he hb.2.1
theorem bk_grow {X X' : World} {B e n m g : Nat} {v : Value} {l : List Value} {c : Array Value} {t : TypeId} (hb : Bk X g c t) (h : X.ownsRow B e n v m l) (hg : X.grownBy X' v.ownBlock) (he : e ≠ t) : Bk X' g c t :=
  (hg.block g hb.lt fun e1 => row_bk h hb he e1.symm).trans hb
theorem row_set {X : World} {B e n m g i : Nat} {v a : Value} {l : List Value} {c : Array Value} {t : TypeId} (h : X.ownsRow B e n v m l) (hb : Bk X g c t) (he : e ≠ t) : (X.setCell ⟨g, i, none⟩ a).ownsRow B e n v m l := by
  have h5 := row_bk h hb he
  refine ⟨h.1, ?_⟩
  rcases h.2 with h1 | ⟨g', cap, cur, rfl, h2, hg, rest⟩
  · exact Or.inl h1
  · refine Or.inr ⟨g', cap, cur, rfl, h2, ?_, rest⟩
    rw [heap_setCell_other _ _ _ _ (fun e => h5 (by subst e; rfl))]
    exact hg
theorem app_str5 {ops : Array Oper} {rest : List Oper} {o : Oper} {a : Act} {Q : Exit → Act → World → Prop} {w : World} (hgd : o.guard = none) (sl x : Operand)
    (ho : o.op = .call { callee := .builtin .append, args := #[sl, x], argTypes := #[67, 9] }) (base : Nat) (v : Value) (l : List Int) (hs : a.eval sl = v) (hown : OwnB w base v l) (s : ByteArray) (hx : a.eval x = .string s)
    (hlen : l.length + s.size ≤ 100000000) (hbase : base ≤ w.heap.size)
    (h : ∀ v' w', OwnB w' base v' (l ++ blK s) → Below base w w' → w.grownBy w' v.ownBlock → wpList Tryz.prog ops Q rest (a.put o.dst v') w') : wpList Tryz.prog ops Q (o :: rest) a w := by
  obtain ⟨i, hi, hz0, hz1, hz2⟩ := Tryz.zeroU8
  refine Lib.wpList_append_own_string _ hgd sl x 67 9 ho base 5 i Tryz.underlying67 Tryz.underlying9 hi hz0 hz1 hz2 v l.length (ibs l) hs hown s hx (by unfold maxLen; omega) (by omega) hbase ?_
  intro v' w' h1 h2 h3
  refine h v' w' ?_ (grown_below h2 (fun k hk => (World.ownsRow.lt hown k hk).1) hbase) h2
  unfold OwnB
  rw [List.length_append, bl_len, show ibs (l ++ blK s) = ibs l ++ ibs (blK s) by simp [ibs], ibs_bl]
  exact h1
theorem own_some5 {w : World} {B e n m : Nat} {v : Value} {l : List Value} (h : w.ownsRow B e n v m l) (hm : 0 < m) : ∃ g cap, v = .slice (some ⟨g, 0, none⟩) m cap ∧ g < w.heap.size := by
  rcases h.2 with ⟨-, e⟩ | ⟨g, cap, cur, e, -, hg, -⟩
  · omega
  · exact ⟨g, cap, e, (Array.getElem?_eq_some_iff.1 hg).1⟩
/-- Numbers that are handed in; the one for a token. -/
def Js5 (w : World) (v : Value) (h : List Int) : Prop := ∃ a cap, v = .slice a h.length cap ∧ (h = [] ∨ ∃ b o, a = some ⟨b, o, none⟩ ∧ b < w.heap.size ∧ ∀ (i : Nat) (x : Int), h[i]? = some x → w.cell? ⟨b, o + i, none⟩ = some (.int .i64 x))
def kh5 (h : List Int) (i : Nat) : Int := (h[i % h.length]?).getD 0
/-- The tokens ahead, spelt anew; where they begin. -/
def fr5 (l : List Tk) (j : Nat) : List Tk := (l.take j).map (rt5 (ns5 l))
def at5v (K : Nat → Int) (l : List Tk) (j : Nat) : List Value := (List.range j).map fun i => .int .i64 (of5 K 0 (fr5 l i) 0 : Int)
theorem fr5_len {l : List Tk} {j : Nat} (h : j ≤ l.length) : (fr5 l j).length = j := by unfold fr5; rw [List.length_map, List.length_take]; omega
theorem fr5_succ {l : List Tk} {j : Nat} {t : Tk} (h : l[j]? = some t) : fr5 l (j + 1) = fr5 l j ++ [rt5 (ns5 l) t] := by
  unfold fr5
  rw [List.take_add_one, h, Option.toList_some, List.map_append]
  rfl
theorem bt5_app (K : Nat → Int) : ∀ (a b : List Tk) (i : Nat), bt5 K i (a ++ b) = bt5 K i a ++ bt5 K (i + a.length) b
  | [], b, i => rfl
  | t :: a, b, i => by
    show blK (sp5 t) ++ (blK (fl5 (K i)) ++ bt5 K (i + 1) (a ++ b)) = (blK (sp5 t) ++ (blK (fl5 (K i)) ++ bt5 K (i + 1) a)) ++ _
    rw [bt5_app K a, List.length_cons, show i + 1 + a.length = i + (a.length + 1) by omega, List.append_assoc, List.append_assoc]
theorem bt5_front (K : Nat → Int) (l : List Tk) (j : Nat) : (bt5 K 0 (fr5 l j)).length ≤ (st5 K l).length := by
  have e : l.map (rt5 (ns5 l)) = fr5 l j ++ (l.drop j).map (rt5 (ns5 l)) := by unfold fr5; rw [← List.map_append, List.take_append_drop]
  unfold st5
  rw [e, bt5_app, List.length_append]
  omega
theorem at5v_succ (K : Nat → Int) (l : List Tk) (j : Nat) : at5v K l (j + 1) = at5v K l j ++ [.int .i64 (of5 K 0 (fr5 l j) 0 : Int)] := by
  unfold at5v
  rw [List.range_succ, List.map_append]
  rfl
/-- Names in memory. -/
def Nl5 (w : World) (base : Nat) (v : Value) (l : List ByteArray) : Prop := w.ownsRow base 9 1 v l.length (l.map Value.string)
theorem ix5_lt (x : ByteArray) : ∀ (l : List ByteArray) (j : Nat), j < ix5 x l → ∃ y, l[j]? = some y ∧ ¬ y = x
  | [], j, h => by exact absurd h (by show ¬ j < 0; omega)
  | y :: r, j, h => by
    have h : j < if y = x then 0 else ix5 x r + 1 := h
    by_cases e : y = x
    · rw [if_pos e] at h; omega
    · rw [if_neg e] at h
      cases j with
      | zero => exact ⟨y, rfl, e⟩
      | succ j => exact ix5_lt x r j (by omega)
/-- append of a list, empty or not. -/
theorem apR6 {T e : TypeId} {z : Value} {by_ size : Nat} (hT : Tryz.prog.underlying T = some (.slice e)) (hI : (Tryz.prog.info? e).map (fun i => (i.zero, i.size, i.bytes)) = some (some z, size, by_)) (hz : z.cells.size = size) (hsz : 0 < size) (hby : by_ ≤ 1000)
    (ty : TypeId) (w : World) (base : Nat) (v : Value) (n : Nat) (l : List Value) (hown : w.ownsRow base e size v n l) (y : Value) (m base' : Nat) (ys : List Value) (hy : w.ownsRow base' e size y m ys) (hone : ∀ u ∈ ys, u.oneCell' = true) (hlen : n + m ≤ 100000000000) (hbase : base ≤ w.heap.size) :
    ∃ v' w', (Builtin.append_ #[T, T] ty #[v, y]).run Tryz.prog w = .ok v' w' ∧ w'.ownsRow base e size v' (n + m) (l ++ ys) ∧ w.grownBy w' v.ownBlock ∧ (v'.ownBlock = v.ownBlock ∨ v'.ownBlock = some w.heap.size) := by
  obtain ⟨i, hi, h1, h2, h3⟩ := info5 hI
  rcases hy.2 with ⟨rfl, rfl⟩ | ⟨g, cap, cur, rfl, -⟩
  · have hys : ys = [] := List.length_eq_zero_iff.1 (by have := hy.1; simpa using this)
    refine ⟨v, w, run_append_owned_none (P := Tryz.prog) w base T ty e i size hT hi v n l hown, ?_, World.grownBy.refl _ _, Or.inl rfl⟩
    rw [hys, List.append_nil]
    exact hown
  · obtain ⟨v', w', g1, g2, g3, -, g4⟩ := run_append_own_at (P := Tryz.prog) w base T ty e i _ size by_ hT hi h1 h2 h3 hz hsz v n l hown ⟨g, 0, none⟩ m cap ys hy.1 (fun j u hj => by
        have := row5_cell hy hj
        rw [Go.WideShapes.add_plain]
        exact this) hone (by unfold maxLen; omega) (Nat.le_trans (Nat.mul_le_mul hlen hby) (by decide)) hbase
    exact ⟨v', w', g1, g2, g3, g4⟩
/-- .. as a step of a region. -/
theorem stepR6 {T : TypeId} {ops : Array Oper} {o : Oper} {a : Act} {K : Act → World → Prop} {Q : Exit → Act → World → Prop} {E : Prop} {w w' : World} (hgd : o.guard = none) (s x : Operand) (ho : o.op = .call { callee := .builtin .append, args := #[s, x], argTypes := #[T, T] }) (v y v' : Value) (hs : a.eval s = v) (hx : a.eval x = y)
    (hr : (Builtin.append_ #[T, T] o.type #[v, y]).run Tryz.prog w = .ok v' w') (h : K (a.put o.dst v') w') : if Region.wanted o (yielded ops a.tmps) = true then Oper.wp Tryz.prog o a w K Q else E := by
  have hw : Region.wanted o (yielded ops a.tmps) = true := by simp [Region.wanted, hgd]
  rw [if_pos hw]
  unfold Oper.wp
  simp [execOp, ho, resolve, invoke, builtin, hs, hx, hr, Result.andThen]
  exact h
theorem conv_own5 {w : World} {base : Nat} {v : Value} {l : List Int} (h : OwnB w base v l) (hb : byt l) : (convert 67 9 v).run Tryz.prog w = .ok (.string (ofL l)) w := by
  cases l with
  | cons x l => exact conv_bytes h (by simp) hb
  | nil =>
    rcases h.2 with ⟨rfl, -⟩ | ⟨g, cap, cur, rfl, -⟩
    · rw [conv_nil]; rfl
    · exact run_convert_bytes_back (P := Tryz.prog) w 67 9 5 ⟨g, 0, none⟩ cap (i2b []) Tryz.underlying67 Tryz.underlying5 Tryz.underlying9 (fun j hj => by simp [i2b] at hj)
/-- append as a step of a region, told by what is owned. -/
theorem stepQ6 {T e : TypeId} {z : Value} {by_ size : Nat} (hT : Tryz.prog.underlying T = some (.slice e)) (hI : (Tryz.prog.info? e).map (fun i => (i.zero, i.size, i.bytes)) = some (some z, size, by_)) (hz : z.cells.size = size) (hsz : 0 < size) (hby : by_ ≤ 1000)
    {ops : Array Oper} {o : Oper} {a : Act} {K : Act → World → Prop} {Q : Exit → Act → World → Prop} {E : Prop} {w : World} (hgd : o.guard = none) (s x : Operand) (ho : o.op = .call { callee := .builtin .append, args := #[s, x], argTypes := #[T, T] }) (base : Nat) (v : Value) (n : Nat) (l : List Value) (hs : a.eval s = v) (y : Value) (m base' : Nat) (ys : List Value) (hx : a.eval x = y)
    (hown : w.ownsRow base e size v n l) (hy : w.ownsRow base' e size y m ys) (hone : ∀ u ∈ ys, u.oneCell' = true) (hlen : n + m ≤ 100000000000) (hbase : base ≤ w.heap.size)
    (h : ∀ v' w', w'.ownsRow base e size v' (n + m) (l ++ ys) → w.grownBy w' v.ownBlock → (v'.ownBlock = v.ownBlock ∨ v'.ownBlock = some w.heap.size) → K (a.put o.dst v') w') : if Region.wanted o (yielded ops a.tmps) = true then Oper.wp Tryz.prog o a w K Q else E := by
  obtain ⟨v', w', g1, g2, g3, g4⟩ := apR6 hT hI hz hsz hby o.type w base v n l hown y m base' ys hy hone hlen hbase
  exact stepR6 hgd s x ho v y v' hs hx g1 (h v' w' g2 g3 g4)
set_option maxRecDepth 20000 in
set_option maxHeartbeats 8000000 in
theorem spelt5_any (l : List Tk) (h : List Int) (v u : Value) (w : World) (hv : Ks w v l) (hu : Js5 w u h) (hE : EnvOk w) (hok : ∀ t ∈ l, okt t ∧ (spl t).isSome = true) (hl : l.length ≤ 40000) (hz : (st5 (kh5 h) l).length ≤ 10000000) :
    Calls Tryz.prog 9 #[v, u, .bool true] w fun e w' => ∃ va, e = .returned (.tuple #[.string (ofL (st5 (kh5 h) l)), va]) ∧ w'.ownsRow w.heap.size 3 1 va (l.length + 1) (at5v (kh5 h) l (l.length + 1)) ∧ Below w.heap.size w w' := by
  obtain ⟨va, vc, rfl, hm⟩ := hv
  obtain ⟨ua, uc, rfl, hum⟩ := hu
  obtain ⟨n, hn⟩ : ∃ n, l.length = n := ⟨_, rfl⟩
  obtain ⟨hn2, hhn⟩ : ∃ z, h.length = z := ⟨_, rfl⟩
  obtain ⟨K, hK⟩ : ∃ K, kh5 h = K := ⟨_, rfl⟩
  rw [hn] at hl ⊢
  rw [hhn]
  rw [hK] at hz ⊢
  have HN := hm7 hn
  have HHN := hm7 hhn
  have HK := hm7 hK
  have HM := hm7 hm
  have HUM := hm7 hum
  have HE := hm7 hE
  have HOK := hm7 hok
  have HFR := hm7 (fun j => bt5_front K l j)
  clear hn hhn hK hm hum hE hok
  go_enter Tryz.func9, Tryz.ntmps9
  go_wp2
  go_loopg [8, 9, 10, 11] n (fun g b a nm i wr => ∃ j : Nat, j + g = n ∧ i = .int .i64 (j : Int) ∧ OwnB wr w.heap.size b (bt5 K 0 (fr5 l j)) ∧ wr.ownsRow w.heap.size 3 1 a j (at5v K l j) ∧ Nl5 wr w.heap.size nm (ns5 (l.take j)) ∧ Below w.heap.size w wr)
  case atStart => exact ⟨0, by omega, rfl, ⟨by simp [fr5, bt5, ibs], Or.inl ⟨rfl, rfl⟩⟩, World.ownsRow_nil _ _ _ _, World.ownsRow_nil _ _ _ _, Below.refl _ _⟩
  case round =>
    obtain ⟨j, hj, rfl, hob, hoa, hon, hb⟩ := hrel
    have HOB := hm7 hob
    have HOA := hm7 hoa
    have HON := hm7 hon
    have HB := hm7 hb
    obtain ⟨bl, hbl⟩ : ∃ z, (bt5 K 0 (fr5 l j)).length = z := ⟨_, rfl⟩
    obtain ⟨nl, hnl⟩ : ∃ z, (ns5 (l.take j)).length = z := ⟨_, rfl⟩
    have HBL := hm7 hbl
    have HNL := hm7 hnl
    have hbz : bl ≤ 10000000 := by have := HFR.out j; omega
    have hnz : nl ≤ 40000 := by
      have := ns5_len (l.take j)
      rw [List.length_take] at this
      omega
    obtain ⟨ba, bc, hbf, -⟩ := row7_form hob
    obtain ⟨aa, ac, haf, -⟩ := row7_form hoa
    obtain ⟨na, nc, hnf, -⟩ := row7_form hon
    rw [hbl] at hbf
    rw [hnl] at hnf
    subst hbf haf hnf
    clear hob hoa hon hb hbl hnl
    cases gk with
    | succ g =>
      obtain ⟨t, ht⟩ : ∃ t, l[j]? = some t := ⟨_, List.getElem?_eq_getElem (by have := HN.out; omega)⟩
      have hM : ∃ b o, va = some ⟨b, o, none⟩ ∧ b < w.heap.size ∧ w.cell? ⟨b, o + j * 5, none⟩ = some (.int .i64 t.k) ∧ w.cell? ⟨b, o + j * 5 + 1, none⟩ = some (.string t.x) ∧ w.cell? ⟨b, o + j * 5 + 2, none⟩ = some (.int .i64 t.n) ∧ w.cell? ⟨b, o + j * 5 + 3, none⟩ = some (.int .i64 t.a) ∧ w.cell? ⟨b, o + j * 5 + 4, none⟩ = some (.int .i64 t.e) := by
        rcases HM.out with e | ⟨b, o, e, hlt, hc⟩
        · rw [e] at ht; simp at ht
        · exact ⟨b, o, e, hlt, hc j t ht⟩
      obtain ⟨mb, mo, rfl, hlt, c0, c1, c2, c3, c4⟩ := hM
      have d0 := cell_step HB.out hlt c0
      have d1 := cell_step HB.out hlt c1
      have d2 := cell_step HB.out hlt c2
      have d3 := cell_step HB.out hlt c3
      have d4 := cell_step HB.out hlt c4
      have HT := hm7 ht
      have HSP : Hid (∀ X : World, EnvOk X → Calls Tryz.prog 37 #[(rt5 (ns5 l) t).v] X fun e w' => e = .returned (.tuple #[.string (sp5 (rt5 (ns5 l) t)), .bool (spl (rt5 (ns5 l) t)).isSome]) ∧ Below X.heap.size X w') := fun X hX => by
        have h1 := (rt5_ok (N := ns5 l) (HOK.out t (List.mem_of_getElem? ht))).1
        exact spell_any _ h1.1 h1.2.1 h1.2.2 X hX
      have HFS := hm7 (fr5_succ ht)
      have hfz := fl5_size (K j)
      have HXR : Hid (rt5 (ns5 l) t = ⟨t.k, (rt5 (ns5 l) t).x, t.n, t.a, t.e⟩) := by show _ = _; unfold rt5; split <;> rfl
      have HNS : Hid (ns5 (l.take (j + 1)) = ad5 (ns5 (l.take j)) t) := by show _ = _; rw [List.take_add_one, ht, Option.toList_some, ns5_snoc]
      have HIX : Hid (vq5 t → ix5 t.x (ns5 l) = ix5 t.x (ns5 (l.take j))) := fun hq => idx_pre ht hq
      have HRX : Hid ((rt5 (ns5 l) t).x = if vq5 t then nq5 (ix5 t.x (ns5 l)) else t.x) := by show _ = _; unfold rt5; split <;> rfl
      clear c0 c1 c2 c3 c4 hlt ht
      obtain ⟨tk, tx, tn, ta, te⟩ := t
      simp only at d0 d1 d2 d3 d4 HXR HIX HRX
      have i0 : (0 : Int) ≤ (j : Int) := by omega
      have i1 : (j : Int) < (n : Int) := by omega
      go_upto_region 8 with fail
      have hb1 := below1 wr (.cells #[.int .i64 tk, .string tx, .int .i64 tn, .int .i64 ta, .int .i64 te] 64)
      have HBK := hm7 (Bk.new wr #[.int .i64 tk, .string tx, .int .i64 tn, .int .i64 ta, .int .i64 te] 64)
      have HOB1 := hm7 (OwnB.later HOB.out hb1)
      have HOA1 := hm7 (row7_below HOA.out hb1)
      have HB1 := hm7 (below_step HB.out hb1)
      have htb : w.heap.size ≤ wr.heap.size := HB.out.size
      have HON1 : Hid (Nl5 (wr.alloc (.cells #[.int .i64 tk, .string tx, .int .i64 tn, .int .i64 ta, .int .i64 te] 64)) w.heap.size (.slice na nl nc) (ns5 (l.take j))) := row7_below HON.out hb1
      obtain ⟨tb, htbe⟩ : ∃ z, wr.heap.size = z := ⟨_, rfl⟩
      rw [htbe] at HBK htb ⊢
      clear d0 d1 d2 d3 d4 HOB HOA HON HB hb1 htbe
      generalize wr.alloc (.cells #[.int .i64 tk, .string tx, .int .i64 tn, .int .i64 ta, .int .i64 te] 64) = Y at HBK HOB1 HOA1 HON1 HB1 ⊢
      obtain ⟨X, hX⟩ : ∃ X, (rt5 (ns5 l) ⟨tk, tx, tn, ta, te⟩).x = X := ⟨_, rfl⟩
      rw [hX] at HXR HRX
      clear hX
      have b0 := HBK.out.cell (i := 0) rfl
      have b1 := HBK.out.cell (i := 1) rfl
      have hcs : ¬ tk = 2 ∨ (tk = 2 ∧ tx = us5) ∨ (tk = 2 ∧ ¬ tx = us5) := by
        by_cases h1 : tk = 2
        · by_cases h2 : tx = us5
          · exact Or.inr (Or.inl ⟨h1, h2⟩)
          · exact Or.inr (Or.inr ⟨h1, h2⟩)
        · exact Or.inl h1
      rcases hcs with hk2 | ⟨hk2, hus⟩ | ⟨hk2, hus⟩
      · have hnv : ¬ vq5 ⟨tk, tx, tn, ta, te⟩ := fun h => hk2 h.1
        have HN2 : Hid (ns5 (l.take (j + 1)) = ns5 (l.take j)) := by show _ = _; rw [HNS.out]; unfold ad5; rw [if_neg hnv]
        have HX2 : X = tx := by rw [HRX.out, if_neg hnv]
        have k1 : (tk == 2) = false := beq_eq_false_iff_ne.2 hk2
        subst HX2
        have HON2 : Hid (Nl5 Y w.heap.size (.slice na nl nc) (ns5 (l.take (j + 1)))) := by show Nl5 _ _ _ _; rw [HN2.out]; exact HON1.out
        clear hk2 hnv HN2 HON1
        go_upto_region 15 with fail
        clear k1 b0 b1
        have HBK2 := hm7 HBK.out
        have HOB2 := hm7 HOB1.out
        have HOA2 := hm7 HOA1.out
        have HB2 := hm7 HB1.out
        clear HBK HOB1 HOA1 HB1
        have e0 := HBK2.out.cell (i := 0) rfl
        have e1 := HBK2.out.cell (i := 1) rfl
        have e2 := HBK2.out.cell (i := 2) rfl
        have e3 := HBK2.out.cell (i := 3) rfl
        have e4 := HBK2.out.cell (i := 4) rfl
        rw [HXR.out] at HSP HFS
        have HBT : Hid (bt5 K 0 (fr5 l (j + 1)) = bt5 K 0 (fr5 l j) ++ (blK (sp5 ⟨tk, X, tn, ta, te⟩) ++ blK (fl5 (K j)))) := by
          show _ = _
          rw [HFS.out, bt5_snoc, fr5_len (by have := HN.out; omega), Nat.zero_add]
        obtain ⟨S, hS⟩ : ∃ z, sp5 ⟨tk, X, tn, ta, te⟩ = z := ⟨_, rfl⟩
        rw [hS] at HBT HSP
        have hSz : bl + S.size + (fl5 (K j)).size ≤ 10000000 := by
          have h1 := congrArg List.length HBT.out
          rw [List.length_append, List.length_append, bl_len, bl_len, HBL.out] at h1
          have := HFR.out (j + 1)
          omega
        clear hS
        go_upto_region 16 with (go_at_call 37; refine (HSP.out _ (HE.out.later HB2.out)).mono ?_; rintro e W3 ⟨rfl, hb3⟩)
        have hA4 := below1 W3 (.cells #[.int .i64 (bl : Int)] 3)
        have hb34 := below_step hb3 hA4
        have HOB4 := hm7 (OwnB.later HOB2.out hb34)
        have HOA4 := hm7 (row7_below HOA2.out hb34)
        have HON4 := hm7 (row7_below HON2.out hb34)
        have HB4 := hm7 (below_step HB2.out hb34)
        clear e0 e1 e2 e3 e4 HBK2 HOB2 HOA2 HON2 HB2 hb3 hA4 hb34
        go_upto_region 17 with (at_builtin; refine gapp5 Tryz.underlying22 Tryz.infoInt5 rfl (by decide) (by decide) rfl _ _ rfl w.heap.size (.slice aa j ac) j (at5v K l j) rfl HOA4.out W3.heap.size #[.int .i64 (bl : Int)] rfl (Bk.new _ _ _) rfl (by simp [Value.oneCell']) (by omega) HB4.out.size ?_; intro g5 q5 w5 ho5 hg5 hv5 hl5)
        have HOA5 : Hid (w5.ownsRow w.heap.size 3 1 (.slice (some ⟨g5, 0, none⟩) (j + 1) q5) (j + 1) (at5v K l (j + 1))) := by
          show World.ownsRow _ _ _ _ _ _ _
          rw [at5v_succ, of5_len, Nat.zero_add, HBL.out]
          exact ho5
        have HOB5 : Hid (OwnB w5 w.heap.size (.slice ba bl bc) (bt5 K 0 (fr5 l j))) := World.ownsRow.kept HOB4.out hg5 (row_ne HOB4.out HOA4.out (by decide))
        have HON5 := hm7 (World.ownsRow.kept HON4.out hg5 (row_ne HON4.out HOA4.out (by decide)))
        have HB5 := hm7 (HB4.out.grown hg5 HB4.out.size fun k e => (World.ownsRow.lt HOA4.out k e).1)
        clear ho5 hg5 hv5 hl5 HOA4 HOB4 HON4 HB4
        go_upto_region 18 with (at_builtin; refine app_str5 rfl _ _ rfl w.heap.size (.slice ba bl bc) (bt5 K 0 (fr5 l j)) rfl HOB5.out S rfl (by rw [HBL.out]; omega) HB5.out.size ?_; intro v6 w6 ho6 hb6 hg6)
        have HOB6 := hm7 ho6
        have HOA6 := hm7 (World.ownsRow.kept HOA5.out hg6 (row_ne HOA5.out HOB5.out (by decide)))
        have HON6 := hm7 (World.ownsRow.kept HON5.out hg6 (row_ne HON5.out HOB5.out (by decide)))
        have HB6 := hm7 (HB5.out.trans hb6)
        clear ho6 hb6 hg6 HOB5 HOA5 HON5 HB5
        go_upto_if 100 with fail
        go_cut [16] from 100 to 107 (fun s16 wx => s16 = .int .i64 (K j) ∧ wx = w6)
        case first =>
          have hk2 : kh5 h j = K j := by rw [HK.out]
          unfold kh5 at hk2
          by_cases hnil : h = []
          · have hn0 : hn2 = 0 := by rw [← HHN.out, hnil]; rfl
            have i5 : ¬ (0 : Int) < (hn2 : Int) := by omega
            rw [hnil] at hk2
            have hk3 : K j = 0 := hk2.symm
            clear hk2 hnil hn0
            go_wp2
            go_meet
            case rel => exact ⟨by rw [hk3], rfl⟩
          · have hp : 0 < hn2 := by rw [← HHN.out]; exact List.length_pos_iff.2 hnil
            rw [HHN.out] at hk2
            have hm : j % hn2 < hn2 := Nat.mod_lt _ hp
            obtain ⟨x, hx⟩ : ∃ x, h[j % hn2]? = some x := ⟨_, List.getElem?_eq_getElem (by rw [HHN.out]; exact hm)⟩
            rw [hx] at hk2
            have hk3 : K j = x := hk2.symm
            have hU : ∃ b o, ua = some ⟨b, o, none⟩ ∧ b < w.heap.size ∧ w.cell? ⟨b, o + j % hn2, none⟩ = some (.int .i64 x) := by
              rcases HUM.out with e | ⟨b, o, e, h1, h2⟩
              · exact absurd e hnil
              · exact ⟨b, o, e, h1, h2 _ x hx⟩
            obtain ⟨b2, o2, rfl, hb2, hc2⟩ := hU
            have c0 := cell_step HB6.out hb2 hc2
            have ht : Int.tmod (j : Int) (hn2 : Int) = ((j % hn2 : Nat) : Int) := by rw [Int.tmod_eq_emod_of_nonneg (by omega)]; exact (Int.natCast_emod j hn2).symm
            obtain ⟨m, hmm⟩ : ∃ m, j % hn2 = m := ⟨_, rfl⟩
            rw [hmm] at c0 ht hm
            have hmj : m ≤ j := by rw [← hmm]; exact Nat.mod_le _ _
            have hwt : IntKind.i64.wrap (m : Int) = (m : Int) := by rw [IntKind.wrap_i64]; omega
            have hm0 : (0 : Int) ≤ (m : Int) := by omega
            have hm1 : (m : Int) < (hn2 : Int) := by omega
            have hpi : (0 : Int) < (hn2 : Int) := by omega
            have hzi : ¬ (hn2 : Int) = 0 := by omega
            clear hx hc2 hnil hmm hk2 hp hb2
            go_wp2
            go_meet
            case rel => exact ⟨by rw [hk3], rfl⟩
        case rest =>
        obtain ⟨rfl, hw⟩ := hcut
        rw [hw]
        clear hw
        go_wp2_with (first
          | (go_at_call 38; refine (fill5_any _ _).mono ?_; rintro e w7 ⟨rfl, rfl⟩)
          | (at_builtin; refine app_str5 rfl _ _ rfl w.heap.size v6 (bt5 K 0 (fr5 l j) ++ blK S) rfl HOB6.out (fl5 (K j)) rfl (by rw [List.length_append, bl_len, HBL.out]; omega) HB6.out.size ?_; intro v8 w8 ho8 hb8 hg8; have HOB8 := hm7 ho8; have HB8 := hm7 hb8; have HG8 := hm7 hg8; clear ho8 hb8 hg8))
        try go_wp2
        go_roundg g
        case measure => omega
        case rel => exact ⟨j + 1, by omega, by go_num, by rw [HBT.out, ← List.append_assoc]; exact HOB8.out, World.ownsRow.kept HOA6.out HG8.out (row_ne HOA6.out HOB6.out (by decide)), World.ownsRow.kept HON6.out HG8.out (row_ne HON6.out HOB6.out (by decide)), HB6.out.trans HB8.out⟩
      · have hnv : ¬ vq5 ⟨tk, tx, tn, ta, te⟩ := fun h => h.2 hus
        have HN2 : Hid (ns5 (l.take (j + 1)) = ns5 (l.take j)) := by show _ = _; rw [HNS.out]; unfold ad5; rw [if_neg hnv]
        have HX2 : X = tx := by rw [HRX.out, if_neg hnv]
        have k1 : (tk == 2) = true := by rw [hk2]; rfl
        have k2 : (tx.toList == [95]) = true := by rw [hus, ByteArray.toList_eq]; rfl
        subst HX2
        have HON2 : Hid (Nl5 Y w.heap.size (.slice na nl nc) (ns5 (l.take (j + 1)))) := by show Nl5 _ _ _ _; rw [HN2.out]; exact HON1.out
        clear hk2 hus hnv HN2 HON1
        go_upto_region 15 with fail
        clear k1 k2 b0 b1
        have HBK2 := hm7 HBK.out
        have HOB2 := hm7 HOB1.out
        have HOA2 := hm7 HOA1.out
        have HB2 := hm7 HB1.out
        clear HBK HOB1 HOA1 HB1
        have e0 := HBK2.out.cell (i := 0) rfl
        have e1 := HBK2.out.cell (i := 1) rfl
        have e2 := HBK2.out.cell (i := 2) rfl
        have e3 := HBK2.out.cell (i := 3) rfl
        have e4 := HBK2.out.cell (i := 4) rfl
        rw [HXR.out] at HSP HFS
        have HBT : Hid (bt5 K 0 (fr5 l (j + 1)) = bt5 K 0 (fr5 l j) ++ (blK (sp5 ⟨tk, X, tn, ta, te⟩) ++ blK (fl5 (K j)))) := by
          show _ = _
          rw [HFS.out, bt5_snoc, fr5_len (by have := HN.out; omega), Nat.zero_add]
        obtain ⟨S, hS⟩ : ∃ z, sp5 ⟨tk, X, tn, ta, te⟩ = z := ⟨_, rfl⟩
        rw [hS] at HBT HSP
        have hSz : bl + S.size + (fl5 (K j)).size ≤ 10000000 := by
          have h1 := congrArg List.length HBT.out
          rw [List.length_append, List.length_append, bl_len, bl_len, HBL.out] at h1
          have := HFR.out (j + 1)
          omega
        clear hS
        go_upto_region 16 with (go_at_call 37; refine (HSP.out _ (HE.out.later HB2.out)).mono ?_; rintro e W3 ⟨rfl, hb3⟩)
        have hA4 := below1 W3 (.cells #[.int .i64 (bl : Int)] 3)
        have hb34 := below_step hb3 hA4
        have HOB4 := hm7 (OwnB.later HOB2.out hb34)
        have HOA4 := hm7 (row7_below HOA2.out hb34)
        have HON4 := hm7 (row7_below HON2.out hb34)
        have HB4 := hm7 (below_step HB2.out hb34)
        clear e0 e1 e2 e3 e4 HBK2 HOB2 HOA2 HON2 HB2 hb3 hA4 hb34
        go_upto_region 17 with (at_builtin; refine gapp5 Tryz.underlying22 Tryz.infoInt5 rfl (by decide) (by decide) rfl _ _ rfl w.heap.size (.slice aa j ac) j (at5v K l j) rfl HOA4.out W3.heap.size #[.int .i64 (bl : Int)] rfl (Bk.new _ _ _) rfl (by simp [Value.oneCell']) (by omega) HB4.out.size ?_; intro g5 q5 w5 ho5 hg5 hv5 hl5)
        have HOA5 : Hid (w5.ownsRow w.heap.size 3 1 (.slice (some ⟨g5, 0, none⟩) (j + 1) q5) (j + 1) (at5v K l (j + 1))) := by
          show World.ownsRow _ _ _ _ _ _ _
          rw [at5v_succ, of5_len, Nat.zero_add, HBL.out]
          exact ho5
        have HOB5 : Hid (OwnB w5 w.heap.size (.slice ba bl bc) (bt5 K 0 (fr5 l j))) := World.ownsRow.kept HOB4.out hg5 (row_ne HOB4.out HOA4.out (by decide))
        have HON5 := hm7 (World.ownsRow.kept HON4.out hg5 (row_ne HON4.out HOA4.out (by decide)))
        have HB5 := hm7 (HB4.out.grown hg5 HB4.out.size fun k e => (World.ownsRow.lt HOA4.out k e).1)
        clear ho5 hg5 hv5 hl5 HOA4 HOB4 HON4 HB4
        go_upto_region 18 with (at_builtin; refine app_str5 rfl _ _ rfl w.heap.size (.slice ba bl bc) (bt5 K 0 (fr5 l j)) rfl HOB5.out S rfl (by rw [HBL.out]; omega) HB5.out.size ?_; intro v6 w6 ho6 hb6 hg6)
        have HOB6 := hm7 ho6
        have HOA6 := hm7 (World.ownsRow.kept HOA5.out hg6 (row_ne HOA5.out HOB5.out (by decide)))
        have HON6 := hm7 (World.ownsRow.kept HON5.out hg6 (row_ne HON5.out HOB5.out (by decide)))
        have HB6 := hm7 (HB5.out.trans hb6)
        clear ho6 hb6 hg6 HOB5 HOA5 HON5 HB5
        go_upto_if 100 with fail
        go_cut [16] from 100 to 107 (fun s16 wx => s16 = .int .i64 (K j) ∧ wx = w6)
        case first =>
          have hk2 : kh5 h j = K j := by rw [HK.out]
          unfold kh5 at hk2
          by_cases hnil : h = []
          · have hn0 : hn2 = 0 := by rw [← HHN.out, hnil]; rfl
            have i5 : ¬ (0 : Int) < (hn2 : Int) := by omega
            rw [hnil] at hk2
            have hk3 : K j = 0 := hk2.symm
            clear hk2 hnil hn0
            go_wp2
            go_meet
            case rel => exact ⟨by rw [hk3], rfl⟩
          · have hp : 0 < hn2 := by rw [← HHN.out]; exact List.length_pos_iff.2 hnil
            rw [HHN.out] at hk2
            have hm : j % hn2 < hn2 := Nat.mod_lt _ hp
            obtain ⟨x, hx⟩ : ∃ x, h[j % hn2]? = some x := ⟨_, List.getElem?_eq_getElem (by rw [HHN.out]; exact hm)⟩
            rw [hx] at hk2
            have hk3 : K j = x := hk2.symm
            have hU : ∃ b o, ua = some ⟨b, o, none⟩ ∧ b < w.heap.size ∧ w.cell? ⟨b, o + j % hn2, none⟩ = some (.int .i64 x) := by
              rcases HUM.out with e | ⟨b, o, e, h1, h2⟩
              · exact absurd e hnil
              · exact ⟨b, o, e, h1, h2 _ x hx⟩
            obtain ⟨b2, o2, rfl, hb2, hc2⟩ := hU
            have c0 := cell_step HB6.out hb2 hc2
            have ht : Int.tmod (j : Int) (hn2 : Int) = ((j % hn2 : Nat) : Int) := by rw [Int.tmod_eq_emod_of_nonneg (by omega)]; exact (Int.natCast_emod j hn2).symm
            obtain ⟨m, hmm⟩ : ∃ m, j % hn2 = m := ⟨_, rfl⟩
            rw [hmm] at c0 ht hm
            have hmj : m ≤ j := by rw [← hmm]; exact Nat.mod_le _ _
            have hwt : IntKind.i64.wrap (m : Int) = (m : Int) := by rw [IntKind.wrap_i64]; omega
            have hm0 : (0 : Int) ≤ (m : Int) := by omega
            have hm1 : (m : Int) < (hn2 : Int) := by omega
            have hpi : (0 : Int) < (hn2 : Int) := by omega
            have hzi : ¬ (hn2 : Int) = 0 := by omega
            clear hx hc2 hnil hmm hk2 hp hb2
            go_wp2
            go_meet
            case rel => exact ⟨by rw [hk3], rfl⟩
        case rest =>
        obtain ⟨rfl, hw⟩ := hcut
        rw [hw]
        clear hw
        go_wp2_with (first
          | (go_at_call 38; refine (fill5_any _ _).mono ?_; rintro e w7 ⟨rfl, rfl⟩)
          | (at_builtin; refine app_str5 rfl _ _ rfl w.heap.size v6 (bt5 K 0 (fr5 l j) ++ blK S) rfl HOB6.out (fl5 (K j)) rfl (by rw [List.length_append, bl_len, HBL.out]; omega) HB6.out.size ?_; intro v8 w8 ho8 hb8 hg8; have HOB8 := hm7 ho8; have HB8 := hm7 hb8; have HG8 := hm7 hg8; clear ho8 hb8 hg8))
        try go_wp2
        go_roundg g
        case measure => omega
        case rel => exact ⟨j + 1, by omega, by go_num, by rw [HBT.out, ← List.append_assoc]; exact HOB8.out, World.ownsRow.kept HOA6.out HG8.out (row_ne HOA6.out HOB6.out (by decide)), World.ownsRow.kept HON6.out HG8.out (row_ne HON6.out HOB6.out (by decide)), HB6.out.trans HB8.out⟩
      · have hvq : vq5 ⟨tk, tx, tn, ta, te⟩ := ⟨hk2, hus⟩
        have k1 : (tk == 2) = true := by rw [hk2]; rfl
        have k2 := us5_ne hus
        obtain ⟨q, hq⟩ : ∃ z, ix5 tx (ns5 (l.take j)) = z := ⟨_, rfl⟩
        have HQ := hm7 hq
        have HX2 : Hid (X = nq5 q) := by show _ = _; rw [HRX.out, if_pos hvq, HIX.out hvq, hq]
        have HN2 : Hid (ns5 (l.take (j + 1)) = if q = nl then ns5 (l.take j) ++ [tx] else ns5 (l.take j)) := by
          show _ = _
          rw [HNS.out]
          unfold ad5
          rw [if_pos hvq, HNL.out]
          show (if ix5 tx (ns5 (l.take j)) = nl then _ else _) = _
          rw [hq]
        have hqn : q ≤ nl := by
          by_cases hm : tx ∈ ns5 (l.take j)
          · have := (ix5_mem hm).1; have := HNL.out; omega
          · have := (ix5_not hm).1; have := HNL.out; omega
        have HQS : Hid (q = nl ∨ (ns5 (l.take j))[q]? = some tx) := by
          by_cases hm : tx ∈ ns5 (l.take j)
          · right
            have := (ix5_mem hm).2.1
            rw [hq] at this
            exact this
          · left
            have := (ix5_not hm).1
            rw [hq, HNL.out] at this
            exact this
        clear hk2 hus hvq hq
        go_upto_region 9 with fail
        go_wp2
        clear k1 k2
        go_loopg [13] q (fun g i wr => ∃ kk : Nat, kk + g = q ∧ i = .int .i64 (kk : Int) ∧ Below Y.heap.size Y wr)
        case atStart => exact ⟨0, by omega, rfl, Below.refl _ _⟩
        case round =>
          obtain ⟨kk, hkk, rfl, hbz2⟩ := hrel
          have HBZ := hm7 hbz2
          clear hbz2
          have e1 := cell_step HBZ.out HBK.out.lt b1
          cases gk with
          | succ g2 =>
            obtain ⟨y, hy, hyx⟩ := ix5_lt tx (ns5 (l.take j)) kk (by rw [HQ.out]; omega)
            have hNW := row7_below HON1.out HBZ.out
            obtain ⟨nb, nc', hne, hnb⟩ := own_some5 hNW (by have := HNL.out; omega)
            rw [HNL.out] at hne
            obtain ⟨rfl, rfl⟩ : na = some ⟨nb, 0, none⟩ ∧ nc = nc' := by
              injection hne with h1 h2 h3
              exact ⟨h1, h3⟩
            have f1 : wr.cell? ⟨nb, 0 + kk, none⟩ = some (.string y) := row5_cell (m := (ns5 (l.take j)).length) (cap := nc) (by have := hNW; rw [HNL.out] at this ⊢; exact this) (by rw [List.getElem?_map, hy]; rfl)
            rw [Nat.zero_add] at f1
            have i2 : (0 : Int) ≤ (kk : Int) := by omega
            have i3 : (kk : Int) < (nl : Int) := by omega
            have k3 : (y.toList == tx.toList) = false := by rw [str_dec]; exact decide_eq_false hyx
            clear hy hyx hNW hne hnb
            go_upto_region 10 with fail
            go_quiet (fail)
            go_wp2
            go_roundg g2
            case measure => omega
            case rel => exact ⟨kk + 1, by omega, by go_num, below_drewN HBZ.out _⟩
          | zero =>
            obtain rfl : kk = q := by omega
            have HBK3 := hm7 (HBK.out.below HBZ.out)
            have HOB3 := hm7 (OwnB.later HOB1.out HBZ.out)
            have HOA3 := hm7 (row7_below HOA1.out HBZ.out)
            have HON3 : Hid (Nl5 wr w.heap.size (.slice na nl nc) (ns5 (l.take j))) := row7_below HON1.out HBZ.out
            have HB3 := hm7 (below_step HB1.out HBZ.out)
            clear HBK HOB1 HOA1 HON1 HB1 HBZ b0 b1
            rcases HQS.out with hqe | hqs
            · subst hqe
              have i3 : ¬ (kk : Int) < (kk : Int) := by omega
              have k3 : ((kk : Int) == (kk : Int)) = true := by simp
              go_upto_region 10 with fail
              go_quiet (fail)
              have hzz := below_drewN (Below.refl wr.heap.size wr) nq
              have HBK0 := hm7 (HBK3.out.below hzz)
              have HOB0 := hm7 (OwnB.later HOB3.out hzz)
              have HOA0 := hm7 (row7_below HOA3.out hzz)
              have HON0 := hm7 (row7_below HON3.out hzz)
              have HB0 := hm7 (below_step HB3.out hzz)
              clear HBK3 HOB3 HOA3 HON3 HB3 hzz e1
              generalize wr.drewN nq = Z0 at HBK0 HOB0 HOA0 HON0 HB0 ⊢
              have b1 := HBK0.out.cell (i := 1) rfl
              have hb5 := below1 Z0 (.cells #[.string tx] 9)
              have HON5 : Hid ((Z0.alloc (.cells #[.string tx] 9)).ownsRow w.heap.size 9 1 (.slice na kk nc) kk ((ns5 (l.take j)).map Value.string)) := by
                have h1 := row7_below HON0.out hb5
                rw [HNL.out] at h1
                exact h1
              have HBK5 := hm7 (HBK0.out.below hb5)
              have HOB5 := hm7 (row7_below HOB0.out hb5)
              have HOA5 := hm7 (row7_below HOA0.out hb5)
              have HB5 := hm7 (below_step HB0.out hb5)
              go_upto_region 14 with (at_builtin; refine gapp5 Tryz.underlying68 Tryz.infoStrT5 rfl (by decide) (by decide) rfl _ _ rfl w.heap.size (.slice na kk nc) kk ((ns5 (l.take j)).map Value.string) rfl HON5.out Z0.heap.size #[.string tx] rfl (Bk.new _ _ _) rfl (by simp [Value.oneCell']) (by omega) HB5.out.size ?_; intro g5 q5 Z ho5 hg5 hv5 hl5)
              have HON4 : Hid (Nl5 Z w.heap.size (.slice (some ⟨g5, 0, none⟩) (kk + 1) q5) (ns5 (l.take (j + 1)))) := by
                show Nl5 _ _ _ _
                rw [HN2.out, if_pos rfl]
                unfold Nl5
                rw [List.length_append, HNL.out, List.map_append]
                exact ho5
              have HBK3 := hm7 (bk_grow HBK5.out HON5.out hg5 (by decide))
              have HBK4 := hm7 HBK3.out
              have HOB4 : Hid (OwnB Z w.heap.size (.slice ba bl bc) (bt5 K 0 (fr5 l j))) := World.ownsRow.kept HOB5.out hg5 (row_ne HOB5.out HON5.out (by decide))
              have HOA4 := hm7 (World.ownsRow.kept HOA5.out hg5 (row_ne HOA5.out HON5.out (by decide)))
              have HB4 := hm7 (HB5.out.grown hg5 HB5.out.size fun k e => (World.ownsRow.lt HON5.out k e).1)
              clear ho5 hg5 hv5 hl5 HBK5 HOB5 HOA5 HB5 HON5 hb5 b1 HBK0 HOB0 HOA0 HON0 HB0 k3 i3
              have hq0 : kk ≤ 40000 := by omega
              obtain ⟨a0, ha0⟩ : ∃ z : Nat, kk % 26 = z := ⟨_, rfl⟩
              obtain ⟨a1, ha1⟩ : ∃ z : Nat, kk / 26 % 26 = z := ⟨_, rfl⟩
              obtain ⟨a2, ha2⟩ : ∃ z : Nat, kk / 676 % 26 = z := ⟨_, rfl⟩
              obtain ⟨a3, ha3⟩ : ∃ z : Nat, kk / 17576 % 26 = z := ⟨_, rfl⟩
              obtain ⟨p1, hp1⟩ : ∃ z : Nat, kk / 26 = z := ⟨_, rfl⟩
              obtain ⟨p2, hp2⟩ : ∃ z : Nat, kk / 676 = z := ⟨_, rfl⟩
              obtain ⟨p3, hp3⟩ : ∃ z : Nat, kk / 17576 = z := ⟨_, rfl⟩
              have t0 : (kk : Int).tmod 26 = (a0 : Int) := by rw [Int.tmod_eq_emod_of_nonneg (by omega)]; omega
              have q1 : (kk : Int).tdiv 26 = (p1 : Int) := by rw [Int.tdiv_eq_ediv_of_nonneg (by omega)]; omega
              have q2 : (kk : Int).tdiv 676 = (p2 : Int) := by rw [Int.tdiv_eq_ediv_of_nonneg (by omega)]; omega
              have q3 : (kk : Int).tdiv 17576 = (p3 : Int) := by rw [Int.tdiv_eq_ediv_of_nonneg (by omega)]; omega
              have t1 : (p1 : Int).tmod 26 = (a1 : Int) := by rw [Int.tmod_eq_emod_of_nonneg (by omega)]; omega
              have t2 : (p2 : Int).tmod 26 = (a2 : Int) := by rw [Int.tmod_eq_emod_of_nonneg (by omega)]; omega
              have t3 : (p3 : Int).tmod 26 = (a3 : Int) := by rw [Int.tmod_eq_emod_of_nonneg (by omega)]; omega
              have z0 : a0 ≤ 25 ∧ a1 ≤ 25 ∧ a2 ≤ 25 ∧ a3 ≤ 25 := by omega
              have z1 : p1 ≤ 40000 ∧ p2 ≤ 40000 ∧ p3 ≤ 40000 := by omega
              have HNQ : Hid (X = (⟨#[81, 95]⟩ : ByteArray) ++ ofL [97 + (a0 : Int), 97 + (a1 : Int), 97 + (a2 : Int), 97 + (a3 : Int)]) := by
                show _ = _
                rw [HX2.out]
                have e : blK (nq5 kk) = blK ((⟨#[81, 95]⟩ : ByteArray) ++ ofL [97 + (a0 : Int), 97 + (a1 : Int), 97 + (a2 : Int), 97 + (a3 : Int)]) := by
                  rw [bl_nq5, bl_appJ5, bl_ofL (l := [97 + (a0 : Int), 97 + (a1 : Int), 97 + (a2 : Int), 97 + (a3 : Int)]) (fun x hx => by simp only [List.mem_cons, List.not_mem_nil, or_false] at hx; omega), ha0, ha1, ha2, ha3]
                  rfl
                have h2 := congrArg ofL e
                rw [ofL_bl, ofL_bl] at h2
                exact h2
              have HBV := hm7 (below1 Z (.cells #[.int .u8 (97 + (a0 : Int)), .int .u8 (97 + (a1 : Int)), .int .u8 (97 + (a2 : Int)), .int .u8 (97 + (a3 : Int))] 5))
              have hcv : (convert 67 9 (.slice (some ⟨Z.heap.size, 0, none⟩) 4 4)).run Tryz.prog (Z.alloc (.cells #[.int .u8 (97 + (a0 : Int)), .int .u8 (97 + (a1 : Int)), .int .u8 (97 + (a2 : Int)), .int .u8 (97 + (a3 : Int))] 5)) = .ok (.string (ofL [97 + (a0 : Int), 97 + (a1 : Int), 97 + (a2 : Int), 97 + (a3 : Int)])) _ :=
                conv_bytes (base := 0) (l := [97 + (a0 : Int), 97 + (a1 : Int), 97 + (a2 : Int), 97 + (a3 : Int)]) ⟨rfl, Or.inr ⟨Z.heap.size, 4, _, rfl, Nat.zero_le _, Bk.new _ _ _, Nat.le_refl _, by unfold maxLen; omega, rfl, rfl⟩⟩ (by simp) (fun x hx => by simp only [List.mem_cons, List.not_mem_nil, or_false] at hx; omega)
              have hz4 : (ofL [97 + (a0 : Int), 97 + (a1 : Int), 97 + (a2 : Int), 97 + (a3 : Int)]).size = 4 := by rw [ofL_sz]; rfl
              obtain ⟨cv, hcv2⟩ : ∃ z, ofL [97 + (a0 : Int), 97 + (a1 : Int), 97 + (a2 : Int), 97 + (a3 : Int)] = z := ⟨_, rfl⟩
              rw [hcv2] at hcv hz4 HNQ
              have g4 : ¬ 9223372036854775807 < 2 + cv.size := by omega
              have b1 := (HBK3.out.below HBV.out).cell (i := 1) rfl
              have b1f := (HBK3.out.below HBV.out).froz 1
              clear ha0 ha1 ha2 ha3 hp1 hp2 hp3 hcv2
              go_upto_region 15 with fail
              have HBK5 := hm7 (HBK3.out.below HBV.out)
              have HON5 := hm7 (row7_below HON4.out HBV.out)
              have HOB5 := hm7 (row7_below HOB4.out HBV.out)
              have HOA5 := hm7 (row7_below HOA4.out HBV.out)
              have HBK2 : Hid (Bk ((Z.alloc (.cells #[.int .u8 (97 + (a0 : Int)), .int .u8 (97 + (a1 : Int)), .int .u8 (97 + (a2 : Int)), .int .u8 (97 + (a3 : Int))] 5)).setCell ⟨tb, 1, none⟩ (.string ((⟨#[81, 95]⟩ : ByteArray) ++ cv))) tb #[.int .i64 tk, .string X, .int .i64 tn, .int .i64 ta, .int .i64 te] 64) := by
                show Bk _ _ _ _
                rw [HNQ.out]
                exact HBK5.out.set 1 _
              have HON2 := hm7 (row_set (i := 1) (a := .string ((⟨#[81, 95]⟩ : ByteArray) ++ cv)) HON5.out HBK5.out (by decide))
              have HOB2 : Hid (OwnB _ w.heap.size (.slice ba bl bc) (bt5 K 0 (fr5 l j))) := hm7 (row_set (i := 1) (a := .string ((⟨#[81, 95]⟩ : ByteArray) ++ cv)) HOB5.out HBK5.out (by decide))
              have HOA2 := hm7 (row_set (i := 1) (a := .string ((⟨#[81, 95]⟩ : ByteArray) ++ cv)) HOA5.out HBK5.out (by decide))
              have HB2 := hm7 (Below.setCell (below_step HB4.out HBV.out) (p := ⟨tb, 1, none⟩) htb (.string ((⟨#[81, 95]⟩ : ByteArray) ++ cv)))
              clear HBK5 HON5 HOB5 HOA5 HBK3 HBK4 HON4 HOB4 HOA4 HB4 HBV b1 b1f hcv t0 t1 t2 t3 q1 q2 q3 z0 z1 g4
              generalize (Z.alloc (.cells #[.int .u8 (97 + (a0 : Int)), .int .u8 (97 + (a1 : Int)), .int .u8 (97 + (a2 : Int)), .int .u8 (97 + (a3 : Int))] 5)).setCell ⟨tb, 1, none⟩ (.string ((⟨#[81, 95]⟩ : ByteArray) ++ cv)) = Y2 at HBK2 HON2 HOB2 HOA2 HB2 ⊢
              have e0 := HBK2.out.cell (i := 0) rfl
              have e1 := HBK2.out.cell (i := 1) rfl
              have e2 := HBK2.out.cell (i := 2) rfl
              have e3 := HBK2.out.cell (i := 3) rfl
              have e4 := HBK2.out.cell (i := 4) rfl
              rw [HXR.out] at HSP HFS
              have HBT : Hid (bt5 K 0 (fr5 l (j + 1)) = bt5 K 0 (fr5 l j) ++ (blK (sp5 ⟨tk, X, tn, ta, te⟩) ++ blK (fl5 (K j)))) := by
                show _ = _
                rw [HFS.out, bt5_snoc, fr5_len (by have := HN.out; omega), Nat.zero_add]
              obtain ⟨S, hS⟩ : ∃ z, sp5 ⟨tk, X, tn, ta, te⟩ = z := ⟨_, rfl⟩
              rw [hS] at HBT HSP
              have hSz : bl + S.size + (fl5 (K j)).size ≤ 10000000 := by
                have h1 := congrArg List.length HBT.out
                rw [List.length_append, List.length_append, bl_len, bl_len, HBL.out] at h1
                have := HFR.out (j + 1)
                omega
              clear hS
              go_upto_region 16 with (go_at_call 37; refine (HSP.out _ (HE.out.later HB2.out)).mono ?_; rintro e W3 ⟨rfl, hb3⟩)
              have hA4 := below1 W3 (.cells #[.int .i64 (bl : Int)] 3)
              have hb34 := below_step hb3 hA4
              have HOB4 := hm7 (OwnB.later HOB2.out hb34)
              have HOA4 := hm7 (row7_below HOA2.out hb34)
              have HON4 := hm7 (row7_below HON2.out hb34)
              have HB4 := hm7 (below_step HB2.out hb34)
              clear e0 e1 e2 e3 e4 HBK2 HOB2 HOA2 HON2 HB2 hb3 hA4 hb34
              go_upto_region 17 with (at_builtin; refine gapp5 Tryz.underlying22 Tryz.infoInt5 rfl (by decide) (by decide) rfl _ _ rfl w.heap.size (.slice aa j ac) j (at5v K l j) rfl HOA4.out W3.heap.size #[.int .i64 (bl : Int)] rfl (Bk.new _ _ _) rfl (by simp [Value.oneCell']) (by omega) HB4.out.size ?_; intro g5 q5 w5 ho5 hg5 hv5 hl5)
              have HOA5 : Hid (w5.ownsRow w.heap.size 3 1 (.slice (some ⟨g5, 0, none⟩) (j + 1) q5) (j + 1) (at5v K l (j + 1))) := by
                show World.ownsRow _ _ _ _ _ _ _
                rw [at5v_succ, of5_len, Nat.zero_add, HBL.out]
                exact ho5
              have HOB5 : Hid (OwnB w5 w.heap.size (.slice ba bl bc) (bt5 K 0 (fr5 l j))) := World.ownsRow.kept HOB4.out hg5 (row_ne HOB4.out HOA4.out (by decide))
              have HON5 := hm7 (World.ownsRow.kept HON4.out hg5 (row_ne HON4.out HOA4.out (by decide)))
              have HB5 := hm7 (HB4.out.grown hg5 HB4.out.size fun k e => (World.ownsRow.lt HOA4.out k e).1)
              clear ho5 hg5 hv5 hl5 HOA4 HOB4 HON4 HB4
              go_upto_region 18 with (at_builtin; refine app_str5 rfl _ _ rfl w.heap.size (.slice ba bl bc) (bt5 K 0 (fr5 l j)) rfl HOB5.out S rfl (by rw [HBL.out]; omega) HB5.out.size ?_; intro v6 w6 ho6 hb6 hg6)
              have HOB6 := hm7 ho6
              have HOA6 := hm7 (World.ownsRow.kept HOA5.out hg6 (row_ne HOA5.out HOB5.out (by decide)))
              have HON6 := hm7 (World.ownsRow.kept HON5.out hg6 (row_ne HON5.out HOB5.out (by decide)))
              have HB6 := hm7 (HB5.out.trans hb6)
              clear ho6 hb6 hg6 HOB5 HOA5 HON5 HB5
              go_upto_if 100 with fail
              go_cut [16] from 100 to 107 (fun s16 wx => s16 = .int .i64 (K j) ∧ wx = w6)
              case first =>
                have hk2 : kh5 h j = K j := by rw [HK.out]
                unfold kh5 at hk2
                by_cases hnil : h = []
                · have hn0 : hn2 = 0 := by rw [← HHN.out, hnil]; rfl
                  have i5 : ¬ (0 : Int) < (hn2 : Int) := by omega
                  rw [hnil] at hk2
                  have hk3 : K j = 0 := hk2.symm
                  clear hk2 hnil hn0
                  go_wp2
                  go_meet
                  case rel => exact ⟨by rw [hk3], rfl⟩
                · have hp : 0 < hn2 := by rw [← HHN.out]; exact List.length_pos_iff.2 hnil
                  rw [HHN.out] at hk2
                  have hm : j % hn2 < hn2 := Nat.mod_lt _ hp
                  obtain ⟨x, hx⟩ : ∃ x, h[j % hn2]? = some x := ⟨_, List.getElem?_eq_getElem (by rw [HHN.out]; exact hm)⟩
                  rw [hx] at hk2
                  have hk3 : K j = x := hk2.symm
                  have hU : ∃ b o, ua = some ⟨b, o, none⟩ ∧ b < w.heap.size ∧ w.cell? ⟨b, o + j % hn2, none⟩ = some (.int .i64 x) := by
                    rcases HUM.out with e | ⟨b, o, e, h1, h2⟩
                    · exact absurd e hnil
                    · exact ⟨b, o, e, h1, h2 _ x hx⟩
                  obtain ⟨b2, o2, rfl, hb2, hc2⟩ := hU
                  have c0 := cell_step HB6.out hb2 hc2
                  have ht : Int.tmod (j : Int) (hn2 : Int) = ((j % hn2 : Nat) : Int) := by rw [Int.tmod_eq_emod_of_nonneg (by omega)]; exact (Int.natCast_emod j hn2).symm
                  obtain ⟨m, hmm⟩ : ∃ m, j % hn2 = m := ⟨_, rfl⟩
                  rw [hmm] at c0 ht hm
                  have hmj : m ≤ j := by rw [← hmm]; exact Nat.mod_le _ _
                  have hwt : IntKind.i64.wrap (m : Int) = (m : Int) := by rw [IntKind.wrap_i64]; omega
                  have hm0 : (0 : Int) ≤ (m : Int) := by omega
                  have hm1 : (m : Int) < (hn2 : Int) := by omega
                  have hpi : (0 : Int) < (hn2 : Int) := by omega
                  have hzi : ¬ (hn2 : Int) = 0 := by omega
                  clear hx hc2 hnil hmm hk2 hp hb2
                  go_wp2
                  go_meet
                  case rel => exact ⟨by rw [hk3], rfl⟩
              case rest =>
              obtain ⟨rfl, hw⟩ := hcut
              rw [hw]
              clear hw
              go_wp2_with (first
                | (go_at_call 38; refine (fill5_any _ _).mono ?_; rintro e w7 ⟨rfl, rfl⟩)
                | (at_builtin; refine app_str5 rfl _ _ rfl w.heap.size v6 (bt5 K 0 (fr5 l j) ++ blK S) rfl HOB6.out (fl5 (K j)) rfl (by rw [List.length_append, bl_len, HBL.out]; omega) HB6.out.size ?_; intro v8 w8 ho8 hb8 hg8; have HOB8 := hm7 ho8; have HB8 := hm7 hb8; have HG8 := hm7 hg8; clear ho8 hb8 hg8))
              try go_wp2
              go_roundg g
              case measure => omega
              case rel => exact ⟨j + 1, by omega, by go_num, by rw [HBT.out, ← List.append_assoc]; exact HOB8.out, World.ownsRow.kept HOA6.out HG8.out (row_ne HOA6.out HOB6.out (by decide)), World.ownsRow.kept HON6.out HG8.out (row_ne HON6.out HOB6.out (by decide)), HB6.out.trans HB8.out⟩
            · have hlt : kk < nl := by have := (List.getElem?_eq_some_iff.1 hqs).1; have := HNL.out; omega
              have hqe : ¬ kk = nl := by omega
              have i2 : (0 : Int) ≤ (kk : Int) := by omega
              have i3 : (kk : Int) < (nl : Int) := by omega
              have k3 : ((kk : Int) == (nl : Int)) = false := beq_eq_false_iff_ne.2 (by omega)
              obtain ⟨nb, nc', hne, hnb⟩ := own_some5 HON3.out (by have := HNL.out; omega)
              rw [HNL.out] at hne
              obtain ⟨rfl, rfl⟩ : na = some ⟨nb, 0, none⟩ ∧ nc = nc' := by
                injection hne with h1 h2 h3
                exact ⟨h1, h3⟩
              have f1 : wr.cell? ⟨nb, 0 + kk, none⟩ = some (.string tx) := row5_cell (m := (ns5 (l.take j)).length) (cap := nc) (by have := HON3.out; unfold Nl5 at this; rw [HNL.out] at this ⊢; exact this) (by rw [List.getElem?_map, hqs]; rfl)
              rw [Nat.zero_add] at f1
              clear hne hnb
              go_upto_region 10 with fail
              go_quiet (fail)
              go_upto_region 14 with fail
              have hzz := below_drewN (Below.refl wr.heap.size wr) nq
              have HBK4 := hm7 (HBK3.out.below hzz)
              have HOB4 := hm7 (OwnB.later HOB3.out hzz)
              have HOA4 := hm7 (row7_below HOA3.out hzz)
              have HON4 : Hid (Nl5 (wr.drewN nq) w.heap.size (.slice (some ⟨nb, 0, none⟩) nl nc) (ns5 (l.take (j + 1)))) := by
                show Nl5 _ _ _ _
                rw [HN2.out, if_neg hqe]
                exact row7_below HON3.out hzz
              have HB4 := hm7 (below_step HB3.out hzz)
              clear HBK3 HOB3 HOA3 HON3 HB3 hzz f1 k3 i2 i3
              generalize wr.drewN nq = Z at HBK4 HOB4 HOA4 HON4 HB4 ⊢
              have HBK3 := hm7 HBK4.out
              have hq0 : kk ≤ 40000 := by omega
              obtain ⟨a0, ha0⟩ : ∃ z : Nat, kk % 26 = z := ⟨_, rfl⟩
              obtain ⟨a1, ha1⟩ : ∃ z : Nat, kk / 26 % 26 = z := ⟨_, rfl⟩
              obtain ⟨a2, ha2⟩ : ∃ z : Nat, kk / 676 % 26 = z := ⟨_, rfl⟩
              obtain ⟨a3, ha3⟩ : ∃ z : Nat, kk / 17576 % 26 = z := ⟨_, rfl⟩
              obtain ⟨p1, hp1⟩ : ∃ z : Nat, kk / 26 = z := ⟨_, rfl⟩
              obtain ⟨p2, hp2⟩ : ∃ z : Nat, kk / 676 = z := ⟨_, rfl⟩
              obtain ⟨p3, hp3⟩ : ∃ z : Nat, kk / 17576 = z := ⟨_, rfl⟩
              have t0 : (kk : Int).tmod 26 = (a0 : Int) := by rw [Int.tmod_eq_emod_of_nonneg (by omega)]; omega
              have q1 : (kk : Int).tdiv 26 = (p1 : Int) := by rw [Int.tdiv_eq_ediv_of_nonneg (by omega)]; omega
              have q2 : (kk : Int).tdiv 676 = (p2 : Int) := by rw [Int.tdiv_eq_ediv_of_nonneg (by omega)]; omega
              have q3 : (kk : Int).tdiv 17576 = (p3 : Int) := by rw [Int.tdiv_eq_ediv_of_nonneg (by omega)]; omega
              have t1 : (p1 : Int).tmod 26 = (a1 : Int) := by rw [Int.tmod_eq_emod_of_nonneg (by omega)]; omega
              have t2 : (p2 : Int).tmod 26 = (a2 : Int) := by rw [Int.tmod_eq_emod_of_nonneg (by omega)]; omega
              have t3 : (p3 : Int).tmod 26 = (a3 : Int) := by rw [Int.tmod_eq_emod_of_nonneg (by omega)]; omega
              have z0 : a0 ≤ 25 ∧ a1 ≤ 25 ∧ a2 ≤ 25 ∧ a3 ≤ 25 := by omega
              have z1 : p1 ≤ 40000 ∧ p2 ≤ 40000 ∧ p3 ≤ 40000 := by omega
              have HNQ : Hid (X = (⟨#[81, 95]⟩ : ByteArray) ++ ofL [97 + (a0 : Int), 97 + (a1 : Int), 97 + (a2 : Int), 97 + (a3 : Int)]) := by
                show _ = _
                rw [HX2.out]
                have e : blK (nq5 kk) = blK ((⟨#[81, 95]⟩ : ByteArray) ++ ofL [97 + (a0 : Int), 97 + (a1 : Int), 97 + (a2 : Int), 97 + (a3 : Int)]) := by
                  rw [bl_nq5, bl_appJ5, bl_ofL (l := [97 + (a0 : Int), 97 + (a1 : Int), 97 + (a2 : Int), 97 + (a3 : Int)]) (fun x hx => by simp only [List.mem_cons, List.not_mem_nil, or_false] at hx; omega), ha0, ha1, ha2, ha3]
                  rfl
                have h2 := congrArg ofL e
                rw [ofL_bl, ofL_bl] at h2
                exact h2
              have HBV := hm7 (below1 Z (.cells #[.int .u8 (97 + (a0 : Int)), .int .u8 (97 + (a1 : Int)), .int .u8 (97 + (a2 : Int)), .int .u8 (97 + (a3 : Int))] 5))
              have hcv : (convert 67 9 (.slice (some ⟨Z.heap.size, 0, none⟩) 4 4)).run Tryz.prog (Z.alloc (.cells #[.int .u8 (97 + (a0 : Int)), .int .u8 (97 + (a1 : Int)), .int .u8 (97 + (a2 : Int)), .int .u8 (97 + (a3 : Int))] 5)) = .ok (.string (ofL [97 + (a0 : Int), 97 + (a1 : Int), 97 + (a2 : Int), 97 + (a3 : Int)])) _ :=
                conv_bytes (base := 0) (l := [97 + (a0 : Int), 97 + (a1 : Int), 97 + (a2 : Int), 97 + (a3 : Int)]) ⟨rfl, Or.inr ⟨Z.heap.size, 4, _, rfl, Nat.zero_le _, Bk.new _ _ _, Nat.le_refl _, by unfold maxLen; omega, rfl, rfl⟩⟩ (by simp) (fun x hx => by simp only [List.mem_cons, List.not_mem_nil, or_false] at hx; omega)
              have hz4 : (ofL [97 + (a0 : Int), 97 + (a1 : Int), 97 + (a2 : Int), 97 + (a3 : Int)]).size = 4 := by rw [ofL_sz]; rfl
              obtain ⟨cv, hcv2⟩ : ∃ z, ofL [97 + (a0 : Int), 97 + (a1 : Int), 97 + (a2 : Int), 97 + (a3 : Int)] = z := ⟨_, rfl⟩
              rw [hcv2] at hcv hz4 HNQ
              have g4 : ¬ 9223372036854775807 < 2 + cv.size := by omega
              have b1 := (HBK3.out.below HBV.out).cell (i := 1) rfl
              have b1f := (HBK3.out.below HBV.out).froz 1
              clear ha0 ha1 ha2 ha3 hp1 hp2 hp3 hcv2
              go_upto_region 15 with fail
              have HBK5 := hm7 (HBK3.out.below HBV.out)
              have HON5 := hm7 (row7_below HON4.out HBV.out)
              have HOB5 := hm7 (row7_below HOB4.out HBV.out)
              have HOA5 := hm7 (row7_below HOA4.out HBV.out)
              have HBK2 : Hid (Bk ((Z.alloc (.cells #[.int .u8 (97 + (a0 : Int)), .int .u8 (97 + (a1 : Int)), .int .u8 (97 + (a2 : Int)), .int .u8 (97 + (a3 : Int))] 5)).setCell ⟨tb, 1, none⟩ (.string ((⟨#[81, 95]⟩ : ByteArray) ++ cv))) tb #[.int .i64 tk, .string X, .int .i64 tn, .int .i64 ta, .int .i64 te] 64) := by
                show Bk _ _ _ _
                rw [HNQ.out]
                exact HBK5.out.set 1 _
              have HON2 := hm7 (row_set (i := 1) (a := .string ((⟨#[81, 95]⟩ : ByteArray) ++ cv)) HON5.out HBK5.out (by decide))
              have HOB2 : Hid (OwnB _ w.heap.size (.slice ba bl bc) (bt5 K 0 (fr5 l j))) := hm7 (row_set (i := 1) (a := .string ((⟨#[81, 95]⟩ : ByteArray) ++ cv)) HOB5.out HBK5.out (by decide))
              have HOA2 := hm7 (row_set (i := 1) (a := .string ((⟨#[81, 95]⟩ : ByteArray) ++ cv)) HOA5.out HBK5.out (by decide))
              have HB2 := hm7 (Below.setCell (below_step HB4.out HBV.out) (p := ⟨tb, 1, none⟩) htb (.string ((⟨#[81, 95]⟩ : ByteArray) ++ cv)))
              clear HBK5 HON5 HOB5 HOA5 HBK3 HBK4 HON4 HOB4 HOA4 HB4 HBV b1 b1f hcv t0 t1 t2 t3 q1 q2 q3 z0 z1 g4
              generalize (Z.alloc (.cells #[.int .u8 (97 + (a0 : Int)), .int .u8 (97 + (a1 : Int)), .int .u8 (97 + (a2 : Int)), .int .u8 (97 + (a3 : Int))] 5)).setCell ⟨tb, 1, none⟩ (.string ((⟨#[81, 95]⟩ : ByteArray) ++ cv)) = Y2 at HBK2 HON2 HOB2 HOA2 HB2 ⊢
              have e0 := HBK2.out.cell (i := 0) rfl
              have e1 := HBK2.out.cell (i := 1) rfl
              have e2 := HBK2.out.cell (i := 2) rfl
              have e3 := HBK2.out.cell (i := 3) rfl
              have e4 := HBK2.out.cell (i := 4) rfl
              rw [HXR.out] at HSP HFS
              have HBT : Hid (bt5 K 0 (fr5 l (j + 1)) = bt5 K 0 (fr5 l j) ++ (blK (sp5 ⟨tk, X, tn, ta, te⟩) ++ blK (fl5 (K j)))) := by
                show _ = _
                rw [HFS.out, bt5_snoc, fr5_len (by have := HN.out; omega), Nat.zero_add]
              obtain ⟨S, hS⟩ : ∃ z, sp5 ⟨tk, X, tn, ta, te⟩ = z := ⟨_, rfl⟩
              rw [hS] at HBT HSP
              have hSz : bl + S.size + (fl5 (K j)).size ≤ 10000000 := by
                have h1 := congrArg List.length HBT.out
                rw [List.length_append, List.length_append, bl_len, bl_len, HBL.out] at h1
                have := HFR.out (j + 1)
                omega
              clear hS
              go_upto_region 16 with (go_at_call 37; refine (HSP.out _ (HE.out.later HB2.out)).mono ?_; rintro e W3 ⟨rfl, hb3⟩)
              have hA4 := below1 W3 (.cells #[.int .i64 (bl : Int)] 3)
              have hb34 := below_step hb3 hA4
              have HOB4 := hm7 (OwnB.later HOB2.out hb34)
              have HOA4 := hm7 (row7_below HOA2.out hb34)
              have HON4 := hm7 (row7_below HON2.out hb34)
              have HB4 := hm7 (below_step HB2.out hb34)
              clear e0 e1 e2 e3 e4 HBK2 HOB2 HOA2 HON2 HB2 hb3 hA4 hb34
              go_upto_region 17 with (at_builtin; refine gapp5 Tryz.underlying22 Tryz.infoInt5 rfl (by decide) (by decide) rfl _ _ rfl w.heap.size (.slice aa j ac) j (at5v K l j) rfl HOA4.out W3.heap.size #[.int .i64 (bl : Int)] rfl (Bk.new _ _ _) rfl (by simp [Value.oneCell']) (by omega) HB4.out.size ?_; intro g5 q5 w5 ho5 hg5 hv5 hl5)
              have HOA5 : Hid (w5.ownsRow w.heap.size 3 1 (.slice (some ⟨g5, 0, none⟩) (j + 1) q5) (j + 1) (at5v K l (j + 1))) := by
                show World.ownsRow _ _ _ _ _ _ _
                rw [at5v_succ, of5_len, Nat.zero_add, HBL.out]
                exact ho5
              have HOB5 : Hid (OwnB w5 w.heap.size (.slice ba bl bc) (bt5 K 0 (fr5 l j))) := World.ownsRow.kept HOB4.out hg5 (row_ne HOB4.out HOA4.out (by decide))
              have HON5 := hm7 (World.ownsRow.kept HON4.out hg5 (row_ne HON4.out HOA4.out (by decide)))
              have HB5 := hm7 (HB4.out.grown hg5 HB4.out.size fun k e => (World.ownsRow.lt HOA4.out k e).1)
              clear ho5 hg5 hv5 hl5 HOA4 HOB4 HON4 HB4
              go_upto_region 18 with (at_builtin; refine app_str5 rfl _ _ rfl w.heap.size (.slice ba bl bc) (bt5 K 0 (fr5 l j)) rfl HOB5.out S rfl (by rw [HBL.out]; omega) HB5.out.size ?_; intro v6 w6 ho6 hb6 hg6)
              have HOB6 := hm7 ho6
              have HOA6 := hm7 (World.ownsRow.kept HOA5.out hg6 (row_ne HOA5.out HOB5.out (by decide)))
              have HON6 := hm7 (World.ownsRow.kept HON5.out hg6 (row_ne HON5.out HOB5.out (by decide)))
              have HB6 := hm7 (HB5.out.trans hb6)
              clear ho6 hb6 hg6 HOB5 HOA5 HON5 HB5
              go_upto_if 100 with fail
              go_cut [16] from 100 to 107 (fun s16 wx => s16 = .int .i64 (K j) ∧ wx = w6)
              case first =>
                have hk2 : kh5 h j = K j := by rw [HK.out]
                unfold kh5 at hk2
                by_cases hnil : h = []
                · have hn0 : hn2 = 0 := by rw [← HHN.out, hnil]; rfl
                  have i5 : ¬ (0 : Int) < (hn2 : Int) := by omega
                  rw [hnil] at hk2
                  have hk3 : K j = 0 := hk2.symm
                  clear hk2 hnil hn0
                  go_wp2
                  go_meet
                  case rel => exact ⟨by rw [hk3], rfl⟩
                · have hp : 0 < hn2 := by rw [← HHN.out]; exact List.length_pos_iff.2 hnil
                  rw [HHN.out] at hk2
                  have hm : j % hn2 < hn2 := Nat.mod_lt _ hp
                  obtain ⟨x, hx⟩ : ∃ x, h[j % hn2]? = some x := ⟨_, List.getElem?_eq_getElem (by rw [HHN.out]; exact hm)⟩
                  rw [hx] at hk2
                  have hk3 : K j = x := hk2.symm
                  have hU : ∃ b o, ua = some ⟨b, o, none⟩ ∧ b < w.heap.size ∧ w.cell? ⟨b, o + j % hn2, none⟩ = some (.int .i64 x) := by
                    rcases HUM.out with e | ⟨b, o, e, h1, h2⟩
                    · exact absurd e hnil
                    · exact ⟨b, o, e, h1, h2 _ x hx⟩
                  obtain ⟨b2, o2, rfl, hb2, hc2⟩ := hU
                  have c0 := cell_step HB6.out hb2 hc2
                  have ht : Int.tmod (j : Int) (hn2 : Int) = ((j % hn2 : Nat) : Int) := by rw [Int.tmod_eq_emod_of_nonneg (by omega)]; exact (Int.natCast_emod j hn2).symm
                  obtain ⟨m, hmm⟩ : ∃ m, j % hn2 = m := ⟨_, rfl⟩
                  rw [hmm] at c0 ht hm
                  have hmj : m ≤ j := by rw [← hmm]; exact Nat.mod_le _ _
                  have hwt : IntKind.i64.wrap (m : Int) = (m : Int) := by rw [IntKind.wrap_i64]; omega
                  have hm0 : (0 : Int) ≤ (m : Int) := by omega
                  have hm1 : (m : Int) < (hn2 : Int) := by omega
                  have hpi : (0 : Int) < (hn2 : Int) := by omega
                  have hzi : ¬ (hn2 : Int) = 0 := by omega
                  clear hx hc2 hnil hmm hk2 hp hb2
                  go_wp2
                  go_meet
                  case rel => exact ⟨by rw [hk3], rfl⟩
              case rest =>
              obtain ⟨rfl, hw⟩ := hcut
              rw [hw]
              clear hw
              go_wp2_with (first
                | (go_at_call 38; refine (fill5_any _ _).mono ?_; rintro e w7 ⟨rfl, rfl⟩)
                | (at_builtin; refine app_str5 rfl _ _ rfl w.heap.size v6 (bt5 K 0 (fr5 l j) ++ blK S) rfl HOB6.out (fl5 (K j)) rfl (by rw [List.length_append, bl_len, HBL.out]; omega) HB6.out.size ?_; intro v8 w8 ho8 hb8 hg8; have HOB8 := hm7 ho8; have HB8 := hm7 hb8; have HG8 := hm7 hg8; clear ho8 hb8 hg8))
              try go_wp2
              go_roundg g
              case measure => omega
              case rel => exact ⟨j + 1, by omega, by go_num, by rw [HBT.out, ← List.append_assoc]; exact HOB8.out, World.ownsRow.kept HOA6.out HG8.out (row_ne HOA6.out HOB6.out (by decide)), World.ownsRow.kept HON6.out HG8.out (row_ne HON6.out HOB6.out (by decide)), HB6.out.trans HB8.out⟩
    | zero =>
      obtain rfl : j = n := by omega
      have i1 : ¬ (j : Int) < (j : Int) := by omega
      have HST : Hid (bt5 K 0 (fr5 l j) = st5 K l) := by show _ = _; unfold st5 fr5; rw [← HN.out, List.take_length]
      have HOF : Hid (at5v K l (j + 1) = at5v K l j ++ [.int .i64 (bl : Int)]) := by show _ = _; rw [at5v_succ, of5_len, Nat.zero_add, HBL.out]
      have HBY := hm7 (st5_byt K l)
      obtain ⟨SS, hSS⟩ : ∃ z, ofL (st5 K l) = z := ⟨_, rfl⟩
      have HSS := hm7 hSS
      have HCV : Hid (∀ W : World, OwnB W w.heap.size (.slice ba bl bc) (bt5 K 0 (fr5 l j)) → (convert 67 9 (.slice ba bl bc)).run Tryz.prog W = .ok (.string SS) W) := fun W h => by rw [← hSS, ← HST.out]; exact conv_own5 h (by rw [HST.out]; exact HBY.out)
      clear hSS HM HUM HE HOK HFR HON HST HBY
      go_upto_region 22 with fail
      refine wp_region_held_drew (S := fun w' => OwnB w' w.heap.size (.slice ba bl bc) (bt5 K 0 (fr5 l j)) ∧ Below w.heap.size w w') (by kernel_rfl) ⟨OwnB.later HOB.out (Below.refl _ _).drew, HB.out.drew⟩ (fun hH => ?_)
      have HO1 := hm7 (row7_below HOA.out (Below.refl wr.heap.size wr).drew)
      revert hH HO1
      generalize wr.drew = V
      intro hH HO1
      refine wpAnyH_take (i := 0) (oi := ⟨_, _, _, _, _, _⟩) (v := .slice ba bl bc) rfl (by kernel_rfl) (by kernel_rfl) (by kernel_rfl) (fun _ _ _ h => h) (Or.inl ⟨by rfl, fun w' h => by clear h; go_simp⟩) hH ?_
      simp only [Act.put, List.setIfInBounds_toArray, List.set_cons_zero, List.set_cons_succ]
      refine wpAnyH_take (i := 1) (oi := ⟨_, _, _, _, _, _⟩) (v := .string SS) rfl (by kernel_rfl) (by kernel_rfl) (by kernel_rfl) (fun _ _ _ h => h) (Or.inl ⟨by rfl, fun w' h => by have q := HCV.out w' h.1; clear h; go_simp⟩) hH ?_
      simp only [Act.put, List.setIfInBounds_toArray, List.set_cons_zero, List.set_cons_succ]
      refine wpAnyH_take (i := 2) (oi := ⟨_, _, _, _, _, _⟩) (v := .slice aa j ac) rfl (by kernel_rfl) (by kernel_rfl) (by kernel_rfl) (fun _ _ _ h => h) (Or.inl ⟨by rfl, fun w' h => by clear h; go_simp⟩) hH ?_
      simp only [Act.put, List.setIfInBounds_toArray, List.set_cons_zero, List.set_cons_succ]
      refine wpAnyH_take (i := 3) (oi := ⟨_, _, _, _, _, _⟩) (v := .slice ba bl bc) rfl (by kernel_rfl) (by kernel_rfl) (by kernel_rfl) (fun _ _ _ h => h) (Or.inl ⟨by rfl, fun w' h => by clear h; go_simp⟩) hH ?_
      simp only [Act.put, List.setIfInBounds_toArray, List.set_cons_zero, List.set_cons_succ]
      refine wpAnyH_take (i := 4) (oi := ⟨_, _, _, _, _, _⟩) (v := .int .i64 (bl : Int)) rfl (by kernel_rfl) (by kernel_rfl) (by kernel_rfl) (fun _ _ _ h => h) (Or.inl ⟨by rfl, fun w' h => by clear h; go_simp⟩) hH ?_
      simp only [Act.put, List.setIfInBounds_toArray, List.set_cons_zero, List.set_cons_succ]
      refine wpAnyH_ready (rs := [5]) (by kernel_rfl) (by simp) ?_
      refine (AllReadyH.cons (o := ⟨_, _, _, _, _, _⟩) rfl (fun K0 hK => ?_) AllReadyH.nil)
      go_simp
      refine hK.out _ _ ⟨OwnB.later hH.1 (below1 _ _), below_step hH.2 (below1 _ _)⟩ (fun hH => ?_)
      clear hK K0
      try simp only [Act.put, List.setIfInBounds_toArray, List.set_cons_zero, List.set_cons_succ]
      have HO2 := hm7 (row7_below HO1.out (below1 V (.cells #[.int .i64 (bl : Int)] 3)))
      refine wpAnyH_ready (rs := [6]) (by kernel_rfl) (by simp) ?_
      refine (AllReadyH.cons (o := ⟨_, _, _, _, _, _⟩) rfl (fun K0 hK => ?_) AllReadyH.nil)
      refine stepQ6 Tryz.underlying22 Tryz.infoInt5 rfl (by decide) (by decide) rfl _ _ rfl w.heap.size (.slice aa j ac) j (at5v K l j) rfl (.slice (some ⟨V.heap.size, 0, none⟩) 1 1) 1 0 [.int .i64 (bl : Int)] rfl HO2.out ⟨rfl, Or.inr ⟨V.heap.size, 1, _, rfl, Nat.zero_le _, Bk.new _ _ _, Nat.le_refl _, by unfold maxLen; omega, rfl, rfl⟩⟩ (by simp [Value.oneCell']) (by omega) hH.2.size ?_
      intro v2 w2 ho2 hg2 hv2
      refine hK.out _ _ ⟨World.ownsRow.kept hH.1 hg2 (row_ne hH.1 HO2.out (by decide)), hH.2.grown hg2 hH.2.size (fun k e => (World.ownsRow.lt HO2.out k e).1)⟩ (fun hH => ?_)
      clear hK K0 hg2 hv2 HO1 HO2
      have HO3 := hm7 ho2
      clear ho2
      try simp only [Act.put, List.setIfInBounds_toArray, List.set_cons_zero, List.set_cons_succ]
      refine wpAnyH_take (i := 7) (oi := ⟨_, _, _, _, _, _⟩) (v := .string SS) rfl (by kernel_rfl) (by kernel_rfl) (by kernel_rfl) (fun _ _ _ h => h) (Or.inl ⟨by rfl, fun w' h => by clear h; go_simp⟩) hH ?_
      simp only [Act.put, List.setIfInBounds_toArray, List.set_cons_zero, List.set_cons_succ]
      refine wpAnyH_take (i := 8) (oi := ⟨_, _, _, _, _, _⟩) (v := v2) rfl (by kernel_rfl) (by kernel_rfl) (by kernel_rfl) (fun _ _ _ h => h) (Or.inl ⟨by rfl, fun w' h => by clear h; go_simp⟩) hH ?_
      simp only [Act.put, List.setIfInBounds_toArray, List.set_cons_zero, List.set_cons_succ]
      refine wpAnyH_done (by kernel_rfl) ?_ _
      have HV := hm7 hH.2
      clear hH HCV
      go_wp2
      exact bodyPost_ret (v := .tuple #[.string SS, v2]) (by simp [results, Tryz.results9, go_sem]) rfl ⟨v2, by rw [HSS.out], by rw [HOF.out]; exact HO3.out, HV.out⟩
end Go.Proofs.YtcpjiahdaplhlaaGreatDoor

/-
  ask. (Written by TO10.py.)
-/
import Derived.Test.YtnaiecemmhioeaaDoorTO9
import Derived.Test.YtnaiecemmhioeaaDoorS2
import Derived.Test.YtnaiecemmhioeaaDoorU6
import Derived.Test.YtnaiecemmhioeaaDoorC1
namespace Go.Proofs.YtnaiecemmhioeaaDoor
open Go.RowKit
attribute [local go_sem ↓] Go.wp_at_zero Go.wp_at_succ

theorem five9 {w : World} {g : Nat} {a b c d e : Value} {t : TypeId} (h : Blk w g #[a, b, c, d, e] t) : w.cell? ⟨g, 0, none⟩ = some a ∧ w.cell? ⟨g, 1, none⟩ = some b ∧ w.cell? ⟨g, 2, none⟩ = some c ∧ w.cell? ⟨g, 3, none⟩ = some d ∧ w.cell? ⟨g, 4, none⟩ = some e :=
  ⟨cell_of_row _ _ _ _ _ _ h, cell_of_row _ _ _ _ _ _ h, cell_of_row _ _ _ _ _ _ h, cell_of_row _ _ _ _ _ _ h, cell_of_row _ _ _ _ _ _ h⟩
theorem mk_v {k n : Int} {s nm : ByteArray} {l : List Tm} {x : Value} : (At.mk ⟨k, n, s⟩ nm l).v x = .agg #[.int .i64 k, .int .i64 n, .string s, .string nm, x] := rfl
theorem ownT_ts9 {w : World} {base : Nat} {v : Value} {l : List Tm} (h : OwnT w base v l) (hl : l.length < 1000000000000000000) : Ts w v l := by
  have hh := h
  rcases h.2 with ⟨rfl, hn⟩ | ⟨g, cap, cur, rfl, hb, hg, -⟩
  · exact ⟨none, 0, by rw [hn], hl, Or.inl (List.length_eq_zero_iff.1 hn)⟩
  · refine ⟨_, cap, rfl, hl, Or.inr ⟨g, 0, rfl, (Array.getElem?_eq_some_iff.1 hg).1, fun i t ht => ?_⟩⟩
    simpa using ownT_cells hh i t ht
theorem ics_enc (l : List Int) : ics l = l.flatMap encI := by
  induction l with
  | nil => rfl
  | cons x l ih => rw [List.flatMap_cons, ← ih]; rfl
/-- A list of binds that a call answers: whatever it is. -/
def Bq (S : Nat) (w' : World) (e : Ending) : Prop := ∃ a c b, ∃ l : List Bd, e = .returned (.tuple #[.slice a l.length c, .bool b]) ∧ w'.ownsRow S 43 4 (.slice a l.length c) l.length (l.flatMap Bd.cs) ∧ l.length ≤ 1100000000000
theorem bq_nil (S : Nat) (w' : World) : Bq S w' (.returned (.tuple #[.slice none 0 0, .bool false])) := ⟨none, 0, false, [], rfl, World.ownsRow_nil _ _ _ _, by simp⟩
theorem bq_own {S : Nat} {w' : World} {v : Value} {l : List Bd} (h : Own w' S v l) (hl : l.length ≤ 1100000000000) : Bq S w' (.returned (.tuple #[v, .bool true])) := by
  obtain ⟨a, c, rfl⟩ := own_form9 h
  exact ⟨a, c, true, l, rfl, h, hl⟩
theorem mpost_q {X w' : World} {r : Option (List Bd)} {e : Ending} (h : MPost X r e w') (hr : ∀ out, r = some out → out.length ≤ 1100000000000) : Bq X.heap.size w' e ∧ Below X.heap.size X w' := by
  obtain ⟨hb, h⟩ := h
  refine ⟨?_, hb⟩
  cases r with
  | none => simp only at h; rw [h]; exact bq_nil _ _
  | some out =>
    simp only at h
    obtain ⟨v', out', rfl, ho, hp, -⟩ := h
    exact bq_own ho (by rw [hp.length_eq]; exact hr out rfl)
theorem upost_q {X w' : World} {a b : At} {e : Ending} (h : UPost X a b e w') : Bq X.heap.size w' e ∧ Below X.heap.size X w' := by
  obtain ⟨hb, h⟩ := h
  refine ⟨?_, hb⟩
  rcases h with ⟨-, rfl⟩ | ⟨-, j, t, u, T, T', rt, rt', -, -, -, rfl⟩ | ⟨-, T, rt, -, -, rfl⟩ | ⟨-, T, rt, v', out, -, -, -, rfl, ho, hp, -, hT⟩
  · exact bq_nil _ _
  · exact bq_nil _ _
  · exact bq_nil _ _
  · exact bq_own ho (by have := bnd_len T rt T.length; rw [hp.length_eq]; omega)
theorem orow_kept {X Y : World} {B K n : Nat} {ity : TypeId} {q : Value} {cs : List Value} {row : Option Nat} (h : X.ownsRow B ity K q n cs) (hg : X.grownBy Y row) (hne : ∀ b, row = some b → ∃ cur ty, X.heap[b]? = some (.cells cur ty (0, 0)) ∧ ty ≠ ity) : Y.ownsRow B ity K q n cs :=
  own_kept h hg fun b hb e => by
    obtain ⟨cur, ty, h4, h5⟩ := hne b e
    obtain ⟨-, cur2, hc⟩ := own_block h hb
    rw [h4] at hc
    simp only [Option.some.injEq, Obj.cells.injEq] at hc
    exact h5 hc.2.1
/-- The boxes, what Apply answered, the lists of binds that were answered. -/
structure Bx9 (B P M Z : Nat) (C D E : Array Value) (S0 : Nat) (yv : Value) (ml : List Tm) (qb : List (Value × Nat)) (X : World) : Prop where
  p : Blk X P C 26
  a : Blk X (P + 1) D 26
  e : Blk X M E 26
  y : X.ownsRow S0 23 3 yv ml.length (ml.flatMap Tm.cs)
  q : Nw 43 4 Bd.cs X B Z qb
theorem Bx9.kept {B P M Z S0 : Nat} {C D E : Array Value} {yv : Value} {ml : List Tm} {qb : List (Value × Nat)} {X Y : World} {row : Option Nat} (h : Bx9 B P M Z C D E S0 yv ml qb X) (hg : X.grownBy Y row) (hne : ∀ b, row = some b → ∃ cur ty, X.heap[b]? = some (.cells cur ty (0, 0)) ∧ ty ≠ 26 ∧ ty ≠ 23 ∧ ty ≠ 43) : Bx9 B P M Z C D E S0 yv ml qb Y :=
  ⟨h.p.grown9 hg fun b e => by obtain ⟨c, t, h1, h2, -⟩ := hne b e; exact ⟨c, t, h1, h2⟩, h.a.grown9 hg fun b e => by obtain ⟨c, t, h1, h2, -⟩ := hne b e; exact ⟨c, t, h1, h2⟩, h.e.grown9 hg fun b e => by obtain ⟨c, t, h1, h2, -⟩ := hne b e; exact ⟨c, t, h1, h2⟩,
   orow_kept h.y hg fun b e => by obtain ⟨c, t, h1, -, h2, -⟩ := hne b e; exact ⟨c, t, h1, h2⟩, h.q.kept hg fun b e => by obtain ⟨c, t, h1, -, -, h2⟩ := hne b e; exact ⟨c, t, h1, h2⟩⟩
theorem Bx9.later {B P M Z S0 : Nat} {C D E : Array Value} {yv : Value} {ml : List Tm} {qb : List (Value × Nat)} {X Y : World} (h : Bx9 B P M Z C D E S0 yv ml qb X) (hb : Below X.heap.size X Y) : Bx9 B P M Z C D E S0 yv ml qb Y := h.kept (gb_below hb) (fun b e => by cases e)
theorem Bx9.more {B P M Z S0 Lb f : Nat} {C D E L : Array Value} {yv u v' : Value} {ml : List Tm} {qb : List (Value × Nat)} {X Y : World} {oty : TypeId} (h : Bx9 B P M Z C D E S0 yv ml qb X) (hg : X.grownBy Y u.ownBlock) (hu : ∀ b, u.ownBlock = some b → ∃ cur, X.heap[b]? = some (.cells cur oty (0, 0))) (h1 : oty ≠ 26 ∧ oty ≠ 23 ∧ oty ≠ 43) (hl : Blk Y Lb L 36) : Bx9 B P M Z C D E S0 yv ml qb (Y.setCell ⟨Lb, f, none⟩ v') :=
  (h.kept hg fun b e => by obtain ⟨c, hc⟩ := hu b e; exact ⟨c, oty, hc, h1⟩).kept (grown_put Y Lb f v') fun b e => by cases e; exact ⟨_, _, hl, by decide, by decide, by decide⟩
/-- One list of binds more. -/
theorem Bx9.snoc {B P M Z S0 S : Nat} {C D E : Array Value} {yv q : Value} {ml : List Tm} {qb : List (Value × Nat)} {X : World} {l : List Bd} (h : Bx9 B P M Z C D E S0 yv ml qb X) (hS : ∀ x ∈ qb, ∀ b, x.1.ownBlock = some b → b < S) (hB : B ≤ S) (hZ : Z ≤ S) (hq : X.ownsRow S 43 4 q l.length (l.flatMap Bd.cs)) : Bx9 B P M Z C D E S0 yv ml (qb ++ [(q, l.length)]) X :=
  ⟨h.p, h.a, h.e, h.y, h.q.snoc hS hB hZ hq⟩
theorem wl9B {ops : Array Oper} {rest : List Oper} {o : Oper} {a : Act} {w : World} {Q : Exit → Act → World → Prop} (hgd : o.guard = none) (s x : Operand)
    (ho : o.op = .call { callee := .builtin .append, args := #[s, x], argTypes := #[33, 33] }) (base : Nat) (v : Value) (n : Nat) (xs : List Value) (hs : a.eval s = v) (hown : w.ownsRow base 28 1 v n xs)
    (b k : Nat) (hk : 0 < k) (news : Array Value) (hx : a.eval x = .slice (some ⟨b, 0, none⟩) k k) (hl : news.size = k * 1) (hblk : w.heap[b]? = some (.cells news 28 (0, 0))) (h1 : ∀ u ∈ news.toList, u.oneCell' = true)
    (h63 : n + k ≤ 1000000000000) (hbase : base ≤ w.heap.size)
    (h : ∀ g cap w', w'.ownsRow base 28 1 (.slice (some ⟨g, 0, none⟩) (n + k) cap) (n + k) (xs ++ news.toList) → w.grownBy w' v.ownBlock → wpList Tryd.prog ops Q rest (a.put o.dst (.slice (some ⟨g, 0, none⟩) (n + k) cap)) w') : wpList Tryd.prog ops Q (o :: rest) a w := by
  obtain ⟨i0, hi0, hz0, hz1, hz2⟩ := info_parts Tryd.infoBinding9
  exact wpList_append_lies _ hgd s x 33 ho base 28 i0 _ 1 24 Tryd.underlying33 hi0 hz0 hz1 hz2 rfl (by omega) v n xs hs hown ⟨b, 0, none⟩ k k news.toList hx (by rw [Array.length_toList, hl]) (World.news_of_block hblk) h1 hk (by unfold maxLen; omega) (by omega) hbase _ rfl (fun g cap w' h2 h3 _ _ => h g cap w' h2 h3)
set_option maxRecDepth 20000 in
set_option maxHeartbeats 20000000 in
theorem ask_go (pk pn ak an : Int) (ps pm az am : ByteArray) (pl al : List Tm) (s : List Bd) (x y v : Value) (W w : World) (Lb : Nat) (vT vB vN : Value) (ts bs ns : List (Value × Nat))
    (h : AL W W.heap.size Lb vT vB vN ts bs ns w Tr Tr Tr) (hL : W.heap.size ≤ Lb) (hx : Ts W x pl) (hy : Ts W y al) (hv : Bs W v s) (h1 : pl.length ≤ 100000000000) (h2 : s.length ≤ 100000000000) (h3 : ts.length ≤ 900) (h4 : bs.length ≤ 900) (h5 : ns.length ≤ 900) :
    Calls Tryd.prog 6 #[.pointer (some ⟨Lb, 0, none⟩), (At.mk ⟨pk, pn, ps⟩ pm pl).v x, (At.mk ⟨ak, an, az⟩ am al).v y, v] w fun e w' => e = .returned (.tuple #[]) ∧ ∃ vT' vB' vN' q1 q2 q3,
      AL W W.heap.size Lb vT' vB' vN' (ts ++ q1) (bs ++ q2) (ns ++ q3) w' Tr Tr Tr ∧ q1.length = 1 ∧ q2.length = 3 ∧ q3.length = 2 ∧ (∀ q ∈ q1, q.2 ≤ 1100000000000) ∧ (∀ q ∈ q2, q.2 ≤ 1100000000000) ∧ (∀ q ∈ q3, q.2 ≤ 1100000000000) := by
  have HAP : Hid (∀ X : World, Below W.heap.size W X → Calls Tryd.prog 12 #[v, .agg #[.int .i64 pk, .int .i64 pn, .string ps, .string pm, x]] X fun e w' => ∃ y, e = .returned ((At.mk (become s ⟨pk, pn, ps⟩) pm (pl.map (become s))).v y) ∧ OwnT w' X.heap.size y (pl.map (become s)) ∧ Below X.heap.size X w') := fun X hX => applyO_any s v ⟨⟨pk, pn, ps⟩, pm, pl⟩ x X (hv.later hX) (hx.later hX) (by simp only; omega)
  have HM1 : Hid (∀ X : World, Below W.heap.size W X → Calls Tryd.prog 13 #[.agg #[.int .i64 pk, .int .i64 pn, .string ps, .string pm, x], .agg #[.int .i64 ak, .int .i64 an, .string az, .string am, y], v] X fun e w' => Bq X.heap.size w' e ∧ Below X.heap.size X w') := fun X hX => (match_all ⟨⟨pk, pn, ps⟩, pm, pl⟩ ⟨⟨ak, an, az⟩, am, al⟩ s x y v X (hx.later hX) (hy.later hX) (hv.later hX) (by simp only; omega)).mono fun e w' hp => mpost_q hp fun out ho => by have := mRes_len _ _ _ _ ho; simp only at this; omega
  have HM2 : Hid (∀ (X : World) (q : At) (z : Value), Below W.heap.size W X → Ts X z q.args → Calls Tryd.prog 13 #[.agg #[.int .i64 pk, .int .i64 pn, .string ps, .string pm, x], q.v z, v] X fun e w' => Bq X.heap.size w' e ∧ Below X.heap.size X w') := fun X q z hX hz => (match_all ⟨⟨pk, pn, ps⟩, pm, pl⟩ q s x z v X (hx.later hX) hz (hv.later hX) (by simp only; omega)).mono fun e w' hp => mpost_q hp fun out ho => by have := mRes_len _ _ _ _ ho; simp only at this; omega
  have HUN : Hid (∀ X : World, Below W.heap.size W X → Calls Tryd.prog 14 #[.agg #[.int .i64 pk, .int .i64 pn, .string ps, .string pm, x], .agg #[.int .i64 ak, .int .i64 an, .string az, .string am, y]] X fun e w' => Bq X.heap.size w' e ∧ Below X.heap.size X w') := fun X hX => (unify_any say_ok ⟨⟨pk, pn, ps⟩, pm, pl⟩ ⟨⟨ak, an, az⟩, am, al⟩ x y X (hx.later hX) (hy.later hX) (by simp only; omega)).mono fun e w' hp => upost_q hp
  have HVA : Hid (∀ X : World, Below W.heap.size W X → Calls Tryd.prog 15 #[.agg #[.int .i64 pk, .int .i64 pn, .string ps, .string pm, x]] X fun e w' => ∃ v', e = .returned v' ∧ OwnI w' X.heap.size v' (vs (At.pl ⟨⟨pk, pn, ps⟩, pm, pl⟩)) ∧ Below X.heap.size X w') := fun X hX => vars_any ⟨⟨pk, pn, ps⟩, pm, pl⟩ x X (hx.later hX) (by simp only; omega)
  have HLP : Hid ((vs (At.pl ⟨⟨pk, pn, ps⟩, pm, pl⟩)).length ≤ 1100000000000) := by have := vs_len (At.pl ⟨⟨pk, pn, ps⟩, pm, pl⟩); have h9 : (At.pl ⟨⟨pk, pn, ps⟩, pm, pl⟩).length = pl.length + 1 := rfl; show _ ≤ _; omega
  generalize vs (At.pl ⟨⟨pk, pn, ps⟩, pm, pl⟩) = LP at HLP HVA
  have HLT : Hid ((∀ x ∈ ts, ∀ b, x.1.ownBlock = some b → b < w.heap.size) ∧ (∀ x ∈ bs, ∀ b, x.1.ownBlock = some b → b < w.heap.size) ∧ (∀ x ∈ ns, ∀ b, x.1.ownBlock = some b → b < w.heap.size)) := ⟨h.t.lt, h.b'.lt, h.n.lt⟩
  have HWZ : Hid (W.heap.size ≤ w.heap.size) := h.z
  have HLB : Hid (W.heap.size ≤ Lb) := hL
  have HQ0 : Hid (Blk ((w.alloc (.cells #[.int .i64 pk, .int .i64 pn, .string ps, .string pm, x] 26)).alloc (.cells #[.int .i64 ak, .int .i64 an, .string az, .string am, y] 26)) w.heap.size #[.int .i64 pk, .int .i64 pn, .string ps, .string pm, x] 26 ∧ Blk ((w.alloc (.cells #[.int .i64 pk, .int .i64 pn, .string ps, .string pm, x] 26)).alloc (.cells #[.int .i64 ak, .int .i64 an, .string az, .string am, y] 26)) (w.heap.size + 1) #[.int .i64 ak, .int .i64 an, .string az, .string am, y] 26 ∧ Below w.heap.size w ((w.alloc (.cells #[.int .i64 pk, .int .i64 pn, .string ps, .string pm, x] 26)).alloc (.cells #[.int .i64 ak, .int .i64 an, .string az, .string am, y] 26))) := ⟨Blk.old _ _ _ _, Blk.new2 _ _ _ _, below2 _ _ _⟩
  have HA0 : Hid (AL W W.heap.size Lb vT vB vN ts bs ns ((w.alloc (.cells #[.int .i64 pk, .int .i64 pn, .string ps, .string pm, x] 26)).alloc (.cells #[.int .i64 ak, .int .i64 an, .string az, .string am, y] 26)) Tr Tr Tr) := h.later (below2 _ _ _)
  clear h hx hy hv hL
  rw [mk_v, mk_v]
  generalize hmd : At.mk (become s ⟨pk, pn, ps⟩) pm (pl.map (become s)) = MD at HAP
  have hml : MD.args = pl.map (become s) := by rw [← hmd]
  have hmn : MD.args.length = pl.length := by rw [hml, List.length_map]
  rw [← hml] at HAP
  clear hmd hml
  obtain ⟨⟨mk, mn, ms⟩, mm, ml⟩ := MD
  simp only at hmn HAP
  have HLM : Hid (∃ LM, vs (At.pl ⟨⟨mk, mn, ms⟩, mm, ml⟩) = LM ∧ LM.length ≤ 1100000000000) := ⟨_, rfl, by have := vs_len (At.pl ⟨⟨mk, mn, ms⟩, mm, ml⟩); have h9 : (At.pl ⟨⟨mk, mn, ms⟩, mm, ml⟩).length = ml.length + 1 := rfl; omega⟩
  obtain ⟨LM, HLM⟩ := HLM.out
  have HLM : Hid (vs (At.pl ⟨⟨mk, mn, ms⟩, mm, ml⟩) = LM ∧ LM.length ≤ 1100000000000) := HLM
  go_enter Tryd.func6, Tryd.ntmps6
  go_upto_region 1 with fail
  revert HA0 HQ0
  generalize (w.alloc (.cells #[.int .i64 pk, .int .i64 pn, .string ps, .string pm, x] 26)).alloc (.cells #[.int .i64 ak, .int .i64 an, .string az, .string am, y] 26) = V0
  intro HQ0 HA0
  obtain ⟨c0, c1, c2, c3, c4⟩ := five9 HQ0.out.1
  go_upto_region 2 with (go_at_call 12; refine (HAP.out _ HA0.out.b).mono ?_; clear HAP; rintro e V1 ⟨y1, rfl, hy1, hb1⟩; obtain ⟨ya, yc, e9⟩ := own_form9 hy1; rw [hmn] at e9; subst e9; rw [mk_v]; have HY1 : Hid (OwnT V1 V0.heap.size (.slice ya pl.length yc) ml ∧ Below V0.heap.size V0 V1) := ⟨hy1, hb1⟩; clear hy1 hb1)
  have HZ0 : Hid (w.heap.size ≤ V0.heap.size) := HQ0.out.2.2.size
  have HS0 : Hid (W.heap.size ≤ V0.heap.size ∧ w.heap.size ≤ V0.heap.size) := ⟨Nat.le_trans HWZ.out HZ0.out, HZ0.out⟩
  have HX0 : Hid (Bx9 W.heap.size w.heap.size V1.heap.size w.heap.size #[.int .i64 pk, .int .i64 pn, .string ps, .string pm, x] #[.int .i64 ak, .int .i64 an, .string az, .string am, y] #[.int .i64 mk, .int .i64 mn, .string ms, .string mm, (.slice ya pl.length yc)] V0.heap.size (.slice ya pl.length yc) ml [] (V1.alloc (.cells #[.int .i64 mk, .int .i64 mn, .string ms, .string mm, (.slice ya pl.length yc)] 26))) := ⟨(HQ0.out.1.later HY1.out.2).later (below1 _ _), (HQ0.out.2.1.later HY1.out.2).later (below1 _ _), Blk.new _ _ _, HY1.out.1.later (below1 _ _), Nw.nil⟩
  have HA1 : Hid (AL W W.heap.size Lb vT vB vN ts bs ns (V1.alloc (.cells #[.int .i64 mk, .int .i64 mn, .string ms, .string mm, (.slice ya pl.length yc)] 26)) Tr Tr Tr) := (HA0.out.later HY1.out.2).later (below1 _ _)
  have HZ1 : Hid (w.heap.size ≤ (V1.alloc (.cells #[.int .i64 mk, .int .i64 mn, .string ms, .string mm, (.slice ya pl.length yc)] 26)).heap.size) := Nat.le_trans HZ0.out (Nat.le_trans HY1.out.2.size (below1 _ _).size)
  clear c0 c1 c2 c3 c4 HA0 HQ0 HY1 HZ0
  revert HX0 HA1 HZ1 HS0
  generalize V1.alloc (.cells #[.int .i64 mk, .int .i64 mn, .string ms, .string mm, (.slice ya pl.length yc)] 26) = V2
  generalize V1.heap.size = M
  generalize V0.heap.size = S0
  intro HS0 HX0 HA1 HZ1
  obtain ⟨c0, c1, c2, c3, c4⟩ := five9 HX0.out.p
  obtain ⟨d0, d1, d2, d3, d4⟩ := five9 HX0.out.a
  obtain ⟨e0, e1, e2, e3, e4⟩ := five9 HX0.out.e
  go_upto_region 3 with (go_at_call 13; refine (HM1.out _ HA1.out.b).mono ?_; rintro e V3 ⟨⟨qa1, qc1, qo1, ql1, rfl, hq, hl1⟩, hb⟩; have HX1 : Hid (Bx9 W.heap.size w.heap.size M w.heap.size #[.int .i64 pk, .int .i64 pn, .string ps, .string pm, x] #[.int .i64 ak, .int .i64 an, .string az, .string am, y] #[.int .i64 mk, .int .i64 mn, .string ms, .string mm, (.slice ya pl.length yc)] S0 (.slice ya pl.length yc) ml ([] ++ [(.slice qa1 ql1.length qc1, ql1.length)]) V3) := (HX0.out.later hb).snoc HX0.out.q.lt (Nat.le_trans HWZ.out HZ1.out) HZ1.out hq; have HA2 : Hid (AL W W.heap.size Lb vT vB vN ts bs ns V3 Tr Tr Tr) := HA1.out.later hb; have HZ2 : Hid (w.heap.size ≤ V3.heap.size) := Nat.le_trans HZ1.out hb.size; clear hq hb)
  clear c0 c1 c2 c3 c4 d0 d1 d2 d3 d4 e0 e1 e2 e3 e4
  clear HX0 HA1 HZ1
  obtain ⟨c0, c1, c2, c3, c4⟩ := five9 HX1.out.p
  obtain ⟨d0, d1, d2, d3, d4⟩ := five9 HX1.out.a
  obtain ⟨e0, e1, e2, e3, e4⟩ := five9 HX1.out.e
  go_upto_region 4 with (go_at_call 13; refine (HM2.out _ ⟨⟨mk, mn, ms⟩, mm, ml⟩ (.slice ya pl.length yc) HA2.out.b (ownT_ts9 HX1.out.y (by simp only; omega))).mono ?_; rintro e V4 ⟨⟨qa2, qc2, qo2, ql2, rfl, hq, hl2⟩, hb⟩; have HX2 : Hid (Bx9 W.heap.size w.heap.size M w.heap.size #[.int .i64 pk, .int .i64 pn, .string ps, .string pm, x] #[.int .i64 ak, .int .i64 an, .string az, .string am, y] #[.int .i64 mk, .int .i64 mn, .string ms, .string mm, (.slice ya pl.length yc)] S0 (.slice ya pl.length yc) ml (([] ++ [(.slice qa1 ql1.length qc1, ql1.length)]) ++ [(.slice qa2 ql2.length qc2, ql2.length)]) V4) := (HX1.out.later hb).snoc HX1.out.q.lt (Nat.le_trans HWZ.out HZ2.out) HZ2.out hq; have HA3 : Hid (AL W W.heap.size Lb vT vB vN ts bs ns V4 Tr Tr Tr) := HA2.out.later hb; have HZ3 : Hid (w.heap.size ≤ V4.heap.size) := Nat.le_trans HZ2.out hb.size; clear hq hb)
  clear c0 c1 c2 c3 c4 d0 d1 d2 d3 d4 e0 e1 e2 e3 e4
  clear HX1 HA2 HZ2
  obtain ⟨c0, c1, c2, c3, c4⟩ := five9 HX2.out.p
  obtain ⟨d0, d1, d2, d3, d4⟩ := five9 HX2.out.a
  obtain ⟨e0, e1, e2, e3, e4⟩ := five9 HX2.out.e
  go_upto_region 5 with (go_at_call 14; refine (HUN.out _ HA3.out.b).mono ?_; rintro e V5 ⟨⟨qa3, qc3, qo3, ql3, rfl, hq, hl3⟩, hb⟩; have HX3 : Hid (Bx9 W.heap.size w.heap.size M w.heap.size #[.int .i64 pk, .int .i64 pn, .string ps, .string pm, x] #[.int .i64 ak, .int .i64 an, .string az, .string am, y] #[.int .i64 mk, .int .i64 mn, .string ms, .string mm, (.slice ya pl.length yc)] S0 (.slice ya pl.length yc) ml ((([] ++ [(.slice qa1 ql1.length qc1, ql1.length)]) ++ [(.slice qa2 ql2.length qc2, ql2.length)]) ++ [(.slice qa3 ql3.length qc3, ql3.length)]) V5) := (HX2.out.later hb).snoc HX2.out.q.lt (Nat.le_trans HWZ.out HZ3.out) HZ3.out hq; have HA4 : Hid (AL W W.heap.size Lb vT vB vN ts bs ns V5 Tr Tr Tr) := HA3.out.later hb; have HZ4 : Hid (w.heap.size ≤ V5.heap.size) := Nat.le_trans HZ3.out hb.size; clear hq hb)
  clear c0 c1 c2 c3 c4 d0 d1 d2 d3 d4 e0 e1 e2 e3 e4
  clear HX2 HA3 HZ3
  have HQB : Hid (∃ QB : List (Value × Nat), QB = [(.slice qa1 ql1.length qc1, ql1.length), (.slice qa2 ql2.length qc2, ql2.length), (.slice qa3 ql3.length qc3, ql3.length)]) := ⟨_, rfl⟩
  obtain ⟨QB, hQB⟩ := HQB.out
  have HX4 : Hid (Bx9 W.heap.size w.heap.size M w.heap.size #[.int .i64 pk, .int .i64 pn, .string ps, .string pm, x] #[.int .i64 ak, .int .i64 an, .string az, .string am, y] #[.int .i64 mk, .int .i64 mn, .string ms, .string mm, (.slice ya pl.length yc)] S0 (.slice ya pl.length yc) ml QB V5) := by rw [hQB]; exact HX3.out
  clear HX3 HQB
  obtain ⟨ta, tc, rfl⟩ := own_form9 HA4.out.t.o
  have HV : Hid (Below V5.heap.size V5 V5.drew) := (Below.refl _ _).drew
  refine wp_region_held_drew (S := fun w' => Blk w' M #[.int .i64 mk, .int .i64 mn, .string ms, .string mm, (.slice ya pl.length yc)] 26) (by kernel_rfl) HX4.out.e (fun hH => ?_)
  have HX5 : Hid (Bx9 W.heap.size w.heap.size M w.heap.size #[.int .i64 pk, .int .i64 pn, .string ps, .string pm, x] #[.int .i64 ak, .int .i64 an, .string az, .string am, y] #[.int .i64 mk, .int .i64 mn, .string ms, .string mm, (.slice ya pl.length yc)] S0 (.slice ya pl.length yc) ml QB V5.drew) := HX4.out.later HV.out
  have HA5 : Hid (AL W W.heap.size Lb (.slice ta ts.length tc) vB vN ts bs ns V5.drew Tr Tr Tr) := HA4.out.later HV.out
  have HZ5 : Hid (w.heap.size ≤ V5.drew.heap.size) := Nat.le_trans HZ4.out HV.out.size
  revert hH HX5 HA5 HZ5
  clear HX4 HA4 HZ4 HV
  generalize V5.drew = V6
  intro hH HX5 HA5 HZ5
  refine wpAnyH_take (i := 0) (oi := ⟨_, _, _, _, _, _⟩) (v := .pointer (some ⟨Lb, 0, none⟩)) rfl (by kernel_rfl) (by kernel_rfl) (by kernel_rfl) (fun _ _ _ h => h) (Or.inl ⟨by rfl, fun w' h => by clear h; go_simp⟩) hH ?_
  simp only [Act.put, List.setIfInBounds_toArray, List.set_cons_zero, List.set_cons_succ]
  refine wpAnyH_take (i := 1) (oi := ⟨_, _, _, _, _, _⟩) (v := .pointer (some ⟨Lb, 0, none⟩)) rfl (by kernel_rfl) (by kernel_rfl) (by kernel_rfl) (fun _ _ _ h => h) (Or.inl ⟨by rfl, fun w' h => by clear h; go_simp⟩) hH ?_
  simp only [Act.put, List.setIfInBounds_toArray, List.set_cons_zero, List.set_cons_succ]
  refine wpAnyH_take (i := 2) (oi := ⟨_, _, _, _, _, _⟩) (v := .pointer (some ⟨Lb, 0, none⟩)) rfl (by kernel_rfl) (by kernel_rfl) (by kernel_rfl) (fun _ _ _ h => h) (Or.inl ⟨by rfl, fun w' h => by clear h; go_simp⟩) hH ?_
  simp only [Act.put, List.setIfInBounds_toArray, List.set_cons_zero, List.set_cons_succ]
  refine wpAnyH_take (i := 3) (oi := ⟨_, _, _, _, _, _⟩) (v := .pointer (some ⟨Lb, 0, none⟩)) rfl (by kernel_rfl) (by kernel_rfl) (by kernel_rfl) (fun _ _ _ h => h) (Or.inl ⟨by rfl, fun w' h => by clear h; go_simp⟩) hH ?_
  simp only [Act.put, List.setIfInBounds_toArray, List.set_cons_zero, List.set_cons_succ]
  refine wpAnyH_take (i := 5) (oi := ⟨_, _, _, _, _, _⟩) (v := .pointer (some ⟨M, 4, none⟩)) rfl (by kernel_rfl) (by kernel_rfl) (by kernel_rfl) (fun _ _ _ h => h) (Or.inl ⟨by rfl, fun w' h => by clear h; go_simp⟩) hH ?_
  simp only [Act.put, List.setIfInBounds_toArray, List.set_cons_zero, List.set_cons_succ]
  refine wpAnyH_take (i := 6) (oi := ⟨_, _, _, _, _, _⟩) (v := (.slice ya pl.length yc)) rfl (by kernel_rfl) (by kernel_rfl) (by kernel_rfl) (fun _ _ _ h => h) (Or.inl ⟨by rfl, fun w' h => by obtain ⟨e0, e1, e2, e3, e4⟩ := five9 h; clear h; go_simp⟩) hH ?_
  simp only [Act.put, List.setIfInBounds_toArray, List.set_cons_zero, List.set_cons_succ]
  refine wpAnyH_ready (rs := [4, 7]) (by kernel_rfl) (by simp) ?_
  refine (AllReadyH.cons (o := ⟨_, _, _, _, _, _⟩) rfl (fun K hK => ?_) (AllReadyH.cons (o := ⟨_, _, _, _, _, _⟩) rfl (fun K hK => ?_) AllReadyH.nil))
  · obtain ⟨m0, m1, m2⟩ := three9 HA5.out.l
    go_simp
    refine hK.out _ _ hH (fun hH => ?_)
    clear hK K m0 m1 m2
    refine wpAnyH_ready (rs := [7]) (by kernel_rfl) (by simp) ?_
    refine (AllReadyH.cons (o := ⟨_, _, _, _, _, _⟩) rfl (fun K hK => ?_) AllReadyH.nil)
    go_simp
    have HX6 : Hid (Bx9 W.heap.size w.heap.size M w.heap.size #[.int .i64 pk, .int .i64 pn, .string ps, .string pm, x] #[.int .i64 ak, .int .i64 an, .string az, .string am, y] #[.int .i64 mk, .int .i64 mn, .string ms, .string mm, (.slice ya pl.length yc)] S0 (.slice ya pl.length yc) ml QB (V6.alloc (.cells #[(.slice ya pl.length yc)] 24))) := HX5.out.later (below1 _ _)
    have HA6 : Hid (AL W W.heap.size Lb (.slice ta ts.length tc) vB vN ts bs ns (V6.alloc (.cells #[(.slice ya pl.length yc)] 24)) Tr Tr Tr) := HA5.out.later (below1 _ _)
    have HZ6 : Hid (w.heap.size ≤ (V6.alloc (.cells #[(.slice ya pl.length yc)] 24)).heap.size) := Nat.le_trans HZ5.out (below1 _ _).size
    have HB6 : Hid (Blk (V6.alloc (.cells #[(.slice ya pl.length yc)] 24)) V6.heap.size #[(.slice ya pl.length yc)] 24) := Blk.new _ _ _
    clear hH
    refine hK.out _ _ HX6.out.e (fun hH => ?_)
    clear hK K HX5 HA5 HZ5
    revert hH HX6 HA6 HZ6 HB6
    generalize V6.alloc (.cells #[(.slice ya pl.length yc)] 24) = V7
    generalize V6.heap.size = G7
    intro HX6 HA6 HZ6 HB6 hH
    refine wpAnyH_ready (rs := [8]) (by kernel_rfl) (by simp) ?_
    refine (AllReadyH.cons (o := ⟨_, _, _, _, _, _⟩) rfl (fun K hK => ?_) AllReadyH.nil)
    refine more9T rfl _ _ rfl W.heap.size (.slice ta ts.length tc) ts.length (ts.map (·.1)) (by rfl) HA6.out.t.o G7 1 (by omega) #[(.slice ya pl.length yc)] (by rfl) (by rfl) HB6.out (by intro q hq; simp at hq; subst hq; rfl) (by omega) HA6.out.z ?_
    intro v1 V8 ho hg
    obtain ⟨wa, wc, rfl⟩ := own_form9 ho
    have HN : Hid (Nw 23 3 Tm.cs V7 W.heap.size w.heap.size ([] ++ [((.slice ya pl.length yc), ml.length)])) := Nw.nil.snoc (S := S0) (by simp) HS0.out.1 HS0.out.2 HX6.out.y
    obtain ⟨hal, hbl⟩ := HA6.out.moreT HLB.out HLT.out.1 HN.out (by simpa using ho) hg
    have HA7 : Hid (AL W W.heap.size Lb (.slice wa (ts.length + 1) wc) vB vN (ts ++ [((.slice ya pl.length yc), ml.length)]) bs ns (V8.setCell ⟨Lb, 0, none⟩ (.slice wa (ts.length + 1) wc)) Tr Tr Tr) := hal
    have HL8 : Hid (Blk V8 Lb #[(.slice ta ts.length tc), vB, vN] 36) := hbl
    have HX7 : Hid (Bx9 W.heap.size w.heap.size M w.heap.size #[.int .i64 pk, .int .i64 pn, .string ps, .string pm, x] #[.int .i64 ak, .int .i64 an, .string az, .string am, y] #[.int .i64 mk, .int .i64 mn, .string ms, .string mm, (.slice ya pl.length yc)] S0 (.slice ya pl.length yc) ml QB (V8.setCell ⟨Lb, 0, none⟩ (.slice wa (ts.length + 1) wc))) := HX6.out.more hg (fun b e => (own_block HA6.out.t.o e).2) (by decide) hbl
    have HE8 : Hid (Blk V8 M #[.int .i64 mk, .int .i64 mn, .string ms, .string mm, (.slice ya pl.length yc)] 26) := HX6.out.e.grown9 hg (fun b e => by obtain ⟨-, c, hc⟩ := own_block HA6.out.t.o e; exact ⟨c, _, hc, by decide⟩)
    have HZ7 : Hid (w.heap.size ≤ (V8.setCell ⟨Lb, 0, none⟩ (.slice wa (ts.length + 1) wc)).heap.size) := Nat.le_trans (Nat.le_trans HZ6.out hg.size) (grown_put _ _ _ _).size
    clear hal hbl ho hg hH HN HB6
    refine hK.out _ _ HE8.out (fun hH => ?_)
    clear hK K HX6 HA6 HZ6
    simp only [Act.put, List.setIfInBounds_toArray, List.set_cons_zero, List.set_cons_succ]
    refine wpAnyH_take (i := 9) (oi := ⟨_, _, _, _, _, _⟩) (v := .pointer (some ⟨Lb, 0, none⟩)) rfl (by kernel_rfl) (by kernel_rfl) (by kernel_rfl) (fun _ _ _ h => h) (Or.inl ⟨by rfl, fun w' h => by clear h; go_simp⟩) hH ?_
    simp only [Act.put, List.setIfInBounds_toArray, List.set_cons_zero, List.set_cons_succ]
    refine wpAnyH_take (i := 10) (oi := ⟨_, _, _, _, _, _⟩) (v := .pointer (some ⟨Lb, 0, none⟩)) rfl (by kernel_rfl) (by kernel_rfl) (by kernel_rfl) (fun _ _ _ h => h) (Or.inl ⟨by rfl, fun w' h => by clear h; go_simp⟩) hH ?_
    simp only [Act.put, List.setIfInBounds_toArray, List.set_cons_zero, List.set_cons_succ]
    obtain ⟨m0, m1, m2⟩ := three9 HL8.out
    have mf := frz9 HL8.out 0
    refine wpAnyH_ready (rs := [11]) (by kernel_rfl) (by simp) ?_
    refine (AllReadyH.cons (o := ⟨_, _, _, _, _, _⟩) rfl (fun K hK => ?_) AllReadyH.nil)
    go_simp
    refine hK.out _ _ HX7.out.e (fun hH => ?_)
    clear hK K hH m0 m1 m2 mf HL8 HE8
    refine wpAnyH_done (by kernel_rfl) ?_ _
    revert HX7 HA7 HZ7
    generalize V8.setCell ⟨Lb, 0, none⟩ (.slice wa (ts.length + 1) wc) = V9
    intro HA7 HX7 HZ7
    obtain ⟨ba, bc, rfl⟩ := own_form9 HA7.out.b'.o
    obtain ⟨m0, m1, m2⟩ := three9 HA7.out.l
    have HAM : Hid (AL W W.heap.size Lb (.slice wa (ts.length + 1) wc) (.slice ba bs.length bc) vN (ts ++ [((.slice ya pl.length yc), ml.length)]) bs ns (V9.alloc (.cells #[(.slice qa1 ql1.length qc1), (.slice qa2 ql2.length qc2), (.slice qa3 ql3.length qc3)] 28)) Tr Tr Tr) := HA7.out.later (below1 _ _)
    have HXM : Hid (Bx9 W.heap.size w.heap.size M w.heap.size #[.int .i64 pk, .int .i64 pn, .string ps, .string pm, x] #[.int .i64 ak, .int .i64 an, .string az, .string am, y] #[.int .i64 mk, .int .i64 mn, .string ms, .string mm, (.slice ya pl.length yc)] S0 (.slice ya pl.length yc) ml QB (V9.alloc (.cells #[(.slice qa1 ql1.length qc1), (.slice qa2 ql2.length qc2), (.slice qa3 ql3.length qc3)] 28))) := HX7.out.later (below1 _ _)
    have HZM : Hid (w.heap.size ≤ (V9.alloc (.cells #[(.slice qa1 ql1.length qc1), (.slice qa2 ql2.length qc2), (.slice qa3 ql3.length qc3)] 28)).heap.size) := Nat.le_trans HZ7.out (below1 _ _).size
    clear HX7 HA7 HZ7
    go_upto_region 7 with (at_builtin; refine wl9B rfl _ _ rfl W.heap.size (.slice ba bs.length bc) bs.length (bs.map (·.1)) (by rfl) HAM.out.b'.o _ 3 (by omega) #[(.slice qa1 ql1.length qc1), (.slice qa2 ql2.length qc2), (.slice qa3 ql3.length qc3)] (by rfl) (by rfl) (Blk.new _ _ _) (by intro q hq; simp at hq; rcases hq with rfl | rfl | rfl <;> rfl) (by omega) HAM.out.z ?_; intro g cap V11 ho hg; obtain ⟨hal, hbl⟩ := HAM.out.moreB HLB.out HLT.out.2.1 HXM.out.q (by rw [hQB]; exact ho) hg; have HA8 : Hid (AL W W.heap.size Lb (.slice wa (ts.length + 1) wc) (.slice (some ⟨g, 0, none⟩) (bs.length + 3) cap) vN (ts ++ [((.slice ya pl.length yc), ml.length)]) (bs ++ QB) ns (V11.setCell ⟨Lb, 1, none⟩ (.slice (some ⟨g, 0, none⟩) (bs.length + 3) cap)) Tr Tr Tr) := hal; have HX8 : Hid (Bx9 W.heap.size w.heap.size M w.heap.size #[.int .i64 pk, .int .i64 pn, .string ps, .string pm, x] #[.int .i64 ak, .int .i64 an, .string az, .string am, y] #[.int .i64 mk, .int .i64 mn, .string ms, .string mm, (.slice ya pl.length yc)] S0 (.slice ya pl.length yc) ml QB (V11.setCell ⟨Lb, 1, none⟩ (.slice (some ⟨g, 0, none⟩) (bs.length + 3) cap))) := HXM.out.more hg (fun b e => (own_block HAM.out.b'.o e).2) (by decide) hbl; have HZ8 : Hid (w.heap.size ≤ (V11.setCell ⟨Lb, 1, none⟩ (.slice (some ⟨g, 0, none⟩) (bs.length + 3) cap)).heap.size) := Nat.le_trans (Nat.le_trans HZM.out hg.size) (grown_put _ _ _ _).size; obtain ⟨n0, n1, n2⟩ := three9 hbl; have nf := frz9 hbl 1; clear ho hg hal hbl HAM HXM HZM)
    clear m0 m1 m2 n0 n1 n2 nf
    revert HA8 HX8 HZ8
    generalize V11.setCell ⟨Lb, 1, none⟩ (.slice (some ⟨g, 0, none⟩) (bs.length + 3) cap) = V12
    intro HA8 HX8 HZ8
    obtain ⟨na, nc, rfl⟩ := own_form9 HA8.out.n.o
    have HVM : Hid (∀ X : World, OwnT X S0 (.slice ya pl.length yc) ml → Calls Tryd.prog 15 #[.agg #[.int .i64 mk, .int .i64 mn, .string ms, .string mm, (.slice ya pl.length yc)]] X fun e w' => ∃ v', e = .returned v' ∧ OwnI w' X.heap.size v' LM ∧ Below X.heap.size X w') := fun X hX => by rw [← HLM.out.1]; exact vars_any ⟨⟨mk, mn, ms⟩, mm, ml⟩ (.slice ya pl.length yc) X (ownT_ts9 hX (by simp only; omega)) (by simp only; omega)
    have HV : Hid (Below V12.heap.size V12 V12.drew) := (Below.refl _ _).drew
    refine wp_region_held_drew (S := fun w' => Blk w' w.heap.size #[.int .i64 pk, .int .i64 pn, .string ps, .string pm, x] 26 ∧ Blk w' M #[.int .i64 mk, .int .i64 mn, .string ms, .string mm, (.slice ya pl.length yc)] 26) (by kernel_rfl) ⟨HX8.out.p, HX8.out.e⟩ (fun hH => ?_)
    have HX9 : Hid (Bx9 W.heap.size w.heap.size M w.heap.size #[.int .i64 pk, .int .i64 pn, .string ps, .string pm, x] #[.int .i64 ak, .int .i64 an, .string az, .string am, y] #[.int .i64 mk, .int .i64 mn, .string ms, .string mm, (.slice ya pl.length yc)] S0 (.slice ya pl.length yc) ml QB V12.drew) := HX8.out.later HV.out
    have HA9 : Hid (AL W W.heap.size Lb (.slice wa (ts.length + 1) wc) (.slice (some ⟨g, 0, none⟩) (bs.length + 3) cap) (.slice na ns.length nc) (ts ++ [((.slice ya pl.length yc), ml.length)]) (bs ++ QB) ns V12.drew Tr Tr Tr) := HA8.out.later HV.out
    have HZ9 : Hid (w.heap.size ≤ V12.drew.heap.size) := Nat.le_trans HZ8.out HV.out.size
    revert hH HX9 HA9 HZ9
    clear HX8 HA8 HZ8 HV
    generalize V12.drew = U0
    intro hH HX9 HA9 HZ9
    refine wpAnyH_take (i := 0) (oi := ⟨_, _, _, _, _, _⟩) (v := .pointer (some ⟨Lb, 0, none⟩)) rfl (by kernel_rfl) (by kernel_rfl) (by kernel_rfl) (fun _ _ _ h => h) (Or.inl ⟨by rfl, fun w' h => by clear h; go_simp⟩) hH ?_
    simp only [Act.put, List.setIfInBounds_toArray, List.set_cons_zero, List.set_cons_succ]
    refine wpAnyH_take (i := 1) (oi := ⟨_, _, _, _, _, _⟩) (v := .pointer (some ⟨Lb, 0, none⟩)) rfl (by kernel_rfl) (by kernel_rfl) (by kernel_rfl) (fun _ _ _ h => h) (Or.inl ⟨by rfl, fun w' h => by clear h; go_simp⟩) hH ?_
    simp only [Act.put, List.setIfInBounds_toArray, List.set_cons_zero, List.set_cons_succ]
    refine wpAnyH_take (i := 2) (oi := ⟨_, _, _, _, _, _⟩) (v := .pointer (some ⟨Lb, 0, none⟩)) rfl (by kernel_rfl) (by kernel_rfl) (by kernel_rfl) (fun _ _ _ h => h) (Or.inl ⟨by rfl, fun w' h => by clear h; go_simp⟩) hH ?_
    simp only [Act.put, List.setIfInBounds_toArray, List.set_cons_zero, List.set_cons_succ]
    refine wpAnyH_take (i := 3) (oi := ⟨_, _, _, _, _, _⟩) (v := .pointer (some ⟨Lb, 2, none⟩)) rfl (by kernel_rfl) (by kernel_rfl) (by kernel_rfl) (fun _ _ _ h => h) (Or.inl ⟨by rfl, fun w' h => by clear h; go_simp⟩) hH ?_
    simp only [Act.put, List.setIfInBounds_toArray, List.set_cons_zero, List.set_cons_succ]
    refine wpAnyH_take (i := 5) (oi := ⟨_, _, _, _, _, _⟩) (v := .agg #[.int .i64 pk, .int .i64 pn, .string ps, .string pm, x]) rfl (by kernel_rfl) (by kernel_rfl) (by kernel_rfl) (fun _ _ _ h => h) (Or.inl ⟨by rfl, fun w' h => by obtain ⟨c0, c1, c2, c3, c4⟩ := five9 h.1; clear h; go_simp⟩) hH ?_
    simp only [Act.put, List.setIfInBounds_toArray, List.set_cons_zero, List.set_cons_succ]
    refine wpAnyH_take (i := 7) (oi := ⟨_, _, _, _, _, _⟩) (v := .agg #[.int .i64 mk, .int .i64 mn, .string ms, .string mm, (.slice ya pl.length yc)]) rfl (by kernel_rfl) (by kernel_rfl) (by kernel_rfl) (fun _ _ _ h => h) (Or.inl ⟨by rfl, fun w' h => by obtain ⟨c0, c1, c2, c3, c4⟩ := five9 h.2; clear h; go_simp⟩) hH ?_
    simp only [Act.put, List.setIfInBounds_toArray, List.set_cons_zero, List.set_cons_succ]
    refine wpAnyH_ready (rs := [4, 6]) (by kernel_rfl) (by simp) ?_
    refine (AllReadyH.cons (o := ⟨_, _, _, _, _, _⟩) rfl (fun K hK => ?_) (AllReadyH.cons (o := ⟨_, _, _, _, _, _⟩) rfl (fun K hK => ?_) AllReadyH.nil))
    · obtain ⟨m0, m1, m2⟩ := three9 HA9.out.l
      go_simp
      refine hK.out _ _ hH (fun hH => ?_)
      clear hK K m0 m1 m2
      refine wpAnyH_ready (rs := [6]) (by kernel_rfl) (by simp) ?_
      refine (AllReadyH.cons (o := ⟨_, _, _, _, _, _⟩) rfl (fun K hK => ?_) AllReadyH.nil)
      go_simp
      refine (HVA.out _ HA9.out.b).mono ?_
      rintro e U1 ⟨i1, rfl, ho, hb⟩
      obtain ⟨ia, ic, rfl⟩ := own_form9 ho
      have HN1 : Hid (Nw 3 1 encI U1 W.heap.size w.heap.size ([] ++ [((.slice ia LP.length ic), LP.length)])) := Nw.nil.snoc (S := U0.heap.size) (by simp) (Nat.le_trans HWZ.out HZ9.out) HZ9.out (by rw [← ics_enc]; exact ho)
      have HX10 : Hid (Bx9 W.heap.size w.heap.size M w.heap.size #[.int .i64 pk, .int .i64 pn, .string ps, .string pm, x] #[.int .i64 ak, .int .i64 an, .string az, .string am, y] #[.int .i64 mk, .int .i64 mn, .string ms, .string mm, (.slice ya pl.length yc)] S0 (.slice ya pl.length yc) ml QB U1) := HX9.out.later hb
      have HA10 : Hid (AL W W.heap.size Lb (.slice wa (ts.length + 1) wc) (.slice (some ⟨g, 0, none⟩) (bs.length + 3) cap) (.slice na ns.length nc) (ts ++ [((.slice ya pl.length yc), ml.length)]) (bs ++ QB) ns U1 Tr Tr Tr) := HA9.out.later hb
      have HZ10 : Hid (w.heap.size ≤ U1.heap.size) := Nat.le_trans HZ9.out hb.size
      refine hK.out _ _ ⟨HX10.out.p, HX10.out.e⟩ (fun hH => ?_)
      clear hK K ho hb HX9 HA9 HZ9
      refine wpAnyH_ready (rs := [8]) (by kernel_rfl) (by simp) ?_
      refine (AllReadyH.cons (o := ⟨_, _, _, _, _, _⟩) rfl (fun K hK => ?_) AllReadyH.nil)
      go_simp
      refine (HVM.out _ HX10.out.y).mono ?_
      rintro e U2 ⟨i2, rfl, ho, hb⟩
      obtain ⟨ja, jc, rfl⟩ := own_form9 ho
      have HN2 : Hid (Nw 3 1 encI U2 W.heap.size w.heap.size (([] ++ [((.slice ia LP.length ic), LP.length)]) ++ [((.slice ja LM.length jc), LM.length)])) := (HN1.out.later hb).snoc (S := U1.heap.size) HN1.out.lt (Nat.le_trans HWZ.out HZ10.out) HZ10.out (by rw [← ics_enc]; exact ho)
      have HX11 : Hid (Bx9 W.heap.size w.heap.size M w.heap.size #[.int .i64 pk, .int .i64 pn, .string ps, .string pm, x] #[.int .i64 ak, .int .i64 an, .string az, .string am, y] #[.int .i64 mk, .int .i64 mn, .string ms, .string mm, (.slice ya pl.length yc)] S0 (.slice ya pl.length yc) ml QB U2) := HX10.out.later hb
      have HA11 : Hid (AL W W.heap.size Lb (.slice wa (ts.length + 1) wc) (.slice (some ⟨g, 0, none⟩) (bs.length + 3) cap) (.slice na ns.length nc) (ts ++ [((.slice ya pl.length yc), ml.length)]) (bs ++ QB) ns U2 Tr Tr Tr) := HA10.out.later hb
      have HZ11 : Hid (w.heap.size ≤ U2.heap.size) := Nat.le_trans HZ10.out hb.size
      refine hK.out _ _ ⟨HX11.out.p, HX11.out.e⟩ (fun hH => ?_)
      clear hK K ho hb HX10 HA10 HZ10 HN1
      refine wpAnyH_ready (rs := [9]) (by kernel_rfl) (by simp) ?_
      refine (AllReadyH.cons (o := ⟨_, _, _, _, _, _⟩) rfl (fun K hK => ?_) AllReadyH.nil)
      go_simp
      have HN3 : Hid (Nw 3 1 encI (U2.alloc (.cells #[(.slice ia LP.length ic), (.slice ja LM.length jc)] 48)) W.heap.size w.heap.size [((.slice ia LP.length ic), LP.length), ((.slice ja LM.length jc), LM.length)]) := HN2.out.later (below1 _ _)
      have HX12 : Hid (Bx9 W.heap.size w.heap.size M w.heap.size #[.int .i64 pk, .int .i64 pn, .string ps, .string pm, x] #[.int .i64 ak, .int .i64 an, .string az, .string am, y] #[.int .i64 mk, .int .i64 mn, .string ms, .string mm, (.slice ya pl.length yc)] S0 (.slice ya pl.length yc) ml QB (U2.alloc (.cells #[(.slice ia LP.length ic), (.slice ja LM.length jc)] 48))) := HX11.out.later (below1 _ _)
      have HA12 : Hid (AL W W.heap.size Lb (.slice wa (ts.length + 1) wc) (.slice (some ⟨g, 0, none⟩) (bs.length + 3) cap) (.slice na ns.length nc) (ts ++ [((.slice ya pl.length yc), ml.length)]) (bs ++ QB) ns (U2.alloc (.cells #[(.slice ia LP.length ic), (.slice ja LM.length jc)] 48)) Tr Tr Tr) := HA11.out.later (below1 _ _)
      have HB12 : Hid (Blk (U2.alloc (.cells #[(.slice ia LP.length ic), (.slice ja LM.length jc)] 48)) U2.heap.size #[(.slice ia LP.length ic), (.slice ja LM.length jc)] 48) := Blk.new _ _ _
      clear hH
      refine hK.out _ _ ⟨HX12.out.p, HX12.out.e⟩ (fun hH => ?_)
      clear hK K HX11 HA11 HZ11 HN2
      revert hH HN3 HX12 HA12 HB12
      generalize U2.alloc (.cells #[(.slice ia LP.length ic), (.slice ja LM.length jc)] 48) = U3
      generalize U2.heap.size = G3
      intro HN3 HX12 HA12 HB12 hH
      refine wpAnyH_ready (rs := [10]) (by kernel_rfl) (by simp) ?_
      refine (AllReadyH.cons (o := ⟨_, _, _, _, _, _⟩) rfl (fun K hK => ?_) AllReadyH.nil)
      refine more9N rfl _ _ rfl W.heap.size (.slice na ns.length nc) ns.length (ns.map (·.1)) (by rfl) HA12.out.n.o G3 2 (by omega) #[(.slice ia LP.length ic), (.slice ja LM.length jc)] (by rfl) (by rfl) HB12.out (by intro q hq; simp at hq; rcases hq with rfl | rfl <;> rfl) (by omega) HA12.out.z ?_
      intro v1 U4 ho hg
      obtain ⟨ka, kc, rfl⟩ := own_form9 ho
      obtain ⟨hal, hbl⟩ := HA12.out.moreN HLB.out HLT.out.2.2 HN3.out (by simpa using ho) hg
      have HA13 : Hid (AL W W.heap.size Lb (.slice wa (ts.length + 1) wc) (.slice (some ⟨g, 0, none⟩) (bs.length + 3) cap) (.slice ka (ns.length + 2) kc) (ts ++ [((.slice ya pl.length yc), ml.length)]) (bs ++ QB) (ns ++ [((.slice ia LP.length ic), LP.length), ((.slice ja LM.length jc), LM.length)]) (U4.setCell ⟨Lb, 2, none⟩ (.slice ka (ns.length + 2) kc)) Tr Tr Tr) := hal
      have HL13 : Hid (Blk U4 Lb #[(.slice wa (ts.length + 1) wc), (.slice (some ⟨g, 0, none⟩) (bs.length + 3) cap), (.slice na ns.length nc)] 36) := hbl
      have HX13 : Hid (Bx9 W.heap.size w.heap.size M w.heap.size #[.int .i64 pk, .int .i64 pn, .string ps, .string pm, x] #[.int .i64 ak, .int .i64 an, .string az, .string am, y] #[.int .i64 mk, .int .i64 mn, .string ms, .string mm, (.slice ya pl.length yc)] S0 (.slice ya pl.length yc) ml QB (U4.setCell ⟨Lb, 2, none⟩ (.slice ka (ns.length + 2) kc))) := HX12.out.more hg (fun b e => (own_block HA12.out.n.o e).2) (by decide) hbl
      have HE13 : Hid (Blk U4 w.heap.size #[.int .i64 pk, .int .i64 pn, .string ps, .string pm, x] 26 ∧ Blk U4 M #[.int .i64 mk, .int .i64 mn, .string ms, .string mm, (.slice ya pl.length yc)] 26) := ⟨HX12.out.p.grown9 hg (fun b e => by obtain ⟨-, c, hc⟩ := own_block HA12.out.n.o e; exact ⟨c, _, hc, by decide⟩), HX12.out.e.grown9 hg (fun b e => by obtain ⟨-, c, hc⟩ := own_block HA12.out.n.o e; exact ⟨c, _, hc, by decide⟩)⟩
      clear hal hbl ho hg hH HN3 HB12
      refine hK.out _ _ HE13.out (fun hH => ?_)
      clear hK K HX12 HA12
      simp only [Act.put, List.setIfInBounds_toArray, List.set_cons_zero, List.set_cons_succ]
      refine wpAnyH_take (i := 11) (oi := ⟨_, _, _, _, _, _⟩) (v := .pointer (some ⟨Lb, 0, none⟩)) rfl (by kernel_rfl) (by kernel_rfl) (by kernel_rfl) (fun _ _ _ h => h) (Or.inl ⟨by rfl, fun w' h => by clear h; go_simp⟩) hH ?_
      simp only [Act.put, List.setIfInBounds_toArray, List.set_cons_zero, List.set_cons_succ]
      refine wpAnyH_take (i := 12) (oi := ⟨_, _, _, _, _, _⟩) (v := .pointer (some ⟨Lb, 2, none⟩)) rfl (by kernel_rfl) (by kernel_rfl) (by kernel_rfl) (fun _ _ _ h => h) (Or.inl ⟨by rfl, fun w' h => by clear h; go_simp⟩) hH ?_
      simp only [Act.put, List.setIfInBounds_toArray, List.set_cons_zero, List.set_cons_succ]
      obtain ⟨m0, m1, m2⟩ := three9 HL13.out
      have mf := frz9 HL13.out 2
      refine wpAnyH_ready (rs := [13]) (by kernel_rfl) (by simp) ?_
      refine (AllReadyH.cons (o := ⟨_, _, _, _, _, _⟩) rfl (fun K hK => ?_) AllReadyH.nil)
      go_simp
      refine hK.out _ _ ⟨HX13.out.p, HX13.out.e⟩ (fun hH => ?_)
      clear hK K hH m0 m1 m2 mf HL13 HE13
      refine wpAnyH_done (by kernel_rfl) ?_ _
      go_wp2
      go_end0
      exact ⟨rfl, _, _, _, _, _, _, HA13.out, rfl, by rw [hQB]; rfl, rfl, fun q hq => by simp at hq; subst hq; simp only; omega, fun q hq => by rw [hQB] at hq; simp at hq; rcases hq with rfl | rfl | rfl <;> simp only <;> omega, fun q hq => by have := HLP.out; have := HLM.out.2; simp at hq; rcases hq with rfl | rfl <;> simp only <;> omega⟩
    · go_simp
      refine (HVA.out _ HA9.out.b).mono ?_
      rintro e U1 ⟨i1, rfl, ho, hb⟩
      obtain ⟨ia, ic, rfl⟩ := own_form9 ho
      have HN1 : Hid (Nw 3 1 encI U1 W.heap.size w.heap.size ([] ++ [((.slice ia LP.length ic), LP.length)])) := Nw.nil.snoc (S := U0.heap.size) (by simp) (Nat.le_trans HWZ.out HZ9.out) HZ9.out (by rw [← ics_enc]; exact ho)
      have HX10 : Hid (Bx9 W.heap.size w.heap.size M w.heap.size #[.int .i64 pk, .int .i64 pn, .string ps, .string pm, x] #[.int .i64 ak, .int .i64 an, .string az, .string am, y] #[.int .i64 mk, .int .i64 mn, .string ms, .string mm, (.slice ya pl.length yc)] S0 (.slice ya pl.length yc) ml QB U1) := HX9.out.later hb
      have HA10 : Hid (AL W W.heap.size Lb (.slice wa (ts.length + 1) wc) (.slice (some ⟨g, 0, none⟩) (bs.length + 3) cap) (.slice na ns.length nc) (ts ++ [((.slice ya pl.length yc), ml.length)]) (bs ++ QB) ns U1 Tr Tr Tr) := HA9.out.later hb
      have HZ10 : Hid (w.heap.size ≤ U1.heap.size) := Nat.le_trans HZ9.out hb.size
      refine hK.out _ _ ⟨HX10.out.p, HX10.out.e⟩ (fun hH => ?_)
      clear hK K ho hb HX9 HA9 HZ9
      refine wpAnyH_ready (rs := [4, 8]) (by kernel_rfl) (by simp) ?_
      refine (AllReadyH.cons (o := ⟨_, _, _, _, _, _⟩) rfl (fun K hK => ?_) (AllReadyH.cons (o := ⟨_, _, _, _, _, _⟩) rfl (fun K hK => ?_) AllReadyH.nil))
      · obtain ⟨m0, m1, m2⟩ := three9 HA10.out.l
        go_simp
        refine hK.out _ _ hH (fun hH => ?_)
        clear hK K m0 m1 m2
        refine wpAnyH_ready (rs := [8]) (by kernel_rfl) (by simp) ?_
        refine (AllReadyH.cons (o := ⟨_, _, _, _, _, _⟩) rfl (fun K hK => ?_) AllReadyH.nil)
        go_simp
        refine (HVM.out _ HX10.out.y).mono ?_
        rintro e U2 ⟨i2, rfl, ho, hb⟩
        obtain ⟨ja, jc, rfl⟩ := own_form9 ho
        have HN2 : Hid (Nw 3 1 encI U2 W.heap.size w.heap.size (([] ++ [((.slice ia LP.length ic), LP.length)]) ++ [((.slice ja LM.length jc), LM.length)])) := (HN1.out.later hb).snoc (S := U1.heap.size) HN1.out.lt (Nat.le_trans HWZ.out HZ10.out) HZ10.out (by rw [← ics_enc]; exact ho)
        have HX11 : Hid (Bx9 W.heap.size w.heap.size M w.heap.size #[.int .i64 pk, .int .i64 pn, .string ps, .string pm, x] #[.int .i64 ak, .int .i64 an, .string az, .string am, y] #[.int .i64 mk, .int .i64 mn, .string ms, .string mm, (.slice ya pl.length yc)] S0 (.slice ya pl.length yc) ml QB U2) := HX10.out.later hb
        have HA11 : Hid (AL W W.heap.size Lb (.slice wa (ts.length + 1) wc) (.slice (some ⟨g, 0, none⟩) (bs.length + 3) cap) (.slice na ns.length nc) (ts ++ [((.slice ya pl.length yc), ml.length)]) (bs ++ QB) ns U2 Tr Tr Tr) := HA10.out.later hb
        have HZ11 : Hid (w.heap.size ≤ U2.heap.size) := Nat.le_trans HZ10.out hb.size
        refine hK.out _ _ ⟨HX11.out.p, HX11.out.e⟩ (fun hH => ?_)
        clear hK K ho hb HX10 HA10 HZ10 HN1
        refine wpAnyH_ready (rs := [9]) (by kernel_rfl) (by simp) ?_
        refine (AllReadyH.cons (o := ⟨_, _, _, _, _, _⟩) rfl (fun K hK => ?_) AllReadyH.nil)
        go_simp
        have HN3 : Hid (Nw 3 1 encI (U2.alloc (.cells #[(.slice ia LP.length ic), (.slice ja LM.length jc)] 48)) W.heap.size w.heap.size [((.slice ia LP.length ic), LP.length), ((.slice ja LM.length jc), LM.length)]) := HN2.out.later (below1 _ _)
        have HX12 : Hid (Bx9 W.heap.size w.heap.size M w.heap.size #[.int .i64 pk, .int .i64 pn, .string ps, .string pm, x] #[.int .i64 ak, .int .i64 an, .string az, .string am, y] #[.int .i64 mk, .int .i64 mn, .string ms, .string mm, (.slice ya pl.length yc)] S0 (.slice ya pl.length yc) ml QB (U2.alloc (.cells #[(.slice ia LP.length ic), (.slice ja LM.length jc)] 48))) := HX11.out.later (below1 _ _)
        have HA12 : Hid (AL W W.heap.size Lb (.slice wa (ts.length + 1) wc) (.slice (some ⟨g, 0, none⟩) (bs.length + 3) cap) (.slice na ns.length nc) (ts ++ [((.slice ya pl.length yc), ml.length)]) (bs ++ QB) ns (U2.alloc (.cells #[(.slice ia LP.length ic), (.slice ja LM.length jc)] 48)) Tr Tr Tr) := HA11.out.later (below1 _ _)
        have HB12 : Hid (Blk (U2.alloc (.cells #[(.slice ia LP.length ic), (.slice ja LM.length jc)] 48)) U2.heap.size #[(.slice ia LP.length ic), (.slice ja LM.length jc)] 48) := Blk.new _ _ _
        clear hH
        refine hK.out _ _ ⟨HX12.out.p, HX12.out.e⟩ (fun hH => ?_)
        clear hK K HX11 HA11 HZ11 HN2
        revert hH HN3 HX12 HA12 HB12
        generalize U2.alloc (.cells #[(.slice ia LP.length ic), (.slice ja LM.length jc)] 48) = U3
        generalize U2.heap.size = G3
        intro HN3 HX12 HA12 HB12 hH
        refine wpAnyH_ready (rs := [10]) (by kernel_rfl) (by simp) ?_
        refine (AllReadyH.cons (o := ⟨_, _, _, _, _, _⟩) rfl (fun K hK => ?_) AllReadyH.nil)
        refine more9N rfl _ _ rfl W.heap.size (.slice na ns.length nc) ns.length (ns.map (·.1)) (by rfl) HA12.out.n.o G3 2 (by omega) #[(.slice ia LP.length ic), (.slice ja LM.length jc)] (by rfl) (by rfl) HB12.out (by intro q hq; simp at hq; rcases hq with rfl | rfl <;> rfl) (by omega) HA12.out.z ?_
        intro v1 U4 ho hg
        obtain ⟨ka, kc, rfl⟩ := own_form9 ho
        obtain ⟨hal, hbl⟩ := HA12.out.moreN HLB.out HLT.out.2.2 HN3.out (by simpa using ho) hg
        have HA13 : Hid (AL W W.heap.size Lb (.slice wa (ts.length + 1) wc) (.slice (some ⟨g, 0, none⟩) (bs.length + 3) cap) (.slice ka (ns.length + 2) kc) (ts ++ [((.slice ya pl.length yc), ml.length)]) (bs ++ QB) (ns ++ [((.slice ia LP.length ic), LP.length), ((.slice ja LM.length jc), LM.length)]) (U4.setCell ⟨Lb, 2, none⟩ (.slice ka (ns.length + 2) kc)) Tr Tr Tr) := hal
        have HL13 : Hid (Blk U4 Lb #[(.slice wa (ts.length + 1) wc), (.slice (some ⟨g, 0, none⟩) (bs.length + 3) cap), (.slice na ns.length nc)] 36) := hbl
        have HX13 : Hid (Bx9 W.heap.size w.heap.size M w.heap.size #[.int .i64 pk, .int .i64 pn, .string ps, .string pm, x] #[.int .i64 ak, .int .i64 an, .string az, .string am, y] #[.int .i64 mk, .int .i64 mn, .string ms, .string mm, (.slice ya pl.length yc)] S0 (.slice ya pl.length yc) ml QB (U4.setCell ⟨Lb, 2, none⟩ (.slice ka (ns.length + 2) kc))) := HX12.out.more hg (fun b e => (own_block HA12.out.n.o e).2) (by decide) hbl
        have HE13 : Hid (Blk U4 w.heap.size #[.int .i64 pk, .int .i64 pn, .string ps, .string pm, x] 26 ∧ Blk U4 M #[.int .i64 mk, .int .i64 mn, .string ms, .string mm, (.slice ya pl.length yc)] 26) := ⟨HX12.out.p.grown9 hg (fun b e => by obtain ⟨-, c, hc⟩ := own_block HA12.out.n.o e; exact ⟨c, _, hc, by decide⟩), HX12.out.e.grown9 hg (fun b e => by obtain ⟨-, c, hc⟩ := own_block HA12.out.n.o e; exact ⟨c, _, hc, by decide⟩)⟩
        clear hal hbl ho hg hH HN3 HB12
        refine hK.out _ _ HE13.out (fun hH => ?_)
        clear hK K HX12 HA12
        simp only [Act.put, List.setIfInBounds_toArray, List.set_cons_zero, List.set_cons_succ]
        refine wpAnyH_take (i := 11) (oi := ⟨_, _, _, _, _, _⟩) (v := .pointer (some ⟨Lb, 0, none⟩)) rfl (by kernel_rfl) (by kernel_rfl) (by kernel_rfl) (fun _ _ _ h => h) (Or.inl ⟨by rfl, fun w' h => by clear h; go_simp⟩) hH ?_
        simp only [Act.put, List.setIfInBounds_toArray, List.set_cons_zero, List.set_cons_succ]
        refine wpAnyH_take (i := 12) (oi := ⟨_, _, _, _, _, _⟩) (v := .pointer (some ⟨Lb, 2, none⟩)) rfl (by kernel_rfl) (by kernel_rfl) (by kernel_rfl) (fun _ _ _ h => h) (Or.inl ⟨by rfl, fun w' h => by clear h; go_simp⟩) hH ?_
        simp only [Act.put, List.setIfInBounds_toArray, List.set_cons_zero, List.set_cons_succ]
        obtain ⟨m0, m1, m2⟩ := three9 HL13.out
        have mf := frz9 HL13.out 2
        refine wpAnyH_ready (rs := [13]) (by kernel_rfl) (by simp) ?_
        refine (AllReadyH.cons (o := ⟨_, _, _, _, _, _⟩) rfl (fun K hK => ?_) AllReadyH.nil)
        go_simp
        refine hK.out _ _ ⟨HX13.out.p, HX13.out.e⟩ (fun hH => ?_)
        clear hK K hH m0 m1 m2 mf HL13 HE13
        refine wpAnyH_done (by kernel_rfl) ?_ _
        go_wp2
        go_end0
        exact ⟨rfl, _, _, _, _, _, _, HA13.out, rfl, by rw [hQB]; rfl, rfl, fun q hq => by simp at hq; subst hq; simp only; omega, fun q hq => by rw [hQB] at hq; simp at hq; rcases hq with rfl | rfl | rfl <;> simp only <;> omega, fun q hq => by have := HLP.out; have := HLM.out.2; simp at hq; rcases hq with rfl | rfl <;> simp only <;> omega⟩
      · go_simp
        refine (HVM.out _ HX10.out.y).mono ?_
        rintro e U2 ⟨i2, rfl, ho, hb⟩
        obtain ⟨ja, jc, rfl⟩ := own_form9 ho
        have HN2 : Hid (Nw 3 1 encI U2 W.heap.size w.heap.size (([] ++ [((.slice ia LP.length ic), LP.length)]) ++ [((.slice ja LM.length jc), LM.length)])) := (HN1.out.later hb).snoc (S := U1.heap.size) HN1.out.lt (Nat.le_trans HWZ.out HZ10.out) HZ10.out (by rw [← ics_enc]; exact ho)
        have HX11 : Hid (Bx9 W.heap.size w.heap.size M w.heap.size #[.int .i64 pk, .int .i64 pn, .string ps, .string pm, x] #[.int .i64 ak, .int .i64 an, .string az, .string am, y] #[.int .i64 mk, .int .i64 mn, .string ms, .string mm, (.slice ya pl.length yc)] S0 (.slice ya pl.length yc) ml QB U2) := HX10.out.later hb
        have HA11 : Hid (AL W W.heap.size Lb (.slice wa (ts.length + 1) wc) (.slice (some ⟨g, 0, none⟩) (bs.length + 3) cap) (.slice na ns.length nc) (ts ++ [((.slice ya pl.length yc), ml.length)]) (bs ++ QB) ns U2 Tr Tr Tr) := HA10.out.later hb
        have HZ11 : Hid (w.heap.size ≤ U2.heap.size) := Nat.le_trans HZ10.out hb.size
        refine hK.out _ _ ⟨HX11.out.p, HX11.out.e⟩ (fun hH => ?_)
        clear hK K ho hb HX10 HA10 HZ10 HN1
        refine wpAnyH_ready (rs := [4, 9]) (by kernel_rfl) (by simp) ?_
        refine (AllReadyH.cons (o := ⟨_, _, _, _, _, _⟩) rfl (fun K hK => ?_) (AllReadyH.cons (o := ⟨_, _, _, _, _, _⟩) rfl (fun K hK => ?_) AllReadyH.nil))
        · obtain ⟨m0, m1, m2⟩ := three9 HA11.out.l
          go_simp
          refine hK.out _ _ hH (fun hH => ?_)
          clear hK K m0 m1 m2
          refine wpAnyH_ready (rs := [9]) (by kernel_rfl) (by simp) ?_
          refine (AllReadyH.cons (o := ⟨_, _, _, _, _, _⟩) rfl (fun K hK => ?_) AllReadyH.nil)
          go_simp
          have HN3 : Hid (Nw 3 1 encI (U2.alloc (.cells #[(.slice ia LP.length ic), (.slice ja LM.length jc)] 48)) W.heap.size w.heap.size [((.slice ia LP.length ic), LP.length), ((.slice ja LM.length jc), LM.length)]) := HN2.out.later (below1 _ _)
          have HX12 : Hid (Bx9 W.heap.size w.heap.size M w.heap.size #[.int .i64 pk, .int .i64 pn, .string ps, .string pm, x] #[.int .i64 ak, .int .i64 an, .string az, .string am, y] #[.int .i64 mk, .int .i64 mn, .string ms, .string mm, (.slice ya pl.length yc)] S0 (.slice ya pl.length yc) ml QB (U2.alloc (.cells #[(.slice ia LP.length ic), (.slice ja LM.length jc)] 48))) := HX11.out.later (below1 _ _)
          have HA12 : Hid (AL W W.heap.size Lb (.slice wa (ts.length + 1) wc) (.slice (some ⟨g, 0, none⟩) (bs.length + 3) cap) (.slice na ns.length nc) (ts ++ [((.slice ya pl.length yc), ml.length)]) (bs ++ QB) ns (U2.alloc (.cells #[(.slice ia LP.length ic), (.slice ja LM.length jc)] 48)) Tr Tr Tr) := HA11.out.later (below1 _ _)
          have HB12 : Hid (Blk (U2.alloc (.cells #[(.slice ia LP.length ic), (.slice ja LM.length jc)] 48)) U2.heap.size #[(.slice ia LP.length ic), (.slice ja LM.length jc)] 48) := Blk.new _ _ _
          clear hH
          refine hK.out _ _ ⟨HX12.out.p, HX12.out.e⟩ (fun hH => ?_)
          clear hK K HX11 HA11 HZ11 HN2
          revert hH HN3 HX12 HA12 HB12
          generalize U2.alloc (.cells #[(.slice ia LP.length ic), (.slice ja LM.length jc)] 48) = U3
          generalize U2.heap.size = G3
          intro HN3 HX12 HA12 HB12 hH
          refine wpAnyH_ready (rs := [10]) (by kernel_rfl) (by simp) ?_
          refine (AllReadyH.cons (o := ⟨_, _, _, _, _, _⟩) rfl (fun K hK => ?_) AllReadyH.nil)
          refine more9N rfl _ _ rfl W.heap.size (.slice na ns.length nc) ns.length (ns.map (·.1)) (by rfl) HA12.out.n.o G3 2 (by omega) #[(.slice ia LP.length ic), (.slice ja LM.length jc)] (by rfl) (by rfl) HB12.out (by intro q hq; simp at hq; rcases hq with rfl | rfl <;> rfl) (by omega) HA12.out.z ?_
          intro v1 U4 ho hg
          obtain ⟨ka, kc, rfl⟩ := own_form9 ho
          obtain ⟨hal, hbl⟩ := HA12.out.moreN HLB.out HLT.out.2.2 HN3.out (by simpa using ho) hg
          have HA13 : Hid (AL W W.heap.size Lb (.slice wa (ts.length + 1) wc) (.slice (some ⟨g, 0, none⟩) (bs.length + 3) cap) (.slice ka (ns.length + 2) kc) (ts ++ [((.slice ya pl.length yc), ml.length)]) (bs ++ QB) (ns ++ [((.slice ia LP.length ic), LP.length), ((.slice ja LM.length jc), LM.length)]) (U4.setCell ⟨Lb, 2, none⟩ (.slice ka (ns.length + 2) kc)) Tr Tr Tr) := hal
          have HL13 : Hid (Blk U4 Lb #[(.slice wa (ts.length + 1) wc), (.slice (some ⟨g, 0, none⟩) (bs.length + 3) cap), (.slice na ns.length nc)] 36) := hbl
          have HX13 : Hid (Bx9 W.heap.size w.heap.size M w.heap.size #[.int .i64 pk, .int .i64 pn, .string ps, .string pm, x] #[.int .i64 ak, .int .i64 an, .string az, .string am, y] #[.int .i64 mk, .int .i64 mn, .string ms, .string mm, (.slice ya pl.length yc)] S0 (.slice ya pl.length yc) ml QB (U4.setCell ⟨Lb, 2, none⟩ (.slice ka (ns.length + 2) kc))) := HX12.out.more hg (fun b e => (own_block HA12.out.n.o e).2) (by decide) hbl
          have HE13 : Hid (Blk U4 w.heap.size #[.int .i64 pk, .int .i64 pn, .string ps, .string pm, x] 26 ∧ Blk U4 M #[.int .i64 mk, .int .i64 mn, .string ms, .string mm, (.slice ya pl.length yc)] 26) := ⟨HX12.out.p.grown9 hg (fun b e => by obtain ⟨-, c, hc⟩ := own_block HA12.out.n.o e; exact ⟨c, _, hc, by decide⟩), HX12.out.e.grown9 hg (fun b e => by obtain ⟨-, c, hc⟩ := own_block HA12.out.n.o e; exact ⟨c, _, hc, by decide⟩)⟩
          clear hal hbl ho hg hH HN3 HB12
          refine hK.out _ _ HE13.out (fun hH => ?_)
          clear hK K HX12 HA12
          simp only [Act.put, List.setIfInBounds_toArray, List.set_cons_zero, List.set_cons_succ]
          refine wpAnyH_take (i := 11) (oi := ⟨_, _, _, _, _, _⟩) (v := .pointer (some ⟨Lb, 0, none⟩)) rfl (by kernel_rfl) (by kernel_rfl) (by kernel_rfl) (fun _ _ _ h => h) (Or.inl ⟨by rfl, fun w' h => by clear h; go_simp⟩) hH ?_
          simp only [Act.put, List.setIfInBounds_toArray, List.set_cons_zero, List.set_cons_succ]
          refine wpAnyH_take (i := 12) (oi := ⟨_, _, _, _, _, _⟩) (v := .pointer (some ⟨Lb, 2, none⟩)) rfl (by kernel_rfl) (by kernel_rfl) (by kernel_rfl) (fun _ _ _ h => h) (Or.inl ⟨by rfl, fun w' h => by clear h; go_simp⟩) hH ?_
          simp only [Act.put, List.setIfInBounds_toArray, List.set_cons_zero, List.set_cons_succ]
          obtain ⟨m0, m1, m2⟩ := three9 HL13.out
          have mf := frz9 HL13.out 2
          refine wpAnyH_ready (rs := [13]) (by kernel_rfl) (by simp) ?_
          refine (AllReadyH.cons (o := ⟨_, _, _, _, _, _⟩) rfl (fun K hK => ?_) AllReadyH.nil)
          go_simp
          refine hK.out _ _ ⟨HX13.out.p, HX13.out.e⟩ (fun hH => ?_)
          clear hK K hH m0 m1 m2 mf HL13 HE13
          refine wpAnyH_done (by kernel_rfl) ?_ _
          go_wp2
          go_end0
          exact ⟨rfl, _, _, _, _, _, _, HA13.out, rfl, by rw [hQB]; rfl, rfl, fun q hq => by simp at hq; subst hq; simp only; omega, fun q hq => by rw [hQB] at hq; simp at hq; rcases hq with rfl | rfl | rfl <;> simp only <;> omega, fun q hq => by have := HLP.out; have := HLM.out.2; simp at hq; rcases hq with rfl | rfl <;> simp only <;> omega⟩
        · go_simp
          have HN3 : Hid (Nw 3 1 encI (U2.alloc (.cells #[(.slice ia LP.length ic), (.slice ja LM.length jc)] 48)) W.heap.size w.heap.size [((.slice ia LP.length ic), LP.length), ((.slice ja LM.length jc), LM.length)]) := HN2.out.later (below1 _ _)
          have HX12 : Hid (Bx9 W.heap.size w.heap.size M w.heap.size #[.int .i64 pk, .int .i64 pn, .string ps, .string pm, x] #[.int .i64 ak, .int .i64 an, .string az, .string am, y] #[.int .i64 mk, .int .i64 mn, .string ms, .string mm, (.slice ya pl.length yc)] S0 (.slice ya pl.length yc) ml QB (U2.alloc (.cells #[(.slice ia LP.length ic), (.slice ja LM.length jc)] 48))) := HX11.out.later (below1 _ _)
          have HA12 : Hid (AL W W.heap.size Lb (.slice wa (ts.length + 1) wc) (.slice (some ⟨g, 0, none⟩) (bs.length + 3) cap) (.slice na ns.length nc) (ts ++ [((.slice ya pl.length yc), ml.length)]) (bs ++ QB) ns (U2.alloc (.cells #[(.slice ia LP.length ic), (.slice ja LM.length jc)] 48)) Tr Tr Tr) := HA11.out.later (below1 _ _)
          have HB12 : Hid (Blk (U2.alloc (.cells #[(.slice ia LP.length ic), (.slice ja LM.length jc)] 48)) U2.heap.size #[(.slice ia LP.length ic), (.slice ja LM.length jc)] 48) := Blk.new _ _ _
          clear hH
          refine hK.out _ _ ⟨HX12.out.p, HX12.out.e⟩ (fun hH => ?_)
          clear hK K HX11 HA11 HZ11 HN2
          revert hH HN3 HX12 HA12 HB12
          generalize U2.alloc (.cells #[(.slice ia LP.length ic), (.slice ja LM.length jc)] 48) = U3
          generalize U2.heap.size = G3
          intro HN3 HX12 HA12 HB12 hH
          refine wpAnyH_ready (rs := [4]) (by kernel_rfl) (by simp) ?_
          refine (AllReadyH.cons (o := ⟨_, _, _, _, _, _⟩) rfl (fun K hK => ?_) AllReadyH.nil)
          obtain ⟨m0, m1, m2⟩ := three9 HA12.out.l
          go_simp
          refine hK.out _ _ hH (fun hH => ?_)
          clear hK K m0 m1 m2
          refine wpAnyH_ready (rs := [10]) (by kernel_rfl) (by simp) ?_
          refine (AllReadyH.cons (o := ⟨_, _, _, _, _, _⟩) rfl (fun K hK => ?_) AllReadyH.nil)
          refine more9N rfl _ _ rfl W.heap.size (.slice na ns.length nc) ns.length (ns.map (·.1)) (by rfl) HA12.out.n.o G3 2 (by omega) #[(.slice ia LP.length ic), (.slice ja LM.length jc)] (by rfl) (by rfl) HB12.out (by intro q hq; simp at hq; rcases hq with rfl | rfl <;> rfl) (by omega) HA12.out.z ?_
          intro v1 U4 ho hg
          obtain ⟨ka, kc, rfl⟩ := own_form9 ho
          obtain ⟨hal, hbl⟩ := HA12.out.moreN HLB.out HLT.out.2.2 HN3.out (by simpa using ho) hg
          have HA13 : Hid (AL W W.heap.size Lb (.slice wa (ts.length + 1) wc) (.slice (some ⟨g, 0, none⟩) (bs.length + 3) cap) (.slice ka (ns.length + 2) kc) (ts ++ [((.slice ya pl.length yc), ml.length)]) (bs ++ QB) (ns ++ [((.slice ia LP.length ic), LP.length), ((.slice ja LM.length jc), LM.length)]) (U4.setCell ⟨Lb, 2, none⟩ (.slice ka (ns.length + 2) kc)) Tr Tr Tr) := hal
          have HL13 : Hid (Blk U4 Lb #[(.slice wa (ts.length + 1) wc), (.slice (some ⟨g, 0, none⟩) (bs.length + 3) cap), (.slice na ns.length nc)] 36) := hbl
          have HX13 : Hid (Bx9 W.heap.size w.heap.size M w.heap.size #[.int .i64 pk, .int .i64 pn, .string ps, .string pm, x] #[.int .i64 ak, .int .i64 an, .string az, .string am, y] #[.int .i64 mk, .int .i64 mn, .string ms, .string mm, (.slice ya pl.length yc)] S0 (.slice ya pl.length yc) ml QB (U4.setCell ⟨Lb, 2, none⟩ (.slice ka (ns.length + 2) kc))) := HX12.out.more hg (fun b e => (own_block HA12.out.n.o e).2) (by decide) hbl
          have HE13 : Hid (Blk U4 w.heap.size #[.int .i64 pk, .int .i64 pn, .string ps, .string pm, x] 26 ∧ Blk U4 M #[.int .i64 mk, .int .i64 mn, .string ms, .string mm, (.slice ya pl.length yc)] 26) := ⟨HX12.out.p.grown9 hg (fun b e => by obtain ⟨-, c, hc⟩ := own_block HA12.out.n.o e; exact ⟨c, _, hc, by decide⟩), HX12.out.e.grown9 hg (fun b e => by obtain ⟨-, c, hc⟩ := own_block HA12.out.n.o e; exact ⟨c, _, hc, by decide⟩)⟩
          clear hal hbl ho hg hH HN3 HB12
          refine hK.out _ _ HE13.out (fun hH => ?_)
          clear hK K HX12 HA12
          simp only [Act.put, List.setIfInBounds_toArray, List.set_cons_zero, List.set_cons_succ]
          refine wpAnyH_take (i := 11) (oi := ⟨_, _, _, _, _, _⟩) (v := .pointer (some ⟨Lb, 0, none⟩)) rfl (by kernel_rfl) (by kernel_rfl) (by kernel_rfl) (fun _ _ _ h => h) (Or.inl ⟨by rfl, fun w' h => by clear h; go_simp⟩) hH ?_
          simp only [Act.put, List.setIfInBounds_toArray, List.set_cons_zero, List.set_cons_succ]
          refine wpAnyH_take (i := 12) (oi := ⟨_, _, _, _, _, _⟩) (v := .pointer (some ⟨Lb, 2, none⟩)) rfl (by kernel_rfl) (by kernel_rfl) (by kernel_rfl) (fun _ _ _ h => h) (Or.inl ⟨by rfl, fun w' h => by clear h; go_simp⟩) hH ?_
          simp only [Act.put, List.setIfInBounds_toArray, List.set_cons_zero, List.set_cons_succ]
          obtain ⟨m0, m1, m2⟩ := three9 HL13.out
          have mf := frz9 HL13.out 2
          refine wpAnyH_ready (rs := [13]) (by kernel_rfl) (by simp) ?_
          refine (AllReadyH.cons (o := ⟨_, _, _, _, _, _⟩) rfl (fun K hK => ?_) AllReadyH.nil)
          go_simp
          refine hK.out _ _ ⟨HX13.out.p, HX13.out.e⟩ (fun hH => ?_)
          clear hK K hH m0 m1 m2 mf HL13 HE13
          refine wpAnyH_done (by kernel_rfl) ?_ _
          go_wp2
          go_end0
          exact ⟨rfl, _, _, _, _, _, _, HA13.out, rfl, by rw [hQB]; rfl, rfl, fun q hq => by simp at hq; subst hq; simp only; omega, fun q hq => by rw [hQB] at hq; simp at hq; rcases hq with rfl | rfl | rfl <;> simp only <;> omega, fun q hq => by have := HLP.out; have := HLM.out.2; simp at hq; rcases hq with rfl | rfl <;> simp only <;> omega⟩
  · go_simp
    have HX6 : Hid (Bx9 W.heap.size w.heap.size M w.heap.size #[.int .i64 pk, .int .i64 pn, .string ps, .string pm, x] #[.int .i64 ak, .int .i64 an, .string az, .string am, y] #[.int .i64 mk, .int .i64 mn, .string ms, .string mm, (.slice ya pl.length yc)] S0 (.slice ya pl.length yc) ml QB (V6.alloc (.cells #[(.slice ya pl.length yc)] 24))) := HX5.out.later (below1 _ _)
    have HA6 : Hid (AL W W.heap.size Lb (.slice ta ts.length tc) vB vN ts bs ns (V6.alloc (.cells #[(.slice ya pl.length yc)] 24)) Tr Tr Tr) := HA5.out.later (below1 _ _)
    have HZ6 : Hid (w.heap.size ≤ (V6.alloc (.cells #[(.slice ya pl.length yc)] 24)).heap.size) := Nat.le_trans HZ5.out (below1 _ _).size
    have HB6 : Hid (Blk (V6.alloc (.cells #[(.slice ya pl.length yc)] 24)) V6.heap.size #[(.slice ya pl.length yc)] 24) := Blk.new _ _ _
    clear hH
    refine hK.out _ _ HX6.out.e (fun hH => ?_)
    clear hK K HX5 HA5 HZ5
    revert hH HX6 HA6 HZ6 HB6
    generalize V6.alloc (.cells #[(.slice ya pl.length yc)] 24) = V7
    generalize V6.heap.size = G7
    intro HX6 HA6 HZ6 HB6 hH
    refine wpAnyH_ready (rs := [4]) (by kernel_rfl) (by simp) ?_
    refine (AllReadyH.cons (o := ⟨_, _, _, _, _, _⟩) rfl (fun K hK => ?_) AllReadyH.nil)
    obtain ⟨m0, m1, m2⟩ := three9 HA6.out.l
    go_simp
    refine hK.out _ _ hH (fun hH => ?_)
    clear hK K m0 m1 m2
    refine wpAnyH_ready (rs := [8]) (by kernel_rfl) (by simp) ?_
    refine (AllReadyH.cons (o := ⟨_, _, _, _, _, _⟩) rfl (fun K hK => ?_) AllReadyH.nil)
    refine more9T rfl _ _ rfl W.heap.size (.slice ta ts.length tc) ts.length (ts.map (·.1)) (by rfl) HA6.out.t.o G7 1 (by omega) #[(.slice ya pl.length yc)] (by rfl) (by rfl) HB6.out (by intro q hq; simp at hq; subst hq; rfl) (by omega) HA6.out.z ?_
    intro v1 V8 ho hg
    obtain ⟨wa, wc, rfl⟩ := own_form9 ho
    have HN : Hid (Nw 23 3 Tm.cs V7 W.heap.size w.heap.size ([] ++ [((.slice ya pl.length yc), ml.length)])) := Nw.nil.snoc (S := S0) (by simp) HS0.out.1 HS0.out.2 HX6.out.y
    obtain ⟨hal, hbl⟩ := HA6.out.moreT HLB.out HLT.out.1 HN.out (by simpa using ho) hg
    have HA7 : Hid (AL W W.heap.size Lb (.slice wa (ts.length + 1) wc) vB vN (ts ++ [((.slice ya pl.length yc), ml.length)]) bs ns (V8.setCell ⟨Lb, 0, none⟩ (.slice wa (ts.length + 1) wc)) Tr Tr Tr) := hal
    have HL8 : Hid (Blk V8 Lb #[(.slice ta ts.length tc), vB, vN] 36) := hbl
    have HX7 : Hid (Bx9 W.heap.size w.heap.size M w.heap.size #[.int .i64 pk, .int .i64 pn, .string ps, .string pm, x] #[.int .i64 ak, .int .i64 an, .string az, .string am, y] #[.int .i64 mk, .int .i64 mn, .string ms, .string mm, (.slice ya pl.length yc)] S0 (.slice ya pl.length yc) ml QB (V8.setCell ⟨Lb, 0, none⟩ (.slice wa (ts.length + 1) wc))) := HX6.out.more hg (fun b e => (own_block HA6.out.t.o e).2) (by decide) hbl
    have HE8 : Hid (Blk V8 M #[.int .i64 mk, .int .i64 mn, .string ms, .string mm, (.slice ya pl.length yc)] 26) := HX6.out.e.grown9 hg (fun b e => by obtain ⟨-, c, hc⟩ := own_block HA6.out.t.o e; exact ⟨c, _, hc, by decide⟩)
    have HZ7 : Hid (w.heap.size ≤ (V8.setCell ⟨Lb, 0, none⟩ (.slice wa (ts.length + 1) wc)).heap.size) := Nat.le_trans (Nat.le_trans HZ6.out hg.size) (grown_put _ _ _ _).size
    clear hal hbl ho hg hH HN HB6
    refine hK.out _ _ HE8.out (fun hH => ?_)
    clear hK K HX6 HA6 HZ6
    simp only [Act.put, List.setIfInBounds_toArray, List.set_cons_zero, List.set_cons_succ]
    refine wpAnyH_take (i := 9) (oi := ⟨_, _, _, _, _, _⟩) (v := .pointer (some ⟨Lb, 0, none⟩)) rfl (by kernel_rfl) (by kernel_rfl) (by kernel_rfl) (fun _ _ _ h => h) (Or.inl ⟨by rfl, fun w' h => by clear h; go_simp⟩) hH ?_
    simp only [Act.put, List.setIfInBounds_toArray, List.set_cons_zero, List.set_cons_succ]
    refine wpAnyH_take (i := 10) (oi := ⟨_, _, _, _, _, _⟩) (v := .pointer (some ⟨Lb, 0, none⟩)) rfl (by kernel_rfl) (by kernel_rfl) (by kernel_rfl) (fun _ _ _ h => h) (Or.inl ⟨by rfl, fun w' h => by clear h; go_simp⟩) hH ?_
    simp only [Act.put, List.setIfInBounds_toArray, List.set_cons_zero, List.set_cons_succ]
    obtain ⟨m0, m1, m2⟩ := three9 HL8.out
    have mf := frz9 HL8.out 0
    refine wpAnyH_ready (rs := [11]) (by kernel_rfl) (by simp) ?_
    refine (AllReadyH.cons (o := ⟨_, _, _, _, _, _⟩) rfl (fun K hK => ?_) AllReadyH.nil)
    go_simp
    refine hK.out _ _ HX7.out.e (fun hH => ?_)
    clear hK K hH m0 m1 m2 mf HL8 HE8
    refine wpAnyH_done (by kernel_rfl) ?_ _
    revert HX7 HA7 HZ7
    generalize V8.setCell ⟨Lb, 0, none⟩ (.slice wa (ts.length + 1) wc) = V9
    intro HA7 HX7 HZ7
    obtain ⟨ba, bc, rfl⟩ := own_form9 HA7.out.b'.o
    obtain ⟨m0, m1, m2⟩ := three9 HA7.out.l
    have HAM : Hid (AL W W.heap.size Lb (.slice wa (ts.length + 1) wc) (.slice ba bs.length bc) vN (ts ++ [((.slice ya pl.length yc), ml.length)]) bs ns (V9.alloc (.cells #[(.slice qa1 ql1.length qc1), (.slice qa2 ql2.length qc2), (.slice qa3 ql3.length qc3)] 28)) Tr Tr Tr) := HA7.out.later (below1 _ _)
    have HXM : Hid (Bx9 W.heap.size w.heap.size M w.heap.size #[.int .i64 pk, .int .i64 pn, .string ps, .string pm, x] #[.int .i64 ak, .int .i64 an, .string az, .string am, y] #[.int .i64 mk, .int .i64 mn, .string ms, .string mm, (.slice ya pl.length yc)] S0 (.slice ya pl.length yc) ml QB (V9.alloc (.cells #[(.slice qa1 ql1.length qc1), (.slice qa2 ql2.length qc2), (.slice qa3 ql3.length qc3)] 28))) := HX7.out.later (below1 _ _)
    have HZM : Hid (w.heap.size ≤ (V9.alloc (.cells #[(.slice qa1 ql1.length qc1), (.slice qa2 ql2.length qc2), (.slice qa3 ql3.length qc3)] 28)).heap.size) := Nat.le_trans HZ7.out (below1 _ _).size
    clear HX7 HA7 HZ7
    go_upto_region 7 with (at_builtin; refine wl9B rfl _ _ rfl W.heap.size (.slice ba bs.length bc) bs.length (bs.map (·.1)) (by rfl) HAM.out.b'.o _ 3 (by omega) #[(.slice qa1 ql1.length qc1), (.slice qa2 ql2.length qc2), (.slice qa3 ql3.length qc3)] (by rfl) (by rfl) (Blk.new _ _ _) (by intro q hq; simp at hq; rcases hq with rfl | rfl | rfl <;> rfl) (by omega) HAM.out.z ?_; intro g cap V11 ho hg; obtain ⟨hal, hbl⟩ := HAM.out.moreB HLB.out HLT.out.2.1 HXM.out.q (by rw [hQB]; exact ho) hg; have HA8 : Hid (AL W W.heap.size Lb (.slice wa (ts.length + 1) wc) (.slice (some ⟨g, 0, none⟩) (bs.length + 3) cap) vN (ts ++ [((.slice ya pl.length yc), ml.length)]) (bs ++ QB) ns (V11.setCell ⟨Lb, 1, none⟩ (.slice (some ⟨g, 0, none⟩) (bs.length + 3) cap)) Tr Tr Tr) := hal; have HX8 : Hid (Bx9 W.heap.size w.heap.size M w.heap.size #[.int .i64 pk, .int .i64 pn, .string ps, .string pm, x] #[.int .i64 ak, .int .i64 an, .string az, .string am, y] #[.int .i64 mk, .int .i64 mn, .string ms, .string mm, (.slice ya pl.length yc)] S0 (.slice ya pl.length yc) ml QB (V11.setCell ⟨Lb, 1, none⟩ (.slice (some ⟨g, 0, none⟩) (bs.length + 3) cap))) := HXM.out.more hg (fun b e => (own_block HAM.out.b'.o e).2) (by decide) hbl; have HZ8 : Hid (w.heap.size ≤ (V11.setCell ⟨Lb, 1, none⟩ (.slice (some ⟨g, 0, none⟩) (bs.length + 3) cap)).heap.size) := Nat.le_trans (Nat.le_trans HZM.out hg.size) (grown_put _ _ _ _).size; obtain ⟨n0, n1, n2⟩ := three9 hbl; have nf := frz9 hbl 1; clear ho hg hal hbl HAM HXM HZM)
    clear m0 m1 m2 n0 n1 n2 nf
    revert HA8 HX8 HZ8
    generalize V11.setCell ⟨Lb, 1, none⟩ (.slice (some ⟨g, 0, none⟩) (bs.length + 3) cap) = V12
    intro HA8 HX8 HZ8
    obtain ⟨na, nc, rfl⟩ := own_form9 HA8.out.n.o
    have HVM : Hid (∀ X : World, OwnT X S0 (.slice ya pl.length yc) ml → Calls Tryd.prog 15 #[.agg #[.int .i64 mk, .int .i64 mn, .string ms, .string mm, (.slice ya pl.length yc)]] X fun e w' => ∃ v', e = .returned v' ∧ OwnI w' X.heap.size v' LM ∧ Below X.heap.size X w') := fun X hX => by rw [← HLM.out.1]; exact vars_any ⟨⟨mk, mn, ms⟩, mm, ml⟩ (.slice ya pl.length yc) X (ownT_ts9 hX (by simp only; omega)) (by simp only; omega)
    have HV : Hid (Below V12.heap.size V12 V12.drew) := (Below.refl _ _).drew
    refine wp_region_held_drew (S := fun w' => Blk w' w.heap.size #[.int .i64 pk, .int .i64 pn, .string ps, .string pm, x] 26 ∧ Blk w' M #[.int .i64 mk, .int .i64 mn, .string ms, .string mm, (.slice ya pl.length yc)] 26) (by kernel_rfl) ⟨HX8.out.p, HX8.out.e⟩ (fun hH => ?_)
    have HX9 : Hid (Bx9 W.heap.size w.heap.size M w.heap.size #[.int .i64 pk, .int .i64 pn, .string ps, .string pm, x] #[.int .i64 ak, .int .i64 an, .string az, .string am, y] #[.int .i64 mk, .int .i64 mn, .string ms, .string mm, (.slice ya pl.length yc)] S0 (.slice ya pl.length yc) ml QB V12.drew) := HX8.out.later HV.out
    have HA9 : Hid (AL W W.heap.size Lb (.slice wa (ts.length + 1) wc) (.slice (some ⟨g, 0, none⟩) (bs.length + 3) cap) (.slice na ns.length nc) (ts ++ [((.slice ya pl.length yc), ml.length)]) (bs ++ QB) ns V12.drew Tr Tr Tr) := HA8.out.later HV.out
    have HZ9 : Hid (w.heap.size ≤ V12.drew.heap.size) := Nat.le_trans HZ8.out HV.out.size
    revert hH HX9 HA9 HZ9
    clear HX8 HA8 HZ8 HV
    generalize V12.drew = U0
    intro hH HX9 HA9 HZ9
    refine wpAnyH_take (i := 0) (oi := ⟨_, _, _, _, _, _⟩) (v := .pointer (some ⟨Lb, 0, none⟩)) rfl (by kernel_rfl) (by kernel_rfl) (by kernel_rfl) (fun _ _ _ h => h) (Or.inl ⟨by rfl, fun w' h => by clear h; go_simp⟩) hH ?_
    simp only [Act.put, List.setIfInBounds_toArray, List.set_cons_zero, List.set_cons_succ]
    refine wpAnyH_take (i := 1) (oi := ⟨_, _, _, _, _, _⟩) (v := .pointer (some ⟨Lb, 0, none⟩)) rfl (by kernel_rfl) (by kernel_rfl) (by kernel_rfl) (fun _ _ _ h => h) (Or.inl ⟨by rfl, fun w' h => by clear h; go_simp⟩) hH ?_
    simp only [Act.put, List.setIfInBounds_toArray, List.set_cons_zero, List.set_cons_succ]
    refine wpAnyH_take (i := 2) (oi := ⟨_, _, _, _, _, _⟩) (v := .pointer (some ⟨Lb, 0, none⟩)) rfl (by kernel_rfl) (by kernel_rfl) (by kernel_rfl) (fun _ _ _ h => h) (Or.inl ⟨by rfl, fun w' h => by clear h; go_simp⟩) hH ?_
    simp only [Act.put, List.setIfInBounds_toArray, List.set_cons_zero, List.set_cons_succ]
    refine wpAnyH_take (i := 3) (oi := ⟨_, _, _, _, _, _⟩) (v := .pointer (some ⟨Lb, 2, none⟩)) rfl (by kernel_rfl) (by kernel_rfl) (by kernel_rfl) (fun _ _ _ h => h) (Or.inl ⟨by rfl, fun w' h => by clear h; go_simp⟩) hH ?_
    simp only [Act.put, List.setIfInBounds_toArray, List.set_cons_zero, List.set_cons_succ]
    refine wpAnyH_take (i := 5) (oi := ⟨_, _, _, _, _, _⟩) (v := .agg #[.int .i64 pk, .int .i64 pn, .string ps, .string pm, x]) rfl (by kernel_rfl) (by kernel_rfl) (by kernel_rfl) (fun _ _ _ h => h) (Or.inl ⟨by rfl, fun w' h => by obtain ⟨c0, c1, c2, c3, c4⟩ := five9 h.1; clear h; go_simp⟩) hH ?_
    simp only [Act.put, List.setIfInBounds_toArray, List.set_cons_zero, List.set_cons_succ]
    refine wpAnyH_take (i := 7) (oi := ⟨_, _, _, _, _, _⟩) (v := .agg #[.int .i64 mk, .int .i64 mn, .string ms, .string mm, (.slice ya pl.length yc)]) rfl (by kernel_rfl) (by kernel_rfl) (by kernel_rfl) (fun _ _ _ h => h) (Or.inl ⟨by rfl, fun w' h => by obtain ⟨c0, c1, c2, c3, c4⟩ := five9 h.2; clear h; go_simp⟩) hH ?_
    simp only [Act.put, List.setIfInBounds_toArray, List.set_cons_zero, List.set_cons_succ]
    refine wpAnyH_ready (rs := [4, 6]) (by kernel_rfl) (by simp) ?_
    refine (AllReadyH.cons (o := ⟨_, _, _, _, _, _⟩) rfl (fun K hK => ?_) (AllReadyH.cons (o := ⟨_, _, _, _, _, _⟩) rfl (fun K hK => ?_) AllReadyH.nil))
    · obtain ⟨m0, m1, m2⟩ := three9 HA9.out.l
      go_simp
      refine hK.out _ _ hH (fun hH => ?_)
      clear hK K m0 m1 m2
      refine wpAnyH_ready (rs := [6]) (by kernel_rfl) (by simp) ?_
      refine (AllReadyH.cons (o := ⟨_, _, _, _, _, _⟩) rfl (fun K hK => ?_) AllReadyH.nil)
      go_simp
      refine (HVA.out _ HA9.out.b).mono ?_
      rintro e U1 ⟨i1, rfl, ho, hb⟩
      obtain ⟨ia, ic, rfl⟩ := own_form9 ho
      have HN1 : Hid (Nw 3 1 encI U1 W.heap.size w.heap.size ([] ++ [((.slice ia LP.length ic), LP.length)])) := Nw.nil.snoc (S := U0.heap.size) (by simp) (Nat.le_trans HWZ.out HZ9.out) HZ9.out (by rw [← ics_enc]; exact ho)
      have HX10 : Hid (Bx9 W.heap.size w.heap.size M w.heap.size #[.int .i64 pk, .int .i64 pn, .string ps, .string pm, x] #[.int .i64 ak, .int .i64 an, .string az, .string am, y] #[.int .i64 mk, .int .i64 mn, .string ms, .string mm, (.slice ya pl.length yc)] S0 (.slice ya pl.length yc) ml QB U1) := HX9.out.later hb
      have HA10 : Hid (AL W W.heap.size Lb (.slice wa (ts.length + 1) wc) (.slice (some ⟨g, 0, none⟩) (bs.length + 3) cap) (.slice na ns.length nc) (ts ++ [((.slice ya pl.length yc), ml.length)]) (bs ++ QB) ns U1 Tr Tr Tr) := HA9.out.later hb
      have HZ10 : Hid (w.heap.size ≤ U1.heap.size) := Nat.le_trans HZ9.out hb.size
      refine hK.out _ _ ⟨HX10.out.p, HX10.out.e⟩ (fun hH => ?_)
      clear hK K ho hb HX9 HA9 HZ9
      refine wpAnyH_ready (rs := [8]) (by kernel_rfl) (by simp) ?_
      refine (AllReadyH.cons (o := ⟨_, _, _, _, _, _⟩) rfl (fun K hK => ?_) AllReadyH.nil)
      go_simp
      refine (HVM.out _ HX10.out.y).mono ?_
      rintro e U2 ⟨i2, rfl, ho, hb⟩
      obtain ⟨ja, jc, rfl⟩ := own_form9 ho
      have HN2 : Hid (Nw 3 1 encI U2 W.heap.size w.heap.size (([] ++ [((.slice ia LP.length ic), LP.length)]) ++ [((.slice ja LM.length jc), LM.length)])) := (HN1.out.later hb).snoc (S := U1.heap.size) HN1.out.lt (Nat.le_trans HWZ.out HZ10.out) HZ10.out (by rw [← ics_enc]; exact ho)
      have HX11 : Hid (Bx9 W.heap.size w.heap.size M w.heap.size #[.int .i64 pk, .int .i64 pn, .string ps, .string pm, x] #[.int .i64 ak, .int .i64 an, .string az, .string am, y] #[.int .i64 mk, .int .i64 mn, .string ms, .string mm, (.slice ya pl.length yc)] S0 (.slice ya pl.length yc) ml QB U2) := HX10.out.later hb
      have HA11 : Hid (AL W W.heap.size Lb (.slice wa (ts.length + 1) wc) (.slice (some ⟨g, 0, none⟩) (bs.length + 3) cap) (.slice na ns.length nc) (ts ++ [((.slice ya pl.length yc), ml.length)]) (bs ++ QB) ns U2 Tr Tr Tr) := HA10.out.later hb
      have HZ11 : Hid (w.heap.size ≤ U2.heap.size) := Nat.le_trans HZ10.out hb.size
      refine hK.out _ _ ⟨HX11.out.p, HX11.out.e⟩ (fun hH => ?_)
      clear hK K ho hb HX10 HA10 HZ10 HN1
      refine wpAnyH_ready (rs := [9]) (by kernel_rfl) (by simp) ?_
      refine (AllReadyH.cons (o := ⟨_, _, _, _, _, _⟩) rfl (fun K hK => ?_) AllReadyH.nil)
      go_simp
      have HN3 : Hid (Nw 3 1 encI (U2.alloc (.cells #[(.slice ia LP.length ic), (.slice ja LM.length jc)] 48)) W.heap.size w.heap.size [((.slice ia LP.length ic), LP.length), ((.slice ja LM.length jc), LM.length)]) := HN2.out.later (below1 _ _)
      have HX12 : Hid (Bx9 W.heap.size w.heap.size M w.heap.size #[.int .i64 pk, .int .i64 pn, .string ps, .string pm, x] #[.int .i64 ak, .int .i64 an, .string az, .string am, y] #[.int .i64 mk, .int .i64 mn, .string ms, .string mm, (.slice ya pl.length yc)] S0 (.slice ya pl.length yc) ml QB (U2.alloc (.cells #[(.slice ia LP.length ic), (.slice ja LM.length jc)] 48))) := HX11.out.later (below1 _ _)
      have HA12 : Hid (AL W W.heap.size Lb (.slice wa (ts.length + 1) wc) (.slice (some ⟨g, 0, none⟩) (bs.length + 3) cap) (.slice na ns.length nc) (ts ++ [((.slice ya pl.length yc), ml.length)]) (bs ++ QB) ns (U2.alloc (.cells #[(.slice ia LP.length ic), (.slice ja LM.length jc)] 48)) Tr Tr Tr) := HA11.out.later (below1 _ _)
      have HB12 : Hid (Blk (U2.alloc (.cells #[(.slice ia LP.length ic), (.slice ja LM.length jc)] 48)) U2.heap.size #[(.slice ia LP.length ic), (.slice ja LM.length jc)] 48) := Blk.new _ _ _
      clear hH
      refine hK.out _ _ ⟨HX12.out.p, HX12.out.e⟩ (fun hH => ?_)
      clear hK K HX11 HA11 HZ11 HN2
      revert hH HN3 HX12 HA12 HB12
      generalize U2.alloc (.cells #[(.slice ia LP.length ic), (.slice ja LM.length jc)] 48) = U3
      generalize U2.heap.size = G3
      intro HN3 HX12 HA12 HB12 hH
      refine wpAnyH_ready (rs := [10]) (by kernel_rfl) (by simp) ?_
      refine (AllReadyH.cons (o := ⟨_, _, _, _, _, _⟩) rfl (fun K hK => ?_) AllReadyH.nil)
      refine more9N rfl _ _ rfl W.heap.size (.slice na ns.length nc) ns.length (ns.map (·.1)) (by rfl) HA12.out.n.o G3 2 (by omega) #[(.slice ia LP.length ic), (.slice ja LM.length jc)] (by rfl) (by rfl) HB12.out (by intro q hq; simp at hq; rcases hq with rfl | rfl <;> rfl) (by omega) HA12.out.z ?_
      intro v1 U4 ho hg
      obtain ⟨ka, kc, rfl⟩ := own_form9 ho
      obtain ⟨hal, hbl⟩ := HA12.out.moreN HLB.out HLT.out.2.2 HN3.out (by simpa using ho) hg
      have HA13 : Hid (AL W W.heap.size Lb (.slice wa (ts.length + 1) wc) (.slice (some ⟨g, 0, none⟩) (bs.length + 3) cap) (.slice ka (ns.length + 2) kc) (ts ++ [((.slice ya pl.length yc), ml.length)]) (bs ++ QB) (ns ++ [((.slice ia LP.length ic), LP.length), ((.slice ja LM.length jc), LM.length)]) (U4.setCell ⟨Lb, 2, none⟩ (.slice ka (ns.length + 2) kc)) Tr Tr Tr) := hal
      have HL13 : Hid (Blk U4 Lb #[(.slice wa (ts.length + 1) wc), (.slice (some ⟨g, 0, none⟩) (bs.length + 3) cap), (.slice na ns.length nc)] 36) := hbl
      have HX13 : Hid (Bx9 W.heap.size w.heap.size M w.heap.size #[.int .i64 pk, .int .i64 pn, .string ps, .string pm, x] #[.int .i64 ak, .int .i64 an, .string az, .string am, y] #[.int .i64 mk, .int .i64 mn, .string ms, .string mm, (.slice ya pl.length yc)] S0 (.slice ya pl.length yc) ml QB (U4.setCell ⟨Lb, 2, none⟩ (.slice ka (ns.length + 2) kc))) := HX12.out.more hg (fun b e => (own_block HA12.out.n.o e).2) (by decide) hbl
      have HE13 : Hid (Blk U4 w.heap.size #[.int .i64 pk, .int .i64 pn, .string ps, .string pm, x] 26 ∧ Blk U4 M #[.int .i64 mk, .int .i64 mn, .string ms, .string mm, (.slice ya pl.length yc)] 26) := ⟨HX12.out.p.grown9 hg (fun b e => by obtain ⟨-, c, hc⟩ := own_block HA12.out.n.o e; exact ⟨c, _, hc, by decide⟩), HX12.out.e.grown9 hg (fun b e => by obtain ⟨-, c, hc⟩ := own_block HA12.out.n.o e; exact ⟨c, _, hc, by decide⟩)⟩
      clear hal hbl ho hg hH HN3 HB12
      refine hK.out _ _ HE13.out (fun hH => ?_)
      clear hK K HX12 HA12
      simp only [Act.put, List.setIfInBounds_toArray, List.set_cons_zero, List.set_cons_succ]
      refine wpAnyH_take (i := 11) (oi := ⟨_, _, _, _, _, _⟩) (v := .pointer (some ⟨Lb, 0, none⟩)) rfl (by kernel_rfl) (by kernel_rfl) (by kernel_rfl) (fun _ _ _ h => h) (Or.inl ⟨by rfl, fun w' h => by clear h; go_simp⟩) hH ?_
      simp only [Act.put, List.setIfInBounds_toArray, List.set_cons_zero, List.set_cons_succ]
      refine wpAnyH_take (i := 12) (oi := ⟨_, _, _, _, _, _⟩) (v := .pointer (some ⟨Lb, 2, none⟩)) rfl (by kernel_rfl) (by kernel_rfl) (by kernel_rfl) (fun _ _ _ h => h) (Or.inl ⟨by rfl, fun w' h => by clear h; go_simp⟩) hH ?_
      simp only [Act.put, List.setIfInBounds_toArray, List.set_cons_zero, List.set_cons_succ]
      obtain ⟨m0, m1, m2⟩ := three9 HL13.out
      have mf := frz9 HL13.out 2
      refine wpAnyH_ready (rs := [13]) (by kernel_rfl) (by simp) ?_
      refine (AllReadyH.cons (o := ⟨_, _, _, _, _, _⟩) rfl (fun K hK => ?_) AllReadyH.nil)
      go_simp
      refine hK.out _ _ ⟨HX13.out.p, HX13.out.e⟩ (fun hH => ?_)
      clear hK K hH m0 m1 m2 mf HL13 HE13
      refine wpAnyH_done (by kernel_rfl) ?_ _
      go_wp2
      go_end0
      exact ⟨rfl, _, _, _, _, _, _, HA13.out, rfl, by rw [hQB]; rfl, rfl, fun q hq => by simp at hq; subst hq; simp only; omega, fun q hq => by rw [hQB] at hq; simp at hq; rcases hq with rfl | rfl | rfl <;> simp only <;> omega, fun q hq => by have := HLP.out; have := HLM.out.2; simp at hq; rcases hq with rfl | rfl <;> simp only <;> omega⟩
    · go_simp
      refine (HVA.out _ HA9.out.b).mono ?_
      rintro e U1 ⟨i1, rfl, ho, hb⟩
      obtain ⟨ia, ic, rfl⟩ := own_form9 ho
      have HN1 : Hid (Nw 3 1 encI U1 W.heap.size w.heap.size ([] ++ [((.slice ia LP.length ic), LP.length)])) := Nw.nil.snoc (S := U0.heap.size) (by simp) (Nat.le_trans HWZ.out HZ9.out) HZ9.out (by rw [← ics_enc]; exact ho)
      have HX10 : Hid (Bx9 W.heap.size w.heap.size M w.heap.size #[.int .i64 pk, .int .i64 pn, .string ps, .string pm, x] #[.int .i64 ak, .int .i64 an, .string az, .string am, y] #[.int .i64 mk, .int .i64 mn, .string ms, .string mm, (.slice ya pl.length yc)] S0 (.slice ya pl.length yc) ml QB U1) := HX9.out.later hb
      have HA10 : Hid (AL W W.heap.size Lb (.slice wa (ts.length + 1) wc) (.slice (some ⟨g, 0, none⟩) (bs.length + 3) cap) (.slice na ns.length nc) (ts ++ [((.slice ya pl.length yc), ml.length)]) (bs ++ QB) ns U1 Tr Tr Tr) := HA9.out.later hb
      have HZ10 : Hid (w.heap.size ≤ U1.heap.size) := Nat.le_trans HZ9.out hb.size
      refine hK.out _ _ ⟨HX10.out.p, HX10.out.e⟩ (fun hH => ?_)
      clear hK K ho hb HX9 HA9 HZ9
      refine wpAnyH_ready (rs := [4, 8]) (by kernel_rfl) (by simp) ?_
      refine (AllReadyH.cons (o := ⟨_, _, _, _, _, _⟩) rfl (fun K hK => ?_) (AllReadyH.cons (o := ⟨_, _, _, _, _, _⟩) rfl (fun K hK => ?_) AllReadyH.nil))
      · obtain ⟨m0, m1, m2⟩ := three9 HA10.out.l
        go_simp
        refine hK.out _ _ hH (fun hH => ?_)
        clear hK K m0 m1 m2
        refine wpAnyH_ready (rs := [8]) (by kernel_rfl) (by simp) ?_
        refine (AllReadyH.cons (o := ⟨_, _, _, _, _, _⟩) rfl (fun K hK => ?_) AllReadyH.nil)
        go_simp
        refine (HVM.out _ HX10.out.y).mono ?_
        rintro e U2 ⟨i2, rfl, ho, hb⟩
        obtain ⟨ja, jc, rfl⟩ := own_form9 ho
        have HN2 : Hid (Nw 3 1 encI U2 W.heap.size w.heap.size (([] ++ [((.slice ia LP.length ic), LP.length)]) ++ [((.slice ja LM.length jc), LM.length)])) := (HN1.out.later hb).snoc (S := U1.heap.size) HN1.out.lt (Nat.le_trans HWZ.out HZ10.out) HZ10.out (by rw [← ics_enc]; exact ho)
        have HX11 : Hid (Bx9 W.heap.size w.heap.size M w.heap.size #[.int .i64 pk, .int .i64 pn, .string ps, .string pm, x] #[.int .i64 ak, .int .i64 an, .string az, .string am, y] #[.int .i64 mk, .int .i64 mn, .string ms, .string mm, (.slice ya pl.length yc)] S0 (.slice ya pl.length yc) ml QB U2) := HX10.out.later hb
        have HA11 : Hid (AL W W.heap.size Lb (.slice wa (ts.length + 1) wc) (.slice (some ⟨g, 0, none⟩) (bs.length + 3) cap) (.slice na ns.length nc) (ts ++ [((.slice ya pl.length yc), ml.length)]) (bs ++ QB) ns U2 Tr Tr Tr) := HA10.out.later hb
        have HZ11 : Hid (w.heap.size ≤ U2.heap.size) := Nat.le_trans HZ10.out hb.size
        refine hK.out _ _ ⟨HX11.out.p, HX11.out.e⟩ (fun hH => ?_)
        clear hK K ho hb HX10 HA10 HZ10 HN1
        refine wpAnyH_ready (rs := [9]) (by kernel_rfl) (by simp) ?_
        refine (AllReadyH.cons (o := ⟨_, _, _, _, _, _⟩) rfl (fun K hK => ?_) AllReadyH.nil)
        go_simp
        have HN3 : Hid (Nw 3 1 encI (U2.alloc (.cells #[(.slice ia LP.length ic), (.slice ja LM.length jc)] 48)) W.heap.size w.heap.size [((.slice ia LP.length ic), LP.length), ((.slice ja LM.length jc), LM.length)]) := HN2.out.later (below1 _ _)
        have HX12 : Hid (Bx9 W.heap.size w.heap.size M w.heap.size #[.int .i64 pk, .int .i64 pn, .string ps, .string pm, x] #[.int .i64 ak, .int .i64 an, .string az, .string am, y] #[.int .i64 mk, .int .i64 mn, .string ms, .string mm, (.slice ya pl.length yc)] S0 (.slice ya pl.length yc) ml QB (U2.alloc (.cells #[(.slice ia LP.length ic), (.slice ja LM.length jc)] 48))) := HX11.out.later (below1 _ _)
        have HA12 : Hid (AL W W.heap.size Lb (.slice wa (ts.length + 1) wc) (.slice (some ⟨g, 0, none⟩) (bs.length + 3) cap) (.slice na ns.length nc) (ts ++ [((.slice ya pl.length yc), ml.length)]) (bs ++ QB) ns (U2.alloc (.cells #[(.slice ia LP.length ic), (.slice ja LM.length jc)] 48)) Tr Tr Tr) := HA11.out.later (below1 _ _)
        have HB12 : Hid (Blk (U2.alloc (.cells #[(.slice ia LP.length ic), (.slice ja LM.length jc)] 48)) U2.heap.size #[(.slice ia LP.length ic), (.slice ja LM.length jc)] 48) := Blk.new _ _ _
        clear hH
        refine hK.out _ _ ⟨HX12.out.p, HX12.out.e⟩ (fun hH => ?_)
        clear hK K HX11 HA11 HZ11 HN2
        revert hH HN3 HX12 HA12 HB12
        generalize U2.alloc (.cells #[(.slice ia LP.length ic), (.slice ja LM.length jc)] 48) = U3
        generalize U2.heap.size = G3
        intro HN3 HX12 HA12 HB12 hH
        refine wpAnyH_ready (rs := [10]) (by kernel_rfl) (by simp) ?_
        refine (AllReadyH.cons (o := ⟨_, _, _, _, _, _⟩) rfl (fun K hK => ?_) AllReadyH.nil)
        refine more9N rfl _ _ rfl W.heap.size (.slice na ns.length nc) ns.length (ns.map (·.1)) (by rfl) HA12.out.n.o G3 2 (by omega) #[(.slice ia LP.length ic), (.slice ja LM.length jc)] (by rfl) (by rfl) HB12.out (by intro q hq; simp at hq; rcases hq with rfl | rfl <;> rfl) (by omega) HA12.out.z ?_
        intro v1 U4 ho hg
        obtain ⟨ka, kc, rfl⟩ := own_form9 ho
        obtain ⟨hal, hbl⟩ := HA12.out.moreN HLB.out HLT.out.2.2 HN3.out (by simpa using ho) hg
        have HA13 : Hid (AL W W.heap.size Lb (.slice wa (ts.length + 1) wc) (.slice (some ⟨g, 0, none⟩) (bs.length + 3) cap) (.slice ka (ns.length + 2) kc) (ts ++ [((.slice ya pl.length yc), ml.length)]) (bs ++ QB) (ns ++ [((.slice ia LP.length ic), LP.length), ((.slice ja LM.length jc), LM.length)]) (U4.setCell ⟨Lb, 2, none⟩ (.slice ka (ns.length + 2) kc)) Tr Tr Tr) := hal
        have HL13 : Hid (Blk U4 Lb #[(.slice wa (ts.length + 1) wc), (.slice (some ⟨g, 0, none⟩) (bs.length + 3) cap), (.slice na ns.length nc)] 36) := hbl
        have HX13 : Hid (Bx9 W.heap.size w.heap.size M w.heap.size #[.int .i64 pk, .int .i64 pn, .string ps, .string pm, x] #[.int .i64 ak, .int .i64 an, .string az, .string am, y] #[.int .i64 mk, .int .i64 mn, .string ms, .string mm, (.slice ya pl.length yc)] S0 (.slice ya pl.length yc) ml QB (U4.setCell ⟨Lb, 2, none⟩ (.slice ka (ns.length + 2) kc))) := HX12.out.more hg (fun b e => (own_block HA12.out.n.o e).2) (by decide) hbl
        have HE13 : Hid (Blk U4 w.heap.size #[.int .i64 pk, .int .i64 pn, .string ps, .string pm, x] 26 ∧ Blk U4 M #[.int .i64 mk, .int .i64 mn, .string ms, .string mm, (.slice ya pl.length yc)] 26) := ⟨HX12.out.p.grown9 hg (fun b e => by obtain ⟨-, c, hc⟩ := own_block HA12.out.n.o e; exact ⟨c, _, hc, by decide⟩), HX12.out.e.grown9 hg (fun b e => by obtain ⟨-, c, hc⟩ := own_block HA12.out.n.o e; exact ⟨c, _, hc, by decide⟩)⟩
        clear hal hbl ho hg hH HN3 HB12
        refine hK.out _ _ HE13.out (fun hH => ?_)
        clear hK K HX12 HA12
        simp only [Act.put, List.setIfInBounds_toArray, List.set_cons_zero, List.set_cons_succ]
        refine wpAnyH_take (i := 11) (oi := ⟨_, _, _, _, _, _⟩) (v := .pointer (some ⟨Lb, 0, none⟩)) rfl (by kernel_rfl) (by kernel_rfl) (by kernel_rfl) (fun _ _ _ h => h) (Or.inl ⟨by rfl, fun w' h => by clear h; go_simp⟩) hH ?_
        simp only [Act.put, List.setIfInBounds_toArray, List.set_cons_zero, List.set_cons_succ]
        refine wpAnyH_take (i := 12) (oi := ⟨_, _, _, _, _, _⟩) (v := .pointer (some ⟨Lb, 2, none⟩)) rfl (by kernel_rfl) (by kernel_rfl) (by kernel_rfl) (fun _ _ _ h => h) (Or.inl ⟨by rfl, fun w' h => by clear h; go_simp⟩) hH ?_
        simp only [Act.put, List.setIfInBounds_toArray, List.set_cons_zero, List.set_cons_succ]
        obtain ⟨m0, m1, m2⟩ := three9 HL13.out
        have mf := frz9 HL13.out 2
        refine wpAnyH_ready (rs := [13]) (by kernel_rfl) (by simp) ?_
        refine (AllReadyH.cons (o := ⟨_, _, _, _, _, _⟩) rfl (fun K hK => ?_) AllReadyH.nil)
        go_simp
        refine hK.out _ _ ⟨HX13.out.p, HX13.out.e⟩ (fun hH => ?_)
        clear hK K hH m0 m1 m2 mf HL13 HE13
        refine wpAnyH_done (by kernel_rfl) ?_ _
        go_wp2
        go_end0
        exact ⟨rfl, _, _, _, _, _, _, HA13.out, rfl, by rw [hQB]; rfl, rfl, fun q hq => by simp at hq; subst hq; simp only; omega, fun q hq => by rw [hQB] at hq; simp at hq; rcases hq with rfl | rfl | rfl <;> simp only <;> omega, fun q hq => by have := HLP.out; have := HLM.out.2; simp at hq; rcases hq with rfl | rfl <;> simp only <;> omega⟩
      · go_simp
        refine (HVM.out _ HX10.out.y).mono ?_
        rintro e U2 ⟨i2, rfl, ho, hb⟩
        obtain ⟨ja, jc, rfl⟩ := own_form9 ho
        have HN2 : Hid (Nw 3 1 encI U2 W.heap.size w.heap.size (([] ++ [((.slice ia LP.length ic), LP.length)]) ++ [((.slice ja LM.length jc), LM.length)])) := (HN1.out.later hb).snoc (S := U1.heap.size) HN1.out.lt (Nat.le_trans HWZ.out HZ10.out) HZ10.out (by rw [← ics_enc]; exact ho)
        have HX11 : Hid (Bx9 W.heap.size w.heap.size M w.heap.size #[.int .i64 pk, .int .i64 pn, .string ps, .string pm, x] #[.int .i64 ak, .int .i64 an, .string az, .string am, y] #[.int .i64 mk, .int .i64 mn, .string ms, .string mm, (.slice ya pl.length yc)] S0 (.slice ya pl.length yc) ml QB U2) := HX10.out.later hb
        have HA11 : Hid (AL W W.heap.size Lb (.slice wa (ts.length + 1) wc) (.slice (some ⟨g, 0, none⟩) (bs.length + 3) cap) (.slice na ns.length nc) (ts ++ [((.slice ya pl.length yc), ml.length)]) (bs ++ QB) ns U2 Tr Tr Tr) := HA10.out.later hb
        have HZ11 : Hid (w.heap.size ≤ U2.heap.size) := Nat.le_trans HZ10.out hb.size
        refine hK.out _ _ ⟨HX11.out.p, HX11.out.e⟩ (fun hH => ?_)
        clear hK K ho hb HX10 HA10 HZ10 HN1
        refine wpAnyH_ready (rs := [4, 9]) (by kernel_rfl) (by simp) ?_
        refine (AllReadyH.cons (o := ⟨_, _, _, _, _, _⟩) rfl (fun K hK => ?_) (AllReadyH.cons (o := ⟨_, _, _, _, _, _⟩) rfl (fun K hK => ?_) AllReadyH.nil))
        · obtain ⟨m0, m1, m2⟩ := three9 HA11.out.l
          go_simp
          refine hK.out _ _ hH (fun hH => ?_)
          clear hK K m0 m1 m2
          refine wpAnyH_ready (rs := [9]) (by kernel_rfl) (by simp) ?_
          refine (AllReadyH.cons (o := ⟨_, _, _, _, _, _⟩) rfl (fun K hK => ?_) AllReadyH.nil)
          go_simp
          have HN3 : Hid (Nw 3 1 encI (U2.alloc (.cells #[(.slice ia LP.length ic), (.slice ja LM.length jc)] 48)) W.heap.size w.heap.size [((.slice ia LP.length ic), LP.length), ((.slice ja LM.length jc), LM.length)]) := HN2.out.later (below1 _ _)
          have HX12 : Hid (Bx9 W.heap.size w.heap.size M w.heap.size #[.int .i64 pk, .int .i64 pn, .string ps, .string pm, x] #[.int .i64 ak, .int .i64 an, .string az, .string am, y] #[.int .i64 mk, .int .i64 mn, .string ms, .string mm, (.slice ya pl.length yc)] S0 (.slice ya pl.length yc) ml QB (U2.alloc (.cells #[(.slice ia LP.length ic), (.slice ja LM.length jc)] 48))) := HX11.out.later (below1 _ _)
          have HA12 : Hid (AL W W.heap.size Lb (.slice wa (ts.length + 1) wc) (.slice (some ⟨g, 0, none⟩) (bs.length + 3) cap) (.slice na ns.length nc) (ts ++ [((.slice ya pl.length yc), ml.length)]) (bs ++ QB) ns (U2.alloc (.cells #[(.slice ia LP.length ic), (.slice ja LM.length jc)] 48)) Tr Tr Tr) := HA11.out.later (below1 _ _)
          have HB12 : Hid (Blk (U2.alloc (.cells #[(.slice ia LP.length ic), (.slice ja LM.length jc)] 48)) U2.heap.size #[(.slice ia LP.length ic), (.slice ja LM.length jc)] 48) := Blk.new _ _ _
          clear hH
          refine hK.out _ _ ⟨HX12.out.p, HX12.out.e⟩ (fun hH => ?_)
          clear hK K HX11 HA11 HZ11 HN2
          revert hH HN3 HX12 HA12 HB12
          generalize U2.alloc (.cells #[(.slice ia LP.length ic), (.slice ja LM.length jc)] 48) = U3
          generalize U2.heap.size = G3
          intro HN3 HX12 HA12 HB12 hH
          refine wpAnyH_ready (rs := [10]) (by kernel_rfl) (by simp) ?_
          refine (AllReadyH.cons (o := ⟨_, _, _, _, _, _⟩) rfl (fun K hK => ?_) AllReadyH.nil)
          refine more9N rfl _ _ rfl W.heap.size (.slice na ns.length nc) ns.length (ns.map (·.1)) (by rfl) HA12.out.n.o G3 2 (by omega) #[(.slice ia LP.length ic), (.slice ja LM.length jc)] (by rfl) (by rfl) HB12.out (by intro q hq; simp at hq; rcases hq with rfl | rfl <;> rfl) (by omega) HA12.out.z ?_
          intro v1 U4 ho hg
          obtain ⟨ka, kc, rfl⟩ := own_form9 ho
          obtain ⟨hal, hbl⟩ := HA12.out.moreN HLB.out HLT.out.2.2 HN3.out (by simpa using ho) hg
          have HA13 : Hid (AL W W.heap.size Lb (.slice wa (ts.length + 1) wc) (.slice (some ⟨g, 0, none⟩) (bs.length + 3) cap) (.slice ka (ns.length + 2) kc) (ts ++ [((.slice ya pl.length yc), ml.length)]) (bs ++ QB) (ns ++ [((.slice ia LP.length ic), LP.length), ((.slice ja LM.length jc), LM.length)]) (U4.setCell ⟨Lb, 2, none⟩ (.slice ka (ns.length + 2) kc)) Tr Tr Tr) := hal
          have HL13 : Hid (Blk U4 Lb #[(.slice wa (ts.length + 1) wc), (.slice (some ⟨g, 0, none⟩) (bs.length + 3) cap), (.slice na ns.length nc)] 36) := hbl
          have HX13 : Hid (Bx9 W.heap.size w.heap.size M w.heap.size #[.int .i64 pk, .int .i64 pn, .string ps, .string pm, x] #[.int .i64 ak, .int .i64 an, .string az, .string am, y] #[.int .i64 mk, .int .i64 mn, .string ms, .string mm, (.slice ya pl.length yc)] S0 (.slice ya pl.length yc) ml QB (U4.setCell ⟨Lb, 2, none⟩ (.slice ka (ns.length + 2) kc))) := HX12.out.more hg (fun b e => (own_block HA12.out.n.o e).2) (by decide) hbl
          have HE13 : Hid (Blk U4 w.heap.size #[.int .i64 pk, .int .i64 pn, .string ps, .string pm, x] 26 ∧ Blk U4 M #[.int .i64 mk, .int .i64 mn, .string ms, .string mm, (.slice ya pl.length yc)] 26) := ⟨HX12.out.p.grown9 hg (fun b e => by obtain ⟨-, c, hc⟩ := own_block HA12.out.n.o e; exact ⟨c, _, hc, by decide⟩), HX12.out.e.grown9 hg (fun b e => by obtain ⟨-, c, hc⟩ := own_block HA12.out.n.o e; exact ⟨c, _, hc, by decide⟩)⟩
          clear hal hbl ho hg hH HN3 HB12
          refine hK.out _ _ HE13.out (fun hH => ?_)
          clear hK K HX12 HA12
          simp only [Act.put, List.setIfInBounds_toArray, List.set_cons_zero, List.set_cons_succ]
          refine wpAnyH_take (i := 11) (oi := ⟨_, _, _, _, _, _⟩) (v := .pointer (some ⟨Lb, 0, none⟩)) rfl (by kernel_rfl) (by kernel_rfl) (by kernel_rfl) (fun _ _ _ h => h) (Or.inl ⟨by rfl, fun w' h => by clear h; go_simp⟩) hH ?_
          simp only [Act.put, List.setIfInBounds_toArray, List.set_cons_zero, List.set_cons_succ]
          refine wpAnyH_take (i := 12) (oi := ⟨_, _, _, _, _, _⟩) (v := .pointer (some ⟨Lb, 2, none⟩)) rfl (by kernel_rfl) (by kernel_rfl) (by kernel_rfl) (fun _ _ _ h => h) (Or.inl ⟨by rfl, fun w' h => by clear h; go_simp⟩) hH ?_
          simp only [Act.put, List.setIfInBounds_toArray, List.set_cons_zero, List.set_cons_succ]
          obtain ⟨m0, m1, m2⟩ := three9 HL13.out
          have mf := frz9 HL13.out 2
          refine wpAnyH_ready (rs := [13]) (by kernel_rfl) (by simp) ?_
          refine (AllReadyH.cons (o := ⟨_, _, _, _, _, _⟩) rfl (fun K hK => ?_) AllReadyH.nil)
          go_simp
          refine hK.out _ _ ⟨HX13.out.p, HX13.out.e⟩ (fun hH => ?_)
          clear hK K hH m0 m1 m2 mf HL13 HE13
          refine wpAnyH_done (by kernel_rfl) ?_ _
          go_wp2
          go_end0
          exact ⟨rfl, _, _, _, _, _, _, HA13.out, rfl, by rw [hQB]; rfl, rfl, fun q hq => by simp at hq; subst hq; simp only; omega, fun q hq => by rw [hQB] at hq; simp at hq; rcases hq with rfl | rfl | rfl <;> simp only <;> omega, fun q hq => by have := HLP.out; have := HLM.out.2; simp at hq; rcases hq with rfl | rfl <;> simp only <;> omega⟩
        · go_simp
          have HN3 : Hid (Nw 3 1 encI (U2.alloc (.cells #[(.slice ia LP.length ic), (.slice ja LM.length jc)] 48)) W.heap.size w.heap.size [((.slice ia LP.length ic), LP.length), ((.slice ja LM.length jc), LM.length)]) := HN2.out.later (below1 _ _)
          have HX12 : Hid (Bx9 W.heap.size w.heap.size M w.heap.size #[.int .i64 pk, .int .i64 pn, .string ps, .string pm, x] #[.int .i64 ak, .int .i64 an, .string az, .string am, y] #[.int .i64 mk, .int .i64 mn, .string ms, .string mm, (.slice ya pl.length yc)] S0 (.slice ya pl.length yc) ml QB (U2.alloc (.cells #[(.slice ia LP.length ic), (.slice ja LM.length jc)] 48))) := HX11.out.later (below1 _ _)
          have HA12 : Hid (AL W W.heap.size Lb (.slice wa (ts.length + 1) wc) (.slice (some ⟨g, 0, none⟩) (bs.length + 3) cap) (.slice na ns.length nc) (ts ++ [((.slice ya pl.length yc), ml.length)]) (bs ++ QB) ns (U2.alloc (.cells #[(.slice ia LP.length ic), (.slice ja LM.length jc)] 48)) Tr Tr Tr) := HA11.out.later (below1 _ _)
          have HB12 : Hid (Blk (U2.alloc (.cells #[(.slice ia LP.length ic), (.slice ja LM.length jc)] 48)) U2.heap.size #[(.slice ia LP.length ic), (.slice ja LM.length jc)] 48) := Blk.new _ _ _
          clear hH
          refine hK.out _ _ ⟨HX12.out.p, HX12.out.e⟩ (fun hH => ?_)
          clear hK K HX11 HA11 HZ11 HN2
          revert hH HN3 HX12 HA12 HB12
          generalize U2.alloc (.cells #[(.slice ia LP.length ic), (.slice ja LM.length jc)] 48) = U3
          generalize U2.heap.size = G3
          intro HN3 HX12 HA12 HB12 hH
          refine wpAnyH_ready (rs := [4]) (by kernel_rfl) (by simp) ?_
          refine (AllReadyH.cons (o := ⟨_, _, _, _, _, _⟩) rfl (fun K hK => ?_) AllReadyH.nil)
          obtain ⟨m0, m1, m2⟩ := three9 HA12.out.l
          go_simp
          refine hK.out _ _ hH (fun hH => ?_)
          clear hK K m0 m1 m2
          refine wpAnyH_ready (rs := [10]) (by kernel_rfl) (by simp) ?_
          refine (AllReadyH.cons (o := ⟨_, _, _, _, _, _⟩) rfl (fun K hK => ?_) AllReadyH.nil)
          refine more9N rfl _ _ rfl W.heap.size (.slice na ns.length nc) ns.length (ns.map (·.1)) (by rfl) HA12.out.n.o G3 2 (by omega) #[(.slice ia LP.length ic), (.slice ja LM.length jc)] (by rfl) (by rfl) HB12.out (by intro q hq; simp at hq; rcases hq with rfl | rfl <;> rfl) (by omega) HA12.out.z ?_
          intro v1 U4 ho hg
          obtain ⟨ka, kc, rfl⟩ := own_form9 ho
          obtain ⟨hal, hbl⟩ := HA12.out.moreN HLB.out HLT.out.2.2 HN3.out (by simpa using ho) hg
          have HA13 : Hid (AL W W.heap.size Lb (.slice wa (ts.length + 1) wc) (.slice (some ⟨g, 0, none⟩) (bs.length + 3) cap) (.slice ka (ns.length + 2) kc) (ts ++ [((.slice ya pl.length yc), ml.length)]) (bs ++ QB) (ns ++ [((.slice ia LP.length ic), LP.length), ((.slice ja LM.length jc), LM.length)]) (U4.setCell ⟨Lb, 2, none⟩ (.slice ka (ns.length + 2) kc)) Tr Tr Tr) := hal
          have HL13 : Hid (Blk U4 Lb #[(.slice wa (ts.length + 1) wc), (.slice (some ⟨g, 0, none⟩) (bs.length + 3) cap), (.slice na ns.length nc)] 36) := hbl
          have HX13 : Hid (Bx9 W.heap.size w.heap.size M w.heap.size #[.int .i64 pk, .int .i64 pn, .string ps, .string pm, x] #[.int .i64 ak, .int .i64 an, .string az, .string am, y] #[.int .i64 mk, .int .i64 mn, .string ms, .string mm, (.slice ya pl.length yc)] S0 (.slice ya pl.length yc) ml QB (U4.setCell ⟨Lb, 2, none⟩ (.slice ka (ns.length + 2) kc))) := HX12.out.more hg (fun b e => (own_block HA12.out.n.o e).2) (by decide) hbl
          have HE13 : Hid (Blk U4 w.heap.size #[.int .i64 pk, .int .i64 pn, .string ps, .string pm, x] 26 ∧ Blk U4 M #[.int .i64 mk, .int .i64 mn, .string ms, .string mm, (.slice ya pl.length yc)] 26) := ⟨HX12.out.p.grown9 hg (fun b e => by obtain ⟨-, c, hc⟩ := own_block HA12.out.n.o e; exact ⟨c, _, hc, by decide⟩), HX12.out.e.grown9 hg (fun b e => by obtain ⟨-, c, hc⟩ := own_block HA12.out.n.o e; exact ⟨c, _, hc, by decide⟩)⟩
          clear hal hbl ho hg hH HN3 HB12
          refine hK.out _ _ HE13.out (fun hH => ?_)
          clear hK K HX12 HA12
          simp only [Act.put, List.setIfInBounds_toArray, List.set_cons_zero, List.set_cons_succ]
          refine wpAnyH_take (i := 11) (oi := ⟨_, _, _, _, _, _⟩) (v := .pointer (some ⟨Lb, 0, none⟩)) rfl (by kernel_rfl) (by kernel_rfl) (by kernel_rfl) (fun _ _ _ h => h) (Or.inl ⟨by rfl, fun w' h => by clear h; go_simp⟩) hH ?_
          simp only [Act.put, List.setIfInBounds_toArray, List.set_cons_zero, List.set_cons_succ]
          refine wpAnyH_take (i := 12) (oi := ⟨_, _, _, _, _, _⟩) (v := .pointer (some ⟨Lb, 2, none⟩)) rfl (by kernel_rfl) (by kernel_rfl) (by kernel_rfl) (fun _ _ _ h => h) (Or.inl ⟨by rfl, fun w' h => by clear h; go_simp⟩) hH ?_
          simp only [Act.put, List.setIfInBounds_toArray, List.set_cons_zero, List.set_cons_succ]
          obtain ⟨m0, m1, m2⟩ := three9 HL13.out
          have mf := frz9 HL13.out 2
          refine wpAnyH_ready (rs := [13]) (by kernel_rfl) (by simp) ?_
          refine (AllReadyH.cons (o := ⟨_, _, _, _, _, _⟩) rfl (fun K hK => ?_) AllReadyH.nil)
          go_simp
          refine hK.out _ _ ⟨HX13.out.p, HX13.out.e⟩ (fun hH => ?_)
          clear hK K hH m0 m1 m2 mf HL13 HE13
          refine wpAnyH_done (by kernel_rfl) ?_ _
          go_wp2
          go_end0
          exact ⟨rfl, _, _, _, _, _, _, HA13.out, rfl, by rw [hQB]; rfl, rfl, fun q hq => by simp at hq; subst hq; simp only; omega, fun q hq => by rw [hQB] at hq; simp at hq; rcases hq with rfl | rfl | rfl <;> simp only <;> omega, fun q hq => by have := HLP.out; have := HLM.out.2; simp at hq; rcases hq with rfl | rfl <;> simp only <;> omega⟩
end Go.Proofs.YtnaiecemmhioeaaDoor

import Derived.Test.YtechceagghcipaaGreatDoorRA5
import Derived.Laws.AppendOwnNone
import Derived.Lib.SliceRun
namespace Go.Proofs.YtechceagghcipaaGreatDoor
open Go.RowKit
attribute [local go_sem ↓] Go.wp_at_zero Go.wp_at_succ

theorem gappI {ops : Array Oper} {rest : List Oper} {o : Oper} {a : Act} {Q : Exit -> Act -> World -> Prop} {w : World} (hgd : o.guard = none) (s x : Operand)
  (ho : o.op = .call { callee := .builtin .append, args := #[s, x], argTypes := #[71, 71] }) (base : Nat) (v : Value) (l : List Int) (hs : a.eval s = v) (hown : OwI w base v l)
  (G : Nat -> Prop) (y : Value) (m : List Int) (hx : a.eval x = y) (hy : Li G w y m) (hlen : l.length + m.length <= 1000000000000) (hbase : base <= w.heap.size)
  (h : ∀ v' w', OwI w' base v' (l ++ m) -> w.grownBy w' v.ownBlock -> wpList Tryz.prog ops Q rest (a.put o.dst v') w') : wpList Tryz.prog ops Q (o :: rest) a w := by
 obtain ⟨i, hi, h0, h1, h2⟩ := info7 Tryz.infoInt7
 obtain ⟨ad, cap, rfl, hc, -, -, hm⟩ := hy
 cases ad with
 | none =>
  rcases hm with ⟨rfl, e⟩ | ⟨b, o', e, -⟩
  ·rw [e rfl] at hx
   refine wpList_append_own_none hgd s x 71 ho base 3 i 1 Tryz.underlying71 hi v l.length (ibs7 l) hs hown hx ?_
   exact h v w (by rw [List.append_nil]; exact hown) (World.grownBy.refl _ _)
  ·cases e
 | some ad =>
  refine wpList_append_own _ hgd s x 71 ho base 3 i _ 1 8 Tryz.underlying71 hi h0 h1 h2 rfl (by omega) v l.length (ibs7 l) hs hown ad m.length cap (ibs7 m) hx (by simp [ibs7]) ?_ (fun u hu => by simp only [ibs7, List.mem_map] at hu; obtain ⟨z, -, rfl⟩ := hu; rfl) (by unfold maxLen; omega) (by omega) hbase ?_
  ·rcases hm with ⟨rfl, -⟩ | ⟨b, o', e, hlt, -, hc⟩
   ·intro j u hu; simp [ibs7] at hu
   ·cases e
    intro j u hu
    simp only [ibs7, List.getElem?_map, Option.map_eq_some_iff] at hu
    obtain ⟨z, hz, rfl⟩ := hu
    rw [Go.WideShapes.add_plain]
    exact hc j z hz
  ·intro v' w' g1 g2 _
   refine h v' w' ?_ g2
   unfold OwI
   rw [List.length_append, show ibs7 (l ++ m) = ibs7 l ++ ibs7 m by simp [ibs7]]
   exact g1
theorem gstep {T e : TypeId} {z : Value} {by_ : Nat} (hT : Tryz.prog.underlying T = some (.slice e)) (hI : (Tryz.prog.info? e).map (fun i => (i.zero, i.size, i.bytes)) = some (some z, 1, by_)) (hz : z.cells.size = 1) (hby : by_ <= 100)
  {ops : Array Oper} {o : Oper} {a : Act} {K : Act -> World -> Prop} {Q : Exit -> Act -> World -> Prop} {E : Prop} {w : World} (hgd : o.guard = none) (s x : Operand)
  (ho : o.op = .call { callee := .builtin .append, args := #[s, x], argTypes := #[T, T] }) (base : Nat) (v : Value) (n : Nat) (l : List Value) (hs : a.eval s = v) (hown : w.ownsRow base e 1 v n l)
  (b : Nat) (y : Value) (hx : a.eval x = .slice (some ⟨b, 0, none⟩) 1 1) (hblk : Bk w b #[y] e) (hy : y.oneCell' = true) (hlen : n <= 1000000000000) (hbase : base <= w.heap.size)
  (h : ∀ g cap w', w'.ownsRow base e 1 (.slice (some ⟨g, 0, none⟩) (n + 1) cap) (n + 1) (l ++ [y]) -> w.grownBy w' v.ownBlock -> (v.ownBlock = some g ∨ g = w.heap.size) -> g < w'.heap.size -> K (a.put o.dst (.slice (some ⟨g, 0, none⟩) (n + 1) cap)) w') : if Region.wanted o (yielded ops a.tmps) = true then Oper.wp Tryz.prog o a w K Q else E := by
 obtain ⟨i, hi, h0, h1, h2⟩ := info7 hI
 refine step_append_lies _ hgd s x T ho base e i z 1 by_ hT hi h0 h1 h2 hz (by omega) v n l hs hown ⟨b, 0, none⟩ 1 1 [y] hx rfl ?_ (by simpa using hy) (by omega) (by unfold maxLen; omega) (Nat.le_trans (Nat.mul_le_mul (show n + 1 <= 1000000000001 by omega) hby) (by decide)) hbase _ rfl h
 intro j u hj
 exact World.news_of_block (cs := #[y]) (t := e) (fr := (0, 0)) hblk j u (by simpa using hj)
theorem row7_mono {e : TypeId} {w : World} {b b' n m : Nat} {v : Value} {xs : List Value} (h : w.ownsRow b e n v m xs) (hb : b' <= b) : w.ownsRow b' e n v m xs := by
 refine ⟨h.1, ?_⟩
 rcases h.2 with hn | ⟨g, cap, cur, hv, hbb, hg, rest⟩
 ·exact Or.inl hn
 ·exact Or.inr ⟨g, cap, cur, hv, Nat.le_trans hb hbb, hg, rest⟩
theorem cell_map {w : World} {m : Nat} {es : Array MapEntry} {c : Nat} (h : w.heap[m]? = some (.map es c)) (o : Nat) : w.cell? ⟨m, o, none⟩ = none := by
 simp [World.cell?, h]
theorem Li.grownM {G : Nat -> Prop} {P : Program} {k : TypeId} {w w' : World} {v : Value} {l : List Int} {m n : Nat} {f : ByteArray -> Option Value} (h : Li G w v l) (hm : Mp P k w m n f) (hg : w.grownBy w' (some m)) : Li G w' v l := by
 obtain ⟨D, ⟨es, clock, h1, -⟩, -⟩ := hm.ex
 obtain ⟨a, cap, rfl, q1, q2, q3, q4⟩ := h
 refine ⟨a, cap, rfl, q1, q2, q3, q4.imp id ?_⟩
 rintro ⟨b, o, rfl, q4, q5, q6⟩
 refine ⟨b, o, rfl, Nat.lt_of_lt_of_le q4 hg.size, q5, fun i x hx => ?_⟩
 have hne : b ≠ m := fun e => by
  subst e
  have := q6 i x hx
  rw [cell_map h1] at this
  cases this
 exact hg.cell (q6 i x hx) (fun e => hne (by cases e; rfl))
theorem lit0 (w : World) : OwI (w.alloc (.cells #[] 3)) w.heap.size (.slice (some ⟨w.heap.size, 0, none⟩) 0 0) [] :=
 ⟨rfl, Or.inr ⟨w.heap.size, 0, #[], rfl, Nat.le_refl _, heap_alloc_new _ _, Nat.le_refl _, by simp, rfl, rfl⟩⟩
set_option maxRecDepth 20000 in
set_option maxHeartbeats 1000000 in
theorem clone7_any (G : Nat -> Prop) (v : Value) (l : List Int) (w : World) (h : Li G w v l) (hl : l.length <= 100000000000) :
  Calls Tryz.prog 59 #[v] w fun e w' => ∃ v', e = .returned v' /\ OwI w' w.heap.size v' l /\ Below w.heap.size w w' := by
 have H := hm7 h
 have qT : ∀ (w : World) (a : Option Addr) (n c n' c' : Nat), (binOp .eql 71 (.slice a n c) (.slice none n' c')).run Tryz.prog w = .ok (.bool a.isNone) w := fun w a n c n' c' => Go.Lib.run_eql_slice_nil w 71 3 a n c n' c' Tryz.underlying71
 obtain ⟨a, cap, rfl, -, -, -, h4⟩ := h
 cases a with
 | none =>
  rcases h4 with ⟨rfl, e⟩ | ⟨b, o, e, -⟩
  ·obtain rfl := e rfl
   go_enter Tryz.func59, Tryz.ntmps59
   go_wp2
   go_ret
   exact ⟨.slice none 0 0, rfl, OwI.nil _ _, Below.refl _ _⟩
  ·cases e
 | some ad =>
  clear h4
  obtain ⟨n, hn⟩ : ∃ n, n = l.length := ⟨_, rfl⟩
  have HN := hm7 hn
  rw [<- hn] at H ⊢
  clear hn
  go_enter Tryz.func59, Tryz.ntmps59
  go_wp2_with (at_builtin; refine gappI rfl _ _ rfl w.heap.size (.slice (some ⟨w.heap.size, 0, none⟩) 0 0) [] rfl (lit0 w) G _ l rfl (H.out.below (below1 _ _)) (by simp; omega) (by simp) ?_; intro v' w' ho hg)
  go_ret
  exact ⟨v', rfl, by simpa using ho, (below1 _ _).trans (Fr.grown (P := fun b => w.heap.size <= b) hg (fun b hb => by cases hb; exact Nat.le_refl _) |>.low (by simp))⟩
end Go.Proofs.YtechceagghcipaaGreatDoor

import Derived.Test.YtechceagghcipabGreatDoorRA2
import Derived.Test.YtechceagghcipabGreatDoorRA13
namespace Go.Proofs.YtechceagghcipabGreatDoor
open Go.RowKit
attribute [local go_sem ↓] Go.wp_at_zero Go.wp_at_succ
theorem gappN {T e : TypeId} {z : Value} {by_ size : Nat} (hT : Tryz.prog.underlying T = some (.slice e)) (hI : (Tryz.prog.info? e).map (fun i => (i.zero, i.size, i.bytes)) = some (some z, size, by_)) (hz : z.cells.size = size) (hsz : 0 < size) (hby : by_ <= 100)
  {ops : Array Oper} {rest : List Oper} {o : Oper} {a : Act} {Q : Exit -> Act -> World -> Prop} {w : World} (hgd : o.guard = none) (s x : Operand)
  (ho : o.op = .call { callee := .builtin .append, args := #[s, x], argTypes := #[T, T] }) (base : Nat) (v : Value) (n : Nat) (l : List Value) (hs : a.eval s = v) (hown : w.ownsRow base e size v n l)
  (b : Nat) (y : Array Value) (hx : a.eval x = .slice (some ⟨b, 0, none⟩) 1 1) (hblk : Bk w b y e) (hy : y.size = size) (hone : ∀ u ∈ y.toList, u.oneCell' = true) (hlen : n <= 1000000000000) (hbase : base <= w.heap.size)
  (h : ∀ g cap w', w'.ownsRow base e size (.slice (some ⟨g, 0, none⟩) (n + 1) cap) (n + 1) (l ++ y.toList) -> w.grownBy w' v.ownBlock -> (v.ownBlock = some g ∨ g = w.heap.size) -> g < w'.heap.size -> wpList Tryz.prog ops Q rest (a.put o.dst (.slice (some ⟨g, 0, none⟩) (n + 1) cap)) w') : wpList Tryz.prog ops Q (o :: rest) a w := by
 obtain ⟨i, hi, h0, h1, h2⟩ := info7 hI
 refine wpList_append_lies _ hgd s x T ho base e i z size by_ hT hi h0 h1 h2 hz hsz v n l hs hown ⟨b, 0, none⟩ 1 1 y.toList hx (by simp [hy]) ?_ hone (by omega) (by unfold maxLen; omega) (Nat.le_trans (Nat.mul_le_mul (show n + 1 <= 1000000000001 by omega) hby) (by decide)) hbase _ rfl h
 intro j u hj
 exact World.news_of_block (cs := y) (t := e) (fr := (0, 0)) hblk j u (by simpa using hj)
theorem gstepN {T e : TypeId} {z : Value} {by_ size : Nat} (hT : Tryz.prog.underlying T = some (.slice e)) (hI : (Tryz.prog.info? e).map (fun i => (i.zero, i.size, i.bytes)) = some (some z, size, by_)) (hz : z.cells.size = size) (hsz : 0 < size) (hby : by_ <= 100)
  {ops : Array Oper} {o : Oper} {a : Act} {K : Act -> World -> Prop} {Q : Exit -> Act -> World -> Prop} {E : Prop} {w : World} (hgd : o.guard = none) (s x : Operand)
  (ho : o.op = .call { callee := .builtin .append, args := #[s, x], argTypes := #[T, T] }) (base : Nat) (v : Value) (n : Nat) (l : List Value) (hs : a.eval s = v) (hown : w.ownsRow base e size v n l)
  (b : Nat) (y : Array Value) (hx : a.eval x = .slice (some ⟨b, 0, none⟩) 1 1) (hblk : Bk w b y e) (hy : y.size = size) (hone : ∀ u ∈ y.toList, u.oneCell' = true) (hlen : n <= 1000000000000) (hbase : base <= w.heap.size)
  (h : ∀ g cap w', w'.ownsRow base e size (.slice (some ⟨g, 0, none⟩) (n + 1) cap) (n + 1) (l ++ y.toList) -> w.grownBy w' v.ownBlock -> (v.ownBlock = some g ∨ g = w.heap.size) -> g < w'.heap.size -> K (a.put o.dst (.slice (some ⟨g, 0, none⟩) (n + 1) cap)) w') : if Region.wanted o (yielded ops a.tmps) = true then Oper.wp Tryz.prog o a w K Q else E := by
 obtain ⟨i, hi, h0, h1, h2⟩ := info7 hI
 refine step_append_lies _ hgd s x T ho base e i z size by_ hT hi h0 h1 h2 hz hsz v n l hs hown ⟨b, 0, none⟩ 1 1 y.toList hx (by simp [hy]) ?_ hone (by omega) (by unfold maxLen; omega) (Nat.le_trans (Nat.mul_le_mul (show n + 1 <= 1000000000001 by omega) hby) (by decide)) hbase _ rfl h
 intro j u hj
 exact World.news_of_block (cs := y) (t := e) (fr := (0, 0)) hblk j u (by simpa using hj)
theorem Tryz.infoStretch7 : (Tryz.prog.info? 128).map (fun i => (i.zero, i.size, i.bytes)) = some (some (.agg #[.int .i64 0, .int .i64 0]), 2, 16) := by kernel_rfl
def hp7 (parts k : Int) : Bool := bits BinOp.and IntKind.i64 parts k != 0
def sts7 (s : St7) (parts : Int) : List (Int × Int) := (if hp7 parts 1 then [(0, (s.nf : Int))] else []) ++ ((if hp7 parts 2 then [((s.nf : Int), (s.xf : Int))] else []) ++ (if hp7 parts 4 then [((s.xf : Int), (s.rows.length : Int))] else []))
def pcs7 (l : List (Int × Int)) : List Value := l.flatMap fun p => [.int .i64 p.1, .int .i64 p.2]
def OwSt (w : World) (base : Nat) (v : Value) (l : List (Int × Int)) : Prop := w.ownsRow base 128 2 v l.length (pcs7 l)
structure SS7 (w : World) (g : Nat) (cs : Array Value) (V : World) (u : Value) (l : List (Int × Int)) : Prop where
 b : Below w.heap.size w V
 g : Bk V g cs 118
 o : OwSt V w.heap.size u l
theorem SS7.more {w V V2 : World} {g : Nat} {cs : Array Value} {u : Value} {l : List (Int × Int)} {x y : Int} {g2 c2 n : Nat} (h : SS7 w g cs V u l) (hg : g < w.heap.size) (hn : l.length = n) (ho : V2.ownsRow w.heap.size 128 2 (.slice (some ⟨g2, 0, none⟩) (n + 1) c2) (n + 1) (pcs7 l ++ [.int .i64 x, .int .i64 y])) (hgr : (V.alloc (.cells #[.int .i64 x, .int .i64 y] 128)).grownBy V2 u.ownBlock) :
  SS7 w g cs V2 (.slice (some ⟨g2, 0, none⟩) (n + 1) c2) (l ++ [(x, y)]) := by
 have lo := h.o.lt
 have f1 : Fr (fun b => w.heap.size <= b) (V.alloc (.cells #[.int .i64 x, .int .i64 y] 128)) V2 := Fr.grown hgr fun b hb => (lo b hb).1
 have l1 := f1.low (Nat.le_trans h.b.size (by simp))
 refine ⟨h.b.trans (((below1 V (.cells #[.int .i64 x, .int .i64 y] 128)).mono h.b.size).trans l1), ((h.g.below (below1 _ _)).fr f1 (by omega)), ?_⟩
 unfold OwSt
 rw [List.length_append, hn, show pcs7 (l ++ [(x, y)]) = pcs7 l ++ [.int .i64 x, .int .i64 y] by simp [pcs7]]
 exact ho
theorem ss_drew {w V : World} {g : Nat} {cs : Array Value} {u : Value} {l : List (Int × Int)} (h : SS7 w g cs V u l) : SS7 w g cs V.drew u l := ⟨h.b.drew, h.g, row7_below h.o (Below.refl _ _).drew⟩
set_option maxRecDepth 20000 in
set_option maxHeartbeats 2000000 in
theorem stretches7_any (g : Nat) (F S : Nat -> Prop) (m : Nat) (s : St7) (parts : Int) (w : World) (h : RM w g F S m s) :
  Calls Tryz.prog 75 #[.pointer (some ⟨g, 0, none⟩), .int .i64 parts] w fun e w' => ∃ v, e = .returned v /\ OwSt w' w.heap.size v (sts7 s parts) /\ Below w.heap.size w w' := by
 obtain ⟨rv, rvs, mp, mx, nx, t, f, -, h⟩ := h
 obtain ⟨ra, rc, hrv, -⟩ := row7_form h.r.1
 have hgl := h.b.lt
 have hbk := h.b
 rw [hrv] at hbk
 have HS : Hid (SS7 w g #[.int .i64 (s.wd : Int), .slice ra s.rows.length rc, .int .i64 (s.nf : Int), .int .i64 (s.xf : Int), .map (some mp), .int .i32 0, .int .u32 0, .map (some mx)] w (.slice none 0 0) []) := ⟨Below.refl _ _, hbk, World.ownsRow_nil _ _ _ _⟩
 obtain ⟨⟨c0, c1, c2, c3⟩, c4, c5, c6, c7⟩ := eight7 hbk
 clear h hrv hbk
 go_enter Tryz.func75, Tryz.ntmps75
 cases k1 : (bits BinOp.and IntKind.i64 parts 1 != 0) with
 | true =>
  go_upto_region 4 with (at_builtin; refine gappN Tryz.underlying125 Tryz.infoStretch7 rfl (by omega) (by omega) rfl _ _ rfl w.heap.size (.slice none 0 0) 0 [] rfl (World.ownsRow_nil _ _ _ _) w.heap.size #[.int .i64 0, .int .i64 (s.nf : Int)] rfl (Bk.new _ _ _) rfl (by simp [Value.oneCell']) (by omega) (by simp) ?_; intro g1 c1 X1 ho hg _ _; have HS1 := hm7 (HS.out.more (l := []) hgl rfl ho hg); clear ho hg)
  clear HS
  have HS := HS1
  cases k2 : (bits BinOp.and IntKind.i64 parts 2 != 0) with
  | true =>
   go_upto_region 5 with fail
   refine wp_region_held_drew (S := fun w' => Bk w' g #[.int .i64 (s.wd : Int), .slice ra s.rows.length rc, .int .i64 (s.nf : Int), .int .i64 (s.xf : Int), .map (some mp), .int .i32 0, .int .u32 0, .map (some mx)] 118) (by kernel_rfl) (show Bk X1.drew g #[.int .i64 (s.wd : Int), .slice ra s.rows.length rc, .int .i64 (s.nf : Int), .int .i64 (s.xf : Int), .map (some mp), .int .i32 0, .int .u32 0, .map (some mx)] 118 from HS.out.g) (fun hH => ?_)
   have HD := hm7 (ss_drew HS.out)
   clear HS
   revert hH HD
   generalize X1.drew = Y1
   intro hH HD
   refine wTl 0 (.slice (some ⟨g1, 0, none⟩) 1 c1) rfl (by kernel_rfl) (fun _ _ _ h => h) rfl (fun w' h => by clear h; go_simp) hH ?_
   simp only [wA, wB, wC, wD]
   refine wTl 1 (.pointer (some ⟨g, 0, none⟩)) rfl (by kernel_rfl) (fun _ _ _ h => h) rfl (fun w' h => by clear h; go_simp) hH ?_
   simp only [wA, wB, wC, wD]
   refine wTl 2 (.pointer (some ⟨g, 0, none⟩)) rfl (by kernel_rfl) (fun _ _ _ h => h) rfl (fun w' h => by clear h; go_simp) hH ?_
   simp only [wA, wB, wC, wD]
   refine wTl 3 (.pointer (some ⟨g, 2, none⟩)) rfl (by kernel_rfl) (fun _ _ _ h => h) rfl (fun w' h => by clear h; go_simp) hH ?_
   simp only [wA, wB, wC, wD]
   refine wTl 4 (.int .i64 (s.nf : Int)) rfl (by kernel_rfl) (fun _ _ _ h => h) rfl (fun w' h => by have q2 := h.cell (i := 2) rfl; clear h; go_simp) hH ?_
   simp only [wA, wB, wC, wD]
   refine wTl 5 (.pointer (some ⟨g, 0, none⟩)) rfl (by kernel_rfl) (fun _ _ _ h => h) rfl (fun w' h => by clear h; go_simp) hH ?_
   simp only [wA, wB, wC, wD]
   refine wTl 6 (.pointer (some ⟨g, 0, none⟩)) rfl (by kernel_rfl) (fun _ _ _ h => h) rfl (fun w' h => by clear h; go_simp) hH ?_
   simp only [wA, wB, wC, wD]
   refine wTl 7 (.pointer (some ⟨g, 3, none⟩)) rfl (by kernel_rfl) (fun _ _ _ h => h) rfl (fun w' h => by clear h; go_simp) hH ?_
   simp only [wA, wB, wC, wD]
   refine wTl 8 (.int .i64 (s.xf : Int)) rfl (by kernel_rfl) (fun _ _ _ h => h) rfl (fun w' h => by have q3 := h.cell (i := 3) rfl; clear h; go_simp) hH ?_
   simp only [wA, wB, wC, wD]
   refine wTl 9 (.agg #[.int .i64 (s.nf : Int), .int .i64 (s.xf : Int)]) rfl (by kernel_rfl) (fun _ _ _ h => h) rfl (fun w' h => by clear h; go_simp) hH ?_
   simp only [wA, wB, wC, wD]
   refine wRd 10 (by kernel_rfl) rfl (fun K hK => ?_)
   go_simp
   refine hK.out _ _ (hH.below (below1 _ _)) (fun hH => ?_)
   clear hK K
   try simp only [wA, wB, wC, wD]
   refine wRd 11 (by kernel_rfl) rfl (fun K hK => ?_)
   refine gstepN Tryz.underlying125 Tryz.infoStretch7 rfl (by omega) (by omega) rfl _ _ rfl w.heap.size (.slice (some ⟨g1, 0, none⟩) 1 c1) 1 (pcs7 [((0 : Int), (s.nf : Int))]) (by rfl) (row7_below HD.out.o (below1 _ _)) Y1.heap.size #[.int .i64 (s.nf : Int), .int .i64 (s.xf : Int)] (by rfl) (Bk.new _ _ _) rfl (by simp [Value.oneCell']) (by omega) (Nat.le_trans HD.out.b.size (by simp)) ?_
   intro g2 c2 X2 ho hg _ _
   have HS := hm7 (HD.out.more hgl rfl ho hg)
   refine hK.out _ _ HS.out.g (fun hH => ?_)
   clear hK K ho hg HD
   try simp only [wA, wB, wC, wD]
   refine wTl 12 (.slice (some ⟨g2, 0, none⟩) 2 c2) rfl (by kernel_rfl) (fun _ _ _ h => h) rfl (fun w' h => by clear h; go_simp) hH ?_
   simp only [wA, wB, wC, wD]
   refine wpAnyH_done (by kernel_rfl) ?_ _
   clear hH
   cases k4 : (bits BinOp.and IntKind.i64 parts 4 != 0) with
   | true =>
    go_upto_region 7 with fail
    refine wp_region_held_drew (S := fun w' => Bk w' g #[.int .i64 (s.wd : Int), .slice ra s.rows.length rc, .int .i64 (s.nf : Int), .int .i64 (s.xf : Int), .map (some mp), .int .i32 0, .int .u32 0, .map (some mx)] 118) (by kernel_rfl) (show Bk X2.drew g #[.int .i64 (s.wd : Int), .slice ra s.rows.length rc, .int .i64 (s.nf : Int), .int .i64 (s.xf : Int), .map (some mp), .int .i32 0, .int .u32 0, .map (some mx)] 118 from HS.out.g) (fun hH => ?_)
    have HD := hm7 (ss_drew HS.out)
    clear HS
    revert hH HD
    generalize X2.drew = Y2
    intro hH HD
    refine wTl 0 (.slice (some ⟨g2, 0, none⟩) 2 c2) rfl (by kernel_rfl) (fun _ _ _ h => h) rfl (fun w' h => by clear h; go_simp) hH ?_
    simp only [wA, wB, wC, wD]
    refine wTl 1 (.pointer (some ⟨g, 0, none⟩)) rfl (by kernel_rfl) (fun _ _ _ h => h) rfl (fun w' h => by clear h; go_simp) hH ?_
    simp only [wA, wB, wC, wD]
    refine wTl 2 (.pointer (some ⟨g, 0, none⟩)) rfl (by kernel_rfl) (fun _ _ _ h => h) rfl (fun w' h => by clear h; go_simp) hH ?_
    simp only [wA, wB, wC, wD]
    refine wTl 3 (.pointer (some ⟨g, 3, none⟩)) rfl (by kernel_rfl) (fun _ _ _ h => h) rfl (fun w' h => by clear h; go_simp) hH ?_
    simp only [wA, wB, wC, wD]
    refine wTl 4 (.int .i64 (s.xf : Int)) rfl (by kernel_rfl) (fun _ _ _ h => h) rfl (fun w' h => by have q3 := h.cell (i := 3) rfl; clear h; go_simp) hH ?_
    simp only [wA, wB, wC, wD]
    refine wTl 5 (.pointer (some ⟨g, 0, none⟩)) rfl (by kernel_rfl) (fun _ _ _ h => h) rfl (fun w' h => by clear h; go_simp) hH ?_
    simp only [wA, wB, wC, wD]
    refine wTl 6 (.pointer (some ⟨g, 0, none⟩)) rfl (by kernel_rfl) (fun _ _ _ h => h) rfl (fun w' h => by clear h; go_simp) hH ?_
    simp only [wA, wB, wC, wD]
    refine wTl 7 (.pointer (some ⟨g, 1, none⟩)) rfl (by kernel_rfl) (fun _ _ _ h => h) rfl (fun w' h => by clear h; go_simp) hH ?_
    simp only [wA, wB, wC, wD]
    refine wTl 8 (.slice ra s.rows.length rc) rfl (by kernel_rfl) (fun _ _ _ h => h) rfl (fun w' h => by have q1 := h.cell (i := 1) rfl; clear h; go_simp) hH ?_
    simp only [wA, wB, wC, wD]
    refine wTl 9 (.int .i64 (s.rows.length : Int)) rfl (by kernel_rfl) (fun _ _ _ h => h) rfl (fun w' h => by clear h; go_simp) hH ?_
    simp only [wA, wB, wC, wD]
    refine wTl 10 (.agg #[.int .i64 (s.xf : Int), .int .i64 (s.rows.length : Int)]) rfl (by kernel_rfl) (fun _ _ _ h => h) rfl (fun w' h => by clear h; go_simp) hH ?_
    simp only [wA, wB, wC, wD]
    refine wRd 11 (by kernel_rfl) rfl (fun K hK => ?_)
    go_simp
    refine hK.out _ _ (hH.below (below1 _ _)) (fun hH => ?_)
    clear hK K
    try simp only [wA, wB, wC, wD]
    refine wRd 12 (by kernel_rfl) rfl (fun K hK => ?_)
    refine gstepN Tryz.underlying125 Tryz.infoStretch7 rfl (by omega) (by omega) rfl _ _ rfl w.heap.size (.slice (some ⟨g2, 0, none⟩) 2 c2) 2 (pcs7 [((0 : Int), (s.nf : Int)), ((s.nf : Int), (s.xf : Int))]) (by rfl) (row7_below HD.out.o (below1 _ _)) Y2.heap.size #[.int .i64 (s.xf : Int), .int .i64 (s.rows.length : Int)] (by rfl) (Bk.new _ _ _) rfl (by simp [Value.oneCell']) (by omega) (Nat.le_trans HD.out.b.size (by simp)) ?_
    intro g3 c3 X3 ho hg _ _
    have HS := hm7 (HD.out.more hgl rfl ho hg)
    refine hK.out _ _ HS.out.g (fun hH => ?_)
    clear hK K ho hg HD
    try simp only [wA, wB, wC, wD]
    refine wTl 13 (.slice (some ⟨g3, 0, none⟩) 3 c3) rfl (by kernel_rfl) (fun _ _ _ h => h) rfl (fun w' h => by clear h; go_simp) hH ?_
    simp only [wA, wB, wC, wD]
    refine wpAnyH_done (by kernel_rfl) ?_ _
    clear hH
    go_wp2
    go_ret
    refine ⟨_, rfl, ?_, HS.out.b⟩
    have := HS.out.o
    rw [show sts7 s parts = [((0 : Int), (s.nf : Int)), ((s.nf : Int), (s.xf : Int)), ((s.xf : Int), (s.rows.length : Int))] by simp [sts7, hp7, k1, k2, k4]]
    exact this
   | false =>
    go_wp2
    go_ret
    refine ⟨_, rfl, ?_, HS.out.b⟩
    have := HS.out.o
    rw [show sts7 s parts = [((0 : Int), (s.nf : Int)), ((s.nf : Int), (s.xf : Int))] by simp [sts7, hp7, k1, k2, k4]]
    exact this
  | false =>
   cases k4 : (bits BinOp.and IntKind.i64 parts 4 != 0) with
   | true =>
    go_upto_region 7 with fail
    refine wp_region_held_drew (S := fun w' => Bk w' g #[.int .i64 (s.wd : Int), .slice ra s.rows.length rc, .int .i64 (s.nf : Int), .int .i64 (s.xf : Int), .map (some mp), .int .i32 0, .int .u32 0, .map (some mx)] 118) (by kernel_rfl) (show Bk X1.drew g #[.int .i64 (s.wd : Int), .slice ra s.rows.length rc, .int .i64 (s.nf : Int), .int .i64 (s.xf : Int), .map (some mp), .int .i32 0, .int .u32 0, .map (some mx)] 118 from HS.out.g) (fun hH => ?_)
    have HD := hm7 (ss_drew HS.out)
    clear HS
    revert hH HD
    generalize X1.drew = Y1
    intro hH HD
    refine wTl 0 (.slice (some ⟨g1, 0, none⟩) 1 c1) rfl (by kernel_rfl) (fun _ _ _ h => h) rfl (fun w' h => by clear h; go_simp) hH ?_
    simp only [wA, wB, wC, wD]
    refine wTl 1 (.pointer (some ⟨g, 0, none⟩)) rfl (by kernel_rfl) (fun _ _ _ h => h) rfl (fun w' h => by clear h; go_simp) hH ?_
    simp only [wA, wB, wC, wD]
    refine wTl 2 (.pointer (some ⟨g, 0, none⟩)) rfl (by kernel_rfl) (fun _ _ _ h => h) rfl (fun w' h => by clear h; go_simp) hH ?_
    simp only [wA, wB, wC, wD]
    refine wTl 3 (.pointer (some ⟨g, 3, none⟩)) rfl (by kernel_rfl) (fun _ _ _ h => h) rfl (fun w' h => by clear h; go_simp) hH ?_
    simp only [wA, wB, wC, wD]
    refine wTl 4 (.int .i64 (s.xf : Int)) rfl (by kernel_rfl) (fun _ _ _ h => h) rfl (fun w' h => by have q3 := h.cell (i := 3) rfl; clear h; go_simp) hH ?_
    simp only [wA, wB, wC, wD]
    refine wTl 5 (.pointer (some ⟨g, 0, none⟩)) rfl (by kernel_rfl) (fun _ _ _ h => h) rfl (fun w' h => by clear h; go_simp) hH ?_
    simp only [wA, wB, wC, wD]
    refine wTl 6 (.pointer (some ⟨g, 0, none⟩)) rfl (by kernel_rfl) (fun _ _ _ h => h) rfl (fun w' h => by clear h; go_simp) hH ?_
    simp only [wA, wB, wC, wD]
    refine wTl 7 (.pointer (some ⟨g, 1, none⟩)) rfl (by kernel_rfl) (fun _ _ _ h => h) rfl (fun w' h => by clear h; go_simp) hH ?_
    simp only [wA, wB, wC, wD]
    refine wTl 8 (.slice ra s.rows.length rc) rfl (by kernel_rfl) (fun _ _ _ h => h) rfl (fun w' h => by have q1 := h.cell (i := 1) rfl; clear h; go_simp) hH ?_
    simp only [wA, wB, wC, wD]
    refine wTl 9 (.int .i64 (s.rows.length : Int)) rfl (by kernel_rfl) (fun _ _ _ h => h) rfl (fun w' h => by clear h; go_simp) hH ?_
    simp only [wA, wB, wC, wD]
    refine wTl 10 (.agg #[.int .i64 (s.xf : Int), .int .i64 (s.rows.length : Int)]) rfl (by kernel_rfl) (fun _ _ _ h => h) rfl (fun w' h => by clear h; go_simp) hH ?_
    simp only [wA, wB, wC, wD]
    refine wRd 11 (by kernel_rfl) rfl (fun K hK => ?_)
    go_simp
    refine hK.out _ _ (hH.below (below1 _ _)) (fun hH => ?_)
    clear hK K
    try simp only [wA, wB, wC, wD]
    refine wRd 12 (by kernel_rfl) rfl (fun K hK => ?_)
    refine gstepN Tryz.underlying125 Tryz.infoStretch7 rfl (by omega) (by omega) rfl _ _ rfl w.heap.size (.slice (some ⟨g1, 0, none⟩) 1 c1) 1 (pcs7 [((0 : Int), (s.nf : Int))]) (by rfl) (row7_below HD.out.o (below1 _ _)) Y1.heap.size #[.int .i64 (s.xf : Int), .int .i64 (s.rows.length : Int)] (by rfl) (Bk.new _ _ _) rfl (by simp [Value.oneCell']) (by omega) (Nat.le_trans HD.out.b.size (by simp)) ?_
    intro g2 c2 X2 ho hg _ _
    have HS := hm7 (HD.out.more hgl rfl ho hg)
    refine hK.out _ _ HS.out.g (fun hH => ?_)
    clear hK K ho hg HD
    try simp only [wA, wB, wC, wD]
    refine wTl 13 (.slice (some ⟨g2, 0, none⟩) 2 c2) rfl (by kernel_rfl) (fun _ _ _ h => h) rfl (fun w' h => by clear h; go_simp) hH ?_
    simp only [wA, wB, wC, wD]
    refine wpAnyH_done (by kernel_rfl) ?_ _
    clear hH
    go_wp2
    go_ret
    refine ⟨_, rfl, ?_, HS.out.b⟩
    have := HS.out.o
    rw [show sts7 s parts = [((0 : Int), (s.nf : Int)), ((s.xf : Int), (s.rows.length : Int))] by simp [sts7, hp7, k1, k2, k4]]
    exact this
   | false =>
    go_wp2
    go_ret
    refine ⟨_, rfl, ?_, HS.out.b⟩
    have := HS.out.o
    rw [show sts7 s parts = [((0 : Int), (s.nf : Int))] by simp [sts7, hp7, k1, k2, k4]]
    exact this
 | false =>
  cases k2 : (bits BinOp.and IntKind.i64 parts 2 != 0) with
  | true =>
   go_upto_region 5 with fail
   refine wp_region_held_drew (S := fun w' => Bk w' g #[.int .i64 (s.wd : Int), .slice ra s.rows.length rc, .int .i64 (s.nf : Int), .int .i64 (s.xf : Int), .map (some mp), .int .i32 0, .int .u32 0, .map (some mx)] 118) (by kernel_rfl) (show Bk w.drew g #[.int .i64 (s.wd : Int), .slice ra s.rows.length rc, .int .i64 (s.nf : Int), .int .i64 (s.xf : Int), .map (some mp), .int .i32 0, .int .u32 0, .map (some mx)] 118 from HS.out.g) (fun hH => ?_)
   have HD := hm7 (ss_drew HS.out)
   clear HS
   revert hH HD
   generalize w.drew = Y0
   intro hH HD
   refine wTl 0 (.slice none 0 0) rfl (by kernel_rfl) (fun _ _ _ h => h) rfl (fun w' h => by clear h; go_simp) hH ?_
   simp only [wA, wB, wC, wD]
   refine wTl 1 (.pointer (some ⟨g, 0, none⟩)) rfl (by kernel_rfl) (fun _ _ _ h => h) rfl (fun w' h => by clear h; go_simp) hH ?_
   simp only [wA, wB, wC, wD]
   refine wTl 2 (.pointer (some ⟨g, 0, none⟩)) rfl (by kernel_rfl) (fun _ _ _ h => h) rfl (fun w' h => by clear h; go_simp) hH ?_
   simp only [wA, wB, wC, wD]
   refine wTl 3 (.pointer (some ⟨g, 2, none⟩)) rfl (by kernel_rfl) (fun _ _ _ h => h) rfl (fun w' h => by clear h; go_simp) hH ?_
   simp only [wA, wB, wC, wD]
   refine wTl 4 (.int .i64 (s.nf : Int)) rfl (by kernel_rfl) (fun _ _ _ h => h) rfl (fun w' h => by have q2 := h.cell (i := 2) rfl; clear h; go_simp) hH ?_
   simp only [wA, wB, wC, wD]
   refine wTl 5 (.pointer (some ⟨g, 0, none⟩)) rfl (by kernel_rfl) (fun _ _ _ h => h) rfl (fun w' h => by clear h; go_simp) hH ?_
   simp only [wA, wB, wC, wD]
   refine wTl 6 (.pointer (some ⟨g, 0, none⟩)) rfl (by kernel_rfl) (fun _ _ _ h => h) rfl (fun w' h => by clear h; go_simp) hH ?_
   simp only [wA, wB, wC, wD]
   refine wTl 7 (.pointer (some ⟨g, 3, none⟩)) rfl (by kernel_rfl) (fun _ _ _ h => h) rfl (fun w' h => by clear h; go_simp) hH ?_
   simp only [wA, wB, wC, wD]
   refine wTl 8 (.int .i64 (s.xf : Int)) rfl (by kernel_rfl) (fun _ _ _ h => h) rfl (fun w' h => by have q3 := h.cell (i := 3) rfl; clear h; go_simp) hH ?_
   simp only [wA, wB, wC, wD]
   refine wTl 9 (.agg #[.int .i64 (s.nf : Int), .int .i64 (s.xf : Int)]) rfl (by kernel_rfl) (fun _ _ _ h => h) rfl (fun w' h => by clear h; go_simp) hH ?_
   simp only [wA, wB, wC, wD]
   refine wRd 10 (by kernel_rfl) rfl (fun K hK => ?_)
   go_simp
   refine hK.out _ _ (hH.below (below1 _ _)) (fun hH => ?_)
   clear hK K
   try simp only [wA, wB, wC, wD]
   refine wRd 11 (by kernel_rfl) rfl (fun K hK => ?_)
   refine gstepN Tryz.underlying125 Tryz.infoStretch7 rfl (by omega) (by omega) rfl _ _ rfl w.heap.size (.slice none 0 0) 0 (pcs7 []) (by rfl) (row7_below HD.out.o (below1 _ _)) Y0.heap.size #[.int .i64 (s.nf : Int), .int .i64 (s.xf : Int)] (by rfl) (Bk.new _ _ _) rfl (by simp [Value.oneCell']) (by omega) (Nat.le_trans HD.out.b.size (by simp)) ?_
   intro g1 c1 X1 ho hg _ _
   have HS := hm7 (HD.out.more hgl rfl ho hg)
   refine hK.out _ _ HS.out.g (fun hH => ?_)
   clear hK K ho hg HD
   try simp only [wA, wB, wC, wD]
   refine wTl 12 (.slice (some ⟨g1, 0, none⟩) 1 c1) rfl (by kernel_rfl) (fun _ _ _ h => h) rfl (fun w' h => by clear h; go_simp) hH ?_
   simp only [wA, wB, wC, wD]
   refine wpAnyH_done (by kernel_rfl) ?_ _
   clear hH
   cases k4 : (bits BinOp.and IntKind.i64 parts 4 != 0) with
   | true =>
    go_upto_region 7 with fail
    refine wp_region_held_drew (S := fun w' => Bk w' g #[.int .i64 (s.wd : Int), .slice ra s.rows.length rc, .int .i64 (s.nf : Int), .int .i64 (s.xf : Int), .map (some mp), .int .i32 0, .int .u32 0, .map (some mx)] 118) (by kernel_rfl) (show Bk X1.drew g #[.int .i64 (s.wd : Int), .slice ra s.rows.length rc, .int .i64 (s.nf : Int), .int .i64 (s.xf : Int), .map (some mp), .int .i32 0, .int .u32 0, .map (some mx)] 118 from HS.out.g) (fun hH => ?_)
    have HD := hm7 (ss_drew HS.out)
    clear HS
    revert hH HD
    generalize X1.drew = Y1
    intro hH HD
    refine wTl 0 (.slice (some ⟨g1, 0, none⟩) 1 c1) rfl (by kernel_rfl) (fun _ _ _ h => h) rfl (fun w' h => by clear h; go_simp) hH ?_
    simp only [wA, wB, wC, wD]
    refine wTl 1 (.pointer (some ⟨g, 0, none⟩)) rfl (by kernel_rfl) (fun _ _ _ h => h) rfl (fun w' h => by clear h; go_simp) hH ?_
    simp only [wA, wB, wC, wD]
    refine wTl 2 (.pointer (some ⟨g, 0, none⟩)) rfl (by kernel_rfl) (fun _ _ _ h => h) rfl (fun w' h => by clear h; go_simp) hH ?_
    simp only [wA, wB, wC, wD]
    refine wTl 3 (.pointer (some ⟨g, 3, none⟩)) rfl (by kernel_rfl) (fun _ _ _ h => h) rfl (fun w' h => by clear h; go_simp) hH ?_
    simp only [wA, wB, wC, wD]
    refine wTl 4 (.int .i64 (s.xf : Int)) rfl (by kernel_rfl) (fun _ _ _ h => h) rfl (fun w' h => by have q3 := h.cell (i := 3) rfl; clear h; go_simp) hH ?_
    simp only [wA, wB, wC, wD]
    refine wTl 5 (.pointer (some ⟨g, 0, none⟩)) rfl (by kernel_rfl) (fun _ _ _ h => h) rfl (fun w' h => by clear h; go_simp) hH ?_
    simp only [wA, wB, wC, wD]
    refine wTl 6 (.pointer (some ⟨g, 0, none⟩)) rfl (by kernel_rfl) (fun _ _ _ h => h) rfl (fun w' h => by clear h; go_simp) hH ?_
    simp only [wA, wB, wC, wD]
    refine wTl 7 (.pointer (some ⟨g, 1, none⟩)) rfl (by kernel_rfl) (fun _ _ _ h => h) rfl (fun w' h => by clear h; go_simp) hH ?_
    simp only [wA, wB, wC, wD]
    refine wTl 8 (.slice ra s.rows.length rc) rfl (by kernel_rfl) (fun _ _ _ h => h) rfl (fun w' h => by have q1 := h.cell (i := 1) rfl; clear h; go_simp) hH ?_
    simp only [wA, wB, wC, wD]
    refine wTl 9 (.int .i64 (s.rows.length : Int)) rfl (by kernel_rfl) (fun _ _ _ h => h) rfl (fun w' h => by clear h; go_simp) hH ?_
    simp only [wA, wB, wC, wD]
    refine wTl 10 (.agg #[.int .i64 (s.xf : Int), .int .i64 (s.rows.length : Int)]) rfl (by kernel_rfl) (fun _ _ _ h => h) rfl (fun w' h => by clear h; go_simp) hH ?_
    simp only [wA, wB, wC, wD]
    refine wRd 11 (by kernel_rfl) rfl (fun K hK => ?_)
    go_simp
    refine hK.out _ _ (hH.below (below1 _ _)) (fun hH => ?_)
    clear hK K
    try simp only [wA, wB, wC, wD]
    refine wRd 12 (by kernel_rfl) rfl (fun K hK => ?_)
    refine gstepN Tryz.underlying125 Tryz.infoStretch7 rfl (by omega) (by omega) rfl _ _ rfl w.heap.size (.slice (some ⟨g1, 0, none⟩) 1 c1) 1 (pcs7 [((s.nf : Int), (s.xf : Int))]) (by rfl) (row7_below HD.out.o (below1 _ _)) Y1.heap.size #[.int .i64 (s.xf : Int), .int .i64 (s.rows.length : Int)] (by rfl) (Bk.new _ _ _) rfl (by simp [Value.oneCell']) (by omega) (Nat.le_trans HD.out.b.size (by simp)) ?_
    intro g2 c2 X2 ho hg _ _
    have HS := hm7 (HD.out.more hgl rfl ho hg)
    refine hK.out _ _ HS.out.g (fun hH => ?_)
    clear hK K ho hg HD
    try simp only [wA, wB, wC, wD]
    refine wTl 13 (.slice (some ⟨g2, 0, none⟩) 2 c2) rfl (by kernel_rfl) (fun _ _ _ h => h) rfl (fun w' h => by clear h; go_simp) hH ?_
    simp only [wA, wB, wC, wD]
    refine wpAnyH_done (by kernel_rfl) ?_ _
    clear hH
    go_wp2
    go_ret
    refine ⟨_, rfl, ?_, HS.out.b⟩
    have := HS.out.o
    rw [show sts7 s parts = [((s.nf : Int), (s.xf : Int)), ((s.xf : Int), (s.rows.length : Int))] by simp [sts7, hp7, k1, k2, k4]]
    exact this
   | false =>
    go_wp2
    go_ret
    refine ⟨_, rfl, ?_, HS.out.b⟩
    have := HS.out.o
    rw [show sts7 s parts = [((s.nf : Int), (s.xf : Int))] by simp [sts7, hp7, k1, k2, k4]]
    exact this
  | false =>
   cases k4 : (bits BinOp.and IntKind.i64 parts 4 != 0) with
   | true =>
    go_upto_region 7 with fail
    refine wp_region_held_drew (S := fun w' => Bk w' g #[.int .i64 (s.wd : Int), .slice ra s.rows.length rc, .int .i64 (s.nf : Int), .int .i64 (s.xf : Int), .map (some mp), .int .i32 0, .int .u32 0, .map (some mx)] 118) (by kernel_rfl) (show Bk w.drew g #[.int .i64 (s.wd : Int), .slice ra s.rows.length rc, .int .i64 (s.nf : Int), .int .i64 (s.xf : Int), .map (some mp), .int .i32 0, .int .u32 0, .map (some mx)] 118 from HS.out.g) (fun hH => ?_)
    have HD := hm7 (ss_drew HS.out)
    clear HS
    revert hH HD
    generalize w.drew = Y0
    intro hH HD
    refine wTl 0 (.slice none 0 0) rfl (by kernel_rfl) (fun _ _ _ h => h) rfl (fun w' h => by clear h; go_simp) hH ?_
    simp only [wA, wB, wC, wD]
    refine wTl 1 (.pointer (some ⟨g, 0, none⟩)) rfl (by kernel_rfl) (fun _ _ _ h => h) rfl (fun w' h => by clear h; go_simp) hH ?_
    simp only [wA, wB, wC, wD]
    refine wTl 2 (.pointer (some ⟨g, 0, none⟩)) rfl (by kernel_rfl) (fun _ _ _ h => h) rfl (fun w' h => by clear h; go_simp) hH ?_
    simp only [wA, wB, wC, wD]
    refine wTl 3 (.pointer (some ⟨g, 3, none⟩)) rfl (by kernel_rfl) (fun _ _ _ h => h) rfl (fun w' h => by clear h; go_simp) hH ?_
    simp only [wA, wB, wC, wD]
    refine wTl 4 (.int .i64 (s.xf : Int)) rfl (by kernel_rfl) (fun _ _ _ h => h) rfl (fun w' h => by have q3 := h.cell (i := 3) rfl; clear h; go_simp) hH ?_
    simp only [wA, wB, wC, wD]
    refine wTl 5 (.pointer (some ⟨g, 0, none⟩)) rfl (by kernel_rfl) (fun _ _ _ h => h) rfl (fun w' h => by clear h; go_simp) hH ?_
    simp only [wA, wB, wC, wD]
    refine wTl 6 (.pointer (some ⟨g, 0, none⟩)) rfl (by kernel_rfl) (fun _ _ _ h => h) rfl (fun w' h => by clear h; go_simp) hH ?_
    simp only [wA, wB, wC, wD]
    refine wTl 7 (.pointer (some ⟨g, 1, none⟩)) rfl (by kernel_rfl) (fun _ _ _ h => h) rfl (fun w' h => by clear h; go_simp) hH ?_
    simp only [wA, wB, wC, wD]
    refine wTl 8 (.slice ra s.rows.length rc) rfl (by kernel_rfl) (fun _ _ _ h => h) rfl (fun w' h => by have q1 := h.cell (i := 1) rfl; clear h; go_simp) hH ?_
    simp only [wA, wB, wC, wD]
    refine wTl 9 (.int .i64 (s.rows.length : Int)) rfl (by kernel_rfl) (fun _ _ _ h => h) rfl (fun w' h => by clear h; go_simp) hH ?_
    simp only [wA, wB, wC, wD]
    refine wTl 10 (.agg #[.int .i64 (s.xf : Int), .int .i64 (s.rows.length : Int)]) rfl (by kernel_rfl) (fun _ _ _ h => h) rfl (fun w' h => by clear h; go_simp) hH ?_
    simp only [wA, wB, wC, wD]
    refine wRd 11 (by kernel_rfl) rfl (fun K hK => ?_)
    go_simp
    refine hK.out _ _ (hH.below (below1 _ _)) (fun hH => ?_)
    clear hK K
    try simp only [wA, wB, wC, wD]
    refine wRd 12 (by kernel_rfl) rfl (fun K hK => ?_)
    refine gstepN Tryz.underlying125 Tryz.infoStretch7 rfl (by omega) (by omega) rfl _ _ rfl w.heap.size (.slice none 0 0) 0 (pcs7 []) (by rfl) (row7_below HD.out.o (below1 _ _)) Y0.heap.size #[.int .i64 (s.xf : Int), .int .i64 (s.rows.length : Int)] (by rfl) (Bk.new _ _ _) rfl (by simp [Value.oneCell']) (by omega) (Nat.le_trans HD.out.b.size (by simp)) ?_
    intro g1 c1 X1 ho hg _ _
    have HS := hm7 (HD.out.more hgl rfl ho hg)
    refine hK.out _ _ HS.out.g (fun hH => ?_)
    clear hK K ho hg HD
    try simp only [wA, wB, wC, wD]
    refine wTl 13 (.slice (some ⟨g1, 0, none⟩) 1 c1) rfl (by kernel_rfl) (fun _ _ _ h => h) rfl (fun w' h => by clear h; go_simp) hH ?_
    simp only [wA, wB, wC, wD]
    refine wpAnyH_done (by kernel_rfl) ?_ _
    clear hH
    go_wp2
    go_ret
    refine ⟨_, rfl, ?_, HS.out.b⟩
    have := HS.out.o
    rw [show sts7 s parts = [((s.xf : Int), (s.rows.length : Int))] by simp [sts7, hp7, k1, k2, k4]]
    exact this
   | false =>
    go_wp2
    go_ret
    refine ⟨_, rfl, ?_, HS.out.b⟩
    have := HS.out.o
    rw [show sts7 s parts = [] by simp [sts7, hp7, k1, k2, k4]]
    exact this
end Go.Proofs.YtechceagghcipabGreatDoor

import Derived.Test.YtechceagghcipaaGreatDoorRA3
namespace Go.Proofs.YtechceagghcipaaGreatDoor
open Go.RowKit
attribute [local go_sem ↓] Go.wp_at_zero Go.wp_at_succ

theorem eight7 {w : World} {g : Nat} {a b c d e f i j : Value} {t : TypeId} (h : Bk w g #[a, b, c, d, e, f, i, j] t) :
  (w.cell? ⟨g, 0, none⟩ = some a /\ w.cell? ⟨g, 1, none⟩ = some b /\ w.cell? ⟨g, 2, none⟩ = some c /\ w.cell? ⟨g, 3, none⟩ = some d) /\ w.cell? ⟨g, 4, none⟩ = some e /\ w.cell? ⟨g, 5, none⟩ = some f /\ w.cell? ⟨g, 6, none⟩ = some i /\ w.cell? ⟨g, 7, none⟩ = some j :=
 ⟨⟨h.cell rfl, h.cell rfl, h.cell rfl, h.cell rfl⟩, h.cell rfl, h.cell rfl, h.cell rfl, h.cell rfl⟩
theorem mk_map7 (T : TypeId) (w : World) : (Instr.makeMap T none).run Tryz.prog w = .ok (.map (some w.heap.size)) (w.alloc (.map #[] 0)) := by
 simp [Instr.makeMap, go_sem]
def New7 (wd : Nat) : St7 := ⟨wd, [], 0, 0⟩
set_option maxRecDepth 20000 in
set_option maxHeartbeats 1000000 in
theorem new7_any (n : Nat) (hn : n <= 9223372036854775807) (w : World) :
  Calls Tryz.prog 57 #[.int .i64 (n : Int)] w fun e w' => ∃ g, e = .returned (.tuple #[.pointer (some ⟨g, 0, none⟩), .int .i64 0]) /\ w.heap.size <= g /\ RM w' g (fun b => w.heap.size <= b /\ b < w'.heap.size) (fun _ => False) 0 (New7 n) /\ Below w.heap.size w w' := by
 have h0 : ¬ (n : Int) < 0 := by omega
 have m1 := mk_map7 113
 have m2 := mk_map7 121
 go_enter Tryz.func57, Tryz.ntmps57
 go_wp2
 go_ret2
 have b3 : Below w.heap.size w (((w.alloc (.map #[] 0)).alloc (.map #[] 0)).alloc (.cells #[.int .i64 (n : Int), .slice none 0 0, .int .i64 0, .int .i64 0, .map (some w.heap.size), .int .i32 0, .int .u32 0, .map (some (w.heap.size + 1))] 123)) := ((below1 _ _).alloc (by simp) _).alloc (by simp; omega) _
 refine ⟨_, rfl, by omega, ?_, b3⟩
 have q1 := Mp.made Tryz.prog 9 w
 have q2 := Mp.made Tryz.prog 9 (w.alloc (.map #[] 0))
 have z1 : (w.alloc (.map #[] 0)).heap.size = w.heap.size + 1 := by simp
 have z2 : ((w.alloc (.map #[] 0)).alloc (.map #[] 0)).heap.size = w.heap.size + 1 + 1 := by simp
 rw [z1] at q2
 have q3 := Bk.new ((w.alloc (.map #[] 0)).alloc (.map #[] 0)) #[.int .i64 (n : Int), .slice none 0 0, .int .i64 0, .int .i64 0, .map (some w.heap.size), .int .i32 0, .int .u32 0, .map (some (w.heap.size + 1))] 123
 rw [z2] at q3
 have k1 : ∀ (X : World) (o : Obj), Fr (fun _ => False) X (X.alloc o) := fun X o => Fr.of (below1 _ _)
 refine ⟨.slice none 0 0, [], w.heap.size, w.heap.size + 1, 0, fun _ => none, fun _ _ => False, Nat.le_refl _, ⟨⟨List.nodup_nil, (by intro r hr; simp [New7] at hr), (by intro r hr; simp [New7] at hr), Nat.le_refl _, (by simp [New7]), (by simp [New7]), (by simp [New7]), hn⟩, q3, ⟨World.ownsRow_nil _ _ _ _, (fun i r hr => by simp [New7] at hr)⟩, ?_, q2.fr (k1 _ _) (fun h => h), (fun k v hv => by cases hv), ⟨(by omega), (by simp)⟩, (fun b hb => by cases hb), ⟨(by omega), (by simp; omega)⟩, ⟨(by omega), (by simp)⟩, (fun k b hk _ => by simp at hk), (fun k k' b _ hk _ _ => by simp at hk), (fun b hb => ⟨fun h => h, hb.2⟩), (by omega), fun b hb => hb.elim⟩⟩
 exact (q1.fr (k1 _ _) (fun h => h)).fr (k1 _ _) (fun h => h)
def Turn7 (s : St7) : St7 := ⟨s.wd, s.rows, s.xf, s.rows.length⟩
theorem RX.put {w : World} {g i : Nat} {v : Value} {F S : Nat -> Prop} {s s' : St7} {lk lk' : Int} {rv : Value} {rvs : List Value} {mp mx nx : Nat} {t : ByteArray -> Option Value} {f : ByteArray -> Nat -> Prop} (h : RX w g F S s lk rv rvs mp mx nx t f) (ho : s'.Ok) (hr : s'.rows = s.rows) (hw : s'.wd = s.wd)
  (hb : (#[.int .i64 (s.wd : Int), rv, .int .i64 (s.nf : Int), .int .i64 (s.xf : Int), .map (some mp), .int .i32 lk, .int .u32 0, .map (some mx)] : Array Value).setIfInBounds i v = #[.int .i64 (s'.wd : Int), rv, .int .i64 (s'.nf : Int), .int .i64 (s'.xf : Int), .map (some mp), .int .i32 lk', .int .u32 0, .map (some mx)]) : RX (w.setCell ⟨g, i, none⟩ v) g F S s' lk' rv rvs mp mx nx t f := by
 have hB := h.b.set i v
 rw [hb] at hB
 have oth : ∀ b, b ≠ g -> (w.setCell ⟨g, i, none⟩ v).heap[b]? = w.heap[b]? := fun b hn => heap_setCell_other _ _ _ _ hn
 have sz : (w.setCell ⟨g, i, none⟩ v).heap.size = w.heap.size := by simp
 have nr : ∀ b, rv.ownBlock = some b -> b ≠ g := by
  intro b hb' e
  subst e
  rcases h.r.1.2 with ⟨e, -⟩ | ⟨g', cap, cur, e, -, hg, -⟩
  ·rw [e] at hb'; cases hb'
  ·rw [e] at hb'; cases hb'
   have := h.b
   unfold Bk at this
   rw [this] at hg
   have := hg
   simp at this
 have nS : ∀ b, S b -> b ≠ g := fun b hS e => (h.q g h.Fg).1 (e ▸ hS)
 have nm : ∀ {m c : Nat} {t : ByteArray -> Option Value}, Mp Tryz.prog 9 w m c t -> m ≠ g := fun {m c t} hm e => by
  subst e
  obtain ⟨D, ⟨es, clock, h1, -⟩, -⟩ := hm.ex
  have := h.b
  unfold Bk at this
  rw [this] at h1
  cases h1
 refine ⟨ho, hB, ⟨by rw [hr]; exact row7 h.r.1 fun b hb' => oth b (nr b hb'), fun j r hj => ?_⟩, by rw [hr]; exact h.p.same (oth _ (nm h.p)), h.x.same (oth _ (nm h.x)), fun k u hu => ?_, h.Fg, h.Fr, h.Fp, h.Fx, h.Fi, h.d, fun b hF => ⟨(h.q b hF).1, by rw [sz]; exact (h.q b hF).2⟩, h.pm, fun b hS => by rw [sz]; exact h.q2 b hS⟩
 ·rw [hr] at hj
  obtain ⟨u, h1, h2⟩ := h.r.2 j r hj
  exact ⟨u, h1, h2.same (Nat.le_of_eq sz.symm) fun b hS _ => oth b (nS b hS)⟩
 ·obtain ⟨gx, cols, n, h1, h2, h3, h4, h5, h6⟩ := h.i k u hu
  rw [hr, hw]
  exact ⟨gx, cols, n, h1, h2, h3, h4, h5, h6.same (Nat.le_of_eq sz.symm) fun b hf _ => oth b (hf.elim (fun hf => (h.Fi k b (by rw [hu]; rfl) hf).2.1) (nS b))⟩
set_option maxRecDepth 20000 in
set_option maxHeartbeats 1000000 in
theorem turn7_any (g : Nat) (F S : Nat -> Prop) (m : Nat) (s : St7) (w : World) (h : RM w g F S m s) :
  Calls Tryz.prog 35 #[.pointer (some ⟨g, 0, none⟩)] w fun e w' => e = .returned (.int .i64 ((s.rows.length : Int) - (s.xf : Int))) /\ RM w' g F S m (Turn7 s) /\ Fr F w w' := by
 obtain ⟨rv, rvs, mp, mx, nx, t, f, hnx, h⟩ := h
 have HNX := hm7 hnx
 clear hnx
 obtain ⟨⟨c0, c1, c2, c3⟩, c4, c5, c6, c7⟩ := eight7 h.b
 have f2 := h.b.froz 2
 have f3 := h.b.froz 3
 obtain ⟨ra, rc, hrv, -⟩ := row7_form h.r.1
 have HX : Hid (RX w g F S s 0 rv rvs mp mx nx t f) := h
 have b1 : (s.rows.length : Int) <= 10000000000 := by have := h.ok.c; omega
 have b2 : (s.xf : Int) <= (s.rows.length : Int) := by have := h.ok.b; omega
 have HOK := hm7 h.ok
 rw [hrv] at c1
 have HRV := hm7 hrv
 clear h hrv
 go_enter Tryz.func35, Tryz.ntmps35
 go_wp2
 go_quiet (fail)
 go_wp2
 go_ret
 have o := HX.out.ok
 have X1 := HX.out.put (i := 2) (v := .int .i64 (s.xf : Int)) (s' := ⟨s.wd, s.rows, s.xf, s.xf⟩) (lk' := 0) ⟨o.nd, o.wid, o.w, Nat.le_refl _, o.b, o.c, o.d, o.e⟩ rfl rfl rfl
 have X2 := X1.put (i := 3) (v := .int .i64 (s.rows.length : Int)) (s' := Turn7 s) (lk' := 0) ⟨o.nd, o.wid, o.w, o.b, Nat.le_refl _, o.c, o.d, o.e⟩ rfl rfl rfl
 have Z := ((Fr.refl F w).set (g := g) (i := 2) (v := .int .i64 (s.xf : Int)) (Or.inl HX.out.Fg)).set (g := g) (i := 3) (v := .int .i64 (s.rows.length : Int)) (Or.inl HX.out.Fg)
 exact ⟨rfl, ⟨rv, rvs, mp, mx, nx, t, f, HNX.out, X2.same (by simp) (fun b _ _ => by simp)⟩, ⟨Z.os, Z.tape, Z.output, by simp, fun k hk hn => by have := Z.block k hk hn; simpa using this⟩⟩
end Go.Proofs.YtechceagghcipaaGreatDoor

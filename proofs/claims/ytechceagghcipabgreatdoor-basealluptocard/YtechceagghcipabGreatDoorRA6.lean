import Derived.Test.YtechceagghcipabGreatDoorRA2
import Derived.Laws.AppendOwnNone
import Derived.Lib.SliceRun
namespace Go.Proofs.YtechceagghcipabGreatDoor
open Go.RowKit
structure St7 where
 wd : Nat
 rows : List (List Int)
 nf : Nat
 xf : Nat
structure St7.Ok (s : St7) : Prop where
 nd : s.rows.Nodup
 wid : ∀ r ∈ s.rows, r.length = s.wd
 w : ∀ r ∈ s.rows, w64 r
 a : s.nf <= s.xf
 b : s.xf <= s.rows.length
 c : s.rows.length <= 10000000000
 d : s.rows ≠ [] -> s.wd <= 10000000000
 e : s.wd <= 9223372036854775807
def txi (rows : List (List Int)) (k : ByteArray) : Option Nat := rows.findIdx? fun r => decide (tx r = k)
def plF (rows : List (List Int)) : ByteArray -> Option Value := fun k => (txi rows k).map fun i => .int .i64 (i : Int)
def nums7 (cols : List Nat) (r : List Int) : List Int := cols.map fun c => r[c]?.getD 0
def grp (rows : List (List Int)) (cols : List Nat) (n : Nat) (k : ByteArray) : List Nat := (List.range n).filter fun i => decide (tx (nums7 cols (rows[i]?.getD [])) = k)
def nat7 (l : List Nat) : List Int := l.map fun (i : Nat) => (i : Int)
structure IX (w : World) (gx : Nat) (f S : Nat -> Prop) (rows : List (List Int)) (cols : List Nat) (n : Nat) : Prop where
 ex : ∃ (cv : Value) (m c : Nat) (t : ByteArray -> Option Value), Bk w gx #[cv, .map (some m), .int .i64 (n : Int)] 197 /\ Li S w cv (nat7 cols) /\ Mp Tryz.prog 9 w m c t /\ f gx /\ f m /\ c <= n ∧
  (∀ k, t k = none -> grp rows cols n k = []) ∧
  (∀ k v, t k = some v -> grp rows cols n k ≠ [] /\ OwI w 0 v (nat7 (grp rows cols n k)) /\ ∀ b, v.ownBlock = some b -> f b) ∧
  ∀ k k' v v', t k = some v -> t k' = some v' -> k ≠ k' -> v.ownBlock ≠ v'.ownBlock
theorem IX.same {w w' : World} {gx : Nat} {f S : Nat -> Prop} {rows : List (List Int)} {cols : List Nat} {n : Nat} (h : IX w gx f S rows cols n) (hs : w.heap.size <= w'.heap.size) (hb : ∀ b, f b ∨ S b -> b < w.heap.size -> w'.heap[b]? = w.heap[b]?) : IX w' gx f S rows cols n := by
 obtain ⟨cv, m, c, t, h1, h2, h3, h4, h5, h6, h7, h8, h9⟩ := h.ex
 refine ⟨cv, m, c, t, (hb gx (Or.inl h4) h1.lt).trans h1, ?_, h3.same (hb m (Or.inl h5) h3.lt), h4, h5, h6, h7, fun k v hv => ⟨(h8 k v hv).1, row7 (h8 k v hv).2.1 fun g hg => hb g (Or.inl ((h8 k v hv).2.2 g hg)) (World.ownsRow.lt (h8 k v hv).2.1 g hg).2, (h8 k v hv).2.2⟩, h9⟩
 obtain ⟨a, cap, rfl, q1, q2, q3, q4⟩ := h2
 refine ⟨a, cap, rfl, q1, q2, q3, q4.imp id ?_⟩
 rintro ⟨b, o, rfl, q4, q5, q6⟩
 exact ⟨b, o, rfl, Nat.lt_of_lt_of_le q4 hs, q5, fun i x hx => by rw [World.cell?_of_block (w := w) (a := ⟨b, o + i, none⟩) (hb b (Or.inr q5) q4)]; exact q6 i x hx⟩
theorem IX.mono {w : World} {gx : Nat} {f f' S S' : Nat -> Prop} {rows : List (List Int)} {cols : List Nat} {n : Nat} (h : IX w gx f S rows cols n) (hf : ∀ b, f b -> f' b) (hS : ∀ b, S b -> S' b) : IX w gx f' S' rows cols n := by
 obtain ⟨cv, m, c, t, h1, h2, h3, h4, h5, h6, h7, h8, h9⟩ := h.ex
 exact ⟨cv, m, c, t, h1, h2.mono fun b _ hb => hS b hb, h3, hf _ h4, hf _ h5, h6, h7, fun k v hv => ⟨(h8 k v hv).1, (h8 k v hv).2.1, fun b hb => hf b ((h8 k v hv).2.2 b hb)⟩, h9⟩
def Rws (w : World) (S : Nat -> Prop) (rv : Value) (rvs : List Value) (rows : List (List Int)) : Prop :=
 w.ownsRow 0 67 1 rv rows.length rvs /\ ∀ (i : Nat) (r : List Int), rows[i]? = some r -> ∃ v, rvs[i]? = some v /\ Li S w v r
theorem Li.same {F : Nat -> Prop} {w w' : World} {v : Value} {l : List Int} (h : Li F w v l) (hs : w.heap.size <= w'.heap.size) (hb : ∀ b, F b -> b < w.heap.size -> w'.heap[b]? = w.heap[b]?) : Li F w' v l := by
 obtain ⟨a, cap, rfl, q1, q2, q3, q4⟩ := h
 refine ⟨a, cap, rfl, q1, q2, q3, q4.imp id ?_⟩
 rintro ⟨b, o, rfl, q4, q5, q6⟩
 exact ⟨b, o, rfl, Nat.lt_of_lt_of_le q4 hs, q5, fun i x hx => by rw [World.cell?_of_block (w := w) (a := ⟨b, o + i, none⟩) (hb b q5 q4)]; exact q6 i x hx⟩
structure RX (w : World) (g : Nat) (F S : Nat -> Prop) (s : St7) (lk : Int) (rv : Value) (rvs : List Value) (mp mx nx : Nat) (t : ByteArray -> Option Value) (f : ByteArray -> Nat -> Prop) : Prop where
 ok : s.Ok
 b : Bk w g #[.int .i64 (s.wd : Int), rv, .int .i64 (s.nf : Int), .int .i64 (s.xf : Int), .map (some mp), .int .i32 lk, .int .u32 0, .map (some mx)] 118
 r : Rws w S rv rvs s.rows
 p : Mp Tryz.prog 9 w mp s.rows.length (plF s.rows)
 x : Mp Tryz.prog 9 w mx nx t
 i : ∀ k v, t k = some v -> ∃ gx cols n, v = .pointer (some ⟨gx, 0, none⟩) /\ k = tx (nat7 cols) /\ cols.length <= 10000000000 /\ (∀ c ∈ cols, c < s.wd) /\ n <= s.rows.length /\ IX w gx (f k) S s.rows cols n
 Fg : F g
 Fr : ∀ b, rv.ownBlock = some b -> F b
 Fp : F mp
 Fx : F mx
 Fi : ∀ k b, (t k).isSome = true -> f k b -> F b /\ b ≠ g /\ b ≠ mp /\ b ≠ mx /\ rv.ownBlock ≠ some b
 d : ∀ k k' b, k ≠ k' -> (t k).isSome = true -> (t k').isSome = true -> f k b -> ¬ f k' b
 q : ∀ b, F b -> ¬ S b /\ b < w.heap.size
 pm : mp ≠ mx
 q2 : ∀ b, S b -> b < w.heap.size
theorem RX.same {w w' : World} {g : Nat} {F S : Nat -> Prop} {s : St7} {lk : Int} {rv : Value} {rvs : List Value} {mp mx nx : Nat} {t : ByteArray -> Option Value} {f : ByteArray -> Nat -> Prop} (h : RX w g F S s lk rv rvs mp mx nx t f) (hs : w.heap.size <= w'.heap.size) (hb : ∀ b, F b ∨ S b -> b < w.heap.size -> w'.heap[b]? = w.heap[b]?) : RX w' g F S s lk rv rvs mp mx nx t f := by
 refine ⟨h.ok, (hb g (Or.inl h.Fg) h.b.lt).trans h.b, ⟨row7 h.r.1 fun b hb' => hb b (Or.inl (h.Fr b hb')) (World.ownsRow.lt h.r.1 b hb').2, fun i r hr => ?_⟩, h.p.same (hb mp (Or.inl h.Fp) h.p.lt), h.x.same (hb mx (Or.inl h.Fx) h.x.lt), fun k v hv => ?_, h.Fg, h.Fr, h.Fp, h.Fx, h.Fi, h.d, fun b hF => ⟨(h.q b hF).1, Nat.lt_of_lt_of_le (h.q b hF).2 hs⟩, h.pm, fun b hS => Nat.lt_of_lt_of_le (h.q2 b hS) hs⟩
 ·obtain ⟨v, h1, h2⟩ := h.r.2 i r hr
  exact ⟨v, h1, h2.same hs fun b hS => hb b (Or.inr hS)⟩
 ·obtain ⟨gx, cols, n, h1, h2, h3, h4, h5, h6⟩ := h.i k v hv
  exact ⟨gx, cols, n, h1, h2, h3, h4, h5, h6.same hs fun b hf => hb b (hf.imp (fun hf => (h.Fi k b (by rw [hv]; rfl) hf).1) id)⟩
def RM (w : World) (g : Nat) (F S : Nat -> Prop) (m : Nat) (s : St7) : Prop := ∃ rv rvs mp mx nx t f, nx <= m /\ RX w g F S s 0 rv rvs mp mx nx t f
theorem RM.same {w w' : World} {g : Nat} {F S : Nat -> Prop} {m : Nat} {s : St7} (h : RM w g F S m s) (hs : w.heap.size <= w'.heap.size) (hb : ∀ b, F b ∨ S b -> b < w.heap.size -> w'.heap[b]? = w.heap[b]?) : RM w' g F S m s := by
 obtain ⟨rv, rvs, mp, mx, nx, t, f, hn, h⟩ := h
 exact ⟨rv, rvs, mp, mx, nx, t, f, hn, h.same hs hb⟩
theorem RM.below {w w' : World} {g : Nat} {F S : Nat -> Prop} {m : Nat} {s : St7} (h : RM w g F S m s) (hb : Below w.heap.size w w') : RM w' g F S m s := h.same hb.size fun b _ hl => hb.block b hl
theorem RM.ok {w : World} {g : Nat} {F S : Nat -> Prop} {m : Nat} {s : St7} (h : RM w g F S m s) : s.Ok := by obtain ⟨rv, rvs, mp, mx, nx, t, f, hn, h⟩ := h; exact h.ok
end Go.Proofs.YtechceagghcipabGreatDoor
namespace Go.Proofs.YtechceagghcipabGreatDoor
open Go.RowKit
attribute [local go_sem ↓] Go.wp_at_zero Go.wp_at_succ
theorem eight7 {w : World} {g : Nat} {a b c d e f i j : Value} {t : TypeId} (h : Bk w g #[a, b, c, d, e, f, i, j] t) :
  (w.cell? ⟨g, 0, none⟩ = some a /\ w.cell? ⟨g, 1, none⟩ = some b /\ w.cell? ⟨g, 2, none⟩ = some c /\ w.cell? ⟨g, 3, none⟩ = some d) /\ w.cell? ⟨g, 4, none⟩ = some e /\ w.cell? ⟨g, 5, none⟩ = some f /\ w.cell? ⟨g, 6, none⟩ = some i /\ w.cell? ⟨g, 7, none⟩ = some j :=
 ⟨⟨h.cell rfl, h.cell rfl, h.cell rfl, h.cell rfl⟩, h.cell rfl, h.cell rfl, h.cell rfl, h.cell rfl⟩
theorem mk_map7 (T : TypeId) (w : World) : (Instr.makeMap T none).run Tryz.prog w = .ok (.map (some w.heap.size)) (w.alloc (.map #[] 0)) := by
 simp [Instr.makeMap, go_sem]
def New7 (wd : Nat) : St7 := ⟨wd, [], 0, 0⟩
set_option maxRecDepth 20000 in
set_option maxHeartbeats 1000000 in
theorem new7_any (n : Nat) (hn : n <= 9223372036854775807) (w : World) :
  Calls Tryz.prog 65 #[.int .i64 (n : Int)] w fun e w' => ∃ g, e = .returned (.tuple #[.pointer (some ⟨g, 0, none⟩), .int .i64 0]) /\ w.heap.size <= g /\ RM w' g (fun b => w.heap.size <= b /\ b < w'.heap.size) (fun _ => False) 0 (New7 n) /\ Below w.heap.size w w' := by
 have h0 : ¬ (n : Int) < 0 := by omega
 have m1 := mk_map7 108
 have m2 := mk_map7 116
 go_enter Tryz.func65, Tryz.ntmps65
 go_wp2
 go_ret2
 have b3 : Below w.heap.size w (((w.alloc (.map #[] 0)).alloc (.map #[] 0)).alloc (.cells #[.int .i64 (n : Int), .slice none 0 0, .int .i64 0, .int .i64 0, .map (some w.heap.size), .int .i32 0, .int .u32 0, .map (some (w.heap.size + 1))] 118)) := ((below1 _ _).alloc (by simp) _).alloc (by simp; omega) _
 refine ⟨_, rfl, by omega, ?_, b3⟩
 have q1 := Mp.made Tryz.prog 9 w
 have q2 := Mp.made Tryz.prog 9 (w.alloc (.map #[] 0))
 have z1 : (w.alloc (.map #[] 0)).heap.size = w.heap.size + 1 := by simp
 have z2 : ((w.alloc (.map #[] 0)).alloc (.map #[] 0)).heap.size = w.heap.size + 1 + 1 := by simp
 rw [z1] at q2
 have q3 := Bk.new ((w.alloc (.map #[] 0)).alloc (.map #[] 0)) #[.int .i64 (n : Int), .slice none 0 0, .int .i64 0, .int .i64 0, .map (some w.heap.size), .int .i32 0, .int .u32 0, .map (some (w.heap.size + 1))] 118
 rw [z2] at q3
 have k1 : ∀ (X : World) (o : Obj), Fr (fun _ => False) X (X.alloc o) := fun X o => Fr.of (below1 _ _)
 refine ⟨.slice none 0 0, [], w.heap.size, w.heap.size + 1, 0, fun _ => none, fun _ _ => False, Nat.le_refl _, ⟨⟨List.nodup_nil, (by intro r hr; simp [New7] at hr), (by intro r hr; simp [New7] at hr), Nat.le_refl _, (by simp [New7]), (by simp [New7]), (by simp [New7]), hn⟩, q3, ⟨World.ownsRow_nil _ _ _ _, (fun i r hr => by simp [New7] at hr)⟩, ?_, q2.fr (k1 _ _) (fun h => h), (fun k v hv => by cases hv), ⟨(by omega), (by simp)⟩, (fun b hb => by cases hb), ⟨(by omega), (by simp; omega)⟩, ⟨(by omega), (by simp)⟩, (fun k b hk _ => by simp at hk), (fun k k' b _ hk _ _ => by simp at hk), (fun b hb => ⟨fun h => h, hb.2⟩), (by omega), fun b hb => hb.elim⟩⟩
 exact (q1.fr (k1 _ _) (fun h => h)).fr (k1 _ _) (fun h => h)
def Turn7 (s : St7) : St7 := ⟨s.wd, s.rows, s.xf, s.rows.length⟩
theorem RX.put {w : World} {g i : Nat} {v : Value} {F S : Nat -> Prop} {s s' : St7} {lk lk' : Int} {rv : Value} {rvs : List Value} {mp mx nx : Nat} {t : ByteArray -> Option Value} {f : ByteArray -> Nat -> Prop} (h : RX w g F S s lk rv rvs mp mx nx t f) (ho : s'.Ok) (hr : s'.rows = s.rows) (hw : s'.wd = s.wd)
  (hb : (#[.int .i64 (s.wd : Int), rv, .int .i64 (s.nf : Int), .int .i64 (s.xf : Int), .map (some mp), .int .i32 lk, .int .u32 0, .map (some mx)] : Array Value).setIfInBounds i v = #[.int .i64 (s'.wd : Int), rv, .int .i64 (s'.nf : Int), .int .i64 (s'.xf : Int), .map (some mp), .int .i32 lk', .int .u32 0, .map (some mx)]) : RX (w.setCell ⟨g, i, none⟩ v) g F S s' lk' rv rvs mp mx nx t f := by
 have hB := h.b.set i v
 rw [hb] at hB
 have oth : ∀ b, b ≠ g -> (w.setCell ⟨g, i, none⟩ v).heap[b]? = w.heap[b]? := fun b hn => heap_setCell_other _ _ _ _ hn
 have sz : (w.setCell ⟨g, i, none⟩ v).heap.size = w.heap.size := by simp
 have nr : ∀ b, rv.ownBlock = some b -> b ≠ g := by
  intro b hb' e
  subst e
  rcases h.r.1.2 with ⟨e, -⟩ | ⟨g', cap, cur, e, -, hg, -⟩
  ·rw [e] at hb'; cases hb'
  ·rw [e] at hb'; cases hb'
   have := h.b
   unfold Bk at this
   rw [this] at hg
   have := hg
   simp at this
 have nS : ∀ b, S b -> b ≠ g := fun b hS e => (h.q g h.Fg).1 (e ▸ hS)
 have nm : ∀ {m c : Nat} {t : ByteArray -> Option Value}, Mp Tryz.prog 9 w m c t -> m ≠ g := fun {m c t} hm e => by
  subst e
  obtain ⟨D, ⟨es, clock, h1, -⟩, -⟩ := hm.ex
  have := h.b
  unfold Bk at this
  rw [this] at h1
  cases h1
 refine ⟨ho, hB, ⟨by rw [hr]; exact row7 h.r.1 fun b hb' => oth b (nr b hb'), fun j r hj => ?_⟩, by rw [hr]; exact h.p.same (oth _ (nm h.p)), h.x.same (oth _ (nm h.x)), fun k u hu => ?_, h.Fg, h.Fr, h.Fp, h.Fx, h.Fi, h.d, fun b hF => ⟨(h.q b hF).1, by rw [sz]; exact (h.q b hF).2⟩, h.pm, fun b hS => by rw [sz]; exact h.q2 b hS⟩
 ·rw [hr] at hj
  obtain ⟨u, h1, h2⟩ := h.r.2 j r hj
  exact ⟨u, h1, h2.same (Nat.le_of_eq sz.symm) fun b hS _ => oth b (nS b hS)⟩
 ·obtain ⟨gx, cols, n, h1, h2, h3, h4, h5, h6⟩ := h.i k u hu
  rw [hr, hw]
  exact ⟨gx, cols, n, h1, h2, h3, h4, h5, h6.same (Nat.le_of_eq sz.symm) fun b hf _ => oth b (hf.elim (fun hf => (h.Fi k b (by rw [hu]; rfl) hf).2.1) (nS b))⟩
set_option maxRecDepth 20000 in
set_option maxHeartbeats 1000000 in
theorem turn7_any (g : Nat) (F S : Nat -> Prop) (m : Nat) (s : St7) (w : World) (h : RM w g F S m s) :
  Calls Tryz.prog 41 #[.pointer (some ⟨g, 0, none⟩)] w fun e w' => e = .returned (.int .i64 ((s.rows.length : Int) - (s.xf : Int))) /\ RM w' g F S m (Turn7 s) /\ Fr F w w' := by
 obtain ⟨rv, rvs, mp, mx, nx, t, f, hnx, h⟩ := h
 have HNX := hm7 hnx
 clear hnx
 obtain ⟨⟨c0, c1, c2, c3⟩, c4, c5, c6, c7⟩ := eight7 h.b
 have f2 := h.b.froz 2
 have f3 := h.b.froz 3
 obtain ⟨ra, rc, hrv, -⟩ := row7_form h.r.1
 have HX : Hid (RX w g F S s 0 rv rvs mp mx nx t f) := h
 have b1 : (s.rows.length : Int) <= 10000000000 := by have := h.ok.c; omega
 have b2 : (s.xf : Int) <= (s.rows.length : Int) := by have := h.ok.b; omega
 have HOK := hm7 h.ok
 rw [hrv] at c1
 have HRV := hm7 hrv
 clear h hrv
 go_enter Tryz.func41, Tryz.ntmps41
 go_wp2
 go_quiet (fail)
 go_wp2
 go_ret
 have o := HX.out.ok
 have X1 := HX.out.put (i := 2) (v := .int .i64 (s.xf : Int)) (s' := ⟨s.wd, s.rows, s.xf, s.xf⟩) (lk' := 0) ⟨o.nd, o.wid, o.w, Nat.le_refl _, o.b, o.c, o.d, o.e⟩ rfl rfl rfl
 have X2 := X1.put (i := 3) (v := .int .i64 (s.rows.length : Int)) (s' := Turn7 s) (lk' := 0) ⟨o.nd, o.wid, o.w, o.b, Nat.le_refl _, o.c, o.d, o.e⟩ rfl rfl rfl
 have Z := ((Fr.refl F w).set (g := g) (i := 2) (v := .int .i64 (s.xf : Int)) (Or.inl HX.out.Fg)).set (g := g) (i := 3) (v := .int .i64 (s.rows.length : Int)) (Or.inl HX.out.Fg)
 exact ⟨rfl, ⟨rv, rvs, mp, mx, nx, t, f, HNX.out, X2.same (by simp) (fun b _ _ => by simp)⟩, ⟨Z.os, Z.tape, Z.output, by simp, fun k hk hn => by have := Z.block k hk hn; simpa using this⟩⟩
end Go.Proofs.YtechceagghcipabGreatDoor
namespace Go.Proofs.YtechceagghcipabGreatDoor
open Go.RowKit
attribute [local go_sem ↓] Go.wp_at_zero Go.wp_at_succ
theorem txi_some {rows : List (List Int)} {k : ByteArray} {i : Nat} (h : txi rows k = some i) : ∃ r, rows[i]? = some r /\ tx r = k := by
 unfold txi at h
 obtain ⟨hi, h1, -⟩ := List.findIdx?_eq_some_iff_getElem.1 h
 exact ⟨_, List.getElem?_eq_getElem hi, by simpa using h1⟩
theorem txi_none {rows : List (List Int)} {k : ByteArray} (h : txi rows k = none) : ∀ r ∈ rows, tx r ≠ k := by
 unfold txi at h
 rw [List.findIdx?_eq_none_iff] at h
 intro r hr
 simpa using h r hr
def part7 (s : St7) (r : List Int) : Int := match txi s.rows (tx r) with
 | none => 0
 | some i => if i < s.nf then 1 else if i < s.xf then 2 else 4
theorem Mp.below {P : Program} {k : TypeId} {w w' : World} {b n : Nat} {f : ByteArray -> Option Value} (h : Mp P k w b n f) (hb : Below w.heap.size w w') : Mp P k w' b n f := h.same (hb.block b h.lt)
theorem zero7 (X : World) : (zeroValue 3).run Tryz.prog X = .ok (.int .i64 0) X := by kernel_rfl
theorem Mp.int {w : World} {b n : Nat} {rows : List (List Int)} {s : ByteArray} (h : Mp Tryz.prog 9 w b n (plF rows)) (hs : s.size <= 1000000000000) :
  (Instr.lookup 108 (.map (some b)) (.string s) true).run Tryz.prog w = .ok (.tuple #[.int .i64 (((txi rows s).getD 0 : Nat) : Int), .bool (txi rows s).isSome]) w := by
 have := h.has Tryz.underlying9 Tryz.underlying108 (zero7 w) (s := s) (by unfold maxLen; omega)
 rw [this]
 unfold plF
 cases txi rows s <;> rfl
set_option maxRecDepth 20000 in
set_option maxHeartbeats 1000000 in
theorem part7_any (g : Nat) (F S G : Nat -> Prop) (m : Nat) (s : St7) (v : Value) (r : List Int) (w : World) (h : RM w g F S m s) (hv : Li G w v r) (hl : r.length <= 10000000000) :
  Calls Tryz.prog 43 #[.pointer (some ⟨g, 0, none⟩), v] w fun e w' => e = .returned (.int .i64 (part7 s r)) /\ Below w.heap.size w w' := by
 obtain ⟨rv, rvs, mp, mx, nx, t, f, -, h⟩ := h
 obtain ⟨⟨c0, c1, c2, c3⟩, c4, c5, c6, c7⟩ := eight7 h.b
 have hg := h.b.lt
 have HT : Hid (∀ X : World, Below w.heap.size w X -> Calls Tryz.prog 66 #[v] X fun e w' => e = .returned (.string (tx r)) /\ Below X.heap.size X w') := fun X hX => text_any G r v X (hv.below hX) hl
 obtain ⟨pb, hpb⟩ : ∃ pb, pb = (txi s.rows (tx r)).isSome := ⟨_, rfl⟩
 obtain ⟨pi, hpi⟩ : ∃ pi : Int, pi = (((txi s.rows (tx r)).getD 0 : Nat) : Int) := ⟨_, rfl⟩
 have HL : Hid (∀ X : World, Below w.heap.size w X -> (Instr.lookup 108 (.map (some mp)) (.string (tx r)) true).run Tryz.prog X = .ok (.tuple #[.int .i64 pi, .bool pb]) X) := fun X hX => by
  rw [hpb, hpi]; exact (h.p.below hX).int (by rw [tx_size]; omega)
 have HE : Hid (part7 s r = if pb = true then (if pi < (s.nf : Int) then 1 else if pi < (s.xf : Int) then 2 else 4) else 0) := by
  show _ = _
  unfold part7
  rw [hpb, hpi]
  cases txi s.rows (tx r) with
  | none => rfl
  | some i => simp
 obtain ⟨a, cap, rfl, -⟩ := hv
 clear hpb hpi h
 generalize r.length = rl at *
 go_enter Tryz.func43, Tryz.ntmps43
 go_upto_region 1 with fail
 refine wp_region_held_drew (S := fun w' => Below w.heap.size w w') (by kernel_rfl) (Below.refl _ _).drew (fun hH => ?_)
 revert hH
 generalize w.drew = V0
 intro hH
 refine wTl 0 (.pointer (some ⟨g, 0, none⟩)) rfl (by kernel_rfl) (fun _ _ _ h => h) rfl (fun w' h => by clear h; go_simp) hH ?_
 simp only [wA, wB, wC, wD]
 refine wTl 1 (.pointer (some ⟨g, 0, none⟩)) rfl (by kernel_rfl) (fun _ _ _ h => h) rfl (fun w' h => by clear h; go_simp) hH ?_
 simp only [wA, wB, wC, wD]
 refine wTl 2 (.pointer (some ⟨g, 4, none⟩)) rfl (by kernel_rfl) (fun _ _ _ h => h) rfl (fun w' h => by clear h; go_simp) hH ?_
 simp only [wA, wB, wC, wD]
 refine wTl 3 (.map (some mp)) rfl (by kernel_rfl) (fun _ _ _ h => h) rfl (fun w' h => by have q4 := (h.cell (p := ⟨g, 4, none⟩) hg).trans c4; clear h; go_simp) hH ?_
 simp only [wA, wB, wC, wD]
 refine wTl 4 (.slice a rl cap) rfl (by kernel_rfl) (fun _ _ _ h => h) rfl (fun w' h => by clear h; go_simp) hH ?_
 simp only [wA, wB, wC, wD]
 refine wRd 5 (by kernel_rfl) rfl (fun K hK => ?_)
 go_simp
 refine (HT.out _ hH).mono ?_
 rintro e V1 ⟨rfl, hb⟩
 refine hK.out _ _ (hH.trans (hb.mono hH.size)) (fun hH => ?_)
 clear hK K hb
 try simp only [wA, wB, wC, wD]
 refine wTl 6 (.tuple #[.int .i64 pi, .bool pb]) rfl (by kernel_rfl) (fun _ _ _ h => h) rfl (fun w' h => by have hl := HL.out w' h; clear h; go_simp) hH ?_
 simp only [wA, wB, wC, wD]
 refine wTl 7 (.tuple #[.int .i64 pi, .bool pb]) rfl (by kernel_rfl) (fun _ _ _ h => h) rfl (fun w' h => by clear h; go_simp) hH ?_
 simp only [wA, wB, wC, wD]
 refine wTl 8 (.int .i64 pi) rfl (by kernel_rfl) (fun _ _ _ h => h) rfl (fun w' h => by clear h; go_simp) hH ?_
 simp only [wA, wB, wC, wD]
 refine wTl 9 (.bool pb) rfl (by kernel_rfl) (fun _ _ _ h => h) rfl (fun w' h => by clear h; go_simp) hH ?_
 simp only [wA, wB, wC, wD]
 refine wTl 10 (.int .i64 pi) rfl (by kernel_rfl) (fun _ _ _ h => h) rfl (fun w' h => by clear h; go_simp) hH ?_
 simp only [wA, wB, wC, wD]
 refine wTl 11 (.bool pb) rfl (by kernel_rfl) (fun _ _ _ h => h) rfl (fun w' h => by clear h; go_simp) hH ?_
 simp only [wA, wB, wC, wD]
 refine wpAnyH_done (by kernel_rfl) ?_ _
 have q2 := (hH.cell (p := ⟨g, 2, none⟩) hg).trans c2
 have q3 := (hH.cell (p := ⟨g, 3, none⟩) hg).trans c3
 cases pb with
 | false =>
  go_wp2
  go_ret
  exact ⟨ret_i (by rw [HE.out]; rfl), hH⟩
 | true =>
  by_cases i1 : pi < (s.nf : Int)
  ·go_wp2
   go_ret
   exact ⟨ret_i (by rw [HE.out, if_pos trivial, if_pos i1]), hH⟩
  ·by_cases i2 : pi < (s.xf : Int)
   ·go_wp2
    go_ret
    exact ⟨ret_i (by rw [HE.out, if_pos trivial, if_neg (by omega), if_pos i2]), hH⟩
   ·go_wp2
    go_ret
    exact ⟨ret_i (by rw [HE.out, if_pos trivial, if_neg (by omega), if_neg (by omega)]), hH⟩
end Go.Proofs.YtechceagghcipabGreatDoor
namespace Go.Proofs.YtechceagghcipabGreatDoor
open Go.RowKit
attribute [local go_sem ↓] Go.wp_at_zero Go.wp_at_succ
theorem gappI {ops : Array Oper} {rest : List Oper} {o : Oper} {a : Act} {Q : Exit -> Act -> World -> Prop} {w : World} (hgd : o.guard = none) (s x : Operand)
  (ho : o.op = .call { callee := .builtin .append, args := #[s, x], argTypes := #[67, 67] }) (base : Nat) (v : Value) (l : List Int) (hs : a.eval s = v) (hown : OwI w base v l)
  (G : Nat -> Prop) (y : Value) (m : List Int) (hx : a.eval x = y) (hy : Li G w y m) (hlen : l.length + m.length <= 1000000000000) (hbase : base <= w.heap.size)
  (h : ∀ v' w', OwI w' base v' (l ++ m) -> w.grownBy w' v.ownBlock -> wpList Tryz.prog ops Q rest (a.put o.dst v') w') : wpList Tryz.prog ops Q (o :: rest) a w := by
 obtain ⟨i, hi, h0, h1, h2⟩ := info7 Tryz.infoInt7
 obtain ⟨ad, cap, rfl, hc, -, -, hm⟩ := hy
 cases ad with
 | none =>
  rcases hm with ⟨rfl, e⟩ | ⟨b, o', e, -⟩
  ·rw [e rfl] at hx
   refine wpList_append_own_none hgd s x 67 ho base 3 i 1 Tryz.underlying67 hi v l.length (ibs7 l) hs hown hx ?_
   exact h v w (by rw [List.append_nil]; exact hown) (World.grownBy.refl _ _)
  ·cases e
 | some ad =>
  refine wpList_append_own _ hgd s x 67 ho base 3 i _ 1 8 Tryz.underlying67 hi h0 h1 h2 rfl (by omega) v l.length (ibs7 l) hs hown ad m.length cap (ibs7 m) hx (by simp [ibs7]) ?_ (fun u hu => by simp only [ibs7, List.mem_map] at hu; obtain ⟨z, -, rfl⟩ := hu; rfl) (by unfold maxLen; omega) (by omega) hbase ?_
  ·rcases hm with ⟨rfl, -⟩ | ⟨b, o', e, hlt, -, hc⟩
   ·intro j u hu; simp [ibs7] at hu
   ·cases e
    intro j u hu
    simp only [ibs7, List.getElem?_map, Option.map_eq_some_iff] at hu
    obtain ⟨z, hz, rfl⟩ := hu
    rw [Go.WideShapes.add_plain]
    exact hc j z hz
  ·intro v' w' g1 g2 _
   refine h v' w' ?_ g2
   unfold OwI
   rw [List.length_append, show ibs7 (l ++ m) = ibs7 l ++ ibs7 m by simp [ibs7]]
   exact g1
theorem gstep {T e : TypeId} {z : Value} {by_ : Nat} (hT : Tryz.prog.underlying T = some (.slice e)) (hI : (Tryz.prog.info? e).map (fun i => (i.zero, i.size, i.bytes)) = some (some z, 1, by_)) (hz : z.cells.size = 1) (hby : by_ <= 100)
  {ops : Array Oper} {o : Oper} {a : Act} {K : Act -> World -> Prop} {Q : Exit -> Act -> World -> Prop} {E : Prop} {w : World} (hgd : o.guard = none) (s x : Operand)
  (ho : o.op = .call { callee := .builtin .append, args := #[s, x], argTypes := #[T, T] }) (base : Nat) (v : Value) (n : Nat) (l : List Value) (hs : a.eval s = v) (hown : w.ownsRow base e 1 v n l)
  (b : Nat) (y : Value) (hx : a.eval x = .slice (some ⟨b, 0, none⟩) 1 1) (hblk : Bk w b #[y] e) (hy : y.oneCell' = true) (hlen : n <= 1000000000000) (hbase : base <= w.heap.size)
  (h : ∀ g cap w', w'.ownsRow base e 1 (.slice (some ⟨g, 0, none⟩) (n + 1) cap) (n + 1) (l ++ [y]) -> w.grownBy w' v.ownBlock -> (v.ownBlock = some g ∨ g = w.heap.size) -> g < w'.heap.size -> K (a.put o.dst (.slice (some ⟨g, 0, none⟩) (n + 1) cap)) w') : if Region.wanted o (yielded ops a.tmps) = true then Oper.wp Tryz.prog o a w K Q else E := by
 obtain ⟨i, hi, h0, h1, h2⟩ := info7 hI
 refine step_append_lies _ hgd s x T ho base e i z 1 by_ hT hi h0 h1 h2 hz (by omega) v n l hs hown ⟨b, 0, none⟩ 1 1 [y] hx rfl ?_ (by simpa using hy) (by omega) (by unfold maxLen; omega) (Nat.le_trans (Nat.mul_le_mul (show n + 1 <= 1000000000001 by omega) hby) (by decide)) hbase _ rfl h
 intro j u hj
 exact World.news_of_block (cs := #[y]) (t := e) (fr := (0, 0)) hblk j u (by simpa using hj)
theorem row7_mono {e : TypeId} {w : World} {b b' n m : Nat} {v : Value} {xs : List Value} (h : w.ownsRow b e n v m xs) (hb : b' <= b) : w.ownsRow b' e n v m xs := by
 refine ⟨h.1, ?_⟩
 rcases h.2 with hn | ⟨g, cap, cur, hv, hbb, hg, rest⟩
 ·exact Or.inl hn
 ·exact Or.inr ⟨g, cap, cur, hv, Nat.le_trans hb hbb, hg, rest⟩
theorem cell_map {w : World} {m : Nat} {es : Array MapEntry} {c : Nat} (h : w.heap[m]? = some (.map es c)) (o : Nat) : w.cell? ⟨m, o, none⟩ = none := by
 simp [World.cell?, h]
theorem Li.grownM {G : Nat -> Prop} {P : Program} {k : TypeId} {w w' : World} {v : Value} {l : List Int} {m n : Nat} {f : ByteArray -> Option Value} (h : Li G w v l) (hm : Mp P k w m n f) (hg : w.grownBy w' (some m)) : Li G w' v l := by
 obtain ⟨D, ⟨es, clock, h1, -⟩, -⟩ := hm.ex
 obtain ⟨a, cap, rfl, q1, q2, q3, q4⟩ := h
 refine ⟨a, cap, rfl, q1, q2, q3, q4.imp id ?_⟩
 rintro ⟨b, o, rfl, q4, q5, q6⟩
 refine ⟨b, o, rfl, Nat.lt_of_lt_of_le q4 hg.size, q5, fun i x hx => ?_⟩
 have hne : b ≠ m := fun e => by
  subst e
  have := q6 i x hx
  rw [cell_map h1] at this
  cases this
 exact hg.cell (q6 i x hx) (fun e => hne (by cases e; rfl))
theorem lit0 (w : World) : OwI (w.alloc (.cells #[] 3)) w.heap.size (.slice (some ⟨w.heap.size, 0, none⟩) 0 0) [] :=
 ⟨rfl, Or.inr ⟨w.heap.size, 0, #[], rfl, Nat.le_refl _, heap_alloc_new _ _, Nat.le_refl _, by simp, rfl, rfl⟩⟩
set_option maxRecDepth 20000 in
set_option maxHeartbeats 1000000 in
theorem clone7_any (G : Nat -> Prop) (v : Value) (l : List Int) (w : World) (h : Li G w v l) (hl : l.length <= 100000000000) :
  Calls Tryz.prog 67 #[v] w fun e w' => ∃ v', e = .returned v' /\ OwI w' w.heap.size v' l /\ Below w.heap.size w w' := by
 have H := hm7 h
 have qT : ∀ (w : World) (a : Option Addr) (n c n' c' : Nat), (binOp .eql 67 (.slice a n c) (.slice none n' c')).run Tryz.prog w = .ok (.bool a.isNone) w := fun w a n c n' c' => Go.Lib.run_eql_slice_nil w 67 3 a n c n' c' Tryz.underlying67
 obtain ⟨a, cap, rfl, -, -, -, h4⟩ := h
 cases a with
 | none =>
  rcases h4 with ⟨rfl, e⟩ | ⟨b, o, e, -⟩
  ·obtain rfl := e rfl
   go_enter Tryz.func67, Tryz.ntmps67
   go_wp2
   go_ret
   exact ⟨.slice none 0 0, rfl, OwI.nil _ _, Below.refl _ _⟩
  ·cases e
 | some ad =>
  clear h4
  obtain ⟨n, hn⟩ : ∃ n, n = l.length := ⟨_, rfl⟩
  have HN := hm7 hn
  rw [<- hn] at H ⊢
  clear hn
  go_enter Tryz.func67, Tryz.ntmps67
  go_wp2_with (at_builtin; refine gappI rfl _ _ rfl w.heap.size (.slice (some ⟨w.heap.size, 0, none⟩) 0 0) [] rfl (lit0 w) G _ l rfl (H.out.below (below1 _ _)) (by simp; omega) (by simp) ?_; intro v' w' ho hg)
  go_ret
  exact ⟨v', rfl, by simpa using ho, (below1 _ _).trans (Fr.grown (P := fun b => w.heap.size <= b) hg (fun b hb => by cases hb; exact Nat.le_refl _) |>.low (by simp))⟩
end Go.Proofs.YtechceagghcipabGreatDoor

import Derived.Test.YtechceagghcipaaGreatDoorRA1
namespace Go.Proofs.YtechceagghcipaaGreatDoor
open Go.RowKit
attribute [local go_sem ↓] Go.wp_at_zero Go.wp_at_succ

def tb : Nat -> Int -> List Int
 | 0, _ => []
 | k + 1, n => (n / (256 : Int) ^ k) % 256 :: tb k n
theorem tb_len (k : Nat) (n : Int) : (tb k n).length = k := by induction k with
 | zero => rfl
 | succ k ih => simp [tb, ih]
def byt7 (l : List Int) : Prop := ∀ x ∈ l, 0 <= x /\ x <= 255
theorem tb_byt (k : Nat) (n : Int) : byt7 (tb k n) := by
 induction k with
 | zero => intro x hx; simp [tb] at hx
 | succ k ih =>
  intro x hx
  simp only [tb, List.mem_cons] at hx
  rcases hx with rfl | hx
  ·have := Int.emod_nonneg (n / (256 : Int) ^ k) (show (256 : Int) ≠ 0 by omega)
   have := Int.emod_lt_of_pos (n / (256 : Int) ^ k) (show (0 : Int) < 256 by omega)
   omega
  ·exact ih x hx
theorem tb_take (k j : Nat) (n : Int) (h : j < k) : (tb k n).take (j + 1) = (tb k n).take j ++ [(n / (256 : Int) ^ (k - 1 - j)) % 256] := by
 induction k generalizing j with
 | zero => omega
 | succ k ih =>
  cases j with
  | zero => simp [tb]
  | succ j =>
   simp only [tb, List.take_succ_cons, List.cons_append, List.cons.injEq, true_and]
   rw [ih j (by omega), show k + 1 - 1 - (j + 1) = k - 1 - j by omega]
theorem tb_inj (k : Nat) : ∀ {n m : Int}, tb k n = tb k m -> n % (256 : Int) ^ k = m % (256 : Int) ^ k := by
 induction k with
 | zero => intro n m _; simp [Int.emod_one]
 | succ k ih =>
  intro n m h
  simp only [tb, List.cons.injEq] at h
  obtain ⟨h1, h2⟩ := h
  have e := ih h2
  have hp : (0 : Int) < (256 : Int) ^ k := Int.pow_pos (by decide)
  have key : ∀ x : Int, x % (256 : Int) ^ (k + 1) = (256 : Int) ^ k * ((x / (256 : Int) ^ k) % 256) + x % (256 : Int) ^ k := by
   intro x
   rw [Int.pow_succ]
   have a1 := Int.emod_add_mul_ediv x ((256 : Int) ^ k * 256)
   have a2 := Int.emod_add_mul_ediv x ((256 : Int) ^ k)
   have a3 := Int.emod_add_mul_ediv (x / (256 : Int) ^ k) 256
   have a4 : x / (256 : Int) ^ k / 256 = x / ((256 : Int) ^ k * 256) := by
    rw [Int.ediv_ediv, if_neg (by omega), Int.sub_zero]
   rw [a4] at a3
   generalize x / (256 ^ k * 256) = q at *
   generalize hy : x / 256 ^ k = y at *
   generalize x % (256 ^ k * 256) = r at *
   generalize y % 256 = s at *
   generalize x % 256 ^ k = t at *
   have : y = s + 256 * q := a3.symm
   subst this
   rw [Int.mul_add, <- Int.mul_assoc] at a2
   omega
  rw [key n, key m, h1, e]
theorem w64_lo {x : Int} (h : (Lit.int .i64 x).wf = true) : -9223372036854775808 <= x /\ x < 9223372036854775808 := by
 simp [Lit.wf, IntKind.min, IntKind.max, IntKind.signed, IntKind.bits] at h
 omega
theorem tb_inj8 {n m : Int} (hn : (Lit.int .i64 n).wf = true) (hm : (Lit.int .i64 m).wf = true) (h : tb 8 n = tb 8 m) : n = m := by
 have := tb_inj 8 h
 have := w64_lo hn
 have := w64_lo hm
 rw [show (256 : Int) ^ 8 = 18446744073709551616 by decide] at *
 omega
def i2b7 (l : List Int) : List UInt8 := l.map fun x => UInt8.ofNat x.toNat
def ofL7 (l : List Int) : ByteArray := ⟨(i2b7 l).toArray⟩
theorem ofL7_size (l : List Int) : (ofL7 l).size = l.length := by show (i2b7 l).toArray.size = _; simp [i2b7]
theorem ofL7_inj {l m : List Int} (hl : byt7 l) (hm : byt7 m) (h : ofL7 l = ofL7 m) : l = m := by
 have h1 : i2b7 l = i2b7 m := by
  have := congrArg (fun b : ByteArray => b.data.toList) h
  simpa [ofL7] using this
 clear h
 unfold i2b7 at h1
 induction l generalizing m with
 | nil => cases m with
  | nil => rfl
  | cons y m => simp at h1
 | cons x l ih => cases m with
  | nil => simp at h1
  | cons y m =>
   simp only [List.map_cons, List.cons.injEq] at h1
   have hx := hl x (by simp)
   have hy := hm y (by simp)
   rw [ih (fun z hz => hl z (by simp [hz])) (fun z hz => hm z (by simp [hz])) h1.2]
   have e : (UInt8.ofNat x.toNat).toNat = (UInt8.ofNat y.toNat).toNat := by rw [h1.1]
   simp only [UInt8.toNat_ofNat'] at e
   congr 1
   omega
def tx (l : List Int) : ByteArray := ofL7 (l.flatMap (tb 8))
theorem tbs_len (l : List Int) : (l.flatMap (tb 8)).length = 8 * l.length := by
 induction l with
 | nil => rfl
 | cons x l ih => simp only [List.flatMap_cons, List.length_append, tb_len, ih, List.length_cons]; omega
theorem tbs_byt (l : List Int) : byt7 (l.flatMap (tb 8)) := fun x hx => by
 obtain ⟨y, -, hy⟩ := List.mem_flatMap.1 hx
 exact tb_byt 8 y x hy
theorem tx_size (l : List Int) : (tx l).size = 8 * l.length := by rw [tx, ofL7_size, tbs_len]
theorem tx_inj {l m : List Int} (hl : w64 l) (hm : w64 m) (h : tx l = tx m) : l = m := by
 have h1 := ofL7_inj (tbs_byt l) (tbs_byt m) h
 clear h
 induction l generalizing m with
 | nil => cases m with
  | nil => rfl
  | cons y m => have := congrArg List.length h1; rw [tbs_len, tbs_len] at this; simp at this
 | cons x l ih => cases m with
  | nil => have := congrArg List.length h1; rw [tbs_len, tbs_len] at this; simp at this
  | cons y m =>
   rw [List.flatMap_cons, List.flatMap_cons] at h1
   obtain ⟨h2, h3⟩ := List.append_inj h1 (by rw [tb_len, tb_len])
   rw [tb_inj8 (hl x (by simp)) (hm y (by simp)) h2, ih (fun z hz => hl z (by simp [hz])) (fun z hz => hm z (by simp [hz])) h3]
def ubs7 (l : List Int) : List Value := l.map (.int .u8)
def OwU (w : World) (base : Nat) (v : Value) (l : List Int) : Prop := w.ownsRow base 5 1 v l.length (ubs7 l)
theorem Tryz.infoU8x : (Tryz.prog.info? 5).map (fun i => (i.zero, i.size, i.bytes)) = some (some (.int .u8 0), 1, 1) := by kernel_rfl
theorem Tryz.infoInt7 : (Tryz.prog.info? 3).map (fun i => (i.zero, i.size, i.bytes)) = some (some (.int .i64 0), 1, 8) := by kernel_rfl
theorem Tryz.infoInts7 : (Tryz.prog.info? 71).map (fun i => (i.zero, i.size, i.bytes)) = some (some (.slice none 0 0), 1, 24) := by kernel_rfl
theorem info7 {P : Program} {e : TypeId} {z : Value} {s b : Nat} (h : (P.info? e).map (fun i => (i.zero, i.size, i.bytes)) = some (some z, s, b)) : ∃ i, P.info? e = some i /\ i.zero = some z /\ i.size = s /\ i.bytes = b := by
 cases hi : P.info? e with
 | none => rw [hi] at h; simp at h
 | some i =>
  rw [hi] at h
  simp only [Option.map_some, Option.some.injEq, Prod.mk.injEq] at h
  exact ⟨i, rfl, h.1, h.2.1, h.2.2⟩
theorem gapp {T e : TypeId} {z : Value} {by_ : Nat} (hT : Tryz.prog.underlying T = some (.slice e)) (hI : (Tryz.prog.info? e).map (fun i => (i.zero, i.size, i.bytes)) = some (some z, 1, by_)) (hz : z.cells.size = 1) (hby : by_ <= 100)
  {ops : Array Oper} {rest : List Oper} {o : Oper} {a : Act} {Q : Exit -> Act -> World -> Prop} {w : World} (hgd : o.guard = none) (s x : Operand)
  (ho : o.op = .call { callee := .builtin .append, args := #[s, x], argTypes := #[T, T] }) (base : Nat) (v : Value) (n : Nat) (l : List Value) (hs : a.eval s = v) (hown : w.ownsRow base e 1 v n l)
  (b : Nat) (y : Value) (hx : a.eval x = .slice (some ⟨b, 0, none⟩) 1 1) (hblk : Bk w b #[y] e) (hy : y.oneCell' = true) (hlen : n <= 1000000000000) (hbase : base <= w.heap.size)
  (h : ∀ g cap w', w'.ownsRow base e 1 (.slice (some ⟨g, 0, none⟩) (n + 1) cap) (n + 1) (l ++ [y]) -> w.grownBy w' v.ownBlock -> (v.ownBlock = some g ∨ g = w.heap.size) -> g < w'.heap.size -> wpList Tryz.prog ops Q rest (a.put o.dst (.slice (some ⟨g, 0, none⟩) (n + 1) cap)) w') : wpList Tryz.prog ops Q (o :: rest) a w := by
 obtain ⟨i, hi, h0, h1, h2⟩ := info7 hI
 refine wpList_append_lies _ hgd s x T ho base e i z 1 by_ hT hi h0 h1 h2 hz (by omega) v n l hs hown ⟨b, 0, none⟩ 1 1 [y] hx rfl ?_ (by simpa using hy) (by omega) (by unfold maxLen; omega) (Nat.le_trans (Nat.mul_le_mul (show n + 1 <= 1000000000001 by omega) hby) (by decide)) hbase _ rfl h
 intro j u hj
 exact World.news_of_block (cs := #[y]) (t := e) (fr := (0, 0)) hblk j u (by simpa using hj)
theorem mk_bytes0 (n : Nat) (hn : n <= 100000000000000) (w : World) : (Instr.makeSlice 153 (.int .i64 0) (.int .i64 (n : Int))).run Tryz.prog w = .ok (.slice (some ⟨w.heap.size, 0, none⟩) 0 n) (w.alloc (.cells (madeCells #[.int .u8 0] n) 5)) := by
 obtain ⟨i, hi, h0, h1, h2⟩ := info7 Tryz.infoU8x
 have h := run_make (P := Tryz.prog) w 153 5 i _ Tryz.underlying153 hi h0 .i64 .i64 0 n (by omega) (by omega) (by rw [h2]; omega) (by omega)
 rw [h1, Nat.mul_one] at h
 exact h
theorem own_bytes0 (n : Nat) (hn : n <= 100000000000000) (w : World) : OwU (w.alloc (.cells (madeCells #[.int .u8 0] n) 5)) w.heap.size (.slice (some ⟨w.heap.size, 0, none⟩) 0 n) [] :=
 ⟨by simp [ubs7], Or.inr ⟨w.heap.size, n, _, rfl, Nat.le_refl _, heap_alloc_new _ _, by simp, by unfold maxLen; omega, by simp [madeCells], by simp [ubs7]⟩⟩
theorem shr7 (n : Int) (g : Nat) : n / 2 ^ (8 * g) = n / (256 : Int) ^ g := by
 rw [Int.pow_mul]; rfl
theorem OwU.conv {w : World} {base : Nat} {v : Value} {l : List Int} (h : OwU w base v l) (hb : byt7 l) : (convert 153 9 v).run Tryz.prog w = .ok (.string (ofL7 l)) w := by
 rcases h.2 with ⟨hv, hn⟩ | ⟨g, cap, cur, hv, -, hg, hn, -, -, -⟩
 ·have : l = [] := List.eq_nil_of_length_eq_zero hn
  subst this
  rw [hv]
  exact run_convert_bytes_nil w 153 5 Tryz.underlying153 Tryz.underlying5 0 0 9 Tryz.underlying9
 ·rw [hv]
  have e := run_convert_bytes_back (P := Tryz.prog) w 153 9 5 ⟨g, 0, none⟩ cap (i2b7 l) Tryz.underlying153 Tryz.underlying5 Tryz.underlying9 (fun j hj => by
   have hj' : j < l.length := by simpa [i2b7] using hj
   have := hb l[j] (List.getElem_mem hj')
   have hc := World.ownsRow.cells h (g := g) (by rw [hv]; rfl) j (.int .u8 l[j]) (by simp [ubs7, hj'])
   rw [hc]
   simp [i2b7]; omega)
  rw [show (i2b7 l).length = l.length by simp [i2b7]] at e
  exact e
set_option maxRecDepth 20000 in
set_option maxHeartbeats 1000000 in
theorem text_any (F : Nat -> Prop) (l : List Int) (v : Value) (w : World) (h : Li F w v l) (hl : l.length <= 10000000000) :
  Calls Tryz.prog 58 #[v] w fun e w' => e = .returned (.string (tx l)) /\ Below w.heap.size w w' := by
 obtain ⟨a, cap, rfl, h1, h2, -, h3⟩ := h
 obtain ⟨N, hN⟩ : ∃ N : Nat, N = 8 * l.length := ⟨_, rfl⟩
 have e0 : (8 : Int) * (l.length : Int) = (N : Int) := by omega
 have hmk : (Instr.makeSlice 153 (.int .i64 0) (.int .i64 (8 * (l.length : Int)))).run Tryz.prog w = .ok (.slice (some ⟨w.heap.size, 0, none⟩) 0 N) (w.alloc (.cells (madeCells #[.int .u8 0] N) 5)) := by rw [e0]; exact mk_bytes0 _ (by omega) w
 have HO : Hid (OwU (w.alloc (.cells (madeCells #[.int .u8 0] N) 5)) w.heap.size (.slice (some ⟨w.heap.size, 0, none⟩) 0 N) []) := own_bytes0 N (by omega) w
 clear e0 hN
 go_enter Tryz.func58, Tryz.ntmps58
 go_wp2
 go_loopg [3, 13] l.length (fun g u i wr => ∃ j : Nat, j + g = l.length /\ i = .int .i64 j /\ OwU wr w.heap.size u ((l.take j).flatMap (tb 8)) /\ Below w.heap.size w wr)
 case atStart => exact ⟨0, by omega, rfl, HO.out, below1 _ _⟩
 case round =>
  obtain ⟨j, hj, rfl, hw, hb⟩ := hrel
  have HW : Hid (OwU wr w.heap.size u3 ((l.take j).flatMap (tb 8))) := hw
  have HB : Hid (Below w.heap.size w wr) := hb
  cases gk with
  | succ g =>
   have hlt : (j : Int) < (l.length : Int) := by omega
   have j0 : (0 : Int) <= (j : Int) := by omega
   obtain ⟨t, ht⟩ : ∃ t, l[j]? = some t := ⟨_, List.getElem?_eq_getElem (by omega)⟩
   rcases h3 with h3 | ⟨b, o, rfl, hbl, -, h3⟩
   ·rw [h3.1] at hj; simp at hj
   have p0 := h3 j t ht
   rw [<- hb.cell (p := ⟨b, _, none⟩) hbl] at p0
   have HT : Hid (l[j]? = some t) := ht
   have HL : Hid (((l.take j).flatMap (tb 8)).length = 8 * j) := by show _ = _; rw [tbs_len, List.length_take]; omega
   clear h3 ht hw hb
   go_wp2
   go_loopg [3, 6] 8 (fun g u i wr => ∃ k : Nat, k + g = 8 /\ i = .int .i64 (8 * (g : Int) - 8) /\ OwU wr w.heap.size u ((l.take j).flatMap (tb 8) ++ (tb 8 t).take k) /\ Below w.heap.size w wr)
   case atStart => exact ⟨0, by omega, rfl, by rw [List.take_zero, List.append_nil]; exact HW.out, HB.out⟩
   case round =>
    obtain ⟨k, hk, rfl, hw, hb⟩ := hrel
    have HW : Hid (OwU wr w.heap.size u3 ((l.take j).flatMap (tb 8) ++ (tb 8 t).take k)) := hw
    have HB : Hid (Below w.heap.size w wr) := hb
    have hsz := hb.size
    clear hw hb
    cases gk with
    | succ q =>
     have e1 : 8 * ((q + 1 : Nat) : Int) - 8 = ((8 * q : Nat) : Int) := by omega
     rw [e1]
     have i0 : (0 : Int) <= ((8 * q : Nat) : Int) := by omega
     have i8 : ((8 * q : Nat) : Int) <= 56 := by omega
     obtain ⟨L, hL⟩ : ∃ L, L = (l.take j).flatMap (tb 8) ++ (tb 8 t).take k := ⟨_, rfl⟩
     obtain ⟨M, hM⟩ : ∃ M, L.length = M := ⟨_, rfl⟩
     have HL2 : Hid (L = (l.take j).flatMap (tb 8) ++ (tb 8 t).take k) := hL
     have HM : Hid (L.length = M) := hM
     have hM8 : M <= 100000000000 := by rw [<- hM, hL, List.length_append, HL.out, List.length_take, tb_len]; omega
     have HW2 : Hid (wr.ownsRow w.heap.size 5 1 u3 M (ubs7 L)) := by rw [<- hM, hL]; exact HW.out
     clear hM hL HW
     go_wp2_with (at_builtin; refine gapp Tryz.underlying153 Tryz.infoU8x rfl (by omega) rfl _ _ rfl w.heap.size u3 M (ubs7 L) rfl (row7_below HW2.out (below1 _ _)) wr.heap.size (.int .u8 (t / 2 ^ (8 * q) % 256)) rfl (Bk.new wr _ _) rfl (by omega) (by simp; omega) ?_; intro g' cap' w1 ho1 hg1 hv1 hlt1)
     go_roundg q
     case measure => omega
     case rel =>
      refine ⟨k + 1, by omega, by go_num, ?_, ?_⟩
      ·have e : (l.take j).flatMap (tb 8) ++ (tb 8 t).take (k + 1) = L ++ [t / 2 ^ (8 * q) % 256] := by rw [tb_take 8 k t (by omega), shr7, HL2.out, List.append_assoc, show 8 - 1 - k = q by omega]
       rw [e]
       unfold OwU
       rw [List.length_append, HM.out, show ubs7 (L ++ [t / 2 ^ (8 * q) % 256]) = ubs7 L ++ [.int .u8 (t / 2 ^ (8 * q) % 256)] by simp [ubs7]]
       exact ho1
      ·exact HB.out.trans (((below1 _ _).mono (by omega)).trans (Fr.grown (P := fun b => w.heap.size <= b) hg1 (fun b hb => (World.ownsRow.lt HW2.out b hb).1) |>.low (by simp; omega)))
    | zero =>
     have e2 : k = 8 := by omega
     go_wp2
     go_roundg g
     case measure => omega
     case rel =>
      refine ⟨j + 1, by omega, by go_num, ?_, HB.out⟩
      have := HW.out
      rw [e2, show (tb 8 t).take 8 = tb 8 t from List.take_of_length_le (by rw [tb_len]; exact Nat.le_refl _)] at this
      rw [List.take_add_one, HT.out, List.flatMap_append]
      simpa using this
  | zero =>
   have hlt : ¬ (j : Int) < (l.length : Int) := by omega
   have e2 : (l.take j) = l := List.take_of_length_le (by omega)
   have HC : Hid ((convert 153 9 u3).run Tryz.prog wr = .ok (.string (tx l)) wr) := by
    rw [e2] at hw
    exact hw.conv (tbs_byt l)
   clear hw h3 HW e2
   have hcv := HC.out
   go_wp2
   go_ret
   exact ⟨rfl, HB.out⟩
end Go.Proofs.YtechceagghcipaaGreatDoor

import Derived.Test.YtechceagghcipabGreatDoorRA40
import Derived.Test.YtechceagghcipabGreatDoorRA19
import Derived.Test.YtechceagghcipabGreatDoorShelf
namespace Go.Proofs.YtechceagghcipabGreatDoor
open Go.RowKit Go.Lib
attribute [local go_sem ↓] Go.wp_at_zero Go.wp_at_succ
theorem made_cells (k : Nat) : madeCells #[.int .i64 0, .int .i64 0] (k * 2) = (ces7 (List.replicate k (0, 0))).toArray := by
 apply Array.ext
 ·simp [madeCells, ces7_len]
 ·intro i h1 h2
  have hi : i < k * 2 := by simpa [madeCells] using h1
  have h3 := ces7_get (List.replicate k (0, 0)) (i / 2) (0, 0) (by rw [List.getElem?_replicate, if_pos (by omega)]) (i % 2) (by omega)
  rw [show i / 2 * 2 + i % 2 = i by omega] at h3
  have h4 : i < (ces7 (List.replicate k (0, 0))).length := by rw [ces7_len]; simpa using hi
  rw [List.getElem?_eq_getElem h4] at h3
  have h5 : i % 2 = 0 ∨ i % 2 = 1 := by omega
  rcases h5 with h5 | h5 <;> simp [madeCells, h5, cel7] at h3 ⊢ <;> exact h3.symm
theorem mk_cells (k : Nat) (hk : k <= 1000000000) (w : World) : (Instr.makeSlice 172 (.int .i64 (k : Int)) (.int .i64 (k : Int))).run Tryz.prog w = .ok (.slice (some ⟨w.heap.size, 0, none⟩) k k) (w.alloc (.cells (ces7 (List.replicate k (0, 0))).toArray 174)) := by
 obtain ⟨i, hi, h0, h1, h2⟩ := info7 (show (Tryz.prog.info? 174).map (fun i => (i.zero, i.size, i.bytes)) = some (some (.agg #[.int .i64 0, .int .i64 0]), 2, 16) by kernel_rfl)
 have h := run_make (P := Tryz.prog) w 172 174 i _ Tryz.underlying172 hi h0 .i64 .i64 k k (by omega) (by omega) (by rw [h2]; omega) (by omega)
 rw [h1] at h
 rw [h]
 have e : madeCells (Value.agg #[Value.int IntKind.i64 0, Value.int IntKind.i64 0]).cells (Int.toNat (k : Int) * 2) = (ces7 (List.replicate k (0, 0))).toArray := by
  rw [Int.toNat_natCast]; exact made_cells k
 rw [e]
 simp
def col7 (wd : Nat) (c : Int) : Bool := decide (0 <= c /\ c < (wd : Int))
def unq7 (z : List (Int × Int)) (l : List (Int × Int)) : Prop := ∃ l', l'.Perm z /\ srtZ7 l' /\ l = compact l'
def SE (w : World) (wd : Nat) (cols keys : List Int) (e : Ending) (w' : World) : Prop :=
 Below w.heap.size w w' /\ ((e = .returned (.tuple #[.slice none 0 0, .slice none 0 0, .bool false]) /\ (cols.length ≠ keys.length ∨ (∃ c ∈ cols, col7 wd c = false) ∨ ∃ l, unq7 (cols.zip keys) l /\ ∃ j p q, l[j]? = some p /\ l[j + 1]? = some q /\ p.1 = q.1)) ∨
  ∃ sv nv, e = .returned (.tuple #[sv, nv, .bool true]) /\ cols.length = keys.length /\ (∀ c ∈ cols, col7 wd c = true) /\ ∃ l, unq7 (cols.zip keys) l /\ (∀ j p q, l[j]? = some p -> l[j + 1]? = some q -> p.1 ≠ q.1) /\ OwI w' w.heap.size sv (l.map Prod.fst) /\ OwI w' w.heap.size nv (l.map Prod.snd))
theorem OwC7.of {w : World} {g n base : Nat} {z : List (Int × Int)} (h : CK7 w g z []) (hn : z.length = n) (hb : base <= g) (hl : n <= 1000000000) : OwC7 w base (.slice (some ⟨g, 0, none⟩) n n) z := by
 unfold OwC7
 rw [hn]
 refine ⟨by rw [ces7_len, hn], Or.inr ⟨g, n, _, rfl, hb, h, Nat.le_refl _, by unfold maxLen; omega, by simp [ces7_len, hn], ?_⟩⟩
 rw [List.append_nil, <- hn, <- ces7_len]
 simp
theorem sortZ8_any (g n base : Nat) (z : List (Int × Int)) (w : World) (h : OwC7 w base (.slice (some ⟨g, 0, none⟩) n n) z) (hn : z.length = n) (hl : n <= 1000000000) :
  Calls Tryz.prog 127 #[.slice (some ⟨g, 0, none⟩) n n, .func (.func 128) #[] #[]] w fun e w' => e = .returned (.tuple #[]) /\ ∃ l', OwC7 w' base (.slice (some ⟨g, 0, none⟩) n n) l' /\ l'.Perm z /\ srtZ7 l' /\ Below g w w' := by
 have hs : z.toArray.size = n := by simpa using hn
 have := sortFuncZ7_all g n base w z.toArray (by rw [hs]; exact h) (by omega)
 rw [hs] at this
 exact this
theorem take_next7 {α : Type} {y : α} {l : List α} {k : Nat} (h : l[k]? = some y) : l.take (k + 1) = l.take k ++ [y] := by
 obtain ⟨hk, rfl⟩ := List.getElem?_eq_some_iff.1 h
 rw [List.take_succ_eq_append_getElem hk]
theorem compact_len (l : List (Int × Int)) : (compact l).length <= l.length := by
 unfold compact compactUpTo
 rw [List.length_map]
 have := List.length_filter_le (keeps l.toArray) (List.range l.length)
 simpa using this
theorem OwC7.at_ {w : World} {g n cap base j : Nat} {z : List (Int × Int)} {p : Int × Int} (h : OwC7 w base (.slice (some ⟨g, 0, none⟩) n cap) z) (hn : z.length = n) (hp : z[j]? = some p) : g < w.heap.size /\ w.cell? ⟨g, j * 2, none⟩ = some (.int .i64 p.1) /\ w.cell? ⟨g, j * 2 + 1, none⟩ = some (.int .i64 p.2) := by
 unfold OwC7 at h
 rw [hn] at h
 have h0 := ces7_get z j p hp 0 (by omega)
 have h1 := ces7_get z j p hp 1 (by omega)
 obtain ⟨g1, e1, -, q1, q2, -⟩ := row7_at h h0
 obtain ⟨g2, e2, -, -, q3, -⟩ := row7_at h h1
 cases e1
 cases e2
 exact ⟨q1, q2, q3⟩
theorem OwI.snoc {w : World} {base : Nat} {v : Value} {l : List Int} {x : Int} (h : w.ownsRow base 3 1 v (l.length + 1) (ibs7 l ++ [.int .i64 x])) : OwI w base v (l ++ [x]) := by
 unfold OwI
 rw [List.length_append, List.length_singleton, show ibs7 (l ++ [x]) = ibs7 l ++ [.int .i64 x] by simp [ibs7]]
 exact h
def zz7 (cols keys : List Int) (n j : Nat) : List (Int × Int) := (cols.zip keys).take j ++ List.replicate (n - j) (0, 0)
theorem zz7_next {cols keys : List Int} {n j : Nat} {c k : Int} (hc : cols[j]? = some c) (hk : keys[j]? = some k) (hn : (cols.zip keys).length = n) (hj : j < n) : (zz7 cols keys n j).set j (c, k) = zz7 cols keys n (j + 1) := by
 have hz : (cols.zip keys)[j]? = some (c, k) := by rw [List.getElem?_zip_eq_some]; exact ⟨hc, hk⟩
 have hl : ((cols.zip keys).take j).length = j := by rw [List.length_take]; omega
 unfold zz7
 rw [List.set_append_right _ _ (by omega), hl, Nat.sub_self, List.take_add_one, hz, show n - j = (n - (j + 1)) + 1 by omega, List.replicate_succ]
 simp
set_option maxRecDepth 20000 in
set_option maxHeartbeats 2000000 in
theorem settle7_any (g : Nat) (F S G N : Nat -> Prop) (m : Nat) (s : St7) (cols keys : List Int) (cv kv : Value) (w : World) (h : RM w g F S m s) (hc : Li G w cv cols) (hk : Li N w kv keys) (hl : cols.length <= 1000000000) :
  Calls Tryz.prog 103 #[.pointer (some ⟨g, 0, none⟩), cv, kv] w (SE w s.wd cols keys) := by
 obtain ⟨rv, rvs, mp, mx, nx, t, f, -, h⟩ := h
 obtain ⟨⟨c0, -, -, -⟩, -, -, -, -⟩ := eight7 h.b
 have hgl := h.b.lt
 have hwd := h.ok.e
 clear h
 have HC := hm7 hc
 have HK := hm7 hk
 obtain ⟨ca, cc, rfl, -⟩ := hc
 obtain ⟨ka, kc, rfl, -⟩ := hk
 obtain ⟨n, hn⟩ : ∃ n, cols.length = n := ⟨_, rfl⟩
 obtain ⟨n', hn'⟩ : ∃ n, keys.length = n := ⟨_, rfl⟩
 rw [hn] at HC hl ⊢
 rw [hn'] at HK ⊢
 have HN := hm7 hn
 have HN' := hm7 hn'
 clear hn hn'
 by_cases hnn : n = n'
 ·subst hnn
  have HZL : Hid ((cols.zip keys).length = n) := by show _ = _; rw [List.length_zip, HN.out, HN'.out, Nat.min_self]
  have hmk := mk_cells n hl w
  obtain ⟨W1, hW1⟩ : ∃ W1, w.alloc (.cells (ces7 (List.replicate n (0, 0))).toArray 174) = W1 := ⟨_, rfl⟩
  rw [hW1] at hmk
  have hz1 : W1.heap.size = w.heap.size + 1 := by rw [<- hW1]; simp
  have HB1 : Hid (Below w.heap.size w W1) := by rw [<- hW1]; exact below1 _ _
  have HCK1 : Hid (CK7 W1 w.heap.size (List.replicate n (0, 0)) []) := by
   show Bk _ _ _ _
   rw [List.append_nil, <- hW1]; exact Bk.new _ _ _
  clear hW1
  go_enter Tryz.func103, Tryz.ntmps103
  go_wp2
  clear hmk
  go_loopg [6, 7, 24] n (fun gg u v i wr => ∃ j : Nat, j + gg = n /\ u = .slice none 0 0 /\ v = .slice none 0 0 /\ i = .int .i64 j /\ CK7 wr w.heap.size (zz7 cols keys n j) [] /\ Fr (fun b => b = w.heap.size) W1 wr /\ ∀ c ∈ cols.take j, col7 s.wd c = true)
  case atStart => exact ⟨0, by omega, rfl, rfl, rfl, by simpa [zz7] using HCK1.out, Fr.refl _ _, by simp⟩
  case round =>
   obtain ⟨j, hj, rfl, rfl, rfl, hck, hfr, hco⟩ := hrel
   have HCK := hm7 hck
   have HFR := hm7 hfr
   have HCO := hm7 hco
   clear hck hfr hco
   have HBW : Hid (Below w.heap.size w wr) := HB1.out.trans ((HFR.out.mono (Q := fun b => w.heap.size <= b) fun b _ e => by omega).low (by omega))
   have d0 := (HBW.out.cell (p := ⟨g, 0, none⟩) hgl).trans c0
   cases gk with
   | succ gg =>
    have hlt : (j : Int) < (n : Int) := by omega
    have j0 : (0 : Int) <= (j : Int) := by omega
    obtain ⟨c, hcj⟩ : ∃ c, cols[j]? = some c := ⟨_, List.getElem?_eq_getElem (by have := HN.out; omega)⟩
    obtain ⟨k, hkj⟩ : ∃ c, keys[j]? = some c := ⟨_, List.getElem?_eq_getElem (by have := HN'.out; omega)⟩
    obtain ⟨ca', cc', e1, -, -, -, h1⟩ := HC.out.below HBW.out
    rw [HN.out] at e1
    simp only [Value.slice.injEq, true_and] at e1
    obtain ⟨rfl, rfl⟩ := e1
    obtain ⟨ka', kc', e2, -, -, -, h2⟩ := HK.out.below HBW.out
    rw [HN'.out] at e2
    simp only [Value.slice.injEq, true_and] at e2
    obtain ⟨rfl, rfl⟩ := e2
    rcases h1 with ⟨h1, -⟩ | ⟨b1, o1, rfl, -, -, h1⟩
    ·rw [h1] at hcj; simp at hcj
    rcases h2 with ⟨h2, -⟩ | ⟨b2, o2, rfl, -, -, h2⟩
    ·rw [h2] at hkj; simp at hkj
    have p0 := h1 j c hcj
    have q0 := h2 j k hkj
    have HJ := hm7 (And.intro hcj hkj)
    clear h1 h2 hcj hkj
    by_cases hcol : 0 <= c /\ c < (s.wd : Int)
    ·have i1 : ¬ c < 0 := by omega
     have i2 : ¬ (s.wd : Int) <= c := by omega
     have f0 := HCK.out.froz (j * 2)
     have f1 := HCK.out.froz (j * 2 + 1)
     have hzl : (zz7 cols keys n j).length = n := by simp [zz7, HZL.out]; have := HZL.out; simp at this; omega
     obtain ⟨o, ho⟩ : ∃ o, (zz7 cols keys n j)[j]? = some o := ⟨_, List.getElem?_eq_getElem (by omega)⟩
     obtain ⟨c4, c5⟩ := HCK.out.at_ ho
     clear ho
     go_wp2
     go_roundg gg
     case measure => omega
     case rel =>
      refine ⟨j + 1, by omega, rfl, rfl, by go_num, ?_, Fr.set (Fr.set HFR.out (Or.inl rfl)) (Or.inl rfl), fun x hx => ?_⟩
      ·rw [<- zz7_next HJ.out.1 HJ.out.2 HZL.out (by omega)]
       exact HCK.out.put (c, k) (by omega)
      ·rw [take_next7 HJ.out.1] at hx
       rcases List.mem_append.1 hx with hx | hx
       ·exact HCO.out x hx
       ·rw [List.mem_singleton] at hx; rw [hx]; exact decide_eq_true hcol
    ·have HNC : Hid (col7 s.wd c = false) := decide_eq_false hcol
     have HBAD : Hid (SE w s.wd cols keys (.returned (.tuple #[.slice none 0 0, .slice none 0 0, .bool false])) wr) := ⟨HBW.out, Or.inl ⟨rfl, Or.inr (Or.inl ⟨c, List.mem_of_getElem? HJ.out.1, HNC.out⟩)⟩⟩
     by_cases i1 : c < 0
     ·go_wp2
      go_ret3
      exact HBAD.out
     ·have i2 : (s.wd : Int) <= c := by omega
      go_wp2
      go_ret3
      exact HBAD.out
   | zero =>
    have hlt : ¬ (j : Int) < (n : Int) := by omega
    obtain rfl : j = n := by omega
    have HALL : Hid (∀ c ∈ cols, col7 s.wd c = true) := by have := HCO.out; rw [List.take_of_length_le (by have := HN.out; omega)] at this; exact this
    have hck : CK7 wr w.heap.size (cols.zip keys) [] := by have := HCK.out; rw [zz7, Nat.sub_self, List.take_of_length_le (by have := HZL.out; omega)] at this; simpa using this
    have HSO := hm7 (sortZ8_any w.heap.size j w.heap.size (cols.zip keys) wr (OwC7.of hck HZL.out (Nat.le_refl _) hl) HZL.out hl)
    clear hck HCK HCO
    go_upto_region 12 with (go_at_call 127; refine HSO.out.mono ?_; rintro e w4 ⟨rfl, l', ho, hp, hs, hb4⟩; have HO4 := hm7 ho; have HP := hm7 (And.intro hp hs); have HB4 := hm7 hb4; clear ho hp hs hb4)
    have HL4 : Hid (l'.length = j) := by show _ = _; rw [HP.out.1.length_eq]; exact HZL.out
    have HCM := hm7 (compact7_any w.heap.size j j w.heap.size l' w4 HO4.out HL4.out)
    obtain ⟨L, hL⟩ : ∃ L, compact l' = L := ⟨_, rfl⟩
    have HUQ : Hid (unq7 (cols.zip keys) L) := ⟨l', HP.out.1, HP.out.2, hL.symm⟩
    rw [hL] at HCM
    obtain ⟨nc, hnc⟩ : ∃ nc, L.length = nc := ⟨_, rfl⟩
    have HNC := hm7 hnc
    rw [hnc] at HCM
    clear hL hnc
    have d1 : True := trivial
    clear d0
    go_wp2_with (go_at_call 129; refine HCM.out.mono ?_; rintro e w5 ⟨rfl, ho5, hf5⟩; have HO5 := hm7 ho5; have HF5 := hm7 hf5; clear ho5 hf5)
    clear HCM HSO
    have HB5 : Hid (Below w.heap.size w w5) := HBW.out.trans (HB4.out.trans ((HF5.out.mono (Q := fun b => w.heap.size <= b) fun b _ e => by omega).low (by have h1 := HBW.out.size; have h2 := HB4.out.size; omega)))
    have hncb : nc <= 1000000000 := by
     have h1 := HUQ.out
     obtain ⟨l2, hp2, -, e2⟩ := h1
     have h3 : L.length <= l2.length := by rw [e2]; exact compact_len l2
     have h4 := hp2.length_eq
     have h5 := HZL.out
     have h6 := HNC.out
     omega
    have p05 := HB5.out.size
    go_loopg [6, 7, 54] nc (fun gg u v i wr => ∃ y : Nat, y + gg = nc /\ i = .int .i64 y /\ OwI wr w5.heap.size u ((L.take y).map Prod.fst) /\ OwI wr w5.heap.size v ((L.take y).map Prod.snd) /\ (∀ b, u.ownBlock = some b -> v.ownBlock ≠ some b) /\ Below w5.heap.size w5 wr /\ ∀ (i : Nat) (p q : Int × Int), i + 1 < y -> L[i]? = some p -> L[i + 1]? = some q -> p.1 ≠ q.1)
    case atStart => exact ⟨0, by omega, rfl, OwI.nil _ _, OwI.nil _ _, (by intro b hb; cases hb), Below.refl _ _, (by intro i p q hi; omega)⟩
    case round =>
     obtain ⟨y, hy, rfl, hou, hov, hne, hby, hds⟩ := hrel
     have HOU := hm7 hou
     have HOV := hm7 hov
     have HNE := hm7 hne
     have HBY := hm7 hby
     have HDS := hm7 hds
     obtain ⟨ua, uc, hu, -⟩ := row7_form hou
     obtain ⟨va, vc, hv, -⟩ := row7_form hov
     have hly : ((L.take y).map Prod.fst).length = y := by rw [List.length_map, List.length_take]; have := HNC.out; omega
     have hly2 : ((L.take y).map Prod.snd).length = y := by rw [List.length_map, List.length_take]; have := HNC.out; omega
     rw [hly] at hu
     rw [hly2] at hv
     subst hu hv
     have HLY := hm7 (And.intro hly hly2)
     clear hou hov hne hby hds hly hly2
     cases gk with
     | succ gg =>
      have hlt3 : (y : Int) < (nc : Int) := by omega
      have y0 : (0 : Int) <= (y : Int) := by omega
      obtain ⟨⟨p1, p2⟩, hp⟩ : ∃ p, L[y]? = some p := ⟨_, List.getElem?_eq_getElem (by have := HNC.out; omega)⟩
      obtain ⟨hg5, c6, c7⟩ := HO5.out.at_ HNC.out hp
      rw [<- HBY.out.cell (p := ⟨w.heap.size, _, none⟩) hg5] at c6 c7
      simp only at c6 c7
      have HPY := hm7 hp
      clear hp
      have HRU : Hid (wr.ownsRow w5.heap.size 3 1 (.slice ua y uc) y (ibs7 ((L.take y).map Prod.fst))) := by have := HOU.out; unfold OwI at this; rw [HLY.out.1] at this; exact this
      have HRV : Hid (wr.ownsRow w5.heap.size 3 1 (.slice va y vc) y (ibs7 ((L.take y).map Prod.snd))) := by have := HOV.out; unfold OwI at this; rw [HLY.out.2] at this; exact this
      have HBN : Hid (∀ q : Nat, Bk (((wr.alloc (.cells #[.int .i64 p1, .int .i64 p2] 174)).drewN q).alloc (.cells #[.int .i64 p1] 3)) (wr.heap.size + 1) #[.int .i64 p1] 3) := fun q => by
       have := Bk.new ((wr.alloc (.cells #[.int .i64 p1, .int .i64 p2] 174)).drewN q) #[.int .i64 p1] 3
       simpa using this
      have HB6 : Hid (Below wr.heap.size wr (wr.alloc (.cells #[.int .i64 p1, .int .i64 p2] 174))) := below1 _ _
      by_cases hy0 : 0 < y
      ·have i5 : (0 : Int) < (y : Int) := by omega
       have e5 : ((y : Int) - 1) = ((y - 1 : Nat) : Int) := by omega
       obtain ⟨⟨r1, r2⟩, hr⟩ : ∃ p, L[y - 1]? = some p := ⟨_, List.getElem?_eq_getElem (by have := HNC.out; omega)⟩
       have hru : (ibs7 ((L.take y).map Prod.fst))[y - 1]? = some (.int .i64 r1) := by
        rw [ibs7, List.getElem?_map, List.getElem?_map, List.getElem?_take_of_lt (by omega), hr]; rfl
       obtain ⟨bu, rfl, -, hbl, c8, -⟩ := row7_at (by have := HOU.out; unfold OwI at this; rw [HLY.out.1] at this; exact this) (i := y - 1) (u := .int .i64 r1) hru
       rw [<- (below1 wr (.cells #[.int .i64 p1, .int .i64 p2] 174)).cell (p := ⟨bu, _, none⟩) hbl] at c8
       have HRY := hm7 hr
       clear hr hru
       have i6 : ((y - 1 : Nat) : Int) < (y : Int) := by omega
       have i7 : (0 : Int) <= ((y - 1 : Nat) : Int) := by omega
       by_cases hsame : r1 = p1
       ·subst hsame
        have HBAD : Hid (∀ V : World, Below w.heap.size w V -> SE w s.wd cols keys (.returned (.tuple #[.slice none 0 0, .slice none 0 0, .bool false])) V) := fun V hV => ⟨hV, Or.inl ⟨rfl, Or.inr (Or.inr ⟨L, HUQ.out, y - 1, (r1, r2), (r1, p2), HRY.out, by rw [show y - 1 + 1 = y by omega]; exact HPY.out, rfl⟩)⟩⟩
        go_wp2
        go_quiet (fail)
        go_wp2
        go_ret3
        exact HBAD.out _ ((HB5.out.trans (HBY.out.mono p05)).trans ((below1 wr _).trans (below_drewN7' _ _ |>.mono (by simp)) |>.mono (by have := HBY.out.size; omega)))
       ·have hs1 : (r1 == p1) = false := by simpa using hsame
        have HSM := hm7 hsame
        go_wp2
        go_quiet (fail)
        go_wp2_with (first | (at_builtin; refine gapp Tryz.underlying67 Tryz.infoInt7 rfl (by omega) rfl _ _ rfl w5.heap.size (.slice (some ⟨bu, 0, none⟩) y uc) y (ibs7 ((L.take y).map Prod.fst)) rfl (row7_below (row7_below (row7_below HRU.out (below1 _ _)) (below_drewN7' _ _)) (below1 _ _)) (wr.heap.size + 1) (.int .i64 p1) rfl (HBN.out _) rfl (by omega) (by have := HBY.out.size; simp; omega) ?_; intro g6 c9 w6 ho6 hg6 hv6 hl6; have hfr6 := (Fr.of (P := fun b => (Value.slice (some ⟨bu, 0, none⟩) y uc).ownBlock = some b) (below1 wr (.cells #[.int .i64 p1, .int .i64 p2] 174))).tr ((Fr.of (below_drewN7' _ _)).tr ((Fr.of (below1 _ _)).tr (Fr.grown hg6 fun b hb => hb))); have d7 : w6.cell? ⟨wr.heap.size, 1, none⟩ = some (.int .i64 p2) := (Bk.cell (((((Bk.new wr #[.int .i64 p1, .int .i64 p2] 174).below (below_drewN7' _ _)).below (below1 _ _)).fr (Fr.grown (P := fun b => (Value.slice (some ⟨bu, 0, none⟩) y uc).ownBlock = some b) hg6 fun b hb => hb) (fun e => by have := (HRU.out.lt _ e).2; omega))) (i := 1) rfl); have HA6 := hm7 (And.intro ho6 (And.intro hfr6 hv6)); clear ho6 hg6 hv6 hfr6) | (at_builtin; refine gapp Tryz.underlying67 Tryz.infoInt7 rfl (by omega) rfl _ _ rfl w5.heap.size (.slice va y vc) y (ibs7 ((L.take y).map Prod.snd)) rfl (row7_below (row7_fr HRV.out HA6.out.2.1 (fun b hb e => HNE.out b e hb)) (below1 _ _)) w6.heap.size (.int .i64 p2) rfl (Bk.new _ _ _) rfl (by omega) (by have := HBY.out.size; have := HA6.out.2.1.size; simp; omega) ?_; intro g7 c10 w7 ho7 hg7 hv7 hl7; have HA7 := hm7 (And.intro ho7 (And.intro hg7 hv7)); clear ho7 hg7 hv7))
        have hfr7 : Fr (fun b => (Value.slice va y vc).ownBlock = some b) w6 w7 := (Fr.of (below1 _ _)).tr (Fr.grown HA7.out.2.1 fun b hb => hb)
        have hs6 := HA6.out.2.1.size
        have hgu : ∀ b, (Value.slice (some ⟨bu, 0, none⟩) y uc).ownBlock = some b -> w5.heap.size <= b /\ b < wr.heap.size := HRU.out.lt
        have hgv : ∀ b, (Value.slice va y vc).ownBlock = some b -> w5.heap.size <= b /\ b < wr.heap.size := HRV.out.lt
        have hg6v : (Value.slice va y vc).ownBlock ≠ some g6 := fun e => by
         rcases HA6.out.2.2 with h | h
         ·exact HNE.out g6 h e
         ·have := (hgv g6 e).2; simp at h; omega
        go_roundg gg
        case measure => omega
        case rel =>
         refine ⟨y + 1, by omega, by go_num, ?_, ?_, ?_, ?_, ?_⟩
         ·rw [take_next7 HPY.out, List.map_append]
          exact OwI.snoc (by rw [HLY.out.1]; exact row7_fr HA6.out.1 hfr7 (fun b hb e => hg6v (by rw [show g6 = b from by simpa [Value.ownBlock] using hb]; exact e)))
         ·rw [take_next7 HPY.out, List.map_append]
          exact OwI.snoc (by rw [HLY.out.2]; exact HA7.out.1)
         ·intro b hb e
          have e6 : g6 = b := by simpa [Value.ownBlock] using hb
          have e7 : g7 = b := by simpa [Value.ownBlock] using e
          rcases HA7.out.2.2 with h | h
          ·exact hg6v (by rw [e6, <- e7]; exact h)
          ·simp at h; omega
         ·exact HBY.out.trans (((HA6.out.2.1.mono (Q := fun b => w5.heap.size <= b) fun b _ e => (hgu b e).1).low HBY.out.size).trans ((hfr7.mono (Q := fun b => w5.heap.size <= b) fun b _ e => (hgv b e).1).low (by have := HBY.out.size; omega)))
         ·intro i p q hi hp hq
          by_cases e : i + 1 = y
          ·have e1 : i = y - 1 := by omega
           rw [e1, HRY.out] at hp
           rw [e, HPY.out] at hq
           cases hp
           cases hq
           exact HSM.out
          ·exact HDS.out i p q (by omega) hp hq
      ·have i5 : ¬ (0 : Int) < (y : Int) := by omega
       go_wp2
       go_quiet (fail)
       go_wp2_with (first | (at_builtin; refine gapp Tryz.underlying67 Tryz.infoInt7 rfl (by omega) rfl _ _ rfl w5.heap.size (.slice ua y uc) y (ibs7 ((L.take y).map Prod.fst)) rfl (row7_below (row7_below (row7_below HRU.out (below1 _ _)) (below_drewN7' _ _)) (below1 _ _)) (wr.heap.size + 1) (.int .i64 p1) rfl (HBN.out _) rfl (by omega) (by have := HBY.out.size; simp; omega) ?_; intro g6 c9 w6 ho6 hg6 hv6 hl6; have hfr6 := (Fr.of (P := fun b => (Value.slice ua y uc).ownBlock = some b) (below1 wr (.cells #[.int .i64 p1, .int .i64 p2] 174))).tr ((Fr.of (below_drewN7' _ _)).tr ((Fr.of (below1 _ _)).tr (Fr.grown hg6 fun b hb => hb))); have d7 : w6.cell? ⟨wr.heap.size, 1, none⟩ = some (.int .i64 p2) := (Bk.cell (((((Bk.new wr #[.int .i64 p1, .int .i64 p2] 174).below (below_drewN7' _ _)).below (below1 _ _)).fr (Fr.grown (P := fun b => (Value.slice ua y uc).ownBlock = some b) hg6 fun b hb => hb) (fun e => by have := (HRU.out.lt _ e).2; omega))) (i := 1) rfl); have HA6 := hm7 (And.intro ho6 (And.intro hfr6 hv6)); clear ho6 hg6 hv6 hfr6) | (at_builtin; refine gapp Tryz.underlying67 Tryz.infoInt7 rfl (by omega) rfl _ _ rfl w5.heap.size (.slice va y vc) y (ibs7 ((L.take y).map Prod.snd)) rfl (row7_below (row7_fr HRV.out HA6.out.2.1 (fun b hb e => HNE.out b e hb)) (below1 _ _)) w6.heap.size (.int .i64 p2) rfl (Bk.new _ _ _) rfl (by omega) (by have := HBY.out.size; have := HA6.out.2.1.size; simp; omega) ?_; intro g7 c10 w7 ho7 hg7 hv7 hl7; have HA7 := hm7 (And.intro ho7 (And.intro hg7 hv7)); clear ho7 hg7 hv7))
       have hfr7 : Fr (fun b => (Value.slice va y vc).ownBlock = some b) w6 w7 := (Fr.of (below1 _ _)).tr (Fr.grown HA7.out.2.1 fun b hb => hb)
       have hs6 := HA6.out.2.1.size
       have hgu : ∀ b, (Value.slice ua y uc).ownBlock = some b -> w5.heap.size <= b /\ b < wr.heap.size := HRU.out.lt
       have hgv : ∀ b, (Value.slice va y vc).ownBlock = some b -> w5.heap.size <= b /\ b < wr.heap.size := HRV.out.lt
       have hg6v : (Value.slice va y vc).ownBlock ≠ some g6 := fun e => by
        rcases HA6.out.2.2 with h | h
        ·exact HNE.out g6 h e
        ·have := (hgv g6 e).2; simp at h; omega
       go_roundg gg
       case measure => omega
       case rel =>
        refine ⟨y + 1, by omega, by go_num, ?_, ?_, ?_, ?_, ?_⟩
        ·rw [take_next7 HPY.out, List.map_append]
         exact OwI.snoc (by rw [HLY.out.1]; exact row7_fr HA6.out.1 hfr7 (fun b hb e => hg6v (by rw [show g6 = b from by simpa [Value.ownBlock] using hb]; exact e)))
        ·rw [take_next7 HPY.out, List.map_append]
         exact OwI.snoc (by rw [HLY.out.2]; exact HA7.out.1)
        ·intro b hb e
         have e6 : g6 = b := by simpa [Value.ownBlock] using hb
         have e7 : g7 = b := by simpa [Value.ownBlock] using e
         rcases HA7.out.2.2 with h | h
         ·exact hg6v (by rw [e6, <- e7]; exact h)
         ·simp at h; omega
        ·exact HBY.out.trans (((HA6.out.2.1.mono (Q := fun b => w5.heap.size <= b) fun b _ e => (hgu b e).1).low HBY.out.size).trans ((hfr7.mono (Q := fun b => w5.heap.size <= b) fun b _ e => (hgv b e).1).low (by have := HBY.out.size; omega)))
        ·intro i p q hi hp hq
         exact HDS.out i p q (by omega) hp hq
     | zero =>
      have hlt3 : ¬ (y : Int) < (nc : Int) := by omega
      obtain rfl : y = nc := by omega
      have HTK : Hid (L.take y = L) := List.take_of_length_le (by have := HNC.out; omega)
      rw [HTK.out] at HOU HOV
      go_wp2
      go_ret3
      refine ⟨HB5.out.trans (HBY.out.mono p05), Or.inr ⟨_, _, rfl, by rw [HN.out, HN'.out], HALL.out, L, HUQ.out, fun i p q hp hq => HDS.out i p q (by have := (List.getElem?_eq_some_iff.1 hq).1; have := HNC.out; omega) hp hq, HOU.out.mono p05, HOV.out.mono p05⟩⟩
 ·have HE : Hid (cols.length ≠ keys.length) := by show _ ≠ _; rw [HN.out, HN'.out]; exact hnn
  have hq : ((n : Int) == (n' : Int)) = false := by simpa using fun e : (n : Int) = n' => hnn (by omega)
  go_enter Tryz.func103, Tryz.ntmps103
  go_wp2
  go_ret3
  exact ⟨Below.refl _ _, Or.inl ⟨rfl, Or.inl HE.out⟩⟩
end Go.Proofs.YtechceagghcipabGreatDoor

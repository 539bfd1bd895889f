/-
  script (stage 25): the tokens of a line, taken one after the other: what takes them, what tells where the next one stands.
-/
import Derived.Test.YtdfdnjkeiddfjaaDoorSM5
import Derived.Test.YtdfdnjkeiddfjaaDoorSM3
import Derived.Test.YtdfdnjkeiddfjaaDoorK13
namespace Go.Proofs.YtdfdnjkeiddfjaaDoor
open Go.RowKit
attribute [local go_sem ↓] Go.wp_at_zero Go.wp_at_succ
attribute [local go_sem] run_store_funcA

def TkC (W : World) (b o : Nat) (t : Tk) : Prop := W.cell? ⟨b, o, none⟩ = some (.int .i64 t.k) ∧ W.cell? ⟨b, o + 1, none⟩ = some (.string t.x) ∧ W.cell? ⟨b, o + 2, none⟩ = some (.int .i64 t.n) ∧ W.cell? ⟨b, o + 3, none⟩ = some (.int .i64 t.a) ∧ W.cell? ⟨b, o + 4, none⟩ = some (.int .i64 t.e)
/-- Tokens that lie below B. -/
def TksA (W : World) (B : Nat) (v : Value) (L : List Tk) : Prop :=
  ∃ a cap, v = .slice a L.length cap ∧ (L = [] ∨ ∃ b o, a = some ⟨b, o, none⟩ ∧ b < B ∧ ∀ (i : Nat) (t : Tk), L[i]? = some t → TkC W b (o + i * 5) t)
theorem Ks.tks {w : World} {v : Value} {L : List Tk} (h : Ks w v L) : TksA w w.heap.size v L := h
theorem TksA.fr {P : Nat → Prop} {W W' : World} {B : Nat} {v : Value} {L : List Tk} (h : TksA W B v L) (hB : B ≤ W.heap.size) (hf : Fr P W W') (hp : ∀ x, x < B → ¬ P x) : TksA W' B v L := by
  obtain ⟨a, cap, rfl, h⟩ := h
  refine ⟨a, cap, rfl, h.imp id ?_⟩
  rintro ⟨b, o, rfl, hlt, hc⟩
  refine ⟨b, o, rfl, hlt, fun i t ht => ?_⟩
  have hb : b < W.heap.size := by omega
  obtain ⟨h0, h1, h2, h3, h4⟩ := hc i t ht
  exact ⟨hf.cell hb (hp b hlt) h0, hf.cell hb (hp b hlt) h1, hf.cell hb (hp b hlt) h2, hf.cell hb (hp b hlt) h3, hf.cell hb (hp b hlt) h4⟩
/-- What the two hold between them. -/
structure OvA (W : World) (B : Nat) (v : Value) (L : List Tk) (len : Int) (n : Nat) : Prop where
  k : TksA W B v L
  l : BlkK W B #[v] 39
  z : BlkK W (B + 1) #[.int .i64 len] 3
  x : BlkK W (B + 2) #[.int .i64 n] 3
  n : n ≤ L.length
theorem OvA.fr {P : Nat → Prop} {W W' : World} {B : Nat} {v : Value} {L : List Tk} {len : Int} {n : Nat} (h : OvA W B v L len n) (hf : Fr P W W') (hp : ∀ x, x < B + 3 → ¬ P x) : OvA W' B v L len n :=
  ⟨h.k.fr (Nat.le_of_lt h.l.lt) hf fun x hx => hp x (by omega), h.l.frL hf (hp _ (by omega)), h.z.frL hf (hp _ (by omega)), h.x.frL hf (hp _ (by omega)), h.n⟩
theorem OvA.later {W W' : World} {B : Nat} {v : Value} {L : List Tk} {len : Int} {n : Nat} (h : OvA W B v L len n) (hb : Below W.heap.size W W') : OvA W' B v L len n :=
  h.fr (P := fun _ => False) (Fr.of hb) fun _ _ h => h
def tkV (B : Nat) : Value := .func (.func 46) #[] #[.pointer (some ⟨B + 2, 0, none⟩), .pointer (some ⟨B, 0, none⟩)]
def plV (B : Nat) : Value := .func (.func 47) #[] #[.pointer (some ⟨B + 2, 0, none⟩), .pointer (some ⟨B, 0, none⟩), .pointer (some ⟨B + 1, 0, none⟩)]
set_option maxHeartbeats 1000000 in
theorem overA_any (v : Value) (L : List Tk) (len : Int) (w : World) (hk : Ks w v L) : Calls Tryd.prog 31 #[v, .int .i64 len] w fun e w' => e = .returned (.tuple #[tkV w.heap.size, plV w.heap.size]) ∧ OvA w' w.heap.size v L len 0 ∧ Below w.heap.size w w' := by
  have hmf : ∀ (fn : Fn) (first cap : Array Value) (w : World), (Instr.makeFunc fn first cap).run Tryd.prog w = .ok (.func fn first cap) w := fun _ _ _ _ => rfl
  have HK := hm7 hk.tks
  obtain ⟨a, cap, rfl, -⟩ := hk
  obtain ⟨W1, hW1⟩ : ∃ W, w.alloc (.cells #[.slice a L.length cap] 39) = W := ⟨_, rfl⟩
  obtain ⟨W2, hW2⟩ : ∃ W, W1.alloc (.cells #[.int .i64 len] 3) = W := ⟨_, rfl⟩
  obtain ⟨W3, hW3⟩ : ∃ W, W2.alloc (.cells #[.int .i64 0] 3) = W := ⟨_, rfl⟩
  have z1 : W1.heap.size = w.heap.size + 1 := by rw [← hW1]; simp
  have z2 : W2.heap.size = w.heap.size + 2 := by rw [← hW2]; simp [z1]
  have b1 : Below w.heap.size w W1 := by rw [← hW1]; exact below1K w _
  have b2 : Below W1.heap.size W1 W2 := by rw [← hW2]; exact below1K W1 _
  have b3 : Below W2.heap.size W2 W3 := by rw [← hW3]; exact below1K W2 _
  have k1 : BlkK W1 w.heap.size #[.slice a L.length cap] 39 := by rw [← hW1]; exact BlkK.new w _ _
  have k2 : BlkK W2 (w.heap.size + 1) #[.int .i64 len] 3 := by rw [← hW2, ← z1]; exact BlkK.new W1 _ _
  have k3 : BlkK W3 (w.heap.size + 2) #[.int .i64 0] 3 := by rw [← hW3, ← z2]; exact BlkK.new W2 _ _
  have hb : Below w.heap.size w W3 := below_stepK (below_stepK b1 b2) b3
  have HO : Hid (OvA W3 w.heap.size (.slice a L.length cap) L len 0) := ⟨HK.out.fr (Nat.le_refl _) (Fr.of (P := fun _ => False) hb) fun _ _ h => h, (k1.later b2).later b3, k2.later b3, k3, Nat.zero_le _⟩
  have HB := hm7 hb
  clear b1 b2 b3 k1 k2 k3 hb
  subst hW3
  go_enter Tryd.func31, Tryd.ntmps31
  go_wp2
  go_ret2
  exact ⟨ret_2 (by simp [tkV]) (by simp [plV]), HO.out, HB.out⟩
/-- Where the next token stands. -/
def plA (L : List Tk) (len : Int) (n : Nat) : Int := ((L[n]?).map Tk.a).getD len
set_option maxHeartbeats 1000000 in
theorem placeA_any {W : World} {B : Nat} {v : Value} {L : List Tk} {len : Int} {n : Nat} (h : OvA W B v L len n) :
    Calls Tryd.prog 47 #[.pointer (some ⟨B + 2, 0, none⟩), .pointer (some ⟨B, 0, none⟩), .pointer (some ⟨B + 1, 0, none⟩)] W fun e w' => e = .returned (.int .i64 (plA L len n)) ∧ w' = W := by
  obtain ⟨a, cap, rfl, hc⟩ := h.k
  have c0 := cell8 h.l 0 _ rfl
  have c1 := cell8 h.z 0 _ rfl
  have c2 := cell8 h.x 0 _ rfl
  obtain ⟨N, hN⟩ : ∃ N, L.length = N := ⟨_, rfl⟩
  have hn := h.n
  rw [hN] at c0 hn
  by_cases hq : n = N
  · have e : plA L len n = len := by unfold plA; rw [List.getElem?_eq_none (by omega)]; rfl
    have e1 : ((n : Int) == (N : Int)) = true := by rw [beq_iff_eq]; omega
    rw [e]
    clear h hc e hq hn hN
    go_enter Tryd.func47, Tryd.ntmps47
    go_wp2
    go_ret
    exact ⟨rfl, rfl⟩
  · have hlt : n < L.length := by omega
    have e : plA L len n = L[n].a := by unfold plA; rw [List.getElem?_eq_getElem hlt]; rfl
    have e1 : ((n : Int) == (N : Int)) = false := by rw [beq_eq_false_iff_ne]; omega
    have hne : L ≠ [] := fun e => by rw [e] at hlt; simp at hlt
    obtain ⟨b, o, rfl, -, hcs⟩ := hc.resolve_left hne
    obtain ⟨h0, h1, h2, h3, h4⟩ := hcs n L[n] (List.getElem?_eq_getElem hlt)
    have i1 : (n : Int) < (N : Int) := by omega
    have i2 : (0 : Int) ≤ (n : Int) := by omega
    rw [e]
    obtain ⟨t, ht⟩ : ∃ t, L[n] = t := ⟨_, rfl⟩
    rw [ht] at h3 ⊢
    clear h hc e hq hn hN hcs hne h0 h1 h2 h4 ht hlt
    go_enter Tryd.func47, Tryd.ntmps47
    go_wp2
    go_ret
    exact ⟨rfl, rfl⟩
/-- The token that is taken, if it is of one of these kinds. -/
def tkA (L : List Tk) (n : Nat) (ks : List Int) : Option Tk := (L[n]?).bind fun t => if t.k ∈ ks then some t else none
def zTk : Tk := ⟨0, ⟨#[]⟩, 0, 0, 0⟩
theorem ret_tkA {fn : Func} (hf : fn.results = #[.cell 4 43, .tmp 5]) (tmps : Array Value) (w : World) (g : Nat) (t : Tk) (b : Value)
    (h4 : tmps[4]?.getD undef = .pointer (some ⟨g, 0, none⟩)) (h5 : tmps[5]?.getD undef = b) (h : BlkK w g #[.int .i64 t.k, .string t.x, .int .i64 t.n, .int .i64 t.a, .int .i64 t.e] 43) : (results fn tmps).run Tryd.prog w = .ok (.tuple #[t.v, b]) w := by
  have c0 := cell8 h 0 _ rfl
  have c1 := cell8 h 1 _ rfl
  have c2 := cell8 h 2 _ rfl
  have c3 := cell8 h 3 _ rfl
  have c4 := cell8 h 4 _ rfl
  simp [results, hf, h4, h5, go_sem, c0, c1, c2, c3, c4]
theorem endTk {fn : Func} {a : Act} {wx : World} {tmps : Array Value} {g : Nat} {t : Tk} {b : Bool} {Q : Ending → World → Prop} (hf : fn.results = #[.cell 4 43, .tmp 5]) (ha : a = ⟨tmps, []⟩) (h4 : tmps[4]?.getD undef = .pointer (some ⟨g, 0, none⟩)) (h5 : tmps[5]?.getD undef = .bool b)
    (hd : BlkK wx g #[.int .i64 t.k, .string t.x, .int .i64 t.n, .int .i64 t.a, .int .i64 t.e] 43) (hq : Q (.returned (.tuple #[t.v, .bool b])) wx) : bodyPost Tryd.prog fn Q .ret a wx := by
  subst ha
  exact bodyPost_ret (ret_tkA hf _ _ g _ _ h4 h5 hd) rfl hq
theorem OvA.next {W : World} {B : Nat} {v : Value} {L : List Tk} {len : Int} {n : Nat} (h : OvA W B v L len n) (hlt : n < L.length) : OvA (W.setCell ⟨B + 2, 0, none⟩ (.int .i64 ((n : Int) + 1))) B v L len (n + 1) ∧ Fr (fun b => b = B + 2) W (W.setCell ⟨B + 2, 0, none⟩ (.int .i64 ((n : Int) + 1))) := by
  have hf : Fr (fun b => b = B + 2) W (W.setCell ⟨B + 2, 0, none⟩ (.int .i64 ((n : Int) + 1))) := (Fr.refl _ W).set (Or.inl rfl)
  refine ⟨⟨h.k.fr (Nat.le_of_lt h.l.lt) hf fun x hx => by omega, h.l.other (by omega), h.z.other (by omega), ?_, hlt⟩, hf⟩
  have := heap_setCell_same _ _ 0 _ _ (.int .i64 ((n : Int) + 1)) h.x
  exact this
def TkQ (W : World) (B : Nat) (v : Value) (L : List Tk) (len : Int) (n : Nat) (ks : List Int) (e : Ending) (W' : World) : Prop :=
  e = .returned (.tuple #[((tkA L n ks).getD zTk).v, .bool (tkA L n ks).isSome]) ∧ OvA W' B v L len (n + if (tkA L n ks).isSome = true then 1 else 0) ∧ Fr (fun b => b = B + 2) W W'
set_option maxRecDepth 20000 in
set_option maxHeartbeats 2000000 in
theorem takeA_any {W : World} {B : Nat} {v : Value} {L : List Tk} {len : Int} {n : Nat} (h : OvA W B v L len n) (hL : L.length ≤ 9000000) (kb ko kc : Nat) (ks : List Int) (hk : IntsA W kb ko ks) (hks : ks.length ≤ 100) :
    Calls Tryd.prog 46 #[.slice (some ⟨kb, ko, none⟩) ks.length kc, .pointer (some ⟨B + 2, 0, none⟩), .pointer (some ⟨B, 0, none⟩)] W (TkQ W B v L len n ks) := by
  have HV := hm7 h
  obtain ⟨a, cap, rfl, hc⟩ := h.k
  obtain ⟨N, hN⟩ : ∃ N, L.length = N := ⟨_, rfl⟩
  have hn := h.n
  have hb0 := below1K W (.cells #[.int .i64 0, .string ⟨#[]⟩, .int .i64 0, .int .i64 0, .int .i64 0] 43)
  have hr0 := BlkK.new W #[.int .i64 0, .string ⟨#[]⟩, .int .i64 0, .int .i64 0, .int .i64 0] 43
  obtain ⟨W0, hW0⟩ : ∃ X, W.alloc (.cells #[.int .i64 0, .string ⟨#[]⟩, .int .i64 0, .int .i64 0, .int .i64 0] 43) = X := ⟨_, rfl⟩
  rw [hW0] at hb0 hr0
  have hv0 := h.later hb0
  have c0 := cell8 hv0.l 0 _ rfl
  have c2 := cell8 hv0.x 0 _ rfl
  have f2 := froz8 hv0.x
  have d0 := cell8 hr0 0 _ rfl
  have d1 := cell8 hr0 1 _ rfl
  have d2 := cell8 hr0 2 _ rfl
  have d3 := cell8 hr0 3 _ rfl
  have d4 := cell8 hr0 4 _ rfl
  have d5 := froz8 hr0
  have HR := hm7 hr0
  have HB := hm7 hb0
  have HV0 := hm7 hv0
  have HX := hm7 (show B + 2 < W.heap.size from h.x.lt)
  rw [hN] at c0 hn hL
  by_cases hq : n = N
  · have e : tkA L n ks = none := by unfold tkA; rw [List.getElem?_eq_none (by omega)]; rfl
    have e1 : ((n : Int) == (N : Int)) = true := by rw [beq_iff_eq]; omega
    have HE := hm7 e
    clear h hc e hq hn hN hv0 hb0 hr0 hk
    go_enter Tryd.func46, Tryd.ntmps46
    go_wp2
    refine endTk (t := zTk) (b := false) (g := W.heap.size) rfl rfl rfl rfl (store5K HR.out) ⟨by rw [HE.out]; rfl, ?_, ?_⟩
    · rw [HE.out]
      exact HV.out.later (below5 HB.out (Nat.le_refl _) _ _ _ _ _)
    · exact Fr.of (below5 HB.out (Nat.le_refl _) _ _ _ _ _)
  · have hlt : n < L.length := by omega
    have e1 : ((n : Int) == (N : Int)) = false := by rw [beq_eq_false_iff_ne]; omega
    have hne : L ≠ [] := fun e => by rw [e] at hlt; simp at hlt
    obtain ⟨b, o, rfl, hbB, hcs⟩ := hc.resolve_left hne
    have hfc : ∀ q u, W.cell? ⟨b, q, none⟩ = some u → W0.cell? ⟨b, q, none⟩ = some u := fun q u hu => (Fr.of (P := fun _ => False) hb0).cell (by have := h.l.lt; omega) (fun x => x) hu
    obtain ⟨h0, h1, h2, h3, h4⟩ := hcs n L[n] (List.getElem?_eq_getElem hlt)
    replace h0 := hfc _ _ h0
    replace h1 := hfc _ _ h1
    replace h2 := hfc _ _ h2
    replace h3 := hfc _ _ h3
    replace h4 := hfc _ _ h4
    have i1 : (n : Int) < (N : Int) := by omega
    have i2 : (0 : Int) ≤ (n : Int) := by omega
    have e : tkA L n ks = if L[n].k ∈ ks then some L[n] else none := by unfold tkA; rw [List.getElem?_eq_getElem hlt]; rfl
    obtain ⟨t, ht⟩ : ∃ t, L[n] = t := ⟨_, rfl⟩
    rw [ht] at h0 h1 h2 h3 h4 e
    have hkc : IntsA W0 kb ko ks := by
      subst hW0
      intro i y hi
      have hy := hk i y hi
      rw [World.cell?_of_block (w := W) (a := ⟨kb, ko + i, none⟩) (hb0.block kb (World.block_lt_of_cell? W _ hy))]
      exact hy
    have HCO : Hid (Calls Tryd.prog 34 #[.slice (some ⟨kb, ko, none⟩) ks.length kc, .int .i64 t.k] W0 fun e w' => e = .returned (.bool (decide (t.k ∈ ks))) ∧ w' = W0) := containsI_any kb ko kc ks t.k W0 hkc hks
    have HE := hm7 e
    have HLT := hm7 hlt
    have HNN := hm7 hN
    have HTT : Hid (L[n] = t) := ht
    clear h hc e hq hn hN hv0 hb0 hr0 hk hne hfc hkc hcs hbB ht
    by_cases hm : t.k ∈ ks
    · rw [decide_eq_true hm] at HCO
      rw [if_pos hm] at HE
      have j1 : (n : Int) + 1 ≤ 9000001 := by omega
      have j2 : wrap64 ((n : Int) + 1) = (n : Int) + 1 := by unfold wrap64; omega
      have j3 : wrap64 ((n : Int) + 1 - 1) = (n : Int) := by unfold wrap64; omega
      clear hm
      go_enter Tryd.func46, Tryd.ntmps46
      go_upto_region 4 with (go_at_call 34; refine HCO.out.mono ?_; rintro e w1 ⟨rfl, rfl⟩)
      obtain ⟨hv1, hf1⟩ := HV0.out.next HLT.out
      have hr1 := HR.out.frL hf1 (by have := HX.out; omega)
      revert hv1 hf1 hr1
      generalize World.setCell _ _ _ = W1
      intro hv1 hf1 hr1
      have y0 := cell8 hv1.l 0 _ rfl
      have y2 := cell8 hv1.x 0 _ rfl
      have y3 : ((n + 1 : Nat) : Int) = (n : Int) + 1 := by omega
      rw [y3] at y2
      rw [HNN.out] at y0
      obtain ⟨a', cap', hv', hc'⟩ := hv1.k
      have hne : L ≠ [] := fun e => by have := HLT.out; rw [e] at this; simp at this
      obtain ⟨b', o', ha', -, hcs⟩ := hc'.resolve_left hne
      subst ha'
      cases hv'
      obtain ⟨h0, h1, h2, h3, h4⟩ := hcs n t (by rw [List.getElem?_eq_getElem HLT.out]; exact congrArg some HTT.out)
      clear hcs hc' hne
      have d0 := cell8 hr1 0 _ rfl
      have d1 := cell8 hr1 1 _ rfl
      have d2 := cell8 hr1 2 _ rfl
      have d3 := cell8 hr1 3 _ rfl
      have d4 := cell8 hr1 4 _ rfl
      have d5 := froz8 hr1
      have HV1 := hm7 hv1
      have HF1 := hm7 hf1
      have HR1 := hm7 hr1
      clear hv1 hf1 hr1
      go_wp2
      refine endTk (t := t) (b := true) (g := W.heap.size) rfl rfl rfl rfl (store5K HR1.out) ⟨by rw [HE.out]; rfl, ?_, ?_⟩
      · rw [HE.out]
        exact HV1.out.fr (P := fun b => b = W.heap.size) (by exact (((((Fr.refl (fun b => b = W.heap.size) W1).set (Or.inl rfl)).set (Or.inl rfl)).set (Or.inl rfl)).set (Or.inl rfl)).set (Or.inl rfl)) fun x hx => by have := HX.out; omega
      · have hf : Fr (fun b => b = B + 2) W W1 := (Fr.of HB.out).tr HF1.out
        exact ((((hf.set (Or.inr (Nat.le_refl _))).set (Or.inr (Nat.le_refl _))).set (Or.inr (Nat.le_refl _))).set (Or.inr (Nat.le_refl _))).set (Or.inr (Nat.le_refl _))
    · rw [decide_eq_false hm] at HCO
      rw [if_neg hm] at HE
      clear hm
      go_enter Tryd.func46, Tryd.ntmps46
      go_wp2_with (go_at_call 34; refine HCO.out.mono ?_; rintro e w1 ⟨rfl, rfl⟩)
      refine endTk (t := zTk) (b := false) (g := W.heap.size) rfl rfl rfl rfl (store5K HR.out) ⟨by rw [HE.out]; rfl, ?_, ?_⟩
      · rw [HE.out]
        exact HV.out.later (below5 HB.out (Nat.le_refl _) _ _ _ _ _)
      · exact Fr.of (below5 HB.out (Nat.le_refl _) _ _ _ _ _)
end Go.Proofs.YtdfdnjkeiddfjaaDoor

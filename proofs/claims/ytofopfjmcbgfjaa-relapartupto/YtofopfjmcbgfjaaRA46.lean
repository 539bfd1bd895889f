import Derived.Test.YtofopfjmcbgfjaaRB0
import Derived.Sort.QuietIn
import Derived.Test.YtofopfjmcbgfjaaRA27
import Derived.Test.YtofopfjmcbgfjaaRA24
/-
  A region that draws its order and only reads, inside a round of a range over a function; marks of ranges that are behind.
-/
namespace Go.Proofs.Ytofopfjmcbgfjaa
open Go.RowKit Go.Shelf
section
variable {F : Fence} {n : Nat} {P : Program} {ops : Array Oper} {C : World → Prop} {md : Region.Mode}
/-- No operation of it is a defer statement. -/
def plainOps (ops : Array Oper) : Bool := ops.toList.all fun o => match o.op with | .defer _ => false | _ => true
theorem plainOps_get {i : Nat} {o : Oper} (h : plainOps ops = true) (ho : ops[i]? = some o) : ∀ c, o.op ≠ .defer c := by
  intro c hc
  have h1 := List.all_eq_true.1 h o (by rw [← Array.getElem?_toList] at ho; exact List.mem_of_getElem? ho)
  rw [hc] at h1
  cases h1
theorem wpIn_of_quiet8 {o : Oper} {a : Act} {K : Act → Prop} {K' : Act → World → Prop} {Q' : Exit → Act → World → Prop} {w : World} (hnd : ∀ c, o.op ≠ .defer c) (hw : C w) (h : ∀ a w', C w' → K a → K' a w')
    (ha : o.askedIn F P a C) (hh : o.quietIn F n P a C K) : o.wpIn F n P a w K' Q' := by
  obtain ⟨v, h1, h2⟩ := hh
  have h3 := h1 w hw
  unfold Oper.quietAtIn at h3
  unfold Oper.wpIn
  refine ⟨ha w hw, ?_⟩
  rw [Oper.semAt_eq _ _ _ hnd]
  generalize (execOp a.eval o).run P w = r at *
  cases r with
  | ok x w' =>
    cases x <;> simp only [Oper.quietUponIn] at h3 <;> simp only [Oper.uponIn]
    case value u =>
      obtain ⟨e1, e2⟩ := h3
      rw [e1, e2]
      exact h _ _ hw h2
    case skip =>
      obtain ⟨e1, e2⟩ := h3
      rw [e1, ← e2]
      exact h _ _ hw h2
    case enter f args =>
      obtain ⟨e1, hd, hc⟩ := h3
      rw [e1]
      exact ⟨hd, hc.mono fun e w'' ⟨he, hw''⟩ => by subst he; exact h _ _ hw'' h2⟩
  | halt x w' => simp only [Oper.quietUponIn] at h3
theorem wpOpIn_of_q8 {i : Nat} {a : Act} {K : Act → Prop} {K' : Act → World → Prop} {Q' : Exit → Act → World → Prop} {w : World} (hnd : plainOps ops = true) (hC : C w) (h : ∀ a w', C w' → K a → K' a w')
    (hh : qOpIn F n P ops C i K a) : wpOpIn F n P ops Q' i K' a w := by
  unfold qOpIn at hh
  unfold wpOpIn
  split
  · rename_i ho; simp only [ho] at hh; exact h _ _ hC hh
  · rename_i o ho
    simp only [ho] at hh
    obtain ⟨ha, hh⟩ := hh
    split
    · rename_i hw; simp only [hw, if_true] at hh; exact wpIn_of_quiet8 (plainOps_get hnd ho) hC h ha hh
    · rename_i hw; simp only [hw] at hh; exact ⟨ha w hC, h _ _ hC hh⟩
theorem wpAnyIn_of_quiet8 {Q : Act → Prop} {Q' : Exit → Act → World → Prop} (hnd : plainOps ops = true) (hQ : ∀ a w, C w → Q a → Q' .normal a w) : ∀ (fuel : Nat) (listed : Array Bool) (a : Act) (w : World), C w →
    wpAnyQIn F n P md ops C Q fuel listed a → wpAnyIn F n P md ops Q' fuel listed a w
  | 0, _, _, _, hw, h => ⟨h.1, hQ _ _ hw h.2⟩
  | fuel + 1, _, _, _, hw, h => ⟨fun h0 => hQ _ _ hw (h.1 h0), fun i hi => wpOpIn_of_q8 hnd hw (fun a' w' hw' => wpAnyIn_of_quiet8 hnd hQ fuel _ a' w' hw') (h.2 i hi)⟩
theorem wpIn_region_quiet8 {id : Nat} {Q : Exit → Act → World → Prop} {a : Act} {w : World} {l : List Oper} (hnd : plainOps l.toArray = true) (hm : P.follows .mixedOrders = true) (hB : Region.lexB .any l.toArray = true)
    (h : wpQuietIn F n P l.toArray (fun w' => ∃ n, w' = w.drewN n) (fun a' => ∀ w', (∃ n, w' = w.drewN n) → Q .normal a' w') l a) : (Code.region id l.toArray true).wpIn F n P Q a w := by
  simp only [Region.lexB, Bool.and_eq_true] at hB
  refine wpIn_region_any hm (wpAnyIn_of_quiet8 (C := fun w' => ∃ n, w' = w.drewN n) (Q := fun a' => ∀ w', (∃ n, w' = w.drewN n) → Q .normal a' w') hnd (fun _ w' hw' h => h w' hw') _ _ _ _ ⟨1, rfl⟩ ?_)
  have := wpAnyQIn_lex (F := F) (n := n) (C := fun w' => ∃ n, w' = w.drewN n) (md := .any) hB.1 l 0 (Array.replicate l.toArray.size false) a (by simp) (by simpa using hB.2) h
  simpa using this
end
/-- The marks that a function has laid: each in a block of its own, with no call in it. -/
def mk7 (Es : List Nat) : List Deferred := Es.map fun E => { target := .collected E, args := #[] }
structure Mk7 (X : World) (Es : List Nat) : Prop where
  nd : Es.Nodup
  bl : ∀ E ∈ Es, X.heap[E]? = some (.deferred (some []))
theorem Mk7.lt {X : World} {Es : List Nat} (h : Mk7 X Es) : ∀ E ∈ Es, E < X.heap.size := fun E hE => (Array.getElem?_eq_some_iff.1 (h.bl E hE)).1
theorem Mk7.same {X Y : World} {Es : List Nat} (h : Mk7 X Es) (hs : ∀ E ∈ Es, Y.heap[E]? = X.heap[E]?) : Mk7 Y Es := ⟨h.nd, fun E hE => (hs E hE).trans (h.bl E hE)⟩
theorem Mk7.cons {E : Nat} {X : World} {Es : List Nat} (h : Mk7 X Es) (hn : E ∉ Es) (hE : X.heap[E]? = some (.deferred (some []))) : Mk7 X (E :: Es) :=
  ⟨List.nodup_cons.2 ⟨hn, h.nd⟩, fun e he => by rcases List.mem_cons.1 he with rfl | he; exact hE; exact h.bl e he⟩
theorem leaves7 {F : Fence} {n : Nat} {P : Program} {fn : Func} {tmps : Array Value} {R : Ending → World → Prop} {B : Nat} (G : World → Prop)
    (hG : ∀ X E, G X → B ≤ E → X.heap[E]? = some (.deferred (some [])) → G (X.putObj E (.deferred none)))
    (hR : ∀ X, G X → LeavesIn F n P fn tmps R [] .returning X) : ∀ (Es : List Nat) (X : World), Mk7 X Es → (∀ E ∈ Es, B ≤ E) → G X → LeavesInM F n P fn tmps R (mk7 Es) .returning X
  | [], X, _, _, h => hR X h
  | E :: Es, X, hm, hl, h => by
    have hE := hm.bl E (List.mem_cons_self ..)
    refine ⟨by simp, .inl ⟨E, _, rfl, run_takeDeferred hE, ?_⟩⟩
    have hnd := List.nodup_cons.1 hm.nd
    refine leaves7 G hG hR Es _ ⟨hnd.2, fun e he => ?_⟩ (fun e he => hl e (List.mem_cons_of_mem _ he)) (hG X E h (hl E (List.mem_cons_self ..)) hE)
    rw [World.putObj_heap_other (fun e' => by subst e'; exact hnd.1 he)]
    exact hm.bl e (List.mem_cons_of_mem _ he)
/-- Left as it should be, or not at all. -/
def NQ (R : Act → World → Prop) : Exit → Act → World → Prop
  | .normal, a, w => R a w
  | _, _, _ => False
/-- A frame of so many slots, written out. -/
theorem arr_of (n : Nat) (tmps : Array Value) (h : tmps.size = n) : ∃ f : Nat → Value, tmps = ((List.range n).map f).toArray ∧ ∀ i, i < n → tmps[i]? = some (f i) := by
  refine ⟨fun i => tmps[i]?.getD undef, ?_, fun i hi => ?_⟩
  · apply Array.ext
    · simp [h]
    · intro i h1 h2
      simp [h1]
  · have h1 : tmps[i]? = some (tmps[i]'(by omega)) := Array.getElem?_eq_getElem (by omega)
    simp only [h1, Option.getD_some]
/-- What a cell of the call's own holds, told by a result. -/
theorem ret_bc7 {fn : Func} {i : Nat} (hf : fn.results = #[.cell i 4]) (tmps : Array Value) (w : World) (g : Nat) (v : Bool)
    (h4 : tmps[i]?.getD undef = .pointer (some ⟨g, 0, none⟩)) (hg : w.cell? ⟨g, 0, none⟩ = some (.bool v)) : (results fn tmps).run Try.prog w = .ok (.bool v) w := by
  simp [results, hf, h4, go_sem, hg]
/-- A list of rows that lies in blocks of X. -/
def LX (X : Nat → Prop) (w : World) (v : Value) (P : List (List Int × Value)) : Prop :=
  ∃ a cap, v = .slice a P.length cap ∧ (P = [] ∨ ∃ b o, a = some ⟨b, o, none⟩ ∧ X b ∧ b < w.heap.size ∧ ∀ (i : Nat) p, P[i]? = some p → w.cell? ⟨b, o + i, none⟩ = some p.2) ∧ ∀ p ∈ P, Li X w p.2 p.1
theorem LX.same {X : Nat → Prop} {w w' : World} {v : Value} {P : List (List Int × Value)} (h : LX X w v P) (hs : w.heap.size ≤ w'.heap.size) (hx : ∀ b, X b → b < w.heap.size → w'.heap[b]? = w.heap[b]?) : LX X w' v P := by
  obtain ⟨a, cap, rfl, h1, h2⟩ := h
  refine ⟨a, cap, rfl, h1.imp id ?_, fun p hp => (h2 p hp).same hs hx⟩
  rintro ⟨b, o, rfl, hX, hl, hc⟩
  exact ⟨b, o, rfl, hX, by omega, fun i p hp => by rw [World.cell?_of_block (w := w) (a := ⟨b, o + i, none⟩) (hx b hX hl)]; exact hc i p hp⟩
theorem LX.mono {X Y : Nat → Prop} {w : World} {v : Value} {P : List (List Int × Value)} (h : LX X w v P) (hx : ∀ b, b < w.heap.size → X b → Y b) : LX Y w v P := by
  obtain ⟨a, cap, rfl, h1, h2⟩ := h
  refine ⟨a, cap, rfl, h1.imp id ?_, fun p hp => (h2 p hp).mono hx⟩
  rintro ⟨b, o, rfl, hX, hl, hc⟩
  exact ⟨b, o, rfl, hx b hl hX, hl, hc⟩
theorem LX.rn {X : Nat → Prop} {w : World} {v : Value} {P : List (List Int × Value)} (h : LX X w v P) : Rn7 w v P := by
  obtain ⟨a, cap, rfl, h1, h2⟩ := h
  refine ⟨a, cap, rfl, h1.imp id ?_, fun p hp => (h2 p hp).any⟩
  rintro ⟨b, o, rfl, -, hl, hc⟩
  exact ⟨b, o, rfl, hl, hc⟩
theorem OL.lx {w : World} {B : Nat} {v : Value} {P : List (List Int × Value)} (h : OL w B v P) : LX (fun b => B ≤ b ∧ b < w.heap.size) w v P := by
  obtain ⟨a, cap, e, h1, h2⟩ := h.rn
  refine ⟨a, cap, e, h1.imp id ?_, fun p hp => (h.l p hp).mono fun b hl hb => ⟨hb.1, hl⟩⟩
  rintro ⟨b, o, rfl, hl, hc⟩
  subst e
  refine ⟨b, o, rfl, ⟨?_, hl⟩, hl, hc⟩
  cases P with
  | nil =>
    rcases h.o.2 with ⟨hv, -⟩ | ⟨g, cap', cur, hv, hb, hg, hn, hc', hs, ht⟩
    · simp at hv
    · simp at hv; omega
  | cons p P' =>
    obtain ⟨b', e, hb', -⟩ := row7_at h.o (i := 0) (u := p.2) rfl
    cases e
    exact hb'
end Go.Proofs.Ytofopfjmcbgfjaa
/-
  law 7: fits.
-/
namespace Go.Proofs.Ytofopfjmcbgfjaa
open Go.RowKit
attribute [local go_sem ↓] Go.wp_at_zero Go.wp_at_succ

/-- What one column asks of a row. -/
def ask8 (row : List Int) (p : Int × Int) : Bool := decide (0 ≤ p.1 ∧ p.1 < (row.length : Int) ∧ row[p.1.toNat]?.getD 0 = p.2)
theorem fits8_no {cols keys row : List Int} {j : Nat} {c k : Int} (hc : cols[j]? = some c) (hk : keys[j]? = some k) (h : ask8 row (c, k) = false) : fits8 cols keys row = false := by
  have hz : (c, k) ∈ cols.zip keys := List.mem_of_getElem? (i := j) (by rw [List.getElem?_zip_eq_some]; exact ⟨hc, hk⟩)
  unfold fits8
  rw [Bool.and_eq_false_iff]
  right
  rw [List.all_eq_false]
  exact ⟨_, hz, by unfold ask8 at h; rw [h]; simp⟩
theorem fits8_yes {cols keys row : List Int} {n : Nat} (hl : cols.length = keys.length) (hn : (cols.zip keys).length ≤ n) (h : ∀ p ∈ (cols.zip keys).take n, ask8 row p = true) : fits8 cols keys row = true := by
  unfold fits8
  rw [decide_eq_true hl, Bool.true_and, List.all_eq_true]
  intro p hp
  exact h p (by rw [List.take_of_length_le hn]; exact hp)
set_option maxRecDepth 20000 in
set_option maxHeartbeats 600000 in
theorem fits7_any (F G N : Nat → Prop) (row cols keys : List Int) (rv cv kv : Value) (w : World) (hr : Li F w rv row) (hc : Li G w cv cols) (hk : Li N w kv keys) :
    Calls Try.prog 14 #[rv, cv, kv] w fun e w' => e = .returned (.bool (fits8 cols keys row)) ∧ ∃ n, w' = w.drewN n := by
  obtain ⟨ra, rc, rfl, -, -, -, hr⟩ := hr
  obtain ⟨ca, cc, rfl, g1, g2, -, hc⟩ := hc
  obtain ⟨ka, kc, rfl, -, -, -, hk⟩ := hk
  obtain ⟨rn, hrn⟩ : ∃ n, row.length = n := ⟨_, rfl⟩
  obtain ⟨n, hn⟩ : ∃ n, cols.length = n := ⟨_, rfl⟩
  obtain ⟨n', hn'⟩ : ∃ n, keys.length = n := ⟨_, rfl⟩
  have hnb : n ≤ 9223372036854775807 := by omega
  rw [hrn, hn, hn']
  clear g1 g2
  by_cases hnn : n = n'
  · subst hnn
    have HZL : Hid ((cols.zip keys).length = n) := by show _ = _; rw [List.length_zip, hn, hn', Nat.min_self]
    have HLL : Hid (cols.length = keys.length) := by show _ = _; rw [hn, hn']
    go_enter Try.func14, Try.ntmps14
    go_wp2
    go_loopg [7] n (fun gg i wr => ∃ j m : Nat, j + gg = n ∧ i = .int .i64 j ∧ wr = w.drewN m ∧ ∀ p ∈ (cols.zip keys).take j, ask8 row p = true)
    case atStart => exact ⟨0, 0, by omega, rfl, rfl, by simp⟩
    case round =>
      obtain ⟨j, m, hj, rfl, rfl, hall⟩ := hrel
      have HA := hm7 hall
      clear hall
      cases gk with
      | succ gg =>
        have hlt : (j : Int) < (n : Int) := by omega
        have j0 : (0 : Int) ≤ (j : Int) := by omega
        obtain ⟨c, hcj⟩ : ∃ c, cols[j]? = some c := ⟨_, List.getElem?_eq_getElem (by omega)⟩
        obtain ⟨k, hkj⟩ : ∃ c, keys[j]? = some c := ⟨_, List.getElem?_eq_getElem (by omega)⟩
        rcases hc with ⟨hc, -⟩ | ⟨b1, o1, rfl, -, -, hc⟩
        · rw [hc] at hcj; simp at hcj
        rcases hk with ⟨hk, -⟩ | ⟨b2, o2, rfl, -, -, hk⟩
        · rw [hk] at hkj; simp at hkj
        have p0 := hc j c hcj
        have q0 := hk j k hkj
        have HJ := hm7 (And.intro hcj hkj)
        clear hc hk hcj hkj
        by_cases i1 : c < 0
        · have HF : Hid (fits8 cols keys row = false) := fits8_no HJ.out.1 HJ.out.2 (decide_eq_false (by simp; omega))
          have hd1 : decide (c < 0) = true := decide_eq_true i1
          clear hr
          go_wp2
          go_quiet (fail)
          go_wp2
          go_ret
          exact ⟨by rw [HF.out]; rfl, _, by rw [World.drewN_drewN]⟩
        · have hd1 : decide (c < 0) = false := decide_eq_false i1
          by_cases i2 : (rn : Int) ≤ c
          · have hd2 : decide ((rn : Int) ≤ c) = true := decide_eq_true i2
            have hd3 : decide (c ≥ (rn : Int)) = true := decide_eq_true i2
            have HF : Hid (fits8 cols keys row = false) := fits8_no HJ.out.1 HJ.out.2 (decide_eq_false (by simp; omega))
            clear hr
            go_wp2
            go_quiet (fail)
            go_wp2
            go_ret
            exact ⟨by rw [HF.out]; rfl, _, by rw [World.drewN_drewN]⟩
          · obtain ⟨cn, rfl⟩ : ∃ cn : Nat, c = (cn : Int) := ⟨c.toNat, by omega⟩
            obtain ⟨x, hx⟩ : ∃ x, row[cn]? = some x := ⟨_, List.getElem?_eq_getElem (by omega)⟩
            rcases hr with ⟨hr, -⟩ | ⟨b3, o3, rfl, -, -, hr⟩
            · rw [hr] at hx; simp at hx
            have r0 := hr cn x hx
            have i3 : (cn : Int) < (rn : Int) := by omega
            have i4 : (0 : Int) ≤ (cn : Int) := by omega
            have hd2 : decide ((rn : Int) ≤ (cn : Int)) = false := decide_eq_false i2
            have hd3 : decide (rn ≤ cn) = false := decide_eq_false (by omega)
            have HX := hm7 hx
            clear hr hx
            by_cases i5 : x = k
            · subst i5
              go_wp2
              go_quiet (fail)
              go_wp2
              go_roundg gg
              case measure => omega
              case rel =>
                refine ⟨j + 1, _, by omega, by go_num, by first | rfl | rw [World.drewN_drewN], fun p hp => ?_⟩
                rw [take_next7 (y := ((cn : Int), x)) (by rw [List.getElem?_zip_eq_some]; exact HJ.out)] at hp
                rcases List.mem_append.1 hp with hp | hp
                · exact HA.out p hp
                · rw [List.mem_singleton] at hp
                  rw [hp]
                  exact decide_eq_true ⟨i4, by simp only; omega, by simp [HX.out]⟩
            · have HF : Hid (fits8 cols keys row = false) := fits8_no HJ.out.1 HJ.out.2 (decide_eq_false (by simp [HX.out, i5]))
              have hs1 : (x == k) = false := by simpa using i5
              go_wp2
              go_quiet (fail)
              go_wp2
              go_ret
              exact ⟨by rw [HF.out]; rfl, _, by rw [World.drewN_drewN]⟩
      | zero =>
        have hlt : ¬ (j : Int) < (n : Int) := by omega
        have HF : Hid (fits8 cols keys row = true) := fits8_yes HLL.out (n := j) (by have := HZL.out; omega) HA.out
        clear hr hc hk hn hn'
        go_wp2
        go_ret
        exact ⟨by rw [HF.out]; rfl, _, rfl⟩
  · have HF : Hid (fits8 cols keys row = false) := by
      show _ = _
      unfold fits8
      rw [decide_eq_false (by rw [hn, hn']; exact hnn)]; rfl
    have hq : ((n : Int) == (n' : Int)) = false := by simpa using fun e : (n : Int) = n' => hnn (by omega)
    clear hr hc hk hn hn'
    go_enter Try.func14, Try.ntmps14
    go_wp2
    go_ret
    exact ⟨by rw [HF.out]; rfl, 0, rfl⟩
end Go.Proofs.Ytofopfjmcbgfjaa

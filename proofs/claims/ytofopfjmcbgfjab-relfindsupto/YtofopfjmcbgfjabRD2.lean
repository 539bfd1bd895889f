import Derived.Test.YtofopfjmcbgfjabRC2
import Derived.Test.YtofopfjmcbgfjabRB4
import Derived.Maps.AppendAt
import Derived.Laws.OwnMore
/-
  ref 7: Order, copied, place.
-/
namespace Go.Proofs.Ytofopfjmcbgfjab
open Go.RowKit
attribute [local go_sem ↓] Go.wp_at_zero Go.wp_at_succ

theorem cmpR_drop {a b : List Int} {j : Nat} (h : a.take j = b.take j) (hl : j ≤ a.length) (hl' : j ≤ b.length) : cmpR a b = cmpR (a.drop j) (b.drop j) := by
  induction j generalizing a b with
  | zero => simp
  | succ j ih =>
    cases a with
    | nil => simp at hl
    | cons x a =>
      cases b with
      | nil => simp at hl'
      | cons y b =>
        simp only [List.take_succ_cons, List.cons.injEq] at h
        obtain ⟨rfl, h⟩ := h
        simp only [List.length_cons] at hl hl'
        rw [List.drop_succ_cons, List.drop_succ_cons, ← ih h (by omega) (by omega), cmpR, if_pos (by simp [sg7])]
set_option maxRecDepth 20000 in
set_option maxHeartbeats 1000000 in
theorem order7_any (F G : Nat → Prop) (a b : List Int) (u v : Value) (w : World) (h : Li F w u a) (h' : Li G w v b) (hl : a.length = b.length) :
    Calls Try.prog 43 #[u, v] w fun e w' => e = .returned (.int .i64 (cmpR a b)) ∧ ∃ n, w' = w.drewN n := by
  obtain ⟨ad, cap, rfl, g1, g2, -, h⟩ := h
  obtain ⟨ad', cap', rfl, -, -, -, h'⟩ := h'
  obtain ⟨n, hn⟩ : ∃ n, a.length = n := ⟨_, rfl⟩
  have hnb : n ≤ 9223372036854775807 := by omega
  have hn' : b.length = n := by omega
  clear g1 g2 hl
  rw [hn, hn']
  go_enter Try.func43, Try.ntmps43
  go_wp2
  go_loopg [5] n (fun g i wr => ∃ j m : Nat, j + g = n ∧ i = .int .i64 j ∧ a.take j = b.take j ∧ wr = w.drewN m)
  case atStart => exact ⟨0, 0, by omega, rfl, rfl, rfl⟩
  case round =>
    obtain ⟨j, m, hj, rfl, hp, rfl⟩ := hrel
    have HP := hm7 hp
    clear hp
    cases gk with
    | succ g =>
      have hlt : (j : Int) < (n : Int) := by omega
      have j0 : (0 : Int) ≤ (j : Int) := by omega
      have k3 : decide (j < n) = true := decide_eq_true (by omega)
      obtain ⟨x, hx⟩ : ∃ x, a[j]? = some x := ⟨_, List.getElem?_eq_getElem (by omega)⟩
      obtain ⟨y, hy⟩ : ∃ y, b[j]? = some y := ⟨_, List.getElem?_eq_getElem (by omega)⟩
      rcases h with ⟨h, -⟩ | ⟨b1, o1, rfl, hb1, -, h⟩
      · rw [h] at hx; simp at hx
      rcases h' with ⟨h', -⟩ | ⟨b2, o2, rfl, hb2, -, h'⟩
      · rw [h'] at hy; simp at hy
      have p0 := h j x hx
      have q0 := h' j y hy
      have HX := hm7 hx
      have HY := hm7 hy
      have HC : Hid (cmpR a b = if sg7 x y = 0 then cmpR (a.drop (j + 1)) (b.drop (j + 1)) else sg7 x y) := by
        show _ = _
        rw [cmpR_drop HP.out (by omega) (by omega), drop_cons7 hx, drop_cons7 hy, cmpR]
      clear h h' hx hy
      rcases sg7_v x y with ⟨s1, s2⟩ | ⟨s1, s2⟩ | ⟨s1, s2⟩
      · have e1 : decide (x < y) = true := decide_eq_true s2
        rw [s1] at HC
        have HD : Hid (cmpR a b = -1) := by show _ = _; have := HC.out; simpa using this
        go_wp2
        go_quiet (fail)
        go_wp2
        go_ret
        exact ⟨by rw [HD.out]; rfl, _, by first | rfl | rw [World.drewN_drewN]⟩
      · subst s2
        have e1 : decide (x < x) = false := decide_eq_false (by omega)
        have e2 : decide (x > x) = false := decide_eq_false (by omega)
        go_wp2
        go_quiet (fail)
        go_wp2
        go_quiet (fail)
        go_wp2
        go_roundg g
        case measure => omega
        case rel => exact ⟨j + 1, _, by omega, by go_num, take_eq_next HP.out HX.out HY.out, by first | rfl | (rw [World.drewN_drewN]) | (rw [World.drewN_drewN, World.drewN_drewN])⟩
      · have e1 : decide (x < y) = false := decide_eq_false (by omega)
        have e2 : decide (x > y) = true := decide_eq_true s2
        have e3 : decide (y < x) = true := decide_eq_true s2
        rw [s1] at HC
        have HD : Hid (cmpR a b = 1) := by show _ = _; have := HC.out; simpa using this
        go_wp2
        go_quiet (fail)
        go_wp2
        go_quiet (fail)
        go_wp2
        go_ret
        refine ⟨by rw [HD.out]; rfl, ?_⟩
        simp only [World.drewN_drewN]
        exact ⟨_, rfl⟩
    | zero =>
      have hlt : ¬ (j : Int) < (n : Int) := by omega
      have k3 : decide (j < n) = false := decide_eq_false (by omega)
      have HE : Hid (cmpR a b = 0) := by
        have e : a = b := by
          have := HP.out
          rwa [List.take_of_length_le (by omega), List.take_of_length_le (by omega)] at this
        show _ = _
        rw [e]; exact cmpR_refl b
      clear h h' hn hn'
      go_wp2
      go_ret
      exact ⟨by rw [HE.out]; rfl, _, rfl⟩
/-- append of a list of one-cell things that lies anywhere, to a list of the call's own. -/
theorem gappM {T e : TypeId} {z : Value} {by_ : Nat} (hT : Try.prog.underlying T = some (.slice e)) (hI : (Try.prog.info? e).map (fun i => (i.zero, i.size, i.bytes)) = some (some z, 1, by_)) (hz : z.cells.size = 1) (hby : by_ ≤ 100)
    {ops : Array Oper} {rest : List Oper} {o : Oper} {a : Act} {Q : Exit → Act → World → Prop} {w : World} (hgd : o.guard = none) (s x : Operand)
    (ho : o.op = .call { callee := .builtin .append, args := #[s, x], argTypes := #[T, T] }) (base : Nat) (v : Value) (n : Nat) (l : List Value) (hs : a.eval s = v) (hown : w.ownsRow base e 1 v n l)
    (xv : Value) (m : Nat) (news : List Value) (hx : a.eval x = xv) (hsrc : (xv = .slice none 0 0 ∧ m = 0 ∧ news = []) ∨ ∃ (ad : Addr) (c : Nat), xv = .slice (some ad) m c ∧ news.length = m ∧ ∀ (j : Nat) u, news[j]? = some u → w.cell? (ad.add j) = some u) (h1c : ∀ u ∈ news, u.oneCell' = true) (hlen : n + m ≤ 1000000000000) (hbase : base ≤ w.heap.size)
    (h : ∀ v' w', w'.ownsRow base e 1 v' (n + m) (l ++ news) → w.grownBy w' v.ownBlock → (v'.ownBlock = v.ownBlock ∨ v'.ownBlock = some w.heap.size) → wpList Try.prog ops Q rest (a.put o.dst v') w') : wpList Try.prog ops Q (o :: rest) a w := by
  obtain ⟨i, hi, h0, h1, h2⟩ := info7 hI
  have key : ∃ v' w', (Builtin.append_ #[T, T] o.type #[v, xv]).run Try.prog w = .ok v' w' ∧ w'.ownsRow base e 1 v' (n + m) (l ++ news) ∧ w.grownBy w' v.ownBlock ∧ (v'.ownBlock = v.ownBlock ∨ v'.ownBlock = some w.heap.size) := by
    rcases hsrc with ⟨rfl, rfl, rfl⟩ | ⟨ad, c, rfl, hnl, hc⟩
    · exact ⟨v, w, run_append_owned_none (P := Try.prog) w base T o.type e i 1 hT hi v n l hown, by rw [List.append_nil]; exact hown, ⟨rfl, rfl, rfl, Nat.le_refl _, fun _ _ _ => rfl⟩, Or.inl rfl⟩
    · obtain ⟨v', w', k1, k2, k3, -, k5⟩ := run_append_own_at (P := Try.prog) w base T o.type e i z 1 by_ hT hi h0 h1 h2 hz (by omega) v n l hown ad m c news (by omega) hc h1c (by unfold maxLen; omega) (Nat.le_trans (Nat.mul_le_mul hlen hby) (by decide)) hbase
      exact ⟨v', w', k1, k2, k3, k5⟩
  obtain ⟨v', w', hrun, r1, r2, r3⟩ := key
  refine wpList_plain hgd fun K hK => ?_
  simp [Oper.wp, execOp, ho, resolve, invoke, builtin, hs, hx, hrun, Result.andThen]
  exact hK _ _ (h v' w' r1 r2 r3)
theorem li_src {F : Nat → Prop} {w : World} {v : Value} {l : List Int} (h : Li F w v l) : (v = .slice none 0 0 ∧ l.length = 0 ∧ ibs7 l = []) ∨ ∃ (ad : Addr) (c : Nat), v = .slice (some ad) l.length c ∧ (ibs7 l).length = l.length ∧ ∀ (j : Nat) u, (ibs7 l)[j]? = some u → w.cell? (ad.add j) = some u := by
  obtain ⟨a, cap, rfl, h1, h2, h3, h4⟩ := h
  rcases h4 with ⟨rfl, h4⟩ | ⟨b, o, rfl, -, -, h4⟩
  · cases a with
    | none => exact Or.inl ⟨by rw [h4 rfl]; rfl, rfl, rfl⟩
    | some a => exact Or.inr ⟨a, cap, rfl, rfl, by simp [ibs7]⟩
  · refine Or.inr ⟨⟨b, o, none⟩, cap, rfl, ibs7_len l, fun j u hj => ?_⟩
    simp only [ibs7, List.getElem?_map, Option.map_eq_some_iff] at hj
    obtain ⟨x, hx, rfl⟩ := hj
    rw [Go.WideShapes.add_plain]
    exact h4 j x hx
theorem ibs7_one (l : List Int) : ∀ u ∈ ibs7 l, u.oneCell' = true := fun u hu => by
  simp only [ibs7, List.mem_map] at hu
  obtain ⟨x, -, rfl⟩ := hu
  rfl
set_option maxRecDepth 20000 in
theorem copied7_any (F : Nat → Prop) (v : Value) (l : List Int) (w : World) (h : Li F w v l) (hl : l.length ≤ 100000000000) :
    Calls Try.prog 33 #[v] w fun e w' => ∃ v', e = .returned v' ∧ OwI w' w.heap.size v' l ∧ Below w.heap.size w w' := by
  have HS := hm7 (li_src h)
  obtain ⟨a, cap, rfl, -⟩ := h
  obtain ⟨n, hn⟩ : ∃ n, l.length = n := ⟨_, rfl⟩
  rw [hn] at HS hl ⊢
  have HN := hm7 hn
  clear hn
  go_enter Try.func33, Try.ntmps33
  go_wp2_with (at_builtin; refine gappM Try.underlying32 Try.infoInt7 rfl (by omega) rfl _ _ rfl w.heap.size (.slice none 0 0) 0 [] rfl (World.ownsRow_nil _ _ _ _) (.slice a n cap) n (ibs7 l) rfl HS.out (ibs7_one l) (by omega) (Nat.le_refl _) ?_; intro v' w5 ho5 hg5 hv5; have HH5 := hm7 (And.intro ho5 hg5); clear ho5 hg5 hv5)
  go_ret
  refine ⟨v', rfl, ?_, (Fr.grown (P := fun _ => False) HH5.out.2 fun b hb => by cases hb).below fun _ _ h => h⟩
  unfold OwI
  rw [HN.out]
  have := HH5.out.1
  rwa [Nat.zero_add, List.nil_append] at this
end Go.Proofs.Ytofopfjmcbgfjab
/-
  ref 7: its relation in memory; New, place, Part.
-/
namespace Go.Proofs.Ytofopfjmcbgfjab
open Go.RowKit
attribute [local go_sem ↓] Go.wp_at_zero Go.wp_at_succ

/-- The document's relation: its rows in rising order, and in which part each one is. -/
structure RRx (w : World) (T : Nat → Prop) (g : Nat) (s : St7) (av iv : Value) (P : List (List Int × Value)) (Y : World) : Prop where
  ok : s.Ok
  b : Bk Y g #[.int .i64 (s.wd : Int), av, iv] 66
  a : Y.ownsRow (w.heap.size) 32 1 av P.length (P.map Prod.snd)
  i : OwI Y w.heap.size iv ((srt7 s.rows).map (part7 s))
  p : P.map Prod.fst = srt7 s.rows
  r : ∀ p ∈ P, Li (fun b => T b ∧ b ≠ g ∧ iv.ownBlock ≠ some b) Y p.2 p.1
  ta : ∀ b, av.ownBlock = some b → T b
  ti : ∀ b, iv.ownBlock = some b → T b
  tg : T g
  t : ∀ b, T b → w.heap.size ≤ b ∧ b < Y.heap.size
  be : Below w.heap.size w Y
def RR (w : World) (T : Nat → Prop) (g : Nat) (s : St7) (Y : World) : Prop := ∃ av iv P, RRx w T g s av iv P Y
/-- What a call leaves of it. -/
def RPX (w : World) (T : Nat → Prop) (g : Nat) (s : St7) (Y Y' : World) : Prop := Fr T Y Y' ∧ ∃ T' : Nat → Prop, RR w T' g s Y' ∧ ∀ b, T' b → T b ∨ Y.heap.size ≤ b
theorem RRx.fr {w : World} {T P : Nat → Prop} {g : Nat} {s : St7} {av iv : Value} {Q : List (List Int × Value)} {Y Y' : World} (h : RRx w T g s av iv Q Y) (hf : Fr P Y Y') (hP : ∀ b, P b → b < Y.heap.size → w.heap.size ≤ b ∧ ¬ T b) : RRx w T g s av iv Q Y' := by
  have hb : ∀ b, T b → b < Y.heap.size → Y'.heap[b]? = Y.heap[b]? := fun b ht hl => hf.block b hl fun hc => (hP b hc hl).2 ht
  exact ⟨h.ok, h.b.same (hb g h.tg h.b.lt), row7 h.a fun b hb' => hb b (h.ta b hb') (h.a.lt b hb').2, row7 h.i fun b hb' => hb b (h.ti b hb') (World.ownsRow.lt h.i b hb').2, h.p, fun p hp => (h.r p hp).same hf.size fun b hb' hl => hb b hb'.1 hl, h.ta, h.ti, h.tg, fun b hb => ⟨(h.t b hb).1, Nat.lt_of_lt_of_le (h.t b hb).2 hf.size⟩, h.be.trans (Fr.low (Fr.mono hf (Q := fun b => w.heap.size ≤ b) fun b hl hb => (hP b hb hl).1) h.be.size)⟩
theorem RRx.below {w : World} {T : Nat → Prop} {g : Nat} {s : St7} {av iv : Value} {Q : List (List Int × Value)} {Y Y' : World} (h : RRx w T g s av iv Q Y) (hb : Below Y.heap.size Y Y') : RRx w T g s av iv Q Y' := h.fr (P := fun _ => False) (Fr.of hb) fun _ h => h.elim
theorem RR.below {w : World} {T : Nat → Prop} {g : Nat} {s : St7} {Y Y' : World} (h : RR w T g s Y) (hb : Below Y.heap.size Y Y') : RR w T g s Y' := by obtain ⟨av, iv, P, h⟩ := h; exact ⟨av, iv, P, h.below hb⟩
theorem RR.fr {w : World} {T P : Nat → Prop} {g : Nat} {s : St7} {Y Y' : World} (h : RR w T g s Y) (hf : Fr P Y Y') (hP : ∀ b, P b → b < Y.heap.size → w.heap.size ≤ b ∧ ¬ T b) : RR w T g s Y' := by obtain ⟨av, iv, Q, h⟩ := h; exact ⟨av, iv, Q, h.fr hf hP⟩
theorem three7 {w : World} {g : Nat} {a b c : Value} {t : TypeId} (h : Bk w g #[a, b, c] t) : w.cell? ⟨g, 0, none⟩ = some a ∧ w.cell? ⟨g, 1, none⟩ = some b ∧ w.cell? ⟨g, 2, none⟩ = some c := ⟨h.cell (i := 0) rfl, h.cell (i := 1) rfl, h.cell (i := 2) rfl⟩
theorem rnew7_any (w Y : World) (hb : Below w.heap.size w Y) (n : Nat) (hn : n ≤ 9223372036854775807) :
    Calls Try.prog 11 #[.int .i64 (n : Int)] Y fun e Y' => ∃ g, e = .returned (.tuple #[.pointer (some ⟨g, 0, none⟩), .int .i64 0]) ∧ Below Y.heap.size Y Y' ∧ ∃ T, RR w T g (New7 n) Y' ∧ ∀ b, T b → Y.heap.size ≤ b := by
  have i1 : ¬ (n : Int) < 0 := by omega
  have hs := hb.size
  have HB := hm7 hb
  clear hb
  go_enter Try.func11, Try.ntmps11
  go_wp2
  go_ret2
  have hb1 := below1 Y (.cells #[.int .i64 (n : Int), .slice none 0 0, .slice none 0 0] 66)
  refine ⟨Y.heap.size, rfl, hb1, fun b => b = Y.heap.size, ⟨.slice none 0 0, .slice none 0 0, [], ⟨⟨by simp [New7], by simp [New7], by simp [New7], by simp [New7], by simp [New7], by simp [New7], by simp [New7], by simp [New7]; omega⟩, Bk.new _ _ _, World.ownsRow_nil _ _ _ _, (by have e : srt7 (New7 n).rows = [] := List.perm_nil.1 (srt7_perm _); rw [e]; exact World.ownsRow_nil _ _ _ _), (by have e : srt7 (New7 n).rows = [] := List.perm_nil.1 (srt7_perm _); rw [e]; rfl), by simp, (fun b hb => by cases hb), (fun b hb => by cases hb), rfl, fun b hb => by rw [hb]; exact ⟨hs, by simp⟩, HB.out.trans (hb1.mono hs)⟩⟩, fun b hb => by omega⟩
theorem rnew7_no (Y : World) (n : Int) (hn : n < 0) : Calls Try.prog 11 #[.int .i64 n] Y fun e Y' => e = .returned (.tuple #[.pointer none, .int .i64 71]) ∧ Y' = Y := by
  go_enter Try.func11, Try.ntmps11
  go_wp2
  go_ret2
  exact ⟨rfl, rfl⟩
/-- Where a row stands or would stand. -/
structure Pl7 (L : List (List Int)) (r : List Int) (k : Nat) (there : Bool) : Prop where
  le : k ≤ L.length
  lo : ∀ i a, i < k → L[i]? = some a → cmpR a r < 0
  hi : ∀ a, L[k]? = some a → 0 ≤ cmpR a r ∧ (there = true ↔ cmpR a r = 0)
  en : k = L.length → there = false
def PlQ (Y : World) (L : List (List Int)) (r : List Int) (e : Ending) (Y' : World) : Prop := ∃ (k : Nat) (there : Bool), e = .returned (.tuple #[.int .i64 (k : Int), .bool there]) ∧ Pl7 L r k there ∧ ∃ n, Y' = Y.drewN n
set_option maxRecDepth 20000 in
set_option maxHeartbeats 1000000 in
theorem place7_any (w : World) (T G : Nat → Prop) (g : Nat) (s : St7) (v : Value) (r : List Int) (Y : World) (h : RR w T g s Y) (hv : Li G Y v r) (hr : r.length = s.wd) :
    Calls Try.prog 32 #[.pointer (some ⟨g, 0, none⟩), v] Y (PlQ Y (srt7 s.rows) r) := by
  obtain ⟨av, iv, P, h⟩ := h
  have H := hm7 h
  have HV := hm7 hv
  obtain ⟨c0, c1, c2⟩ := three7 h.b
  obtain ⟨aa, ac, ha, -⟩ := row7_form h.a
  obtain ⟨ia, ic, hi, -⟩ := row7_form h.i
  obtain ⟨n, hn⟩ : ∃ n, P.length = n := ⟨_, rfl⟩
  rw [hn] at ha
  generalize ((srt7 s.rows).map (part7 s)).length = inn at hi
  subst ha hi
  obtain ⟨va, vn, vc, rfl⟩ : ∃ a n c, v = .slice a n c := by obtain ⟨a, c, e, -⟩ := hv; exact ⟨_, _, _, e⟩
  have hnb : n ≤ 10000000000 := by
    have h1 := congrArg List.length h.p
    rw [List.length_map, (srt7_perm _).length_eq] at h1
    have := h.ok.c
    omega
  have HLL : Hid ((srt7 s.rows).length = n) := by show _ = _; rw [← h.p, List.length_map, hn]
  have HA : Hid (Y.ownsRow w.heap.size 32 1 (.slice aa n ac) n (P.map Prod.snd)) := by have := h.a; rw [hn] at this; exact this
  have HN := hm7 hn
  clear h hv hn c2
  go_enter Try.func32, Try.ntmps32
  go_wp2
  go_loopg [6, 7] n (fun gg i _ wr => ∃ j m : Nat, j + gg = n ∧ i = .int .i64 j ∧ (∀ i a, i < j → (srt7 s.rows)[i]? = some a → cmpR a r < 0) ∧ wr = Y.drewN m)
  case atStart => exact ⟨0, 0, by omega, rfl, fun i a hi => by omega, rfl⟩
  case round =>
    obtain ⟨j, m, hj, rfl, hp, rfl⟩ := hrel
    have HP := hm7 hp
    clear hp
    cases gk with
    | succ gg =>
      have hlt : (j : Int) < (n : Int) := by omega
      have j0 : (0 : Int) ≤ (j : Int) := by omega
      obtain ⟨p, hpj⟩ : ∃ x, P[j]? = some x := ⟨_, List.getElem?_eq_getElem (by have := HN.out; omega)⟩
      have hpl : (srt7 s.rows)[j]? = some p.1 := by rw [← H.out.p, List.getElem?_map, hpj]; rfl
      have HPL := hm7 hpl
      obtain ⟨b1, rfl, -, -, p0, -⟩ := row7_at HA.out (i := j) (u := p.2) (by rw [List.getElem?_map, hpj]; rfl)
      have hli := H.out.r p (List.mem_of_getElem? hpj)
      have hw : p.1.length = s.wd := H.out.ok.wid p.1 ((srt7_perm _).mem_iff.1 (List.mem_of_getElem? hpl))
      have HC := hm7 (order7_any _ G p.1 r p.2 (.slice va vn vc) (Y.drewN m) (hli.drewN m) (HV.out.drewN m) (by rw [hw, hr]))
      obtain ⟨pa, pc, hpv, -⟩ := hli
      generalize p.1.length = pn at hpv hw
      rw [hpv] at p0 HC
      clear hpj hpl hpv hw
      obtain ⟨c, hc⟩ : ∃ c, cmpR p.1 r = c := ⟨_, rfl⟩
      rw [hc] at HC
      have HCC := hm7 hc
      clear hc
      by_cases hcz : 0 ≤ c
      · go_wp2_with (go_at_call 43; refine HC.out.mono ?_; rintro e w2 ⟨rfl, n2, rfl⟩)
        go_ret2
        refine ⟨j, c == 0, rfl, ⟨by have := HLL.out; omega, HP.out, fun a ha => ?_, fun e => by have := HLL.out; omega⟩, _, rfl⟩
        rw [HPL.out] at ha
        cases ha
        rw [HCC.out]
        exact ⟨hcz, by simp⟩
      · have hcn : ¬ (0 : Int) ≤ c := hcz
        go_wp2_with (go_at_call 43; refine HC.out.mono ?_; rintro e w2 ⟨rfl, n2, rfl⟩)
        go_roundg gg
        case measure => omega
        case rel =>
          refine ⟨j + 1, m + n2, by omega, by go_num, fun i a hi ha => ?_, rfl⟩
          by_cases e : i = j
          · subst e
            rw [HPL.out] at ha
            cases ha
            rw [HCC.out]; omega
          · exact HP.out i a (by omega) ha
    | zero =>
      have hlt : ¬ (j : Int) < (n : Int) := by omega
      obtain rfl : j = n := by omega
      go_wp2
      go_ret2
      refine ⟨j, false, rfl, ⟨by have := HLL.out; omega, HP.out, fun a ha => ?_, fun _ => rfl⟩, _, rfl⟩
      have := (List.getElem?_eq_some_iff.1 ha).1
      have := HLL.out
      omega
end Go.Proofs.Ytofopfjmcbgfjab

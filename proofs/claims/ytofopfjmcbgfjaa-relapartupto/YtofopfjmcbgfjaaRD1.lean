/-
  ref 7: Order, copied, place.
-/
import Derived.Test.YtofopfjmcbgfjaaRC2
import Derived.Test.YtofopfjmcbgfjaaRB2
import Derived.Maps.AppendAt
import Derived.Laws.OwnMore
namespace Go.Proofs.Ytofopfjmcbgfjaa
open Go.RowKit
attribute [local go_sem ↓] Go.wp_at_zero Go.wp_at_succ

theorem cmpR_drop {a b : List Int} {j : Nat} (h : a.take j = b.take j) (hl : j ≤ a.length) (hl' : j ≤ b.length) : cmpR a b = cmpR (a.drop j) (b.drop j) := by
  induction j generalizing a b with
  | zero => simp
  | succ j ih =>
    cases a with
    | nil => simp at hl
    | cons x a =>
      cases b with
      | nil => simp at hl'
      | cons y b =>
        simp only [List.take_succ_cons, List.cons.injEq] at h
        obtain ⟨rfl, h⟩ := h
        simp only [List.length_cons] at hl hl'
        rw [List.drop_succ_cons, List.drop_succ_cons, ← ih h (by omega) (by omega), cmpR, if_pos (by simp [sg7])]
set_option maxRecDepth 20000 in
set_option maxHeartbeats 1000000 in
theorem order7_any (F G : Nat → Prop) (a b : List Int) (u v : Value) (w : World) (h : Li F w u a) (h' : Li G w v b) (hl : a.length = b.length) :
    Calls Try.prog 93 #[u, v] w fun e w' => e = .returned (.int .i64 (cmpR a b)) ∧ ∃ n, w' = w.drewN n := by
  obtain ⟨ad, cap, rfl, g1, g2, -, h⟩ := h
  obtain ⟨ad', cap', rfl, -, -, -, h'⟩ := h'
  obtain ⟨n, hn⟩ : ∃ n, a.length = n := ⟨_, rfl⟩
  have hnb : n ≤ 9223372036854775807 := by omega
  have hn' : b.length = n := by omega
  clear g1 g2 hl
  rw [hn, hn']
  go_enter Try.func93, Try.ntmps93
  go_wp2
  go_loopg [5] n (fun g i wr => ∃ j m : Nat, j + g = n ∧ i = .int .i64 j ∧ a.take j = b.take j ∧ wr = w.drewN m)
  case atStart => exact ⟨0, 0, by omega, rfl, rfl, rfl⟩
  case round =>
    obtain ⟨j, m, hj, rfl, hp, rfl⟩ := hrel
    have HP := hm7 hp
    clear hp
    cases gk with
    | succ g =>
      have hlt : (j : Int) < (n : Int) := by omega
      have j0 : (0 : Int) ≤ (j : Int) := by omega
      have k3 : decide (j < n) = true := decide_eq_true (by omega)
      obtain ⟨x, hx⟩ : ∃ x, a[j]? = some x := ⟨_, List.getElem?_eq_getElem (by omega)⟩
      obtain ⟨y, hy⟩ : ∃ y, b[j]? = some y := ⟨_, List.getElem?_eq_getElem (by omega)⟩
      rcases h with ⟨h, -⟩ | ⟨b1, o1, rfl, hb1, -, h⟩
      · rw [h] at hx; simp at hx
      rcases h' with ⟨h', -⟩ | ⟨b2, o2, rfl, hb2, -, h'⟩
      · rw [h'] at hy; simp at hy
      have p0 := h j x hx
      have q0 := h' j y hy
      have HX := hm7 hx
      have HY := hm7 hy
      have HC : Hid (cmpR a b = if sg7 x y = 0 then cmpR (a.drop (j + 1)) (b.drop (j + 1)) else sg7 x y) := by
        show _ = _
        rw [cmpR_drop HP.out (by omega) (by omega), drop_cons7 hx, drop_cons7 hy, cmpR]
      clear h h' hx hy
      rcases sg7_v x y with ⟨s1, s2⟩ | ⟨s1, s2⟩ | ⟨s1, s2⟩
      · have e1 : decide (x < y) = true := decide_eq_true s2
        rw [s1] at HC
        have HD : Hid (cmpR a b = -1) := by show _ = _; have := HC.out; simpa using this
        go_wp2
        go_quiet (fail)
        go_wp2
        go_ret
        exact ⟨by rw [HD.out]; rfl, _, by first | rfl | rw [World.drewN_drewN]⟩
      · subst s2
        have e1 : decide (x < x) = false := decide_eq_false (by omega)
        have e2 : decide (x > x) = false := decide_eq_false (by omega)
        go_wp2
        go_quiet (fail)
        go_wp2
        go_quiet (fail)
        go_wp2
        go_roundg g
        case measure => omega
        case rel => exact ⟨j + 1, _, by omega, by go_num, take_eq_next HP.out HX.out HY.out, by first | rfl | (rw [World.drewN_drewN]) | (rw [World.drewN_drewN, World.drewN_drewN])⟩
      · have e1 : decide (x < y) = false := decide_eq_false (by omega)
        have e2 : decide (x > y) = true := decide_eq_true s2
        have e3 : decide (y < x) = true := decide_eq_true s2
        rw [s1] at HC
        have HD : Hid (cmpR a b = 1) := by show _ = _; have := HC.out; simpa using this
        go_wp2
        go_quiet (fail)
        go_wp2
        go_quiet (fail)
        go_wp2
        go_ret
        refine ⟨by rw [HD.out]; rfl, ?_⟩
        simp only [World.drewN_drewN]
        exact ⟨_, rfl⟩
    | zero =>
      have hlt : ¬ (j : Int) < (n : Int) := by omega
      have k3 : decide (j < n) = false := decide_eq_false (by omega)
      have HE : Hid (cmpR a b = 0) := by
        have e : a = b := by
          have := HP.out
          rwa [List.take_of_length_le (by omega), List.take_of_length_le (by omega)] at this
        show _ = _
        rw [e]; exact cmpR_refl b
      clear h h' hn hn'
      go_wp2
      go_ret
      exact ⟨by rw [HE.out]; rfl, _, rfl⟩
/-- append of a list of one-cell things that lies anywhere, to a list of the call's own. -/
theorem gappM {T e : TypeId} {z : Value} {by_ : Nat} (hT : Try.prog.underlying T = some (.slice e)) (hI : (Try.prog.info? e).map (fun i => (i.zero, i.size, i.bytes)) = some (some z, 1, by_)) (hz : z.cells.size = 1) (hby : by_ ≤ 100)
    {ops : Array Oper} {rest : List Oper} {o : Oper} {a : Act} {Q : Exit → Act → World → Prop} {w : World} (hgd : o.guard = none) (s x : Operand)
    (ho : o.op = .call { callee := .builtin .append, args := #[s, x], argTypes := #[T, T] }) (base : Nat) (v : Value) (n : Nat) (l : List Value) (hs : a.eval s = v) (hown : w.ownsRow base e 1 v n l)
    (xv : Value) (m : Nat) (news : List Value) (hx : a.eval x = xv) (hsrc : (xv = .slice none 0 0 ∧ m = 0 ∧ news = []) ∨ ∃ (ad : Addr) (c : Nat), xv = .slice (some ad) m c ∧ news.length = m ∧ ∀ (j : Nat) u, news[j]? = some u → w.cell? (ad.add j) = some u) (h1c : ∀ u ∈ news, u.oneCell' = true) (hlen : n + m ≤ 1000000000000) (hbase : base ≤ w.heap.size)
    (h : ∀ v' w', w'.ownsRow base e 1 v' (n + m) (l ++ news) → w.grownBy w' v.ownBlock → (v'.ownBlock = v.ownBlock ∨ v'.ownBlock = some w.heap.size) → wpList Try.prog ops Q rest (a.put o.dst v') w') : wpList Try.prog ops Q (o :: rest) a w := by
  obtain ⟨i, hi, h0, h1, h2⟩ := info7 hI
  have key : ∃ v' w', (Builtin.append_ #[T, T] o.type #[v, xv]).run Try.prog w = .ok v' w' ∧ w'.ownsRow base e 1 v' (n + m) (l ++ news) ∧ w.grownBy w' v.ownBlock ∧ (v'.ownBlock = v.ownBlock ∨ v'.ownBlock = some w.heap.size) := by
    rcases hsrc with ⟨rfl, rfl, rfl⟩ | ⟨ad, c, rfl, hnl, hc⟩
    · exact ⟨v, w, run_append_owned_none (P := Try.prog) w base T o.type e i 1 hT hi v n l hown, by rw [List.append_nil]; exact hown, ⟨rfl, rfl, rfl, Nat.le_refl _, fun _ _ _ => rfl⟩, Or.inl rfl⟩
    · obtain ⟨v', w', k1, k2, k3, -, k5⟩ := run_append_own_at (P := Try.prog) w base T o.type e i z 1 by_ hT hi h0 h1 h2 hz (by omega) v n l hown ad m c news (by omega) hc h1c (by unfold maxLen; omega) (Nat.le_trans (Nat.mul_le_mul hlen hby) (by decide)) hbase
      exact ⟨v', w', k1, k2, k3, k5⟩
  obtain ⟨v', w', hrun, r1, r2, r3⟩ := key
  refine wpList_plain hgd fun K hK => ?_
  simp [Oper.wp, execOp, ho, resolve, invoke, builtin, hs, hx, hrun, Result.andThen]
  exact hK _ _ (h v' w' r1 r2 r3)
theorem li_src {F : Nat → Prop} {w : World} {v : Value} {l : List Int} (h : Li F w v l) : (v = .slice none 0 0 ∧ l.length = 0 ∧ ibs7 l = []) ∨ ∃ (ad : Addr) (c : Nat), v = .slice (some ad) l.length c ∧ (ibs7 l).length = l.length ∧ ∀ (j : Nat) u, (ibs7 l)[j]? = some u → w.cell? (ad.add j) = some u := by
  obtain ⟨a, cap, rfl, h1, h2, h3, h4⟩ := h
  rcases h4 with ⟨rfl, h4⟩ | ⟨b, o, rfl, -, -, h4⟩
  · cases a with
    | none => exact Or.inl ⟨by rw [h4 rfl]; rfl, rfl, rfl⟩
    | some a => exact Or.inr ⟨a, cap, rfl, rfl, by simp [ibs7]⟩
  · refine Or.inr ⟨⟨b, o, none⟩, cap, rfl, ibs7_len l, fun j u hj => ?_⟩
    simp only [ibs7, List.getElem?_map, Option.map_eq_some_iff] at hj
    obtain ⟨x, hx, rfl⟩ := hj
    rw [Go.WideShapes.add_plain]
    exact h4 j x hx
theorem ibs7_one (l : List Int) : ∀ u ∈ ibs7 l, u.oneCell' = true := fun u hu => by
  simp only [ibs7, List.mem_map] at hu
  obtain ⟨x, -, rfl⟩ := hu
  rfl
set_option maxRecDepth 20000 in
theorem copied7_any (F : Nat → Prop) (v : Value) (l : List Int) (w : World) (h : Li F w v l) (hl : l.length ≤ 100000000000) :
    Calls Try.prog 67 #[v] w fun e w' => ∃ v', e = .returned v' ∧ OwI w' w.heap.size v' l ∧ Below w.heap.size w w' := by
  have HS := hm7 (li_src h)
  obtain ⟨a, cap, rfl, -⟩ := h
  obtain ⟨n, hn⟩ : ∃ n, l.length = n := ⟨_, rfl⟩
  rw [hn] at HS hl ⊢
  have HN := hm7 hn
  clear hn
  go_enter Try.func67, Try.ntmps67
  go_wp2_with (at_builtin; refine gappM Try.underlying23 Try.infoInt7 rfl (by omega) rfl _ _ rfl w.heap.size (.slice none 0 0) 0 [] rfl (World.ownsRow_nil _ _ _ _) (.slice a n cap) n (ibs7 l) rfl HS.out (ibs7_one l) (by omega) (Nat.le_refl _) ?_; intro v' w5 ho5 hg5 hv5; have HH5 := hm7 (And.intro ho5 hg5); clear ho5 hg5 hv5)
  go_ret
  refine ⟨v', rfl, ?_, (Fr.grown (P := fun _ => False) HH5.out.2 fun b hb => by cases hb).below fun _ _ h => h⟩
  unfold OwI
  rw [HN.out]
  have := HH5.out.1
  rwa [Nat.zero_add, List.nil_append] at this
end Go.Proofs.Ytofopfjmcbgfjaa

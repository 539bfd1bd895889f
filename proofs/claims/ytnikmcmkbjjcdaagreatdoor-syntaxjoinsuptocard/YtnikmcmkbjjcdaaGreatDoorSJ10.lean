import Derived.Test.YtnikmcmkbjjcdaaGreatDoorSJ4
import Derived.Test.YtnikmcmkbjjcdaaGreatDoorSJ7
import Derived.Maps.AppendAt
import Derived.Laws.OwnMore
import Derived.Test.YtnikmcmkbjjcdaaGreatDoorSJ5
/-
  PLAIN: a fault's number is not 0.
-/
namespace Go.Proofs.YtnikmcmkbjjcdaaGreatDoor
open Go.RowKit

variable {Q : Int × Int → Prop}
/-- What may be said of a fault at a token or at the end. -/
structure HQ (T : List Tk) (L : Nat) (Q : Int × Int → Prop) : Prop where
  t : ∀ (c : Int) (t : Tk), c ≠ 0 → t ∈ T → Q (c, t.a)
  l : ∀ c : Int, c ≠ 0 → Q (c, (L : Int))
theorem HQ.pl {T : List Tk} {L : Nat} (h : HQ T L Q) {c : Int} (hc : c ≠ 0) (s : Ps) : Q (c, pl5 T L s) := by
  unfold pl5
  cases hs : T[s.nx]? with
  | none => exact h.l c hc
  | some t => exact h.t c t hc (List.mem_of_getElem? hs)
def Er {α : Type} (Q : Int × Int → Prop) (k : Nat) (f : Ps → R5 α) : Prop := ∀ s e, s.op = k → f s = .error e → Q e
theorem Er.and {α β : Type} {k : Nat} {f : Ps → R5 α} {p : α → Ps → R5 β} (h : Er Q k f) (hg : Goes f) (hp : ∀ a, Er Q k (p a)) : Er Q k fun s => (f s).and p := fun s e hs he => by
  cases hf : f s with
  | error x =>
    have he' : (f s).and p = .error e := he
    rw [hf] at he'
    have : x = e := Except.error.inj he'
    exact this ▸ h s x hs hf
  | ok a =>
    obtain ⟨a, s'⟩ := a
    have he' : (f s).and p = .error e := he
    rw [hf] at he'
    exact hp a s' e ((hg s a s' hf).1.trans hs) he'
theorem er_pure {α : Type} {k : Nat} (F : Ps → α × Ps) : Er Q k fun s => (.ok (F s) : R5 α) := fun s e _ he => by cases he
theorem er_ok {α : Type} {k : Nat} (a : α) : Er Q k fun s => (.ok (a, s) : R5 α) := er_pure fun s => (a, s)
theorem Er.ite {α : Type} {k : Nat} {c : Ps → Prop} [∀ s, Decidable (c s)] {f p : Ps → R5 α} (h : Er Q k f) (hp : Er Q k p) : Er Q k fun s => if c s then f s else p s := fun s e hs he => by
  have he' : (if c s then f s else p s) = .error e := he
  by_cases hc : c s
  · rw [if_pos hc] at he'; exact h s e hs he'
  · rw [if_neg hc] at he'; exact hp s e hs he'
theorem er_tk {T : List Tk} {L : Nat} (hQ : HQ T L Q) (k : Nat) (ks : List Int) : Er Q k (tk5 T L ks) := fun s e _ he => by
  unfold tk5 at he
  cases hs : T[s.nx]? with
  | none =>
    rw [hs] at he
    rw [← Except.error.inj he]; exact hQ.l 51 (by decide)
  | some t =>
    rw [hs] at he
    have he' : (if t.k ∈ ks then _ else _ : R5 Tk) = .error e := he
    by_cases hk : t.k ∈ ks
    · rw [if_pos hk] at he'; cases he'
    · rw [if_neg hk] at he'
      rw [← Except.error.inj he']; exact hQ.t 51 t (by decide) (List.mem_of_getElem? hs)
theorem er_tm {T : List Tk} {L : Nat} (hQ : HQ T L Q) (k : Nat) : Er Q k (tm5 T L) := (er_tk hQ k _).and (goes_tk T L _) fun _ => er_pure _
theorem er_who {T : List Tk} {L : Nat} (hQ : HQ T L Q) (k : Nat) : Er Q k (who5 T L) := (er_tk hQ k _).and (goes_tk T L _) fun _ => er_pure _
theorem er_ls {α : Type} {one : Ps → R5 α} {T : List Tk} {L : Nat} (hQ : HQ T L Q) (k : Nat) (b : Int) (h : Er Q k one) (hg : Goes one) : ∀ (f : Nat) (acc : List α), Er Q k (ls5 one T L b f acc)
  | 0, acc => er_ok acc
  | f + 1, acc => Er.ite ((er_tk hQ k _).and (goes_tk T L _) fun _ => h.and hg fun a => er_ls hQ k b h hg f (acc ++ [a])) (er_ok acc)
theorem er_list {α : Type} {one : Ps → R5 α} {T : List Tk} {L : Nat} (hQ : HQ T L Q) (k : Nat) (b : Int) (h : Er Q k one) (hg : Goes one) : Er Q k (list5 one T L b) := h.and hg fun _ => er_ls hQ k b h hg _ _
theorem er_args {T : List Tk} {L : Nat} (hQ : HQ T L Q) (k : Nat) : Er Q k (args5 T L) := Er.ite ((er_tk hQ k _).and (goes_tk T L _) fun _ => (er_list hQ k 8 (er_tm hQ k) (goes_tm T L)).and (goes_list T L 8 (goes_tm T L)) fun l => (er_tk hQ k _).and (goes_tk T L _) fun _ => er_ok l) (er_ok [])
theorem er_by {T : List Tk} {L : Nat} (hQ : HQ T L Q) (k : Nat) : Er Q k (by5 T L) := Er.ite (er_ok _) ((er_who hQ k).and (goes_who T L) fun t => (er_tk hQ k _).and (goes_tk T L _) fun _ => er_ok t)
theorem er_at {T : List Tk} {L : Nat} (hQ : HQ T L Q) (k : Nat) : Er Q k (at5 T L) := (er_by hQ k).and (goes_by T L) fun _ => (er_tk hQ k _).and (goes_tk T L _) fun _ => (er_args hQ k).and (goes_args T L) fun _ => er_ok _
theorem er_te {T : List Tk} {L : Nat} (hQ : HQ T L Q) (k : Nat) : Er Q k (te5 T L) := (er_tm hQ k).and (goes_tm T L) fun _ => (er_tk hQ k _).and (goes_tk T L _) fun _ => (er_tm hQ k).and (goes_tm T L) fun _ => er_ok _
theorem er_alt {one : Ps → R5 (List (List Lf5))} {T : List Tk} {L : Nat} (hQ : HQ T L Q) (k : Nat) (h : Er Q k one) (hg : Goes one) : Er Q k (altOf5 one T L) :=
  (er_list hQ k 9 ((er_list hQ k 8 h hg).and (goes_list T L 8 hg) fun _ => er_ok _) (goes_conj T L hg)).and (goes_list T L 9 (goes_conj T L hg)) fun _ => er_ok _
theorem er_br {one : Ps → R5 (List (List Lf5))} {T : List Tk} {L : Nat} (hQ : HQ T L Q) (k : Nat) (h : k ≠ 16 → Er Q (k + 1) one) (hg : Goes one) : Er Q k (brOf5 one T L) := fun s e hs he => by
  unfold brOf5 at he
  by_cases e0 : s.op = 16
  · rw [if_pos e0] at he
    rw [← Except.error.inj he]; exact hQ.pl (by decide) s
  · rw [if_neg e0] at he
    have h1 := h fun e1 => e0 (hs.trans e1)
    have hi : Er Q (k + 1) (fun s => (altOf5 one T L s).and fun m s => (tk5 T L [7] s).and fun _ s => .ok (m, ⟨s.nx, s.op - 1, s.vs, s.nm⟩)) := (er_alt hQ (k + 1) h1 hg).and (goes_alt T L hg) fun m => (er_tk hQ (k + 1) _).and (goes_tk T L _) fun _ => er_pure _
    have hj : Er Q k (fun s => (altOf5 one T L ⟨s.nx, s.op + 1, s.vs, s.nm⟩).and fun m s => (tk5 T L [7] s).and fun _ s => .ok (m, ⟨s.nx, s.op - 1, s.vs, s.nm⟩)) := fun s e hs he => hi ⟨s.nx, s.op + 1, s.vs, s.nm⟩ e (by show s.op + 1 = k + 1; rw [hs]) he
    exact ((er_tk hQ k [6]).and (goes_tk T L _) fun _ => hj) s e hs he
theorem er_lit {T : List Tk} {L : Nat} (hQ : HQ T L Q) : ∀ f k : Nat, k ≤ 16 → k + f = 17 → Er Q k (lit5 T L f)
  | 0, k, hk, e => by omega
  | f + 1, k, hk, e => Er.ite (er_br hQ k (fun hne => er_lit hQ f (k + 1) (by omega) (by omega)) (goes_lit T L f)) (Er.ite ((er_at hQ k).and (goes_at T L) fun _ => er_ok _) ((er_te hQ k).and (goes_te T L) fun _ => er_ok _))
theorem er_bd {T : List Tk} {L : Nat} (hQ : HQ T L Q) : Er Q 0 (bd5 T L) := Er.ite ((er_tk hQ 0 _).and (goes_tk T L _) fun _ => er_alt hQ 0 (er_lit hQ 17 0 (by decide) rfl) (goes_lit T L 17)) (er_ok [[]])
theorem er_rh {T : List Tk} {L : Nat} (hQ : HQ T L Q) : Er Q 0 (rh5 T L) := (er_at hQ 0).and (goes_at T L) fun _ => (er_bd hQ).and (goes_bd T L) fun _ => (er_tk hQ 0 _).and (goes_tk T L _) fun _ => er_ok _
theorem er_cls {p : Int} (hp : ∀ c : Int, c ≠ 0 → Q (c, p)) (h : At) : ∀ (m : List (List Lf5)) (acc : List Ck) (e : Int × Int), cls5 p h m acc = .error e → Q e
  | [], acc, e, he => by cases he
  | x :: r, acc, e, he => by
    unfold cls5 at he
    by_cases e0 : ch5 (normC (ck5 h x)) = 0
    · rw [if_pos e0] at he; exact er_cls hp h r _ e he
    · rw [if_neg e0] at he
      rw [← Except.error.inj he]; exact hp _ e0
theorem er_rl {T : List Tk} {L nx : Nat} (hQ : HQ T L Q) {e : Int × Int} (he : rl5 T L nx = .error e) : Q e := by
  unfold rl5 at he
  cases hr : rh5 T L (s05 nx) with
  | error x =>
    rw [hr] at he
    have : x = e := Except.error.inj he
    exact this ▸ er_rh hQ (s05 nx) x rfl hr
  | ok p =>
    obtain ⟨⟨h, m⟩, s⟩ := p
    rw [hr] at he
    have he' : (if 64 < m.length then _ else _ : Except (Int × Int) (List Ck × Nat)) = .error e := he
    by_cases hm : 64 < m.length
    · rw [if_pos hm] at he'
      rw [← Except.error.inj he']; exact hQ.pl (by decide) _
    · rw [if_neg hm] at he'
      cases hc : cls5 (pl5 T L (s05 nx)) h m [] with
      | error x =>
        rw [hc] at he'
        have : x = e := Except.error.inj he'
        exact this ▸ er_cls (fun c h0 => hQ.pl h0 _) _ _ _ x hc
      | ok ks => rw [hc] at he'; cases he'
theorem er_pr {T : List Tk} {L : Nat} (hQ : HQ T L Q) : ∀ (f : Nat) (acc : List Ck) (nx : Nat) (e : Int × Int), pr5 T L f acc nx = .error e → Q e
  | 0, acc, nx, e, he => by cases he
  | f + 1, acc, nx, e, he => by
    unfold pr5 at he
    by_cases hn : nx < T.length
    · rw [if_pos hn] at he
      cases hr : rl5 T L nx with
      | error x =>
        rw [hr] at he
        have : x = e := Except.error.inj he
        exact this ▸ er_rl hQ hr
      | ok p => obtain ⟨ks, n'⟩ := p; rw [hr] at he; exact er_pr hQ f _ n' e he
    · rw [if_neg hn] at he; cases he
/-- Where tokens begin. -/
theorem ct_pl5 : ∀ (f : Nat) (l : List Int) (off : Nat) (acc : List Tk) (M : Nat), off + l.length ≤ M → (∀ t ∈ acc, 0 ≤ t.a ∧ t.a ≤ (M : Int)) → ∀ t ∈ (ct f l off acc).1, 0 ≤ t.a ∧ t.a ≤ (M : Int)
  | 0, _, _, acc, _, _, h => h
  | _ + 1, [], _, acc, _, _, h => h
  | f + 1, c :: r, off, acc, M, hM, h => by
    simp only [List.length_cons] at hM
    rw [ct_cons]
    by_cases q1 : c = 32 ∨ c = 9 ∨ c = 10 ∨ c = 13
    · rw [if_pos q1]
      exact ct_pl5 f r _ acc M (by omega) h
    · rw [if_neg q1]
      by_cases q2 : c = 37
      · rw [if_pos q2]
        have hle := le_le (c :: r)
        simp only [List.length_cons] at hle
        exact ct_pl5 f _ _ acc M (by rw [List.length_drop, List.length_cons]; omega) h
      · rw [if_neg q2]
        cases et : tok (c :: r) with
        | bad e o => intro t ht; cases ht
        | ok k x n len =>
          have htl := (tok_len c r).1 k x n len et
          refine ct_pl5 f _ _ _ M (by rw [List.length_drop, List.length_cons]; omega) fun t ht => ?_
          rcases List.mem_append.1 ht with ht | ht
          · exact h t ht
          · rw [List.mem_singleton.1 ht]
            exact ⟨by show (0 : Int) ≤ (off : Int); omega, by show (off : Int) ≤ (M : Int); omega⟩
/-- A fault of a text that is cut well: its number is not 0, its place is within the text. -/
theorem er_pg {s : ByteArray} {most : Int} {T : List Tk} (hc : cutL (blK s) most = (T, 0, 0)) {e : Int × Int} (he : pg5 s most = .error e) : e.1 ≠ 0 ∧ 0 ≤ e.2 ∧ e.2 ≤ (s.size : Int) := by
  have hp : ∀ t ∈ T, 0 ≤ t.a ∧ t.a ≤ (s.size : Int) := by
    unfold cutL at hc
    split at hc
    · cases hc
    · have := ct_pl5 ((blK s).length + 1) (blK s) 0 [] s.size (by rw [bl_len]; omega) (fun t ht => by cases ht)
      rw [hc] at this
      exact this
  rw [pg5_cut hc] at he
  exact er_pr (Q := fun e => e.1 ≠ 0 ∧ 0 ≤ e.2 ∧ e.2 ≤ (s.size : Int)) ⟨fun c t h0 ht => ⟨h0, hp t ht⟩, fun c h0 => ⟨h0, by show (0 : Int) ≤ (s.size : Int); omega, Int.le_refl _⟩⟩ _ _ _ e he
end Go.Proofs.YtnikmcmkbjjcdaaGreatDoor
/-
  append of a list of clauses that may be empty, where the operation has a guard.
-/
namespace Go.Proofs.YtnikmcmkbjjcdaaGreatDoor
open Go.RowKit

theorem gappW5 {ops : Array Oper} {rest : List Oper} {o : Oper} {a : Act} {Q : Exit → Act → World → Prop} {w : World} (hw : Region.wanted o (yielded ops a.tmps) = true) (s x : Operand)
    (ho : o.op = .call { callee := .builtin .append, args := #[s, x], argTypes := #[23, 23] }) (base : Nat) (v : Value) (n : Nat) (l : List Value) (hs : a.eval s = v) (hown : w.ownsRow base 37 7 v n l)
    (y : Value) (m base' : Nat) (ys : List Value) (hx : a.eval x = y) (hy : w.ownsRow base' 37 7 y m ys) (hone : ∀ u ∈ ys, u.oneCell' = true) (hlen : n + m ≤ 100000000000) (hbase : base ≤ w.heap.size) (N : Nat) (hN : n + m = N)
    (h : ∀ va vc w', w'.ownsRow base 37 7 (.slice va N vc) N (l ++ ys) → w.grownBy w' v.ownBlock → ((Value.slice va N vc).ownBlock = v.ownBlock ∨ (Value.slice va N vc).ownBlock = some w.heap.size) → wpList Tryz.prog ops Q rest (a.put o.dst (.slice va N vc)) w') : wpList Tryz.prog ops Q (o :: rest) a w := by
  subst hN
  obtain ⟨i, hi, h1, h2, h3⟩ := info5 Tryz.infoClause5
  refine wpList_step fun K hK => ?_
  rw [if_pos hw]
  have hrun : ∃ v' w', (Builtin.append_ #[23, 23] o.type #[v, y]).run Tryz.prog w = .ok v' w' ∧ w'.ownsRow base 37 7 v' (n + m) (l ++ ys) ∧ w.grownBy w' v.ownBlock ∧ (v'.ownBlock = v.ownBlock ∨ v'.ownBlock = some w.heap.size) := by
    rcases hy.2 with ⟨rfl, rfl⟩ | ⟨g, cap, cur, rfl, -⟩
    · have hys : ys = [] := List.length_eq_zero_iff.1 (by have := hy.1; simpa using this)
      refine ⟨v, w, run_append_owned_none (P := Tryz.prog) w base 23 o.type 37 i 7 Tryz.underlying23 hi v n l hown, ?_, World.grownBy.refl _ _, Or.inl rfl⟩
      rw [hys, List.append_nil]
      exact hown
    · obtain ⟨v', w', g1, g2, g3, -, g4⟩ := run_append_own_at (P := Tryz.prog) w base 23 o.type 37 i _ 7 120 Tryz.underlying23 hi h1 h2 h3 rfl (by decide) v n l hown ⟨g, 0, none⟩ m cap ys hy.1 (fun j u hj => by
        have := row5_cell hy hj
        rw [Go.WideShapes.add_plain]
        exact this) hone (by unfold maxLen; omega) (Nat.le_trans (Nat.mul_le_mul_right 120 hlen) (by decide)) hbase
      exact ⟨v', w', g1, g2, g3, g4⟩
  obtain ⟨v', w', hr, g2, g3, g4⟩ := hrun
  obtain ⟨va, vc, e, -⟩ := row7_form g2
  subst e
  unfold Oper.wp
  simp [execOp, ho, resolve, invoke, builtin, hs, hx, hr, Result.andThen]
  exact hK _ _ (h va vc w' g2 g3 g4)
end Go.Proofs.YtnikmcmkbjjcdaaGreatDoor
/-
  SyntaxDeep: PLAIN: the text's tokens; what they say.
-/
namespace Go.Proofs.YtnikmcmkbjjcdaaGreatDoor
open Go.RowKit

end Go.Proofs.YtnikmcmkbjjcdaaGreatDoor
/-
  SyntaxDeep: the walk.
-/
namespace Go.Proofs.YtnikmcmkbjjcdaaGreatDoor
open Go.RowKit
attribute [local go_sem ↓] Go.wp_at_zero Go.wp_at_succ

theorem eql_ft5 (e p : Int) (w : World) : (binOp .eql 26 (.agg #[.int .i64 e, .int .i64 p]) (.agg #[.int .i64 e, .int .i64 p])).run Tryz.prog w = .ok (.bool true) w := by
  go_simp
end Go.Proofs.YtnikmcmkbjjcdaaGreatDoor
/-
  SyntaxJoins: the walk.
-/
namespace Go.Proofs.YtnikmcmkbjjcdaaGreatDoor
open Go.RowKit
attribute [local go_sem ↓] Go.wp_at_zero Go.wp_at_succ

theorem ft_step {w W : World} (e p : Int) (hb : Below w.heap.size w W) : Below w.heap.size w (W.alloc (.cells #[.int .i64 e, .int .i64 p] 26)) := hb.trans ((below1 W _).mono hb.size)
/-- What all its ways share. -/
structure SJH (a b : ByteArray) (w : World) : Prop where
  fi : ∀ X : World, Below w.heap.size w X → Calls Tryz.prog 9 #[] X fun e w' => e = .returned (.bool true) ∧ Below X.heap.size X w'
  ca : ∀ X : World, Below w.heap.size w X → Calls Tryz.prog 13 #[.string a, .int .i64 1048576] X (KPost X (cutL (blK a) 1048576))
  cb : ∀ X : World, Below w.heap.size w X → Calls Tryz.prog 13 #[.string b, .int .i64 1048576] X (KPost X (cutL (blK b) 1048576))
  pa : ∀ X : World, Below w.heap.size w X → Calls Tryz.prog 10 #[.string a] X (ReP X (pg5 a 1048576))
  pb : ∀ X : World, Below w.heap.size w X → Calls Tryz.prog 10 #[.string b] X (ReP X (pg5 b 1048576))
  pt : ∀ X : World, Below w.heap.size w X → Calls Tryz.prog 10 #[.string (two_ a b)] X (ReP X (pg5 (two_ a b) 1048576))
theorem SJH.mk_ {a b : ByteArray} {w : World} (ha : a.size ≤ 2000000) (hb : b.size ≤ 2000000) (hE : EnvOk w) (hO : OpsOk w) : SJH a b w := by
  have hs := two_size a b
  have h1 : ∀ X : World, Below w.heap.size w X → EnvOk X ∧ OpsOk X := fun X hX => ⟨hE.later hX, hO.fr (P := fun _ => False) (Fr.of hX) fun h => h⟩
  exact ⟨fun X hX => first5_any X (h1 X hX).1 (h1 X hX).2, fun X hX => cut_any a _ (by omega) X (h1 X hX).1, fun X hX => cut_any b _ (by omega) X (h1 X hX).1, fun X hX => program_any a (by omega) X (h1 X hX).1 (h1 X hX).2, fun X hX => program_any b (by omega) X (h1 X hX).1 (h1 X hX).2, fun X hX => program_any _ (by omega) X (h1 X hX).1 (h1 X hX).2⟩
set_option maxRecDepth 20000 in
set_option maxHeartbeats 4000000 in
/-- Too long, or not cut: first alone. -/
theorem joins_out (a b : ByteArray) (w : World) (ha : a.size ≤ 2000000) (hb : b.size ≤ 2000000) (h : SJH a b w) (hout : 1048576 < (two_ a b).size ∨ ¬ (cutL (blK a) 1048576).2.1 = 0 ∨ ¬ (cutL (blK b) 1048576).2.1 = 0) :
    Calls Tryz.prog 5 #[.string a, .string b] w fun e w' => e = .returned (.bool true) ∧ Below w.heap.size w w' := by
  have HF := hm7 h.fi
  have HCA := hm7 (h.ca w (Below.refl _ _))
  have HCB := hm7 h.cb
  have hs := two_size a b
  obtain ⟨A1, hA1⟩ : ∃ A1, a ++ (⟨#[10]⟩ : ByteArray) = A1 := ⟨_, rfl⟩
  have hs1 : A1.size = a.size + 1 := by rw [← hA1, ByteArray.size_append]; rfl
  obtain ⟨T, hT⟩ : ∃ T, A1 ++ b = T := ⟨_, rfl⟩
  have hTT : two_ a b = T := by rw [← hT, ← hA1]; rfl
  rw [hTT] at hs hout
  have g1 : ¬ 9223372036854775807 < a.size + 1 := by omega
  have g2 : ¬ 9223372036854775807 < A1.size + b.size := by omega
  obtain ⟨RA, hRA⟩ : ∃ R, cutL (blK a) 1048576 = R := ⟨_, rfl⟩
  obtain ⟨RB, hRB⟩ : ∃ R, cutL (blK b) 1048576 = R := ⟨_, rfl⟩
  rw [hRA] at HCA hout
  rw [hRB] at HCB hout
  obtain ⟨LA, ea, pa⟩ := RA
  obtain ⟨LB, eb, pb⟩ := RB
  have HO : Hid (1048576 < T.size ∨ ¬ ea = 0 ∨ ¬ eb = 0) := hout
  clear h hs hs1 hTT hRA hRB hout ha hb
  by_cases k1 : (1048576 : Int) < (T.size : Int)
  · clear HO
    go_enter Tryz.func5, Tryz.ntmps5
    go_upto_region 3 with (go_at_call 13; refine HCA.out.mono ?_; rintro e W1 ⟨v1, rfl, -, hb⟩; have HB1 := hm7 (ft_step ea pa hb); clear hb)
    go_upto_region 4 with (go_at_call 13; refine (HCB.out _ HB1.out).mono ?_; rintro e W2 ⟨v2, rfl, -, hb⟩; have HB2 := hm7 (ft_step eb pb (HB1.out.trans (hb.mono HB1.out.size))); clear hb)
    go_wp2_with (go_at_call 9; refine (HF.out _ HB2.out).mono ?_; rintro e W3 ⟨rfl, hb⟩; have HB3 := hm7 (HB2.out.trans (hb.mono HB2.out.size)); clear hb)
    go_ret
    exact ⟨rfl, HB3.out⟩
  · by_cases k2 : ea = 0
    · have k3 : ¬ eb = 0 := by
        rcases HO.out with h | h | h
        · omega
        · exact absurd k2 h
        · exact h
      subst k2
      clear HO
      have k4 : (eb != 0) = true := by simpa using k3
      have k5 : (eb == 0) = false := by simpa using k3
      go_enter Tryz.func5, Tryz.ntmps5
      go_upto_region 3 with (go_at_call 13; refine HCA.out.mono ?_; rintro e W1 ⟨v1, rfl, -, hb⟩; have HB1 := hm7 (ft_step 0 pa hb); have HG1 := hm7 (Bk.new W1 #[.int .i64 0, .int .i64 pa] 26); clear hb)
      go_upto_region 4 with (go_at_call 13; refine (HCB.out _ HB1.out).mono ?_; rintro e W2 ⟨v2, rfl, -, hb⟩; have HB2 := hm7 (ft_step eb pb (HB1.out.trans (hb.mono HB1.out.size))); have HG12 := hm7 ((HG1.out.below hb).below (below1 W2 (.cells #[.int .i64 eb, .int .i64 pb] 26))); have c10 := HG12.out.cell (i := 0) (v := .int .i64 0) rfl; clear hb)
      go_wp2_with (go_at_call 9; refine (HF.out _ HB2.out).mono ?_; rintro e W3 ⟨rfl, hb⟩; have HB3 := hm7 (HB2.out.trans (hb.mono HB2.out.size)); clear hb)
      go_ret
      exact ⟨rfl, HB3.out⟩
    · clear HO
      go_enter Tryz.func5, Tryz.ntmps5
      go_upto_region 3 with (go_at_call 13; refine HCA.out.mono ?_; rintro e W1 ⟨v1, rfl, -, hb⟩; have HB1 := hm7 (ft_step ea pa hb); have HG1 := hm7 (Bk.new W1 #[.int .i64 ea, .int .i64 pa] 26); clear hb)
      go_upto_region 4 with (go_at_call 13; refine (HCB.out _ HB1.out).mono ?_; rintro e W2 ⟨v2, rfl, -, hb⟩; have HB2 := hm7 (ft_step eb pb (HB1.out.trans (hb.mono HB1.out.size))); have HG12 := hm7 ((HG1.out.below hb).below (below1 W2 (.cells #[.int .i64 eb, .int .i64 pb] 26))); have c10 := HG12.out.cell (i := 0) (v := .int .i64 ea) rfl; clear hb)
      go_wp2_with (go_at_call 9; refine (HF.out _ HB2.out).mono ?_; rintro e W3 ⟨rfl, hb⟩; have HB3 := hm7 (HB2.out.trans (hb.mono HB2.out.size)); clear hb)
      go_ret
      exact ⟨rfl, HB3.out⟩
end Go.Proofs.YtnikmcmkbjjcdaaGreatDoor

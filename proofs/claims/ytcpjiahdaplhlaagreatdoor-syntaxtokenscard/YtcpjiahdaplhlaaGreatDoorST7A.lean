import Derived.Test.YtcpjiahdaplhlaaGreatDoorSV6
import Derived.Test.YtcpjiahdaplhlaaGreatDoorSJ8
import Derived.Test.YtcpjiahdaplhlaaGreatDoorK37
import Derived.Test.YtcpjiahdaplhlaaGreatDoorST5
import Derived.Test.YtcpjiahdaplhlaaGreatDoorSY26
import Derived.Maps.AppendAt
import Derived.Laws.OwnMore
import Derived.Test.YtcpjiahdaplhlaaGreatDoorSJ6
import Derived.Test.YtcpjiahdaplhlaaGreatDoorST6
/-
  PLAIN: what is read is valid; where a fault lies; a query's variables are numbered.
-/
namespace Go.Proofs.YtcpjiahdaplhlaaGreatDoor
open Go.RowKit

/-- Whatever is answered has the property. -/
def Al5 {α : Type} (f : Ps → R5 α) (Q : α → Prop) : Prop := ∀ s a s', f s = .ok (a, s') → Q a
theorem Al5.and {α β : Type} {f : Ps → R5 α} {k : α → Ps → R5 β} {Q : α → Prop} {R : β → Prop} (h : Al5 f Q) (hk : ∀ a, Q a → Al5 (k a) R) : Al5 (fun s => (f s).and k) R := fun s b s' e => by
  obtain ⟨a, s1, h1, h2⟩ := and5_inv e
  exact hk a (h s a s1 h1) s1 b s' h2
theorem al_ok {α : Type} {Q : α → Prop} (a : α) (h : Q a) : Al5 (fun s => (.ok (a, s) : R5 α)) Q := fun s b s' e => by
  have : a = b := congrArg Prod.fst (Except.ok.inj e)
  rw [← this]; exact h
theorem al_if {α : Type} {p : Ps → Prop} [∀ s, Decidable (p s)] {f g : Ps → R5 α} {Q : α → Prop} (hf : Al5 f Q) (hg : Al5 g Q) : Al5 (fun s => if p s then f s else g s) Q := fun s a s' e => by
  by_cases hp : p s
  · simp only [if_pos hp] at e; exact hf s a s' e
  · simp only [if_neg hp] at e; exact hg s a s' e
theorem al_tk (T : List Tk) (L : Nat) (ks : List Int) : Al5 (tk5 T L ks) (fun t => t ∈ T) := fun s a s' e => by
  obtain ⟨h, -, -⟩ := tk5_some e
  exact List.mem_of_getElem? h
/-- A term that is a variable, or whose number is one of 64 bits. -/
def Tn5 (t : Tm) : Prop := t.var = true ∨ N64 t.n
theorem n64_0 : N64 0 := by unfold N64; omega
theorem al_mean {T : List Tk} (hT : ∀ t ∈ T, N64 t.n) (L : Nat) (ks : List Int) : Al5 (fun s => (tk5 T L ks s).and fun t s => (.ok (mean5 t s) : R5 Tm)) Tn5 := (al_tk T L ks).and fun t ht s a s' e => by
  have h1 : mean5 t s = (a, s') := Except.ok.inj e
  have h2 : (mean5 t s).1 = a := congrArg Prod.fst h1
  rw [← h2]
  unfold mean5
  split
  · exact Or.inl (by simp [Tm.var])
  · split
    · exact Or.inr (hT t ht)
    · exact Or.inr n64_0
theorem al_ls {α : Type} {one : Ps → R5 α} {Q : α → Prop} (T : List Tk) (L : Nat) (b : Int) (h : Al5 one Q) : ∀ (f : Nat) (acc : List α), (∀ a ∈ acc, Q a) → Al5 (ls5 one T L b f acc) (fun l => ∀ a ∈ l, Q a)
  | 0, acc, ha => al_ok acc ha
  | f + 1, acc, ha => al_if ((al_tk T L [b]).and fun _ _ => h.and fun a hq => al_ls T L b h f (acc ++ [a]) fun x hx => by
      rcases List.mem_append.1 hx with hx | hx
      · exact ha x hx
      · rw [List.mem_singleton.1 hx]; exact hq) (al_ok acc ha)
theorem al_list {α : Type} {one : Ps → R5 α} {Q : α → Prop} (T : List Tk) (L : Nat) (b : Int) (h : Al5 one Q) : Al5 (list5 one T L b) (fun l => ∀ a ∈ l, Q a) := h.and fun a hq => al_ls T L b h _ [a] fun x hx => by rw [List.mem_singleton.1 hx]; exact hq
def qAn (a : At) : Prop := ∀ t ∈ a.pl, Tn5 t
theorem al_args {T : List Tk} (hT : ∀ t ∈ T, N64 t.n) (L : Nat) : Al5 (args5 T L) (fun l => ∀ t ∈ l, Tn5 t) := al_if ((al_tk T L _).and fun _ _ => (al_list T L 8 (al_mean hT L _)).and fun l hl => (al_tk T L _).and fun _ _ => al_ok l hl) (al_ok [] fun t ht => by cases ht)
theorem al_by {T : List Tk} (hT : ∀ t ∈ T, N64 t.n) (L : Nat) : Al5 (by5 T L) Tn5 := al_if (al_ok _ (Or.inr n64_0)) ((al_mean hT L _).and fun t ht => (al_tk T L _).and fun _ _ => al_ok t ht)
theorem al_at {T : List Tk} (hT : ∀ t ∈ T, N64 t.n) (L : Nat) : Al5 (at5 T L) qAn := (al_by hT L).and fun b hb => (al_tk T L _).and fun _ _ => (al_args hT L).and fun l hl => al_ok _ fun t ht => by
  rcases List.mem_cons.1 ht with rfl | ht
  · exact hb
  · exact hl t ht
theorem cut_n64 (s : ByteArray) (most : Int) : ∀ t ∈ (cutL (blK s) most).1, N64 t.n := by
  unfold cutL
  split
  · intro t ht; cases ht
  · intro t ht
    have := ((ct_has ((blK s).length + 1) (blK s) 0 [] (blK s).length (bl_byt s) (Nat.le_refl _) (fun t ht => by cases ht)).1 t ht).2.2
    exact this
/-- Cutting's fault lies within the text. -/
theorem cut_er {s : ByteArray} {most : Int} (h : (cutL (blK s) most).2.1 ≠ 0) : 0 ≤ (cutL (blK s) most).2.2 ∧ (cutL (blK s) most).2.2 ≤ (s.size : Int) := by
  unfold cutL at h ⊢
  split
  · exact ⟨Int.le_refl _, by show (0 : Int) ≤ _; omega⟩
  · rename_i hm
    rw [if_neg hm] at h
    rcases ct_fault ((blK s).length + 1) (blK s) 0 [] (by omega) with ⟨h1, -⟩ | ⟨p, h1, h2, -⟩
    · exact absurd h1 h
    · rw [h1]
      rw [bl_len] at h2
      omega
theorem cut_pl {s : ByteArray} {most : Int} : ∀ t ∈ (cutL (blK s) most).1, 0 ≤ t.a ∧ t.a ≤ (s.size : Int) := by
  unfold cutL
  split
  · intro t ht; cases ht
  · exact ct_pl5 ((blK s).length + 1) (blK s) 0 [] s.size (by rw [bl_len]; omega) (fun t ht => by cases ht)
theorem hq5 (s : ByteArray) (most : Int) : HQ (cutL (blK s) most).1 s.size (fun e => e.1 ≠ 0 ∧ 0 ≤ e.2 ∧ e.2 ≤ (s.size : Int)) := ⟨fun c t h0 ht => ⟨h0, cut_pl t ht⟩, fun c h0 => ⟨h0, by show (0 : Int) ≤ (s.size : Int); omega, Int.le_refl _⟩⟩
theorem er_pg2 {s : ByteArray} {most : Int} {e : Int × Int} (he : pg5 s most = .error e) : e.1 ≠ 0 ∧ 0 ≤ e.2 ∧ e.2 ≤ (s.size : Int) := by
  unfold pg5 at he
  split at he
  · exact er_pr (hq5 s most) _ _ _ e he
  · rename_i hc
    have h1 : ((cutL (blK s) most).2.1, (cutL (blK s) most).2.2) = e := Except.error.inj he
    rw [← h1]
    exact ⟨hc, cut_er hc⟩
theorem er_qg {s : ByteArray} {most : Int} {e : Int × Int} (he : qg5 s most = .error e) : e.1 ≠ 0 ∧ 0 ≤ e.2 ∧ e.2 ≤ (s.size : Int) := by
  unfold qg5 at he
  split at he
  · have hQ := hq5 s most
    unfold qy5 at he
    cases h1 : at5 (cutL (blK s) most).1 s.size (s05 0) with
    | error x =>
      rw [h1] at he
      rw [← Except.error.inj he]
      exact er_at hQ 0 _ _ rfl h1
    | ok p =>
      obtain ⟨a, s1⟩ := p
      rw [h1] at he
      have ho := (goes_at _ _ _ _ _ h1).1
      cases h2 : tk5 (cutL (blK s) most).1 s.size [12] s1 with
      | error x =>
        simp only [h2] at he
        rw [← Except.error.inj he]
        exact er_tk hQ s1.op _ _ _ rfl h2
      | ok p =>
        obtain ⟨t, s2⟩ := p
        simp only [h2] at he
        split at he
        · rw [← Except.error.inj he]; exact hQ.pl (by decide) s2
        · split at he
          · cases he
          · rename_i hx
            rw [← Except.error.inj he]; exact hQ.pl hx _
  · rename_i hc
    have h1 : ((cutL (blK s) most).2.1, (cutL (blK s) most).2.2) = e := Except.error.inj he
    rw [← h1]
    exact ⟨hc, cut_er hc⟩
/-- Variables are numbered as they first stand there. -/
def Nu5 {α : Type} (f : Ps → R5 α) (v : α → List Tm) : Prop := ∀ s a s', (∀ x k, s.nm x = some k → k < s.vs) → f s = .ok (a, s') → (∀ x k, s'.nm x = some k → k < s'.vs) ∧ ∀ r, mis (s.vs : Int) (vrs (v a) ++ r) = mis (s'.vs : Int) r
theorem nu_mean (T : List Tk) (L : Nat) (ks : List Int) : Nu5 (fun s => (tk5 T L ks s).and fun t s => (.ok (mean5 t s) : R5 Tm)) (fun t => [t]) := fun s a s' hs e => by
  obtain ⟨t, s1, h1, h2⟩ := and5_inv e
  obtain ⟨-, -, rfl⟩ := tk5_some h1
  have h3 : mean5 t ⟨s.nx + 1, s.op, s.vs, s.nm⟩ = (a, s') := Except.ok.inj h2
  unfold mean5 at h3
  split at h3
  · unfold va5 at h3
    split at h3
    · rename_i hk
      obtain ⟨k, hk1⟩ := Option.isSome_iff_exists.1 hk.1
      have e1 := (Prod.mk.inj h3).1
      have e2 := (Prod.mk.inj h3).2
      rw [← e2, ← e1]
      refine ⟨hs, fun r => ?_⟩
      have hlt := hs _ _ hk1
      have hk2 : s.nm t.x = some k := hk1
      simp only [hk2, Option.getD_some]
      have hv : vrs [(⟨3, (k : Int), ⟨#[]⟩⟩ : Tm)] = [(k : Int)] := by simp [vrs, Tm.var]
      rw [hv]
      show mis (s.vs : Int) ((k : Int) :: r) = _
      rw [mis, if_neg (by omega), if_neg (by omega)]
    · have e1 := (Prod.mk.inj h3).1
      have e2 := (Prod.mk.inj h3).2
      rw [← e2, ← e1]
      refine ⟨fun x k e => ?_, fun r => ?_⟩
      · have e3 : nput s.nm t.x s.vs x = some k := e
        show k < s.vs + 1
        unfold nput at e3
        split at e3
        · have := Option.some.inj e3; omega
        · have := hs x k e3; omega
      · have hv : vrs [(⟨3, (s.vs : Int), ⟨#[]⟩⟩ : Tm)] = [(s.vs : Int)] := by simp [vrs, Tm.var]
        show mis (s.vs : Int) (vrs [(⟨3, (s.vs : Int), ⟨#[]⟩⟩ : Tm)] ++ r) = mis ((s.vs + 1 : Nat) : Int) r
        rw [hv]
        show mis (s.vs : Int) ((s.vs : Int) :: r) = _
        rw [mis, if_neg (by omega), if_pos rfl]
        rfl
  · have hnv : a.var = false := by
      split at h3
      · rw [← (Prod.mk.inj h3).1]; simp [Tm.var]
      · rw [← (Prod.mk.inj h3).1]; simp [Tm.var]
    have e2 : (⟨s.nx + 1, s.op, s.vs, s.nm⟩ : Ps) = s' := by
      split at h3
      · exact (Prod.mk.inj h3).2
      · exact (Prod.mk.inj h3).2
    rw [← e2]
    refine ⟨hs, fun r => ?_⟩
    have hv : vrs [a] = [] := by simp [vrs, hnv]
    rw [hv]
    rfl
theorem nu_tk {T : List Tk} {L : Nat} {ks : List Int} {s s' : Ps} {t : Tk} (h : tk5 T L ks s = .ok (t, s')) : s'.vs = s.vs ∧ s'.nm = s.nm := by
  obtain ⟨-, -, rfl⟩ := tk5_some h
  exact ⟨rfl, rfl⟩
theorem vrs_ap (a b : List Tm) : vrs (a ++ b) = vrs a ++ vrs b := by simp [vrs]
theorem nu_ls (T : List Tk) (L : Nat) : ∀ (f : Nat) (acc : List Tm) (s : Ps) (l : List Tm) (s' : Ps), (∀ x k, s.nm x = some k → k < s.vs) → ls5 (tm5 T L) T L 8 f acc s = .ok (l, s') → (∀ x k, s'.nm x = some k → k < s'.vs) ∧ ∃ m, l = acc ++ m ∧ ∀ r, mis (s.vs : Int) (vrs m ++ r) = mis (s'.vs : Int) r
  | 0, acc, s, l, s', hs, e => by
    have h1 := Prod.mk.inj (Except.ok.inj e)
    rw [← h1.2, ← h1.1]
    exact ⟨hs, [], by simp, fun r => rfl⟩
  | f + 1, acc, s, l, s', hs, e => by
    unfold ls5 at e
    by_cases hk : kd5 T s 0 = 8
    · rw [if_pos hk] at e
      obtain ⟨t, s1, h1, h2⟩ := and5_inv e
      obtain ⟨a, s2, h3, h4⟩ := and5_inv h2
      obtain ⟨v1, n1⟩ := nu_tk h1
      obtain ⟨g1, g2⟩ := nu_mean T L [1, 3, 2, 4] s1 a s2 (by rw [n1, v1]; exact hs) h3
      obtain ⟨g3, m, g4, g5⟩ := nu_ls T L f _ s2 l s' g1 h4
      refine ⟨g3, a :: m, by rw [g4]; simp, fun r => ?_⟩
      rw [show a :: m = [a] ++ m from rfl, vrs_ap, List.append_assoc, ← v1, g2, g5]
    · rw [if_neg hk] at e
      have h1 := Prod.mk.inj (Except.ok.inj e)
      rw [← h1.2, ← h1.1]
      exact ⟨hs, [], by simp, fun r => rfl⟩
theorem nu_at (T : List Tk) (L : Nat) : Nu5 (at5 T L) At.pl := fun s a s' hs e => by
  unfold at5 at e
  obtain ⟨b, s1, h1, h2⟩ := and5_inv e
  obtain ⟨t, s2, h3, h4⟩ := and5_inv h2
  obtain ⟨l, s3, h5, h6⟩ := and5_inv h4
  have h7 := Prod.mk.inj (Except.ok.inj h6)
  rw [← h7.1, ← h7.2]
  have hb : (∀ x k, s1.nm x = some k → k < s1.vs) ∧ ∀ r, mis (s.vs : Int) (vrs [b] ++ r) = mis (s1.vs : Int) r := by
    unfold by5 at h1
    by_cases hc : kd5 T s 0 = 1 ∧ kd5 T s 1 ≠ 5
    · rw [if_pos hc] at h1
      have h8 := Prod.mk.inj (Except.ok.inj h1)
      rw [← h8.1, ← h8.2]
      exact ⟨hs, fun r => rfl⟩
    · rw [if_neg hc] at h1
      obtain ⟨b', s4, h8, h9⟩ := and5_inv h1
      obtain ⟨t', s5, h10, h11⟩ := and5_inv h9
      have h12 := Prod.mk.inj (Except.ok.inj h11)
      obtain ⟨g1, g2⟩ := nu_mean T L [1, 3, 2] s b' s4 hs h8
      obtain ⟨v1, n1⟩ := nu_tk h10
      rw [← h12.1, ← h12.2]
      refine ⟨by rw [n1, v1]; exact g1, fun r => by rw [v1]; exact g2 r⟩
  obtain ⟨v2, n2⟩ := nu_tk h3
  have hl : (∀ x k, s3.nm x = some k → k < s3.vs) ∧ ∀ r, mis (s2.vs : Int) (vrs l ++ r) = mis (s3.vs : Int) r := by
    have hs2 : ∀ x k, s2.nm x = some k → k < s2.vs := by rw [n2, v2]; exact hb.1
    unfold args5 at h5
    by_cases hc : kd5 T s2 0 = 6
    · rw [if_pos hc] at h5
      obtain ⟨t6, s6, h8, h9⟩ := and5_inv h5
      obtain ⟨l', s7, h10, h11⟩ := and5_inv h9
      obtain ⟨t8, s8, h12, h13⟩ := and5_inv h11
      have h14 := Prod.mk.inj (Except.ok.inj h13)
      obtain ⟨v6, n6⟩ := nu_tk h8
      obtain ⟨v8, n8⟩ := nu_tk h12
      unfold list5 at h10
      obtain ⟨a0, s9, h15, h16⟩ := and5_inv h10
      obtain ⟨g1, g2⟩ := nu_mean T L [1, 3, 2, 4] s6 a0 s9 (by rw [n6, v6]; exact hs2) h15
      obtain ⟨g3, m, g4, g5⟩ := nu_ls T L _ _ s9 l' s7 g1 h16
      rw [← h14.1, ← h14.2]
      refine ⟨by rw [n8, v8]; exact g3, fun r => ?_⟩
      rw [g4, vrs_ap, List.append_assoc, ← v6, g2, g5, v8]
    · rw [if_neg hc] at h5
      have h8 := Prod.mk.inj (Except.ok.inj h5)
      rw [← h8.1, ← h8.2]
      exact ⟨hs2, fun r => rfl⟩
  refine ⟨hl.1, fun r => ?_⟩
  show mis (s.vs : Int) (vrs (b :: l) ++ r) = _
  rw [show b :: l = [b] ++ l from rfl, vrs_ap, List.append_assoc, hb.2, ← v2, hl.2]
/-- What a query is that was read. -/
theorem ok_qg {s : ByteArray} {most : Int} {a : At} (h : qg5 s most = .ok a) : a.err = 0 ∧ normC (a, [], []) = (a, [], []) ∧ ∀ t ∈ a.pl, Tn5 t := by
  unfold qg5 at h
  split at h
  · unfold qy5 at h
    cases h1 : at5 (cutL (blK s) most).1 s.size (s05 0) with
    | error x => rw [h1] at h; cases h
    | ok p =>
      obtain ⟨b, s1⟩ := p
      rw [h1] at h
      cases h2 : tk5 (cutL (blK s) most).1 s.size [12] s1 with
      | error x => simp only [h2] at h; cases h
      | ok p =>
        obtain ⟨t, s2⟩ := p
        simp only [h2] at h
        split at h
        · cases h
        · split at h
          · rename_i he
            have e1 : b = a := Except.ok.inj h
            rw [← e1]
            refine ⟨he, norm_id ?_, al_at (cut_n64 s most) _ _ _ _ h1⟩
            have h3 := (nu_at _ _ (s05 0) b s1 (fun x k e => by cases e) h1).2 []
            have h4 : Ck.terms (b, [], []) = b.pl := by simp [Ck.terms, tls]
            rw [h4]
            rw [List.append_nil] at h3
            exact h3
          · cases h
  · cases h
end Go.Proofs.YtcpjiahdaplhlaaGreatDoor
/-
  SyntaxJoins: the walk.
-/
namespace Go.Proofs.YtcpjiahdaplhlaaGreatDoor
open Go.RowKit
attribute [local go_sem ↓] Go.wp_at_zero Go.wp_at_succ

theorem ft_step {w W : World} (e p : Int) (hb : Below w.heap.size w W) : Below w.heap.size w (W.alloc (.cells #[.int .i64 e, .int .i64 p] 26)) := hb.trans ((below1 W _).mono hb.size)
end Go.Proofs.YtcpjiahdaplhlaaGreatDoor
/-
  SyntaxJoins: both texts are read well. (Written by SJ12.py.)
-/
namespace Go.Proofs.YtcpjiahdaplhlaaGreatDoor
open Go.RowKit
attribute [local go_sem ↓] Go.wp_at_zero Go.wp_at_succ

theorem cls5_len {p : Int} {h : At} : ∀ {m : List (List Lf5)} {acc ks : List Ck}, cls5 p h m acc = .ok ks → ks.length = acc.length + m.length
  | [], acc, ks, e => by rw [← Except.ok.inj (show Except.ok acc = Except.ok ks from e)]; rfl
  | x :: r, acc, ks, e => by
    unfold cls5 at e
    by_cases e0 : ch5 (normC (ck5 h x)) = 0
    · rw [if_pos e0] at e
      have := cls5_len e
      rw [this, List.length_append]
      simp only [List.length_cons, List.length_nil]; omega
    · rw [if_neg e0] at e; cases e
theorem rl5_len {T : List Tk} {L nx n' : Nat} {ks : List Ck} (he : rl5 T L nx = .ok (ks, n')) : ks.length ≤ 64 := by
  unfold rl5 at he
  cases hr : rh5 T L (s05 nx) with
  | error x => rw [hr] at he; cases he
  | ok p =>
    obtain ⟨⟨h, m⟩, s⟩ := p
    rw [hr] at he
    have he' : (if 64 < m.length then _ else _ : Except (Int × Int) (List Ck × Nat)) = .ok (ks, n') := he
    by_cases hm : 64 < m.length
    · rw [if_pos hm] at he'; cases he'
    · rw [if_neg hm] at he'
      cases hc : cls5 (pl5 T L (s05 nx)) h m [] with
      | error x => rw [hc] at he'; cases he'
      | ok k2 =>
        rw [hc] at he'
        have e1 : k2 = ks := (Prod.mk.inj (Except.ok.inj he')).1
        have := cls5_len hc
        rw [← e1, this]
        simp only [List.length_nil]; omega
theorem pr5_len {T : List Tk} {L : Nat} : ∀ (f : Nat) (acc ks : List Ck) (nx : Nat), pr5 T L f acc nx = .ok ks → ks.length ≤ acc.length + 64 * f
  | 0, acc, ks, nx, e => by rw [← Except.ok.inj (show Except.ok acc = Except.ok ks from e)]; omega
  | f + 1, acc, ks, nx, e => by
    unfold pr5 at e
    by_cases hn : nx < T.length
    · rw [if_pos hn] at e
      cases hr : rl5 T L nx with
      | error x => rw [hr] at e; cases e
      | ok p =>
        obtain ⟨k2, n'⟩ := p
        rw [hr] at e
        have h1 := rl5_len hr
        have h2 := pr5_len f (acc ++ k2) ks n' e
        rw [List.length_append] at h2
        omega
    · rw [if_neg hn] at e
      rw [← Except.ok.inj e]; omega
theorem pg5_len {s : ByteArray} {T : List Tk} {ks : List Ck} (hc : cutL (blK s) 1048576 = (T, 0, 0)) (h : pg5 s 1048576 = .ok ks) : ks.length ≤ 200000000 := by
  have h1 := cut_small (s := s) (most := 1048576) (by decide) (by rw [hc])
  rw [hc] at h1
  have h2 : T.length ≤ 2000000 := h1.l
  rw [pg5_cut hc] at h
  have := pr5_len _ _ _ _ h
  simp only [List.length_nil] at this
  omega
end Go.Proofs.YtcpjiahdaplhlaaGreatDoor
/-
  SyntaxTokens: PLAIN: sizes; tokens without places.
-/
namespace Go.Proofs.YtcpjiahdaplhlaaGreatDoor
open Go.RowKit

theorem cut_wts {s : ByteArray} {m : Int} {l : List Tk} (h : cutL (blK s) m = (l, 0, 0)) : wts l ≤ 36 * s.size := by
  obtain ⟨-, h2⟩ := cut_ok h
  have h3 := (ct_has (s.size + 1) (blK s) 0 [] s.size (bl_byt s) (by rw [bl_len]; exact Nat.le_refl _) (fun t ht => by cases ht)).2.2.1
  rw [h2, bl_len] at h3
  have h4 : wts [] = 0 := rfl
  have h3 : wts l ≤ wts [] + 36 * s.size := h3
  omega
theorem nq5_size (k : Nat) : (nq5 k).size = 6 := by unfold nq5; rw [ofL_sz]; rfl
theorem sp5_rt {N : List ByteArray} {t : Tk} (h : okt t) : (sp5 (rt5 N t)).size ≤ wt t + 24 := by
  have hw : wt (rt5 N t) ≤ wt t + 24 := by
    unfold rt5
    split
    · show 4 * (nq5 _).size + 32 ≤ 4 * t.x.size + 32 + 24
      rw [nq5_size]; omega
    · omega
  unfold sp5
  cases e : spl (rt5 N t) with
  | none =>
    have h0 : (⟨#[]⟩ : ByteArray).size = 0 := rfl
    rw [Option.getD_none, h0]; omega
  | some s =>
    have h1 := spl_size e (by rw [rt5_n]; exact h.2.1) (by rw [rt5_n]; exact h.2.2)
    rw [Option.getD_some]; omega
theorem bt5_size (K : Nat → Int) (N : List ByteArray) : ∀ (l : List Tk) (i : Nat), (∀ t ∈ l, okt t) → (bt5 K i (l.map (rt5 N))).length ≤ wts l + 40 * l.length
  | [], _, _ => by simp [bt5, wts]
  | t :: r, i, h => by
    have ih := bt5_size K N r (i + 1) (fun u hu => h u (by simp [hu]))
    have h1 := sp5_rt (N := N) (h t (by simp))
    have h2 := (fl5_size (K i)).2
    show (blK (sp5 (rt5 N t)) ++ (blK (fl5 (K i)) ++ bt5 K (i + 1) (r.map (rt5 N)))).length ≤ _
    simp only [wts, List.map_cons, List.sum_cons, List.length_cons] at ih ⊢
    simp only [List.length_append, bl_len]
    omega
theorem st5_size (K : Nat → Int) {s : ByteArray} {m : Int} {l : List Tk} (hs : s.size ≤ 32768) (h : cutL (blK s) m = (l, 0, 0)) : (st5 K l).length ≤ 10000000 := by
  obtain ⟨-, h2, h3⟩ := cut_facts (by omega) h
  have h4 := cut_wts h
  have h5 := bt5_size K (ns5 l) l 0 fun t ht => (h3 t ht).1
  unfold st5
  omega
theorem ns5_bar (l : List Tk) : ns5 (l.map bar5) = ns5 l := by unfold ns5; rw [List.foldl_map]; rfl
theorem rt5_bar (N : List ByteArray) (t : Tk) : rt5 N (bar5 t) = bar5 (rt5 N t) := by
  unfold rt5
  by_cases h : vq5 t
  · rw [if_pos h, if_pos (show vq5 (bar5 t) from h)]; rfl
  · rw [if_neg h, if_neg (show ¬ vq5 (bar5 t) from h)]
theorem bt5_bar (K : Nat → Int) : ∀ (l : List Tk) (i : Nat), bt5 K i (l.map bar5) = bt5 K i l
  | [], _ => rfl
  | t :: r, i => by
    show blK (sp5 (bar5 t)) ++ (blK (fl5 (K i)) ++ bt5 K (i + 1) (r.map bar5)) = _
    rw [bt5_bar K r]
    rfl
theorem mp_bar (N : List ByteArray) (l : List Tk) : (l.map bar5).map (rt5 N) = (l.map (rt5 N)).map bar5 := by
  rw [List.map_map, List.map_map]
  exact List.map_congr_left fun t _ => rt5_bar N t
theorem st5_bar (K : Nat → Int) (l : List Tk) : st5 K (l.map bar5) = st5 K l := by unfold st5; rw [ns5_bar, mp_bar, bt5_bar]
theorem fr5_bar (l : List Tk) (j : Nat) : fr5 (l.map bar5) j = (fr5 l j).map bar5 := by unfold fr5; rw [ns5_bar, ← List.map_take, mp_bar]
theorem at5v_bar (K : Nat → Int) (l : List Tk) (j : Nat) : at5v K (l.map bar5) j = at5v K l j := by
  unfold at5v
  refine List.map_congr_left fun i _ => ?_
  rw [fr5_bar, of5_len, of5_len, bt5_bar]
theorem at5v_get (K : Nat → Int) (l : List Tk) {j n : Nat} (h : j < n) : (at5v K l n)[j]? = some (.int .i64 (of5 K 0 (fr5 l j) 0 : Int)) := by
  unfold at5v
  rw [List.getElem?_map, List.getElem?_range h]
  rfl
theorem pi_at (K : Nat → Int) (l : List Tk) (p : Int) : ((of5 K 0 (fr5 l (wh5 p l)) 0 : Nat) : Int) = (cn5 K l).π p := by
  rw [pi_st]
  unfold fr5
  rw [List.map_take]
/-- Where no fault is told, its place is 0. -/
theorem cut_zero5 {s : ByteArray} {m : Int} (hc : (cutL (blK s) m).2.1 = 0) : ∃ T, cutL (blK s) m = (T, 0, 0) := by
  have h2 : (cutL (blK s) m).2.2 = 0 := by
    unfold cutL at hc ⊢
    split at hc
    · exact absurd (show (41 : Int) = 0 from hc) (by decide)
    · rename_i hm
      rw [if_neg hm]
      rcases ct_fault ((blK s).length + 1) (blK s) 0 [] (by omega) with h1 | ⟨p, -, -, h3, -⟩
      · exact h1.2
      · exfalso; omega
  exact ⟨_, Prod.ext rfl (Prod.ext hc h2)⟩
/-- What Program answers, told by three letters; likewise Query. -/
def PP5 (X : World) (c a : Int) (ks : List Ck) (e : Ending) (w' : World) : Prop := Below X.heap.size X w' ∧ ∃ v l, e = .returned (.tuple #[v, .agg #[.int .i64 c, .int .i64 a]]) ∧ RL (fun b => X.heap.size ≤ b) w' v l ∧ l.map Cm.key = ks ∧ l.length ≤ 200000000
def QQ5 (X : World) (c a : Int) (x : At) (e : Ending) (w' : World) : Prop := Below X.heap.size X w' ∧ ∃ y, e = .returned (.tuple #[x.v y, .agg #[.int .i64 c, .int .i64 a]]) ∧ Ot5 w' X.heap.size y x.args
theorem pp_err {X : World} {f : Int × Int} {e : Ending} {w' : World} (h : ReP X (.error f) e w') : PP5 X f.1 f.2 [] e w' := by
  obtain ⟨hb, v, c, a, rfl, rfl, rfl, rfl⟩ := h
  exact ⟨hb, _, [], rfl, ⟨World.ownsRow_nil _ _ _ _, (fun g hg => by cases hg), fun c hc => by cases hc⟩, rfl, Nat.zero_le _⟩
theorem pp_ok {X : World} {ks : List Ck} {e : Ending} {w' : World} (hl : ks.length ≤ 200000000) (h : ReP X (.ok ks) e w') : PP5 X 0 0 ks e w' := by
  obtain ⟨hb, v, c, a, rfl, rfl, rfl, l, hk, hrl⟩ := h
  exact ⟨hb, v, l, rfl, hrl, hk, by have := congrArg List.length hk; rw [List.length_map] at this; omega⟩
/-- Both texts' answers. -/
theorem tok_pg (K : Nat → Int) {s : ByteArray} {l : List Tk} (h : cutL (blK s) 32768 = (l, 0, 0)) (hz : (st5 K l).length ≤ 32768) :
    ∃ c a a' ks, (∀ X : World, EnvOk X → OpsOk X → Calls Tryz.prog 11 #[.string s] X (PP5 X c a ks)) ∧ (∀ X : World, EnvOk X → OpsOk X → Calls Tryz.prog 11 #[.string (ofL (st5 K l))] X (PP5 X c a' ks)) ∧ ((c = 0 ∧ a = 0 ∧ a' = 0) ∨ (c ≠ 0 ∧ a' = (cn5 K l).π a)) := by
  have hs := (cut_ok h).1
  have e1 := pg_st K (Int.le_refl _) h hz
  have c1 : (ofL (st5 K l)).size = (st5 K l).length := ofL_sz _
  cases hp : pg5 s 1048576 with
  | error f =>
    rw [hp] at e1
    have h1 := er_pg2 hp
    refine ⟨f.1, f.2, (cn5 K l).π f.2, [], fun X hE hO => ?_, fun X hE hO => ?_, Or.inr ⟨h1.1, rfl⟩⟩
    · refine (program_any s (by omega) X hE hO).mono fun e w' h => ?_
      rw [hp] at h
      exact pp_err h
    · refine (program_any _ (by omega) X hE hO).mono fun e w' h => ?_
      rw [e1] at h
      exact pp_err (f := (f.1, (cn5 K l).π f.2)) h
  | ok ks =>
    rw [hp] at e1
    have hl := pg5_len (cut_more h (by decide)) hp
    have hkl : ks.length ≤ 200000000 := by omega
    refine ⟨0, 0, 0, ks, fun X hE hO => ?_, fun X hE hO => ?_, Or.inl ⟨rfl, rfl, rfl⟩⟩
    · refine (program_any s (by omega) X hE hO).mono fun e w' h => ?_
      rw [hp] at h
      exact pp_ok hkl h
    · refine (program_any _ (by omega) X hE hO).mono fun e w' h => ?_
      rw [e1] at h
      exact pp_ok hkl h
theorem tok_qg (K : Nat → Int) {s : ByteArray} {l : List Tk} (h : cutL (blK s) 32768 = (l, 0, 0)) (hz : (st5 K l).length ≤ 32768) :
    ∃ c a a' x, (∀ X : World, EnvOk X → OpsOk X → Calls Tryz.prog 14 #[.string s] X (QQ5 X c a x)) ∧ (∀ X : World, EnvOk X → OpsOk X → Calls Tryz.prog 14 #[.string (ofL (st5 K l))] X (QQ5 X c a' x)) ∧ ((c = 0 ∧ a = 0 ∧ a' = 0) ∨ (c ≠ 0 ∧ a' = (cn5 K l).π a)) ∧ x.args.length ≤ 200000000 := by
  have hs := (cut_ok h).1
  have e1 := qg_st (M := 32768) K (Int.le_refl _) (Int.le_refl _) h hz
  have c1 : (ofL (st5 K l)).size = (st5 K l).length := ofL_sz _
  cases hp : qg5 s 32768 with
  | error f =>
    rw [hp] at e1
    have h1 := er_qg hp
    refine ⟨f.1, f.2, (cn5 K l).π f.2, at0, fun X hE hO => ?_, fun X hE hO => ?_, Or.inr ⟨h1.1, rfl⟩, Nat.zero_le _⟩
    · refine (query_any s (by omega) X hE hO).mono fun e w' h => ?_
      rw [hp] at h
      obtain ⟨hb, x, y, c, a, rfl, hy, rfl, rfl, rfl⟩ := h
      exact ⟨hb, y, rfl, hy⟩
    · refine (query_any _ (by omega) X hE hO).mono fun e w' h => ?_
      rw [e1] at h
      obtain ⟨hb, x, y, c, a, rfl, hy, rfl, rfl, rfl⟩ := h
      exact ⟨hb, y, rfl, hy⟩
  | ok x' =>
    rw [hp] at e1
    have hx : x'.args.length ≤ 200000000 := by
      have := (err_zero' (ok_qg hp).1).2.1
      omega
    refine ⟨0, 0, 0, x', fun X hE hO => ?_, fun X hE hO => ?_, Or.inl ⟨rfl, rfl, rfl⟩, hx⟩
    · refine (query_any s (by omega) X hE hO).mono fun e w' h => ?_
      rw [hp] at h
      obtain ⟨hb, x, y, c, a, rfl, hy, rfl, rfl, rfl⟩ := h
      exact ⟨hb, y, rfl, hy⟩
    · refine (query_any _ (by omega) X hE hO).mono fun e w' h => ?_
      rw [e1] at h
      obtain ⟨hb, x, y, c, a, rfl, hy, rfl, rfl, rfl⟩ := h
      exact ⟨hb, y, rfl, hy⟩
set_option maxRecDepth 20000 in
set_option maxHeartbeats 2000000 in
theorem cut_long (s : ByteArray) (most : Int) (hm : most < (s.size : Int)) (w : World) :
    Calls Tryz.prog 7 #[.string s, .int .i64 most] w (KPost w (cutL (blK s) most)) := by
  unfold cutL
  rw [bl_len, if_pos hm]
  go_enter Tryz.func7, Tryz.ntmps7
  go_upto_region 1 with fail
  have fx := Fx.start w
  revert fx
  generalize w.alloc (.cells #[.int .i64 0, .int .i64 0] 26) = W1
  intro fx
  have HFX : Hid (Fx w W1) := fx
  obtain ⟨b0, b1, b2, b3⟩ := two fx.f
  clear fx
  go_step3
  go_wp2
  exact bodyPost_ret (v := .tuple #[.slice none 0 0, .agg #[.int .i64 41, .int .i64 0]]) (HFX.out.res Tryz.results7 _ _ 41 0 rfl rfl) rfl ⟨_, rfl, OwnK.nil _ _, HFX.out.bel 41 0⟩
theorem cut_all (s : ByteArray) (most : Int) (hm : most ≤ 9000000) (w : World) (hE : EnvOk w) : Calls Tryz.prog 7 #[.string s, .int .i64 most] w (KPost w (cutL (blK s) most)) := by
  by_cases h : s.size ≤ 9000000
  · exact cut_any s most h w hE
  · exact cut_long s most (by omega) w
end Go.Proofs.YtcpjiahdaplhlaaGreatDoor

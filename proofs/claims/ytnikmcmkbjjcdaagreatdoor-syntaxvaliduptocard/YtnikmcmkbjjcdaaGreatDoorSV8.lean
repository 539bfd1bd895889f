import Derived.Test.YtnikmcmkbjjcdaaGreatDoorSJ4
import Derived.Test.YtnikmcmkbjjcdaaGreatDoorSV5
import Derived.Test.YtnikmcmkbjjcdaaGreatDoorSV6
/-
  PLAIN: a fault's number is not 0.
-/
namespace Go.Proofs.YtnikmcmkbjjcdaaGreatDoor
open Go.RowKit

variable {Q : Int × Int → Prop}
/-- What may be said of a fault at a token or at the end. -/
structure HQ (T : List Tk) (L : Nat) (Q : Int × Int → Prop) : Prop where
  t : ∀ (c : Int) (t : Tk), c ≠ 0 → t ∈ T → Q (c, t.a)
  l : ∀ c : Int, c ≠ 0 → Q (c, (L : Int))
theorem HQ.pl {T : List Tk} {L : Nat} (h : HQ T L Q) {c : Int} (hc : c ≠ 0) (s : Ps) : Q (c, pl5 T L s) := by
  unfold pl5
  cases hs : T[s.nx]? with
  | none => exact h.l c hc
  | some t => exact h.t c t hc (List.mem_of_getElem? hs)
def Er {α : Type} (Q : Int × Int → Prop) (k : Nat) (f : Ps → R5 α) : Prop := ∀ s e, s.op = k → f s = .error e → Q e
theorem Er.and {α β : Type} {k : Nat} {f : Ps → R5 α} {p : α → Ps → R5 β} (h : Er Q k f) (hg : Goes f) (hp : ∀ a, Er Q k (p a)) : Er Q k fun s => (f s).and p := fun s e hs he => by
  cases hf : f s with
  | error x =>
    have he' : (f s).and p = .error e := he
    rw [hf] at he'
    have : x = e := Except.error.inj he'
    exact this ▸ h s x hs hf
  | ok a =>
    obtain ⟨a, s'⟩ := a
    have he' : (f s).and p = .error e := he
    rw [hf] at he'
    exact hp a s' e ((hg s a s' hf).1.trans hs) he'
theorem er_pure {α : Type} {k : Nat} (F : Ps → α × Ps) : Er Q k fun s => (.ok (F s) : R5 α) := fun s e _ he => by cases he
theorem er_ok {α : Type} {k : Nat} (a : α) : Er Q k fun s => (.ok (a, s) : R5 α) := er_pure fun s => (a, s)
theorem Er.ite {α : Type} {k : Nat} {c : Ps → Prop} [∀ s, Decidable (c s)] {f p : Ps → R5 α} (h : Er Q k f) (hp : Er Q k p) : Er Q k fun s => if c s then f s else p s := fun s e hs he => by
  have he' : (if c s then f s else p s) = .error e := he
  by_cases hc : c s
  · rw [if_pos hc] at he'; exact h s e hs he'
  · rw [if_neg hc] at he'; exact hp s e hs he'
theorem er_tk {T : List Tk} {L : Nat} (hQ : HQ T L Q) (k : Nat) (ks : List Int) : Er Q k (tk5 T L ks) := fun s e _ he => by
  unfold tk5 at he
  cases hs : T[s.nx]? with
  | none =>
    rw [hs] at he
    rw [← Except.error.inj he]; exact hQ.l 51 (by decide)
  | some t =>
    rw [hs] at he
    have he' : (if t.k ∈ ks then _ else _ : R5 Tk) = .error e := he
    by_cases hk : t.k ∈ ks
    · rw [if_pos hk] at he'; cases he'
    · rw [if_neg hk] at he'
      rw [← Except.error.inj he']; exact hQ.t 51 t (by decide) (List.mem_of_getElem? hs)
theorem er_tm {T : List Tk} {L : Nat} (hQ : HQ T L Q) (k : Nat) : Er Q k (tm5 T L) := (er_tk hQ k _).and (goes_tk T L _) fun _ => er_pure _
theorem er_who {T : List Tk} {L : Nat} (hQ : HQ T L Q) (k : Nat) : Er Q k (who5 T L) := (er_tk hQ k _).and (goes_tk T L _) fun _ => er_pure _
theorem er_ls {α : Type} {one : Ps → R5 α} {T : List Tk} {L : Nat} (hQ : HQ T L Q) (k : Nat) (b : Int) (h : Er Q k one) (hg : Goes one) : ∀ (f : Nat) (acc : List α), Er Q k (ls5 one T L b f acc)
  | 0, acc => er_ok acc
  | f + 1, acc => Er.ite ((er_tk hQ k _).and (goes_tk T L _) fun _ => h.and hg fun a => er_ls hQ k b h hg f (acc ++ [a])) (er_ok acc)
theorem er_list {α : Type} {one : Ps → R5 α} {T : List Tk} {L : Nat} (hQ : HQ T L Q) (k : Nat) (b : Int) (h : Er Q k one) (hg : Goes one) : Er Q k (list5 one T L b) := h.and hg fun _ => er_ls hQ k b h hg _ _
theorem er_args {T : List Tk} {L : Nat} (hQ : HQ T L Q) (k : Nat) : Er Q k (args5 T L) := Er.ite ((er_tk hQ k _).and (goes_tk T L _) fun _ => (er_list hQ k 8 (er_tm hQ k) (goes_tm T L)).and (goes_list T L 8 (goes_tm T L)) fun l => (er_tk hQ k _).and (goes_tk T L _) fun _ => er_ok l) (er_ok [])
theorem er_by {T : List Tk} {L : Nat} (hQ : HQ T L Q) (k : Nat) : Er Q k (by5 T L) := Er.ite (er_ok _) ((er_who hQ k).and (goes_who T L) fun t => (er_tk hQ k _).and (goes_tk T L _) fun _ => er_ok t)
theorem er_at {T : List Tk} {L : Nat} (hQ : HQ T L Q) (k : Nat) : Er Q k (at5 T L) := (er_by hQ k).and (goes_by T L) fun _ => (er_tk hQ k _).and (goes_tk T L _) fun _ => (er_args hQ k).and (goes_args T L) fun _ => er_ok _
theorem er_te {T : List Tk} {L : Nat} (hQ : HQ T L Q) (k : Nat) : Er Q k (te5 T L) := (er_tm hQ k).and (goes_tm T L) fun _ => (er_tk hQ k _).and (goes_tk T L _) fun _ => (er_tm hQ k).and (goes_tm T L) fun _ => er_ok _
theorem er_alt {one : Ps → R5 (List (List Lf5))} {T : List Tk} {L : Nat} (hQ : HQ T L Q) (k : Nat) (h : Er Q k one) (hg : Goes one) : Er Q k (altOf5 one T L) :=
  (er_list hQ k 9 ((er_list hQ k 8 h hg).and (goes_list T L 8 hg) fun _ => er_ok _) (goes_conj T L hg)).and (goes_list T L 9 (goes_conj T L hg)) fun _ => er_ok _
theorem er_br {one : Ps → R5 (List (List Lf5))} {T : List Tk} {L : Nat} (hQ : HQ T L Q) (k : Nat) (h : k ≠ 16 → Er Q (k + 1) one) (hg : Goes one) : Er Q k (brOf5 one T L) := fun s e hs he => by
  unfold brOf5 at he
  by_cases e0 : s.op = 16
  · rw [if_pos e0] at he
    rw [← Except.error.inj he]; exact hQ.pl (by decide) s
  · rw [if_neg e0] at he
    have h1 := h fun e1 => e0 (hs.trans e1)
    have hi : Er Q (k + 1) (fun s => (altOf5 one T L s).and fun m s => (tk5 T L [7] s).and fun _ s => .ok (m, ⟨s.nx, s.op - 1, s.vs, s.nm⟩)) := (er_alt hQ (k + 1) h1 hg).and (goes_alt T L hg) fun m => (er_tk hQ (k + 1) _).and (goes_tk T L _) fun _ => er_pure _
    have hj : Er Q k (fun s => (altOf5 one T L ⟨s.nx, s.op + 1, s.vs, s.nm⟩).and fun m s => (tk5 T L [7] s).and fun _ s => .ok (m, ⟨s.nx, s.op - 1, s.vs, s.nm⟩)) := fun s e hs he => hi ⟨s.nx, s.op + 1, s.vs, s.nm⟩ e (by show s.op + 1 = k + 1; rw [hs]) he
    exact ((er_tk hQ k [6]).and (goes_tk T L _) fun _ => hj) s e hs he
theorem er_lit {T : List Tk} {L : Nat} (hQ : HQ T L Q) : ∀ f k : Nat, k ≤ 16 → k + f = 17 → Er Q k (lit5 T L f)
  | 0, k, hk, e => by omega
  | f + 1, k, hk, e => Er.ite (er_br hQ k (fun hne => er_lit hQ f (k + 1) (by omega) (by omega)) (goes_lit T L f)) (Er.ite ((er_at hQ k).and (goes_at T L) fun _ => er_ok _) ((er_te hQ k).and (goes_te T L) fun _ => er_ok _))
theorem er_bd {T : List Tk} {L : Nat} (hQ : HQ T L Q) : Er Q 0 (bd5 T L) := Er.ite ((er_tk hQ 0 _).and (goes_tk T L _) fun _ => er_alt hQ 0 (er_lit hQ 17 0 (by decide) rfl) (goes_lit T L 17)) (er_ok [[]])
theorem er_rh {T : List Tk} {L : Nat} (hQ : HQ T L Q) : Er Q 0 (rh5 T L) := (er_at hQ 0).and (goes_at T L) fun _ => (er_bd hQ).and (goes_bd T L) fun _ => (er_tk hQ 0 _).and (goes_tk T L _) fun _ => er_ok _
theorem er_cls {p : Int} (hp : ∀ c : Int, c ≠ 0 → Q (c, p)) (h : At) : ∀ (m : List (List Lf5)) (acc : List Ck) (e : Int × Int), cls5 p h m acc = .error e → Q e
  | [], acc, e, he => by cases he
  | x :: r, acc, e, he => by
    unfold cls5 at he
    by_cases e0 : ch5 (normC (ck5 h x)) = 0
    · rw [if_pos e0] at he; exact er_cls hp h r _ e he
    · rw [if_neg e0] at he
      rw [← Except.error.inj he]; exact hp _ e0
theorem er_rl {T : List Tk} {L nx : Nat} (hQ : HQ T L Q) {e : Int × Int} (he : rl5 T L nx = .error e) : Q e := by
  unfold rl5 at he
  cases hr : rh5 T L (s05 nx) with
  | error x =>
    rw [hr] at he
    have : x = e := Except.error.inj he
    exact this ▸ er_rh hQ (s05 nx) x rfl hr
  | ok p =>
    obtain ⟨⟨h, m⟩, s⟩ := p
    rw [hr] at he
    have he' : (if 64 < m.length then _ else _ : Except (Int × Int) (List Ck × Nat)) = .error e := he
    by_cases hm : 64 < m.length
    · rw [if_pos hm] at he'
      rw [← Except.error.inj he']; exact hQ.pl (by decide) _
    · rw [if_neg hm] at he'
      cases hc : cls5 (pl5 T L (s05 nx)) h m [] with
      | error x =>
        rw [hc] at he'
        have : x = e := Except.error.inj he'
        exact this ▸ er_cls (fun c h0 => hQ.pl h0 _) _ _ _ x hc
      | ok ks => rw [hc] at he'; cases he'
theorem er_pr {T : List Tk} {L : Nat} (hQ : HQ T L Q) : ∀ (f : Nat) (acc : List Ck) (nx : Nat) (e : Int × Int), pr5 T L f acc nx = .error e → Q e
  | 0, acc, nx, e, he => by cases he
  | f + 1, acc, nx, e, he => by
    unfold pr5 at he
    by_cases hn : nx < T.length
    · rw [if_pos hn] at he
      cases hr : rl5 T L nx with
      | error x =>
        rw [hr] at he
        have : x = e := Except.error.inj he
        exact this ▸ er_rl hQ hr
      | ok p => obtain ⟨ks, n'⟩ := p; rw [hr] at he; exact er_pr hQ f _ n' e he
    · rw [if_neg hn] at he; cases he
/-- Where tokens begin. -/
theorem ct_pl5 : ∀ (f : Nat) (l : List Int) (off : Nat) (acc : List Tk) (M : Nat), off + l.length ≤ M → (∀ t ∈ acc, 0 ≤ t.a ∧ t.a ≤ (M : Int)) → ∀ t ∈ (ct f l off acc).1, 0 ≤ t.a ∧ t.a ≤ (M : Int)
  | 0, _, _, acc, _, _, h => h
  | _ + 1, [], _, acc, _, _, h => h
  | f + 1, c :: r, off, acc, M, hM, h => by
    simp only [List.length_cons] at hM
    rw [ct_cons]
    by_cases q1 : c = 32 ∨ c = 9 ∨ c = 10 ∨ c = 13
    · rw [if_pos q1]
      exact ct_pl5 f r _ acc M (by omega) h
    · rw [if_neg q1]
      by_cases q2 : c = 37
      · rw [if_pos q2]
        have hle := le_le (c :: r)
        simp only [List.length_cons] at hle
        exact ct_pl5 f _ _ acc M (by rw [List.length_drop, List.length_cons]; omega) h
      · rw [if_neg q2]
        cases et : tok (c :: r) with
        | bad e o => intro t ht; cases ht
        | ok k x n len =>
          have htl := (tok_len c r).1 k x n len et
          refine ct_pl5 f _ _ _ M (by rw [List.length_drop, List.length_cons]; omega) fun t ht => ?_
          rcases List.mem_append.1 ht with ht | ht
          · exact h t ht
          · rw [List.mem_singleton.1 ht]
            exact ⟨by show (0 : Int) ≤ (off : Int); omega, by show (off : Int) ≤ (M : Int); omega⟩
end Go.Proofs.YtnikmcmkbjjcdaaGreatDoor
/-
  PLAIN: what is read is valid; where a fault lies; a query's variables are numbered.
-/
namespace Go.Proofs.YtnikmcmkbjjcdaaGreatDoor
open Go.RowKit

/-- Whatever is answered has the property. -/
def Al5 {α : Type} (f : Ps → R5 α) (Q : α → Prop) : Prop := ∀ s a s', f s = .ok (a, s') → Q a
theorem Al5.and {α β : Type} {f : Ps → R5 α} {k : α → Ps → R5 β} {Q : α → Prop} {R : β → Prop} (h : Al5 f Q) (hk : ∀ a, Q a → Al5 (k a) R) : Al5 (fun s => (f s).and k) R := fun s b s' e => by
  obtain ⟨a, s1, h1, h2⟩ := and5_inv e
  exact hk a (h s a s1 h1) s1 b s' h2
theorem al_ok {α : Type} {Q : α → Prop} (a : α) (h : Q a) : Al5 (fun s => (.ok (a, s) : R5 α)) Q := fun s b s' e => by
  have : a = b := congrArg Prod.fst (Except.ok.inj e)
  rw [← this]; exact h
theorem al_if {α : Type} {p : Ps → Prop} [∀ s, Decidable (p s)] {f g : Ps → R5 α} {Q : α → Prop} (hf : Al5 f Q) (hg : Al5 g Q) : Al5 (fun s => if p s then f s else g s) Q := fun s a s' e => by
  by_cases hp : p s
  · simp only [if_pos hp] at e; exact hf s a s' e
  · simp only [if_neg hp] at e; exact hg s a s' e
theorem al_tk (T : List Tk) (L : Nat) (ks : List Int) : Al5 (tk5 T L ks) (fun t => t ∈ T) := fun s a s' e => by
  obtain ⟨h, -, -⟩ := tk5_some e
  exact List.mem_of_getElem? h
/-- A term that is a variable, or whose number is one of 64 bits. -/
def Tn5 (t : Tm) : Prop := t.var = true ∨ N64 t.n
theorem n64_0 : N64 0 := by unfold N64; omega
theorem al_mean {T : List Tk} (hT : ∀ t ∈ T, N64 t.n) (L : Nat) (ks : List Int) : Al5 (fun s => (tk5 T L ks s).and fun t s => (.ok (mean5 t s) : R5 Tm)) Tn5 := (al_tk T L ks).and fun t ht s a s' e => by
  have h1 : mean5 t s = (a, s') := Except.ok.inj e
  have h2 : (mean5 t s).1 = a := congrArg Prod.fst h1
  rw [← h2]
  unfold mean5
  split
  · exact Or.inl (by simp [Tm.var])
  · split
    · exact Or.inr (hT t ht)
    · exact Or.inr n64_0
theorem al_ls {α : Type} {one : Ps → R5 α} {Q : α → Prop} (T : List Tk) (L : Nat) (b : Int) (h : Al5 one Q) : ∀ (f : Nat) (acc : List α), (∀ a ∈ acc, Q a) → Al5 (ls5 one T L b f acc) (fun l => ∀ a ∈ l, Q a)
  | 0, acc, ha => al_ok acc ha
  | f + 1, acc, ha => al_if ((al_tk T L [b]).and fun _ _ => h.and fun a hq => al_ls T L b h f (acc ++ [a]) fun x hx => by
      rcases List.mem_append.1 hx with hx | hx
      · exact ha x hx
      · rw [List.mem_singleton.1 hx]; exact hq) (al_ok acc ha)
theorem al_list {α : Type} {one : Ps → R5 α} {Q : α → Prop} (T : List Tk) (L : Nat) (b : Int) (h : Al5 one Q) : Al5 (list5 one T L b) (fun l => ∀ a ∈ l, Q a) := h.and fun a hq => al_ls T L b h _ [a] fun x hx => by rw [List.mem_singleton.1 hx]; exact hq
def qAn (a : At) : Prop := ∀ t ∈ a.pl, Tn5 t
def qEn (e : Te) : Prop := Tn5 e.l ∧ Tn5 e.r
def qFn : Lf5 → Prop
  | .a x => qAn x
  | .t x => qEn x
theorem al_args {T : List Tk} (hT : ∀ t ∈ T, N64 t.n) (L : Nat) : Al5 (args5 T L) (fun l => ∀ t ∈ l, Tn5 t) := al_if ((al_tk T L _).and fun _ _ => (al_list T L 8 (al_mean hT L _)).and fun l hl => (al_tk T L _).and fun _ _ => al_ok l hl) (al_ok [] fun t ht => by cases ht)
theorem al_by {T : List Tk} (hT : ∀ t ∈ T, N64 t.n) (L : Nat) : Al5 (by5 T L) Tn5 := al_if (al_ok _ (Or.inr n64_0)) ((al_mean hT L _).and fun t ht => (al_tk T L _).and fun _ _ => al_ok t ht)
theorem al_at {T : List Tk} (hT : ∀ t ∈ T, N64 t.n) (L : Nat) : Al5 (at5 T L) qAn := (al_by hT L).and fun b hb => (al_tk T L _).and fun _ _ => (al_args hT L).and fun l hl => al_ok _ fun t ht => by
  rcases List.mem_cons.1 ht with rfl | ht
  · exact hb
  · exact hl t ht
theorem al_te {T : List Tk} (hT : ∀ t ∈ T, N64 t.n) (L : Nat) : Al5 (te5 T L) qEn := (al_mean hT L _).and fun _ hl => (al_tk T L _).and fun _ _ => (al_mean hT L _).and fun _ hr => al_ok _ ⟨hl, hr⟩
def qWn (m : List (List Lf5)) : Prop := ∀ x ∈ m, ∀ l ∈ x, qFn l
theorem qWn_cross : ∀ {ms : List (List (List Lf5))}, (∀ m ∈ ms, qWn m) → qWn (cross5 ms)
  | [], _ => fun x hx l hl => by rw [cross5_nil] at hx; rw [List.mem_singleton.1 hx] at hl; cases hl
  | m :: r, h => fun x hx l hl => by
    rw [cross5_cons] at hx
    obtain ⟨a, ha, hx⟩ := List.mem_flatMap.1 hx
    obtain ⟨b, hb, rfl⟩ := List.mem_map.1 hx
    rcases List.mem_append.1 hl with hl | hl
    · exact h m (List.mem_cons_self ..) a ha l hl
    · exact qWn_cross (fun k hk => h k (List.mem_cons_of_mem _ hk)) b hb l hl
theorem al_alt {T : List Tk} {L : Nat} {one : Ps → R5 (List (List Lf5))} (h : Al5 one qWn) : Al5 (altOf5 one T L) qWn :=
  (al_list T L 9 ((al_list T L 8 h).and fun ms hm => al_ok (cross5 ms) (qWn_cross hm))).and fun ms hm => al_ok ms.flatten fun x hx l hl => by
    obtain ⟨m, h1, h2⟩ := List.mem_flatten.1 hx
    exact hm m h1 x h2 l hl
theorem al_br {T : List Tk} {L : Nat} {one : Ps → R5 (List (List Lf5))} (h : Al5 one qWn) : Al5 (brOf5 one T L) qWn := fun s a s' e => by
  unfold brOf5 at e
  by_cases ho : s.op = 16
  · rw [if_pos ho] at e; cases e
  · rw [if_neg ho] at e
    obtain ⟨t, s1, h1, h2⟩ := and5_inv e
    obtain ⟨m, s2, h3, h4⟩ := and5_inv h2
    obtain ⟨u, s3, h5, h6⟩ := and5_inv h4
    have : m = a := congrArg Prod.fst (Except.ok.inj h6)
    rw [← this]
    exact al_alt h _ _ _ h3
theorem al_lit {T : List Tk} (hT : ∀ t ∈ T, N64 t.n) (L : Nat) : ∀ f, Al5 (lit5 T L f) qWn
  | 0 => fun s a s' e => by cases e
  | f + 1 => al_if (al_br (al_lit hT L f)) (al_if ((al_at hT L).and fun a ha => al_ok _ fun x hx l hl => by
      rw [List.mem_singleton.1 hx] at hl
      rw [List.mem_singleton.1 hl]
      exact ha) ((al_te hT L).and fun a ha => al_ok _ fun x hx l hl => by
      rw [List.mem_singleton.1 hx] at hl
      rw [List.mem_singleton.1 hl]
      exact ha))
theorem al_bd {T : List Tk} (hT : ∀ t ∈ T, N64 t.n) (L : Nat) : Al5 (bd5 T L) qWn := al_if ((al_tk T L _).and fun _ _ => al_alt (al_lit hT L 17)) (al_ok [[]] fun x hx l hl => by rw [List.mem_singleton.1 hx] at hl; cases hl)
theorem fa5_qn : ∀ {x : List Lf5}, (∀ l ∈ x, qFn l) → (∀ a ∈ fa5 x, qAn a) ∧ ∀ e ∈ ft5 x, qEn e
  | [], _ => ⟨(fun a ha => by cases ha), fun e he => by cases he⟩
  | .a y :: r, h => by
    have ih := fa5_qn fun l hl => h l (List.mem_cons_of_mem _ hl)
    refine ⟨fun a ha => ?_, ih.2⟩
    rcases List.mem_cons.1 (show a ∈ y :: fa5 r from ha) with rfl | ha
    · exact h _ (List.mem_cons_self ..)
    · exact ih.1 a ha
  | .t y :: r, h => by
    have ih := fa5_qn fun l hl => h l (List.mem_cons_of_mem _ hl)
    refine ⟨ih.1, fun e he => ?_⟩
    rcases List.mem_cons.1 (show e ∈ y :: ft5 r from he) with rfl | he
    · exact h _ (List.mem_cons_self ..)
    · exact ih.2 e he
theorem ck_tn {h : At} {x : List Lf5} (hh : qAn h) (hx : ∀ l ∈ x, qFn l) : ∀ t ∈ Ck.terms (ck5 h x), Tn5 t := fun t ht => by
  obtain ⟨h1, h2⟩ := fa5_qn hx
  unfold Ck.terms ck5 at ht
  rcases List.mem_append.1 ht with ht | ht
  · exact hh t ht
  · rcases List.mem_append.1 ht with ht | ht
    · obtain ⟨a, ha, hta⟩ := List.mem_flatMap.1 ht
      exact h1 a ha t hta
    · obtain ⟨e, he, hte⟩ := List.mem_flatMap.1 ht
      simp only [List.mem_cons, List.not_mem_nil, or_false] at hte
      rcases hte with rfl | rfl
      · exact (h2 e he).1
      · exact (h2 e he).2
theorem norm_tn {x : Ck} (h : ∀ t ∈ Ck.terms x, Tn5 t) : ∀ t ∈ Ck.terms (normC x), Tn5 t := fun t ht => by
  unfold normC at ht
  rw [mapC_terms] at ht
  obtain ⟨u, hu, rfl⟩ := List.mem_map.1 ht
  unfold nmT
  by_cases hm : u ∈ disT (Ck.terms x)
  · rw [if_pos hm]; exact Or.inl (by simp [Tm.var])
  · rw [if_neg hm]; exact h u hu
/-- A valid clause's numbers. -/
theorem val_n64 {x : Ck} (h : ch5 x = 0) (hn : ∀ t ∈ Ck.terms x, Tn5 t) : ∀ t ∈ Ck.terms x, N64 t.n := fun t ht => by
  obtain ⟨hv, hm⟩ := ch_val5 h
  rcases hn t ht with h1 | h1
  · obtain ⟨m, hd, hlt⟩ := num_vars hm
    have h2 := num_le hv hd
    have h3 := hlt t ht h1
    have h4 := var_nn h1
    unfold N64
    omega
  · exact h1
/-- What a clause is that was read. -/
def Gd5 (x : Ck) : Prop := ch5 x = 0 ∧ ∀ t ∈ Ck.terms x, N64 t.n
theorem gd_cls {p : Int} {h : At} (hh : qAn h) : ∀ (m : List (List Lf5)) (acc ks : List Ck), qWn m → (∀ k ∈ acc, Gd5 k) → cls5 p h m acc = .ok ks → ∀ k ∈ ks, Gd5 k
  | [], acc, ks, _, ha, e => by
    have : acc = ks := Except.ok.inj e
    rw [← this]; exact ha
  | x :: r, acc, ks, hm, ha, e => by
    unfold cls5 at e
    by_cases hc : ch5 (normC (ck5 h x)) = 0
    · rw [if_pos hc] at e
      refine gd_cls hh r _ ks (fun y hy => hm y (List.mem_cons_of_mem _ hy)) (fun k hk => ?_) e
      rcases List.mem_append.1 hk with hk | hk
      · exact ha k hk
      · rw [List.mem_singleton.1 hk]
        exact ⟨hc, val_n64 hc (norm_tn (ck_tn hh (hm x (List.mem_cons_self ..))))⟩
    · rw [if_neg hc] at e; cases e
theorem gd_rl {T : List Tk} (hT : ∀ t ∈ T, N64 t.n) {L nx n' : Nat} {ks : List Ck} (h : rl5 T L nx = .ok (ks, n')) : ∀ k ∈ ks, Gd5 k := by
  unfold rl5 at h
  cases hr : rh5 T L (s05 nx) with
  | error e => rw [hr] at h; cases h
  | ok p =>
    obtain ⟨⟨a, m⟩, s⟩ := p
    rw [hr] at h
    have h1 : (if 64 < m.length then (.error (53, pl5 T L (s05 nx)) : Except (Int × Int) (List Ck × Nat)) else match cls5 (pl5 T L (s05 nx)) a m [] with
      | .error e => .error e
      | .ok ks => .ok (ks, s.nx)) = .ok (ks, n') := h
    by_cases hm : 64 < m.length
    · rw [if_pos hm] at h1; cases h1
    · rw [if_neg hm] at h1
      unfold rh5 at hr
      obtain ⟨b, s1, h2, h3⟩ := and5_inv hr
      obtain ⟨m2, s2, h4, h5⟩ := and5_inv h3
      obtain ⟨t, s3, h6, h7⟩ := and5_inv h5
      have e1 : (b, m2) = (a, m) := congrArg Prod.fst (Except.ok.inj h7)
      have q1 := al_at hT L _ _ _ h2
      have q2 := al_bd hT L _ _ _ h4
      rw [(Prod.mk.inj e1).1] at q1
      rw [(Prod.mk.inj e1).2] at q2
      cases hc : cls5 (pl5 T L (s05 nx)) a m [] with
      | error e => rw [hc] at h1; cases h1
      | ok k =>
        rw [hc] at h1
        have e2 : k = ks := congrArg Prod.fst (Except.ok.inj h1)
        rw [e2] at hc
        exact gd_cls q1 m [] ks q2 (fun k hk => by cases hk) hc
theorem gd_pr {T : List Tk} (hT : ∀ t ∈ T, N64 t.n) {L : Nat} : ∀ (f : Nat) (acc ks : List Ck) (nx : Nat), (∀ k ∈ acc, Gd5 k) → pr5 T L f acc nx = .ok ks → ∀ k ∈ ks, Gd5 k
  | 0, acc, ks, nx, ha, e => by
    have : acc = ks := Except.ok.inj e
    rw [← this]; exact ha
  | f + 1, acc, ks, nx, ha, e => by
    unfold pr5 at e
    by_cases hn : nx < T.length
    · rw [if_pos hn] at e
      cases hr : rl5 T L nx with
      | error x => rw [hr] at e; cases e
      | ok p =>
        obtain ⟨k1, n'⟩ := p
        rw [hr] at e
        exact gd_pr hT f _ ks n' (fun k hk => (List.mem_append.1 hk).elim (ha k) (gd_rl hT hr k)) e
    · rw [if_neg hn] at e
      have : acc = ks := Except.ok.inj e
      rw [← this]; exact ha
theorem cut_n64 (s : ByteArray) (most : Int) : ∀ t ∈ (cutL (blK s) most).1, N64 t.n := by
  unfold cutL
  split
  · intro t ht; cases ht
  · intro t ht
    have := ((ct_has ((blK s).length + 1) (blK s) 0 [] (blK s).length (bl_byt s) (Nat.le_refl _) (fun t ht => by cases ht)).1 t ht).2.2
    exact this
/-- Every clause of a program is valid. -/
theorem gd_pg {s : ByteArray} {most : Int} {ks : List Ck} (h : pg5 s most = .ok ks) : ∀ k ∈ ks, Gd5 k := by
  unfold pg5 at h
  split at h
  · exact gd_pr (cut_n64 s most) _ _ _ _ (fun k hk => by cases hk) h
  · cases h
/-- Cutting's fault lies within the text. -/
theorem cut_er {s : ByteArray} {most : Int} (h : (cutL (blK s) most).2.1 ≠ 0) : 0 ≤ (cutL (blK s) most).2.2 ∧ (cutL (blK s) most).2.2 ≤ (s.size : Int) := by
  unfold cutL at h ⊢
  split
  · exact ⟨Int.le_refl _, by show (0 : Int) ≤ _; omega⟩
  · rename_i hm
    rw [if_neg hm] at h
    rcases ct_fault ((blK s).length + 1) (blK s) 0 [] (by omega) with ⟨h1, -⟩ | ⟨p, h1, h2, -⟩
    · exact absurd h1 h
    · rw [h1]
      rw [bl_len] at h2
      omega
theorem cut_pl {s : ByteArray} {most : Int} : ∀ t ∈ (cutL (blK s) most).1, 0 ≤ t.a ∧ t.a ≤ (s.size : Int) := by
  unfold cutL
  split
  · intro t ht; cases ht
  · exact ct_pl5 ((blK s).length + 1) (blK s) 0 [] s.size (by rw [bl_len]; omega) (fun t ht => by cases ht)
theorem hq5 (s : ByteArray) (most : Int) : HQ (cutL (blK s) most).1 s.size (fun e => e.1 ≠ 0 ∧ 0 ≤ e.2 ∧ e.2 ≤ (s.size : Int)) := ⟨fun c t h0 ht => ⟨h0, cut_pl t ht⟩, fun c h0 => ⟨h0, by show (0 : Int) ≤ (s.size : Int); omega, Int.le_refl _⟩⟩
theorem er_pg2 {s : ByteArray} {most : Int} {e : Int × Int} (he : pg5 s most = .error e) : e.1 ≠ 0 ∧ 0 ≤ e.2 ∧ e.2 ≤ (s.size : Int) := by
  unfold pg5 at he
  split at he
  · exact er_pr (hq5 s most) _ _ _ e he
  · rename_i hc
    have h1 : ((cutL (blK s) most).2.1, (cutL (blK s) most).2.2) = e := Except.error.inj he
    rw [← h1]
    exact ⟨hc, cut_er hc⟩
theorem er_qg {s : ByteArray} {most : Int} {e : Int × Int} (he : qg5 s most = .error e) : e.1 ≠ 0 ∧ 0 ≤ e.2 ∧ e.2 ≤ (s.size : Int) := by
  unfold qg5 at he
  split at he
  · have hQ := hq5 s most
    unfold qy5 at he
    cases h1 : at5 (cutL (blK s) most).1 s.size (s05 0) with
    | error x =>
      rw [h1] at he
      rw [← Except.error.inj he]
      exact er_at hQ 0 _ _ rfl h1
    | ok p =>
      obtain ⟨a, s1⟩ := p
      rw [h1] at he
      have ho := (goes_at _ _ _ _ _ h1).1
      cases h2 : tk5 (cutL (blK s) most).1 s.size [12] s1 with
      | error x =>
        simp only [h2] at he
        rw [← Except.error.inj he]
        exact er_tk hQ s1.op _ _ _ rfl h2
      | ok p =>
        obtain ⟨t, s2⟩ := p
        simp only [h2] at he
        split at he
        · rw [← Except.error.inj he]; exact hQ.pl (by decide) s2
        · split at he
          · cases he
          · rename_i hx
            rw [← Except.error.inj he]; exact hQ.pl hx _
  · rename_i hc
    have h1 : ((cutL (blK s) most).2.1, (cutL (blK s) most).2.2) = e := Except.error.inj he
    rw [← h1]
    exact ⟨hc, cut_er hc⟩
/-- Variables are numbered as they first stand there. -/
def Nu5 {α : Type} (f : Ps → R5 α) (v : α → List Tm) : Prop := ∀ s a s', (∀ x k, s.nm x = some k → k < s.vs) → f s = .ok (a, s') → (∀ x k, s'.nm x = some k → k < s'.vs) ∧ ∀ r, mis (s.vs : Int) (vrs (v a) ++ r) = mis (s'.vs : Int) r
theorem nu_mean (T : List Tk) (L : Nat) (ks : List Int) : Nu5 (fun s => (tk5 T L ks s).and fun t s => (.ok (mean5 t s) : R5 Tm)) (fun t => [t]) := fun s a s' hs e => by
  obtain ⟨t, s1, h1, h2⟩ := and5_inv e
  obtain ⟨-, -, rfl⟩ := tk5_some h1
  have h3 : mean5 t ⟨s.nx + 1, s.op, s.vs, s.nm⟩ = (a, s') := Except.ok.inj h2
  unfold mean5 at h3
  split at h3
  · unfold va5 at h3
    split at h3
    · rename_i hk
      obtain ⟨k, hk1⟩ := Option.isSome_iff_exists.1 hk.1
      have e1 := (Prod.mk.inj h3).1
      have e2 := (Prod.mk.inj h3).2
      rw [← e2, ← e1]
      refine ⟨hs, fun r => ?_⟩
      have hlt := hs _ _ hk1
      have hk2 : s.nm t.x = some k := hk1
      simp only [hk2, Option.getD_some]
      have hv : vrs [(⟨3, (k : Int), ⟨#[]⟩⟩ : Tm)] = [(k : Int)] := by simp [vrs, Tm.var]
      rw [hv]
      show mis (s.vs : Int) ((k : Int) :: r) = _
      rw [mis, if_neg (by omega), if_neg (by omega)]
    · have e1 := (Prod.mk.inj h3).1
      have e2 := (Prod.mk.inj h3).2
      rw [← e2, ← e1]
      refine ⟨fun x k e => ?_, fun r => ?_⟩
      · have e3 : nput s.nm t.x s.vs x = some k := e
        show k < s.vs + 1
        unfold nput at e3
        split at e3
        · have := Option.some.inj e3; omega
        · have := hs x k e3; omega
      · have hv : vrs [(⟨3, (s.vs : Int), ⟨#[]⟩⟩ : Tm)] = [(s.vs : Int)] := by simp [vrs, Tm.var]
        show mis (s.vs : Int) (vrs [(⟨3, (s.vs : Int), ⟨#[]⟩⟩ : Tm)] ++ r) = mis ((s.vs + 1 : Nat) : Int) r
        rw [hv]
        show mis (s.vs : Int) ((s.vs : Int) :: r) = _
        rw [mis, if_neg (by omega), if_pos rfl]
        rfl
  · have hnv : a.var = false := by
      split at h3
      · rw [← (Prod.mk.inj h3).1]; simp [Tm.var]
      · rw [← (Prod.mk.inj h3).1]; simp [Tm.var]
    have e2 : (⟨s.nx + 1, s.op, s.vs, s.nm⟩ : Ps) = s' := by
      split at h3
      · exact (Prod.mk.inj h3).2
      · exact (Prod.mk.inj h3).2
    rw [← e2]
    refine ⟨hs, fun r => ?_⟩
    have hv : vrs [a] = [] := by simp [vrs, hnv]
    rw [hv]
    rfl
theorem nu_tk {T : List Tk} {L : Nat} {ks : List Int} {s s' : Ps} {t : Tk} (h : tk5 T L ks s = .ok (t, s')) : s'.vs = s.vs ∧ s'.nm = s.nm := by
  obtain ⟨-, -, rfl⟩ := tk5_some h
  exact ⟨rfl, rfl⟩
theorem vrs_ap (a b : List Tm) : vrs (a ++ b) = vrs a ++ vrs b := by simp [vrs]
theorem nu_ls (T : List Tk) (L : Nat) : ∀ (f : Nat) (acc : List Tm) (s : Ps) (l : List Tm) (s' : Ps), (∀ x k, s.nm x = some k → k < s.vs) → ls5 (tm5 T L) T L 8 f acc s = .ok (l, s') → (∀ x k, s'.nm x = some k → k < s'.vs) ∧ ∃ m, l = acc ++ m ∧ ∀ r, mis (s.vs : Int) (vrs m ++ r) = mis (s'.vs : Int) r
  | 0, acc, s, l, s', hs, e => by
    have h1 := Prod.mk.inj (Except.ok.inj e)
    rw [← h1.2, ← h1.1]
    exact ⟨hs, [], by simp, fun r => rfl⟩
  | f + 1, acc, s, l, s', hs, e => by
    unfold ls5 at e
    by_cases hk : kd5 T s 0 = 8
    · rw [if_pos hk] at e
      obtain ⟨t, s1, h1, h2⟩ := and5_inv e
      obtain ⟨a, s2, h3, h4⟩ := and5_inv h2
      obtain ⟨v1, n1⟩ := nu_tk h1
      obtain ⟨g1, g2⟩ := nu_mean T L [1, 3, 2, 4] s1 a s2 (by rw [n1, v1]; exact hs) h3
      obtain ⟨g3, m, g4, g5⟩ := nu_ls T L f _ s2 l s' g1 h4
      refine ⟨g3, a :: m, by rw [g4]; simp, fun r => ?_⟩
      rw [show a :: m = [a] ++ m from rfl, vrs_ap, List.append_assoc, ← v1, g2, g5]
    · rw [if_neg hk] at e
      have h1 := Prod.mk.inj (Except.ok.inj e)
      rw [← h1.2, ← h1.1]
      exact ⟨hs, [], by simp, fun r => rfl⟩
theorem nu_at (T : List Tk) (L : Nat) : Nu5 (at5 T L) At.pl := fun s a s' hs e => by
  unfold at5 at e
  obtain ⟨b, s1, h1, h2⟩ := and5_inv e
  obtain ⟨t, s2, h3, h4⟩ := and5_inv h2
  obtain ⟨l, s3, h5, h6⟩ := and5_inv h4
  have h7 := Prod.mk.inj (Except.ok.inj h6)
  rw [← h7.1, ← h7.2]
  have hb : (∀ x k, s1.nm x = some k → k < s1.vs) ∧ ∀ r, mis (s.vs : Int) (vrs [b] ++ r) = mis (s1.vs : Int) r := by
    unfold by5 at h1
    by_cases hc : kd5 T s 0 = 1 ∧ kd5 T s 1 ≠ 5
    · rw [if_pos hc] at h1
      have h8 := Prod.mk.inj (Except.ok.inj h1)
      rw [← h8.1, ← h8.2]
      exact ⟨hs, fun r => rfl⟩
    · rw [if_neg hc] at h1
      obtain ⟨b', s4, h8, h9⟩ := and5_inv h1
      obtain ⟨t', s5, h10, h11⟩ := and5_inv h9
      have h12 := Prod.mk.inj (Except.ok.inj h11)
      obtain ⟨g1, g2⟩ := nu_mean T L [1, 3, 2] s b' s4 hs h8
      obtain ⟨v1, n1⟩ := nu_tk h10
      rw [← h12.1, ← h12.2]
      refine ⟨by rw [n1, v1]; exact g1, fun r => by rw [v1]; exact g2 r⟩
  obtain ⟨v2, n2⟩ := nu_tk h3
  have hl : (∀ x k, s3.nm x = some k → k < s3.vs) ∧ ∀ r, mis (s2.vs : Int) (vrs l ++ r) = mis (s3.vs : Int) r := by
    have hs2 : ∀ x k, s2.nm x = some k → k < s2.vs := by rw [n2, v2]; exact hb.1
    unfold args5 at h5
    by_cases hc : kd5 T s2 0 = 6
    · rw [if_pos hc] at h5
      obtain ⟨t6, s6, h8, h9⟩ := and5_inv h5
      obtain ⟨l', s7, h10, h11⟩ := and5_inv h9
      obtain ⟨t8, s8, h12, h13⟩ := and5_inv h11
      have h14 := Prod.mk.inj (Except.ok.inj h13)
      obtain ⟨v6, n6⟩ := nu_tk h8
      obtain ⟨v8, n8⟩ := nu_tk h12
      unfold list5 at h10
      obtain ⟨a0, s9, h15, h16⟩ := and5_inv h10
      obtain ⟨g1, g2⟩ := nu_mean T L [1, 3, 2, 4] s6 a0 s9 (by rw [n6, v6]; exact hs2) h15
      obtain ⟨g3, m, g4, g5⟩ := nu_ls T L _ _ s9 l' s7 g1 h16
      rw [← h14.1, ← h14.2]
      refine ⟨by rw [n8, v8]; exact g3, fun r => ?_⟩
      rw [g4, vrs_ap, List.append_assoc, ← v6, g2, g5, v8]
    · rw [if_neg hc] at h5
      have h8 := Prod.mk.inj (Except.ok.inj h5)
      rw [← h8.1, ← h8.2]
      exact ⟨hs2, fun r => rfl⟩
  refine ⟨hl.1, fun r => ?_⟩
  show mis (s.vs : Int) (vrs (b :: l) ++ r) = _
  rw [show b :: l = [b] ++ l from rfl, vrs_ap, List.append_assoc, hb.2, ← v2, hl.2]
/-- What a query is that was read. -/
theorem ok_qg {s : ByteArray} {most : Int} {a : At} (h : qg5 s most = .ok a) : a.err = 0 ∧ normC (a, [], []) = (a, [], []) ∧ ∀ t ∈ a.pl, Tn5 t := by
  unfold qg5 at h
  split at h
  · unfold qy5 at h
    cases h1 : at5 (cutL (blK s) most).1 s.size (s05 0) with
    | error x => rw [h1] at h; cases h
    | ok p =>
      obtain ⟨b, s1⟩ := p
      rw [h1] at h
      cases h2 : tk5 (cutL (blK s) most).1 s.size [12] s1 with
      | error x => simp only [h2] at h; cases h
      | ok p =>
        obtain ⟨t, s2⟩ := p
        simp only [h2] at h
        split at h
        · cases h
        · split at h
          · rename_i he
            have e1 : b = a := Except.ok.inj h
            rw [← e1]
            refine ⟨he, norm_id ?_, al_at (cut_n64 s most) _ _ _ _ h1⟩
            have h3 := (nu_at _ _ (s05 0) b s1 (fun x k e => by cases e) h1).2 []
            have h4 : Ck.terms (b, [], []) = b.pl := by simp [Ck.terms, tls]
            rw [h4]
            rw [List.append_nil] at h3
            exact h3
          · cases h
  · cases h
end Go.Proofs.YtnikmcmkbjjcdaaGreatDoor

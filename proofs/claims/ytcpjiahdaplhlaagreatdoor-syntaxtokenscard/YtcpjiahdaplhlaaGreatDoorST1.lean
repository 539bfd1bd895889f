/-
  SyntaxTokens: PLAIN: tokens at other places, their variables called otherwise, are read alike.
-/
import Derived.Test.YtcpjiahdaplhlaaGreatDoorSV5
namespace Go.Proofs.YtcpjiahdaplhlaaGreatDoor
open Go.RowKit

/-- Which names there are, what they are called now, where a place lies now. -/
structure Cn5 where
  D : ByteArray → Prop
  ρ : ByteArray → ByteArray
  π : Int → Int
structure Rs5 (c : Cn5) (s s' : Ps) : Prop where
  nx : s'.nx = s.nx
  op : s'.op = s.op
  vs : s'.vs = s.vs
  nm : ∀ x, c.D x → s'.nm (c.ρ x) = s.nm x
def Rq5 (c : Cn5) {α : Type} : R5 α → R5 α → Prop
  | .error e, .error e' => e' = (e.1, c.π e.2)
  | .ok (a, s), .ok (b, s') => b = a ∧ Rs5 c s s'
  | _, _ => False
structure Kt5 (c : Cn5) (t t' : Tk) : Prop where
  k : t'.k = t.k
  n : t'.n = t.n
  x : t.k ≠ 2 → t'.x = t.x
  v : t.k = 2 → c.D t.x ∧ t'.x = c.ρ t.x
/-- The tokens B, spelt otherwise. -/
structure Tq5 (c : Cn5) (B T : List Tk) (L L' : Nat) : Prop where
  len : T.length = B.length
  at_ : ∀ (i : Nat) (t : Tk), B[i]? = some t → ∃ t', T[i]? = some t' ∧ Kt5 c t t' ∧ t'.a = c.π t.a
  pl : c.π (L : Int) = (L' : Int)
  inj : ∀ x y, c.D x → c.D y → c.ρ x = c.ρ y → x = y
  us : ∀ x, c.D x → (c.ρ x = us5 ↔ x = us5)
theorem Tq5.no {c : Cn5} {B T : List Tk} {L L' : Nat} (h : Tq5 c B T L L') {i : Nat} (hi : B[i]? = none) : T[i]? = none := by
  rw [List.getElem?_eq_none_iff] at hi ⊢
  rw [h.len]; exact hi
theorem Tq5.kd {c : Cn5} {B T : List Tk} {L L' : Nat} (h : Tq5 c B T L L') {s s' : Ps} (hs : Rs5 c s s') (k : Nat) : kd5 T s' k = kd5 B s k := by
  unfold kd5
  rw [hs.nx]
  cases hb : B[s.nx + k]? with
  | none => rw [h.no hb]
  | some t => obtain ⟨t', e, hk, -⟩ := h.at_ _ t hb; rw [e]; exact hk.k
theorem Tq5.place {c : Cn5} {B T : List Tk} {L L' : Nat} (h : Tq5 c B T L L') {s s' : Ps} (hs : Rs5 c s s') : pl5 T L' s' = c.π (pl5 B L s) := by
  unfold pl5
  rw [hs.nx]
  cases hb : B[s.nx]? with
  | none => rw [h.no hb]; exact h.pl.symm
  | some t => obtain ⟨t', e, -, ha⟩ := h.at_ _ t hb; rw [e]; exact ha
/-- g reads as f does. -/
def Sq5 (c : Cn5) {α : Type} (k : Nat) (f g : Ps → R5 α) : Prop := ∀ s s', s.op = k → Rs5 c s s' → Rq5 c (f s) (g s')
theorem Sq5.and {c : Cn5} {α β : Type} {k : Nat} {f g : Ps → R5 α} {p q : α → Ps → R5 β} (h : Sq5 c k f g) (hg : Goes f) (hp : ∀ a, Sq5 c k (p a) (q a)) : Sq5 c k (fun s => (f s).and p) (fun s => (g s).and q) := fun s s' hs hr => by
  show Rq5 c ((f s).and p) ((g s').and q)
  have h1 := h s s' hs hr
  cases hf : f s with
  | error e =>
    rw [hf] at h1
    cases hg' : g s' with
    | error e' => rw [hg'] at h1; exact h1
    | ok b => rw [hg'] at h1; exact h1.elim
  | ok a =>
    obtain ⟨a, s1⟩ := a
    rw [hf] at h1
    cases hg' : g s' with
    | error e' => rw [hg'] at h1; exact h1.elim
    | ok b =>
      obtain ⟨b, s2⟩ := b
      rw [hg'] at h1
      obtain ⟨rfl, h2⟩ := h1
      exact hp b s1 s2 ((hg s b s1 hf).1.trans hs) h2
theorem sq_ok {c : Cn5} {α : Type} {k : Nat} (a : α) : Sq5 c k (fun s => (.ok (a, s) : R5 α)) (fun s => .ok (a, s)) := fun _ _ _ hr => ⟨rfl, hr⟩
theorem Sq5.ite {c : Cn5} {α : Type} {k : Nat} {a b : Ps → Prop} [∀ s, Decidable (a s)] [∀ s, Decidable (b s)] {f g p q : Ps → R5 α} (h : Sq5 c k f g) (hp : Sq5 c k p q) (hc : ∀ s s', Rs5 c s s' → (a s ↔ b s')) : Sq5 c k (fun s => if a s then f s else p s) (fun s => if b s then g s else q s) := fun s s' hs hr => by
  show Rq5 c (if a s then f s else p s) (if b s' then g s' else q s')
  by_cases e : a s
  · rw [if_pos e, if_pos ((hc s s' hr).1 e)]; exact h s s' hs hr
  · rw [if_neg e, if_neg fun h => e ((hc s s' hr).2 h)]; exact hp s s' hs hr
theorem Tq5.kd0 {c : Cn5} {B T : List Tk} {L L' : Nat} (h : Tq5 c B T L L') (b : Int) (s s' : Ps) (hr : Rs5 c s s') : kd5 B s 0 = b ↔ kd5 T s' 0 = b := by rw [h.kd hr]
theorem sq_tk {c : Cn5} {B T : List Tk} {L L' : Nat} (h : Tq5 c B T L L') (k : Nat) (ks : List Int) {β : Type} {p q : Tk → Ps → R5 β} (hp : ∀ t t', t.k ∈ ks → Kt5 c t t' → Sq5 c k (p t) (q t')) : Sq5 c k (fun s => (tk5 B L ks s).and p) (fun s => (tk5 T L' ks s).and q) := fun s s' hs hr => by
  show Rq5 c ((tk5 B L ks s).and p) ((tk5 T L' ks s').and q)
  unfold tk5
  rw [hr.nx]
  cases hb : B[s.nx]? with
  | none =>
    rw [h.no hb]
    show ((51 : Int), (L' : Int)) = (51, c.π (L : Int))
    rw [h.pl]
  | some t =>
    obtain ⟨t', e, hk, ha⟩ := h.at_ _ t hb
    rw [e]
    show Rq5 c (R5.and (if t.k ∈ ks then _ else _) p) (R5.and (if t'.k ∈ ks then _ else _) q)
    by_cases hm : t.k ∈ ks
    · rw [if_pos hm, if_pos (by rw [hk.k]; exact hm)]
      exact hp t t' hm hk _ _ hs ⟨rfl, hr.op, hr.vs, hr.nm⟩
    · rw [if_neg hm, if_neg (by rw [hk.k]; exact hm)]
      show ((51 : Int), t'.a) = (51, c.π t.a)
      rw [ha]
theorem va_sq {c : Cn5} {B T : List Tk} {L L' : Nat} (h : Tq5 c B T L L') {x : ByteArray} (hx : c.D x) {s s' : Ps} (hr : Rs5 c s s') : (va5 (c.ρ x) s').1 = (va5 x s).1 ∧ Rs5 c (va5 x s).2 (va5 (c.ρ x) s').2 := by
  unfold va5
  rw [hr.nm x hx, hr.vs, hr.nx, hr.op]
  by_cases e : (s.nm x).isSome = true ∧ x ≠ us5
  · rw [if_pos e, if_pos ⟨e.1, fun h1 => e.2 ((h.us x hx).1 h1)⟩]
    exact ⟨rfl, hr⟩
  · rw [if_neg e, if_neg fun h1 => e ⟨h1.1, fun h2 => h1.2 ((h.us x hx).2 h2)⟩]
    refine ⟨rfl, rfl, rfl, rfl, fun y hy => ?_⟩
    show nput s'.nm (c.ρ x) s.vs (c.ρ y) = nput s.nm x s.vs y
    unfold nput
    by_cases e2 : y = x
    · rw [e2]; simp
    · have e3 : c.ρ y ≠ c.ρ x := fun h1 => e2 (h.inj y x hy hx h1)
      simp [e2, e3, hr.nm y hy]
theorem sq_mean {c : Cn5} {B T : List Tk} {L L' : Nat} (h : Tq5 c B T L L') (k : Nat) {t t' : Tk} (hk : Kt5 c t t') : Sq5 c k (fun s => (.ok (mean5 t s) : R5 Tm)) (fun s => .ok (mean5 t' s)) := fun s s' _ hr => by
  show Rq5 c (.ok (mean5 t s)) (.ok (mean5 t' s'))
  unfold mean5
  rw [hk.k, hk.n]
  by_cases e : t.k = 2
  · obtain ⟨hd, hx⟩ := hk.v e
    obtain ⟨h1, h2⟩ := va_sq h hd hr
    rw [if_pos e, if_pos e, hx]
    refine ⟨?_, h2⟩
    rw [h1]
  · rw [if_neg e, if_neg e, hk.x e]
    split
    · exact ⟨rfl, hr⟩
    · exact ⟨rfl, hr⟩
theorem sq_tm {c : Cn5} {B T : List Tk} {L L' : Nat} (h : Tq5 c B T L L') (k : Nat) : Sq5 c k (tm5 B L) (tm5 T L') := sq_tk h k _ fun _ _ _ hk => sq_mean h k hk
theorem sq_who {c : Cn5} {B T : List Tk} {L L' : Nat} (h : Tq5 c B T L L') (k : Nat) : Sq5 c k (who5 B L) (who5 T L') := sq_tk h k _ fun _ _ _ hk => sq_mean h k hk
theorem sq_ls {c : Cn5} {α : Type} {one one' : Ps → R5 α} {B T : List Tk} {L L' : Nat} (h : Tq5 c B T L L') (k : Nat) (b : Int) (ho : Sq5 c k one one') (hg : Goes one) : ∀ (f : Nat) (acc : List α), Sq5 c k (ls5 one B L b f acc) (ls5 one' T L' b f acc)
  | 0, acc => sq_ok acc
  | f + 1, acc => Sq5.ite (sq_tk h k _ fun _ _ _ _ => ho.and hg fun a => sq_ls h k b ho hg f (acc ++ [a])) (sq_ok acc) (h.kd0 b)
theorem sq_list {c : Cn5} {α : Type} {one one' : Ps → R5 α} {B T : List Tk} {L L' : Nat} (h : Tq5 c B T L L') (k : Nat) (b : Int) (ho : Sq5 c k one one') (hg : Goes one) : Sq5 c k (list5 one B L b) (list5 one' T L' b) := by
  unfold list5
  rw [h.len]
  exact ho.and hg fun a => sq_ls h k b ho hg _ _
theorem sq_args {c : Cn5} {B T : List Tk} {L L' : Nat} (h : Tq5 c B T L L') (k : Nat) : Sq5 c k (args5 B L) (args5 T L') :=
  Sq5.ite (sq_tk h k _ fun _ _ _ _ => (sq_list h k 8 (sq_tm h k) (goes_tm B L)).and (goes_list B L 8 (goes_tm B L)) fun l => sq_tk h k _ fun _ _ _ _ => sq_ok l) (sq_ok []) (h.kd0 6)
theorem sq_by {c : Cn5} {B T : List Tk} {L L' : Nat} (h : Tq5 c B T L L') (k : Nat) : Sq5 c k (by5 B L) (by5 T L') :=
  Sq5.ite (sq_ok _) ((sq_who h k).and (goes_who B L) fun t => sq_tk h k _ fun _ _ _ _ => sq_ok t) fun s s' hr => by rw [h.kd hr, h.kd hr]
theorem sq_at {c : Cn5} {B T : List Tk} {L L' : Nat} (h : Tq5 c B T L L') (k : Nat) : Sq5 c k (at5 B L) (at5 T L') :=
  (sq_by h k).and (goes_by B L) fun b => sq_tk h k _ fun t t' hm hk => by
    have e : t'.x = t.x := hk.x (by rw [List.mem_singleton.1 hm]; decide)
    rw [e]
    exact (sq_args h k).and (goes_args B L) fun l => sq_ok _
theorem sq_te {c : Cn5} {B T : List Tk} {L L' : Nat} (h : Tq5 c B T L L') (k : Nat) : Sq5 c k (te5 B L) (te5 T L') :=
  (sq_tm h k).and (goes_tm B L) fun l => sq_tk h k _ fun t t' _ hk => by
    rw [hk.k]
    exact (sq_tm h k).and (goes_tm B L) fun r => sq_ok _
theorem sq_alt {c : Cn5} {one one' : Ps → R5 (List (List Lf5))} {B T : List Tk} {L L' : Nat} (h : Tq5 c B T L L') (k : Nat) (ho : Sq5 c k one one') (hg : Goes one) : Sq5 c k (altOf5 one B L) (altOf5 one' T L') :=
  (sq_list h k 9 ((sq_list h k 8 ho hg).and (goes_list B L 8 hg) fun _ => sq_ok _) (goes_conj B L hg)).and (goes_list B L 9 (goes_conj B L hg)) fun _ => sq_ok _
theorem sq_br {c : Cn5} {one one' : Ps → R5 (List (List Lf5))} {B T : List Tk} {L L' : Nat} (h : Tq5 c B T L L') (k : Nat) (ho : k ≠ 16 → Sq5 c (k + 1) one one') (hg : Goes one) : Sq5 c k (brOf5 one B L) (brOf5 one' T L') := fun s s' hs hr => by
  unfold brOf5
  rw [hr.op]
  by_cases e : s.op = 16
  · rw [if_pos e, if_pos e, h.place hr]; exact rfl
  · rw [if_neg e, if_neg e]
    have h1 := ho fun e1 => e (hs.trans e1)
    have hi : Sq5 c (k + 1) (fun s => (altOf5 one B L s).and fun m s => (tk5 B L [7] s).and fun _ s => .ok (m, ⟨s.nx, s.op - 1, s.vs, s.nm⟩)) (fun s => (altOf5 one' T L' s).and fun m s => (tk5 T L' [7] s).and fun _ s => .ok (m, ⟨s.nx, s.op - 1, s.vs, s.nm⟩)) :=
      (sq_alt h (k + 1) h1 hg).and (goes_alt B L hg) fun m => sq_tk h (k + 1) _ fun _ _ _ _ => fun s s' _ hr => ⟨rfl, hr.nx, by show s'.op - 1 = s.op - 1; rw [hr.op], hr.vs, hr.nm⟩
    have hj : Sq5 c k (fun s => (altOf5 one B L ⟨s.nx, s.op + 1, s.vs, s.nm⟩).and fun m s => (tk5 B L [7] s).and fun _ s => .ok (m, ⟨s.nx, s.op - 1, s.vs, s.nm⟩)) (fun s => (altOf5 one' T L' ⟨s.nx, s.op + 1, s.vs, s.nm⟩).and fun m s => (tk5 T L' [7] s).and fun _ s => .ok (m, ⟨s.nx, s.op - 1, s.vs, s.nm⟩)) := fun s s' hs hr =>
      hi ⟨s.nx, s.op + 1, s.vs, s.nm⟩ ⟨s'.nx, s'.op + 1, s'.vs, s'.nm⟩ (by show s.op + 1 = k + 1; rw [hs]) ⟨hr.nx, by show s'.op + 1 = s.op + 1; rw [hr.op], hr.vs, hr.nm⟩
    exact (sq_tk h k [6] fun _ _ _ _ => hj) s s' hs hr
theorem sq_lit {c : Cn5} {B T : List Tk} {L L' : Nat} (h : Tq5 c B T L L') : ∀ f k : Nat, k ≤ 16 → k + f = 17 → Sq5 c k (lit5 B L f) (lit5 T L' f)
  | 0, k, hk, e => by omega
  | f + 1, k, hk, e => Sq5.ite (sq_br h k (fun hne => sq_lit h f (k + 1) (by omega) (by omega)) (goes_lit B L f)) (Sq5.ite ((sq_at h k).and (goes_at B L) fun _ => sq_ok _) ((sq_te h k).and (goes_te B L) fun _ => sq_ok _) fun s s' hr => by unfold ba5; rw [h.kd hr, h.kd hr]) (h.kd0 6)
theorem sq_bd {c : Cn5} {B T : List Tk} {L L' : Nat} (h : Tq5 c B T L L') : Sq5 c 0 (bd5 B L) (bd5 T L') :=
  Sq5.ite (sq_tk h 0 _ fun _ _ _ _ => sq_alt h 0 (sq_lit h 17 0 (by decide) rfl) (goes_lit B L 17)) (sq_ok [[]]) (h.kd0 11)
theorem sq_rh {c : Cn5} {B T : List Tk} {L L' : Nat} (h : Tq5 c B T L L') : Sq5 c 0 (rh5 B L) (rh5 T L') :=
  (sq_at h 0).and (goes_at B L) fun _ => (sq_bd h).and (goes_bd B L) fun _ => sq_tk h 0 _ fun _ _ _ _ => sq_ok _
/-- A fault, where it lies now. -/
def mvE5 (c : Cn5) {α : Type} : Except (Int × Int) α → Except (Int × Int) α
  | .error e => .error (e.1, c.π e.2)
  | .ok a => .ok a
theorem cls5_mv (c : Cn5) (p : Int) (h : At) : ∀ (m : List (List Lf5)) (acc : List Ck), cls5 (c.π p) h m acc = mvE5 c (cls5 p h m acc)
  | [], acc => rfl
  | x :: r, acc => by
    unfold cls5
    by_cases e : ch5 (normC (ck5 h x)) = 0
    · rw [if_pos e, if_pos e]; exact cls5_mv c p h r _
    · rw [if_neg e, if_neg e]; rfl
theorem rs_start (c : Cn5) (nx : Nat) : Rs5 c (s05 nx) (s05 nx) := ⟨rfl, rfl, rfl, fun _ _ => rfl⟩
theorem sq_rl {c : Cn5} {B T : List Tk} {L L' : Nat} (h : Tq5 c B T L L') (nx : Nat) : rl5 T L' nx = mvE5 c (rl5 B L nx) := by
  have h1 := sq_rh h (s05 nx) (s05 nx) rfl (rs_start c nx)
  have h2 := h.place (rs_start c nx)
  unfold rl5
  rw [h2]
  cases hb : rh5 B L (s05 nx) with
  | error e =>
    rw [hb] at h1
    cases ht : rh5 T L' (s05 nx) with
    | error e' => rw [ht] at h1; rw [show e' = (e.1, c.π e.2) from h1]; rfl
    | ok p => rw [ht] at h1; exact h1.elim
  | ok p =>
    rw [hb] at h1
    cases ht : rh5 T L' (s05 nx) with
    | error e' => rw [ht] at h1; exact h1.elim
    | ok q =>
      rw [ht] at h1
      obtain ⟨⟨hd, m⟩, s⟩ := p
      obtain ⟨⟨hd', m'⟩, s'⟩ := q
      obtain ⟨e, hr⟩ := h1
      obtain ⟨rfl, rfl⟩ := Prod.mk.inj e
      show (if 64 < m'.length then _ else _) = mvE5 c (if 64 < m'.length then _ else _)
      by_cases hm : 64 < m'.length
      · rw [if_pos hm, if_pos hm]; rfl
      · rw [if_neg hm, if_neg hm, cls5_mv]
        cases cls5 (pl5 B L (s05 nx)) hd' m' [] with
        | error e => rfl
        | ok ks => show Except.ok (ks, s'.nx) = Except.ok (ks, s.nx); rw [hr.nx]
/-- Rules: the same, or refused at the same token. -/
theorem sq_pp {c : Cn5} {B T : List Tk} {L L' : Nat} (h : Tq5 c B T L L') : ∀ (d : Nat) (acc : List Ck) (nx : Nat), nx ≤ B.length → B.length - nx = d → pp5 T L' acc nx = mvE5 c (pp5 B L acc nx) := by
  intro d
  induction d using Nat.strongRecOn with
  | _ d ih =>
    intro acc nx hx hd
    rcases Nat.lt_or_ge nx B.length with hn | hn
    · have hl := sq_rl h nx
      have hT : nx < T.length := by rw [h.len]; exact hn
      cases hr : rl5 B L nx with
      | error e =>
        rw [hr] at hl
        rw [pp5_err hn hr, pp5_err hT hl]
        rfl
      | ok p =>
        obtain ⟨ks, n'⟩ := p
        rw [hr] at hl
        obtain ⟨g1, g2⟩ := rl5_nx hx hr
        rw [pp5_ok hn hr, pp5_ok hT hl]
        exact ih (B.length - n') (by omega) (acc ++ ks) n' g2 rfl
    · rw [pp5_end hn, pp5_end (by rw [h.len]; exact hn)]
      rfl
/-- A query: the same, or refused at the same token. -/
theorem sq_qy {c : Cn5} {B T : List Tk} {L L' : Nat} (h : Tq5 c B T L L') : qy5 T L' = mvE5 c (qy5 B L) := by
  have h1 := sq_at h 0 (s05 0) (s05 0) rfl (rs_start c 0)
  have h2 := h.place (rs_start c 0)
  unfold qy5
  cases hb : at5 B L (s05 0) with
  | error e =>
    rw [hb] at h1
    cases ht : at5 T L' (s05 0) with
    | error e' => rw [ht] at h1; rw [show e' = (e.1, c.π e.2) from h1]; rfl
    | ok p => rw [ht] at h1; exact h1.elim
  | ok p =>
    rw [hb] at h1
    cases ht : at5 T L' (s05 0) with
    | error e' => rw [ht] at h1; exact h1.elim
    | ok q =>
      rw [ht] at h1
      obtain ⟨a, s⟩ := p
      obtain ⟨a', s'⟩ := q
      obtain ⟨rfl, hr⟩ := h1
      have ho : s.op = 0 := (goes_at B L (s05 0) a' s hb).1
      have h3 := (sq_tk (β := Unit) h 0 [12] (p := fun _ s => .ok ((), s)) (q := fun _ s => .ok ((), s)) fun _ _ _ _ => sq_ok ()) s s' ho hr
      show (match tk5 T L' [12] s' with | .error e => _ | .ok (_, s) => _) = mvE5 c (match tk5 B L [12] s with | .error e => _ | .ok (_, s) => _)
      cases hb2 : tk5 B L [12] s with
      | error e =>
        cases ht2 : tk5 T L' [12] s' with
        | error e' => simp only [hb2, ht2] at h3; rw [show e' = (e.1, c.π e.2) from h3]; rfl
        | ok p => simp only [hb2, ht2] at h3; exact h3.elim
      | ok p =>
        cases ht2 : tk5 T L' [12] s' with
        | error e' => simp only [hb2, ht2] at h3; exact h3.elim
        | ok q =>
          simp only [hb2, ht2] at h3
          obtain ⟨t, s1⟩ := p
          obtain ⟨t', s1'⟩ := q
          have hr1 : Rs5 c s1 s1' := h3.2
          show (if s1'.nx < T.length then _ else _) = mvE5 c (if s1.nx < B.length then _ else _)
          rw [hr1.nx, h.len, h.place hr1, h2]
          by_cases e : s1.nx < B.length
          · rw [if_pos e, if_pos e]; rfl
          · rw [if_neg e, if_neg e]
            by_cases e2 : a'.err = 0
            · rw [if_pos e2, if_pos e2]; rfl
            · rw [if_neg e2, if_neg e2]; rfl
end Go.Proofs.YtcpjiahdaplhlaaGreatDoor

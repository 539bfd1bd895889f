/-
  PLAIN: the rules of the tokens in front, and those behind.
-/
import Derived.Test.YtnikmcmkbjjcdaaGreatDoorSJ1
namespace Go.Proofs.YtnikmcmkbjjcdaaGreatDoor
open Go.RowKit

/-- As Jn, but where it ends it ends with a fault at the end. -/
def Jx {α : Type} (n La k : Nat) (f g : Ps → R5 α) : Prop := ∀ s, s.op = k → (∃ c, f s = .error (c, (La : Int))) ∨ (s.nx < n ∧ f s = g s)
theorem Jx.and {α β : Type} {n La k : Nat} {f g : Ps → R5 α} {p q : α → Ps → R5 β} (h : Jn n La k f g) (hg : Goes f) (hp : ∀ a, Jx n La k (p a) (q a)) : Jx n La k (fun s => (f s).and p) (fun s => (g s).and q) := fun s hs => by
  show (∃ c, (f s).and p = .error (c, (La : Int))) ∨ (s.nx < n ∧ (f s).and p = (g s).and q)
  rcases h s hs with h1 | ⟨hn, h1⟩
  · cases hf : f s with
    | error e =>
      rw [hf] at h1
      have h2 : e.2 = (La : Int) := h1
      exact Or.inl ⟨e.1, by rw [← h2]; rfl⟩
    | ok a =>
      obtain ⟨a, s'⟩ := a
      rw [hf] at h1
      have ho := (hg s a s' hf).1
      rcases hp a s' (ho.trans hs) with h2 | ⟨h2, -⟩
      · exact Or.inl h2
      · have : n ≤ s'.nx := h1
        omega
  · rw [← h1]
    cases hf : f s with
    | error e => exact Or.inr ⟨hn, rfl⟩
    | ok a =>
      obtain ⟨a, s'⟩ := a
      have ho := (hg s a s' hf).1
      rcases hp a s' (ho.trans hs) with h2 | ⟨-, h2⟩
      · exact Or.inl h2
      · exact Or.inr ⟨hn, h2⟩
theorem jx_tk {A T : List Tk} (h : Mo A T) (La L k : Nat) (ks : List Int) {β : Type} (F : Tk → Ps → R5 β) : Jx A.length La k (fun s => (tk5 A La ks s).and F) (fun s => (tk5 T L ks s).and F) := fun s _ => by
  show (∃ c, (tk5 A La ks s).and F = .error (c, (La : Int))) ∨ (s.nx < A.length ∧ (tk5 A La ks s).and F = (tk5 T L ks s).and F)
  rcases Nat.lt_or_ge s.nx A.length with hn | hn
  · refine Or.inr ⟨hn, ?_⟩
    unfold tk5
    rw [h.at_ hn, List.getElem?_eq_getElem hn]
  · refine Or.inl ⟨51, ?_⟩
    unfold tk5
    rw [List.getElem?_eq_none hn]
    rfl
theorem jx_rh {A T : List Tk} (h : Mo A T) (La L : Nat) : Jx A.length La 0 (rh5 A La) (rh5 T L) :=
  Jx.and (jn_at h La L 0) (goes_at A La) fun hd => Jx.and (jn_bd h La L) (goes_bd A La) fun m => jx_tk h La L 0 [10] fun _ s => .ok ((hd, m), s)
theorem jx_rl {A T : List Tk} (h : Mo A T) (La L : Nat) {nx : Nat} (hn : nx < A.length) : (∃ c, rl5 A La nx = .error (c, (La : Int))) ∨ rl5 A La nx = rl5 T L nx := by
  unfold rl5
  rw [h.pl (La := La) (L := L) (s := s05 nx) hn]
  rcases jx_rh h La L (s05 nx) rfl with ⟨c, h1⟩ | ⟨-, h1⟩
  · rw [h1]; exact Or.inl ⟨c, rfl⟩
  · rw [h1]; exact Or.inr rfl
/-- Rules from here on. -/
def pp5 (T : List Tk) (L : Nat) (acc : List Ck) (nx : Nat) : Except (Int × Int) (List Ck) := pr5 T L (T.length + 1) acc nx
theorem pr5_fuel {T : List Tk} {L : Nat} : ∀ (f f' : Nat) (acc : List Ck) (nx : Nat), nx ≤ T.length → T.length < f + nx → T.length < f' + nx → pr5 T L f acc nx = pr5 T L f' acc nx
  | 0, _, acc, nx, h, h1, _ => by omega
  | _, 0, acc, nx, h, _, h2 => by omega
  | f + 1, f' + 1, acc, nx, h, h1, h2 => by
    unfold pr5
    by_cases hn : nx < T.length
    · rw [if_pos hn, if_pos hn]
      cases hr : rl5 T L nx with
      | error e => rfl
      | ok p =>
        obtain ⟨ks, n'⟩ := p
        obtain ⟨g1, g2⟩ := rl5_nx h hr
        exact pr5_fuel f f' (acc ++ ks) n' g2 (by omega) (by omega)
    · rw [if_neg hn, if_neg hn]
theorem pp5_end {T : List Tk} {L : Nat} {acc : List Ck} {nx : Nat} (h : T.length ≤ nx) : pp5 T L acc nx = .ok acc := by
  unfold pp5 pr5
  rw [if_neg (by omega)]
theorem pp5_err {T : List Tk} {L : Nat} {acc : List Ck} {nx : Nat} {e : Int × Int} (h : nx < T.length) (hr : rl5 T L nx = .error e) : pp5 T L acc nx = .error e := by
  unfold pp5 pr5
  rw [if_pos h, hr]
theorem pp5_ok {T : List Tk} {L : Nat} {acc ks : List Ck} {nx n' : Nat} (h : nx < T.length) (hr : rl5 T L nx = .ok (ks, n')) : pp5 T L acc nx = pp5 T L (acc ++ ks) n' := by
  obtain ⟨g1, g2⟩ := rl5_nx (Nat.le_of_lt h) hr
  show pr5 T L (T.length + 1) acc nx = pr5 T L (T.length + 1) (acc ++ ks) n'
  rw [pr5_fuel (T.length + 1) T.length (acc ++ ks) n' g2 (by omega) (by omega)]
  rw [pr5, if_pos h, hr]
/-- The rules in front are the same, unless the end is met. -/
theorem front5 {A T : List Tk} (h : Mo A T) (La L : Nat) : ∀ (d : Nat) (acc : List Ck) (nx : Nat), nx ≤ A.length → A.length - nx = d →
    match pp5 A La acc nx with
    | .error e => e.2 = (La : Int) ∨ pp5 T L acc nx = .error e
    | .ok ks => pp5 T L acc nx = pp5 T L ks A.length := by
  intro d
  induction d using Nat.strongRecOn with
  | _ d ih =>
    intro acc nx hx hd
    rcases Nat.lt_or_ge nx A.length with hn | hn
    · have hT : nx < T.length := Nat.lt_of_lt_of_le hn h.le
      rcases jx_rl h La L hn with ⟨c, h1⟩ | h1
      · rw [pp5_err hn h1]; exact Or.inl rfl
      · cases hr : rl5 A La nx with
        | error e =>
          rw [pp5_err hn hr]
          exact Or.inr (pp5_err hT (h1 ▸ hr))
        | ok p =>
          obtain ⟨ks, n'⟩ := p
          obtain ⟨g1, g2⟩ := rl5_nx hx hr
          have := ih (A.length - n') (by omega) (acc ++ ks) n' g2 rfl
          rw [pp5_ok hn hr, pp5_ok (L := L) hT (h1 ▸ hr)]
          exact this
    · rw [pp5_end hn, Nat.le_antisymm hx hn]
/-- A token further on. -/
def shT (D : Nat) (t : Tk) : Tk := { t with a := t.a + D, e := t.e + D }
def shP (n : Nat) (s : Ps) : Ps := ⟨s.nx + n, s.op, s.vs, s.nm⟩
def shR {α : Type} (n D : Nat) : R5 α → R5 α
  | .error e => .error (e.1, e.2 + D)
  | .ok (a, s) => .ok (a, shP n s)
/-- g further on is f. -/
def Sf {α : Type} (n D k : Nat) (f g : Ps → R5 α) : Prop := ∀ s, s.op = k → g (shP n s) = shR n D (f s)
theorem Sf.and {α β : Type} {n D k : Nat} {f g : Ps → R5 α} {p q : α → Ps → R5 β} (h : Sf n D k f g) (hg : Goes f) (hp : ∀ a, Sf n D k (p a) (q a)) : Sf n D k (fun s => (f s).and p) (fun s => (g s).and q) := fun s hs => by
  show (g (shP n s)).and q = shR n D ((f s).and p)
  rw [h s hs]
  cases hf : f s with
  | error e => rfl
  | ok a => obtain ⟨a, s'⟩ := a; exact hp a s' ((hg s a s' hf).1.trans hs)
theorem Sf.pure {α : Type} {n D k : Nat} {F G : Ps → α × Ps} (hF : ∀ s, G (shP n s) = ((F s).1, shP n (F s).2)) : Sf n D k (fun s => (.ok (F s) : R5 α)) (fun s => .ok (G s)) := fun s _ => by
  show (Except.ok (G (shP n s)) : R5 α) = .ok _
  rw [hF]
theorem sf_ok {α : Type} {n D k : Nat} (a : α) : Sf n D k (fun s => (.ok (a, s) : R5 α)) (fun s => .ok (a, s)) := fun _ _ => rfl
theorem Sf.ite {α : Type} {n D k : Nat} {c d : Ps → Prop} [∀ s, Decidable (c s)] [∀ s, Decidable (d s)] {f g p q : Ps → R5 α} (h : Sf n D k f g) (hp : Sf n D k p q) (hc : ∀ s, c s ↔ d (shP n s)) : Sf n D k (fun s => if c s then f s else p s) (fun s => if d s then g s else q s) := fun s hs => by
  show (if d (shP n s) then g (shP n s) else q (shP n s)) = shR n D (if c s then f s else p s)
  by_cases e : c s
  · rw [if_pos e, if_pos ((hc s).1 e)]; exact h s hs
  · rw [if_neg e, if_neg fun h => e ((hc s).2 h)]; exact hp s hs
/-- The tokens of two texts. -/
structure Tw (A B T : List Tk) (D : Nat) : Prop where
  e : T = A ++ B.map (shT D)
theorem Tw.at_ {A B T : List Tk} {D : Nat} (h : Tw A B T D) (i : Nat) : T[i + A.length]? = (B[i]?).map (shT D) := by
  rw [h.e, List.getElem?_append_right (by omega), Nat.add_sub_cancel, List.getElem?_map]
theorem Tw.kd {A B T : List Tk} {D : Nat} (h : Tw A B T D) (s : Ps) (k : Nat) : kd5 T (shP A.length s) k = kd5 B s k := by
  unfold kd5
  show ((T[s.nx + A.length + k]?).map Tk.k).getD 0 = _
  rw [show s.nx + A.length + k = s.nx + k + A.length by omega, h.at_]
  cases B[s.nx + k]? <;> rfl
theorem Tw.kd0 {A B T : List Tk} {D : Nat} (h : Tw A B T D) (b : Int) (s : Ps) : kd5 B s 0 = b ↔ kd5 T (shP A.length s) 0 = b := by rw [h.kd]
theorem Tw.pl {A B T : List Tk} {D L : Nat} (h : Tw A B T D) (s : Ps) : pl5 T (L + D) (shP A.length s) = pl5 B L s + D := by
  unfold pl5
  show ((T[s.nx + A.length]?).map Tk.a).getD _ = _
  rw [h.at_]
  cases B[s.nx]? with
  | none => exact Int.natCast_add L D
  | some t => rfl
theorem sf_tk {A B T : List Tk} {D : Nat} (h : Tw A B T D) (L k : Nat) (ks : List Int) {β : Type} {p q : Tk → Ps → R5 β} (hp : ∀ t, Sf A.length D k (p t) (q (shT D t))) : Sf A.length D k (fun s => (tk5 B L ks s).and p) (fun s => (tk5 T (L + D) ks s).and q) := fun s hs => by
  show (tk5 T (L + D) ks (shP A.length s)).and q = shR A.length D ((tk5 B L ks s).and p)
  have e1 : T[(shP A.length s).nx]? = (B[s.nx]?).map (shT D) := h.at_ s.nx
  unfold tk5
  rw [e1]
  cases B[s.nx]? with
  | none =>
    show (Except.error (51, ((L + D : Nat) : Int)) : R5 β) = .error (51, (L : Int) + D)
    rw [Int.natCast_add]
  | some t =>
    show R5.and (if t.k ∈ ks then _ else _) q = shR A.length D (R5.and (if t.k ∈ ks then _ else _) p)
    by_cases e : t.k ∈ ks
    · rw [if_pos e, if_pos e]
      have := hp t ⟨s.nx + 1, s.op, s.vs, s.nm⟩ hs
      have e2 : shP A.length ⟨s.nx + 1, s.op, s.vs, s.nm⟩ = ⟨(shP A.length s).nx + 1, (shP A.length s).op, (shP A.length s).vs, (shP A.length s).nm⟩ := by
        show (⟨s.nx + 1 + A.length, s.op, s.vs, s.nm⟩ : Ps) = ⟨s.nx + A.length + 1, s.op, s.vs, s.nm⟩
        rw [show s.nx + 1 + A.length = s.nx + A.length + 1 by omega]
      rw [e2] at this
      exact this
    · rw [if_neg e, if_neg e]; rfl
theorem sf_mean {n D k : Nat} (t : Tk) : Sf n D k (fun s => (.ok (mean5 t s) : R5 Tm)) (fun s => .ok (mean5 (shT D t) s)) := Sf.pure fun s => by
  unfold mean5 va5 shT shP
  (repeat' split) <;> first | rfl | simp_all
theorem sf_tm {A B T : List Tk} {D : Nat} (h : Tw A B T D) (L k : Nat) : Sf A.length D k (tm5 B L) (tm5 T (L + D)) := sf_tk h L k _ sf_mean
theorem sf_who {A B T : List Tk} {D : Nat} (h : Tw A B T D) (L k : Nat) : Sf A.length D k (who5 B L) (who5 T (L + D)) := sf_tk h L k _ sf_mean
theorem sf_ls {α : Type} {one one' : Ps → R5 α} {A B T : List Tk} {D : Nat} (h : Tw A B T D) (L k : Nat) (b : Int) (ho : Sf A.length D k one one') (hg : Goes one) : ∀ (f : Nat) (acc : List α), Sf A.length D k (ls5 one B L b f acc) (ls5 one' T (L + D) b f acc)
  | 0, acc => sf_ok acc
  | f + 1, acc => Sf.ite (sf_tk h L k _ fun _ => ho.and hg fun a => sf_ls h L k b ho hg f (acc ++ [a])) (sf_ok acc) (h.kd0 b)
theorem sf_list {α : Type} {one one' : Ps → R5 α} {A B T : List Tk} {D : Nat} (h : Tw A B T D) (L k : Nat) {b : Int} (hb : b ≠ 0) (ho : Sf A.length D k one one') (hg : Goes one) : Sf A.length D k (list5 one B L b) (list5 one' T (L + D) b) := by
  rw [list5_fuel hb hg (f := T.length + 1) (by rw [h.e, List.length_append, List.length_map]; omega)]
  exact ho.and hg fun a => sf_ls h L k b ho hg _ _
theorem sf_args {A B T : List Tk} {D : Nat} (h : Tw A B T D) (L k : Nat) : Sf A.length D k (args5 B L) (args5 T (L + D)) :=
  Sf.ite (sf_tk h L k _ fun _ => (sf_list h L k (by decide) (sf_tm h L k) (goes_tm B L)).and (goes_list B L 8 (goes_tm B L)) fun l => sf_tk h L k _ fun _ => sf_ok l) (sf_ok []) (h.kd0 6)
theorem sf_by {A B T : List Tk} {D : Nat} (h : Tw A B T D) (L k : Nat) : Sf A.length D k (by5 B L) (by5 T (L + D)) :=
  Sf.ite (sf_ok _) ((sf_who h L k).and (goes_who B L) fun t => sf_tk h L k _ fun _ => sf_ok t) fun s => by rw [h.kd, h.kd]
theorem sf_at {A B T : List Tk} {D : Nat} (h : Tw A B T D) (L k : Nat) : Sf A.length D k (at5 B L) (at5 T (L + D)) :=
  (sf_by h L k).and (goes_by B L) fun _ => sf_tk h L k _ fun _ => (sf_args h L k).and (goes_args B L) fun _ => sf_ok _
theorem sf_te {A B T : List Tk} {D : Nat} (h : Tw A B T D) (L k : Nat) : Sf A.length D k (te5 B L) (te5 T (L + D)) :=
  (sf_tm h L k).and (goes_tm B L) fun _ => sf_tk h L k _ fun _ => (sf_tm h L k).and (goes_tm B L) fun _ => sf_ok _
theorem sf_alt {one one' : Ps → R5 (List (List Lf5))} {A B T : List Tk} {D : Nat} (h : Tw A B T D) (L k : Nat) (ho : Sf A.length D k one one') (hg : Goes one) : Sf A.length D k (altOf5 one B L) (altOf5 one' T (L + D)) :=
  (sf_list h L k (by decide) ((sf_list h L k (by decide) ho hg).and (goes_list B L 8 hg) fun _ => sf_ok _) (goes_conj B L hg)).and (goes_list B L 9 (goes_conj B L hg)) fun _ => sf_ok _
theorem sf_br {one one' : Ps → R5 (List (List Lf5))} {A B T : List Tk} {D : Nat} (h : Tw A B T D) (L k : Nat) (ho : k ≠ 16 → Sf A.length D (k + 1) one one') (hg : Goes one) : Sf A.length D k (brOf5 one B L) (brOf5 one' T (L + D)) := fun s hs => by
  unfold brOf5
  show (if s.op = 16 then _ else _) = _
  by_cases e : s.op = 16
  · rw [if_pos e, if_pos e, h.pl]; rfl
  · rw [if_neg e, if_neg e]
    have h1 := ho fun e1 => e (hs.trans e1)
    have hi : Sf A.length D (k + 1) (fun s => (altOf5 one B L s).and fun m s => (tk5 B L [7] s).and fun _ s => .ok (m, ⟨s.nx, s.op - 1, s.vs, s.nm⟩)) (fun s => (altOf5 one' T (L + D) s).and fun m s => (tk5 T (L + D) [7] s).and fun _ s => .ok (m, ⟨s.nx, s.op - 1, s.vs, s.nm⟩)) :=
      (sf_alt h L (k + 1) h1 hg).and (goes_alt B L hg) fun m => sf_tk h L (k + 1) _ fun _ => Sf.pure (F := fun s => (m, ⟨s.nx, s.op - 1, s.vs, s.nm⟩)) (G := fun s => (m, ⟨s.nx, s.op - 1, s.vs, s.nm⟩)) fun _ => rfl
    have hj : Sf A.length D k (fun s => (altOf5 one B L ⟨s.nx, s.op + 1, s.vs, s.nm⟩).and fun m s => (tk5 B L [7] s).and fun _ s => .ok (m, ⟨s.nx, s.op - 1, s.vs, s.nm⟩)) (fun s => (altOf5 one' T (L + D) ⟨s.nx, s.op + 1, s.vs, s.nm⟩).and fun m s => (tk5 T (L + D) [7] s).and fun _ s => .ok (m, ⟨s.nx, s.op - 1, s.vs, s.nm⟩)) := fun s hs => hi ⟨s.nx, s.op + 1, s.vs, s.nm⟩ (by show s.op + 1 = k + 1; rw [hs])
    exact (sf_tk h L k [6] fun _ => hj) s hs
theorem sf_lit {A B T : List Tk} {D : Nat} (h : Tw A B T D) (L : Nat) : ∀ f k : Nat, k ≤ 16 → k + f = 17 → Sf A.length D k (lit5 B L f) (lit5 T (L + D) f)
  | 0, k, hk, e => by omega
  | f + 1, k, hk, e => Sf.ite (sf_br h L k (fun hne => sf_lit h L f (k + 1) (by omega) (by omega)) (goes_lit B L f)) (Sf.ite ((sf_at h L k).and (goes_at B L) fun _ => sf_ok _) ((sf_te h L k).and (goes_te B L) fun _ => sf_ok _) fun s => by unfold ba5; rw [h.kd, h.kd]) (h.kd0 6)
theorem sf_bd {A B T : List Tk} {D : Nat} (h : Tw A B T D) (L : Nat) : Sf A.length D 0 (bd5 B L) (bd5 T (L + D)) :=
  Sf.ite (sf_tk h L 0 _ fun _ => sf_alt h L 0 (sf_lit h L 17 0 (by decide) rfl) (goes_lit B L 17)) (sf_ok [[]]) (h.kd0 11)
theorem sf_rh {A B T : List Tk} {D : Nat} (h : Tw A B T D) (L : Nat) : Sf A.length D 0 (rh5 B L) (rh5 T (L + D)) :=
  (sf_at h L 0).and (goes_at B L) fun _ => (sf_bd h L).and (goes_bd B L) fun _ => sf_tk h L 0 _ fun _ => sf_ok _
def shE {α : Type} (D : Nat) : Except (Int × Int) α → Except (Int × Int) α
  | .error e => .error (e.1, e.2 + D)
  | .ok a => .ok a
theorem cls5_sh (p : Int) (D : Nat) (h : At) : ∀ (m : List (List Lf5)) (acc : List Ck), cls5 (p + D) h m acc = shE D (cls5 p h m acc)
  | [], acc => rfl
  | x :: r, acc => by
    unfold cls5
    by_cases e : ch5 (normC (ck5 h x)) = 0
    · rw [if_pos e, if_pos e]; exact cls5_sh p D h r _
    · rw [if_neg e, if_neg e]; rfl
theorem sf_rl {A B T : List Tk} {D : Nat} (h : Tw A B T D) (L nx : Nat) : rl5 T (L + D) (nx + A.length) = match rl5 B L nx with
    | .error e => .error (e.1, e.2 + D)
    | .ok (ks, n') => .ok (ks, n' + A.length) := by
  have e1 : s05 (nx + A.length) = shP A.length (s05 nx) := rfl
  unfold rl5
  rw [e1, sf_rh h L (s05 nx) rfl, h.pl]
  cases rh5 B L (s05 nx) with
  | error e => rfl
  | ok p =>
    obtain ⟨⟨hd, m⟩, s⟩ := p
    show (if 64 < m.length then _ else _) = match (if 64 < m.length then _ else _ : Except (Int × Int) (List Ck × Nat)) with
      | .error e => _
      | .ok (ks, n') => _
    by_cases hm : 64 < m.length
    · rw [if_pos hm, if_pos hm]
    · rw [if_neg hm, if_neg hm, cls5_sh]
      cases cls5 (pl5 B L (s05 nx)) hd m [] with
      | error e => rfl
      | ok ks => rfl
/-- What is read so far goes ahead. -/
def acE (acc : List Ck) : Except (Int × Int) (List Ck) → Except (Int × Int) (List Ck)
  | .error e => .error e
  | .ok l => .ok (acc ++ l)
/-- The rules behind are those of the text behind, further on. -/
theorem back5 {A B T : List Tk} {D : Nat} (h : Tw A B T D) (L : Nat) : ∀ (d : Nat) (acc acc' : List Ck) (nx : Nat), nx ≤ B.length → B.length - nx = d →
    pp5 T (L + D) (acc ++ acc') (nx + A.length) = acE acc (shE D (pp5 B L acc' nx)) := by
  have hT : T.length = B.length + A.length := by rw [h.e, List.length_append, List.length_map, Nat.add_comm]
  intro d
  induction d using Nat.strongRecOn with
  | _ d ih =>
    intro acc acc' nx hx hd
    rcases Nat.lt_or_ge nx B.length with hn | hn
    · have hl := sf_rl h L nx
      cases hr : rl5 B L nx with
      | error e =>
        rw [hr] at hl
        rw [pp5_err hn hr, pp5_err (by omega) hl]
        rfl
      | ok p =>
        obtain ⟨ks, n'⟩ := p
        rw [hr] at hl
        obtain ⟨g1, g2⟩ := rl5_nx hx hr
        rw [pp5_ok hn hr, pp5_ok (by omega) hl, List.append_assoc]
        exact ih (B.length - n') (by omega) acc (acc' ++ ks) n' g2 rfl
    · rw [pp5_end hn, pp5_end (by omega)]
      rfl
end Go.Proofs.YtnikmcmkbjjcdaaGreatDoor

import Derived.Test.YtnikmcmkbjjcdaaGreatDoorSY17
namespace Go.Proofs.YtnikmcmkbjjcdaaGreatDoor
open Go.RowKit
structure GS (T : List Tk) (s : Ps) : Prop where
 a : s.nx <= T.length
 b : s.vs <= s.nx
 c : ∀ x k, s.nm x = some k -> k < s.vs
def vr5 (T : List Tk) (t : Tm) : Prop := t.var = true -> 0 <= t.n /\ t.n < (T.length : Int)
def Wg {α : Type} (T : List Tk) (f : Ps -> R5 α) (Q : α -> Nat -> Prop) : Prop := ∀ s a s', GS T s -> f s = .ok (a, s') -> GS T s' /\ s.nx <= s'.nx /\ Q a (s'.nx - s.nx)
theorem Wg.and {α β : Type} {T : List Tk} {f : Ps -> R5 α} {k : α -> Ps -> R5 β} {Q : α -> Nat -> Prop} {R : α -> β -> Nat -> Prop} {S : β -> Nat -> Prop} (h : Wg T f Q) (hk : ∀ a, Wg T (k a) (R a)) (hs : ∀ a b d e, Q a d -> R a b e -> S b (d + e)) : Wg T (fun s => (f s).and k) S := fun s b s' g e => by
 obtain ⟨a, s1, h1, h2⟩ := and5_inv e
 obtain ⟨g1, n1, q1⟩ := h s a s1 g h1
 obtain ⟨g2, n2, q2⟩ := hk a s1 b s' g1 h2
 refine ⟨g2, Nat.le_trans n1 n2, ?_⟩
 have := hs a b _ _ q1 q2
 rw [show s1.nx - s.nx + (s'.nx - s1.nx) = s'.nx - s.nx by omega] at this
 exact this
theorem wg_ok {α : Type} {T : List Tk} (a : α) {Q : α -> Nat -> Prop} (h : Q a 0) : Wg T (fun s => (.ok (a, s) : R5 α)) Q := fun s b s' g e => by
 have e1 : a = b := congrArg Prod.fst (Except.ok.inj e)
 have e2 : s = s' := congrArg Prod.snd (Except.ok.inj e)
 rw [<- e1, <- e2, Nat.sub_self]
 exact ⟨g, Nat.le_refl _, h⟩
theorem wg_if {α : Type} {T : List Tk} {p : Ps -> Prop} [∀ s, Decidable (p s)] {f g : Ps -> R5 α} {Q : α -> Nat -> Prop} (hf : Wg T f Q) (hg : Wg T g Q) : Wg T (fun s => if p s then f s else g s) Q := fun s a s' gs e => by
 by_cases hp : p s
 ·simp only [if_pos hp] at e; exact hf s a s' gs e
 ·simp only [if_neg hp] at e; exact hg s a s' gs e
theorem wg_tk (T : List Tk) (L : Nat) (ks : List Int) : Wg T (tk5 T L ks) (fun _ d => d = 1) := fun s a s' g e => by
 obtain ⟨h1, -, rfl⟩ := tk5_some e
 have := (List.getElem?_eq_some_iff.1 h1).1
 exact ⟨⟨this, Nat.le_succ_of_le g.b, g.c⟩, Nat.le_succ _, by show s.nx + 1 - s.nx = 1; omega⟩
theorem wg_mean (T : List Tk) (L : Nat) (ks : List Int) : Wg T (fun s => (tk5 T L ks s).and fun t s => .ok (mean5 t s)) (fun t d => d = 1 /\ vr5 T t) := fun s a s' g e => by
 obtain ⟨t, s1, h1, h2⟩ := and5_inv e
 have h3 : mean5 t s1 = (a, s') := Except.ok.inj h2
 obtain ⟨g1, n1, d1⟩ := wg_tk T L ks s t s1 g h1
 obtain ⟨h4, -, h5⟩ := tk5_some h1
 have hv : s1.vs < s1.nx := by rw [h5]; show s.vs < s.nx + 1; have := g.b; omega
 unfold mean5 at h3
 by_cases k2 : t.k = 2
 ·rw [if_pos k2] at h3
  have e1 : (⟨3, ((va5 t.x s1).1 : Int), ⟨#[]⟩⟩ : Tm) = a := congrArg Prod.fst h3
  have e2 : (va5 t.x s1).2 = s' := congrArg Prod.snd h3
  unfold va5 at e1 e2
  by_cases hh : (s1.nm t.x).isSome = true /\ t.x ≠ us5
  ·rw [if_pos hh] at e1 e2
   obtain ⟨k, hk⟩ : ∃ k, s1.nm t.x = some k := Option.isSome_iff_exists.1 hh.1
   have e3 : s1 = s' := e2
   rw [<- e3]
   refine ⟨g1, n1, d1, fun _ => ?_⟩
   rw [<- e1]
   simp only [hk, Option.getD_some]
   have := g1.c _ _ hk; have := g1.b; have := g1.a
   omega
  ·rw [if_neg hh] at e1 e2
   have e3 : (⟨s1.nx, s1.op, s1.vs + 1, nput s1.nm t.x s1.vs⟩ : Ps) = s' := e2
   rw [<- e3]
   refine ⟨⟨g1.a, hv, fun x k hx => ?_⟩, n1, d1, fun _ => ?_⟩
   ·show k < s1.vs + 1
    unfold nput at hx
    simp only at hx
    by_cases hxe : x = t.x
    ·rw [if_pos hxe] at hx; have := Option.some.inj hx; omega
    ·rw [if_neg hxe] at hx; have := g1.c _ _ hx; omega
   ·rw [<- e1]
    have := g1.a
    show (0 : Int) <= (s1.vs : Int) /\ (s1.vs : Int) < (T.length : Int)
    omega
 ·rw [if_neg k2] at h3
  by_cases k4 : t.k = 4
  ·rw [if_pos k4] at h3
   have e1 : (⟨1, t.n, ⟨#[]⟩⟩ : Tm) = a := congrArg Prod.fst h3
   have e2 : s1 = s' := congrArg Prod.snd h3
   rw [<- e2]
   refine ⟨g1, n1, d1, fun hv => ?_⟩
   rw [<- e1] at hv
   simp [Tm.var] at hv
  ·rw [if_neg k4] at h3
   have e1 : (⟨2, 0, t.x⟩ : Tm) = a := congrArg Prod.fst h3
   have e2 : s1 = s' := congrArg Prod.snd h3
   rw [<- e2]
   refine ⟨g1, n1, d1, fun hv => ?_⟩
   rw [<- e1] at hv
   simp [Tm.var] at hv
theorem wg_tm (T : List Tk) (L : Nat) : Wg T (tm5 T L) (fun t d => d = 1 /\ vr5 T t) := wg_mean T L _
theorem wg_who (T : List Tk) (L : Nat) : Wg T (who5 T L) (fun t d => d = 1 /\ vr5 T t) := wg_mean T L _
def QL {α : Type} (Q : α -> Nat -> Prop) : List α -> Nat -> Prop
 | [], _ => True
 | a :: l, d => ∃ d1 d2, Q a d1 /\ QL Q l d2 /\ d1 + d2 <= d
theorem QL.le {α : Type} {Q : α -> Nat -> Prop} : ∀ {l : List α} {d e : Nat}, QL Q l d -> d <= e -> QL Q l e
 | [], _, _, _, _ => trivial
 | _ :: _, _, _, ⟨d1, d2, h1, h2, h3⟩, h => ⟨d1, d2, h1, h2, Nat.le_trans h3 h⟩
theorem QL.snoc {α : Type} {Q : α -> Nat -> Prop} : ∀ {l : List α} {d e : Nat} {a : α}, QL Q l d -> Q a e -> QL Q (l ++ [a]) (d + e)
 | [], d, e, a, _, h => ⟨e, 0, h, trivial, by omega⟩
 | _ :: _, _, _, _, ⟨d1, d2, h1, h2, h3⟩, h => ⟨d1, _, h1, QL.snoc h2 h, by omega⟩
theorem wg_ls {α : Type} {T : List Tk} {one : Ps -> R5 α} {Q : α -> Nat -> Prop} (L : Nat) (b : Int) (h : Wg T one Q) : ∀ (f : Nat) (acc : List α) (d0 : Nat), QL Q acc d0 -> Wg T (ls5 one T L b f acc) (fun l d => QL Q l (d0 + d))
 | 0, acc, d0, hq => fun s a s' g e => by
  unfold ls5 at e
  exact wg_ok (T := T) acc (Q := fun l d => QL Q l (d0 + d)) hq s a s' g e
 | f + 1, acc, d0, hq => fun s a s' g e => by
  unfold ls5 at e
  by_cases hk : kd5 T s 0 = b
  ·rw [if_pos hk] at e
   obtain ⟨t, s1, h1, h2⟩ := and5_inv e
   obtain ⟨x, s2, h3, h4⟩ := and5_inv h2
   obtain ⟨g1, n1, d1⟩ := wg_tk T L _ s t s1 g h1
   obtain ⟨g2, n2, q2⟩ := h s1 x s2 g1 h3
   obtain ⟨g3, n3, q3⟩ := wg_ls L b h f (acc ++ [x]) _ (hq.snoc q2) s2 a s' g2 h4
   exact ⟨g3, by omega, q3.le (by omega)⟩
  ·rw [if_neg hk] at e
   exact wg_ok (T := T) acc (Q := fun l d => QL Q l (d0 + d)) hq s a s' g e
theorem wg_list {α : Type} {T : List Tk} {one : Ps -> R5 α} {Q : α -> Nat -> Prop} (L : Nat) (b : Int) (h : Wg T one Q) : Wg T (list5 one T L b) (QL Q) := fun s l s' g e => by
 obtain ⟨a, s1, h1, h2⟩ := and5_inv e
 obtain ⟨g1, n1, q1⟩ := h s a s1 g h1
 obtain ⟨g2, n2, q2⟩ := wg_ls L b h _ [a] _ (QL.snoc (l := []) (d := 0) trivial q1) s1 l s' g1 h2
 exact ⟨g2, by omega, q2.le (by omega)⟩
theorem QL.terms {T : List Tk} : ∀ {l : List Tm} {d : Nat}, QL (fun t d => d = 1 /\ vr5 T t) l d -> l.length <= d /\ ∀ t ∈ l, vr5 T t
 | [], _, _ => ⟨Nat.zero_le _, fun t h => by cases h⟩
 | _ :: _, _, ⟨d1, d2, h1, h2, h3⟩ => ⟨by have := (QL.terms h2).1; rw [List.length_cons]; omega, fun t h => by
  rcases List.mem_cons.1 h with rfl | h
  ·exact h1.2
  ·exact (QL.terms h2).2 t h⟩
theorem wg_args (T : List Tk) (L : Nat) : Wg T (args5 T L) (fun l d => l.length <= d /\ ∀ t ∈ l, vr5 T t) :=
 wg_if ((wg_tk T L [6]).and (fun _ => (wg_list L 8 (wg_tm T L)).and (fun l => (wg_tk T L [7]).and (fun _ => wg_ok l (Q := fun l' d => l' = l) rfl) (S := fun l' _ => l' = l) fun _ _ _ _ _ h => h) (S := fun l d => l.length <= d /\ ∀ t ∈ l, vr5 T t) fun l l' d e h1 h2 => by rw [h2]; exact ⟨by have := h1.terms.1; omega, h1.terms.2⟩) fun _ _ d e _ h => ⟨by omega, h.2⟩) (wg_ok [] ⟨Nat.le_refl _, fun t h => by cases h⟩)
theorem wg_by (T : List Tk) (L : Nat) : Wg T (by5 T L) (fun t _ => vr5 T t) :=
 wg_if (wg_ok _ fun h => by simp [Tm.var] at h) ((wg_who T L).and (fun t => (wg_tk T L [5]).and (fun _ => wg_ok t (Q := fun t' _ => t' = t) rfl) (S := fun t' _ => t' = t) fun _ _ _ _ _ h => h) fun t t' d e h1 h2 => by rw [h2]; exact h1.2)
def qA5 (T : List Tk) (a : At) (d : Nat) : Prop := a.args.length + 1 <= d /\ ∀ t ∈ a.pl, vr5 T t
theorem wg_at (T : List Tk) (L : Nat) : Wg T (at5 T L) (qA5 T) := fun s a s' g e => by
 obtain ⟨b, s1, h1, h2⟩ := and5_inv e
 obtain ⟨t, s2, h3, h4⟩ := and5_inv h2
 obtain ⟨l, s3, h5, h6⟩ := and5_inv h4
 obtain ⟨g1, n1, q1⟩ := wg_by T L s b s1 g h1
 obtain ⟨g2, n2, q2⟩ := wg_tk T L _ s1 t s2 g1 h3
 obtain ⟨g3, n3, q3⟩ := wg_args T L s2 l s3 g2 h5
 have e1 : (⟨b, t.x, l⟩ : At) = a := congrArg Prod.fst (Except.ok.inj h6)
 have e2 : s3 = s' := congrArg Prod.snd (Except.ok.inj h6)
 rw [<- e1, <- e2]
 refine ⟨g3, by omega, ?_, fun t ht => ?_⟩
 ·show l.length + 1 <= _
  have := q3.1
  omega
 ·rcases List.mem_cons.1 ht with rfl | ht
  ·exact q1
  ·exact q3.2 t ht
def qE5 (T : List Tk) (t : Te) (d : Nat) : Prop := 2 <= d /\ vr5 T t.l /\ vr5 T t.r
theorem wg_te (T : List Tk) (L : Nat) : Wg T (te5 T L) (qE5 T) := fun s a s' g e => by
 obtain ⟨b, s1, h1, h2⟩ := and5_inv e
 obtain ⟨t, s2, h3, h4⟩ := and5_inv h2
 obtain ⟨l, s3, h5, h6⟩ := and5_inv h4
 obtain ⟨g1, n1, q1⟩ := wg_tm T L s b s1 g h1
 obtain ⟨g2, n2, q2⟩ := wg_tk T L _ s1 t s2 g1 h3
 obtain ⟨g3, n3, q3⟩ := wg_tm T L s2 l s3 g2 h5
 have e1 : (⟨op5 t.k, b, l⟩ : Te) = a := congrArg Prod.fst (Except.ok.inj h6)
 have e2 : s3 = s' := congrArg Prod.snd (Except.ok.inj h6)
 rw [<- e1, <- e2]
 exact ⟨g3, by omega, by omega, q1.2, q3.2⟩
def wf5 : Lf5 -> Nat
 | .a x => x.args.length + 1
 | .t _ => 2
def ws5 (x : List Lf5) : Nat := (x.map wf5).sum
theorem ws5_app (x y : List Lf5) : ws5 (x ++ y) = ws5 x + ws5 y := by unfold ws5; rw [List.map_append, List.sum_append]
def vf5 (T : List Tk) : Lf5 -> Prop
 | .a x => ∀ t ∈ x.pl, vr5 T t
 | .t x => vr5 T x.l /\ vr5 T x.r
def QW (T : List Tk) (m : List (List Lf5)) (d : Nat) : Prop := ∀ x ∈ m, ws5 x <= d /\ ∀ l ∈ x, vf5 T l
theorem QW.le {T : List Tk} {m : List (List Lf5)} {d e : Nat} (h : QW T m d) (hd : d <= e) : QW T m e := fun x hx => ⟨Nat.le_trans (h x hx).1 hd, (h x hx).2⟩
theorem QW.cross {T : List Tk} : ∀ {ms : List (List (List Lf5))} {d : Nat}, QL (QW T) ms d -> QW T (cross5 ms) d
 | [], d, _ => fun x hx => by
  rw [cross5_nil] at hx
  rw [List.mem_singleton.1 hx]
  exact ⟨Nat.zero_le _, fun l h => by cases h⟩
 | m :: r, d, ⟨d1, d2, h1, h2, h3⟩ => fun x hx => by
  rw [cross5_cons] at hx
  obtain ⟨a, ha, hx⟩ := List.mem_flatMap.1 hx
  obtain ⟨b, hb, rfl⟩ := List.mem_map.1 hx
  obtain ⟨w1, v1⟩ := h1 a ha
  obtain ⟨w2, v2⟩ := QW.cross h2 b hb
  rw [ws5_app]
  refine ⟨by omega, fun l hl => ?_⟩
  rcases List.mem_append.1 hl with hl | hl
  ·exact v1 l hl
  ·exact v2 l hl
theorem QW.flat {T : List Tk} : ∀ {ms : List (List (List Lf5))} {d : Nat}, QL (QW T) ms d -> QW T ms.flatten d
 | [], d, _ => fun x hx => by simp at hx
 | m :: r, d, ⟨d1, d2, h1, h2, h3⟩ => fun x hx => by
  rw [List.flatten_cons] at hx
  rcases List.mem_append.1 hx with hx | hx
  ·exact (h1.le (by omega)) x hx
  ·exact ((QW.flat h2).le (by omega)) x hx
theorem wg_conj {T : List Tk} {one : Ps -> R5 (List (List Lf5))} (L : Nat) (h : Wg T one (QW T)) : Wg T (conjOf5 one T L) (QW T) :=
 (wg_list L 8 h).and (fun ms => wg_ok _ (Q := fun m _ => m = cross5 ms) rfl) fun ms m d e h1 h2 => by rw [h2]; exact (QW.cross h1).le (by omega)
theorem wg_alt {T : List Tk} {one : Ps -> R5 (List (List Lf5))} (L : Nat) (h : Wg T one (QW T)) : Wg T (altOf5 one T L) (QW T) :=
 (wg_list L 9 (wg_conj L h)).and (fun ms => wg_ok _ (Q := fun m _ => m = ms.flatten) rfl) fun ms m d e h1 h2 => by rw [h2]; exact (QW.flat h1).le (by omega)
theorem GS.op {T : List Tk} {s : Ps} (h : GS T s) (k : Nat) : GS T ⟨s.nx, k, s.vs, s.nm⟩ := ⟨h.a, h.b, h.c⟩
theorem wg_br {T : List Tk} {one : Ps -> R5 (List (List Lf5))} (L : Nat) (h : Wg T one (QW T)) : Wg T (brOf5 one T L) (QW T) := fun s a s' g e => by
 unfold brOf5 at e
 by_cases ho : s.op = 16
 ·rw [if_pos ho] at e; cases e
 ·rw [if_neg ho] at e
  obtain ⟨t, s1, h1, h2⟩ := and5_inv e
  obtain ⟨m, s2, h3, h4⟩ := and5_inv h2
  obtain ⟨u, s3, h5, h6⟩ := and5_inv h4
  obtain ⟨g1, n1, q1⟩ := wg_tk T L _ s t s1 g h1
  obtain ⟨g2, n2, q2⟩ := wg_alt L h _ m s2 (g1.op _) h3
  obtain ⟨g3, n3, q3⟩ := wg_tk T L _ s2 u s3 g2 h5
  have e1 : m = a := congrArg Prod.fst (Except.ok.inj h6)
  have e2 : (⟨s3.nx, s3.op - 1, s3.vs, s3.nm⟩ : Ps) = s' := congrArg Prod.snd (Except.ok.inj h6)
  rw [<- e1, <- e2]
  dsimp only at n2 q2
  exact ⟨g3.op _, by show s.nx <= s3.nx; omega, q2.le (by show _ <= s3.nx - s.nx; omega)⟩
theorem wg_lit (T : List Tk) (L : Nat) : ∀ f, Wg T (lit5 T L f) (QW T)
 | 0 => fun s a s' g e => by cases e
 | f + 1 => wg_if (wg_br L (wg_lit T L f)) (wg_if
   ((wg_at T L).and (fun a => wg_ok _ (Q := fun m _ => m = [[.a a]]) rfl) fun a m d e h1 h2 => by
    rw [h2]
    intro x hx
    rw [List.mem_singleton.1 hx]
    exact ⟨by have := h1.1; simp only [ws5, List.map_cons, List.map_nil, List.sum_cons, List.sum_nil, wf5]; omega, fun l hl => by rw [List.mem_singleton.1 hl]; exact h1.2⟩)
   ((wg_te T L).and (fun t => wg_ok _ (Q := fun m _ => m = [[.t t]]) rfl) fun t m d e h1 h2 => by
    rw [h2]
    intro x hx
    rw [List.mem_singleton.1 hx]
    exact ⟨by have := h1.1; simp only [ws5, List.map_cons, List.map_nil, List.sum_cons, List.sum_nil, wf5]; omega, fun l hl => by rw [List.mem_singleton.1 hl]; exact h1.2⟩))
theorem wg_bd (T : List Tk) (L : Nat) : Wg T (bd5 T L) (QW T) :=
 wg_if ((wg_tk T L [11]).and (fun _ => wg_alt L (wg_lit T L 17)) fun _ m d e _ h => h.le (by omega)) (wg_ok _ fun x hx => by rw [List.mem_singleton.1 hx]; exact ⟨Nat.zero_le _, fun l h => by cases h⟩)
end Go.Proofs.YtnikmcmkbjjcdaaGreatDoor

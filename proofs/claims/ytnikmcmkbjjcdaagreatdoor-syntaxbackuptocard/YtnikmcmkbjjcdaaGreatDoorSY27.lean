import Derived.Test.YtnikmcmkbjjcdaaGreatDoorSJ4
import Derived.Test.YtnikmcmkbjjcdaaGreatDoorSV5
import Derived.Test.YtnikmcmkbjjcdaaGreatDoorSV6
import Derived.Test.YtnikmcmkbjjcdaaGreatDoorSV3
/-
  PLAIN: a fault's number is not 0.
-/
namespace Go.Proofs.YtnikmcmkbjjcdaaGreatDoor
open Go.RowKit

variable {Q : Int × Int → Prop}
/-- What may be said of a fault at a token or at the end. -/
structure HQ (T : List Tk) (L : Nat) (Q : Int × Int → Prop) : Prop where
  t : ∀ (c : Int) (t : Tk), c ≠ 0 → t ∈ T → Q (c, t.a)
  l : ∀ c : Int, c ≠ 0 → Q (c, (L : Int))
end Go.Proofs.YtnikmcmkbjjcdaaGreatDoor
/-
  PLAIN: what is read is valid; where a fault lies; a query's variables are numbered.
-/
namespace Go.Proofs.YtnikmcmkbjjcdaaGreatDoor
open Go.RowKit

/-- Whatever is answered has the property. -/
def Al5 {α : Type} (f : Ps → R5 α) (Q : α → Prop) : Prop := ∀ s a s', f s = .ok (a, s') → Q a
theorem Al5.and {α β : Type} {f : Ps → R5 α} {k : α → Ps → R5 β} {Q : α → Prop} {R : β → Prop} (h : Al5 f Q) (hk : ∀ a, Q a → Al5 (k a) R) : Al5 (fun s => (f s).and k) R := fun s b s' e => by
  obtain ⟨a, s1, h1, h2⟩ := and5_inv e
  exact hk a (h s a s1 h1) s1 b s' h2
theorem al_ok {α : Type} {Q : α → Prop} (a : α) (h : Q a) : Al5 (fun s => (.ok (a, s) : R5 α)) Q := fun s b s' e => by
  have : a = b := congrArg Prod.fst (Except.ok.inj e)
  rw [← this]; exact h
theorem al_if {α : Type} {p : Ps → Prop} [∀ s, Decidable (p s)] {f g : Ps → R5 α} {Q : α → Prop} (hf : Al5 f Q) (hg : Al5 g Q) : Al5 (fun s => if p s then f s else g s) Q := fun s a s' e => by
  by_cases hp : p s
  · simp only [if_pos hp] at e; exact hf s a s' e
  · simp only [if_neg hp] at e; exact hg s a s' e
theorem al_tk (T : List Tk) (L : Nat) (ks : List Int) : Al5 (tk5 T L ks) (fun t => t ∈ T) := fun s a s' e => by
  obtain ⟨h, -, -⟩ := tk5_some e
  exact List.mem_of_getElem? h
/-- A term that is a variable, or whose number is one of 64 bits. -/
def Tn5 (t : Tm) : Prop := t.var = true ∨ N64 t.n
theorem n64_0 : N64 0 := by unfold N64; omega
theorem al_mean {T : List Tk} (hT : ∀ t ∈ T, N64 t.n) (L : Nat) (ks : List Int) : Al5 (fun s => (tk5 T L ks s).and fun t s => (.ok (mean5 t s) : R5 Tm)) Tn5 := (al_tk T L ks).and fun t ht s a s' e => by
  have h1 : mean5 t s = (a, s') := Except.ok.inj e
  have h2 : (mean5 t s).1 = a := congrArg Prod.fst h1
  rw [← h2]
  unfold mean5
  split
  · exact Or.inl (by simp [Tm.var])
  · split
    · exact Or.inr (hT t ht)
    · exact Or.inr n64_0
theorem al_ls {α : Type} {one : Ps → R5 α} {Q : α → Prop} (T : List Tk) (L : Nat) (b : Int) (h : Al5 one Q) : ∀ (f : Nat) (acc : List α), (∀ a ∈ acc, Q a) → Al5 (ls5 one T L b f acc) (fun l => ∀ a ∈ l, Q a)
  | 0, acc, ha => al_ok acc ha
  | f + 1, acc, ha => al_if ((al_tk T L [b]).and fun _ _ => h.and fun a hq => al_ls T L b h f (acc ++ [a]) fun x hx => by
      rcases List.mem_append.1 hx with hx | hx
      · exact ha x hx
      · rw [List.mem_singleton.1 hx]; exact hq) (al_ok acc ha)
theorem al_list {α : Type} {one : Ps → R5 α} {Q : α → Prop} (T : List Tk) (L : Nat) (b : Int) (h : Al5 one Q) : Al5 (list5 one T L b) (fun l => ∀ a ∈ l, Q a) := h.and fun a hq => al_ls T L b h _ [a] fun x hx => by rw [List.mem_singleton.1 hx]; exact hq
def qAn (a : At) : Prop := ∀ t ∈ a.pl, Tn5 t
theorem al_args {T : List Tk} (hT : ∀ t ∈ T, N64 t.n) (L : Nat) : Al5 (args5 T L) (fun l => ∀ t ∈ l, Tn5 t) := al_if ((al_tk T L _).and fun _ _ => (al_list T L 8 (al_mean hT L _)).and fun l hl => (al_tk T L _).and fun _ _ => al_ok l hl) (al_ok [] fun t ht => by cases ht)
theorem al_by {T : List Tk} (hT : ∀ t ∈ T, N64 t.n) (L : Nat) : Al5 (by5 T L) Tn5 := al_if (al_ok _ (Or.inr n64_0)) ((al_mean hT L _).and fun t ht => (al_tk T L _).and fun _ _ => al_ok t ht)
theorem al_at {T : List Tk} (hT : ∀ t ∈ T, N64 t.n) (L : Nat) : Al5 (at5 T L) qAn := (al_by hT L).and fun b hb => (al_tk T L _).and fun _ _ => (al_args hT L).and fun l hl => al_ok _ fun t ht => by
  rcases List.mem_cons.1 ht with rfl | ht
  · exact hb
  · exact hl t ht
theorem cut_n64 (s : ByteArray) (most : Int) : ∀ t ∈ (cutL (blK s) most).1, N64 t.n := by
  unfold cutL
  split
  · intro t ht; cases ht
  · intro t ht
    have := ((ct_has ((blK s).length + 1) (blK s) 0 [] (blK s).length (bl_byt s) (Nat.le_refl _) (fun t ht => by cases ht)).1 t ht).2.2
    exact this
/-- Variables are numbered as they first stand there. -/
def Nu5 {α : Type} (f : Ps → R5 α) (v : α → List Tm) : Prop := ∀ s a s', (∀ x k, s.nm x = some k → k < s.vs) → f s = .ok (a, s') → (∀ x k, s'.nm x = some k → k < s'.vs) ∧ ∀ r, mis (s.vs : Int) (vrs (v a) ++ r) = mis (s'.vs : Int) r
theorem nu_mean (T : List Tk) (L : Nat) (ks : List Int) : Nu5 (fun s => (tk5 T L ks s).and fun t s => (.ok (mean5 t s) : R5 Tm)) (fun t => [t]) := fun s a s' hs e => by
  obtain ⟨t, s1, h1, h2⟩ := and5_inv e
  obtain ⟨-, -, rfl⟩ := tk5_some h1
  have h3 : mean5 t ⟨s.nx + 1, s.op, s.vs, s.nm⟩ = (a, s') := Except.ok.inj h2
  unfold mean5 at h3
  split at h3
  · unfold va5 at h3
    split at h3
    · rename_i hk
      obtain ⟨k, hk1⟩ := Option.isSome_iff_exists.1 hk.1
      have e1 := (Prod.mk.inj h3).1
      have e2 := (Prod.mk.inj h3).2
      rw [← e2, ← e1]
      refine ⟨hs, fun r => ?_⟩
      have hlt := hs _ _ hk1
      have hk2 : s.nm t.x = some k := hk1
      simp only [hk2, Option.getD_some]
      have hv : vrs [(⟨3, (k : Int), ⟨#[]⟩⟩ : Tm)] = [(k : Int)] := by simp [vrs, Tm.var]
      rw [hv]
      show mis (s.vs : Int) ((k : Int) :: r) = _
      rw [mis, if_neg (by omega), if_neg (by omega)]
    · have e1 := (Prod.mk.inj h3).1
      have e2 := (Prod.mk.inj h3).2
      rw [← e2, ← e1]
      refine ⟨fun x k e => ?_, fun r => ?_⟩
      · have e3 : nput s.nm t.x s.vs x = some k := e
        show k < s.vs + 1
        unfold nput at e3
        split at e3
        · have := Option.some.inj e3; omega
        · have := hs x k e3; omega
      · have hv : vrs [(⟨3, (s.vs : Int), ⟨#[]⟩⟩ : Tm)] = [(s.vs : Int)] := by simp [vrs, Tm.var]
        show mis (s.vs : Int) (vrs [(⟨3, (s.vs : Int), ⟨#[]⟩⟩ : Tm)] ++ r) = mis ((s.vs + 1 : Nat) : Int) r
        rw [hv]
        show mis (s.vs : Int) ((s.vs : Int) :: r) = _
        rw [mis, if_neg (by omega), if_pos rfl]
        rfl
  · have hnv : a.var = false := by
      split at h3
      · rw [← (Prod.mk.inj h3).1]; simp [Tm.var]
      · rw [← (Prod.mk.inj h3).1]; simp [Tm.var]
    have e2 : (⟨s.nx + 1, s.op, s.vs, s.nm⟩ : Ps) = s' := by
      split at h3
      · exact (Prod.mk.inj h3).2
      · exact (Prod.mk.inj h3).2
    rw [← e2]
    refine ⟨hs, fun r => ?_⟩
    have hv : vrs [a] = [] := by simp [vrs, hnv]
    rw [hv]
    rfl
theorem nu_tk {T : List Tk} {L : Nat} {ks : List Int} {s s' : Ps} {t : Tk} (h : tk5 T L ks s = .ok (t, s')) : s'.vs = s.vs ∧ s'.nm = s.nm := by
  obtain ⟨-, -, rfl⟩ := tk5_some h
  exact ⟨rfl, rfl⟩
theorem vrs_ap (a b : List Tm) : vrs (a ++ b) = vrs a ++ vrs b := by simp [vrs]
theorem nu_ls (T : List Tk) (L : Nat) : ∀ (f : Nat) (acc : List Tm) (s : Ps) (l : List Tm) (s' : Ps), (∀ x k, s.nm x = some k → k < s.vs) → ls5 (tm5 T L) T L 8 f acc s = .ok (l, s') → (∀ x k, s'.nm x = some k → k < s'.vs) ∧ ∃ m, l = acc ++ m ∧ ∀ r, mis (s.vs : Int) (vrs m ++ r) = mis (s'.vs : Int) r
  | 0, acc, s, l, s', hs, e => by
    have h1 := Prod.mk.inj (Except.ok.inj e)
    rw [← h1.2, ← h1.1]
    exact ⟨hs, [], by simp, fun r => rfl⟩
  | f + 1, acc, s, l, s', hs, e => by
    unfold ls5 at e
    by_cases hk : kd5 T s 0 = 8
    · rw [if_pos hk] at e
      obtain ⟨t, s1, h1, h2⟩ := and5_inv e
      obtain ⟨a, s2, h3, h4⟩ := and5_inv h2
      obtain ⟨v1, n1⟩ := nu_tk h1
      obtain ⟨g1, g2⟩ := nu_mean T L [1, 3, 2, 4] s1 a s2 (by rw [n1, v1]; exact hs) h3
      obtain ⟨g3, m, g4, g5⟩ := nu_ls T L f _ s2 l s' g1 h4
      refine ⟨g3, a :: m, by rw [g4]; simp, fun r => ?_⟩
      rw [show a :: m = [a] ++ m from rfl, vrs_ap, List.append_assoc, ← v1, g2, g5]
    · rw [if_neg hk] at e
      have h1 := Prod.mk.inj (Except.ok.inj e)
      rw [← h1.2, ← h1.1]
      exact ⟨hs, [], by simp, fun r => rfl⟩
theorem nu_at (T : List Tk) (L : Nat) : Nu5 (at5 T L) At.pl := fun s a s' hs e => by
  unfold at5 at e
  obtain ⟨b, s1, h1, h2⟩ := and5_inv e
  obtain ⟨t, s2, h3, h4⟩ := and5_inv h2
  obtain ⟨l, s3, h5, h6⟩ := and5_inv h4
  have h7 := Prod.mk.inj (Except.ok.inj h6)
  rw [← h7.1, ← h7.2]
  have hb : (∀ x k, s1.nm x = some k → k < s1.vs) ∧ ∀ r, mis (s.vs : Int) (vrs [b] ++ r) = mis (s1.vs : Int) r := by
    unfold by5 at h1
    by_cases hc : kd5 T s 0 = 1 ∧ kd5 T s 1 ≠ 5
    · rw [if_pos hc] at h1
      have h8 := Prod.mk.inj (Except.ok.inj h1)
      rw [← h8.1, ← h8.2]
      exact ⟨hs, fun r => rfl⟩
    · rw [if_neg hc] at h1
      obtain ⟨b', s4, h8, h9⟩ := and5_inv h1
      obtain ⟨t', s5, h10, h11⟩ := and5_inv h9
      have h12 := Prod.mk.inj (Except.ok.inj h11)
      obtain ⟨g1, g2⟩ := nu_mean T L [1, 3, 2] s b' s4 hs h8
      obtain ⟨v1, n1⟩ := nu_tk h10
      rw [← h12.1, ← h12.2]
      refine ⟨by rw [n1, v1]; exact g1, fun r => by rw [v1]; exact g2 r⟩
  obtain ⟨v2, n2⟩ := nu_tk h3
  have hl : (∀ x k, s3.nm x = some k → k < s3.vs) ∧ ∀ r, mis (s2.vs : Int) (vrs l ++ r) = mis (s3.vs : Int) r := by
    have hs2 : ∀ x k, s2.nm x = some k → k < s2.vs := by rw [n2, v2]; exact hb.1
    unfold args5 at h5
    by_cases hc : kd5 T s2 0 = 6
    · rw [if_pos hc] at h5
      obtain ⟨t6, s6, h8, h9⟩ := and5_inv h5
      obtain ⟨l', s7, h10, h11⟩ := and5_inv h9
      obtain ⟨t8, s8, h12, h13⟩ := and5_inv h11
      have h14 := Prod.mk.inj (Except.ok.inj h13)
      obtain ⟨v6, n6⟩ := nu_tk h8
      obtain ⟨v8, n8⟩ := nu_tk h12
      unfold list5 at h10
      obtain ⟨a0, s9, h15, h16⟩ := and5_inv h10
      obtain ⟨g1, g2⟩ := nu_mean T L [1, 3, 2, 4] s6 a0 s9 (by rw [n6, v6]; exact hs2) h15
      obtain ⟨g3, m, g4, g5⟩ := nu_ls T L _ _ s9 l' s7 g1 h16
      rw [← h14.1, ← h14.2]
      refine ⟨by rw [n8, v8]; exact g3, fun r => ?_⟩
      rw [g4, vrs_ap, List.append_assoc, ← v6, g2, g5, v8]
    · rw [if_neg hc] at h5
      have h8 := Prod.mk.inj (Except.ok.inj h5)
      rw [← h8.1, ← h8.2]
      exact ⟨hs2, fun r => rfl⟩
  refine ⟨hl.1, fun r => ?_⟩
  show mis (s.vs : Int) (vrs (b :: l) ++ r) = _
  rw [show b :: l = [b] ++ l from rfl, vrs_ap, List.append_assoc, hb.2, ← v2, hl.2]
/-- What a query is that was read. -/
theorem ok_qg {s : ByteArray} {most : Int} {a : At} (h : qg5 s most = .ok a) : a.err = 0 ∧ normC (a, [], []) = (a, [], []) ∧ ∀ t ∈ a.pl, Tn5 t := by
  unfold qg5 at h
  split at h
  · unfold qy5 at h
    cases h1 : at5 (cutL (blK s) most).1 s.size (s05 0) with
    | error x => rw [h1] at h; cases h
    | ok p =>
      obtain ⟨b, s1⟩ := p
      rw [h1] at h
      cases h2 : tk5 (cutL (blK s) most).1 s.size [12] s1 with
      | error x => simp only [h2] at h; cases h
      | ok p =>
        obtain ⟨t, s2⟩ := p
        simp only [h2] at h
        split at h
        · cases h
        · split at h
          · rename_i he
            have e1 : b = a := Except.ok.inj h
            rw [← e1]
            refine ⟨he, norm_id ?_, al_at (cut_n64 s most) _ _ _ _ h1⟩
            have h3 := (nu_at _ _ (s05 0) b s1 (fun x k e => by cases e) h1).2 []
            have h4 : Ck.terms (b, [], []) = b.pl := by simp [Ck.terms, tls]
            rw [h4]
            rw [List.append_nil] at h3
            exact h3
          · cases h
  · cases h
end Go.Proofs.YtnikmcmkbjjcdaaGreatDoor
/-
  syntax: PrintQuery; PLAIN: a query, and a list of clauses, read back from their texts.
-/
namespace Go.Proofs.YtnikmcmkbjjcdaaGreatDoor
open Go.RowKit
attribute [local go_sem ↓] Go.wp_at_zero Go.wp_at_succ

/-- A query's text. -/
def pq5 (a : At) : ByteArray := if a.err = 0 then pa5 a ++ (⟨#[63]⟩ : ByteArray) else ⟨#[]⟩
set_option maxRecDepth 20000 in
set_option maxHeartbeats 2000000 in
theorem printQuery_any (a : At) (y : Value) (w : World) (h : Ts w y a.args) (hn : ∀ t ∈ a.pl, N64 t.n) (hE : EnvOk w) :
    Calls Tryz.prog 26 #[a.v y] w fun e w' => e = .returned (.string (pq5 a)) ∧ Below w.heap.size w w' := by
  have HB0 := hm7 (below1 w (.cells #[.int .i64 a.by_.k, .int .i64 a.by_.n, .string a.by_.s, .string a.name, y] 33))
  have HX0 := hm7 (Bk.new w #[.int .i64 a.by_.k, .int .i64 a.by_.n, .string a.by_.s, .string a.name, y] 33)
  have HCK := hm7 (chk_any a y _ (h.later HB0.out))
  have HPA : Hid (∀ X : World, Below w.heap.size w X → Calls Tryz.prog 27 #[a.v y] X fun e w' => e = .returned (.string (pa5 a)) ∧ Below X.heap.size X w') := fun X hX => printAtom_any a y X (h.later hX) hn (hE.later hX)
  have hpl := pa5_len a hn
  obtain ⟨ya, yc, hyf, -⟩ := h
  obtain ⟨yn, hyn⟩ : ∃ yn, a.args.length = yn := ⟨_, rfl⟩
  rw [hyn] at hyf
  subst hyf
  obtain ⟨R, hR⟩ : ∃ R, pq5 a = R := ⟨_, rfl⟩
  rw [hR]
  unfold pq5 at hR
  obtain ⟨er, her⟩ : ∃ er, a.err = er := ⟨_, rfl⟩
  rw [her] at hR HCK
  obtain ⟨pa, hpa⟩ : ∃ p, pa5 a = p := ⟨_, rfl⟩
  rw [hpa] at HPA hpl hR
  have c0 := HX0.out.cell (i := 0) rfl
  have c1 := HX0.out.cell (i := 1) rfl
  have c2 := HX0.out.cell (i := 2) rfl
  have c3 := HX0.out.cell (i := 3) rfl
  have c4 := HX0.out.cell (i := 4) rfl
  clear hn hE hyn her hpa
  by_cases he : er = 0
  · subst he
    rw [if_pos rfl] at hR
    subst hR
    have g1 : ¬ 9223372036854775807 < pa.size + 1 := by omega
    go_enter Tryz.func26, Tryz.ntmps26
    go_wp2_with (first
      | (go_at_call 21; refine HCK.out.mono ?_; rintro e w1 ⟨rfl, hb⟩; have HB1 := hm7 (HB0.out.trans (hb.mono HB0.out.size)); have HX1 := hm7 (HX0.out.below hb); clear hb c0 c1 c2 c3 c4; have c0 := HX1.out.cell (i := 0) rfl; have c1 := HX1.out.cell (i := 1) rfl; have c2 := HX1.out.cell (i := 2) rfl; have c3 := HX1.out.cell (i := 3) rfl; have c4 := HX1.out.cell (i := 4) rfl)
      | (go_at_call 27; refine (HPA.out _ HB1.out).mono ?_; rintro e w2 ⟨rfl, hb⟩; have HB2 := hm7 (HB1.out.trans (hb.mono HB1.out.size)); clear hb))
    go_ret
    exact ⟨rfl, HB2.out⟩
  · rw [if_neg he] at hR
    subst hR
    have he1 : (er == 0) = false := by simp [he]
    have he2 : (er != 0) = true := by simp [he]
    go_enter Tryz.func26, Tryz.ntmps26
    go_wp2_with (go_at_call 21; refine HCK.out.mono ?_; rintro e w1 ⟨rfl, hb⟩; have HB1 := hm7 (HB0.out.trans (hb.mono HB0.out.size)); clear hb c0 c1 c2 c3 c4)
    go_ret
    exact ⟨rfl, HB1.out⟩
theorem rv_err {s : Ps} {a : At} (h : a.err = 0) : (mapA (rv5 s) a).err = 0 := by
  obtain ⟨h1, h2, h3, h4⟩ := err_zero' h
  have hv : ∀ t : Tm, t.var = true → (rv5 s t).var = true := fun t ht => by unfold rv5; rw [if_pos ht]; simp [Tm.var]
  have hn : ∀ t : Tm, ¬ t.var = true → rv5 s t = t := fun t ht => by unfold rv5; rw [if_neg ht]
  refine err_zero h1 (by show (a.args.map (rv5 s)).length ≤ 8; rw [List.length_map]; exact h2) ?_ fun t ht => ?_
  · show qualOk (rv5 s a.by_) = true
    by_cases hb : a.by_.var = true
    · unfold qualOk
      rw [hv _ hb]
      simp
    · rw [hn _ hb]; exact h3
  · obtain ⟨u, hu, rfl⟩ := List.mem_map.1 (show t ∈ a.args.map (rv5 s) from ht)
    by_cases hb : u.var = true
    · unfold Tm.cov
      rw [hv _ hb]
      simp
    · rw [hn _ hb]; exact h4 u hu
/-- An atom is read back from its query's text, its variables numbered. -/
theorem qg_back {a : At} (he : a.err = 0) (hn : ∀ t ∈ a.pl, N64 t.n) : qg5 (pq5 a) 32768 = .ok (normC (a, [], [])).1 := by
  have hz : Cz5 true (blK (pq5 a)) (tA a ++ [tS 12]) := by
    unfold pq5
    rw [if_pos he, bl_appJ5]
    exact ((cz_atom he hn).app sgn_12 fun _ => ⟨63, _, rfl, by decide, by decide⟩).weak
  have hs : (pq5 a).size ≤ 2411 := by
    unfold pq5
    rw [if_pos he, ByteArray.size_append]
    have := pa5_2410 he hn
    have e : (⟨#[63]⟩ : ByteArray).size = 1 := rfl
    omega
  obtain ⟨T, hc, hT⟩ := cut_cz (most := 32768) hz (by omega)
  have hl := Ly5.all hT
  have hlen : T.length = (tA a).length + 1 := by have := congrArg List.length hT; rw [List.length_map, List.length_append] at this; exact this
  obtain ⟨u, hu, eu⟩ := hl.right.head
  have ek : u.k = 12 := congrArg Tk.k eu
  obtain ⟨s', h1, h2, h3, h4⟩ := at_back (L := (pq5 a).size) (s := s05 0) he hl.left (by
    show Nx5 (kA5 T (0 + _))
    rw [kA_ly hl.right]
    exact ⟨by decide, by decide, by decide⟩)
  have h2' : s'.nx = 0 + (tA a).length := h2
  have hq : qg5 (pq5 a) 32768 = .ok (mapA (rv5 s') a) := by
    unfold qg5
    rw [hc]
    show qy5 T (pq5 a).size = _
    unfold qy5
    rw [h1]
    simp only
    rw [tk_at (t := u) (by rw [h2']; exact hu) (by rw [ek]; simp)]
    simp only
    rw [if_neg (by rw [h2', hlen]; omega), if_pos (rv_err he)]
  rw [hq]
  have hno := (ok_qg hq).2.1
  have hi : Ij5 s' := h3.i ⟨(fun x k e => by cases e), fun x y k e => by cases e⟩
  have ht : Ck.terms (a, [], []) = a.pl := by simp [Ck.terms, tls]
  have hr : Ren (rv5 s') (Ck.terms (a, [], [])) := by rw [ht]; exact rv_ren hi h4 hn
  have e1 : mapC (rv5 s') (a, [], []) = (mapA (rv5 s') a, [], []) := rfl
  have h5 := ren_norm hr
  rw [e1, hno] at h5
  rw [← h5]
theorem pg_cut {s : ByteArray} {most : Int} {ks : List Ck} (h : pg5 s most = .ok ks) : ∃ T, cutL (blK s) most = (T, 0, 0) := by
  have hc : (cutL (blK s) most).2.1 = 0 := by
    unfold pg5 at h
    split at h
    · assumption
    · cases h
  have h2 : (cutL (blK s) most).2.2 = 0 := by
    unfold cutL at hc ⊢
    split at hc
    · exact absurd (show (41 : Int) = 0 from hc) (by decide)
    · rename_i hm
      rw [if_neg hm]
      rcases ct_fault ((blK s).length + 1) (blK s) 0 [] (by omega) with h1 | ⟨p, -, -, h3, -⟩
      · exact h1.2
      · exfalso; omega
  exact ⟨_, Prod.ext rfl (Prod.ext hc h2)⟩
def palB (ks : List Ck) : ByteArray := ⟨(pal5 ks).toArray⟩
theorem palB_cons {k : Ck} {r : List Ck} (h : ch5 k = 0) : palB (k :: r) = two_ (pc5 k) (palB r) := by
  unfold palB two_ pal5
  rw [List.flatMap_cons]
  unfold ln5
  rw [if_neg (pc5_ne h)]
  apply ByteArray.ext
  apply Array.toList_inj.1
  simp [ByteArray.data_append]
theorem palB_no {k : Ck} {r : List Ck} (h : ch5 k ≠ 0) : palB (k :: r) = palB r := by
  unfold palB pal5
  rw [List.flatMap_cons]
  unfold ln5
  rw [if_pos (pc5_no h), List.nil_append]
/-- The valid ones of a list. -/
def vl5 (ks : List Ck) : List Ck := ks.filter fun k => decide (ch5 k = 0)
/-- A list of clauses is read back from its text: the valid ones. -/
theorem pal_back : ∀ (ks : List Ck), (∀ k ∈ ks, ∀ t ∈ Ck.terms k, N64 t.n) → (palB ks).size ≤ 1048576 → pg5 (palB ks) 1048576 = .ok (vl5 ks)
  | [], _, _ => by
    have hc : cutL (blK (palB [])) 1048576 = ([], 0, 0) := rfl
    rw [pg5_cut hc, pp5_end (T := []) (nx := 0) (Nat.le_refl 0)]
    rfl
  | k :: r, hn, hs => by
    by_cases h : ch5 k = 0
    · have hk := hn k (List.mem_cons_self ..)
      rw [palB_cons h] at hs ⊢
      have hz := two_size (pc5 k) (palB r)
      have ih := pal_back r (fun x hx => hn x (List.mem_cons_of_mem _ hx)) (by omega)
      have h1 := pg_back (most := 1048576) h hk (by decide)
      obtain ⟨A, hA⟩ := pg_cut h1
      obtain ⟨B, hB⟩ := pg_cut ih
      rw [two_back (by omega) hA hB h1, ih]
      show Except.ok ([k] ++ vl5 r) = _
      unfold vl5
      rw [List.filter_cons_of_pos (by simpa using h)]
      rfl
    · rw [palB_no h] at hs ⊢
      have ih := pal_back r (fun x hx => hn x (List.mem_cons_of_mem _ hx)) hs
      rw [ih]
      unfold vl5
      rw [List.filter_cons_of_neg (by simpa using h)]
/-- A clause of elder memory. -/
theorem ok_low {c : Cm} {w Y : World} (h : c.ok w) (hs : w.heap.size ≤ Y.heap.size) (ha : ∀ b, b < w.heap.size → Y.heap[b]? = w.heap[b]?) : c.ok Y := by
  have hb : Below w.heap.size w { w with heap := Y.heap } := { os := rfl, tape := rfl, output := rfl, size := hs, block := ha }
  have h' := h.later hb
  exact ⟨h'.h, h'.b, h'.t⟩
/-- A list of the call's own of clauses of elder memory. -/
theorem rl_low {w X : World} {v : Value} {l : List Cm} (hb : Below w.heap.size w X) (ho : X.ownsRow w.heap.size 37 7 v l.length (l.flatMap cc5)) (hl : ∀ c ∈ l, c.ok w) : RL (fun _ => True) X v l := by
  refine ⟨row5_base ho, fun _ _ => trivial, fun c hc Y hs ha => ok_low (hl c hc) (Nat.le_trans hb.size hs) fun b hlt => ?_⟩
  rw [ha b ⟨trivial, fun e => by have := (World.ownsRow.lt ho b e).1; omega⟩ (Nat.lt_of_lt_of_le hlt hb.size)]
  exact hb.block b hlt
end Go.Proofs.YtnikmcmkbjjcdaaGreatDoor
/-
  law 5: first.
-/
namespace Go.Proofs.YtnikmcmkbjjcdaaGreatDoor
open Go.RowKit
attribute [local go_sem ↓] Go.wp_at_zero Go.wp_at_succ

theorem neq_ft0 (w : World) : (binOp .neq 26 (.agg #[.int .i64 0, .int .i64 0]) (.agg #[.int .i64 0, .int .i64 0])).run Tryz.prog w = .ok (.bool false) w := by kernel_rfl
/-- What first's text says. -/
theorem first_pg : ∃ a b : Ck, pg5 fT1 1048576 = .ok [a, b] ∧ a.2.1.length = 1 ∧ b.2.2.length = 1 ∧ pc5 b = fT2 ∧ (∀ t ∈ Ck.terms b, N64 t.n) ∧ (Ck.terms b).length ≤ 100 := by
  have h := okF_yes
  unfold okF at h
  split at h
  · rename_i a b e
    obtain ⟨h1, h2, h3, h4, h5⟩ := of_decide_eq_true h
    exact ⟨a, b, e, h1, h2, h3, h4, h5⟩
  · cases h
theorem n64_wf {n : Int} (h : N64 n) : (Lit.int .i64 n).wf = true := by
  obtain ⟨h1, h2⟩ := h
  simp only [Lit.wf, IntKind.min, IntKind.max, Bool.and_eq_true]
  constructor <;> simp [IntKind.signed, IntKind.bits] <;> omega
theorem cc5_get : ∀ {l : List Cm} {j : Nat} {c : Cm}, l[j]? = some c → ∀ i u, (cc5 c)[i]? = some u → i < 7 → (l.flatMap cc5)[j * 7 + i]? = some u
  | [], j, t, h, i, u, hu, hi => by simp at h
  | y :: l, 0, t, h, i, u, hu, hi => by
    simp only [List.getElem?_cons_zero, Option.some.injEq] at h
    subst h
    rw [List.flatMap_cons, Nat.zero_mul, Nat.zero_add, List.getElem?_append_left (by simpa [cc5] using hi)]
    exact hu
  | y :: l, j + 1, t, h, i, u, hu, hi => by
    rw [List.getElem?_cons_succ] at h
    have ih := cc5_get h i u hu hi
    rw [List.flatMap_cons, List.getElem?_append_right (by simp [cc5]; omega), show (j + 1) * 7 + i - (cc5 y).length = j * 7 + i by simp [cc5]; omega]
    exact ih
set_option maxRecDepth 20000 in
set_option maxHeartbeats 4000000 in
theorem first5_any (w : World) (hE : EnvOk w) (hO : OpsOk w) :
    Calls Tryz.prog 9 #[] w fun e w' => e = .returned (.bool true) ∧ Below w.heap.size w w' := by
  obtain ⟨ka, kb, hpg, hla, hlb, hpc, hnb, hlen⟩ := first_pg
  have HPG := hm7 (program_any fT1 (by decide) w hE hO)
  rw [hpg] at HPG
  have HE := hm7 hE
  have HO := hm7 hO
  unfold fT1 at HPG
  clear hpg hE hO
  have hnq := neq_ft0
  go_enter Tryz.func9, Tryz.ntmps9
  go_upto_region 2 with (go_at_call 10; refine HPG.out.mono ?_; rintro e W1 ⟨hb, v, c, a, rfl, rfl, rfl, l, hk, hrl⟩; have hl2 : l.length = 2 := (by have := congrArg List.length hk; simpa using this); obtain ⟨vg, vc, hvf⟩ := row5_pos hrl.o (by omega); rw [hl2] at hvf; subst hvf; have HK := hm7 hk; have HRL := hm7 hrl; have HB1 := hm7 hb; have HL2 := hm7 hl2; clear hb hk hrl hl2)
  obtain ⟨d, e, hde⟩ : ∃ d e, l = [d, e] := by
    match l, HL2.out with
    | [d, e], _ => exact ⟨d, e, rfl⟩
  subst hde
  have hkd : d.key = ka ∧ e.key = kb := by
    have := HK.out
    simp only [List.map_cons, List.map_nil, List.cons.injEq, and_true] at this
    exact this
  have hod := (HRL.out.k d (by simp)).ok
  have hoe := (HRL.out.k e (by simp)).ok
  have hdl : d.body.length = 1 := by rw [(key_len d).1, hkd.1]; exact hla
  have hel : e.tests.length = 1 := by rw [(key_len e).2, hkd.2]; exact hlb
  have HPR : Hid (∀ X : World, Below W1.heap.size W1 X → Calls Tryz.prog 16 #[e.v] X fun e w' => e = .returned (.string fT2) ∧ Below X.heap.size X w') := fun X hX => by
    have := print5_any e X (hoe.later hX) ⟨fun t ht _ => n64_wf (hnb t (by rw [key_terms, hkd.2] at ht; exact ht)), by rw [key_terms, hkd.2]; omega⟩ (fun t ht => hnb t (by rw [key_terms, hkd.2] at ht; exact ht)) (HE.out.later (HB1.out.trans (hX.mono HB1.out.size))) (HO.out.fr (P := fun _ => False) (Fr.of (HB1.out.trans (hX.mono HB1.out.size))) fun h => h)
    rw [hkd.2, hpc] at this
    exact this
  obtain ⟨-, ⟨db, dbc, edb⟩, ⟨dt, dtc, edt⟩, -, -⟩ := hod.shape
  obtain ⟨⟨eh, ehn, ehc, eeh⟩, ⟨eb, ebc, eeb⟩, ⟨et, etc', eet⟩, -, -⟩ := hoe.shape
  rw [hdl] at edb
  rw [hel] at eet
  have HRO : Hid (W1.ownsRow 0 37 7 (.slice (some ⟨vg, 0, none⟩) 2 vc) 2 ([d, e].flatMap cc5)) := HRL.out.o
  have q5 := row5_cell HRO.out (cc5_get (l := [d, e]) (j := 0) rfl 5 d.bv rfl (by omega))
  have p0 := row5_cell HRO.out (cc5_get (l := [d, e]) (j := 1) rfl 0 _ rfl (by omega))
  have p1 := row5_cell HRO.out (cc5_get (l := [d, e]) (j := 1) rfl 1 _ rfl (by omega))
  have p2 := row5_cell HRO.out (cc5_get (l := [d, e]) (j := 1) rfl 2 _ rfl (by omega))
  have p3 := row5_cell HRO.out (cc5_get (l := [d, e]) (j := 1) rfl 3 _ rfl (by omega))
  have p4 := row5_cell HRO.out (cc5_get (l := [d, e]) (j := 1) rfl 4 _ rfl (by omega))
  have p5 := row5_cell HRO.out (cc5_get (l := [d, e]) (j := 1) rfl 5 _ rfl (by omega))
  have p6 := row5_cell HRO.out (cc5_get (l := [d, e]) (j := 1) rfl 6 _ rfl (by omega))
  rw [edb] at q5
  obtain ⟨⟨⟨⟨hk1, hn1, hs1⟩, hm1, ha1⟩, hv1⟩, body1, bv1, tests1, tv1⟩ := e
  dsimp only at eeh eeb eet HPR p0 p1 p2 p3 p4 p5 p6
  generalize body1.length = bl1 at eeb
  subst eeh
  subst eeb
  subst eet
  simp only [Nat.zero_mul, Nat.one_mul, Nat.zero_add, Nat.add_zero] at q5 p0 p1 p2 p3 p4 p5 p6
  have hvg := (World.ownsRow.lt HRO.out vg rfl).2
  have HB2 := hm7 (below1 W1 (.cells #[.int .i64 0, .int .i64 0] 26))
  have HFX := hm7 (Bk.new W1 #[.int .i64 0, .int .i64 0] 26)
  unfold fT2 at HPR
  clear hla hlb hpc hnb hlen hkd hod hoe hdl hel HK edt HPG
  have x0 := HFX.out.cell (i := 0) rfl
  have x1 := HFX.out.cell (i := 1) rfl
  go_upto_region 4 with fail
  go_wp2_with (go_at_call 16; refine (HPR.out _ HB2.out).mono ?_; rintro e w3 ⟨rfl, hb⟩; have HB3 := hm7 (HB1.out.trans ((HB2.out.trans (hb.mono HB2.out.size)).mono HB1.out.size)); clear hb)
  go_ret
  exact ⟨rfl, HB3.out⟩
end Go.Proofs.YtnikmcmkbjjcdaaGreatDoor

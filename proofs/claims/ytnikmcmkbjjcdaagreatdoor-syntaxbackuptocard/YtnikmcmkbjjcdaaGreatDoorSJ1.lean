import Derived.Test.YtnikmcmkbjjcdaaGreatDoorSY22
/-
  syntax: program.
-/
namespace Go.Proofs.YtnikmcmkbjjcdaaGreatDoor
open Go.RowKit
attribute [local go_sem ↓] Go.wp_at_zero Go.wp_at_succ

/-- All rules, one by one. -/
def pr5 (T : List Tk) (L : Nat) : Nat → List Ck → Nat → Except (Int × Int) (List Ck)
  | 0, acc, _ => .ok acc
  | f + 1, acc, nx => if nx < T.length then match rl5 T L nx with
      | .error e => .error e
      | .ok (ks, n') => pr5 T L f (acc ++ ks) n'
    else .ok acc
theorem rl5_nx {T : List Tk} {L nx n' : Nat} {ks : List Ck} (hx : nx ≤ T.length) (h : rl5 T L nx = .ok (ks, n')) : nx < n' ∧ n' ≤ T.length := by
  unfold rl5 at h
  cases hr : rh5 T L (s05 nx) with
  | error e => rw [hr] at h; cases h
  | ok p =>
    obtain ⟨⟨a, m⟩, s⟩ := p
    rw [hr] at h
    have h1 : (if 64 < m.length then (.error (53, pl5 T L (s05 nx)) : Except (Int × Int) (List Ck × Nat)) else match cls5 (pl5 T L (s05 nx)) a m [] with
      | .error e => .error e
      | .ok ks => .ok (ks, s.nx)) = .ok (ks, n') := h
    have hs : s.nx = n' := by
      by_cases hm : 64 < m.length
      · rw [if_pos hm] at h1; cases h1
      · rw [if_neg hm] at h1
        cases hc : cls5 (pl5 T L (s05 nx)) a m [] with
        | error e => rw [hc] at h1; cases h1
        | ok k => rw [hc] at h1; exact congrArg Prod.snd (Except.ok.inj h1)
    unfold rh5 at hr
    obtain ⟨b, s1, h2, h3⟩ := and5_inv hr
    obtain ⟨m2, s2, h4, h5⟩ := and5_inv h3
    obtain ⟨t, s3, h6, h7⟩ := and5_inv h5
    obtain ⟨g1, n1, q1⟩ := wg_at T L _ _ _ (gs_05 hx) h2
    obtain ⟨g2, n2, q2⟩ := wg_bd T L _ _ _ g1 h4
    obtain ⟨g3, n3, q3⟩ := wg_tk T L _ _ _ _ g2 h6
    have e2 : s3 = s := congrArg Prod.snd (Except.ok.inj h7)
    have h8 := q1.1
    have h9 : (s05 nx).nx = nx := rfl
    rw [h9] at n1 h8
    have h10 := g3.a
    rw [e2] at n3 h10
    omega
/-- What program answers. -/
def PrP (g : Nat) (w : World) (R : Except (Int × Int) (List Ck)) (e : Ending) (w' : World) : Prop :=
  Fr (fun b => b = g) w w' ∧ match R with
    | .error f => e = .panicked [pF f]
    | .ok ks => ∃ v l, e = .returned v ∧ l.map Cm.key = ks ∧ RL (fun b => w.heap.size ≤ b) w' v l
theorem row5_pos {w : World} {base n m : Nat} {e : TypeId} {v : Value} {xs : List Value} (h : w.ownsRow base e n v m xs) (h0 : 0 < m) : ∃ g cap, v = .slice (some ⟨g, 0, none⟩) m cap := by
  rcases h.2 with ⟨-, hn⟩ | ⟨g, cap, cur, hv, -⟩
  · omega
  · exact ⟨g, cap, hv⟩
theorem RuP.err {g N : Nat} {tv : Value} {T : List Tk} {L : Nat} {w : World} {R : Except (Int × Int) (List Ck × Nat)} {f : Int × Int} {fn : Nat} {args : Array Value} (h : Calls Tryz.prog fn args w (RuP g N tv T L w R)) (hr : R = .error f) : Calls Tryz.prog fn args w fun e w' => e = .panicked [pF f] ∧ Fr (fun b => b = g) w w' := by
  subst hr
  exact h.mono fun e w' ⟨h1, h2⟩ => ⟨h2, h1⟩
theorem RuP.ok {g N : Nat} {tv : Value} {T : List Tk} {L : Nat} {w : World} {R : Except (Int × Int) (List Ck × Nat)} {ks : List Ck} {nx : Nat} {fn : Nat} {args : Array Value} (h : Calls Tryz.prog fn args w (RuP g N tv T L w R)) (hr : R = .ok (ks, nx)) : Calls Tryz.prog fn args w fun e w' => ∃ v l, e = .returned v ∧ l.map Cm.key = ks ∧ l ≠ [] ∧ l.length ≤ 64 ∧ RL (fun b => w.heap.size ≤ b) w' v l ∧ PB g N tv T L w' nx ∧ Fr (fun b => b = g) w w' := by
  subst hr
  exact h.mono fun e w' ⟨h1, v, l, h2, h3, h4, h5, h6, h7⟩ => ⟨v, l, h2, h3, h4, h5, h6, h7, h1⟩
set_option maxRecDepth 20000 in
set_option maxHeartbeats 4000000 in
theorem program5_any (g N : Nat) (tv : Value) (T : List Tk) (L : Nat) (w : World) (h : PB g N tv T L w 0) :
    Calls Tryz.prog 29 #[.pointer (some ⟨g, 0, none⟩)] w (PrP g w (pr5 T L (T.length + 1) [] 0)) := by
  have HPB := hm7 h
  have hT := h.ok.l
  have HGW : Hid (g < w.heap.size) := Nat.lt_of_lt_of_le h.gN h.Nw
  have HNW := hm7 h.Nw
  have HRU : Hid (∀ (X : World) (nx : Nat), PB g N tv T L X nx → Calls Tryz.prog 49 #[.pointer (some ⟨g, 0, none⟩)] X (RuP g N tv T L X (rl5 T L nx))) := fun X nx hX => rule5_any g N tv T L nx X hX
  obtain ⟨R, hR⟩ : ∃ R, pr5 T L (T.length + 1) [] 0 = R := ⟨_, rfl⟩
  rw [hR]
  have HR := hm7 hR
  obtain ⟨ta, tc, htv, -⟩ := h.t
  subst htv
  obtain ⟨tn, htn⟩ : ∃ tn, T.length = tn := ⟨_, rfl⟩
  rw [htn] at HPB HRU hT
  have HTN := hm7 htn
  clear h hR htn
  go_enter Tryz.func29, Tryz.ntmps29
  go_wp2
  go_loopg [3] (tn + 1) (fun f u wr => ∃ (nx : Nat) (l : List Cm), pr5 T L f (l.map Cm.key) nx = R ∧ tn < nx + f ∧ nx ≤ tn ∧ l.length ≤ 64 * nx ∧ wr.ownsRow w.heap.size 37 7 u l.length (l.flatMap cc5) ∧ (∀ d ∈ l, KF (fun b => w.heap.size ≤ b ∧ u.ownBlock ≠ some b) wr d) ∧ PB g N (.slice ta tn tc) T L wr nx ∧ Fr (fun b => b = g) w wr)
  case atStart => exact ⟨0, [], by have := HR.out; rw [HTN.out] at this; exact this, by omega, Nat.zero_le _, Nat.zero_le _, World.ownsRow_nil _ _ _ _, (fun d hd => by cases hd), HPB.out, Fr.refl _ _⟩
  case round =>
    obtain ⟨nx, l, hRj, hfl, hnx, hll, ho, hkf, hpb, hfr⟩ := hrel
    have HRJ := hm7 hRj
    have HKF := hm7 hkf
    have HPJ := hm7 hpb
    have HFJ := hm7 hfr
    obtain ⟨mv, vs, hb⟩ := hpb.b
    have c0 := hb.cell (i := 0) rfl
    have c1 := hb.cell (i := 1) rfl
    obtain ⟨ua, uc, huf, -⟩ := row7_form ho
    obtain ⟨ln, hln⟩ : ∃ ln, l.length = ln := ⟨_, rfl⟩
    rw [hln] at huf ho hll
    have HLN := hm7 hln
    have HO := hm7 ho
    subst huf
    have hsz := hfr.size
    clear hRj hkf hpb hfr hb ho hln HR HPB
    cases gk with
    | zero => omega
    | succ f =>
      by_cases hlt : nx < tn
      · have hlt2 : (nx : Int) < (tn : Int) := by omega
        have HRN : Hid ((match rl5 T L nx with
            | .error e => .error e
            | .ok (ks, n') => pr5 T L f (l.map Cm.key ++ ks) n') = R) := by
          have := HRJ.out
          unfold pr5 at this
          rw [if_pos (by rw [HTN.out]; exact hlt)] at this
          exact this
        clear HRJ
        go_wp2
        go_quiet (fail)
        clear c0 c1
        have HDB : Hid (Below wr.heap.size wr (wr.drewN nq)) := below_drewN (Below.refl _ wr) _
        revert HDB
        generalize wr.drewN nq = wd
        intro HDB
        have HPD := hm7 (HPJ.out.below HDB.out)
        have HRX := hm7 (HRU.out wd nx HPD.out)
        have hszd : w.heap.size ≤ wd.heap.size := Nat.le_trans hsz HDB.out.size
        cases hr : rl5 T L nx with
        | error e0 =>
          have HRE : Hid (R = .error e0) := by have := HRN.out; rw [hr] at this; exact this.symm
          have HE := hm7 (RuP.err HRX.out hr)
          clear hr HRN HRX
          go_wp2_with (go_at_call 49; refine HE.out.mono ?_; rintro e W1 ⟨rfl, hf⟩; have HF1 := hm7 ((HFJ.out.then HDB.out).tr hf); clear hf)
          refine ⟨rfl, ?_⟩
          rw [HRE.out]
          exact ⟨HF1.out, rfl⟩
        | ok p =>
          obtain ⟨ks, n'⟩ := p
          have HRN2 : Hid (pr5 T L f (l.map Cm.key ++ ks) n' = R) := by have := HRN.out; rw [hr] at this; exact this
          have HE := hm7 (RuP.ok HRX.out hr)
          obtain ⟨hn1, hn2⟩ := rl5_nx (by rw [HTN.out]; exact hnx) hr
          rw [HTN.out] at hn2
          clear hr HRN HRX
          go_wp2_with (first
            | (go_at_call 49; refine HE.out.mono ?_; rintro e W1 ⟨v1, l1, rfl, hk1, hne, hl64, hrl, hpb, hf⟩; have hpos : 0 < l1.length := List.length_pos_iff.2 hne; obtain ⟨vg, vc, hvf⟩ := row5_pos hrl.o hpos; generalize hl1 : l1.length = k1 at hvf hl64 hpos; subst hvf; have HL1 := hm7 hl1; have HK1 := hm7 hk1; have HRL := hm7 hrl; have HP1 := hm7 hpb; have HF1 := hm7 ((HFJ.out.then HDB.out).tr hf); have HO1 := hm7 (row7_fr (row7_below HO.out HDB.out) hf fun b hb e => by have := (World.ownsRow.lt HO.out b hb).1; have := HGW.out; omega); have HKF1 : Hid (∀ d ∈ l, KF (fun b => w.heap.size ≤ b ∧ (Value.slice ua ln uc).ownBlock ≠ some b) W1 d) := (fun d hd => ((HKF.out d hd).below HDB.out).fr hf fun b hb e => by have := hb.1; have := HGW.out; omega); have hsz1 := hf.size; clear hk1 hne hrl hpb hf hl1 HE)
            | (at_builtin; refine gappL5 Tryz.underlying23 Tryz.infoClause5 rfl (by decide) (by decide) rfl _ _ rfl w.heap.size (.slice ua ln uc) ln (l.flatMap cc5) rfl HO1.out vg k1 vc 0 (l1.flatMap cc5) rfl (by have := HRL.out.o; rw [HL1.out] at this; exact this) hpos (fun u hu => by obtain ⟨d, hd, hu⟩ := List.mem_flatMap.1 hu; exact cc5_one (HRL.out.k d hd).ok u hu) (by omega) (by omega) ?_; intro g5 q5 w5 ho5 hg5 hv5 hl5; have HO5 := hm7 ho5; have HG5 := hm7 hg5; have HV5 := hm7 hv5; clear ho5 hg5 hv5 hl5))
          have HGF : Hid (Fr (fun b => w.heap.size ≤ b) W1 w5) := Fr.grown HG5.out fun b hb => (World.ownsRow.lt HO1.out b hb).1
          have HGO : Hid (Fr (fun b => (Value.slice ua ln uc).ownBlock = some b) W1 w5) := Fr.grown HG5.out fun b hb => hb
          have HI5 : Hid (∀ d, KF (fun b => w.heap.size ≤ b ∧ (Value.slice ua ln uc).ownBlock ≠ some b) W1 d → KF (fun b => w.heap.size ≤ b ∧ (Value.slice (some ⟨g5, 0, none⟩) (ln + k1) q5).ownBlock ≠ some b) w5 d) := fun d hd => by
            have h2 := hd.mono (G := fun b => (w.heap.size ≤ b ∧ (Value.slice (some ⟨g5, 0, none⟩) (ln + k1) q5).ownBlock ≠ some b) ∧ (Value.slice ua ln uc).ownBlock ≠ some b) fun b hb hw => ⟨⟨hw.1, fun e => by
              have e1 : g5 = b := Option.some.inj e
              rcases HV5.out with e2 | e2
              · exact hw.2 (by rw [← e1]; exact e2)
              · omega⟩, hw.2⟩
            exact (h2.fr HGO.out fun b hb => hb.2).mono fun b _ hb => hb.1
          try go_wp2
          go_roundg f
          case measure => omega
          case rel =>
            refine ⟨n', l ++ l1, ?_, by omega, by omega, ?_, ?_, ?_, ?_, ?_⟩
            · rw [List.map_append, HK1.out]; exact HRN2.out
            · rw [List.length_append, HLN.out, HL1.out]; omega
            · rw [List.length_append, HLN.out, HL1.out, List.flatMap_append]; exact HO5.out
            · intro d hd
              rcases List.mem_append.1 hd with hd | hd
              · exact HI5.out d (HKF1.out d hd)
              · refine HI5.out d ((HRL.out.k d hd).mono fun b _ hb => ⟨Nat.le_trans hszd hb.1, fun e => ?_⟩)
                have h1 := (World.ownsRow.lt (row7_below HO.out HDB.out) b e).2
                have h2 := hb.1
                omega
            · exact HP1.out.fr HGF.out fun b hb e => by have := HNW.out; omega
            · exact HF1.out.trans HGF.out fun b hb e => by omega
      · have hlt2 : ¬ (nx : Int) < (tn : Int) := by omega
        have HRE : Hid (R = .ok (l.map Cm.key)) := by
          have := HRJ.out
          unfold pr5 at this
          rw [if_neg (by rw [HTN.out]; exact hlt)] at this
          exact this.symm
        clear HRJ
        go_wp2
        go_quiet (fail)
        clear c0 c1
        have HDB : Hid (Below wr.heap.size wr (wr.drewN nq)) := below_drewN (Below.refl _ wr) _
        revert HDB
        generalize wr.drewN nq = wd
        intro HDB
        go_wp2
        go_ret
        rw [HRE.out]
        refine ⟨HFJ.out.then HDB.out, _, l, rfl, rfl, ⟨?_, ?_, fun d hd => (HKF.out d hd).below HDB.out⟩⟩
        · rw [HLN.out]; exact row5_base (row7_below HO.out HDB.out)
        · intro b hb
          exact (World.ownsRow.lt HO.out b hb).1
end Go.Proofs.YtnikmcmkbjjcdaaGreatDoor
/-
  PLAIN: tokens with more behind them are read alike, unless the end is met.
-/
namespace Go.Proofs.YtnikmcmkbjjcdaaGreatDoor
open Go.RowKit

/-- The end of the n tokens is met. -/
def EndR {α : Type} (n La : Nat) : R5 α → Prop
  | .error e => e.2 = (La : Int)
  | .ok (_, s) => n ≤ s.nx
/-- f (of the tokens alone) and g (with more behind) agree, unless the end is met. -/
def Jn {α : Type} (n La k : Nat) (f g : Ps → R5 α) : Prop := ∀ s, s.op = k → EndR n La (f s) ∨ (s.nx < n ∧ f s = g s)
theorem Jn.and {α β : Type} {n La k : Nat} {f g : Ps → R5 α} {p q : α → Ps → R5 β} (h : Jn n La k f g) (hg : Goes f) (hp : ∀ a, Jn n La k (p a) (q a)) : Jn n La k (fun s => (f s).and p) (fun s => (g s).and q) := fun s hs => by
  show EndR n La ((f s).and p) ∨ (s.nx < n ∧ (f s).and p = (g s).and q)
  rcases h s hs with h1 | ⟨hn, h1⟩
  · cases hf : f s with
    | error e => rw [hf] at h1; exact Or.inl h1
    | ok a =>
      obtain ⟨a, s'⟩ := a
      rw [hf] at h1
      have ho := (hg s a s' hf).1
      rcases hp a s' (ho.trans hs) with h2 | ⟨h2, -⟩
      · exact Or.inl h2
      · have : n ≤ s'.nx := h1
        omega
  · rw [← h1]
    cases hf : f s with
    | error e => exact Or.inr ⟨hn, rfl⟩
    | ok a =>
      obtain ⟨a, s'⟩ := a
      have ho := (hg s a s' hf).1
      rcases hp a s' (ho.trans hs) with h2 | ⟨-, h2⟩
      · exact Or.inl h2
      · exact Or.inr ⟨hn, h2⟩
theorem Jn.pure {α : Type} {n La k : Nat} {F : Ps → α × Ps} (hF : ∀ s, s.nx ≤ (F s).2.nx) : Jn n La k (fun s => (.ok (F s) : R5 α)) (fun s => .ok (F s)) := fun s _ => by
  rcases Nat.lt_or_ge s.nx n with h | h
  · exact Or.inr ⟨h, rfl⟩
  · exact Or.inl (Nat.le_trans h (hF s))
theorem Jn.ite {α : Type} {n La k : Nat} {c d : Ps → Prop} [∀ s, Decidable (c s)] [∀ s, Decidable (d s)] {f g p q : Ps → R5 α} (h : Jn n La k f g) (hp : Jn n La k p q) (hc : ∀ s, s.nx < n → (c s ↔ d s)) : Jn n La k (fun s => if c s then f s else p s) (fun s => if d s then g s else q s) := fun s hs => by
  show EndR n La (if c s then f s else p s) ∨ (s.nx < n ∧ (if c s then f s else p s) = if d s then g s else q s)
  by_cases e : c s
  · rw [if_pos e]
    rcases h s hs with h1 | ⟨hn, h1⟩
    · exact Or.inl h1
    · rw [if_pos ((hc s hn).1 e)]; exact Or.inr ⟨hn, h1⟩
  · rw [if_neg e]
    rcases hp s hs with h1 | ⟨hn, h1⟩
    · exact Or.inl h1
    · rw [if_neg fun h => e ((hc s hn).2 h)]; exact Or.inr ⟨hn, h1⟩
/-- The tokens, and the tokens with more behind. -/
structure Mo (A T : List Tk) : Prop where
  ex : ∃ B, T = A ++ B
theorem Mo.at_ {A T : List Tk} (h : Mo A T) {i : Nat} (hi : i < A.length) : T[i]? = A[i]? := by
  obtain ⟨B, rfl⟩ := h.ex
  rw [List.getElem?_append_left hi]
theorem Mo.le {A T : List Tk} (h : Mo A T) : A.length ≤ T.length := by
  obtain ⟨B, rfl⟩ := h.ex
  rw [List.length_append]; omega
theorem Mo.kd {A T : List Tk} (h : Mo A T) {s : Ps} {k : Nat} (hi : s.nx + k < A.length) : kd5 T s k = kd5 A s k := by
  unfold kd5; rw [h.at_ hi]
theorem kd_end {A : List Tk} {s : Ps} {k : Nat} (hi : A.length ≤ s.nx + k) : kd5 A s k = 0 := by
  unfold kd5; rw [List.getElem?_eq_none hi]; rfl
theorem Mo.kd0 {A T : List Tk} (h : Mo A T) (b : Int) : ∀ s : Ps, s.nx < A.length → (kd5 A s 0 = b ↔ kd5 T s 0 = b) := fun s hs => by rw [h.kd (k := 0) hs]
theorem Mo.pl {A T : List Tk} (h : Mo A T) {La L : Nat} {s : Ps} (hi : s.nx < A.length) : pl5 A La s = pl5 T L s := by
  unfold pl5
  rw [h.at_ hi, List.getElem?_eq_getElem hi]
  rfl
theorem pl_end {A : List Tk} {La : Nat} {s : Ps} (hi : A.length ≤ s.nx) : pl5 A La s = La := by
  unfold pl5; rw [List.getElem?_eq_none hi]; rfl
theorem jn_tk {A T : List Tk} (h : Mo A T) (La L k : Nat) (ks : List Int) : Jn A.length La k (tk5 A La ks) (tk5 T L ks) := fun s _ => by
  rcases Nat.lt_or_ge s.nx A.length with hn | hn
  · refine Or.inr ⟨hn, ?_⟩
    unfold tk5
    rw [h.at_ hn, List.getElem?_eq_getElem hn]
  · refine Or.inl ?_
    unfold tk5
    rw [List.getElem?_eq_none hn]
    rfl
theorem jn_mean {n La k : Nat} (t : Tk) : Jn n La k (fun s => (.ok (mean5 t s) : R5 Tm)) (fun s => .ok (mean5 t s)) := Jn.pure fun s => Nat.le_of_eq (mean5_nx t s).symm
theorem jn_ok {α : Type} {n La k : Nat} (a : α) : Jn n La k (fun s => (.ok (a, s) : R5 α)) (fun s => .ok (a, s)) := Jn.pure fun _ => Nat.le_refl _
theorem jn_tm {A T : List Tk} (h : Mo A T) (La L k : Nat) : Jn A.length La k (tm5 A La) (tm5 T L) := (jn_tk h La L k _).and (goes_tk A La _) jn_mean
theorem jn_who {A T : List Tk} (h : Mo A T) (La L k : Nat) : Jn A.length La k (who5 A La) (who5 T L) := (jn_tk h La L k _).and (goes_tk A La _) jn_mean
theorem jn_ls {α : Type} {one one' : Ps → R5 α} {A T : List Tk} (h : Mo A T) (La L k : Nat) (b : Int) (ho : Jn A.length La k one one') (hg : Goes one) : ∀ (f : Nat) (acc : List α), Jn A.length La k (ls5 one A La b f acc) (ls5 one' T L b f acc)
  | 0, acc => jn_ok acc
  | f + 1, acc => Jn.ite ((jn_tk h La L k _).and (goes_tk A La _) fun _ => ho.and hg fun a => jn_ls h La L k b ho hg f (acc ++ [a])) (jn_ok acc) (h.kd0 b)
/-- How much room there is beyond what is needed doesn't show. -/
theorem ls5_fuel {α : Type} {one : Ps → R5 α} {T : List Tk} {L : Nat} {b : Int} (hb : b ≠ 0) (hg : Goes one) : ∀ (f f' : Nat) (acc : List α) (s : Ps), T.length < f + s.nx → T.length < f' + s.nx → ls5 one T L b f acc s = ls5 one T L b f' acc s
  | 0, 0, acc, s, _, _ => rfl
  | 0, f' + 1, acc, s, h, _ => by
    have e : kd5 T s 0 = 0 := kd_end (by omega)
    show _ = if kd5 T s 0 = b then _ else _
    rw [e, if_neg fun h => hb h.symm]
    rfl
  | f + 1, 0, acc, s, _, h => by
    have e : kd5 T s 0 = 0 := kd_end (by omega)
    show (if kd5 T s 0 = b then _ else _) = _
    rw [e, if_neg fun h => hb h.symm]
    rfl
  | f + 1, f' + 1, acc, s, h, h' => by
    show (if kd5 T s 0 = b then _ else _) = if kd5 T s 0 = b then _ else _
    by_cases e : kd5 T s 0 = b
    · rw [if_pos e, if_pos e]
      cases ht : tk5 T L [b] s with
      | error x => rfl
      | ok p =>
        obtain ⟨t, s1⟩ := p
        have e1 : s1.nx = s.nx + 1 := by
          unfold tk5 at ht
          split at ht
          · split at ht
            · have := (Prod.mk.inj (Except.ok.inj ht)).2
              rw [← this]
            · cases ht
          · cases ht
        show (one s1).and _ = (one s1).and _
        cases ho : one s1 with
        | error x => rfl
        | ok p =>
          obtain ⟨a, s2⟩ := p
          have e2 := (hg s1 a s2 ho).2
          exact ls5_fuel hb hg f f' (acc ++ [a]) s2 (by omega) (by omega)
    · rw [if_neg e, if_neg e]
theorem list5_fuel {α : Type} {one : Ps → R5 α} {T : List Tk} {L : Nat} {b : Int} (hb : b ≠ 0) (hg : Goes one) {f : Nat} (hf : T.length < f) : list5 one T L b = fun s => (one s).and fun a s => ls5 one T L b f [a] s := by
  funext s
  unfold list5
  cases ho : one s with
  | error x => rfl
  | ok p => obtain ⟨a, s'⟩ := p; exact ls5_fuel hb hg _ _ _ _ (by omega) (by omega)
theorem jn_list {α : Type} {one one' : Ps → R5 α} {A T : List Tk} (h : Mo A T) (La L k : Nat) {b : Int} (hb : b ≠ 0) (ho : Jn A.length La k one one') (hg : Goes one) : Jn A.length La k (list5 one A La b) (list5 one' T L b) := by
  rw [list5_fuel hb hg (f := T.length + 1) (by have := h.le; omega)]
  exact ho.and hg fun a => jn_ls h La L k b ho hg _ _
theorem jn_args {A T : List Tk} (h : Mo A T) (La L k : Nat) : Jn A.length La k (args5 A La) (args5 T L) :=
  Jn.ite ((jn_tk h La L k _).and (goes_tk A La _) fun _ => (jn_list h La L k (by decide) (jn_tm h La L k) (goes_tm A La)).and (goes_list A La 8 (goes_tm A La)) fun l => (jn_tk h La L k _).and (goes_tk A La _) fun _ => jn_ok l) (jn_ok []) (h.kd0 6)
/-- What follows an atom's speaker. -/
def rest5 (T : List Tk) (L : Nat) (b : Tm) (s : Ps) : R5 At := (tk5 T L [1] s).and fun t s => (args5 T L s).and fun l s => .ok (⟨b, t.x, l⟩, s)
theorem jn_rest {A T : List Tk} (h : Mo A T) (La L k : Nat) (b : Tm) : Jn A.length La k (rest5 A La b) (rest5 T L b) :=
  (jn_tk h La L k _).and (goes_tk A La _) fun _ => (jn_args h La L k).and (goes_args A La) fun _ => jn_ok _
theorem jn_arest {A T : List Tk} (h : Mo A T) (La L k : Nat) (x : ByteArray) : Jn A.length La k (fun s => (args5 A La s).and fun l s => .ok ((⟨⟨0, 0, ⟨#[]⟩⟩, x, l⟩ : At), s)) (fun s => (args5 T L s).and fun l s => .ok ((⟨⟨0, 0, ⟨#[]⟩⟩, x, l⟩ : At), s)) := (jn_args h La L k).and (goes_args A La) fun _ => jn_ok _
theorem jn_at {A T : List Tk} (h : Mo A T) (La L k : Nat) : Jn A.length La k (at5 A La) (at5 T L) := fun s hs => by
  have hw : Jn A.length La k (fun s => ((who5 A La s).and fun t s => (tk5 A La [5] s).and fun _ s => .ok (t, s)).and (rest5 A La)) (fun s => ((who5 T L s).and fun t s => (tk5 T L [5] s).and fun _ s => .ok (t, s)).and (rest5 T L)) :=
    ((jn_who h La L k).and (goes_who A La) fun t => (jn_tk h La L k _).and (goes_tk A La _) fun _ => jn_ok t).and ((goes_who A La).and fun t => (goes_tk A La _).and fun _ => goes_ok t) (jn_rest h La L k)
  have ea : ∀ (X : List Tk) (M : Nat), at5 X M s = if kd5 X s 0 = 1 ∧ kd5 X s 1 ≠ 5 then rest5 X M ⟨0, 0, ⟨#[]⟩⟩ s else ((who5 X M s).and fun t s => (tk5 X M [5] s).and fun _ s => .ok (t, s)).and (rest5 X M) := fun X M => by
    unfold at5 by5
    split
    · rfl
    · rfl
  rw [ea, ea]
  by_cases hc : kd5 A s 0 = 1 ∧ kd5 A s 1 ≠ 5
  · rw [if_pos hc]
    rcases Nat.lt_or_ge (s.nx + 1) A.length with hn | hn
    · rw [if_pos (by rw [h.kd (k := 0) (by omega), h.kd hn]; exact hc)]
      exact jn_rest h La L k _ s hs
    · refine Or.inl ?_
      have hlt : s.nx < A.length := by
        rcases Nat.lt_or_ge s.nx A.length with h1 | h1
        · exact h1
        · have := kd_end (k := 0) (A := A) (s := s) h1
          rw [this] at hc
          exact absurd hc.1 (by decide)
      obtain ⟨t, -, ht, -⟩ := kd5_some (L := La) hc.1 (by decide)
      show EndR _ _ ((tk5 A La [1] s).and _)
      rw [ht]
      rcases jn_arest h La L k t.x ⟨s.nx + 1, s.op, s.vs, s.nm⟩ hs with h1 | ⟨h1, -⟩
      · exact h1
      · exact absurd h1 (Nat.not_lt.2 hn)
  · rw [if_neg hc]
    rcases Nat.lt_or_ge (s.nx + 1) A.length with hn | hn
    · rw [if_neg (by rw [h.kd (k := 0) (by omega), h.kd hn]; exact hc)]
      exact hw s hs
    · have e1 := kd_end (k := 1) (A := A) (s := s) hn
      have hk : kd5 A s 0 ≠ 1 := fun e => hc ⟨e, by rw [e1]; decide⟩
      rcases Nat.lt_or_ge s.nx A.length with h1 | h1
      · rw [if_neg fun e => hk (by rw [← h.kd (k := 0) h1]; exact e.1)]
        exact hw s hs
      · rcases hw s hs with h2 | ⟨h2, -⟩
        · exact Or.inl h2
        · omega
theorem jn_te {A T : List Tk} (h : Mo A T) (La L k : Nat) : Jn A.length La k (te5 A La) (te5 T L) :=
  (jn_tm h La L k).and (goes_tm A La) fun _ => (jn_tk h La L k _).and (goes_tk A La _) fun _ => (jn_tm h La L k).and (goes_tm A La) fun _ => jn_ok _
theorem jn_conj {one one' : Ps → R5 (List (List Lf5))} {A T : List Tk} (h : Mo A T) (La L k : Nat) (ho : Jn A.length La k one one') (hg : Goes one) : Jn A.length La k (conjOf5 one A La) (conjOf5 one' T L) :=
  (jn_list h La L k (by decide) ho hg).and (goes_list A La 8 hg) fun _ => jn_ok _
theorem jn_alt {one one' : Ps → R5 (List (List Lf5))} {A T : List Tk} (h : Mo A T) (La L k : Nat) (ho : Jn A.length La k one one') (hg : Goes one) : Jn A.length La k (altOf5 one A La) (altOf5 one' T L) :=
  (jn_list h La L k (by decide) (jn_conj h La L k ho hg) (goes_conj A La hg)).and (goes_list A La 9 (goes_conj A La hg)) fun _ => jn_ok _
theorem jn_br {one one' : Ps → R5 (List (List Lf5))} {A T : List Tk} (h : Mo A T) (La L k : Nat) (ho : k ≠ 16 → Jn A.length La (k + 1) one one') (hg : Goes one) : Jn A.length La k (brOf5 one A La) (brOf5 one' T L) := fun s hs => by
  unfold brOf5
  by_cases e : s.op = 16
  · rw [if_pos e, if_pos e]
    rcases Nat.lt_or_ge s.nx A.length with h1 | h1
    · refine Or.inr ⟨h1, ?_⟩
      rw [h.pl (L := L) h1]
    · exact Or.inl (pl_end h1)
  · rw [if_neg e, if_neg e]
    have h1 := ho fun e1 => e (hs.trans e1)
    have hi : Jn A.length La (k + 1) (fun s => (altOf5 one A La s).and fun m s => (tk5 A La [7] s).and fun _ s => .ok (m, ⟨s.nx, s.op - 1, s.vs, s.nm⟩)) (fun s => (altOf5 one' T L s).and fun m s => (tk5 T L [7] s).and fun _ s => .ok (m, ⟨s.nx, s.op - 1, s.vs, s.nm⟩)) :=
      (jn_alt h La L (k + 1) h1 hg).and (goes_alt A La hg) fun m => (jn_tk h La L (k + 1) _).and (goes_tk A La _) fun _ => Jn.pure (F := fun s => (m, ⟨s.nx, s.op - 1, s.vs, s.nm⟩)) fun _ => Nat.le_refl _
    have hj : Jn A.length La k (fun s => (altOf5 one A La ⟨s.nx, s.op + 1, s.vs, s.nm⟩).and fun m s => (tk5 A La [7] s).and fun _ s => .ok (m, ⟨s.nx, s.op - 1, s.vs, s.nm⟩)) (fun s => (altOf5 one' T L ⟨s.nx, s.op + 1, s.vs, s.nm⟩).and fun m s => (tk5 T L [7] s).and fun _ s => .ok (m, ⟨s.nx, s.op - 1, s.vs, s.nm⟩)) := fun s hs => hi ⟨s.nx, s.op + 1, s.vs, s.nm⟩ (by show s.op + 1 = k + 1; rw [hs])
    exact ((jn_tk h La L k [6]).and (goes_tk A La _) fun _ => hj) s hs
theorem jn_lit {A T : List Tk} (h : Mo A T) (La L : Nat) : ∀ f k : Nat, k ≤ 16 → k + f = 17 → Jn A.length La k (lit5 A La f) (lit5 T L f)
  | 0, k, hk, e => by omega
  | f + 1, k, hk, e => by
    have hb : Jn A.length La k (brOf5 (lit5 A La f) A La) (brOf5 (lit5 T L f) T L) := jn_br h La L k (fun hne => jn_lit h La L f (k + 1) (by omega) (by omega)) (goes_lit A La f)
    have h1 : Jn A.length La k (fun s => (at5 A La s).and fun a s => .ok ([[Lf5.a a]], s)) (fun s => (at5 T L s).and fun a s => .ok ([[Lf5.a a]], s)) := (jn_at h La L k).and (goes_at A La) fun _ => jn_ok _
    have h2 : Jn A.length La k (fun s => (te5 A La s).and fun t s => .ok ([[Lf5.t t]], s)) (fun s => (te5 T L s).and fun t s => .ok ([[Lf5.t t]], s)) := (jn_te h La L k).and (goes_te A La) fun _ => jn_ok _
    refine Jn.ite hb (fun s hs => ?_) (h.kd0 6)
    show EndR _ _ (if ba5 A s = true then (at5 A La s).and _ else (te5 A La s).and _) ∨ (_ ∧ (if ba5 A s = true then (at5 A La s).and _ else (te5 A La s).and _) = if ba5 T s = true then (at5 T L s).and _ else (te5 T L s).and _)
    rcases Nat.lt_or_ge (s.nx + 1) A.length with hn | hn
    · have e1 : ba5 T s = ba5 A s := by unfold ba5; rw [h.kd (k := 0) (by omega), h.kd hn]
      rw [e1]
      by_cases hc : ba5 A s = true
      · rw [if_pos hc, if_pos hc]; exact h1 s hs
      · rw [if_neg hc, if_neg hc]; exact h2 s hs
    · rcases Nat.lt_or_ge s.nx A.length with hl | hl
      · have k1 := kd_end (k := 1) (A := A) (s := s) hn
        have k0 := h.kd (k := 0) (s := s) hl
        by_cases c1 : kd5 A s 0 = 1
        · have hc : ba5 A s = true := by unfold ba5; rw [if_pos c1, k1]; decide
          rw [if_pos hc]
          refine Or.inl ?_
          have hq : EndR A.length La (at5 A La s) := by
            obtain ⟨t, -, ht, -⟩ := kd5_some (L := La) c1 (by decide)
            have : at5 A La s = rest5 A La ⟨0, 0, ⟨#[]⟩⟩ s := by
              unfold at5 by5
              rw [if_pos ⟨c1, by rw [k1]; decide⟩]
              rfl
            rw [this]
            show EndR _ _ ((tk5 A La [1] s).and _)
            rw [ht]
            rcases jn_arest h La L k t.x ⟨s.nx + 1, s.op, s.vs, s.nm⟩ hs with h1 | ⟨h1, -⟩
            · exact h1
            · exact absurd h1 (Nat.not_lt.2 hn)
          cases ha : at5 A La s with
          | error x => rw [ha] at hq; exact hq
          | ok p => obtain ⟨a, s'⟩ := p; rw [ha] at hq; exact hq
        · by_cases c2 : kd5 A s 0 = 3 ∨ kd5 A s 0 = 2
          · have hc : ¬ ba5 A s = true := by unfold ba5; rw [if_neg c1, if_pos c2, k1]; decide
            rw [if_neg hc]
            refine Or.inl ?_
            have ht : ∃ t, tk5 A La [1, 3, 2, 4] s = .ok (t, ⟨s.nx + 1, s.op, s.vs, s.nm⟩) := by
              have e0 : ∃ t, A[s.nx]? = some t ∧ kd5 A s 0 = t.k := by
                unfold kd5
                rw [Nat.add_zero, List.getElem?_eq_getElem hl]
                exact ⟨_, rfl, rfl⟩
              obtain ⟨t, e2, e3⟩ := e0
              refine ⟨t, ?_⟩
              unfold tk5
              rw [e2]
              rw [e3] at c2
              show (if t.k ∈ _ then _ else _) = _
              rw [if_pos (by rcases c2 with e | e <;> rw [e] <;> decide)]
            obtain ⟨t, ht⟩ := ht
            have e4 : tm5 A La s = .ok (mean5 t ⟨s.nx + 1, s.op, s.vs, s.nm⟩) := by unfold tm5; rw [ht]; rfl
            have e5 : te5 A La s = .error (51, (La : Int)) := by
              unfold te5
              rw [e4]
              show (tk5 A La [13, 14, 15, 16] (mean5 t ⟨s.nx + 1, s.op, s.vs, s.nm⟩).2).and _ = _
              have : A[(mean5 t ⟨s.nx + 1, s.op, s.vs, s.nm⟩).2.nx]? = none := List.getElem?_eq_none (by rw [mean5_nx]; exact hn)
              have e6 : tk5 A La [13, 14, 15, 16] (mean5 t ⟨s.nx + 1, s.op, s.vs, s.nm⟩).2 = .error (51, (La : Int)) := by unfold tk5; rw [this]
              rw [e6]; rfl
            rw [e5]
            exact rfl
          · have e1 : ba5 T s = ba5 A s := by unfold ba5; rw [k0, if_neg c1, if_neg c1, if_neg c2, if_neg c2]
            rw [e1]
            by_cases hc : ba5 A s = true
            · rw [if_pos hc, if_pos hc]; exact h1 s hs
            · rw [if_neg hc, if_neg hc]; exact h2 s hs
      · refine Or.inl ?_
        by_cases hc : ba5 A s = true
        · rw [if_pos hc]
          rcases h1 s hs with h3 | ⟨h3, -⟩
          · exact h3
          · omega
        · rw [if_neg hc]
          rcases h2 s hs with h3 | ⟨h3, -⟩
          · exact h3
          · omega
theorem jn_bd {A T : List Tk} (h : Mo A T) (La L : Nat) : Jn A.length La 0 (bd5 A La) (bd5 T L) :=
  Jn.ite ((jn_tk h La L 0 _).and (goes_tk A La _) fun _ => jn_alt h La L 0 (jn_lit h La L 17 0 (by decide) rfl) (goes_lit A La 17)) (jn_ok [[]]) (h.kd0 11)
end Go.Proofs.YtnikmcmkbjjcdaaGreatDoor

import Derived.Test.YtnikmcmkbjjcdaaGreatDoorSY22
import Derived.Test.YtnikmcmkbjjcdaaGreatDoorK24
import Derived.Test.YtnikmcmkbjjcdaaGreatDoorK9
import Derived.Defers
import Derived.Recover
/-
  syntax: program.
-/
namespace Go.Proofs.YtnikmcmkbjjcdaaGreatDoor
open Go.RowKit
attribute [local go_sem ↓] Go.wp_at_zero Go.wp_at_succ

/-- All rules, one by one. -/
def pr5 (T : List Tk) (L : Nat) : Nat → List Ck → Nat → Except (Int × Int) (List Ck)
  | 0, acc, _ => .ok acc
  | f + 1, acc, nx => if nx < T.length then match rl5 T L nx with
      | .error e => .error e
      | .ok (ks, n') => pr5 T L f (acc ++ ks) n'
    else .ok acc
theorem rl5_nx {T : List Tk} {L nx n' : Nat} {ks : List Ck} (hx : nx ≤ T.length) (h : rl5 T L nx = .ok (ks, n')) : nx < n' ∧ n' ≤ T.length := by
  unfold rl5 at h
  cases hr : rh5 T L (s05 nx) with
  | error e => rw [hr] at h; cases h
  | ok p =>
    obtain ⟨⟨a, m⟩, s⟩ := p
    rw [hr] at h
    have h1 : (if 64 < m.length then (.error (53, pl5 T L (s05 nx)) : Except (Int × Int) (List Ck × Nat)) else match cls5 (pl5 T L (s05 nx)) a m [] with
      | .error e => .error e
      | .ok ks => .ok (ks, s.nx)) = .ok (ks, n') := h
    have hs : s.nx = n' := by
      by_cases hm : 64 < m.length
      · rw [if_pos hm] at h1; cases h1
      · rw [if_neg hm] at h1
        cases hc : cls5 (pl5 T L (s05 nx)) a m [] with
        | error e => rw [hc] at h1; cases h1
        | ok k => rw [hc] at h1; exact congrArg Prod.snd (Except.ok.inj h1)
    unfold rh5 at hr
    obtain ⟨b, s1, h2, h3⟩ := and5_inv hr
    obtain ⟨m2, s2, h4, h5⟩ := and5_inv h3
    obtain ⟨t, s3, h6, h7⟩ := and5_inv h5
    obtain ⟨g1, n1, q1⟩ := wg_at T L _ _ _ (gs_05 hx) h2
    obtain ⟨g2, n2, q2⟩ := wg_bd T L _ _ _ g1 h4
    obtain ⟨g3, n3, q3⟩ := wg_tk T L _ _ _ _ g2 h6
    have e2 : s3 = s := congrArg Prod.snd (Except.ok.inj h7)
    have h8 := q1.1
    have h9 : (s05 nx).nx = nx := rfl
    rw [h9] at n1 h8
    have h10 := g3.a
    rw [e2] at n3 h10
    omega
/-- What program answers. -/
def PrP (g : Nat) (w : World) (R : Except (Int × Int) (List Ck)) (e : Ending) (w' : World) : Prop :=
  Fr (fun b => b = g) w w' ∧ match R with
    | .error f => e = .panicked [pF f]
    | .ok ks => ∃ v l, e = .returned v ∧ l.map Cm.key = ks ∧ RL (fun b => w.heap.size ≤ b) w' v l
theorem row5_pos {w : World} {base n m : Nat} {e : TypeId} {v : Value} {xs : List Value} (h : w.ownsRow base e n v m xs) (h0 : 0 < m) : ∃ g cap, v = .slice (some ⟨g, 0, none⟩) m cap := by
  rcases h.2 with ⟨-, hn⟩ | ⟨g, cap, cur, hv, -⟩
  · omega
  · exact ⟨g, cap, hv⟩
theorem RuP.err {g N : Nat} {tv : Value} {T : List Tk} {L : Nat} {w : World} {R : Except (Int × Int) (List Ck × Nat)} {f : Int × Int} {fn : Nat} {args : Array Value} (h : Calls Tryz.prog fn args w (RuP g N tv T L w R)) (hr : R = .error f) : Calls Tryz.prog fn args w fun e w' => e = .panicked [pF f] ∧ Fr (fun b => b = g) w w' := by
  subst hr
  exact h.mono fun e w' ⟨h1, h2⟩ => ⟨h2, h1⟩
theorem RuP.ok {g N : Nat} {tv : Value} {T : List Tk} {L : Nat} {w : World} {R : Except (Int × Int) (List Ck × Nat)} {ks : List Ck} {nx : Nat} {fn : Nat} {args : Array Value} (h : Calls Tryz.prog fn args w (RuP g N tv T L w R)) (hr : R = .ok (ks, nx)) : Calls Tryz.prog fn args w fun e w' => ∃ v l, e = .returned v ∧ l.map Cm.key = ks ∧ l ≠ [] ∧ l.length ≤ 64 ∧ RL (fun b => w.heap.size ≤ b) w' v l ∧ PB g N tv T L w' nx ∧ Fr (fun b => b = g) w w' := by
  subst hr
  exact h.mono fun e w' ⟨h1, v, l, h2, h3, h4, h5, h6, h7⟩ => ⟨v, l, h2, h3, h4, h5, h6, h7, h1⟩
set_option maxRecDepth 20000 in
set_option maxHeartbeats 4000000 in
theorem program5_any (g N : Nat) (tv : Value) (T : List Tk) (L : Nat) (w : World) (h : PB g N tv T L w 0) :
    Calls Tryz.prog 29 #[.pointer (some ⟨g, 0, none⟩)] w (PrP g w (pr5 T L (T.length + 1) [] 0)) := by
  have HPB := hm7 h
  have hT := h.ok.l
  have HGW : Hid (g < w.heap.size) := Nat.lt_of_lt_of_le h.gN h.Nw
  have HNW := hm7 h.Nw
  have HRU : Hid (∀ (X : World) (nx : Nat), PB g N tv T L X nx → Calls Tryz.prog 49 #[.pointer (some ⟨g, 0, none⟩)] X (RuP g N tv T L X (rl5 T L nx))) := fun X nx hX => rule5_any g N tv T L nx X hX
  obtain ⟨R, hR⟩ : ∃ R, pr5 T L (T.length + 1) [] 0 = R := ⟨_, rfl⟩
  rw [hR]
  have HR := hm7 hR
  obtain ⟨ta, tc, htv, -⟩ := h.t
  subst htv
  obtain ⟨tn, htn⟩ : ∃ tn, T.length = tn := ⟨_, rfl⟩
  rw [htn] at HPB HRU hT
  have HTN := hm7 htn
  clear h hR htn
  go_enter Tryz.func29, Tryz.ntmps29
  go_wp2
  go_loopg [3] (tn + 1) (fun f u wr => ∃ (nx : Nat) (l : List Cm), pr5 T L f (l.map Cm.key) nx = R ∧ tn < nx + f ∧ nx ≤ tn ∧ l.length ≤ 64 * nx ∧ wr.ownsRow w.heap.size 37 7 u l.length (l.flatMap cc5) ∧ (∀ d ∈ l, KF (fun b => w.heap.size ≤ b ∧ u.ownBlock ≠ some b) wr d) ∧ PB g N (.slice ta tn tc) T L wr nx ∧ Fr (fun b => b = g) w wr)
  case atStart => exact ⟨0, [], by have := HR.out; rw [HTN.out] at this; exact this, by omega, Nat.zero_le _, Nat.zero_le _, World.ownsRow_nil _ _ _ _, (fun d hd => by cases hd), HPB.out, Fr.refl _ _⟩
  case round =>
    obtain ⟨nx, l, hRj, hfl, hnx, hll, ho, hkf, hpb, hfr⟩ := hrel
    have HRJ := hm7 hRj
    have HKF := hm7 hkf
    have HPJ := hm7 hpb
    have HFJ := hm7 hfr
    obtain ⟨mv, vs, hb⟩ := hpb.b
    have c0 := hb.cell (i := 0) rfl
    have c1 := hb.cell (i := 1) rfl
    obtain ⟨ua, uc, huf, -⟩ := row7_form ho
    obtain ⟨ln, hln⟩ : ∃ ln, l.length = ln := ⟨_, rfl⟩
    rw [hln] at huf ho hll
    have HLN := hm7 hln
    have HO := hm7 ho
    subst huf
    have hsz := hfr.size
    clear hRj hkf hpb hfr hb ho hln HR HPB
    cases gk with
    | zero => omega
    | succ f =>
      by_cases hlt : nx < tn
      · have hlt2 : (nx : Int) < (tn : Int) := by omega
        have HRN : Hid ((match rl5 T L nx with
            | .error e => .error e
            | .ok (ks, n') => pr5 T L f (l.map Cm.key ++ ks) n') = R) := by
          have := HRJ.out
          unfold pr5 at this
          rw [if_pos (by rw [HTN.out]; exact hlt)] at this
          exact this
        clear HRJ
        go_wp2
        go_quiet (fail)
        clear c0 c1
        have HDB : Hid (Below wr.heap.size wr (wr.drewN nq)) := below_drewN (Below.refl _ wr) _
        revert HDB
        generalize wr.drewN nq = wd
        intro HDB
        have HPD := hm7 (HPJ.out.below HDB.out)
        have HRX := hm7 (HRU.out wd nx HPD.out)
        have hszd : w.heap.size ≤ wd.heap.size := Nat.le_trans hsz HDB.out.size
        cases hr : rl5 T L nx with
        | error e0 =>
          have HRE : Hid (R = .error e0) := by have := HRN.out; rw [hr] at this; exact this.symm
          have HE := hm7 (RuP.err HRX.out hr)
          clear hr HRN HRX
          go_wp2_with (go_at_call 49; refine HE.out.mono ?_; rintro e W1 ⟨rfl, hf⟩; have HF1 := hm7 ((HFJ.out.then HDB.out).tr hf); clear hf)
          refine ⟨rfl, ?_⟩
          rw [HRE.out]
          exact ⟨HF1.out, rfl⟩
        | ok p =>
          obtain ⟨ks, n'⟩ := p
          have HRN2 : Hid (pr5 T L f (l.map Cm.key ++ ks) n' = R) := by have := HRN.out; rw [hr] at this; exact this
          have HE := hm7 (RuP.ok HRX.out hr)
          obtain ⟨hn1, hn2⟩ := rl5_nx (by rw [HTN.out]; exact hnx) hr
          rw [HTN.out] at hn2
          clear hr HRN HRX
          go_wp2_with (first
            | (go_at_call 49; refine HE.out.mono ?_; rintro e W1 ⟨v1, l1, rfl, hk1, hne, hl64, hrl, hpb, hf⟩; have hpos : 0 < l1.length := List.length_pos_iff.2 hne; obtain ⟨vg, vc, hvf⟩ := row5_pos hrl.o hpos; generalize hl1 : l1.length = k1 at hvf hl64 hpos; subst hvf; have HL1 := hm7 hl1; have HK1 := hm7 hk1; have HRL := hm7 hrl; have HP1 := hm7 hpb; have HF1 := hm7 ((HFJ.out.then HDB.out).tr hf); have HO1 := hm7 (row7_fr (row7_below HO.out HDB.out) hf fun b hb e => by have := (World.ownsRow.lt HO.out b hb).1; have := HGW.out; omega); have HKF1 : Hid (∀ d ∈ l, KF (fun b => w.heap.size ≤ b ∧ (Value.slice ua ln uc).ownBlock ≠ some b) W1 d) := (fun d hd => ((HKF.out d hd).below HDB.out).fr hf fun b hb e => by have := hb.1; have := HGW.out; omega); have hsz1 := hf.size; clear hk1 hne hrl hpb hf hl1 HE)
            | (at_builtin; refine gappL5 Tryz.underlying23 Tryz.infoClause5 rfl (by decide) (by decide) rfl _ _ rfl w.heap.size (.slice ua ln uc) ln (l.flatMap cc5) rfl HO1.out vg k1 vc 0 (l1.flatMap cc5) rfl (by have := HRL.out.o; rw [HL1.out] at this; exact this) hpos (fun u hu => by obtain ⟨d, hd, hu⟩ := List.mem_flatMap.1 hu; exact cc5_one (HRL.out.k d hd).ok u hu) (by omega) (by omega) ?_; intro g5 q5 w5 ho5 hg5 hv5 hl5; have HO5 := hm7 ho5; have HG5 := hm7 hg5; have HV5 := hm7 hv5; clear ho5 hg5 hv5 hl5))
          have HGF : Hid (Fr (fun b => w.heap.size ≤ b) W1 w5) := Fr.grown HG5.out fun b hb => (World.ownsRow.lt HO1.out b hb).1
          have HGO : Hid (Fr (fun b => (Value.slice ua ln uc).ownBlock = some b) W1 w5) := Fr.grown HG5.out fun b hb => hb
          have HI5 : Hid (∀ d, KF (fun b => w.heap.size ≤ b ∧ (Value.slice ua ln uc).ownBlock ≠ some b) W1 d → KF (fun b => w.heap.size ≤ b ∧ (Value.slice (some ⟨g5, 0, none⟩) (ln + k1) q5).ownBlock ≠ some b) w5 d) := fun d hd => by
            have h2 := hd.mono (G := fun b => (w.heap.size ≤ b ∧ (Value.slice (some ⟨g5, 0, none⟩) (ln + k1) q5).ownBlock ≠ some b) ∧ (Value.slice ua ln uc).ownBlock ≠ some b) fun b hb hw => ⟨⟨hw.1, fun e => by
              have e1 : g5 = b := Option.some.inj e
              rcases HV5.out with e2 | e2
              · exact hw.2 (by rw [← e1]; exact e2)
              · omega⟩, hw.2⟩
            exact (h2.fr HGO.out fun b hb => hb.2).mono fun b _ hb => hb.1
          try go_wp2
          go_roundg f
          case measure => omega
          case rel =>
            refine ⟨n', l ++ l1, ?_, by omega, by omega, ?_, ?_, ?_, ?_, ?_⟩
            · rw [List.map_append, HK1.out]; exact HRN2.out
            · rw [List.length_append, HLN.out, HL1.out]; omega
            · rw [List.length_append, HLN.out, HL1.out, List.flatMap_append]; exact HO5.out
            · intro d hd
              rcases List.mem_append.1 hd with hd | hd
              · exact HI5.out d (HKF1.out d hd)
              · refine HI5.out d ((HRL.out.k d hd).mono fun b _ hb => ⟨Nat.le_trans hszd hb.1, fun e => ?_⟩)
                have h1 := (World.ownsRow.lt (row7_below HO.out HDB.out) b e).2
                have h2 := hb.1
                omega
            · exact HP1.out.fr HGF.out fun b hb e => by have := HNW.out; omega
            · exact HF1.out.trans HGF.out fun b hb e => by omega
      · have hlt2 : ¬ (nx : Int) < (tn : Int) := by omega
        have HRE : Hid (R = .ok (l.map Cm.key)) := by
          have := HRJ.out
          unfold pr5 at this
          rw [if_neg (by rw [HTN.out]; exact hlt)] at this
          exact this.symm
        clear HRJ
        go_wp2
        go_quiet (fail)
        clear c0 c1
        have HDB : Hid (Below wr.heap.size wr (wr.drewN nq)) := below_drewN (Below.refl _ wr) _
        revert HDB
        generalize wr.drewN nq = wd
        intro HDB
        go_wp2
        go_ret
        rw [HRE.out]
        refine ⟨HFJ.out.then HDB.out, _, l, rfl, rfl, ⟨?_, ?_, fun d hd => (HKF.out d hd).below HDB.out⟩⟩
        · rw [HLN.out]; exact row5_base (row7_below HO.out HDB.out)
        · intro b hb
          exact (World.ownsRow.lt HO.out b hb).1
end Go.Proofs.YtnikmcmkbjjcdaaGreatDoor
/-
  PLAIN: the rules of the tokens in front, and those behind.
-/
namespace Go.Proofs.YtnikmcmkbjjcdaaGreatDoor
open Go.RowKit

/-- As Jn, but where it ends it ends with a fault at the end. -/
def Jx {α : Type} (n La k : Nat) (f g : Ps → R5 α) : Prop := ∀ s, s.op = k → (∃ c, f s = .error (c, (La : Int))) ∨ (s.nx < n ∧ f s = g s)
/-- Rules from here on. -/
def pp5 (T : List Tk) (L : Nat) (acc : List Ck) (nx : Nat) : Except (Int × Int) (List Ck) := pr5 T L (T.length + 1) acc nx
theorem pr5_fuel {T : List Tk} {L : Nat} : ∀ (f f' : Nat) (acc : List Ck) (nx : Nat), nx ≤ T.length → T.length < f + nx → T.length < f' + nx → pr5 T L f acc nx = pr5 T L f' acc nx
  | 0, _, acc, nx, h, h1, _ => by omega
  | _, 0, acc, nx, h, _, h2 => by omega
  | f + 1, f' + 1, acc, nx, h, h1, h2 => by
    unfold pr5
    by_cases hn : nx < T.length
    · rw [if_pos hn, if_pos hn]
      cases hr : rl5 T L nx with
      | error e => rfl
      | ok p =>
        obtain ⟨ks, n'⟩ := p
        obtain ⟨g1, g2⟩ := rl5_nx h hr
        exact pr5_fuel f f' (acc ++ ks) n' g2 (by omega) (by omega)
    · rw [if_neg hn, if_neg hn]
theorem pp5_end {T : List Tk} {L : Nat} {acc : List Ck} {nx : Nat} (h : T.length ≤ nx) : pp5 T L acc nx = .ok acc := by
  unfold pp5 pr5
  rw [if_neg (by omega)]
theorem pp5_err {T : List Tk} {L : Nat} {acc : List Ck} {nx : Nat} {e : Int × Int} (h : nx < T.length) (hr : rl5 T L nx = .error e) : pp5 T L acc nx = .error e := by
  unfold pp5 pr5
  rw [if_pos h, hr]
theorem pp5_ok {T : List Tk} {L : Nat} {acc ks : List Ck} {nx n' : Nat} (h : nx < T.length) (hr : rl5 T L nx = .ok (ks, n')) : pp5 T L acc nx = pp5 T L (acc ++ ks) n' := by
  obtain ⟨g1, g2⟩ := rl5_nx (Nat.le_of_lt h) hr
  show pr5 T L (T.length + 1) acc nx = pr5 T L (T.length + 1) (acc ++ ks) n'
  rw [pr5_fuel (T.length + 1) T.length (acc ++ ks) n' g2 (by omega) (by omega)]
  rw [pr5, if_pos h, hr]
end Go.Proofs.YtnikmcmkbjjcdaaGreatDoor
/-
  PLAIN: the tokens of two texts with a line's end between them.
-/
namespace Go.Proofs.YtnikmcmkbjjcdaaGreatDoor
open Go.RowKit

theorem bl_appJ5 (s t : ByteArray) : blK (s ++ t) = blK s ++ blK t := by
  unfold blK
  rw [← List.map_append]
  have : (s ++ t).data = s.data ++ t.data := ByteArray.data_append
  rw [this, Array.toList_append]
end Go.Proofs.YtnikmcmkbjjcdaaGreatDoor
/-
  syntax: how great tokens can be; what is caught.
-/
namespace Go.Proofs.YtnikmcmkbjjcdaaGreatDoor
open Go.RowKit

theorem qd_x : ∀ (f : Nat) (r : List Int) (off : Nat) (acc : List Int) {k : Int} {x : List Int} {n : Int} {len : Nat}, qd f r off acc = .ok k x n len → x.length ≤ acc.length + r.length
  | 0, r, off, acc, k, x, n, len, h => by cases h
  | f + 1, [], off, acc, k, x, n, len, h => by cases h
  | f + 1, c :: r, off, acc, k, x, n, len, h => by
    unfold qd at h
    by_cases h1 : c = 34
    · rw [if_pos h1] at h
      cases h
      omega
    · rw [if_neg h1] at h
      by_cases h2 : c = 92
      · rw [if_pos h2] at h
        cases he : esc r with
        | none => rw [he] at h; cases h
        | some p =>
          obtain ⟨b, kk⟩ := p
          rw [he] at h
          have h3 := qd_x f (r.drop kk) (off + 1 + kk) (acc ++ [b]) h
          rw [List.length_append, List.length_singleton, List.length_drop] at h3
          rw [List.length_cons]
          omega
      · rw [if_neg h2] at h
        by_cases h3 : c < 32 ∨ c = 127
        · rw [if_pos h3] at h; cases h
        · rw [if_neg h3] at h
          have h4 := qd_x f r (off + 1) (acc ++ [c]) h
          rw [List.length_append, List.length_singleton] at h4
          rw [List.length_cons]
          omega
theorem tok_x {l : List Int} {k : Int} {x : List Int} {n : Int} {len : Nat} (h : tok l = .ok k x n len) : x.length ≤ l.length := by
  cases l with
  | nil => cases h
  | cons c r =>
    simp only [tok] at h
    have ht : ((c :: r).take (rl (c :: r))).length ≤ (c :: r).length := by rw [List.length_take]; exact Nat.min_le_right _ _
    have hn : ∀ (m : Nat) (l' : List Int), numt m l' = .ok k x n len → x.length ≤ (c :: r).length := fun m l' h => by
      unfold numt at h
      cases hv : num (l'.take m) with
      | none => rw [hv] at h; cases h
      | some v => rw [hv] at h; cases h; exact Nat.zero_le _
    have hs : ∀ m, sgF (c :: r) m = .ok k x n len → x.length ≤ (c :: r).length := fun m => by
      induction m with
      | zero => intro h; cases h
      | succ m ih =>
        intro h
        unfold sgF at h
        split at h
        · exact ih h
        · cases h; exact Nat.zero_le _
    repeat' split at h
    · cases h; exact Nat.zero_le _
    · cases h; exact ht
    · cases h; exact ht
    · exact hn _ _ h
    · exact hn _ _ h
    · have := qd_x _ _ _ _ h
      rw [List.length_nil] at this
      rw [List.length_cons]
      omega
    · exact hs _ h
theorem ofL_sz (x : List Int) : (ofL x).size = x.length := by
  unfold ofL
  simp [ByteArray.size, i2b]
theorem ct_small : ∀ (f : Nat) (l : List Int) (off : Nat) (acc : List Tk) (M : Nat), l.length ≤ M → (∀ t ∈ acc, t.x.size ≤ M) → (ct f l off acc).1.length ≤ acc.length + l.length ∧ ∀ t ∈ (ct f l off acc).1, t.x.size ≤ M
  | 0, l, off, acc, M, hl, ha => ⟨Nat.le_add_right _ _, ha⟩
  | f + 1, [], off, acc, M, hl, ha => ⟨Nat.le_add_right _ _, ha⟩
  | f + 1, c :: r, off, acc, M, hl, ha => by
    rw [List.length_cons] at hl
    unfold ct
    by_cases h1 : c = 32 ∨ c = 9 ∨ c = 10 ∨ c = 13
    · rw [if_pos h1]
      have := ct_small f r (off + 1) acc M (by omega) ha
      exact ⟨by rw [List.length_cons]; omega, this.2⟩
    · rw [if_neg h1]
      by_cases h2 : c = 37
      · rw [if_pos h2]
        have := ct_small f ((c :: r).drop (le_ (c :: r))) (off + le_ (c :: r)) acc M (by rw [List.length_drop, List.length_cons]; omega) ha
        rw [List.length_drop] at this
        exact ⟨by omega, this.2⟩
      · rw [if_neg h2]
        cases ht : tok (c :: r) with
        | bad e o => exact ⟨Nat.zero_le _, fun t ht => by cases ht⟩
        | ok k x n len =>
          have hx := tok_x ht
          obtain ⟨hlen, -⟩ := (tok_len c r).1 k x n len ht
          have := ct_small f ((c :: r).drop len) (off + len) (acc ++ [⟨k, ofL x, n, off, (off + len : Nat)⟩]) M (by rw [List.length_drop, List.length_cons]; omega) (fun t hm => by
            rcases List.mem_append.1 hm with hm | hm
            · exact ha t hm
            · rw [List.mem_singleton.1 hm]
              show (ofL x).size ≤ M
              rw [ofL_sz]
              rw [List.length_cons] at hx
              omega)
          rw [List.length_drop, List.length_append, List.length_singleton, List.length_cons] at this
          exact ⟨by rw [List.length_cons]; dsimp only; omega, this.2⟩
theorem cut_small {s : ByteArray} {most : Int} (hm : most ≤ 2000000) (h0 : (cutL (blK s) most).2.1 = 0) : Tok5 (cutL (blK s) most).1 s.size := by
  unfold cutL at h0 ⊢
  by_cases hl : most < ((blK s).length : Int)
  · rw [if_pos hl] at h0
    exact absurd h0 (by decide)
  · rw [if_neg hl]
    rw [bl_len] at hl ⊢
    have h1 := ct_small (s.size + 1) (blK s) 0 [] 2000000 (by rw [bl_len]; omega) (fun t h => by cases h)
    rw [bl_len, List.length_nil] at h1
    exact ⟨by omega, by omega, h1.2⟩
theorem kcs_get5 : ∀ {l : List Tk} {j : Nat} {t : Tk}, l[j]? = some t → (kcs l)[j * 5]? = some (.int .i64 t.k) ∧ (kcs l)[j * 5 + 1]? = some (.string t.x) ∧ (kcs l)[j * 5 + 2]? = some (.int .i64 t.n) ∧ (kcs l)[j * 5 + 3]? = some (.int .i64 t.a) ∧ (kcs l)[j * 5 + 4]? = some (.int .i64 t.e)
  | [], j, t, h => by simp at h
  | y :: l, 0, t, h => by
    simp only [List.getElem?_cons_zero, Option.some.injEq] at h
    subst h
    exact ⟨rfl, rfl, rfl, rfl, rfl⟩
  | y :: l, j + 1, t, h => by
    rw [List.getElem?_cons_succ] at h
    have ih := kcs_get5 h
    rw [show (j + 1) * 5 = j * 5 + 5 by omega]
    exact ih
theorem tz_of_own {w : World} {base : Nat} {v : Value} {T : List Tk} (h : OwnK w base v T) : Tz (fun b => base ≤ b) w v T := by
  obtain ⟨a, cap, rfl, -⟩ := row7_form h
  refine ⟨a, cap, rfl, ?_⟩
  cases T with
  | nil => exact Or.inl rfl
  | cons t T =>
    obtain ⟨g, rfl, hb, hg, -, -⟩ := row7_at h (kcs_get5 (j := 0) rfl).1
    refine Or.inr ⟨g, rfl, hg, hb, fun i u hu => ?_⟩
    obtain ⟨c0, c1, c2, c3, c4⟩ := kcs_get5 hu
    have e0 := row5_cell h c0
    have e1 := row5_cell h c1
    have e2 := row5_cell h c2
    have e3 := row5_cell h c3
    have e4 := row5_cell h c4
    rw [Nat.zero_add] at e0 e1 e2 e3 e4
    exact ⟨e0, e1, e2, e3, e4⟩
theorem run_assert5 (w : World) (v : Value) (x : TypeId) : (Instr.typeAssert (.iface 26 v) x 26 false).run Tryz.prog w = .ok v w := by
  simp [Instr.typeAssert, run_underlying Tryz.underlying26]
theorem catchC_panic (g : Nat) (c a : Int) (older : List PanicEntry) (w : World) (hb : ∃ x y, Bk w g #[x, y] 26) :
    CallsD Tryz.prog 48 #[.pointer (some ⟨g, 0, none⟩)] (.panicking (pF (c, a) :: older)) w fun e u' w' =>
      e = .returned (.tuple #[]) ∧ u' = .panicking ({ v := .iface 26 (.agg #[.int .i64 c, .int .i64 a]), recovered := true } :: older) ∧ w' = (w.setCell ⟨g, 0, none⟩ (.int .i64 c)).setCell ⟨g, 1, none⟩ (.int .i64 a) := by
  obtain ⟨x, y, hb⟩ := hb
  have c0 := hb.cell (i := 0) rfl
  have c1 := hb.cell (i := 1) rfl
  have f0 := hb.froz 0
  have f1 := hb.froz 1
  have hl := hb.lt
  refine callsD_of_wpS Tryz.func48 rfl fun c₀ cs hu => ?_
  unfold pF at hu
  apply wpS_seq
  apply wpS_region
  simp [wpOpsS, go_sem, recoverD, hu, Tryz.ntmps48, Exit.thenS]
  have hta := run_assert5
  refine wpS_of_wp ?_
  change Code.wp _ _ _ { tmps := #[.pointer (some ⟨g, 0, none⟩), .iface 26 (.agg #[.int .i64 c, .int .i64 a]), .iface 26 (.agg #[.int .i64 c, .int .i64 a]), undef, undef, undef, undef], defers := [] } w
  go_wp2
  exact ⟨rfl, _, rfl, _, by simp [results, Tryz.results48], rfl, rfl, rfl⟩
theorem catchC_idle (p : Addr) (w : World) :
    CallsD Tryz.prog 48 #[.pointer (some p)] .returning w fun e u' w' => e = .returned (.tuple #[]) ∧ u' = .returning ∧ w' = w := by
  refine callsD_of_wpS Tryz.func48 rfl fun c₀ cs hu => ?_
  apply wpS_seq
  apply wpS_region
  simp [wpOpsS, go_sem, recoverD, hu, Tryz.ntmps48, Exit.thenS]
  refine wpS_of_wp ?_
  change Code.wp _ _ _ { tmps := #[.pointer (some p), .nilIface, .nilIface, undef, undef, undef, undef], defers := [] } w
  go_wp2
  exact ⟨rfl, .returning, by rw [← hu], _, by simp [results, Tryz.results48], rfl, rfl, rfl⟩
end Go.Proofs.YtnikmcmkbjjcdaaGreatDoor

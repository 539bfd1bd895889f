import Derived.Test.YtcpjiahdaplhlaaGreatDoorSY22
/-
  syntax: program.
-/
namespace Go.Proofs.YtcpjiahdaplhlaaGreatDoor
open Go.RowKit
attribute [local go_sem ↓] Go.wp_at_zero Go.wp_at_succ

/-- All rules, one by one. -/
def pr5 (T : List Tk) (L : Nat) : Nat → List Ck → Nat → Except (Int × Int) (List Ck)
  | 0, acc, _ => .ok acc
  | f + 1, acc, nx => if nx < T.length then match rl5 T L nx with
      | .error e => .error e
      | .ok (ks, n') => pr5 T L f (acc ++ ks) n'
    else .ok acc
theorem rl5_nx {T : List Tk} {L nx n' : Nat} {ks : List Ck} (hx : nx ≤ T.length) (h : rl5 T L nx = .ok (ks, n')) : nx < n' ∧ n' ≤ T.length := by
  unfold rl5 at h
  cases hr : rh5 T L (s05 nx) with
  | error e => rw [hr] at h; cases h
  | ok p =>
    obtain ⟨⟨a, m⟩, s⟩ := p
    rw [hr] at h
    have h1 : (if 64 < m.length then (.error (53, pl5 T L (s05 nx)) : Except (Int × Int) (List Ck × Nat)) else match cls5 (pl5 T L (s05 nx)) a m [] with
      | .error e => .error e
      | .ok ks => .ok (ks, s.nx)) = .ok (ks, n') := h
    have hs : s.nx = n' := by
      by_cases hm : 64 < m.length
      · rw [if_pos hm] at h1; cases h1
      · rw [if_neg hm] at h1
        cases hc : cls5 (pl5 T L (s05 nx)) a m [] with
        | error e => rw [hc] at h1; cases h1
        | ok k => rw [hc] at h1; exact congrArg Prod.snd (Except.ok.inj h1)
    unfold rh5 at hr
    obtain ⟨b, s1, h2, h3⟩ := and5_inv hr
    obtain ⟨m2, s2, h4, h5⟩ := and5_inv h3
    obtain ⟨t, s3, h6, h7⟩ := and5_inv h5
    obtain ⟨g1, n1, q1⟩ := wg_at T L _ _ _ (gs_05 hx) h2
    obtain ⟨g2, n2, q2⟩ := wg_bd T L _ _ _ g1 h4
    obtain ⟨g3, n3, q3⟩ := wg_tk T L _ _ _ _ g2 h6
    have e2 : s3 = s := congrArg Prod.snd (Except.ok.inj h7)
    have h8 := q1.1
    have h9 : (s05 nx).nx = nx := rfl
    rw [h9] at n1 h8
    have h10 := g3.a
    rw [e2] at n3 h10
    omega
/-- What program answers. -/
def PrP (g : Nat) (w : World) (R : Except (Int × Int) (List Ck)) (e : Ending) (w' : World) : Prop :=
  Fr (fun b => b = g) w w' ∧ match R with
    | .error f => e = .panicked [pF f]
    | .ok ks => ∃ v l, e = .returned v ∧ l.map Cm.key = ks ∧ RL (fun b => w.heap.size ≤ b) w' v l
theorem row5_pos {w : World} {base n m : Nat} {e : TypeId} {v : Value} {xs : List Value} (h : w.ownsRow base e n v m xs) (h0 : 0 < m) : ∃ g cap, v = .slice (some ⟨g, 0, none⟩) m cap := by
  rcases h.2 with ⟨-, hn⟩ | ⟨g, cap, cur, hv, -⟩
  · omega
  · exact ⟨g, cap, hv⟩
theorem RuP.err {g N : Nat} {tv : Value} {T : List Tk} {L : Nat} {w : World} {R : Except (Int × Int) (List Ck × Nat)} {f : Int × Int} {fn : Nat} {args : Array Value} (h : Calls Tryz.prog fn args w (RuP g N tv T L w R)) (hr : R = .error f) : Calls Tryz.prog fn args w fun e w' => e = .panicked [pF f] ∧ Fr (fun b => b = g) w w' := by
  subst hr
  exact h.mono fun e w' ⟨h1, h2⟩ => ⟨h2, h1⟩
theorem RuP.ok {g N : Nat} {tv : Value} {T : List Tk} {L : Nat} {w : World} {R : Except (Int × Int) (List Ck × Nat)} {ks : List Ck} {nx : Nat} {fn : Nat} {args : Array Value} (h : Calls Tryz.prog fn args w (RuP g N tv T L w R)) (hr : R = .ok (ks, nx)) : Calls Tryz.prog fn args w fun e w' => ∃ v l, e = .returned v ∧ l.map Cm.key = ks ∧ l ≠ [] ∧ l.length ≤ 64 ∧ RL (fun b => w.heap.size ≤ b) w' v l ∧ PB g N tv T L w' nx ∧ Fr (fun b => b = g) w w' := by
  subst hr
  exact h.mono fun e w' ⟨h1, v, l, h2, h3, h4, h5, h6, h7⟩ => ⟨v, l, h2, h3, h4, h5, h6, h7, h1⟩
set_option maxRecDepth 20000 in
set_option maxHeartbeats 4000000 in
theorem program5_any (g N : Nat) (tv : Value) (T : List Tk) (L : Nat) (w : World) (h : PB g N tv T L w 0) :
    Calls Tryz.prog 40 #[.pointer (some ⟨g, 0, none⟩)] w (PrP g w (pr5 T L (T.length + 1) [] 0)) := by
  have HPB := hm7 h
  have hT := h.ok.l
  have HGW : Hid (g < w.heap.size) := Nat.lt_of_lt_of_le h.gN h.Nw
  have HNW := hm7 h.Nw
  have HRU : Hid (∀ (X : World) (nx : Nat), PB g N tv T L X nx → Calls Tryz.prog 81 #[.pointer (some ⟨g, 0, none⟩)] X (RuP g N tv T L X (rl5 T L nx))) := fun X nx hX => rule5_any g N tv T L nx X hX
  obtain ⟨R, hR⟩ : ∃ R, pr5 T L (T.length + 1) [] 0 = R := ⟨_, rfl⟩
  rw [hR]
  have HR := hm7 hR
  obtain ⟨ta, tc, htv, -⟩ := h.t
  subst htv
  obtain ⟨tn, htn⟩ : ∃ tn, T.length = tn := ⟨_, rfl⟩
  rw [htn] at HPB HRU hT
  have HTN := hm7 htn
  clear h hR htn
  go_enter Tryz.func40, Tryz.ntmps40
  go_wp2
  go_loopg [3] (tn + 1) (fun f u wr => ∃ (nx : Nat) (l : List Cm), pr5 T L f (l.map Cm.key) nx = R ∧ tn < nx + f ∧ nx ≤ tn ∧ l.length ≤ 64 * nx ∧ wr.ownsRow w.heap.size 53 7 u l.length (l.flatMap cc5) ∧ (∀ d ∈ l, KF (fun b => w.heap.size ≤ b ∧ u.ownBlock ≠ some b) wr d) ∧ PB g N (.slice ta tn tc) T L wr nx ∧ Fr (fun b => b = g) w wr)
  case atStart => exact ⟨0, [], by have := HR.out; rw [HTN.out] at this; exact this, by omega, Nat.zero_le _, Nat.zero_le _, World.ownsRow_nil _ _ _ _, (fun d hd => by cases hd), HPB.out, Fr.refl _ _⟩
  case round =>
    obtain ⟨nx, l, hRj, hfl, hnx, hll, ho, hkf, hpb, hfr⟩ := hrel
    have HRJ := hm7 hRj
    have HKF := hm7 hkf
    have HPJ := hm7 hpb
    have HFJ := hm7 hfr
    obtain ⟨mv, vs, hb⟩ := hpb.b
    have c0 := hb.cell (i := 0) rfl
    have c1 := hb.cell (i := 1) rfl
    obtain ⟨ua, uc, huf, -⟩ := row7_form ho
    obtain ⟨ln, hln⟩ : ∃ ln, l.length = ln := ⟨_, rfl⟩
    rw [hln] at huf ho hll
    have HLN := hm7 hln
    have HO := hm7 ho
    subst huf
    have hsz := hfr.size
    clear hRj hkf hpb hfr hb ho hln HR HPB
    cases gk with
    | zero => omega
    | succ f =>
      by_cases hlt : nx < tn
      · have hlt2 : (nx : Int) < (tn : Int) := by omega
        have HRN : Hid ((match rl5 T L nx with
            | .error e => .error e
            | .ok (ks, n') => pr5 T L f (l.map Cm.key ++ ks) n') = R) := by
          have := HRJ.out
          unfold pr5 at this
          rw [if_pos (by rw [HTN.out]; exact hlt)] at this
          exact this
        clear HRJ
        go_wp2
        go_quiet (fail)
        clear c0 c1
        have HDB : Hid (Below wr.heap.size wr (wr.drewN nq)) := below_drewN (Below.refl _ wr) _
        revert HDB
        generalize wr.drewN nq = wd
        intro HDB
        have HPD := hm7 (HPJ.out.below HDB.out)
        have HRX := hm7 (HRU.out wd nx HPD.out)
        have hszd : w.heap.size ≤ wd.heap.size := Nat.le_trans hsz HDB.out.size
        cases hr : rl5 T L nx with
        | error e0 =>
          have HRE : Hid (R = .error e0) := by have := HRN.out; rw [hr] at this; exact this.symm
          have HE := hm7 (RuP.err HRX.out hr)
          clear hr HRN HRX
          go_wp2_with (go_at_call 81; refine HE.out.mono ?_; rintro e W1 ⟨rfl, hf⟩; have HF1 := hm7 ((HFJ.out.then HDB.out).tr hf); clear hf)
          refine ⟨rfl, ?_⟩
          rw [HRE.out]
          exact ⟨HF1.out, rfl⟩
        | ok p =>
          obtain ⟨ks, n'⟩ := p
          have HRN2 : Hid (pr5 T L f (l.map Cm.key ++ ks) n' = R) := by have := HRN.out; rw [hr] at this; exact this
          have HE := hm7 (RuP.ok HRX.out hr)
          obtain ⟨hn1, hn2⟩ := rl5_nx (by rw [HTN.out]; exact hnx) hr
          rw [HTN.out] at hn2
          clear hr HRN HRX
          go_wp2_with (first
            | (go_at_call 81; refine HE.out.mono ?_; rintro e W1 ⟨v1, l1, rfl, hk1, hne, hl64, hrl, hpb, hf⟩; have hpos : 0 < l1.length := List.length_pos_iff.2 hne; obtain ⟨vg, vc, hvf⟩ := row5_pos hrl.o hpos; generalize hl1 : l1.length = k1 at hvf hl64 hpos; subst hvf; have HL1 := hm7 hl1; have HK1 := hm7 hk1; have HRL := hm7 hrl; have HP1 := hm7 hpb; have HF1 := hm7 ((HFJ.out.then HDB.out).tr hf); have HO1 := hm7 (row7_fr (row7_below HO.out HDB.out) hf fun b hb e => by have := (World.ownsRow.lt HO.out b hb).1; have := HGW.out; omega); have HKF1 : Hid (∀ d ∈ l, KF (fun b => w.heap.size ≤ b ∧ (Value.slice ua ln uc).ownBlock ≠ some b) W1 d) := (fun d hd => ((HKF.out d hd).below HDB.out).fr hf fun b hb e => by have := hb.1; have := HGW.out; omega); have hsz1 := hf.size; clear hk1 hne hrl hpb hf hl1 HE)
            | (at_builtin; refine gappL5 Tryz.underlying33 Tryz.infoClause5 rfl (by decide) (by decide) rfl _ _ rfl w.heap.size (.slice ua ln uc) ln (l.flatMap cc5) rfl HO1.out vg k1 vc 0 (l1.flatMap cc5) rfl (by have := HRL.out.o; rw [HL1.out] at this; exact this) hpos (fun u hu => by obtain ⟨d, hd, hu⟩ := List.mem_flatMap.1 hu; exact cc5_one (HRL.out.k d hd).ok u hu) (by omega) (by omega) ?_; intro g5 q5 w5 ho5 hg5 hv5 hl5; have HO5 := hm7 ho5; have HG5 := hm7 hg5; have HV5 := hm7 hv5; clear ho5 hg5 hv5 hl5))
          have HGF : Hid (Fr (fun b => w.heap.size ≤ b) W1 w5) := Fr.grown HG5.out fun b hb => (World.ownsRow.lt HO1.out b hb).1
          have HGO : Hid (Fr (fun b => (Value.slice ua ln uc).ownBlock = some b) W1 w5) := Fr.grown HG5.out fun b hb => hb
          have HI5 : Hid (∀ d, KF (fun b => w.heap.size ≤ b ∧ (Value.slice ua ln uc).ownBlock ≠ some b) W1 d → KF (fun b => w.heap.size ≤ b ∧ (Value.slice (some ⟨g5, 0, none⟩) (ln + k1) q5).ownBlock ≠ some b) w5 d) := fun d hd => by
            have h2 := hd.mono (G := fun b => (w.heap.size ≤ b ∧ (Value.slice (some ⟨g5, 0, none⟩) (ln + k1) q5).ownBlock ≠ some b) ∧ (Value.slice ua ln uc).ownBlock ≠ some b) fun b hb hw => ⟨⟨hw.1, fun e => by
              have e1 : g5 = b := Option.some.inj e
              rcases HV5.out with e2 | e2
              · exact hw.2 (by rw [← e1]; exact e2)
              · omega⟩, hw.2⟩
            exact (h2.fr HGO.out fun b hb => hb.2).mono fun b _ hb => hb.1
          try go_wp2
          go_roundg f
          case measure => omega
          case rel =>
            refine ⟨n', l ++ l1, ?_, by omega, by omega, ?_, ?_, ?_, ?_, ?_⟩
            · rw [List.map_append, HK1.out]; exact HRN2.out
            · rw [List.length_append, HLN.out, HL1.out]; omega
            · rw [List.length_append, HLN.out, HL1.out, List.flatMap_append]; exact HO5.out
            · intro d hd
              rcases List.mem_append.1 hd with hd | hd
              · exact HI5.out d (HKF1.out d hd)
              · refine HI5.out d ((HRL.out.k d hd).mono fun b _ hb => ⟨Nat.le_trans hszd hb.1, fun e => ?_⟩)
                have h1 := (World.ownsRow.lt (row7_below HO.out HDB.out) b e).2
                have h2 := hb.1
                omega
            · exact HP1.out.fr HGF.out fun b hb e => by have := HNW.out; omega
            · exact HF1.out.trans HGF.out fun b hb e => by omega
      · have hlt2 : ¬ (nx : Int) < (tn : Int) := by omega
        have HRE : Hid (R = .ok (l.map Cm.key)) := by
          have := HRJ.out
          unfold pr5 at this
          rw [if_neg (by rw [HTN.out]; exact hlt)] at this
          exact this.symm
        clear HRJ
        go_wp2
        go_quiet (fail)
        clear c0 c1
        have HDB : Hid (Below wr.heap.size wr (wr.drewN nq)) := below_drewN (Below.refl _ wr) _
        revert HDB
        generalize wr.drewN nq = wd
        intro HDB
        go_wp2
        go_ret
        rw [HRE.out]
        refine ⟨HFJ.out.then HDB.out, _, l, rfl, rfl, ⟨?_, ?_, fun d hd => (HKF.out d hd).below HDB.out⟩⟩
        · rw [HLN.out]; exact row5_base (row7_below HO.out HDB.out)
        · intro b hb
          exact (World.ownsRow.lt HO.out b hb).1
end Go.Proofs.YtcpjiahdaplhlaaGreatDoor
/-
  PLAIN: the rules of the tokens in front, and those behind.
-/
namespace Go.Proofs.YtcpjiahdaplhlaaGreatDoor
open Go.RowKit

/-- As Jn, but where it ends it ends with a fault at the end. -/
def Jx {α : Type} (n La k : Nat) (f g : Ps → R5 α) : Prop := ∀ s, s.op = k → (∃ c, f s = .error (c, (La : Int))) ∨ (s.nx < n ∧ f s = g s)
/-- Rules from here on. -/
def pp5 (T : List Tk) (L : Nat) (acc : List Ck) (nx : Nat) : Except (Int × Int) (List Ck) := pr5 T L (T.length + 1) acc nx
theorem pr5_fuel {T : List Tk} {L : Nat} : ∀ (f f' : Nat) (acc : List Ck) (nx : Nat), nx ≤ T.length → T.length < f + nx → T.length < f' + nx → pr5 T L f acc nx = pr5 T L f' acc nx
  | 0, _, acc, nx, h, h1, _ => by omega
  | _, 0, acc, nx, h, _, h2 => by omega
  | f + 1, f' + 1, acc, nx, h, h1, h2 => by
    unfold pr5
    by_cases hn : nx < T.length
    · rw [if_pos hn, if_pos hn]
      cases hr : rl5 T L nx with
      | error e => rfl
      | ok p =>
        obtain ⟨ks, n'⟩ := p
        obtain ⟨g1, g2⟩ := rl5_nx h hr
        exact pr5_fuel f f' (acc ++ ks) n' g2 (by omega) (by omega)
    · rw [if_neg hn, if_neg hn]
theorem pp5_end {T : List Tk} {L : Nat} {acc : List Ck} {nx : Nat} (h : T.length ≤ nx) : pp5 T L acc nx = .ok acc := by
  unfold pp5 pr5
  rw [if_neg (by omega)]
theorem pp5_err {T : List Tk} {L : Nat} {acc : List Ck} {nx : Nat} {e : Int × Int} (h : nx < T.length) (hr : rl5 T L nx = .error e) : pp5 T L acc nx = .error e := by
  unfold pp5 pr5
  rw [if_pos h, hr]
theorem pp5_ok {T : List Tk} {L : Nat} {acc ks : List Ck} {nx n' : Nat} (h : nx < T.length) (hr : rl5 T L nx = .ok (ks, n')) : pp5 T L acc nx = pp5 T L (acc ++ ks) n' := by
  obtain ⟨g1, g2⟩ := rl5_nx (Nat.le_of_lt h) hr
  show pr5 T L (T.length + 1) acc nx = pr5 T L (T.length + 1) (acc ++ ks) n'
  rw [pr5_fuel (T.length + 1) T.length (acc ++ ks) n' g2 (by omega) (by omega)]
  rw [pr5, if_pos h, hr]
end Go.Proofs.YtcpjiahdaplhlaaGreatDoor
/-
  syntax: query.
-/
namespace Go.Proofs.YtcpjiahdaplhlaaGreatDoor
open Go.RowKit
attribute [local go_sem ↓] Go.wp_at_zero Go.wp_at_succ

/-- A query, in plain words. -/
def qy5 (T : List Tk) (L : Nat) : Except (Int × Int) At := match at5 T L (s05 0) with
  | .error e => .error e
  | .ok (a, s) => match tk5 T L [12] s with
    | .error e => .error e
    | .ok (_, s) => if s.nx < T.length then .error (51, pl5 T L s) else if a.err = 0 then .ok a else .error (a.err, pl5 T L (s05 0))
/-- What query answers. -/
def QyP (g : Nat) (w : World) (R : Except (Int × Int) At) (e : Ending) (w' : World) : Prop :=
  Fr (fun b => b = g) w w' ∧ match R with
    | .error f => e = .panicked [pF f]
    | .ok a => ∃ y, e = .returned (a.v y) ∧ Ot5 w' w.heap.size y a.args
theorem store5a {w : World} {g : Nat} {t : TypeId} {z0 z1 z2 z3 z4 a b c d e : Value} (h : Bk w g #[z0, z1, z2, z3, z4] t) : Bk (((((w.setCell ⟨g, 0, none⟩ a).setCell ⟨g, 1, none⟩ b).setCell ⟨g, 2, none⟩ c).setCell ⟨g, 3, none⟩ d).setCell ⟨g, 4, none⟩ e) g #[a, b, c, d, e] t := store5y h
set_option maxRecDepth 20000 in
set_option maxHeartbeats 4000000 in
theorem query5_any (g N : Nat) (tv : Value) (T : List Tk) (L : Nat) (w : World) (h : PB g N tv T L w 0) :
    Calls Tryz.prog 42 #[.pointer (some ⟨g, 0, none⟩)] w (QyP g w (qy5 T L)) := by
  have HB0 := hm7 (below1 w (.cells #[.int .i64 0, .int .i64 0, .string ⟨#[]⟩, .string ⟨#[]⟩, .slice none 0 0] 42))
  have HR0 := hm7 (Bk.new w #[.int .i64 0, .int .i64 0, .string ⟨#[]⟩, .string ⟨#[]⟩, .slice none 0 0] 42)
  have HZ0 : Hid ((w.alloc (.cells #[.int .i64 0, .int .i64 0, .string ⟨#[]⟩, .string ⟨#[]⟩, .slice none 0 0] 42)).heap.size = w.heap.size + 1) := by show _ = _; simp
  have HBG := hm7 (begin5_any g N tv T L 0 _ (h.below HB0.out))
  have hT := h.ok.l
  have HGS := hm7 (gs_05 h.le)
  have HGW : Hid (g < w.heap.size) := Nat.lt_of_lt_of_le h.gN h.Nw
  obtain ⟨c, hc⟩ : ∃ c : Pk, (⟨g, (w.alloc (.cells #[.int .i64 0, .int .i64 0, .string ⟨#[]⟩, .string ⟨#[]⟩, .slice none 0 0] 42)).heap.size, (w.alloc (.cells #[.int .i64 0, .int .i64 0, .string ⟨#[]⟩, .string ⟨#[]⟩, .slice none 0 0] 42)).heap.size + 1, tv, T, L⟩ : Pk) = c := ⟨_, rfl⟩
  have HFG : Hid (∀ w1 w2 : World, Fr (fun b => b = g) w w1 → Fr (W5 c) w1 w2 → Fr (fun b => b = g) w w2) := fun w1 w2 h1 h2 => by rw [← hc] at h2; exact fr_g5 h1 h2 (by have := HZ0.out; omega)
  have HNB : Hid (∀ b, w.heap.size ≤ b → b ≠ w.heap.size + 1 → ¬ W5 c b) := fun b hb hb2 e => by
    rw [← hc] at e
    have h1 := HGW.out
    have h2 := HZ0.out
    rcases e with e | e
    · have e1 : b = g := e
      omega
    · have e1 : b = (w.alloc (.cells #[.int .i64 0, .int .i64 0, .string ⟨#[]⟩, .string ⟨#[]⟩, .slice none 0 0] 42)).heap.size := e
      omega
  have HCN : Hid (c.N = w.heap.size + 2) := by rw [← hc]; show _ + 1 = _; rw [HZ0.out]
  have hcg : c.g = g := by rw [← hc]
  have hcT : c.T = T := by rw [← hc]
  have hcL : c.L = L := by rw [← hc]
  have HCV : Hid (c.tv = tv) := by rw [← hc]; exact rfl
  have HCG := hm7 hcg
  have HCL := hm7 hcL
  rw [hc] at HBG
  have HAT : Hid (∀ X : World, PZ c X (s05 0) → Calls Tryz.prog 84 #[.pointer (some ⟨g, 0, none⟩)] X (P5P c X (fun (a : At) v w' => ∃ y, v = a.v y ∧ Ot5 w' X.heap.size y a.args) (at5 T L (s05 0)))) := fun X hX => by
    have := atom5_any c (s05 0) X hX
    rw [hcg, hcT, hcL] at this
    exact this
  have HTK : Hid (∀ (X : World) (s : Ps), PZ c X s → Calls Tryz.prog 85 #[.pointer (some ⟨g, 0, none⟩), .slice (some ⟨X.heap.size, 0, none⟩) 1 1] (X.alloc (.cells #[.int .i64 12] 3)) (P5P c (X.alloc (.cells #[.int .i64 12] 3)) (fun (t : Tk) v _ => v = t.v) (tk5 T L [12] s))) := fun X s hX => by
    have := takeN5 12 (by decide) c s X hX
    rw [hcg, hcT, hcL] at this
    exact this
  have HPL : Hid (∀ (X : World) (s : Ps), PZ c X s → Calls Tryz.prog 87 #[.pointer (some ⟨g, 0, none⟩)] X fun e w' => e = .returned (.int .i64 (pl5 T L s)) ∧ Below X.heap.size X w') := fun X s hX => by
    have := place5_any c s X hX
    rw [hcg, hcT, hcL] at this
    exact this
  have HGU : Hid (∀ (k p : Int) (X : World), Calls Tryz.prog 86 #[.int .i64 k, .int .i64 p] X fun e w' => e = .panicked [pF (k, p)] ∧ w' = X) := fun k p X => giveUp5_any k p X
  obtain ⟨ta, tc, htv, -⟩ := h.t
  clear h hc hcg hcT hcL
  obtain ⟨tn, htn⟩ : ∃ tn, T.length = tn := ⟨_, rfl⟩
  rw [htn] at htv hT
  have HTN := hm7 htn
  obtain ⟨p0, hp0⟩ : ∃ p, pl5 T L (s05 0) = p := ⟨_, rfl⟩
  rw [hp0] at HBG
  obtain ⟨R, hR⟩ : ∃ R, qy5 T L = R := ⟨_, rfl⟩
  rw [hR]
  unfold qy5 at hR
  rw [hp0] at hR
  clear hp0 htn
  go_enter Tryz.func42, Tryz.ntmps42
  go_upto_region 2 with (go_at_call 83; refine HBG.out.mono ?_; rintro e W1 ⟨rfl, hz, hf⟩; have HZ1 := hm7 hz; have HF1 := hm7 ((Fr.of HB0.out).tr hf); have HR1 := hm7 (HR0.out.fr hf fun e => by have := HGW.out; omega); clear hz hf)
  clear HBG HR0 HB0 HZ0
  cases hr : at5 T L (s05 0) with
  | error e0 =>
    rw [hr] at hR
    subst hR
    have HE := hm7 (P5P.err (HAT.out W1 HZ1.out) hr)
    clear hr HAT
    go_wp2_with (go_at_call 84; refine HE.out.mono ?_; rintro e W2 ⟨rfl, hf⟩; have HF2 := hm7 (HFG.out _ _ HF1.out hf); clear hf)
    exact ⟨rfl, HF2.out, rfl⟩
  | ok p =>
    obtain ⟨ha, s1⟩ := p
    rw [hr] at hR
    have HE := hm7 (P5P.ok (HAT.out W1 HZ1.out) hr)
    have HQA := hm7 (wg_at T L _ _ _ HGS.out hr)
    clear hr HAT
    obtain ⟨⟨hk, hn, hs⟩, hm, hal⟩ := ha
    have HWW : Hid (w.heap.size + 1 < W1.heap.size) := by have h1 := HZ1.out.Nw; rw [HCN.out] at h1; exact h1
    go_upto_region 3 with (go_at_call 84; refine HE.out.mono ?_; rintro e W2 ⟨v2, rfl, ⟨y, rfl, hy⟩, hz, hf⟩; obtain ⟨ya, yc, hyf, -⟩ := row7_form hy; generalize hyn : List.length _ = yn at hyf; subst hyf; have HYN := hm7 hyn; have HY3 := hm7 (Ot5.below hy (below1 W2 (.cells #[.int .i64 hk, .int .i64 hn, .string hs, .string hm, .slice ya yn yc] 42))); have HZ3 := hm7 (hz.below (below1 W2 (.cells #[.int .i64 hk, .int .i64 hn, .string hs, .string hm, .slice ya yn yc] 42))); have HF3 := hm7 ((HFG.out _ _ HF1.out hf).then (below1 W2 (.cells #[.int .i64 hk, .int .i64 hn, .string hs, .string hm, .slice ya yn yc] 42))); have HH3 := hm7 (Bk.new W2 #[.int .i64 hk, .int .i64 hn, .string hs, .string hm, .slice ya yn yc] 42); have HR3 := hm7 ((HR1.out.fr hf (HNB.out _ (Nat.le_refl _) (by omega))).below (below1 W2 (.cells #[.int .i64 hk, .int .i64 hn, .string hs, .string hm, .slice ya yn yc] 42))); have HHB : Hid (w.heap.size + 1 < W2.heap.size) := Nat.lt_of_lt_of_le HWW.out hf.size; clear hz hf hy hyn)
    revert HY3 HZ3 HF3 HH3 HR3
    generalize W2.alloc (.cells #[.int .i64 hk, .int .i64 hn, .string hs, .string hm, .slice ya yn yc] 42) = W3
    generalize W2.heap.size = hb at *
    intro HY3 HZ3 HF3 HH3 HR3
    clear HE HZ1 HR1
    cases hr : tk5 T L [12] s1 with
    | error e0 =>
      rw [hr] at hR
      subst hR
      have HE3 := hm7 (P5P.err (HTK.out W3 s1 HZ3.out) hr)
      clear hr HTK
      go_wp2_with (go_at_call 85; refine HE3.out.mono ?_; rintro e W6 ⟨rfl, hf⟩; have HF6 := hm7 (HFG.out _ _ (HF3.out.then (below1 _ _)) hf); clear hf)
      exact ⟨rfl, HF6.out, rfl⟩
    | ok p =>
      obtain ⟨⟨tk0, tx0, tn0, ta0, te0⟩, s3⟩ := p
      rw [hr] at hR
      have HE3 := hm7 (P5P.ok (HTK.out W3 s1 HZ3.out) hr)
      have HQT := hm7 (wg_tk T L _ _ _ _ HQA.out.1 hr)
      clear hr HTK
      go_wp2_with (go_at_call 85; refine HE3.out.mono ?_; rintro e W6 ⟨v6, rfl, rfl, hz, hf⟩; have HZ6 := hm7 hz; have HF6 := hm7 (HFG.out _ _ (HF3.out.then (below1 _ _)) hf); have HY6 := hm7 ((HY3.out.below (below1 W3 (.cells #[.int .i64 12] 3))).fr hf fun b hb => HNB.out b (by have := HWW.out; omega) (by have := HWW.out; omega)); have HH6 := hm7 ((HH3.out.below (below1 _ _)).fr hf (HNB.out _ (by have := HHB.out; omega) (by have := HHB.out; omega))); have HR6 := hm7 ((HR3.out.below (below1 _ _)).fr hf (HNB.out _ (Nat.le_refl _) (by omega))); clear hz hf; have hpb := HZ6.out.b; rw [HCG.out, HCV.out, HCL.out, htv] at hpb; have q0 := hpb.cell (i := 0) rfl; have q1 := hpb.cell (i := 1) rfl; clear hpb)
      clear HE3 HZ3 HF3 HY3 HH3 HR3
      have HN6 : Hid (s3.nx ≤ T.length) := HQT.out.1.a
      by_cases hlt : s3.nx < tn
      · have hR2 : R = .error (51, pl5 T L s3) := by rw [← hR, HTN.out]; exact if_pos hlt
        subst hR2
        have i1 : (s3.nx : Int) < (tn : Int) := by omega
        go_quiet (fail)
        clear q0 q1
        have HDB : Hid (Below W6.heap.size W6 (W6.drewN nq)) := below_drewN (Below.refl _ W6) _
        revert HDB
        generalize W6.drewN nq = W7
        intro HDB
        have HPX := hm7 (HPL.out W7 s3 (HZ6.out.below HDB.out))
        go_wp2_with (first
          | (go_at_call 87; refine HPX.out.mono ?_; rintro e W8 ⟨rfl, hb8⟩; have HB8 := hm7 hb8; clear hb8)
          | (go_at_call 86; refine (HGU.out _ _ _).mono ?_; rintro e W9 ⟨rfl, hw9⟩; have HW9 := hm7 hw9; clear hw9))
        refine ⟨rfl, ?_, rfl⟩
        rw [HW9.out]
        exact (HF6.out.then HDB.out).then HB8.out
      · have hR2 : (if At.err ⟨⟨hk, hn, hs⟩, hm, hal⟩ = 0 then .ok ⟨⟨hk, hn, hs⟩, hm, hal⟩ else .error (At.err ⟨⟨hk, hn, hs⟩, hm, hal⟩, p0)) = R := by rw [← hR, HTN.out]; exact (if_neg hlt).symm
        have i1 : ¬ (s3.nx : Int) < (tn : Int) := by omega
        have hal7 : hal.length ≤ 2000000 := by
          obtain ⟨q1, -⟩ := HQA.out.2.2
          have n1 := HQA.out.2.1
          have n4 := HQA.out.1.a
          rw [HTN.out] at n4
          have q2 : hal.length + 1 ≤ s1.nx - (s05 0).nx := q1
          omega
        have HAL := hm7 hal7
        have HR2 := hm7 hR2
        clear hR hR2 hal7 HN6 HQA HQT
        go_quiet (fail)
        clear q0 q1
        have HDB : Hid (Below W6.heap.size W6 (W6.drewN nq)) := below_drewN (Below.refl _ W6) _
        revert HDB
        generalize W6.drewN nq = W7
        intro HDB
        have HY7 := hm7 (Ot5.below HY6.out HDB.out)
        have HH7 := hm7 (HH6.out.below HDB.out)
        have HR7 := hm7 (HR6.out.below HDB.out)
        have HF7 := hm7 (HF6.out.then HDB.out)
        have HTS : Hid (Ts W7 (.slice ya yn yc) hal) := ts_of_row HY7.out (by have := HAL.out; omega)
        have HCK := hm7 (chk_any ⟨⟨hk, hn, hs⟩, hm, hal⟩ (.slice ya yn yc) W7 HTS.out)
        clear HY6 HH6 HR6 HF6 HZ6 HDB
        have h0 := HH7.out.cell (i := 0) rfl
        have h1 := HH7.out.cell (i := 1) rfl
        have h2 := HH7.out.cell (i := 2) rfl
        have h3 := HH7.out.cell (i := 3) rfl
        have h4 := HH7.out.cell (i := 4) rfl
        obtain ⟨er, her⟩ : ∃ er, At.err ⟨⟨hk, hn, hs⟩, hm, hal⟩ = er := ⟨_, rfl⟩
        rw [her] at HCK HR2
        clear her
        have HXX : Hid (w.heap.size < W7.heap.size) := HR7.out.lt
        by_cases he : er = 0
        · subst he
          have hR3 : R = .ok ⟨⟨hk, hn, hs⟩, hm, hal⟩ := by rw [← HR2.out]; exact if_pos rfl
          subst hR3
          go_upto_region 7 with (go_at_call 54; refine HCK.out.mono ?_; rintro e W8 ⟨rfl, hb8⟩; have HB8 := hm7 hb8; clear hb8)
          clear h0 h1 h2 h3 h4
          have HH8 := hm7 (HH7.out.below HB8.out)
          have HR8 := hm7 (HR7.out.below HB8.out)
          have HY8 := hm7 (Ot5.below HY7.out HB8.out)
          have h0 := HH8.out.cell (i := 0) rfl
          have h1 := HH8.out.cell (i := 1) rfl
          have h2 := HH8.out.cell (i := 2) rfl
          have h3 := HH8.out.cell (i := 3) rfl
          have h4 := HH8.out.cell (i := 4) rfl
          have r0 := HR8.out.cell (i := 0) rfl
          have r1 := HR8.out.cell (i := 1) rfl
          have r2 := HR8.out.cell (i := 2) rfl
          have r3 := HR8.out.cell (i := 3) rfl
          have r4 := HR8.out.cell (i := 4) rfl
          have f0 := HR8.out.froz 0
          have f1 := HR8.out.froz 1
          have f2 := HR8.out.froz 2
          have f3 := HR8.out.froz 3
          have f4 := HR8.out.froz 4
          have hrl := HR8.out.lt
          go_wp2
          have HR9 := hm7 (store5a (a := .int .i64 hk) (b := .int .i64 hn) (c := .string hs) (d := .string hm) (e := .slice ya yn yc) HR8.out)
          have z0 := HR9.out.cell (i := 0) rfl
          have z1 := HR9.out.cell (i := 1) rfl
          have z2 := HR9.out.cell (i := 2) rfl
          have z3 := HR9.out.cell (i := 3) rfl
          have z4 := HR9.out.cell (i := 4) rfl
          refine bodyPost_ret (v := At.v ⟨⟨hk, hn, hs⟩, hm, hal⟩ (.slice ya yn yc)) (by simp [results, Tryz.results42, go_sem, z0, z1, z2, z3, z4]) rfl ?_
          have hfs : Fr (fun b => b = w.heap.size) W8 (((((W8.setCell ⟨w.heap.size, 0, none⟩ (.int .i64 hk)).setCell ⟨w.heap.size, 1, none⟩ (.int .i64 hn)).setCell ⟨w.heap.size, 2, none⟩ (.string hs)).setCell ⟨w.heap.size, 3, none⟩ (.string hm)).setCell ⟨w.heap.size, 4, none⟩ (.slice ya yn yc)) := (((((Fr.refl (fun b => b = w.heap.size) _).set (Or.inl rfl)).set (Or.inl rfl)).set (Or.inl rfl)).set (Or.inl rfl)).set (Or.inl rfl)
          refine ⟨(HF7.out.then HB8.out).trans hfs (fun b hb e => by omega), .slice ya yn yc, rfl, ?_⟩
          refine ((HY8.out.fr hfs fun b hb e => ?_)).mono5 ?_
          · have := HWW.out; omega
          · have := HWW.out; omega
        · have hR3 : R = .error (er, p0) := by rw [← HR2.out]; exact if_neg he
          subst hR3
          have he1 : (er == 0) = false := by simp [he]
          have he2 : (er != 0) = true := by simp [he]
          go_wp2_with (first
            | (go_at_call 54; refine HCK.out.mono ?_; rintro e W8 ⟨rfl, hb8⟩; have HB8 := hm7 hb8; clear hb8)
            | (go_at_call 86; refine (HGU.out _ _ _).mono ?_; rintro e W9 ⟨rfl, hw9⟩; have HW9 := hm7 hw9; clear hw9))
          refine ⟨rfl, ?_, rfl⟩
          rw [HW9.out]
          exact HF7.out.then HB8.out
end Go.Proofs.YtcpjiahdaplhlaaGreatDoor

/-
  wire: the document's wire: Waiting.
-/
import Derived.Test.YtboomeeipnfbmabWRC
namespace Go.Proofs.Ytboomeeipnfbmab
open Go.RowKit
attribute [local go_sem ↓] Go.wp_at_zero Go.wp_at_succ

/-- A row of messages that a call makes; their bytes lie in other blocks. -/
structure OrW (base : Nat) (Y : World) (u : Value) (Z : List (MsW × Value)) : Prop where
  o : Y.ownsRow base 37 2 u Z.length (twoW (Z.map zcW))
  b : ∀ z ∈ Z, LbW (fun x => base ≤ x ∧ u.ownBlock ≠ some x) Y z.2 z.1.b
theorem OrW.nil (base : Nat) (Y : World) : OrW base Y (.slice none 0 0) [] := ⟨World.ownsRow_nil _ _ _ _, by simp⟩
theorem OrW.below {base : Nat} {Y Y' : World} {u : Value} {Z : List (MsW × Value)} (h : OrW base Y u Z) (hb : Below Y.heap.size Y Y') : OrW base Y' u Z := ⟨row7_below h.o hb, fun z hz => (h.b z hz).below hb⟩
theorem OrW.lm {base : Nat} {Y : World} {u : Value} {Z : List (MsW × Value)} (h : OrW base Y u Z) : LmW (fun x => base ≤ x) Y u (Z.map Prod.fst) := by
  obtain ⟨a, cap, hu, hc⟩ := row7_form h.o
  have hcap : cap ≤ 9223372036854775807 := by
    rcases h.o.2 with ⟨e, -⟩ | ⟨g, c, cur, e, -, -, -, hc2, -⟩
    · rw [hu] at e; simp only [Value.slice.injEq] at e; omega
    · rw [hu] at e; simp only [Value.slice.injEq] at e; unfold maxLen at hc2; omega
  refine ⟨a, cap, by rw [List.length_map]; exact hu, by rw [List.length_map]; exact hc, hcap, ?_⟩
  subst hu
  rcases h.o.2 with ⟨e, hn⟩ | ⟨g, c, cur, e, hb, hg, hn, -⟩
  · simp only [Value.slice.injEq] at e
    obtain ⟨rfl, -, rfl⟩ := e
    have : Z = [] := List.eq_nil_of_length_eq_zero hn
    subst this
    exact Or.inl ⟨rfl, fun _ => rfl⟩
  · simp only [Value.slice.injEq] at e
    obtain ⟨rfl, -, rfl⟩ := e
    refine Or.inr ⟨g, 0, rfl, (Array.getElem?_eq_some_iff.1 hg).1, hb, fun i m hm => ?_⟩
    rw [List.getElem?_map, Option.map_eq_some_iff] at hm
    obtain ⟨z, hz, rfl⟩ := hm
    have hc : (Z.map zcW)[i]? = some (zcW z) := by rw [List.getElem?_map, hz]; rfl
    obtain ⟨c1, c2⟩ := twoW_get hc
    obtain ⟨_, e1, -, -, k1, -⟩ := row7_at h.o c1
    cases e1
    obtain ⟨_, e2, -, -, k2, -⟩ := row7_at h.o c2
    cases e2
    refine ⟨by rw [Nat.zero_add]; exact k1, z.2, by rw [Nat.zero_add]; exact k2, (h.b z (List.mem_of_getElem? hz)).mono fun x _ hx => hx.1⟩
/-- One more, by append. -/
theorem OrW.push {base : Nat} {Y Y' : World} {u u' v : Value} {m : MsW} {Z : List (MsW × Value)} (h : OrW base Y u Z) (hg : Y.grownBy Y' u.ownBlock) (ho : Y'.ownsRow base 37 2 u' (Z.length + 1) (twoW (Z.map zcW) ++ [.int .i64 (m.n : Int), v])) (hv : u'.ownBlock = u.ownBlock ∨ u'.ownBlock = some Y.heap.size) (hl : LbW (fun x => base ≤ x ∧ u.ownBlock ≠ some x) Y v m.b) : OrW base Y' u' (Z ++ [(m, v)]) := by
  have key : ∀ v l, LbW (fun x => base ≤ x ∧ u.ownBlock ≠ some x) Y v l → LbW (fun x => base ≤ x ∧ u'.ownBlock ≠ some x) Y' v l := fun v l h1 => by
    have h2 : LbW (fun x => base ≤ x ∧ u.ownBlock ≠ some x ∧ x < Y.heap.size) Y v l := h1.mono fun x hx hF => ⟨hF.1, hF.2, hx⟩
    refine (h2.fr (Fr.own hg) fun x _ hx e => hx.2.1 e).mono fun x _ hx => ⟨hx.1, fun e => ?_⟩
    rcases hv with hv | hv
    · exact hx.2.1 (hv ▸ e)
    · rw [hv] at e; cases e; exact absurd hx.2.2 (Nat.lt_irrefl _)
  refine ⟨?_, fun z hz => ?_⟩
  · rw [List.length_append, List.map_append, twoW_app]; exact ho
  · rcases List.mem_append.1 hz with hz | hz
    · exact key _ _ (h.b z hz)
    · rw [List.mem_singleton] at hz; subst hz; exact key _ _ hl
set_option maxRecDepth 20000 in
set_option maxHeartbeats 4000000 in
theorem rwaitW_any {B : Nat} {T : Nat → Prop} {v : Value} {s : WrW} {Y : World} (h : RzW B T v s Y) :
    Calls Try.prog 30 #[v] Y fun e Y' => ∃ u, e = .returned u ∧ LmW (fun x => Y.heap.size ≤ x) Y' u s.row ∧ Below Y.heap.size Y Y' := by
  obtain ⟨g, Q, P, av, rfl, h⟩ := h
  have HX := hm7 h
  obtain ⟨aa, cap, hav, -⟩ := row7_form h.a
  have hg4 := h.ok.g
  have hrl := h.ok.r
  have HN := hm7 h.len
  obtain ⟨N, hN⟩ : ∃ N, Q.length = N := ⟨_, rfl⟩
  rw [hN] at hav
  subst hav
  have HN2 := hm7 hN
  obtain ⟨R, hR⟩ : ∃ R, s.row.length = R := ⟨_, rfl⟩
  rw [hR] at hrl
  have HR := hm7 hR
  have HB := hm7 (rbehW_any h 0)
  have hN4 : N ≤ 4096 := by rw [← hN, HN.out]; exact hg4
  clear h hN hR
  go_enter Try.func30, Try.ntmps30
  go_wp2_with (go_at_call 47; refine HB.out.mono ?_; rintro e Y1 ⟨n, rfl, hb, m, rfl⟩; have HH := hm7 hb; clear hb)
  have HE : Hid (n = numW s 0) := HH.out.is HX.out.rs 0 (fun j p _ hj => by omega) fun j p hp _ => (HX.out.rs.lo j p hp).1
  go_loopg [3, 4] R (fun gg u x wr => ∃ (j nn : Nat) (Z : List (MsW × Value)), j + gg = R ∧ x = .int .i64 (nn : Int) ∧ nn = numW s j ∧ Z.map Prod.fst = s.row.take j ∧ OrW Y.heap.size wr u Z ∧ Below Y.heap.size Y wr)
  case atStart => exact ⟨0, n, [], by omega, rfl, HE.out, rfl, OrW.nil _ _, ⟨rfl, rfl, rfl, Nat.le_refl _, fun _ _ => rfl⟩⟩
  case round =>
    obtain ⟨j, nn, Z, hj, rfl, hnn, hZ, ho, hb⟩ := hrel
    have HO := hm7 ho
    have HBW := hm7 hb
    have HZ := hm7 hZ
    obtain ⟨ua, uc, hu, -⟩ := row7_form ho.o
    have hzl : Z.length = j := by have := congrArg List.length hZ; rw [List.length_map, List.length_take] at this; have := HR.out; omega
    rw [hzl] at hu
    subst hu
    have hsz := hb.size
    cases gk with
    | succ gg =>
      obtain ⟨m, hm⟩ : ∃ m, s.row[j]? = some m := ⟨_, List.getElem?_eq_getElem (by have := HR.out; omega)⟩
      obtain ⟨p, hp, hp1, hp2, hm1, hm2, hal⟩ := HX.out.rs.pl hm
      have hnm : nn = m.n := by rw [hnn]; unfold numW; rw [hm]
      obtain ⟨k, hk⟩ : ∃ k, m.n = k + 1 := ⟨m.n - 1, by omega⟩
      obtain ⟨q, hq⟩ : ∃ q, Q[k]? = some q := ⟨_, List.getElem?_eq_getElem (by rw [HN.out]; omega)⟩
      have hqx : (Q.map MrW.x)[k]? = some q.x := by rw [List.getElem?_map, hq]; rfl
      rw [show m.n - 1 = k by omega, hqx] at hal
      have hqb : q.b = m.b := congrArg Prod.fst (Option.some.inj hal)
      have hqp : q.p = p := congrArg Prod.snd (Option.some.inj hal)
      have hx1 := HX.out.same hb.size fun b h1 _ => hb.block b h1
      have HX1 := hm7 hx1
      have hlb := hx1.u q (List.mem_of_getElem? hq)
      rw [hqb] at hlb
      have hml := HX.out.ok.l m (List.mem_of_getElem? hm)
      have HC := hm7 (bcopyW_any _ q.u m.b wr hlb (by omega))
      obtain ⟨ba, bc, hbu, -⟩ := hlb.form
      have c0 : wr.cell? ⟨g, 0, none⟩ = some (.slice aa N cap) := hx1.b.cell (i := 0) rfl
      obtain ⟨g', rfl, -, -, -, -, q0, -, -⟩ := hx1.at_ hq
      have HQ := hm7 hq
      have HQP := hm7 hqp
      have HM := hm7 hm
      have HML := hm7 hml
      have HMB := hm7 (HX.out.ok.b m (List.mem_of_getElem? hm))
      have HP := hm7 hp
      have HK := hm7 hk
      obtain ⟨bn, hbn⟩ : ∃ bn, m.b.length = bn := ⟨_, rfl⟩
      rw [hbn] at hbu
      rw [hbu] at q0 HC
      have HBN := hm7 hbn
      obtain rfl : nn = k + 1 := by omega
      have ek : ((k + 1 : Nat) : Int) = (k : Int) + 1 := by omega
      rw [ek]
      have k0 : (0 : Int) ≤ (k : Int) := by omega
      have k1 : (k : Int) < (N : Int) := by have := HN2.out; have := HN.out; omega
      have k2 : (k : Int) + 1 > 0 := by omega
      have ks : (k : Int) + 1 - 1 = (k : Int) := by omega
      have HZL := hm7 hzl
      clear ho hb hZ hm hp hal hqx hqb hqp hx1 hlb hml hq hk hbn hnn hnm hm1 hm2 hp1 hp2 hbu hzl
      go_wp2_with (first
        | (go_at_call 48; refine HC.out.mono ?_; rintro e W5 ⟨uv, rfl, hu5, hb5⟩; obtain ⟨ra, rc, rfl, -⟩ := row7_form hu5; rw [HBN.out]; have HU5 := hm7 hu5; have HB5 := hm7 hb5; have hs5 := hb5.size; clear hu5 hb5)
        | (at_builtin; refine gappW Try.underlying34 Try.infoMsgW rfl (by omega) rfl _ _ rfl Y.heap.size (.slice ua j uc) j (twoW (Z.map zcW)) rfl (by have := row7_below (row7_below HO.out.o HB5.out) (below1 W5 (.cells #[.int .i64 ((k : Int) + 1), .slice ra bn rc] 37)); rw [HZL.out] at this; exact this) (.slice (some ⟨W5.heap.size, 0, none⟩) 1 1) 1 [.int .i64 ((k : Int) + 1), .slice ra bn rc] rfl (two_srcW (Bk.new W5 #[.int .i64 ((k : Int) + 1), .slice ra bn rc] 37)) (by simp [Value.oneCell']) (by omega) (by omega) (by simp; omega) ?_; intro v6 W6 ho6 hg6 hv6; obtain ⟨a6, c6, rfl, -⟩ := row7_form ho6; have h6 := HO.out.below HB5.out; have h7 := h6.below (below1 W5 (.cells #[.int .i64 ((k : Int) + 1), .slice ra bn rc] 37)); have hlb6 : LbW (fun x => Y.heap.size ≤ x ∧ (Value.slice ua j uc).ownBlock ≠ some x) (W5.alloc (.cells #[.int .i64 ((k : Int) + 1), .slice ra bn rc] 37)) (.slice ra bn rc) m.b := by {have := HU5.out; have q1 := this.lb HMB.out; rw [HBN.out] at q1; refine (q1.below (below1 _ _)).mono fun x _ hF => ⟨by omega, fun e => ?_⟩; have := (World.ownsRow.lt HO.out.o x e).2; omega}; have h8 := h7.push (m := m) (v := .slice ra bn rc) hg6 (by rw [HZL.out, HK.out, show ((k + 1 : Nat) : Int) = (k : Int) + 1 by omega]; exact ho6) hv6 hlb6; have hb8 : Below Y.heap.size Y W6 := (HBW.out.trans ((HB5.out.trans ((below1 _ _).mono hs5)).mono (by omega))).trans ((Fr.own hg6).mono (fun x hx e => (World.ownsRow.lt HO.out.o x e).1) |>.low (by simp; omega)); have hx8 := HX.out.same hb8.size fun b h1 _ => hb8.block b h1; have c8 : W6.cell? ⟨g, 0, none⟩ = some (.slice (some ⟨g', 0, none⟩) N cap) := hx8.b.cell (i := 0) rfl; obtain ⟨_, e8, -, -, -, -, -, q8, -⟩ := hx8.at_ HQ.out; cases e8; have HX8 := hm7 hx8; have HB8 := hm7 hb8; have HO8 := hm7 h8; have HBE := hm7 (rbehW_any hx8 q.p); clear ho6 hg6 hv6 h6 h7 h8 hlb6 hx8 hb8)
        | (go_at_call 47; refine HBE.out.mono ?_; rintro e W9 ⟨n9, rfl, hb9, m9, rfl⟩; have HH9 := hm7 hb9; clear hb9))
      go_roundg gg
      case measure => omega
      case rel =>
        refine ⟨j + 1, n9, Z ++ [(m, .slice ra bn rc)], by omega, rfl, ?_, ?_, ?_, HB8.out.trans ⟨rfl, rfl, rfl, Nat.le_refl _, fun _ _ => rfl⟩⟩
        · refine HH9.out.is HX.out.rs (j + 1) (fun i p' hi hlt => ?_) fun i p' hi hle => ?_
          · rw [HQP.out]
            rcases Nat.lt_or_ge i j with c | c
            · exact Nat.le_of_lt (HX.out.rs.up i j p' p hi HP.out c)
            · obtain rfl : i = j := by omega
              rw [HP.out] at hi; cases hi; exact Nat.le_refl _
          · rw [HQP.out]
            exact HX.out.rs.up j i p p' HP.out hi (by omega)
        · rw [List.map_append, HZ.out, List.take_add_one, HM.out]; rfl
        · exact HO8.out.below ⟨rfl, rfl, rfl, Nat.le_refl _, fun _ _ => rfl⟩
    | zero =>
      obtain rfl : j = R := by omega
      have hz : nn = 0 := by
        rw [hnn]; unfold numW
        rw [List.getElem?_eq_none (by rw [HR.out]; exact Nat.le_refl _)]
      subst hz
      have HZT : Hid (Z.map Prod.fst = s.row) := by show _ = _; rw [HZ.out, List.take_of_length_le (by rw [HR.out]; exact Nat.le_refl _)]
      clear ho hb hZ hnn hzl
      go_wp2
      go_ret
      refine ⟨_, rfl, ?_, HBW.out⟩
      rw [← HZT.out]
      exact HO.out.lm
end Go.Proofs.Ytboomeeipnfbmab

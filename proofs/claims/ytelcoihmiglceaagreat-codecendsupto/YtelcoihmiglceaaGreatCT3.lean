import Derived.Test.YtelcoihmiglceaaGreatCT1
import Derived.Test.YtelcoihmiglceaaGreatCS1
import Derived.Deep.RegionHeld3
import Derived.Test.YtelcoihmiglceaaGreatMD14
import Derived.Test.YtelcoihmiglceaaGreatMP1
import Derived.Test.YtelcoihmiglceaaGreatB7
namespace Go.Proofs.YtelcoihmiglceaaGreat
open Go.RowKit
attribute [local go_sem ↓] Go.wp_at_zero Go.wp_at_succ

def eOf {α : Type} : Except Int α -> Int
 | .ok _ => 0
 | .error e => e
set_option maxRecDepth 20000 in
set_option maxHeartbeats 600000 in
theorem which0 (u : Value) (l : List Int) (X : World) (h : Bh X u l) :
  Calls Tryz.prog 18 #[.int .i64 0, u] X fun e w' => e = .returned (.int .i64 (eOf (rWhole rAtom l))) /\ Below X.heap.size X w' := by
 have HR : Hid (Calls Tryz.prog 48 #[u] X fun e w' => ∃ tk tn ts tm t1 t2 t3, e = .returned (.tuple #[.agg #[.int .i64 tk, .int .i64 tn, .string ts, .string tm, .slice t1 t2 t3], .int .i64 (eOf (rWhole rAtom l))]) /\ Below X.heap.size X w') := (readAtom_any u l X h).mono (by
  rcases hr : rWhole rAtom l with c | a
  ·rintro e w' ⟨hb, a, y, c, rfl, ho, rfl, rfl⟩
   obtain ⟨t1, t2, t3, rfl⟩ := ownT_form8 ho
   exact ⟨_, _, _, _, _, _, _, rfl, hb⟩
  ·rintro e w' ⟨hb, a, y, c, rfl, ho, rfl, rfl⟩
   obtain ⟨t1, t2, t3, rfl⟩ := ownT_form8 ho
   exact ⟨_, _, _, _, _, _, _, rfl, hb⟩)
 generalize eOf (rWhole rAtom l) = E at HR ⊢
 obtain ⟨-, b, o, cap, rfl, -, -, -, -⟩ := h
 go_enter Tryz.func18, Tryz.ntmps18
 go_wp2_with (go_at_call 48; refine HR.out.mono ?_; rintro e w1 ⟨tk, tn, ts, tm, t1, t2, t3, rfl, hb⟩; have HB : Hid (Below X.heap.size X w1) := hb; clear hb)
 go_ret
 exact ⟨rfl, below_step HB.out (below1 _ _)⟩
set_option maxRecDepth 20000 in
set_option maxHeartbeats 600000 in
theorem which1 (u : Value) (l : List Int) (X : World) (h : Bh X u l) :
  Calls Tryz.prog 18 #[.int .i64 1, u] X fun e w' => e = .returned (.int .i64 (eOf (rWhole rClause l))) /\ Below X.heap.size X w' := by
 have HR : Hid (Calls Tryz.prog 49 #[u] X fun e w' => ∃ tk tn ts tm t1 t2 t3 t4 t5 t6 t7 t8 t9, e = .returned (.tuple #[.agg #[.int .i64 tk, .int .i64 tn, .string ts, .string tm, .slice t1 t2 t3, .slice t4 t5 t6, .slice t7 t8 t9], .int .i64 (eOf (rWhole rClause l))]) /\ Below X.heap.size X w') := (readClause_any u l X h).mono (by
  have key : ∀ (d : Cm) (w' : World), d.ok w' -> ∃ tk tn ts tm t1 t2 t3 t4 t5 t6 t7 t8 t9, d.v = .agg #[.int .i64 tk, .int .i64 tn, .string ts, .string tm, .slice t1 t2 t3, .slice t4 t5 t6, .slice t7 t8 t9] := fun d w' hd => by
   obtain ⟨⟨n1, n2, n3, z1⟩, ⟨n4, n6, z2⟩, ⟨n7, n9, z3⟩, -, -⟩ := hd.shape
   obtain ⟨⟨⟨⟨nk, nn, ns⟩, nm, na⟩, nv⟩, nb, nbv, nt, ntv⟩ := d
   simp only at z1 z2 z3
   subst z1 z2 z3
   exact ⟨_, _, _, _, _, _, _, _, _, _, _, _, _, rfl⟩
  rcases hr : rWhole rClause l with c | a
  ·rintro e w' ⟨hb, d, er, rfl, hm, hg, hk, rfl⟩
   obtain ⟨tk, tn, ts, tm, t1, t2, t3, t4, t5, t6, t7, t8, t9, e⟩ := key d w' (hm.ok hg)
   rw [e]
   exact ⟨_, _, _, _, _, _, _, _, _, _, _, _, _, rfl, hb⟩
  ·rintro e w' ⟨hb, d, er, rfl, hm, hg, hk, rfl⟩
   obtain ⟨tk, tn, ts, tm, t1, t2, t3, t4, t5, t6, t7, t8, t9, e⟩ := key d w' (hm.ok hg)
   rw [e]
   exact ⟨_, _, _, _, _, _, _, _, _, _, _, _, _, rfl, hb⟩)
 generalize eOf (rWhole rClause l) = E at HR ⊢
 obtain ⟨-, b, o, cap, rfl, -, -, -, -⟩ := h
 go_enter Tryz.func18, Tryz.ntmps18
 go_wp2_with (go_at_call 49; refine HR.out.mono ?_; rintro e w1 ⟨tk, tn, ts, tm, t1, t2, t3, t4, t5, t6, t7, t8, t9, rfl, hb⟩; have HB : Hid (Below X.heap.size X w1) := hb; clear hb)
 go_ret
 exact ⟨rfl, below_step HB.out (below1 _ _)⟩
set_option maxRecDepth 20000 in
set_option maxHeartbeats 600000 in
theorem which2 (u : Value) (l : List Int) (X : World) (h : Bh X u l) :
  Calls Tryz.prog 18 #[.int .i64 2, u] X fun e w' => e = .returned (.int .i64 (eOf (rWhole rSet l))) /\ Below X.heap.size X w' := by
 have HR : Hid (Calls Tryz.prog 22 #[u] X fun e w' => ∃ t1 t2 t3, e = .returned (.tuple #[.slice t1 t2 t3, .int .i64 (eOf (rWhole rSet l))]) /\ Below X.heap.size X w') := by
  rcases hr : rWhole rSet l with c | a
  ·exact (gs_no hr u X h).mono (by rintro e w' ⟨t1, t3, rfl, hb⟩; exact ⟨_, _, _, rfl, hb⟩)
  ·exact (gs_ok hr u X h).mono (by rintro e w' ⟨t1, t2, t3, rfl, -, hb⟩; exact ⟨_, _, _, rfl, hb⟩)
 generalize eOf (rWhole rSet l) = E at HR ⊢
 obtain ⟨-, b, o, cap, rfl, -, -, -, -⟩ := h
 go_enter Tryz.func18, Tryz.ntmps18
 go_wp2_with (go_at_call 22; refine HR.out.mono ?_; rintro e w1 ⟨t1, t2, t3, rfl, hb⟩; have HB : Hid (Below X.heap.size X w1) := hb; clear hb)
 go_ret
 exact ⟨rfl, HB.out⟩
set_option maxRecDepth 20000 in
set_option maxHeartbeats 600000 in
theorem which3 (u : Value) (l : List Int) (X : World) (h : Bh X u l) :
  Calls Tryz.prog 18 #[.int .i64 3, u] X fun e w' => e = .returned (.int .i64 (eOf (rWhole rProof l))) /\ Below X.heap.size X w' := by
 have HR : Hid (Calls Tryz.prog 20 #[u] X fun e w' => ∃ t1 t2 t3 t4 t5 t6, e = .returned (.tuple #[.agg #[.slice t1 t2 t3, .slice t4 t5 t6], .int .i64 (eOf (rWhole rProof l))]) /\ Below X.heap.size X w') := by
  rcases hr : rWhole rProof l with c | a
  ·exact (gb_no hr u X h).mono (by rintro e w' ⟨t1, t2, t3, t4, t5, t6, rfl, hb⟩; exact ⟨_, _, _, _, _, _, rfl, hb⟩)
  ·exact (gb_ok hr u X h).mono (by rintro e w' ⟨t1, t2, t3, t4, t5, t6, rfl, -, hb⟩; exact ⟨_, _, _, _, _, _, rfl, hb⟩)
 generalize eOf (rWhole rProof l) = E at HR ⊢
 obtain ⟨-, b, o, cap, rfl, -, -, -, -⟩ := h
 go_enter Tryz.func18, Tryz.ntmps18
 go_wp2_with (go_at_call 20; refine HR.out.mono ?_; rintro e w1 ⟨t1, t2, t3, t4, t5, t6, rfl, hb⟩; have HB : Hid (Below X.heap.size X w1) := hb; clear hb)
 go_ret
 exact ⟨rfl, below_step HB.out (below1 _ _)⟩
structure Ends (k : Int) (L : List Int) : Prop where
 lo : L.length <= 400000000000
 by_ : byt L
 ne : L ≠ []
 sh : ∀ (u : Value) (X : World) (m : Nat), m < L.length -> Bh X u (L.take m) -> Calls Tryz.prog 18 #[.int .i64 k, u] X fun e w' => e = .returned (.int .i64 61) /\ Below X.heap.size X w'
 ok : ∀ (u : Value) (X : World), Bh X u L -> Calls Tryz.prog 18 #[.int .i64 k, u] X fun e w' => e = .returned (.int .i64 0) /\ Below X.heap.size X w'
 tl : ∀ (u : Value) (X : World) (t : List Int), t ≠ [] -> Bh X u (L ++ t) -> Calls Tryz.prog 18 #[.int .i64 k, u] X fun e w' => e = .returned (.int .i64 62) /\ Below X.heap.size X w'
theorem ends_of {α : Type} {k : Int} {one : List Int -> Rd α} (hs : Sho one) (hw : ∀ (u : Value) (l : List Int) (X : World), Bh X u l -> Calls Tryz.prog 18 #[.int .i64 k, u] X fun e w' => e = .returned (.int .i64 (eOf (rWhole one l))) /\ Below X.heap.size X w') {L : List Int} {a : α} (e : rWhole one L = .ok a) (hl : L.length <= 400000000000) (hb : byt L) (hn : L ≠ []) : Ends k L := by
 obtain ⟨h1, h2⟩ := sho_whole hs e
 refine ⟨hl, hb, hn, fun u X m hm hu => ?_, fun u X hu => ?_, fun u X t ht hu => ?_⟩
 ·have := hw u _ X hu
  rwa [h1 m hm] at this
 ·have := hw u _ X hu
  rwa [e] at this
 ·have := hw u _ X hu
  rwa [h2 t ht] at this
end Go.Proofs.YtelcoihmiglceaaGreat
namespace Go.Proofs.YtelcoihmiglceaaGreat
open Go.RowKit

def Wrt (k : Int) (X : World) (e : Ending) (w' : World) : Prop := ∃ a n c L, e = .returned (.tuple #[.slice a n c, .int .i64 0]) /\ n = L.length /\ Ends k L /\ Br w' (.slice a n c) L /\ Below X.heap.size X w'
theorem Br.len {w : World} {v : Value} {L : List Int} (h : Br w v L) : ∃ a n c, v = .slice a n c /\ n = L.length := by
 obtain ⟨-, a, cap, rfl, -⟩ := h
 exact ⟨a, _, cap, rfl, rfl⟩
theorem wrt_of {k : Int} {X w' : World} {v : Value} {L : List Int} (he : Ends k L) (h : Br w' v L) (hb : Below X.heap.size X w') : Wrt k X (.returned (.tuple #[v, .int .i64 0])) w' := by
 obtain ⟨a, n, c, rfl, hn⟩ := h.len
 exact ⟨a, n, c, L, rfl, hn, he, h, hb⟩
theorem ew_set {B : Nat} {X : World} {rv sv : Value} {R : List Cm} {S : List St} (h : LL B X rv sv R S) : Calls Tryz.prog 12 #[rv] X (Wrt 2 X) :=
 (ll_set h).mono (by
  rintro e w' ⟨v', K, rfl, hk, hl, hbr, hb⟩
  have hw := setK_kw hk h.mm
  refine wrt_of (ends_of sho_set which2 (rWhole_sBy hk.rise (by have := hl.1; omega) (fun k hk' => ⟨kC k, kC_key k, by rw [chk_keyK, kC_key]; exact (hw k hk').1, (hw k hk').2⟩)) hl.2 hbr.1 (sBy_ne9 _)) hbr hb)
theorem ew_proof {B : Nat} {X : World} {rv sv : Value} {R : List Cm} {S : List St} (h : LL B X rv sv R S) : Calls Tryz.prog 17 #[.agg #[rv, sv]] X (Wrt 3 X) :=
 (ll_proof h).mono (by
  rintro e w' ⟨v', rfl, hbr, hl, hb⟩
  refine wrt_of (ends_of sho_proof which3 (rWhole_pK (fun c hc => ⟨mk_chk (h.mm c hc), (h.mm c hc).kw.r⟩) (fun s hs => h.kx.2 s hs) (by have := h.lr; omega) (by rw [List.length_map]; have := h.ls; omega)) hl hbr.1 (pK_ne9 _)) hbr hb)
theorem ew_atom {g : At} (hr : ∀ t ∈ g.pl, rng t) {X : World} {y : Value} (hy : Ts X y (mkA g).args) : Calls Tryz.prog 15 #[(mkA g).v y] X (Wrt 0 X) := by
 have hae := mkA_err nmP_ok g
 have hl := aB_len8 (fit_of hae)
 refine (atomW_ok _ y X hy hae).mono ?_
 rintro e w' ⟨v, rfl, ho, hb⟩
 have hbr : Br w' v (aB (mkA g)) := (ho.bn (by omega)).br (aB_byt9 (fit_of hae)) (aB_ne _)
 exact wrt_of (ends_of sho_atom which0 (rWhole_aB hae (rng_mkA hr)) (by omega) hbr.1 (aB_ne _)) hbr hb
theorem ew_clause {x : Ck} (hr : Rng x) {X : World} {d : Cm} (hk : d.key = madeK x) (ho : d.ok X) : Calls Tryz.prog 8 #[d.v] X (Wrt 1 X) := by
 have hval := made_val nmP_ok x
 have hrm := made_rng nmP_ok hr
 have h0 : d.chk = 0 := made_chk nmP_ok hk
 refine (clauseW_any d X ho ⟨fun t ht hv => by
   rw [key_terms, hk] at ht
   exact rng_wf hrm t ht, by rw [key_terms, hk]; have := val_terms hval; omega⟩).mono ?_
 rintro e w' ⟨v, rfl, hn, hb⟩
 have hby := cB_byt9 h0
 have hl := cB_len h0
 rw [h0]
 unfold bCl at hn
 rw [if_pos h0] at hn
 have hbr : Br w' v (cB d.key) := hn.br hby (cB_ne _)
 exact wrt_of (ends_of sho_clause which1 (rWhole_cB h0 (by rw [hk]; exact hrm)) (by omega) hby (cB_ne _)) hbr hb
theorem as_one {X : World} {b : Nat} {g : At} {gv : Value} (h : CBlk X b #[.int .i64 g.by_.k, .int .i64 g.by_.n, .string g.by_.s, .string g.name, gv] 26) (hg : Ts X gv g.args) : As X (.slice (some ⟨b, 0, none⟩) 1 1) [(g, gv)] := by
 obtain ⟨c0, c1, c2, c3, c4⟩ := five h
 refine ⟨_, _, rfl, by simp, Or.inr ⟨b, 0, rfl, h.lt, fun i x hx => ?_⟩, fun x hx => by rw [List.mem_singleton] at hx; subst hx; exact hg⟩
 have hi : i = 0 := by have := (List.getElem?_eq_some_iff.1 hx).1; simp at this; omega
 subst hi
 simp only [List.getElem?_cons_zero, Option.some.injEq] at hx
 subst hx
 exact ⟨c0, c1, c2, c3, c4⟩
def gCm (g : At) (gv : Value) (b : Nat) : Cm := ⟨(g, gv), [(g, gv)], .slice (some ⟨b, 0, none⟩) 1 1, [], .slice none 0 0⟩
def gCk (g : At) : Ck := (g, [g], [])
theorem gCk_rng {g : At} (h : ∀ t ∈ g.pl, rng t) : Rng (gCk g) := ⟨fun a ha t ht => by
  have : a = g := by simpa [gCk] using ha
  subst this
  exact h t ht, fun e he => by simp [gCk] at he⟩
theorem ew_made {g : At} {gv : Value} {b : Nat} {X : World} (h : CBlk X b #[.int .i64 g.by_.k, .int .i64 g.by_.n, .string g.by_.s, .string g.name, gv] 26) (hg : Ts X gv g.args) :
  Calls Tryz.prog 7 #[.agg #[.int .i64 g.by_.k, .int .i64 g.by_.n, .string g.by_.s, .string g.name, gv, .slice (some ⟨b, 0, none⟩) 1 1, .slice none 0 0]] X fun e w' => ∃ d : Cm, e = .returned d.v /\ d.key = madeK (gCk g) /\ d.ok w' /\ Below X.heap.size X w' :=
 (made_any (gCm g gv b) X ⟨hg, as_one h hg, ⟨none, 0, rfl, by simp [gCm], Or.inl rfl⟩⟩).mono (by
  rintro e w' ⟨d, rfl, hk, hm, hb⟩
  exact ⟨d, rfl, hk, hm.ok8 (by rw [hk]; exact (made_val nmP_ok _).ks), hb⟩)
theorem Br.take {w : World} {a : Option Addr} {n cap : Nat} {L : List Int} (h : Br w (.slice a n cap) L) {m : Nat} (hm : m <= L.length) : Br w (.slice a m cap) (L.take m) := by
 obtain ⟨hy, a', cap', e, h0, h1, hn, h⟩ := h
 simp only [Value.slice.injEq] at e
 obtain ⟨rfl, rfl, rfl⟩ := e
 have e1 : (L.take m).length = m := by rw [List.length_take]; omega
 refine ⟨fun x hx => hy x (List.mem_of_mem_take hx), a, cap, by rw [e1], by omega, by omega, hn, ?_⟩
 rcases h with rfl | ⟨b, o, rfl, h2, h3⟩
 ·exact Or.inl (by simp)
 ·refine Or.inr ⟨b, o, rfl, h2, fun i x hx => ?_⟩
  have : i < m := by have := (List.getElem?_eq_some_iff.1 hx).1; omega
  rw [List.getElem?_take_of_lt this] at hx
  exact h3 i x hx
theorem LentB.own {X : World} {base : Nat} {v : Value} {B : List Int} (h : LentB X base v B) : OwnB X base v B := by
 obtain ⟨g, cap, rfl, h1, h2⟩ := h
 obtain ⟨-, h2⟩ := h2
 rcases h2 with ⟨hv, -⟩ | ⟨g', cap', cur, hv, hb, hg, -, hc, hs, ht⟩
 ·cases hv
 ·simp only [Value.slice.injEq, Option.some.injEq, Addr.mk.injEq, and_true] at hv
  obtain ⟨rfl, -, rfl⟩ := hv
  refine ⟨by simp [ibs], Or.inr ⟨g, cap, cur, rfl, hb, hg, by omega, hc, hs, ?_⟩⟩
  have e := congrArg (List.take B.length) ht
  rw [List.take_take] at e
  have e1 : min B.length ((B ++ [(91 : Int), 92, 93]).length * 1) = B.length * 1 := by simp
  rw [e1] at e
  rw [e]
  simp [ibs]
theorem OwnB.bh {w : World} {base : Nat} {v : Value} {l : List Int} (h : OwnB w base v l) (hy : byt l) (hl : l.length < 1000000000000000000) (hn : l ≠ []) : Bh w v l := by
 obtain ⟨a, cap, rfl, h0, h1, h2⟩ := h.bn hl
 rcases h2 with rfl | ⟨b, o, rfl, h3, h4⟩
 ·exact absurd rfl hn
 ·exact ⟨hy, b, o, cap, rfl, h0, h1, h3, h4⟩
theorem app8g {ops : Array Oper} {rest : List Oper} {o : Oper} {a : Act} {Q : Exit -> Act -> World -> Prop} {w : World} (hgd : Region.wanted o (yielded ops a.tmps) = true) (s x : Operand)
  (ho : o.op = .call { callee := .builtin .append, args := #[s, x], argTypes := #[37, 37] }) (base : Nat) (v : Value) (l : List Int) (hs : a.eval s = v) (hown : OwnB w base v l)
  (y : Value) (B : List Int) (hx : a.eval x = y) (hy : Br w y B) (hne : B ≠ []) (hlen : l.length + B.length <= 1000000000000) (hbase : base <= w.heap.size)
  (h : ∀ v' w', OwnB w' base v' (l ++ B) -> Below base w w' -> wpList Tryz.prog ops Q rest (a.put o.dst v') w') : wpList Tryz.prog ops Q (o :: rest) a w := by
 obtain ⟨i, z, hi, hz0, hz1, hz2, hz3⟩ := infoU8_parts
 obtain ⟨hb, ad, cap, rfl, h0, h1, hn, hc⟩ := hy
 rcases hc with hc | ⟨b, o', rfl, hbb, hc⟩
 ·exact absurd hc hne
 unfold wpList
 rw [if_pos hgd]
 refine Or.inl ?_
 refine wp_append_own w s x 37 ho base 5 i z 1 1 Tryz.underlying37 hi hz0 hz1 hz2 hz3 (by omega) v l.length (ibs l) hs hown ⟨b, o', none⟩ B.length cap (ibs B) hx (by simp [ibs]) ?_ (by simp [ibs, Value.oneCell']) (by unfold maxLen; omega) (by omega) hbase ?_
 ·intro j u hj
  simp only [ibs, List.getElem?_map, Option.map_eq_some_iff] at hj
  obtain ⟨x, hx, rfl⟩ := hj
  rw [Addr.add_mid]; exact hc j x hx
 ·intro v' w' h1 h2 _
  refine h v' w' ?_ (grown_below h2 (fun k hk => (World.ownsRow.lt hown k hk).1) hbase)
  unfold OwnB
  rw [List.length_append, show ibs (l ++ B) = ibs l ++ ibs B by simp [ibs]]
  exact h1
structure Ex4 (X : World) (G : Nat) : Prop where
 lt : G < X.heap.size
 at_ : ∀ k : Nat, k < 4 -> ∃ a n c L, X.cell? ⟨G, k, none⟩ = some (.slice a n c) /\ n = L.length /\ Ends k L /\ Br X (.slice a n c) L
theorem ex4_of {X : World} {G : Nat} {a0 a1 a2 a3 : Option Addr} {n0 n1 n2 n3 c0 c1 c2 c3 : Nat} {L0 L1 L2 L3 : List Int} {t : TypeId} (h : CBlk X G #[.slice a0 n0 c0, .slice a1 n1 c1, .slice a2 n2 c2, .slice a3 n3 c3] t)
  (h0 : n0 = L0.length /\ Ends 0 L0 /\ Br X (.slice a0 n0 c0) L0) (h1 : n1 = L1.length /\ Ends 1 L1 /\ Br X (.slice a1 n1 c1) L1) (h2 : n2 = L2.length /\ Ends 2 L2 /\ Br X (.slice a2 n2 c2) L2) (h3 : n3 = L3.length /\ Ends 3 L3 /\ Br X (.slice a3 n3 c3) L3) : Ex4 X G := by
 obtain ⟨d0, d1, d2, d3⟩ := four h
 refine ⟨h.lt, fun k hk => ?_⟩
 match k, hk with
 | 0, _ => exact ⟨_, _, _, _, d0, h0⟩
 | 1, _ => exact ⟨_, _, _, _, d1, h1⟩
 | 2, _ => exact ⟨_, _, _, _, d2, h2⟩
 | 3, _ => exact ⟨_, _, _, _, d3, h3⟩
end Go.Proofs.YtelcoihmiglceaaGreat

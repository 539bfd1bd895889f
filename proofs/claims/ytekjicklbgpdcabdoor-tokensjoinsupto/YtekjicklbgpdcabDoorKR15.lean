/-
  ref's Join.
-/
import Derived.Test.YtekjicklbgpdcabDoorKR14
import Derived.Test.YtekjicklbgpdcabDoorKR11
import Derived.Lib.ConvBytes
namespace Go.Proofs.YtekjicklbgpdcabDoor
open Go.RowKit

theorem below_conv (W : World) (s : ByteArray) : Below W.heap.size W (Lib.bytesWorld W 5 s) := ⟨rfl, rfl, rfl, by rw [Lib.bytesWorld_size]; omega, fun k hk => Lib.bytesWorld_at_old W _ s k hk⟩
theorem conv_str (W : World) (s : ByteArray) : (convert 9 50 (.string s)).run Tryd.prog W = .ok (.slice (some ⟨W.heap.size, 0, none⟩) s.size (grownCap W s.size 0 5)) (Lib.bytesWorld W 5 s) :=
  Lib.run_convert_string_bytes W 9 50 5 s Tryd.underlying9 Tryd.underlying50 Tryd.underlying5
theorem app_conv {ops : Array Oper} {rest : List Oper} {o : Oper} {a : Act} {Q : Exit → Act → World → Prop} {W : World} (hgd : o.guard = none) (sl x : Operand)
    (ho : o.op = .call { callee := .builtin .append, args := #[sl, x], argTypes := #[50, 50] }) (base : Nat) (v : Value) (l : List Int) (s : ByteArray) (hs : a.eval sl = v) (hown : OwnB W base v l)
    (hx : a.eval x = .slice (some ⟨W.heap.size, 0, none⟩) s.size (grownCap W s.size 0 5)) (hlen : l.length + s.size ≤ 100000000) (hbase : base ≤ W.heap.size) (hpos : 0 < s.size)
    (h : ∀ v' w', OwnB w' base v' (l ++ bl s) → Below base W w' → (l ++ bl s = [] → v' = .slice none 0 0) → wpList Tryd.prog ops Q rest (a.put o.dst v') w') : wpList Tryd.prog ops Q (o :: rest) a (Lib.bytesWorld W 5 s) := by
  obtain ⟨i, z, hi, hz0, hz1, hz2, hz3⟩ := infoU8_parts
  have hc := below_conv W s
  have hown2 := hown.later hc
  refine wpList_append_own _ hgd sl x 50 ho base 5 i z 1 1 Tryd.underlying50 hi hz0 hz1 hz2 hz3 (by omega) v l.length (ibs l) hs hown2 ⟨W.heap.size, 0, none⟩ s.size _ (ibs (bl s)) hx (by rw [ibs_len, bl_len, Nat.mul_one]) ?_ (fun u hu => by simp only [ibs, List.mem_map] at hu; obtain ⟨_, -, rfl⟩ := hu; rfl) (by unfold maxLen; omega) (by omega) (Nat.le_trans hbase hc.size) ?_
  · intro j u hj
    have hlt : j < s.size := by have := (List.getElem?_eq_some_iff.1 hj).1; rwa [ibs_len, bl_len] at this
    have e : (⟨W.heap.size, 0, none⟩ : Addr).add j = ⟨W.heap.size, j, none⟩ := by rw [Addr.add_mid, Nat.zero_add]
    rw [e, Lib.bytesWorld_cell W _ s j hlt, ← hj]
    simp [ibs, bl, List.getD, hlt]
  · intro v' w' h1 h2 h3
    refine h v' w' ?_ ((hc.mono hbase).trans (grown_below h2 (fun k hk => (World.ownsRow.lt hown2 k hk).1) (Nat.le_trans hbase hc.size))) (fun e => ?_)
    · unfold OwnB
      rw [List.length_append, bl_len, show ibs (l ++ bl s) = ibs l ++ ibs (bl s) by simp [ibs]]
      exact h1
    · rw [List.append_eq_nil_iff] at e
      have := congrArg List.length e.2
      rw [bl_len, List.length_nil] at this; omega
set_option maxRecDepth 20000 in
set_option maxHeartbeats 4000000 in
theorem qjoin_any (l : List Tk) (v : Value) (w : World) (hk : Ks w v l) (hQ : QOk w) (hok : ∀ t ∈ l, okt t) (hw : wts l ≤ 8000000) (hl : l.length < 1000000000) :
    Calls Tryd.prog 19 #[v] w fun e w' => e = .returned (.tuple #[.string (ofL ((jn l).getD [])), .bool (jn l).isSome]) ∧ Below w.heap.size w w' := by
  have HK : Hid (Ks w v l) := hk
  have HQ : Hid (QOk w) := hQ
  have HOK : Hid (∀ t ∈ l, okt t) := hok
  obtain ⟨R, hR⟩ : ∃ R, jn l = R := ⟨_, rfl⟩
  have HR0 : Hid (jnA (pv l 0) (l.drop 0) [] = R) := hR
  rw [hR]
  obtain ⟨va, vc, rfl, hmem⟩ := hk
  clear hmem hR hQ hok
  go_enter Tryd.func19, Tryd.ntmps19
  go_wp2
  go_loopg [4, 5, 6] l.length (fun g u ls i wr => ∃ (j : Nat) (acc : List Int) (L : ByteArray), j + g = l.length ∧ i = .int .i64 (j : Int) ∧ ls = .string L ∧ (∀ q, pv l j = some q → spl q = some L) ∧ L.size ≤ acc.length ∧ jnA (pv l j) (l.drop j) acc = R ∧ byt acc ∧ acc.length + wts (l.drop j) ≤ 8000000 ∧ OwnB wr w.heap.size u acc ∧ (acc = [] → u = .slice none 0 0) ∧ Below w.heap.size w wr)
  case atStart => exact ⟨0, [], ⟨#[]⟩, by omega, rfl, rfl, fun q h => by simp [pv] at h, Nat.zero_le _, HR0.out, (fun x hx => by simp at hx), by rw [List.drop_zero]; simpa using hw, OwnB.nil _ _, fun _ => rfl, Below.refl _ _⟩
  case round =>
    obtain ⟨j, acc, L, hg, rfl, rfl, hL, hLa, hr, hby, hbd, ho, hnil, hb⟩ := hrel
    have HB : Hid (Below w.heap.size w wr) := hb
    have HO : Hid (OwnB wr w.heap.size u4 acc) := ho
    have HN : Hid (acc = [] → u4 = .slice none 0 0) := hnil
    have HY : Hid (byt acc) := hby
    have HR : Hid (jnA (pv l j) (l.drop j) acc = R) := hr
    have HLL : Hid (∀ q, pv l j = some q → spl q = some L) := hL
    have hsz := hb.size
    clear hr hby ho hnil hb HR0 hL
    cases gk with
    | succ g =>
      have hlt : j < l.length := by omega
      have i0 : (0 : Int) ≤ (j : Int) := by omega
      have i1 : (j : Int) < (l.length : Int) := by omega
      obtain ⟨t, ht⟩ : ∃ t, l[j]? = some t := ⟨_, List.getElem?_eq_getElem hlt⟩
      have hd : l.drop j = t :: l.drop (j + 1) := by rw [List.drop_eq_getElem_cons hlt, (List.getElem?_eq_some_iff.1 ht).2]
      have hokt := HOK.out t (List.mem_of_getElem? ht)
      have hwt : wts (l.drop j) = wt t + wts (l.drop (j + 1)) := by rw [hd]; simp [wts]
      rw [hwt] at hbd
      obtain ⟨a', cap', hva, hmem⟩ := HK.out.later HB.out
      simp only [Value.slice.injEq, true_and] at hva
      obtain ⟨rfl, rfl⟩ := hva
      rcases hmem with hmem | ⟨b, o, rfl, hblt, hmem⟩
      · rw [hmem] at hlt; simp at hlt
      obtain ⟨c0, c1, c2, c3, c4⟩ := hmem j t ht
      have HMem : Hid (∀ (i : Nat) (t : Tk), l[i]? = some t → wr.cell? ⟨b, o + i * 5, none⟩ = some (.int .i64 t.k) ∧ wr.cell? ⟨b, o + i * 5 + 1, none⟩ = some (.string t.x) ∧ wr.cell? ⟨b, o + i * 5 + 2, none⟩ = some (.int .i64 t.n) ∧ wr.cell? ⟨b, o + i * 5 + 3, none⟩ = some (.int .i64 t.a) ∧ wr.cell? ⟨b, o + i * 5 + 4, none⟩ = some (.int .i64 t.e)) := hmem
      have cs := fun (X : World) (h : QOk X) => qspell_any t hokt X h
      have HQr : Hid (QOk wr) := HQ.out.later HB.out
      rw [hd] at HR
      obtain ⟨tk, tx, tn, ta, te⟩ := t
      have HT : Hid (l[j]? = some ⟨tk, tx, tn, ta, te⟩) := ht
      simp only at c0 c1 c2 c3 c4
      clear hd hwt hmem ht
      cases es : spl ⟨tk, tx, tn, ta, te⟩ with
      | none =>
        have hR := HR.out
        rw [jnA_no es] at hR
        subst hR
        rw [es] at cs
        clear es HR
        go_wp2_with (go_at_call 18; refine (cs _ HQr.out).mono ?_; rintro e w1 ⟨rfl, hb1⟩)
        go_ret2
        exact ⟨ret_2 rfl rfl, below_step HB.out hb1⟩
      | some s =>
        have hss := spl_size es hokt.2.1 hokt.2.2
        have hsp : 0 < s.size := size_pos (spl_ne es)
        have HRR : Hid (jnA (some ⟨tk, tx, tn, ta, te⟩) (l.drop (j + 1)) (acc ++ gp (pv l j) ⟨tk, tx, tn, ta, te⟩ ++ bl s) = R) := by show _ = R; rw [← HR.out, jnA_yes es]
        have HPV : Hid (pv l (j + 1) = some ⟨tk, tx, tn, ta, te⟩) := by show (if j + 1 = 0 then none else l[j + 1 - 1]?) = _; rw [if_neg (by omega)]; exact HT.out
        have HES : Hid (spl ⟨tk, tx, tn, ta, te⟩ = some s) := es
        have HOT : Hid (okt ⟨tk, tx, tn, ta, te⟩) := hokt
        rw [es] at cs
        simp only [Option.getD_some, Option.isSome_some] at cs
        clear es HR hokt
        go_upto_if 29 with (go_at_call 18; refine (cs _ HQr.out).mono ?_; rintro e W ⟨rfl, hb1⟩)
        have HBW : Hid (Below wr.heap.size wr W) := hb1
        have hWz := hb1.size
        clear c0 c1 c2 c3 c4 hb1 cs
        obtain ⟨G, hG⟩ : ∃ G, gp (pv l j) ⟨tk, tx, tn, ta, te⟩ = G := ⟨_, rfl⟩
        have HG : Hid (gp (pv l j) ⟨tk, tx, tn, ta, te⟩ = G) := hG
        rw [hG] at HRR
        clear hG
        go_cut [4, 9, 10, 11] from 12 to 80 (fun s4 _ _ _ wx => OwnB wx w.heap.size s4 (acc ++ G) ∧ (acc ++ G = [] → s4 = .slice none 0 0) ∧ byt (acc ++ G) ∧ G.length ≤ 1 ∧ Below w.heap.size w wx)
        case first =>
          rcases Nat.eq_zero_or_pos j with hj0 | hjp
          · have hG0 : G = [] := by rw [← HG.out, hj0]; rfl
            subst hG0
            have im : ¬ (0 : Int) < (j : Int) := by omega
            clear hj0
            go_wp2
            go_meet
            case rel => exact ⟨by rw [List.append_nil]; exact HO.out.later HBW.out, by rw [List.append_nil]; exact HN.out, by rw [List.append_nil]; exact HY.out, by simp, below_step HB.out HBW.out⟩
          · obtain ⟨q, hq⟩ : ∃ q, l[j - 1]? = some q := ⟨_, List.getElem?_eq_getElem (by omega)⟩
            have hpv : pv l j = some q := by show (if j = 0 then none else l[j - 1]?) = _; rw [if_neg (by omega)]; exact hq
            have hsq := HLL.out q hpv
            have hoq := HOK.out q (List.mem_of_getElem? hq)
            have hGq : (if grw q ⟨tk, tx, tn, ta, te⟩ = true then [32] else []) = G := by rw [← HG.out, hpv]; rfl
            have ip : (0 : Int) < (j : Int) := by omega
            have ways := two_ways hsq HES.out hoq HOT.out
            have hpc := HMem.out (j - 1) q hq
            have htc := HMem.out j _ HT.out
            have hLS : L.size + s.size ≤ 9000000 := by omega
            have hLS2 : (L ++ s).size ≤ 9000000 := by rw [ByteArray.size_append]; exact hLS
            have hmx : L.size + s.size ≤ 9223372036854775807 := by omega
            have cc := fun (X : World) (h : QOk X) => qcut_any (L ++ s) (L ++ s).size hLS2 X h
            have HQW : Hid (QOk W) := HQr.out.later HBW.out
            have HJW : Hid (IntKind.i64.wrap ((j : Int) - 1) = ((j - 1 : Nat) : Int)) := by show _ = _; rw [IntKind.wrap_i64]; omega
            have iq0 : (0 : Int) ≤ ((j - 1 : Nat) : Int) := by omega
            have iq1 : ((j - 1 : Nat) : Int) < (l.length : Int) := by omega
            obtain ⟨S2, hS2⟩ : ∃ S, L ++ s = S := ⟨_, rfl⟩
            rw [hS2] at cc ways
            obtain ⟨pk, px, pn, pa, pe⟩ := q
            simp only at hpc htc
            have HPcr : Hid (wr.cell? ⟨b, o + (j - 1) * 5, none⟩ = some (.int .i64 pk) ∧ wr.cell? ⟨b, o + (j - 1) * 5 + 1, none⟩ = some (.string px) ∧ wr.cell? ⟨b, o + (j - 1) * 5 + 2, none⟩ = some (.int .i64 pn) ∧ wr.cell? ⟨b, o + (j - 1) * 5 + 3, none⟩ = some (.int .i64 pa) ∧ wr.cell? ⟨b, o + (j - 1) * 5 + 4, none⟩ = some (.int .i64 pe)) := hpc
            have HPw : Hid (b < wr.heap.size) := hblt
            have HTcr : Hid (wr.cell? ⟨b, o + j * 5, none⟩ = some (.int .i64 tk) ∧ wr.cell? ⟨b, o + j * 5 + 1, none⟩ = some (.string tx) ∧ wr.cell? ⟨b, o + j * 5 + 2, none⟩ = some (.int .i64 tn) ∧ wr.cell? ⟨b, o + j * 5 + 3, none⟩ = some (.int .i64 ta) ∧ wr.cell? ⟨b, o + j * 5 + 4, none⟩ = some (.int .i64 te)) := htc
            go_upto_region 11 with fail
            clear hS2 hLS2 hmx hLS
            rcases ways with ⟨T, er, q, hR, hgr, hbad⟩ | ⟨u, v', q, hR, hgr, hne⟩ | ⟨u, v', q, hR, hgr, heq, heq2⟩
            · rw [hR] at cc
              rw [if_pos hgr] at hGq
              subst hGq
              clear hR hgr
              go_upto_region 12 with (go_at_call 16; refine (cc _ HQW.out).mono ?_; rintro y w2 ⟨v2, rfl, ho2, hb2⟩)
              have bx := below1 w2 (.cells #[.int .i64 er, .int .i64 q] 25)
              have fx := Blk.new w2 #[.int .i64 er, .int .i64 q] 25
              obtain ⟨xa, xc, rfl, -⟩ := ho2.ks
              revert bx fx
              generalize w2.alloc (.cells #[.int .i64 er, .int .i64 q] 25) = Y
              intro bx fx
              have HWY : Hid (Below wr.heap.size wr Y) := below_step (below_step HBW.out hb2) bx
              obtain ⟨b0, b1, -, -⟩ := two fx
              clear bx fx ho2 hb2 cc
              have arm : (∃ b : Bool, b = false ∧ ¬ er = 0) ∨ (er = 0 ∧ ¬ T.length = 2) := by
                rcases hbad with h | h
                · exact Or.inl ⟨false, rfl, h⟩
                · exact Or.inr h
              clear hbad
              rcases arm with ⟨-, -, he⟩ | ⟨rfl, hl2⟩
              · have n1 : (er == 0) = false := beq_eq_false_iff_ne.2 he
                have n2 : (er != 0) = true := by rw [bne, n1]; rfl
                clear he
                go_quiet (fail)
                have hbZ : Below w.heap.size w (Y.drewN nq) := below_step HB.out (below_drewN HWY.out nq)
                have hoZ := HO.out.later (below_drewN HWY.out nq)
                clear b0 b1
                revert hbZ hoZ
                generalize Y.drewN nq = Z
                intro hbZ hoZ
                have HBZ : Hid (Below w.heap.size w Z) := hbZ
                have HOZ : Hid (OwnB Z w.heap.size u4 acc) := hoZ
                have hZz := hbZ.size
                clear hbZ hoZ
                go_wp2_with (at_builtin; refine app_bytes rfl _ _ rfl w.heap.size u4 acc rfl (HOZ.out.later (below1 _ _)) Z.heap.size [32] rfl (heap_alloc_new Z _) (by simp) (by simp; omega) (by simp; omega) ?_; intro v5 w5 ho5 hb5)
                go_meet
                case rel => exact ⟨ho5, fun h => by simp at h, (fun x hx => by rcases List.mem_append.1 hx with hx | hx; exact HY.out x hx; simp at hx; omega), by simp, (HBZ.out.trans ((below1 _ _).mono hZz)).trans hb5⟩
              · obtain ⟨N2, hN2⟩ : ∃ N : Int, (T.length : Int) = N := ⟨_, rfl⟩
                have n3 : ((T.length : Int) == 2) = false := beq_eq_false_iff_ne.2 (by omega)
                have n4 : ((T.length : Int) != 2) = true := by rw [bne, n3]; rfl
                clear hl2 hN2
                go_quiet (fail)
                have hbZ : Below w.heap.size w (Y.drewN nq) := below_step HB.out (below_drewN HWY.out nq)
                have hoZ := HO.out.later (below_drewN HWY.out nq)
                clear b0 b1
                revert hbZ hoZ
                generalize Y.drewN nq = Z
                intro hbZ hoZ
                have HBZ : Hid (Below w.heap.size w Z) := hbZ
                have HOZ : Hid (OwnB Z w.heap.size u4 acc) := hoZ
                have hZz := hbZ.size
                clear hbZ hoZ
                go_wp2_with (at_builtin; refine app_bytes rfl _ _ rfl w.heap.size u4 acc rfl (HOZ.out.later (below1 _ _)) Z.heap.size [32] rfl (heap_alloc_new Z _) (by simp) (by simp; omega) (by simp; omega) ?_; intro v5 w5 ho5 hb5)
                go_meet
                case rel => exact ⟨ho5, fun h => by simp at h, (fun x hx => by rcases List.mem_append.1 hx with hx | hx; exact HY.out x hx; simp at hx; omega), by simp, (HBZ.out.trans ((below1 _ _).mono hZz)).trans hb5⟩
            all_goals
              rw [hR] at cc
              first | rw [if_pos hgr] at hGq | rw [if_neg (by rw [hgr]; simp)] at hGq
              subst hGq
              clear hR hgr
              go_upto_region 12 with (go_at_call 16; refine (cc _ HQW.out).mono ?_; rintro y w2 ⟨v2, rfl, ho2, hb2⟩)
              have bx := below1 w2 (.cells #[.int .i64 0, .int .i64 q] 25)
              have fx := Blk.new w2 #[.int .i64 0, .int .i64 q] 25
              have hks := (ho2.later bx).ks
              obtain ⟨F, hF⟩ : ∃ F, w2.heap.size = F := ⟨_, rfl⟩
              rw [hF] at fx ⊢
              revert bx hks fx
              generalize w2.alloc (.cells #[.int .i64 0, .int .i64 q] 25) = Y
              intro bx hks fx
              have HWY : Hid (Below wr.heap.size wr Y) := below_step (below_step HBW.out hb2) bx
              obtain ⟨xa, gcap, hva, hm⟩ := hks
              simp only [List.length_cons, List.length_nil, Nat.zero_add, Nat.reduceAdd] at hva
              subst hva
              rcases hm with hm | ⟨g, go, rfl, hgz, hm⟩
              · cases hm
              have hu0 := hm 0 u rfl
              have hu1 := hm 1 v' rfl
              simp only [Nat.zero_mul, Nat.add_zero, Nat.one_mul] at hu0 hu1
              obtain ⟨uk, ux, un, ua, ue⟩ := u
              obtain ⟨vk, vx, vn, va, ve⟩ := v'
              simp only at hu0 hu1
              have HUc : Hid (Y.cell? ⟨g, go, none⟩ = some (.int .i64 uk) ∧ Y.cell? ⟨g, go + 1, none⟩ = some (.string ux) ∧ Y.cell? ⟨g, go + 2, none⟩ = some (.int .i64 un) ∧ Y.cell? ⟨g, go + 3, none⟩ = some (.int .i64 ua) ∧ Y.cell? ⟨g, go + 4, none⟩ = some (.int .i64 ue)) := hu0
              have HUz : Hid (g < Y.heap.size) := hgz
              have HVc : Hid (Y.cell? ⟨g, go + 5, none⟩ = some (.int .i64 vk) ∧ Y.cell? ⟨g, go + 5 + 1, none⟩ = some (.string vx) ∧ Y.cell? ⟨g, go + 5 + 2, none⟩ = some (.int .i64 vn) ∧ Y.cell? ⟨g, go + 5 + 3, none⟩ = some (.int .i64 va) ∧ Y.cell? ⟨g, go + 5 + 4, none⟩ = some (.int .i64 ve)) := hu1
              have HVz : Hid (g < Y.heap.size) := hgz
              have hYw := HWY.out
              have HPc : Hid (Y.cell? ⟨b, o + (j - 1) * 5, none⟩ = some (.int .i64 pk) ∧ Y.cell? ⟨b, o + (j - 1) * 5 + 1, none⟩ = some (.string px) ∧ Y.cell? ⟨b, o + (j - 1) * 5 + 2, none⟩ = some (.int .i64 pn) ∧ Y.cell? ⟨b, o + (j - 1) * 5 + 3, none⟩ = some (.int .i64 pa) ∧ Y.cell? ⟨b, o + (j - 1) * 5 + 4, none⟩ = some (.int .i64 pe)) := ⟨cell_step hYw HPw.out HPcr.out.1, cell_step hYw HPw.out HPcr.out.2.1, cell_step hYw HPw.out HPcr.out.2.2.1, cell_step hYw HPw.out HPcr.out.2.2.2.1, cell_step hYw HPw.out HPcr.out.2.2.2.2⟩
              have HPz : Hid (b < Y.heap.size) := Nat.lt_of_lt_of_le HPw.out hYw.size
              have HTc : Hid (Y.cell? ⟨b, o + j * 5, none⟩ = some (.int .i64 tk) ∧ Y.cell? ⟨b, o + j * 5 + 1, none⟩ = some (.string tx) ∧ Y.cell? ⟨b, o + j * 5 + 2, none⟩ = some (.int .i64 tn) ∧ Y.cell? ⟨b, o + j * 5 + 3, none⟩ = some (.int .i64 ta) ∧ Y.cell? ⟨b, o + j * 5 + 4, none⟩ = some (.int .i64 te)) := ⟨cell_step hYw HPw.out HTcr.out.1, cell_step hYw HPw.out HTcr.out.2.1, cell_step hYw HPw.out HTcr.out.2.2.1, cell_step hYw HPw.out HTcr.out.2.2.2.1, cell_step hYw HPw.out HTcr.out.2.2.2.2⟩
              have HTz : Hid (b < Y.heap.size) := Nat.lt_of_lt_of_le HPw.out hYw.size
              have HFc : Hid (Y.cell? ⟨F, 0, none⟩ = some (.int .i64 0)) := (two fx).1
              have HFz : Hid (F < Y.heap.size) := fx.lt
              clear hu0 hu1 hgz hm fx bx hb2 ho2 hF cc hYw
            · have HNE : Hid (uk = pk → ux.toList = px.toList → ¬ un = pn) := fun h1 h2 h3 => hne (by subst h1; subst h3; rw [toList_inj h2]; rfl)
              clear hne
              refine wp_region_held_drew (S := fun w' => Below Y.heap.size Y w') (by kernel_rfl) (Below.refl _ _).drew (fun hH => ?_)
              revert hH
              generalize Y.drew = V
              intro hH
              refine wpAnyH_take (i := 0) (oi := ⟨_, _, _, _, _, _⟩) (v := .pointer (some ⟨F, 0, none⟩)) rfl (by kernel_rfl) (by kernel_rfl) (by kernel_rfl) (fun _ _ _ h => h) (Or.inl ⟨by rfl, fun w' _ => by go_simp⟩) hH ?_
              simp only [Act.put, List.setIfInBounds_toArray, List.set_cons_zero, List.set_cons_succ]
              refine wpAnyH_take (i := 1) (oi := ⟨_, _, _, _, _, _⟩) (v := .int .i64 0) rfl (by kernel_rfl) (by kernel_rfl) (by kernel_rfl) (fun _ _ _ h => h) (Or.inl ⟨by rfl, fun w' h => by have a0 := cell_step h HFz.out HFc.out; go_simp⟩) hH ?_
              simp only [Act.put, List.setIfInBounds_toArray, List.set_cons_zero, List.set_cons_succ]
              refine wpAnyH_take (i := 2) (oi := ⟨_, _, _, _, _, _⟩) (v := .bool false) rfl (by kernel_rfl) (by kernel_rfl) (by kernel_rfl) (fun _ _ _ h => h) (Or.inl ⟨by rfl, fun w' _ => by go_simp⟩) hH ?_
              simp only [Act.put, List.setIfInBounds_toArray, List.set_cons_zero, List.set_cons_succ]
              refine wpAnyH_take (i := 3) (oi := ⟨_, _, _, _, _, _⟩) (v := .bool false) rfl (by kernel_rfl) (by kernel_rfl) (by kernel_rfl) (fun _ _ _ h => h) (Or.inl ⟨by rfl, fun w' _ => by go_simp⟩) hH ?_
              simp only [Act.put, List.setIfInBounds_toArray, List.set_cons_zero, List.set_cons_succ]
              refine wpAnyH_take (i := 4) (oi := ⟨_, _, _, _, _, _⟩) (v := .slice (some ⟨g, go, none⟩) 2 gcap) rfl (by kernel_rfl) (by kernel_rfl) (by kernel_rfl) (fun _ _ _ h => h) (Or.inl ⟨by rfl, fun w' _ => by go_simp⟩) hH ?_
              simp only [Act.put, List.setIfInBounds_toArray, List.set_cons_zero, List.set_cons_succ]
              refine wpAnyH_take (i := 5) (oi := ⟨_, _, _, _, _, _⟩) (v := .int .i64 2) rfl (by kernel_rfl) (by kernel_rfl) (by kernel_rfl) (fun _ _ _ h => h) (Or.inl ⟨by rfl, fun w' _ => by go_simp⟩) hH ?_
              simp only [Act.put, List.setIfInBounds_toArray, List.set_cons_zero, List.set_cons_succ]
              refine wpAnyH_take (i := 6) (oi := ⟨_, _, _, _, _, _⟩) (v := .bool false) rfl (by kernel_rfl) (by kernel_rfl) (by kernel_rfl) (fun _ _ _ h => h) (Or.inl ⟨by rfl, fun w' _ => by go_simp⟩) hH ?_
              simp only [Act.put, List.setIfInBounds_toArray, List.set_cons_zero, List.set_cons_succ]
              refine wpAnyH_take (i := 7) (oi := ⟨_, _, _, _, _, _⟩) (v := .bool false) rfl (by kernel_rfl) (by kernel_rfl) (by kernel_rfl) (fun _ _ _ h => h) (Or.inl ⟨by rfl, fun w' _ => by go_simp⟩) hH ?_
              simp only [Act.put, List.setIfInBounds_toArray, List.set_cons_zero, List.set_cons_succ]
              refine wpAnyH_take (i := 8) (oi := ⟨_, _, _, _, _, _⟩) (v := .bool false) rfl (by kernel_rfl) (by kernel_rfl) (by kernel_rfl) (fun _ _ _ h => h) (Or.inl ⟨by rfl, fun w' _ => by go_simp⟩) hH ?_
              simp only [Act.put, List.setIfInBounds_toArray, List.set_cons_zero, List.set_cons_succ]
              refine wpAnyH_take (i := 9) (oi := ⟨_, _, _, _, _, _⟩) (v := .slice (some ⟨g, go, none⟩) 2 gcap) rfl (by kernel_rfl) (by kernel_rfl) (by kernel_rfl) (fun _ _ _ h => h) (Or.inl ⟨by rfl, fun w' _ => by go_simp⟩) hH ?_
              simp only [Act.put, List.setIfInBounds_toArray, List.set_cons_zero, List.set_cons_succ]
              refine wpAnyH_take (i := 10) (oi := ⟨_, _, _, _, _, _⟩) (v := .pointer (some ⟨g, go, none⟩)) rfl (by kernel_rfl) (by kernel_rfl) (by kernel_rfl) (fun _ _ _ h => h) (Or.inl ⟨by rfl, fun w' _ => by go_simp⟩) hH ?_
              simp only [Act.put, List.setIfInBounds_toArray, List.set_cons_zero, List.set_cons_succ]
              refine wpAnyH_take (i := 11) (oi := ⟨_, _, _, _, _, _⟩) (v := Tk.v ⟨uk, ux, un, ua, ue⟩) rfl (by kernel_rfl) (by kernel_rfl) (by kernel_rfl) (fun _ _ _ h => h) (Or.inl ⟨by rfl, fun w' h => by obtain ⟨p0, p1, p2, p3, p4⟩ := HUc.out; have z := HUz.out; have a0 := cell_step h z p0; have a1 := cell_step h z p1; have a2 := cell_step h z p2; have a3 := cell_step h z p3; have a4 := cell_step h z p4; clear p0 p1 p2 p3 p4; go_simp⟩) hH ?_
              simp only [Act.put, List.setIfInBounds_toArray, List.set_cons_zero, List.set_cons_succ]
              refine wpAnyH_take (i := 13) (oi := ⟨_, _, _, _, _, _⟩) (v := .slice (some ⟨b, o, none⟩) l.length vc) rfl (by kernel_rfl) (by kernel_rfl) (by kernel_rfl) (fun _ _ _ h => h) (Or.inl ⟨by rfl, fun w' _ => by go_simp⟩) hH ?_
              simp only [Act.put, List.setIfInBounds_toArray, List.set_cons_zero, List.set_cons_succ]
              refine wpAnyH_take (i := 14) (oi := ⟨_, _, _, _, _, _⟩) (v := .int .i64 (j : Int)) rfl (by kernel_rfl) (by kernel_rfl) (by kernel_rfl) (fun _ _ _ h => h) (Or.inl ⟨by rfl, fun w' _ => by go_simp⟩) hH ?_
              simp only [Act.put, List.setIfInBounds_toArray, List.set_cons_zero, List.set_cons_succ]
              refine wpAnyH_take (i := 15) (oi := ⟨_, _, _, _, _, _⟩) (v := .int .i64 ((j - 1 : Nat) : Int)) rfl (by kernel_rfl) (by kernel_rfl) (by kernel_rfl) (fun _ _ _ h => h) (Or.inl ⟨by rfl, fun w' _ => by go_simp; exact HJW.out⟩) hH ?_
              simp only [Act.put, List.setIfInBounds_toArray, List.set_cons_zero, List.set_cons_succ]
              refine wpAnyH_take (i := 16) (oi := ⟨_, _, _, _, _, _⟩) (v := .pointer (some ⟨b, o + (j - 1) * 5, none⟩)) rfl (by kernel_rfl) (by kernel_rfl) (by kernel_rfl) (fun _ _ _ h => h) (Or.inl ⟨by rfl, fun w' _ => by go_simp⟩) hH ?_
              simp only [Act.put, List.setIfInBounds_toArray, List.set_cons_zero, List.set_cons_succ]
              refine wpAnyH_take (i := 17) (oi := ⟨_, _, _, _, _, _⟩) (v := Tk.v ⟨pk, px, pn, pa, pe⟩) rfl (by kernel_rfl) (by kernel_rfl) (by kernel_rfl) (fun _ _ _ h => h) (Or.inl ⟨by rfl, fun w' h => by obtain ⟨p0, p1, p2, p3, p4⟩ := HPc.out; have z := HPz.out; have a0 := cell_step h z p0; have a1 := cell_step h z p1; have a2 := cell_step h z p2; have a3 := cell_step h z p3; have a4 := cell_step h z p4; clear p0 p1 p2 p3 p4; go_simp⟩) hH ?_
              simp only [Act.put, List.setIfInBounds_toArray, List.set_cons_zero, List.set_cons_succ]
              refine wpAnyH_ready (rs := [12]) (by kernel_rfl) (by simp) ?_
              refine (AllReadyH.cons (o := ⟨_, _, _, _, _, _⟩) rfl (fun K hK => ?_) AllReadyH.nil)
              go_simp
              refine (qbare_any ⟨uk, ux, un, ua, ue⟩ _).mono ?_
              rintro x1 V1 ⟨rfl, hb⟩
              refine hK.out _ _ (below_step hH hb) (fun hH => ?_)
              clear hK K
              refine wpAnyH_ready (rs := [18]) (by kernel_rfl) (by simp) ?_
              refine (AllReadyH.cons (o := ⟨_, _, _, _, _, _⟩) rfl (fun K hK => ?_) AllReadyH.nil)
              go_simp
              refine (qbare_any ⟨pk, px, pn, pa, pe⟩ _).mono ?_
              rintro x1 V2 ⟨rfl, hb⟩
              refine hK.out _ _ (below_step hH hb) (fun hH => ?_)
              clear hK K
              refine wpAnyH_take (i := 19) (oi := ⟨_, _, _, _, _, _⟩) (v := .bool true) rfl (by kernel_rfl) (by kernel_rfl) (by kernel_rfl) (fun _ _ _ h => h) (Or.inl ⟨by rfl, fun w' _ => by go_simp; exact HNE.out⟩) hH ?_
              simp only [Act.put, List.setIfInBounds_toArray, List.set_cons_zero, List.set_cons_succ]
              refine wpAnyH_take (i := 20) (oi := ⟨_, _, _, _, _, _⟩) (v := .bool true) rfl (by kernel_rfl) (by kernel_rfl) (by kernel_rfl) (fun _ _ _ h => h) (Or.inl ⟨by rfl, fun w' _ => by go_simp⟩) hH ?_
              simp only [Act.put, List.setIfInBounds_toArray, List.set_cons_zero, List.set_cons_succ]
              refine wpAnyH_take (i := 21) (oi := ⟨_, _, _, _, _, _⟩) (v := .bool true) rfl (by kernel_rfl) (by kernel_rfl) (by kernel_rfl) (fun _ _ _ h => h) (Or.inl ⟨by rfl, fun w' _ => by go_simp⟩) hH ?_
              simp only [Act.put, List.setIfInBounds_toArray, List.set_cons_zero, List.set_cons_succ]
              refine wpAnyH_take (i := 22) (oi := ⟨_, _, _, _, _, _⟩) (v := undef) rfl (by kernel_rfl) (by kernel_rfl) (by kernel_rfl) (fun _ _ _ h => h) (Or.inr ⟨by rfl, rfl⟩) hH ?_
              simp only [Act.put, List.setIfInBounds_toArray, List.set_cons_zero, List.set_cons_succ]
              refine wpAnyH_take (i := 23) (oi := ⟨_, _, _, _, _, _⟩) (v := undef) rfl (by kernel_rfl) (by kernel_rfl) (by kernel_rfl) (fun _ _ _ h => h) (Or.inr ⟨by rfl, rfl⟩) hH ?_
              simp only [Act.put, List.setIfInBounds_toArray, List.set_cons_zero, List.set_cons_succ]
              refine wpAnyH_take (i := 24) (oi := ⟨_, _, _, _, _, _⟩) (v := undef) rfl (by kernel_rfl) (by kernel_rfl) (by kernel_rfl) (fun _ _ _ h => h) (Or.inr ⟨by rfl, rfl⟩) hH ?_
              simp only [Act.put, List.setIfInBounds_toArray, List.set_cons_zero, List.set_cons_succ]
              refine wpAnyH_take (i := 25) (oi := ⟨_, _, _, _, _, _⟩) (v := undef) rfl (by kernel_rfl) (by kernel_rfl) (by kernel_rfl) (fun _ _ _ h => h) (Or.inr ⟨by rfl, rfl⟩) hH ?_
              simp only [Act.put, List.setIfInBounds_toArray, List.set_cons_zero, List.set_cons_succ]
              refine wpAnyH_take (i := 26) (oi := ⟨_, _, _, _, _, _⟩) (v := undef) rfl (by kernel_rfl) (by kernel_rfl) (by kernel_rfl) (fun _ _ _ h => h) (Or.inr ⟨by rfl, rfl⟩) hH ?_
              simp only [Act.put, List.setIfInBounds_toArray, List.set_cons_zero, List.set_cons_succ]
              refine wpAnyH_take (i := 27) (oi := ⟨_, _, _, _, _, _⟩) (v := undef) rfl (by kernel_rfl) (by kernel_rfl) (by kernel_rfl) (fun _ _ _ h => h) (Or.inr ⟨by rfl, rfl⟩) hH ?_
              simp only [Act.put, List.setIfInBounds_toArray, List.set_cons_zero, List.set_cons_succ]
              refine wpAnyH_take (i := 28) (oi := ⟨_, _, _, _, _, _⟩) (v := undef) rfl (by kernel_rfl) (by kernel_rfl) (by kernel_rfl) (fun _ _ _ h => h) (Or.inr ⟨by rfl, rfl⟩) hH ?_
              simp only [Act.put, List.setIfInBounds_toArray, List.set_cons_zero, List.set_cons_succ]
              refine wpAnyH_take (i := 29) (oi := ⟨_, _, _, _, _, _⟩) (v := undef) rfl (by kernel_rfl) (by kernel_rfl) (by kernel_rfl) (fun _ _ _ h => h) (Or.inr ⟨by rfl, rfl⟩) hH ?_
              simp only [Act.put, List.setIfInBounds_toArray, List.set_cons_zero, List.set_cons_succ]
              refine wpAnyH_take (i := 30) (oi := ⟨_, _, _, _, _, _⟩) (v := undef) rfl (by kernel_rfl) (by kernel_rfl) (by kernel_rfl) (fun _ _ _ h => h) (Or.inr ⟨by rfl, rfl⟩) hH ?_
              simp only [Act.put, List.setIfInBounds_toArray, List.set_cons_zero, List.set_cons_succ]
              refine wpAnyH_take (i := 31) (oi := ⟨_, _, _, _, _, _⟩) (v := undef) rfl (by kernel_rfl) (by kernel_rfl) (by kernel_rfl) (fun _ _ _ h => h) (Or.inr ⟨by rfl, rfl⟩) hH ?_
              simp only [Act.put, List.setIfInBounds_toArray, List.set_cons_zero, List.set_cons_succ]
              refine wpAnyH_take (i := 32) (oi := ⟨_, _, _, _, _, _⟩) (v := .bool true) rfl (by kernel_rfl) (by kernel_rfl) (by kernel_rfl) (fun _ _ _ h => h) (Or.inl ⟨by rfl, fun w' _ => by go_simp⟩) hH ?_
              simp only [Act.put, List.setIfInBounds_toArray, List.set_cons_zero, List.set_cons_succ]
              refine wpAnyH_done (by kernel_rfl) ?_ _
              have hbZ : Below w.heap.size w V2 := below_step HB.out (below_step HWY.out hH)
              have hoZ := HO.out.later (below_step HWY.out hH)
              have HBZ : Hid (Below w.heap.size w V2) := hbZ
              have HOZ : Hid (OwnB V2 w.heap.size u4 acc) := hoZ
              have hZz := hbZ.size
              clear hbZ hoZ hH hb
              go_wp2_with (at_builtin; refine app_bytes rfl _ _ rfl w.heap.size u4 acc rfl (HOZ.out.later (below1 _ _)) V2.heap.size [32] rfl (heap_alloc_new V2 _) (by simp) (by simp; omega) (by simp; omega) ?_; intro v5 w5 ho5 hb5)
              go_meet
              case rel => exact ⟨ho5, fun h => by simp at h, (fun x hx => by rcases List.mem_append.1 hx with hx | hx; exact HY.out x hx; simp at hx; omega), by simp, (HBZ.out.trans ((below1 _ _).mono hZz)).trans hb5⟩
            · simp only [Tk.bar, Tk.mk.injEq, and_true] at heq heq2
              obtain ⟨rfl, rfl, rfl⟩ := heq
              obtain ⟨rfl, rfl, rfl⟩ := heq2
              refine wp_region_held_drew (S := fun w' => Below Y.heap.size Y w') (by kernel_rfl) (Below.refl _ _).drew (fun hH => ?_)
              revert hH
              generalize Y.drew = V
              intro hH
              refine wpAnyH_take (i := 0) (oi := ⟨_, _, _, _, _, _⟩) (v := .pointer (some ⟨F, 0, none⟩)) rfl (by kernel_rfl) (by kernel_rfl) (by kernel_rfl) (fun _ _ _ h => h) (Or.inl ⟨by rfl, fun w' _ => by go_simp⟩) hH ?_
              simp only [Act.put, List.setIfInBounds_toArray, List.set_cons_zero, List.set_cons_succ]
              refine wpAnyH_take (i := 1) (oi := ⟨_, _, _, _, _, _⟩) (v := .int .i64 0) rfl (by kernel_rfl) (by kernel_rfl) (by kernel_rfl) (fun _ _ _ h => h) (Or.inl ⟨by rfl, fun w' h => by have a0 := cell_step h HFz.out HFc.out; go_simp⟩) hH ?_
              simp only [Act.put, List.setIfInBounds_toArray, List.set_cons_zero, List.set_cons_succ]
              refine wpAnyH_take (i := 2) (oi := ⟨_, _, _, _, _, _⟩) (v := .bool false) rfl (by kernel_rfl) (by kernel_rfl) (by kernel_rfl) (fun _ _ _ h => h) (Or.inl ⟨by rfl, fun w' _ => by go_simp⟩) hH ?_
              simp only [Act.put, List.setIfInBounds_toArray, List.set_cons_zero, List.set_cons_succ]
              refine wpAnyH_take (i := 3) (oi := ⟨_, _, _, _, _, _⟩) (v := .bool false) rfl (by kernel_rfl) (by kernel_rfl) (by kernel_rfl) (fun _ _ _ h => h) (Or.inl ⟨by rfl, fun w' _ => by go_simp⟩) hH ?_
              simp only [Act.put, List.setIfInBounds_toArray, List.set_cons_zero, List.set_cons_succ]
              refine wpAnyH_take (i := 4) (oi := ⟨_, _, _, _, _, _⟩) (v := .slice (some ⟨g, go, none⟩) 2 gcap) rfl (by kernel_rfl) (by kernel_rfl) (by kernel_rfl) (fun _ _ _ h => h) (Or.inl ⟨by rfl, fun w' _ => by go_simp⟩) hH ?_
              simp only [Act.put, List.setIfInBounds_toArray, List.set_cons_zero, List.set_cons_succ]
              refine wpAnyH_take (i := 5) (oi := ⟨_, _, _, _, _, _⟩) (v := .int .i64 2) rfl (by kernel_rfl) (by kernel_rfl) (by kernel_rfl) (fun _ _ _ h => h) (Or.inl ⟨by rfl, fun w' _ => by go_simp⟩) hH ?_
              simp only [Act.put, List.setIfInBounds_toArray, List.set_cons_zero, List.set_cons_succ]
              refine wpAnyH_take (i := 6) (oi := ⟨_, _, _, _, _, _⟩) (v := .bool false) rfl (by kernel_rfl) (by kernel_rfl) (by kernel_rfl) (fun _ _ _ h => h) (Or.inl ⟨by rfl, fun w' _ => by go_simp⟩) hH ?_
              simp only [Act.put, List.setIfInBounds_toArray, List.set_cons_zero, List.set_cons_succ]
              refine wpAnyH_take (i := 7) (oi := ⟨_, _, _, _, _, _⟩) (v := .bool false) rfl (by kernel_rfl) (by kernel_rfl) (by kernel_rfl) (fun _ _ _ h => h) (Or.inl ⟨by rfl, fun w' _ => by go_simp⟩) hH ?_
              simp only [Act.put, List.setIfInBounds_toArray, List.set_cons_zero, List.set_cons_succ]
              refine wpAnyH_take (i := 8) (oi := ⟨_, _, _, _, _, _⟩) (v := .bool false) rfl (by kernel_rfl) (by kernel_rfl) (by kernel_rfl) (fun _ _ _ h => h) (Or.inl ⟨by rfl, fun w' _ => by go_simp⟩) hH ?_
              simp only [Act.put, List.setIfInBounds_toArray, List.set_cons_zero, List.set_cons_succ]
              refine wpAnyH_take (i := 9) (oi := ⟨_, _, _, _, _, _⟩) (v := .slice (some ⟨g, go, none⟩) 2 gcap) rfl (by kernel_rfl) (by kernel_rfl) (by kernel_rfl) (fun _ _ _ h => h) (Or.inl ⟨by rfl, fun w' _ => by go_simp⟩) hH ?_
              simp only [Act.put, List.setIfInBounds_toArray, List.set_cons_zero, List.set_cons_succ]
              refine wpAnyH_take (i := 10) (oi := ⟨_, _, _, _, _, _⟩) (v := .pointer (some ⟨g, go, none⟩)) rfl (by kernel_rfl) (by kernel_rfl) (by kernel_rfl) (fun _ _ _ h => h) (Or.inl ⟨by rfl, fun w' _ => by go_simp⟩) hH ?_
              simp only [Act.put, List.setIfInBounds_toArray, List.set_cons_zero, List.set_cons_succ]
              refine wpAnyH_take (i := 11) (oi := ⟨_, _, _, _, _, _⟩) (v := Tk.v ⟨uk, ux, un, ua, ue⟩) rfl (by kernel_rfl) (by kernel_rfl) (by kernel_rfl) (fun _ _ _ h => h) (Or.inl ⟨by rfl, fun w' h => by obtain ⟨p0, p1, p2, p3, p4⟩ := HUc.out; have z := HUz.out; have a0 := cell_step h z p0; have a1 := cell_step h z p1; have a2 := cell_step h z p2; have a3 := cell_step h z p3; have a4 := cell_step h z p4; clear p0 p1 p2 p3 p4; go_simp⟩) hH ?_
              simp only [Act.put, List.setIfInBounds_toArray, List.set_cons_zero, List.set_cons_succ]
              refine wpAnyH_take (i := 13) (oi := ⟨_, _, _, _, _, _⟩) (v := .slice (some ⟨b, o, none⟩) l.length vc) rfl (by kernel_rfl) (by kernel_rfl) (by kernel_rfl) (fun _ _ _ h => h) (Or.inl ⟨by rfl, fun w' _ => by go_simp⟩) hH ?_
              simp only [Act.put, List.setIfInBounds_toArray, List.set_cons_zero, List.set_cons_succ]
              refine wpAnyH_take (i := 14) (oi := ⟨_, _, _, _, _, _⟩) (v := .int .i64 (j : Int)) rfl (by kernel_rfl) (by kernel_rfl) (by kernel_rfl) (fun _ _ _ h => h) (Or.inl ⟨by rfl, fun w' _ => by go_simp⟩) hH ?_
              simp only [Act.put, List.setIfInBounds_toArray, List.set_cons_zero, List.set_cons_succ]
              refine wpAnyH_take (i := 15) (oi := ⟨_, _, _, _, _, _⟩) (v := .int .i64 ((j - 1 : Nat) : Int)) rfl (by kernel_rfl) (by kernel_rfl) (by kernel_rfl) (fun _ _ _ h => h) (Or.inl ⟨by rfl, fun w' _ => by go_simp; exact HJW.out⟩) hH ?_
              simp only [Act.put, List.setIfInBounds_toArray, List.set_cons_zero, List.set_cons_succ]
              refine wpAnyH_take (i := 16) (oi := ⟨_, _, _, _, _, _⟩) (v := .pointer (some ⟨b, o + (j - 1) * 5, none⟩)) rfl (by kernel_rfl) (by kernel_rfl) (by kernel_rfl) (fun _ _ _ h => h) (Or.inl ⟨by rfl, fun w' _ => by go_simp⟩) hH ?_
              simp only [Act.put, List.setIfInBounds_toArray, List.set_cons_zero, List.set_cons_succ]
              refine wpAnyH_take (i := 17) (oi := ⟨_, _, _, _, _, _⟩) (v := Tk.v ⟨uk, ux, un, pa, pe⟩) rfl (by kernel_rfl) (by kernel_rfl) (by kernel_rfl) (fun _ _ _ h => h) (Or.inl ⟨by rfl, fun w' h => by obtain ⟨p0, p1, p2, p3, p4⟩ := HPc.out; have z := HPz.out; have a0 := cell_step h z p0; have a1 := cell_step h z p1; have a2 := cell_step h z p2; have a3 := cell_step h z p3; have a4 := cell_step h z p4; clear p0 p1 p2 p3 p4; go_simp⟩) hH ?_
              simp only [Act.put, List.setIfInBounds_toArray, List.set_cons_zero, List.set_cons_succ]
              refine wpAnyH_ready (rs := [12]) (by kernel_rfl) (by simp) ?_
              refine (AllReadyH.cons (o := ⟨_, _, _, _, _, _⟩) rfl (fun K hK => ?_) AllReadyH.nil)
              go_simp
              refine (qbare_any ⟨uk, ux, un, ua, ue⟩ _).mono ?_
              rintro x1 V1 ⟨rfl, hb⟩
              refine hK.out _ _ (below_step hH hb) (fun hH => ?_)
              clear hK K
              refine wpAnyH_ready (rs := [18]) (by kernel_rfl) (by simp) ?_
              refine (AllReadyH.cons (o := ⟨_, _, _, _, _, _⟩) rfl (fun K hK => ?_) AllReadyH.nil)
              go_simp
              refine (qbare_any ⟨uk, ux, un, pa, pe⟩ _).mono ?_
              rintro x1 V2 ⟨rfl, hb⟩
              refine hK.out _ _ (below_step hH hb) (fun hH => ?_)
              clear hK K
              refine wpAnyH_take (i := 19) (oi := ⟨_, _, _, _, _, _⟩) (v := .bool false) rfl (by kernel_rfl) (by kernel_rfl) (by kernel_rfl) (fun _ _ _ h => h) (Or.inl ⟨by rfl, fun w' _ => by go_simp⟩) hH ?_
              simp only [Act.put, List.setIfInBounds_toArray, List.set_cons_zero, List.set_cons_succ]
              refine wpAnyH_take (i := 20) (oi := ⟨_, _, _, _, _, _⟩) (v := .bool false) rfl (by kernel_rfl) (by kernel_rfl) (by kernel_rfl) (fun _ _ _ h => h) (Or.inl ⟨by rfl, fun w' _ => by go_simp⟩) hH ?_
              simp only [Act.put, List.setIfInBounds_toArray, List.set_cons_zero, List.set_cons_succ]
              refine wpAnyH_take (i := 21) (oi := ⟨_, _, _, _, _, _⟩) (v := .bool false) rfl (by kernel_rfl) (by kernel_rfl) (by kernel_rfl) (fun _ _ _ h => h) (Or.inl ⟨by rfl, fun w' _ => by go_simp⟩) hH ?_
              simp only [Act.put, List.setIfInBounds_toArray, List.set_cons_zero, List.set_cons_succ]
              refine wpAnyH_take (i := 22) (oi := ⟨_, _, _, _, _, _⟩) (v := .slice (some ⟨g, go, none⟩) 2 gcap) rfl (by kernel_rfl) (by kernel_rfl) (by kernel_rfl) (fun _ _ _ h => h) (Or.inl ⟨by rfl, fun w' _ => by go_simp⟩) hH ?_
              simp only [Act.put, List.setIfInBounds_toArray, List.set_cons_zero, List.set_cons_succ]
              refine wpAnyH_take (i := 23) (oi := ⟨_, _, _, _, _, _⟩) (v := .pointer (some ⟨g, go + 5, none⟩)) rfl (by kernel_rfl) (by kernel_rfl) (by kernel_rfl) (fun _ _ _ h => h) (Or.inl ⟨by rfl, fun w' _ => by go_simp⟩) hH ?_
              simp only [Act.put, List.setIfInBounds_toArray, List.set_cons_zero, List.set_cons_succ]
              refine wpAnyH_take (i := 24) (oi := ⟨_, _, _, _, _, _⟩) (v := Tk.v ⟨vk, vx, vn, va, ve⟩) rfl (by kernel_rfl) (by kernel_rfl) (by kernel_rfl) (fun _ _ _ h => h) (Or.inl ⟨by rfl, fun w' h => by obtain ⟨p0, p1, p2, p3, p4⟩ := HVc.out; have z := HVz.out; have a0 := cell_step h z p0; have a1 := cell_step h z p1; have a2 := cell_step h z p2; have a3 := cell_step h z p3; have a4 := cell_step h z p4; clear p0 p1 p2 p3 p4; go_simp⟩) hH ?_
              simp only [Act.put, List.setIfInBounds_toArray, List.set_cons_zero, List.set_cons_succ]
              refine wpAnyH_take (i := 26) (oi := ⟨_, _, _, _, _, _⟩) (v := .slice (some ⟨b, o, none⟩) l.length vc) rfl (by kernel_rfl) (by kernel_rfl) (by kernel_rfl) (fun _ _ _ h => h) (Or.inl ⟨by rfl, fun w' _ => by go_simp⟩) hH ?_
              simp only [Act.put, List.setIfInBounds_toArray, List.set_cons_zero, List.set_cons_succ]
              refine wpAnyH_take (i := 27) (oi := ⟨_, _, _, _, _, _⟩) (v := .int .i64 (j : Int)) rfl (by kernel_rfl) (by kernel_rfl) (by kernel_rfl) (fun _ _ _ h => h) (Or.inl ⟨by rfl, fun w' _ => by go_simp⟩) hH ?_
              simp only [Act.put, List.setIfInBounds_toArray, List.set_cons_zero, List.set_cons_succ]
              refine wpAnyH_take (i := 28) (oi := ⟨_, _, _, _, _, _⟩) (v := .pointer (some ⟨b, o + j * 5, none⟩)) rfl (by kernel_rfl) (by kernel_rfl) (by kernel_rfl) (fun _ _ _ h => h) (Or.inl ⟨by rfl, fun w' _ => by go_simp⟩) hH ?_
              simp only [Act.put, List.setIfInBounds_toArray, List.set_cons_zero, List.set_cons_succ]
              refine wpAnyH_take (i := 29) (oi := ⟨_, _, _, _, _, _⟩) (v := Tk.v ⟨vk, vx, vn, ta, te⟩) rfl (by kernel_rfl) (by kernel_rfl) (by kernel_rfl) (fun _ _ _ h => h) (Or.inl ⟨by rfl, fun w' h => by obtain ⟨p0, p1, p2, p3, p4⟩ := HTc.out; have z := HTz.out; have a0 := cell_step h z p0; have a1 := cell_step h z p1; have a2 := cell_step h z p2; have a3 := cell_step h z p3; have a4 := cell_step h z p4; clear p0 p1 p2 p3 p4; go_simp⟩) hH ?_
              simp only [Act.put, List.setIfInBounds_toArray, List.set_cons_zero, List.set_cons_succ]
              refine wpAnyH_ready (rs := [25]) (by kernel_rfl) (by simp) ?_
              refine (AllReadyH.cons (o := ⟨_, _, _, _, _, _⟩) rfl (fun K hK => ?_) AllReadyH.nil)
              go_simp
              refine (qbare_any ⟨vk, vx, vn, va, ve⟩ _).mono ?_
              rintro x1 V3 ⟨rfl, hb⟩
              refine hK.out _ _ (below_step hH hb) (fun hH => ?_)
              clear hK K
              refine wpAnyH_ready (rs := [30]) (by kernel_rfl) (by simp) ?_
              refine (AllReadyH.cons (o := ⟨_, _, _, _, _, _⟩) rfl (fun K hK => ?_) AllReadyH.nil)
              go_simp
              refine (qbare_any ⟨vk, vx, vn, ta, te⟩ _).mono ?_
              rintro x1 V4 ⟨rfl, hb⟩
              refine hK.out _ _ (below_step hH hb) (fun hH => ?_)
              clear hK K
              refine wpAnyH_take (i := 31) (oi := ⟨_, _, _, _, _, _⟩) (v := .bool false) rfl (by kernel_rfl) (by kernel_rfl) (by kernel_rfl) (fun _ _ _ h => h) (Or.inl ⟨by rfl, fun w' _ => by go_simp⟩) hH ?_
              simp only [Act.put, List.setIfInBounds_toArray, List.set_cons_zero, List.set_cons_succ]
              refine wpAnyH_take (i := 32) (oi := ⟨_, _, _, _, _, _⟩) (v := .bool false) rfl (by kernel_rfl) (by kernel_rfl) (by kernel_rfl) (fun _ _ _ h => h) (Or.inl ⟨by rfl, fun w' _ => by go_simp⟩) hH ?_
              simp only [Act.put, List.setIfInBounds_toArray, List.set_cons_zero, List.set_cons_succ]
              refine wpAnyH_done (by kernel_rfl) ?_ _
              have hbZ : Below w.heap.size w V4 := below_step HB.out (below_step HWY.out hH)
              have hoZ := HO.out.later (below_step HWY.out hH)
              have HBZ : Hid (Below w.heap.size w V4) := hbZ
              have HOZ : Hid (OwnB V4 w.heap.size u4 acc) := hoZ
              clear hbZ hoZ hH hb
              go_wp2
              go_meet
              case rel => exact ⟨by rw [List.append_nil]; exact HOZ.out, by rw [List.append_nil]; exact HN.out, by rw [List.append_nil]; exact HY.out, by simp, HBZ.out⟩
        case rest =>
          obtain ⟨ho5, hn5, hy5, hg5, hb5⟩ := hcut
          have HO5 : Hid (OwnB wc w.heap.size u4 (acc ++ G)) := ho5
          have HB5 : Hid (Below w.heap.size w wc) := hb5
          have HY5 : Hid (byt (acc ++ G)) := hy5
          have hz5 := hb5.size
          have hl5 : (acc ++ G).length ≤ acc.length + 1 := by rw [List.length_append]; omega
          have hcv := conv_str wc s
          clear ho5 hn5 hy5 hb5
          go_wp2_with (at_builtin; refine app_conv rfl _ _ rfl w.heap.size u4 (acc ++ G) s rfl HO5.out rfl (by omega) hz5 hsp ?_; intro v6 w6 ho6 hb6 hn6)
          go_roundg g
          case measure => omega
          case rel => exact ⟨j + 1, acc ++ G ++ bl s, s, by omega, by go_num, rfl, fun q hq => by rw [HPV.out] at hq; cases hq; exact HES.out, by rw [List.length_append, bl_len]; omega, by rw [HPV.out]; exact HRR.out, (fun x hx => by rcases List.mem_append.1 hx with hx | hx; exact HY5.out x hx; exact bl_byt s x hx), by have h1 := bl_len s; rw [List.length_append]; omega, ho6, hn6, HB5.out.trans hb6⟩
    | zero =>
      obtain rfl : j = l.length := by omega
      have hz : ¬ ((l.length : Int) < (l.length : Int)) := by omega
      have hR := HR.out
      rw [List.drop_length] at hR
      have hR2 : some acc = R := hR
      subst hR2
      have hcv := conv_all HO.out HN.out HY.out
      clear HR hR
      go_wp2
      go_ret2
      exact ⟨ret_2 rfl rfl, HB.out⟩
end Go.Proofs.YtekjicklbgpdcabDoor

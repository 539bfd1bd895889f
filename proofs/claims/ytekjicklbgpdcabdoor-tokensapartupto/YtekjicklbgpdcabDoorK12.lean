/-
  Join.
-/
import Derived.Test.YtekjicklbgpdcabDoorK11
import Derived.Test.YtekjicklbgpdcabDoorK9
import Derived.Lib.AppendStr
namespace Go.Proofs.YtekjicklbgpdcabDoor
open Go.RowKit

/-- Tokens that lie in memory. -/
def Ks (w : World) (v : Value) (l : List Tk) : Prop :=
  ∃ a cap, v = .slice a l.length cap ∧ (l = [] ∨ ∃ b o, a = some ⟨b, o, none⟩ ∧ b < w.heap.size ∧ ∀ (i : Nat) (t : Tk), l[i]? = some t → w.cell? ⟨b, o + i * 5, none⟩ = some (.int .i64 t.k) ∧ w.cell? ⟨b, o + i * 5 + 1, none⟩ = some (.string t.x) ∧ w.cell? ⟨b, o + i * 5 + 2, none⟩ = some (.int .i64 t.n) ∧ w.cell? ⟨b, o + i * 5 + 3, none⟩ = some (.int .i64 t.a) ∧ w.cell? ⟨b, o + i * 5 + 4, none⟩ = some (.int .i64 t.e))
theorem Ks.later {w w' : World} {v : Value} {l : List Tk} (h : Ks w v l) (hb : Below w.heap.size w w') : Ks w' v l := by
  obtain ⟨a, cap, rfl, h⟩ := h
  refine ⟨a, cap, rfl, h.imp id ?_⟩
  rintro ⟨b, o, rfl, hlt, hc⟩
  refine ⟨b, o, rfl, Nat.lt_of_lt_of_le hlt hb.size, fun i t ht => ?_⟩
  obtain ⟨h0, h1, h2, h3, h4⟩ := hc i t ht
  exact ⟨cell_step hb hlt h0, cell_step hb hlt h1, cell_step hb hlt h2, cell_step hb hlt h3, cell_step hb hlt h4⟩
theorem kcs_get (l : List Tk) (i : Nat) (t : Tk) (h : l[i]? = some t) : (kcs l)[i * 5]? = some (.int .i64 t.k) ∧ (kcs l)[i * 5 + 1]? = some (.string t.x) ∧ (kcs l)[i * 5 + 2]? = some (.int .i64 t.n) ∧ (kcs l)[i * 5 + 3]? = some (.int .i64 t.a) ∧ (kcs l)[i * 5 + 4]? = some (.int .i64 t.e) := by
  have hi := (List.getElem?_eq_some_iff.1 h).1
  have e : l = l.take i ++ t :: l.drop (i + 1) := by
    have := (List.getElem?_eq_some_iff.1 h).2
    rw [← this, ← List.drop_eq_getElem_cons hi, List.take_append_drop]
  have hl : (kcs (l.take i)).length = i * 5 := by rw [kcs_len, List.length_take]; omega
  have e2 : kcs l = kcs (l.take i) ++ ([.int .i64 t.k, .string t.x, .int .i64 t.n, .int .i64 t.a, .int .i64 t.e] ++ kcs (l.drop (i + 1))) := by
    conv => lhs; rw [e]
    rw [kcs_app]; rfl
  rw [e2]
  refine ⟨?_, ?_, ?_, ?_, ?_⟩
  all_goals
    rw [List.getElem?_append_right (by omega), hl]
    simp
theorem OwnK.ks {w : World} {base : Nat} {v : Value} {l : List Tk} (h : OwnK w base v l) : Ks w v l := by
  rcases h.2 with ⟨hv, hn⟩ | ⟨g, cap, cur, hv, -, hg, -, -, -, ht⟩
  · have : l = [] := List.eq_nil_of_length_eq_zero hn
    subst this
    exact ⟨none, 0, hv, Or.inl rfl⟩
  · refine ⟨some ⟨g, 0, none⟩, cap, hv, Or.inr ⟨g, 0, rfl, (Array.getElem?_eq_some_iff.1 hg).1, fun i t hi => ?_⟩⟩
    have hc : ∀ (j : Nat) (u : Value), (kcs l)[j]? = some u → w.cell? ⟨g, 0 + j, none⟩ = some u := fun j u hj => by
      have := World.ownsRow.cells h (g := g) (by rw [hv]; rfl) j u hj
      rw [Addr.add_mid] at this
      exact this
    obtain ⟨h0, h1, h2, h3, h4⟩ := kcs_get l i t hi
    exact ⟨hc _ _ h0, hc _ _ h1, hc _ _ h2, hc _ _ h3, hc _ _ h4⟩
theorem Tryd.zeroU8 : ∃ i, Tryd.prog.info? 5 = some i ∧ i.zero = some (.int .u8 0) ∧ i.size = 1 ∧ i.bytes = 1 := by
  obtain ⟨i, z, hi, hz0, hz1, hz2, hz3⟩ := infoU8_parts
  have h : (Tryd.prog.info? 5).bind (·.zero) = some (.int .u8 0) := by kernel_rfl
  rw [hi] at h
  exact ⟨i, hi, h, hz1, hz2⟩
theorem ibs_bl (s : ByteArray) : ibs (bl s) = Lib.strCells s := by simp [ibs, bl, Lib.strCells]
theorem app_str {ops : Array Oper} {rest : List Oper} {o : Oper} {a : Act} {Q : Exit → Act → World → Prop} {w : World} (hgd : o.guard = none) (sl x : Operand)
    (ho : o.op = .call { callee := .builtin .append, args := #[sl, x], argTypes := #[50, 9] }) (base : Nat) (v : Value) (l : List Int) (hs : a.eval sl = v) (hown : OwnB w base v l) (s : ByteArray) (hx : a.eval x = .string s)
    (hlen : l.length + s.size ≤ 100000000) (hbase : base ≤ w.heap.size) (hn : l = [] → v = .slice none 0 0)
    (h : ∀ v' w', OwnB w' base v' (l ++ bl s) → Below base w w' → (l ++ bl s = [] → v' = .slice none 0 0) → wpList Tryd.prog ops Q rest (a.put o.dst v') w') : wpList Tryd.prog ops Q (o :: rest) a w := by
  obtain ⟨i, hi, hz0, hz1, hz2⟩ := Tryd.zeroU8
  refine Lib.wpList_append_own_string _ hgd sl x 50 9 ho base 5 i Tryd.underlying50 Tryd.underlying9 hi hz0 hz1 hz2 v l.length (ibs l) hs hown s hx (by unfold maxLen; omega) (by omega) hbase ?_
  intro v' w' h1 h2 h3
  refine h v' w' ?_ (grown_below h2 (fun k hk => (World.ownsRow.lt hown k hk).1) hbase) (fun e => ?_)
  · unfold OwnB
    rw [List.length_append, bl_len, show ibs (l ++ bl s) = ibs l ++ ibs (bl s) by simp [ibs], ibs_bl]
    exact h1
  · rw [List.append_eq_nil_iff] at e
    exact h3.2 ⟨hn e.1, by rw [← bl_len, e.2]; rfl⟩
/-- What stands between two tokens. -/
def gp (p : Option Tk) (t : Tk) : List Int := match p with
  | some q => if grw q t = true then [32] else []
  | none => []
def jnA : Option Tk → List Tk → List Int → Option (List Int)
  | _, [], acc => some acc
  | p, t :: r, acc => match spl t with
    | none => none
    | some s => jnA (some t) r (acc ++ gp p t ++ bl s)
/-- The tokens' joined text. -/
def jn (l : List Tk) : Option (List Int) := jnA none l []
theorem jnA_no {p : Option Tk} {t : Tk} {r : List Tk} {acc : List Int} (h : spl t = none) : jnA p (t :: r) acc = none := by unfold jnA; rw [h]
theorem jnA_yes {p : Option Tk} {t : Tk} {r : List Tk} {acc : List Int} {s : ByteArray} (h : spl t = some s) : jnA p (t :: r) acc = jnA (some t) r (acc ++ gp p t ++ bl s) := by
  conv => lhs; unfold jnA
  rw [h]
def pv (l : List Tk) (i : Nat) : Option Tk := if i = 0 then none else l[i - 1]?
def wt (t : Tk) : Nat := 4 * t.x.size + 32
def wts (l : List Tk) : Nat := (l.map wt).sum
theorem sgo_size (k : Int) : (sgo k).size ≤ 4 := by
  unfold sgo
  split
  · have : ∀ n : Nat, ((signL[n]?).getD (⟨#[]⟩ : ByteArray)).size ≤ 4 := fun n => by
      rcases Nat.lt_or_ge n 17 with h | h
      · have : ∀ m : Fin 17, ((signL[m.1]?).getD (⟨#[]⟩ : ByteArray)).size ≤ 4 := by decide
        exact this ⟨n, h⟩
      · rw [List.getElem?_eq_none (by rw [signL_len]; exact h)]; exact Nat.zero_le _
    exact this _
  · exact Nat.zero_le _
theorem spl_size {t : Tk} {s : ByteArray} (h : spl t = some s) (h0 : -9223372036854775808 ≤ t.n) (h1 : t.n ≤ 9223372036854775807) : s.size + 1 ≤ wt t := by
  unfold wt
  unfold spl at h
  have hq := qtl_len t.x t.x.size
  have hi := Lib.itoa_length_le t.n h0 h1
  have hg := sgo_size t.k
  split at h
  · split at h
    · cases h; omega
    · cases h
  · split at h
    · split at h
      · cases h; omega
      · cases h
    · split at h
      · split at h
        · cases h
          have e : (qtB t.x).size = (qtl t.x t.x.size).length + 1 := by show (i2b (qtl t.x t.x.size ++ [34])).toArray.size = _; simp [i2b]
          omega
        · cases h
      · split at h
        · split at h
          · cases h
            have e : (itB t.n).size = (Lib.itoa t.n).length := by show (Lib.itoa t.n).toArray.size = _; simp
            omega
          · cases h
        · split at h
          · cases h; omega
          · cases h
/-- A token that can be handed in. -/
def okt (t : Tk) : Prop := t.x.size ≤ 2000000 ∧ -9223372036854775808 ≤ t.n ∧ t.n ≤ 9223372036854775807
set_option maxRecDepth 20000 in
set_option maxHeartbeats 2000000 in
theorem join_any (l : List Tk) (v : Value) (w : World) (hk : Ks w v l) (hE : EnvOk w) (hok : ∀ t ∈ l, okt t) (hw : wts l ≤ 90000000) (hl : l.length < 1000000000) :
    Calls Tryd.prog 10 #[v] w fun e w' => e = .returned (.tuple #[.string (ofL ((jn l).getD [])), .bool (jn l).isSome]) ∧ Below w.heap.size w w' := by
  have HK : Hid (Ks w v l) := hk
  have HE : Hid (EnvOk w) := hE
  have HOK : Hid (∀ t ∈ l, okt t) := hok
  obtain ⟨R, hR⟩ : ∃ R, jn l = R := ⟨_, rfl⟩
  have HR0 : Hid (jnA (pv l 0) (l.drop 0) [] = R) := hR
  rw [hR]
  obtain ⟨va, vc, rfl, hmem⟩ := hk
  clear hmem hR hE hok
  go_enter Tryd.func10, Tryd.ntmps10
  go_wp2
  go_loopg [4, 11] l.length (fun g u i wr => ∃ (j : Nat) (acc : List Int), j + g = l.length ∧ i = .int .i64 (j : Int) ∧ jnA (pv l j) (l.drop j) acc = R ∧ byt acc ∧ acc.length + wts (l.drop j) ≤ 90000000 ∧ OwnB wr w.heap.size u acc ∧ (acc = [] → u = .slice none 0 0) ∧ Below w.heap.size w wr)
  case atStart => exact ⟨0, [], by omega, rfl, HR0.out, (fun x hx => by simp at hx), by rw [List.drop_zero]; simpa using hw, OwnB.nil _ _, fun _ => rfl, Below.refl _ _⟩
  case round =>
    obtain ⟨j, acc, hg, rfl, hr, hby, hbd, ho, hnil, hb⟩ := hrel
    have HB : Hid (Below w.heap.size w wr) := hb
    have HO : Hid (OwnB wr w.heap.size u4 acc) := ho
    have HN : Hid (acc = [] → u4 = .slice none 0 0) := hnil
    have HY : Hid (byt acc) := hby
    have HR : Hid (jnA (pv l j) (l.drop j) acc = R) := hr
    have hsz := hb.size
    clear hr hby ho hnil hb HR0
    cases gk with
    | succ g =>
      have hlt : j < l.length := by omega
      have i0 : (0 : Int) ≤ (j : Int) := by omega
      have i1 : (j : Int) < (l.length : Int) := by omega
      obtain ⟨t, ht⟩ : ∃ t, l[j]? = some t := ⟨_, List.getElem?_eq_getElem hlt⟩
      have hd : l.drop j = t :: l.drop (j + 1) := by rw [List.drop_eq_getElem_cons hlt, (List.getElem?_eq_some_iff.1 ht).2]
      have hokt := HOK.out t (List.mem_of_getElem? ht)
      have hwt : wts (l.drop j) = wt t + wts (l.drop (j + 1)) := by rw [hd]; simp [wts]
      rw [hwt] at hbd
      obtain ⟨a', cap', hva, hmem⟩ := HK.out.later HB.out
      simp only [Value.slice.injEq, true_and] at hva
      obtain ⟨rfl, rfl⟩ := hva
      rcases hmem with hmem | ⟨b, o, rfl, hblt, hmem⟩
      · rw [hmem] at hlt; simp at hlt
      obtain ⟨c0, c1, c2, c3, c4⟩ := hmem j t ht
      have HMem : Hid (∀ (i : Nat) (t : Tk), l[i]? = some t → wr.cell? ⟨b, o + i * 5, none⟩ = some (.int .i64 t.k) ∧ wr.cell? ⟨b, o + i * 5 + 1, none⟩ = some (.string t.x) ∧ wr.cell? ⟨b, o + i * 5 + 2, none⟩ = some (.int .i64 t.n) ∧ wr.cell? ⟨b, o + i * 5 + 3, none⟩ = some (.int .i64 t.a) ∧ wr.cell? ⟨b, o + i * 5 + 4, none⟩ = some (.int .i64 t.e)) := hmem
      have cs := fun X h => spell_any t hokt.1 hokt.2.1 hokt.2.2 X h
      have cg := fun q => growTogether_any q t
      rw [hd] at HR
      obtain ⟨tk, tx, tn, ta, te⟩ := t
      have HT : Hid (l[j]? = some ⟨tk, tx, tn, ta, te⟩) := ht
      simp only at c0 c1 c2 c3 c4
      clear hd hwt hmem ht
      go_upto_region 5 with fail
      have hbx := below1 wr (.cells #[.int .i64 tk, .string tx, .int .i64 tn, .int .i64 ta, .int .i64 te] 37)
      have bx := Blk.new wr #[.int .i64 tk, .string tx, .int .i64 tn, .int .i64 ta, .int .i64 te] 37
      revert hbx bx
      generalize wr.alloc (.cells #[.int .i64 tk, .string tx, .int .i64 tn, .int .i64 ta, .int .i64 te] 37) = X
      intro hbx bx
      have HBX : Hid (Below wr.heap.size wr X) := hbx
      have BT0 : Hid (Blk X wr.heap.size #[.int .i64 tk, .string tx, .int .i64 tn, .int .i64 ta, .int .i64 te] 37) := bx
      clear c0 c1 c2 c3 c4
      obtain ⟨c0, c1, c2, c3, c4⟩ := five bx
      have HEX : Hid (EnvOk X) := HE.out.later (below_step HB.out hbx)
      clear hbx bx
      cases es : spl ⟨tk, tx, tn, ta, te⟩ with
      | none =>
        have hR := HR.out
        rw [jnA_no es] at hR
        subst hR
        rw [es] at cs
        clear es HR
        go_wp2_with (go_at_call 17; refine (cs _ HEX.out).mono ?_; rintro e w1 ⟨rfl, hb1⟩)
        go_ret2
        exact ⟨ret_2 rfl rfl, below_step (below_step HB.out HBX.out) hb1⟩
      | some s =>
        have hss := spl_size es hokt.2.1 hokt.2.2
        have HRR : Hid (jnA (some ⟨tk, tx, tn, ta, te⟩) (l.drop (j + 1)) (acc ++ gp (pv l j) ⟨tk, tx, tn, ta, te⟩ ++ bl s) = R) := by show _ = R; rw [← HR.out, jnA_yes es]
        have HPV : Hid (pv l (j + 1) = some ⟨tk, tx, tn, ta, te⟩) := by show (if j + 1 = 0 then none else l[j + 1 - 1]?) = _; rw [if_neg (by omega)]; exact HT.out
        rw [es] at cs
        clear es HR hokt
        go_upto_region 8 with (go_at_call 17; refine (cs _ HEX.out).mono ?_; rintro e W ⟨rfl, hb1⟩)
        have hbw := below_step HBX.out hb1
        have BT : Hid (Blk W wr.heap.size #[.int .i64 tk, .string tx, .int .i64 tn, .int .i64 ta, .int .i64 te] 37) := BT0.out.later hb1
        have HBW : Hid (Below wr.heap.size wr W) := hbw
        clear c0 c1 c2 c3 c4 hb1 hbw cs
        rcases Nat.eq_zero_or_pos j with hj0 | hjp
        · have HG : Hid (gp (pv l j) ⟨tk, tx, tn, ta, te⟩ = []) := by show gp (pv l j) _ = []; rw [hj0]; rfl
          have HYg : Hid (byt acc) := HY.out
          have iz : (j : Int) = 0 := by omega
          have im : ¬ (0 : Int) < (j : Int) := by omega
          refine wp_region_held_drew (S := fun w' => Below W.heap.size W w') (by kernel_rfl) (Below.refl _ _).drew (fun hH => ?_)
          revert hH
          generalize W.drew = V
          intro hH
          refine wpAnyH_take (i := 0) (oi := ⟨_, _, _, _, _, _⟩) (v := .int .i64 (j : Int)) rfl (by kernel_rfl) (by kernel_rfl) (by kernel_rfl) (fun _ _ _ h => h) (Or.inl ⟨by rfl, fun w' _ => by go_simp⟩) hH ?_
          simp only [Act.put, List.setIfInBounds_toArray, List.set_cons_zero, List.set_cons_succ]
          refine wpAnyH_take (i := 1) (oi := ⟨_, _, _, _, _, _⟩) (v := .bool false) rfl (by kernel_rfl) (by kernel_rfl) (by kernel_rfl) (fun _ _ _ h => h) (Or.inl ⟨by rfl, fun w' _ => by go_simp⟩) hH ?_
          simp only [Act.put, List.setIfInBounds_toArray, List.set_cons_zero, List.set_cons_succ]
          refine wpAnyH_take (i := 2) (oi := ⟨_, _, _, _, _, _⟩) (v := .bool false) rfl (by kernel_rfl) (by kernel_rfl) (by kernel_rfl) (fun _ _ _ h => h) (Or.inl ⟨by rfl, fun w' _ => by go_simp⟩) hH ?_
          simp only [Act.put, List.setIfInBounds_toArray, List.set_cons_zero, List.set_cons_succ]
          refine wpAnyH_take (i := 3) (oi := ⟨_, _, _, _, _, _⟩) (v := undef) rfl (by kernel_rfl) (by kernel_rfl) (by kernel_rfl) (fun _ _ _ h => h) (Or.inr ⟨by rfl, rfl⟩) hH ?_
          simp only [Act.put, List.setIfInBounds_toArray, List.set_cons_zero, List.set_cons_succ]
          refine wpAnyH_take (i := 4) (oi := ⟨_, _, _, _, _, _⟩) (v := undef) rfl (by kernel_rfl) (by kernel_rfl) (by kernel_rfl) (fun _ _ _ h => h) (Or.inr ⟨by rfl, rfl⟩) hH ?_
          simp only [Act.put, List.setIfInBounds_toArray, List.set_cons_zero, List.set_cons_succ]
          refine wpAnyH_take (i := 5) (oi := ⟨_, _, _, _, _, _⟩) (v := undef) rfl (by kernel_rfl) (by kernel_rfl) (by kernel_rfl) (fun _ _ _ h => h) (Or.inr ⟨by rfl, rfl⟩) hH ?_
          simp only [Act.put, List.setIfInBounds_toArray, List.set_cons_zero, List.set_cons_succ]
          refine wpAnyH_take (i := 6) (oi := ⟨_, _, _, _, _, _⟩) (v := undef) rfl (by kernel_rfl) (by kernel_rfl) (by kernel_rfl) (fun _ _ _ h => h) (Or.inr ⟨by rfl, rfl⟩) hH ?_
          simp only [Act.put, List.setIfInBounds_toArray, List.set_cons_zero, List.set_cons_succ]
          refine wpAnyH_take (i := 7) (oi := ⟨_, _, _, _, _, _⟩) (v := undef) rfl (by kernel_rfl) (by kernel_rfl) (by kernel_rfl) (fun _ _ _ h => h) (Or.inr ⟨by rfl, rfl⟩) hH ?_
          simp only [Act.put, List.setIfInBounds_toArray, List.set_cons_zero, List.set_cons_succ]
          refine wpAnyH_take (i := 8) (oi := ⟨_, _, _, _, _, _⟩) (v := undef) rfl (by kernel_rfl) (by kernel_rfl) (by kernel_rfl) (fun _ _ _ h => h) (Or.inr ⟨by rfl, rfl⟩) hH ?_
          simp only [Act.put, List.setIfInBounds_toArray, List.set_cons_zero, List.set_cons_succ]
          refine wpAnyH_take (i := 9) (oi := ⟨_, _, _, _, _, _⟩) (v := undef) rfl (by kernel_rfl) (by kernel_rfl) (by kernel_rfl) (fun _ _ _ h => h) (Or.inr ⟨by rfl, rfl⟩) hH ?_
          simp only [Act.put, List.setIfInBounds_toArray, List.set_cons_zero, List.set_cons_succ]
          refine wpAnyH_take (i := 10) (oi := ⟨_, _, _, _, _, _⟩) (v := .bool false) rfl (by kernel_rfl) (by kernel_rfl) (by kernel_rfl) (fun _ _ _ h => h) (Or.inl ⟨by rfl, fun w' _ => by go_simp⟩) hH ?_
          simp only [Act.put, List.setIfInBounds_toArray, List.set_cons_zero, List.set_cons_succ]
          refine wpAnyH_done (by kernel_rfl) ?_ _
          have HVb : Hid (Below w.heap.size w V) := (HB.out.trans (HBW.out.mono hsz)).trans (hH.mono (by have := HBW.out.size; omega))
          have HOV : Hid (OwnB V w.heap.size u4 acc) := (HO.out.later HBW.out).later hH
          have hVz := HVb.out.size
          clear hH cg
          go_wp2_with (at_builtin; refine app_str rfl _ _ rfl w.heap.size u4 (acc) rfl (HOV.out) s rfl (by omega) (by omega) (HN.out) ?_; intro v3 V3 ho3 hb3 hn3)
          go_roundg g
          case measure => omega
          case rel => exact ⟨j + 1, acc ++ bl s, by omega, by go_num, by rw [HPV.out]; have := HRR.out; rw [HG.out, List.append_nil] at this; exact this, (fun x hx => by rcases List.mem_append.1 hx with hx | hx; exact HYg.out x hx; exact bl_byt s x hx), by have h1 := bl_len s; simp only [List.length_append] at *; omega, ho3, hn3, (HVb.out).trans hb3⟩
        · obtain ⟨q, hq⟩ : ∃ q, l[j - 1]? = some q := ⟨_, List.getElem?_eq_getElem (by omega)⟩
          have hpv : pv l j = some q := by show (if j = 0 then none else l[j - 1]?) = _; rw [if_neg (by omega)]; exact hq
          have HQ0 := HMem.out (j - 1) q hq
          have cg1 := cg q
          have ep : (j : Int) - 1 = ((j - 1 : Nat) : Int) := by omega
          have ip : (0 : Int) < (j : Int) := by omega
          have iq0 : (0 : Int) ≤ ((j - 1 : Nat) : Int) := by omega
          have iq1 : ((j - 1 : Nat) : Int) < (l.length : Int) := by omega
          have HJW : Hid (IntKind.i64.wrap ((j - 1 : Nat) : Int) = ((j - 1 : Nat) : Int)) := by show _ = _; rw [IntKind.wrap_i64]; omega
          obtain ⟨qk, qx, qn, qa, qe⟩ := q
          simp only at HQ0
          have HQ : Hid (W.cell? ⟨b, o + (j - 1) * 5, none⟩ = some (.int .i64 qk) ∧ W.cell? ⟨b, o + (j - 1) * 5 + 1, none⟩ = some (.string qx) ∧ W.cell? ⟨b, o + (j - 1) * 5 + 2, none⟩ = some (.int .i64 qn) ∧ W.cell? ⟨b, o + (j - 1) * 5 + 3, none⟩ = some (.int .i64 qa) ∧ W.cell? ⟨b, o + (j - 1) * 5 + 4, none⟩ = some (.int .i64 qe)) := ⟨cell_step HBW.out hblt HQ0.1, cell_step HBW.out hblt HQ0.2.1, cell_step HBW.out hblt HQ0.2.2.1, cell_step HBW.out hblt HQ0.2.2.2.1, cell_step HBW.out hblt HQ0.2.2.2.2⟩
          have HQz : Hid (b < W.heap.size) := Nat.lt_of_lt_of_le hblt HBW.out.size
          have HGq : Hid (∀ z, grw ⟨qk, qx, qn, qa, qe⟩ ⟨tk, tx, tn, ta, te⟩ = z → gp (pv l j) ⟨tk, tx, tn, ta, te⟩ = if z = true then [32] else []) := fun z hz => by rw [hpv, ← hz]; rfl
          clear HQ0 hpv hq cg HMem
          cases eg : grw ⟨qk, qx, qn, qa, qe⟩ ⟨tk, tx, tn, ta, te⟩
          · have HG : Hid (gp (pv l j) ⟨tk, tx, tn, ta, te⟩ = []) := HGq.out false eg
            have HYg : Hid (byt acc) := HY.out
            rw [eg] at cg1
            clear eg HGq
            refine wp_region_held_drew (S := fun w' => Below W.heap.size W w') (by kernel_rfl) (Below.refl _ _).drew (fun hH => ?_)
            revert hH
            generalize W.drew = V
            intro hH
            refine wpAnyH_take (i := 0) (oi := ⟨_, _, _, _, _, _⟩) (v := .int .i64 (j : Int)) rfl (by kernel_rfl) (by kernel_rfl) (by kernel_rfl) (fun _ _ _ h => h) (Or.inl ⟨by rfl, fun w' _ => by go_simp⟩) hH ?_
            simp only [Act.put, List.setIfInBounds_toArray, List.set_cons_zero, List.set_cons_succ]
            refine wpAnyH_take (i := 1) (oi := ⟨_, _, _, _, _, _⟩) (v := .bool true) rfl (by kernel_rfl) (by kernel_rfl) (by kernel_rfl) (fun _ _ _ h => h) (Or.inl ⟨by rfl, fun w' _ => by go_simp⟩) hH ?_
            simp only [Act.put, List.setIfInBounds_toArray, List.set_cons_zero, List.set_cons_succ]
            refine wpAnyH_take (i := 2) (oi := ⟨_, _, _, _, _, _⟩) (v := .bool true) rfl (by kernel_rfl) (by kernel_rfl) (by kernel_rfl) (fun _ _ _ h => h) (Or.inl ⟨by rfl, fun w' _ => by go_simp⟩) hH ?_
            simp only [Act.put, List.setIfInBounds_toArray, List.set_cons_zero, List.set_cons_succ]
            refine wpAnyH_take (i := 3) (oi := ⟨_, _, _, _, _, _⟩) (v := .slice (some ⟨b, o, none⟩) l.length vc) rfl (by kernel_rfl) (by kernel_rfl) (by kernel_rfl) (fun _ _ _ h => h) (Or.inl ⟨by rfl, fun w' _ => by go_simp⟩) hH ?_
            simp only [Act.put, List.setIfInBounds_toArray, List.set_cons_zero, List.set_cons_succ]
            refine wpAnyH_take (i := 4) (oi := ⟨_, _, _, _, _, _⟩) (v := .int .i64 (j : Int)) rfl (by kernel_rfl) (by kernel_rfl) (by kernel_rfl) (fun _ _ _ h => h) (Or.inl ⟨by rfl, fun w' _ => by go_simp⟩) hH ?_
            simp only [Act.put, List.setIfInBounds_toArray, List.set_cons_zero, List.set_cons_succ]
            refine wpAnyH_take (i := 5) (oi := ⟨_, _, _, _, _, _⟩) (v := .int .i64 ((j - 1 : Nat) : Int)) rfl (by kernel_rfl) (by kernel_rfl) (by kernel_rfl) (fun _ _ _ h => h) (Or.inl ⟨by rfl, fun w' _ => by go_simp; exact HJW.out⟩) hH ?_
            simp only [Act.put, List.setIfInBounds_toArray, List.set_cons_zero, List.set_cons_succ]
            refine wpAnyH_take (i := 6) (oi := ⟨_, _, _, _, _, _⟩) (v := .pointer (some ⟨b, o + (j - 1) * 5, none⟩)) rfl (by kernel_rfl) (by kernel_rfl) (by kernel_rfl) (fun _ _ _ h => h) (Or.inl ⟨by rfl, fun w' _ => by go_simp⟩) hH ?_
            simp only [Act.put, List.setIfInBounds_toArray, List.set_cons_zero, List.set_cons_succ]
            refine wpAnyH_take (i := 7) (oi := ⟨_, _, _, _, _, _⟩) (v := Tk.v ⟨qk, qx, qn, qa, qe⟩) rfl (by kernel_rfl) (by kernel_rfl) (by kernel_rfl) (fun _ _ _ h => h) (Or.inl ⟨by rfl, fun w' h => by obtain ⟨p0, p1, p2, p3, p4⟩ := HQ.out; have z := HQz.out; have a0 := cell_step h z p0; have a1 := cell_step h z p1; have a2 := cell_step h z p2; have a3 := cell_step h z p3; have a4 := cell_step h z p4; clear p0 p1 p2 p3 p4; go_simp⟩) hH ?_
            simp only [Act.put, List.setIfInBounds_toArray, List.set_cons_zero, List.set_cons_succ]
            refine wpAnyH_take (i := 8) (oi := ⟨_, _, _, _, _, _⟩) (v := Tk.v ⟨tk, tx, tn, ta, te⟩) rfl (by kernel_rfl) (by kernel_rfl) (by kernel_rfl) (fun _ _ _ h => h) (Or.inl ⟨by rfl, fun w' h => by obtain ⟨p0, p1, p2, p3, p4⟩ := five (Hid.out BT); have z := Blk.lt (Hid.out BT); have a0 := cell_step h z p0; have a1 := cell_step h z p1; have a2 := cell_step h z p2; have a3 := cell_step h z p3; have a4 := cell_step h z p4; clear p0 p1 p2 p3 p4; go_simp⟩) hH ?_
            simp only [Act.put, List.setIfInBounds_toArray, List.set_cons_zero, List.set_cons_succ]
            refine wpAnyH_ready (rs := [9]) (by kernel_rfl) (by simp) ?_
            refine (AllReadyH.cons (o := ⟨_, _, _, _, _, _⟩) rfl (fun K hK => ?_) AllReadyH.nil)
            go_simp
            refine (cg1 _).mono ?_
            rintro e V1 ⟨rfl, hb⟩
            refine hK.out _ _ (below_step hH hb) (fun hH => ?_)
            clear hK K
            refine wpAnyH_take (i := 10) (oi := ⟨_, _, _, _, _, _⟩) (v := .bool false) rfl (by kernel_rfl) (by kernel_rfl) (by kernel_rfl) (fun _ _ _ h => h) (Or.inl ⟨by rfl, fun w' _ => by go_simp⟩) hH ?_
            simp only [Act.put, List.setIfInBounds_toArray, List.set_cons_zero, List.set_cons_succ]
            refine wpAnyH_done (by kernel_rfl) ?_ _
            have HVb : Hid (Below w.heap.size w V1) := (HB.out.trans (HBW.out.mono hsz)).trans (hH.mono (by have := HBW.out.size; omega))
            have HOV : Hid (OwnB V1 w.heap.size u4 acc) := (HO.out.later HBW.out).later hH
            have hVz := HVb.out.size
            clear hH hb cg1
            go_wp2_with (at_builtin; refine app_str rfl _ _ rfl w.heap.size u4 (acc) rfl (HOV.out) s rfl (by omega) (by omega) (HN.out) ?_; intro v3 V3 ho3 hb3 hn3)
            go_roundg g
            case measure => omega
            case rel => exact ⟨j + 1, acc ++ bl s, by omega, by go_num, by rw [HPV.out]; have := HRR.out; rw [HG.out, List.append_nil] at this; exact this, (fun x hx => by rcases List.mem_append.1 hx with hx | hx; exact HYg.out x hx; exact bl_byt s x hx), by have h1 := bl_len s; simp only [List.length_append] at *; omega, ho3, hn3, (HVb.out).trans hb3⟩
          · have HG : Hid (gp (pv l j) ⟨tk, tx, tn, ta, te⟩ = [32]) := HGq.out true eg
            have HYg : Hid (byt (acc ++ [32])) := fun x hx => by rcases List.mem_append.1 hx with hx | hx; exact HY.out x hx; simp at hx; omega
            rw [eg] at cg1
            clear eg HGq
            refine wp_region_held_drew (S := fun w' => Below W.heap.size W w') (by kernel_rfl) (Below.refl _ _).drew (fun hH => ?_)
            revert hH
            generalize W.drew = V
            intro hH
            refine wpAnyH_take (i := 0) (oi := ⟨_, _, _, _, _, _⟩) (v := .int .i64 (j : Int)) rfl (by kernel_rfl) (by kernel_rfl) (by kernel_rfl) (fun _ _ _ h => h) (Or.inl ⟨by rfl, fun w' _ => by go_simp⟩) hH ?_
            simp only [Act.put, List.setIfInBounds_toArray, List.set_cons_zero, List.set_cons_succ]
            refine wpAnyH_take (i := 1) (oi := ⟨_, _, _, _, _, _⟩) (v := .bool true) rfl (by kernel_rfl) (by kernel_rfl) (by kernel_rfl) (fun _ _ _ h => h) (Or.inl ⟨by rfl, fun w' _ => by go_simp⟩) hH ?_
            simp only [Act.put, List.setIfInBounds_toArray, List.set_cons_zero, List.set_cons_succ]
            refine wpAnyH_take (i := 2) (oi := ⟨_, _, _, _, _, _⟩) (v := .bool true) rfl (by kernel_rfl) (by kernel_rfl) (by kernel_rfl) (fun _ _ _ h => h) (Or.inl ⟨by rfl, fun w' _ => by go_simp⟩) hH ?_
            simp only [Act.put, List.setIfInBounds_toArray, List.set_cons_zero, List.set_cons_succ]
            refine wpAnyH_take (i := 3) (oi := ⟨_, _, _, _, _, _⟩) (v := .slice (some ⟨b, o, none⟩) l.length vc) rfl (by kernel_rfl) (by kernel_rfl) (by kernel_rfl) (fun _ _ _ h => h) (Or.inl ⟨by rfl, fun w' _ => by go_simp⟩) hH ?_
            simp only [Act.put, List.setIfInBounds_toArray, List.set_cons_zero, List.set_cons_succ]
            refine wpAnyH_take (i := 4) (oi := ⟨_, _, _, _, _, _⟩) (v := .int .i64 (j : Int)) rfl (by kernel_rfl) (by kernel_rfl) (by kernel_rfl) (fun _ _ _ h => h) (Or.inl ⟨by rfl, fun w' _ => by go_simp⟩) hH ?_
            simp only [Act.put, List.setIfInBounds_toArray, List.set_cons_zero, List.set_cons_succ]
            refine wpAnyH_take (i := 5) (oi := ⟨_, _, _, _, _, _⟩) (v := .int .i64 ((j - 1 : Nat) : Int)) rfl (by kernel_rfl) (by kernel_rfl) (by kernel_rfl) (fun _ _ _ h => h) (Or.inl ⟨by rfl, fun w' _ => by go_simp; exact HJW.out⟩) hH ?_
            simp only [Act.put, List.setIfInBounds_toArray, List.set_cons_zero, List.set_cons_succ]
            refine wpAnyH_take (i := 6) (oi := ⟨_, _, _, _, _, _⟩) (v := .pointer (some ⟨b, o + (j - 1) * 5, none⟩)) rfl (by kernel_rfl) (by kernel_rfl) (by kernel_rfl) (fun _ _ _ h => h) (Or.inl ⟨by rfl, fun w' _ => by go_simp⟩) hH ?_
            simp only [Act.put, List.setIfInBounds_toArray, List.set_cons_zero, List.set_cons_succ]
            refine wpAnyH_take (i := 7) (oi := ⟨_, _, _, _, _, _⟩) (v := Tk.v ⟨qk, qx, qn, qa, qe⟩) rfl (by kernel_rfl) (by kernel_rfl) (by kernel_rfl) (fun _ _ _ h => h) (Or.inl ⟨by rfl, fun w' h => by obtain ⟨p0, p1, p2, p3, p4⟩ := HQ.out; have z := HQz.out; have a0 := cell_step h z p0; have a1 := cell_step h z p1; have a2 := cell_step h z p2; have a3 := cell_step h z p3; have a4 := cell_step h z p4; clear p0 p1 p2 p3 p4; go_simp⟩) hH ?_
            simp only [Act.put, List.setIfInBounds_toArray, List.set_cons_zero, List.set_cons_succ]
            refine wpAnyH_take (i := 8) (oi := ⟨_, _, _, _, _, _⟩) (v := Tk.v ⟨tk, tx, tn, ta, te⟩) rfl (by kernel_rfl) (by kernel_rfl) (by kernel_rfl) (fun _ _ _ h => h) (Or.inl ⟨by rfl, fun w' h => by obtain ⟨p0, p1, p2, p3, p4⟩ := five (Hid.out BT); have z := Blk.lt (Hid.out BT); have a0 := cell_step h z p0; have a1 := cell_step h z p1; have a2 := cell_step h z p2; have a3 := cell_step h z p3; have a4 := cell_step h z p4; clear p0 p1 p2 p3 p4; go_simp⟩) hH ?_
            simp only [Act.put, List.setIfInBounds_toArray, List.set_cons_zero, List.set_cons_succ]
            refine wpAnyH_ready (rs := [9]) (by kernel_rfl) (by simp) ?_
            refine (AllReadyH.cons (o := ⟨_, _, _, _, _, _⟩) rfl (fun K hK => ?_) AllReadyH.nil)
            go_simp
            refine (cg1 _).mono ?_
            rintro e V1 ⟨rfl, hb⟩
            refine hK.out _ _ (below_step hH hb) (fun hH => ?_)
            clear hK K
            refine wpAnyH_take (i := 10) (oi := ⟨_, _, _, _, _, _⟩) (v := .bool true) rfl (by kernel_rfl) (by kernel_rfl) (by kernel_rfl) (fun _ _ _ h => h) (Or.inl ⟨by rfl, fun w' _ => by go_simp⟩) hH ?_
            simp only [Act.put, List.setIfInBounds_toArray, List.set_cons_zero, List.set_cons_succ]
            refine wpAnyH_done (by kernel_rfl) ?_ _
            have HVb : Hid (Below w.heap.size w V1) := (HB.out.trans (HBW.out.mono hsz)).trans (hH.mono (by have := HBW.out.size; omega))
            have HOV : Hid (OwnB V1 w.heap.size u4 acc) := (HO.out.later HBW.out).later hH
            have hVz := HVb.out.size
            clear hH hb cg1
            go_wp2_with (first | (at_builtin; refine app_bytes rfl _ _ rfl w.heap.size u4 acc rfl (HOV.out.later (below1 _ _)) V1.heap.size [32] rfl (heap_alloc_new V1 _) (by simp) (by simp; omega) (by simp; omega) ?_; intro v2 V2 ho2 hb2; have HO2 : Hid (OwnB V2 w.heap.size v2 (acc ++ [32])) := ho2; have HB2 : Hid (Below w.heap.size w V2) := HVb.out.trans (((below1 _ _).mono hVz).trans hb2); have hV2 := HB2.out.size; clear ho2 hb2) | (at_builtin; refine app_str rfl _ _ rfl w.heap.size v2 (acc ++ [32]) rfl (HO2.out) s rfl (by simp only [List.length_append, List.length_cons, List.length_nil]; omega) (by omega) (fun h => by simp at h) ?_; intro v3 V3 ho3 hb3 hn3))
            go_roundg g
            case measure => omega
            case rel => exact ⟨j + 1, (acc ++ [32]) ++ bl s, by omega, by go_num, by rw [HPV.out]; have := HRR.out; rw [HG.out] at this; exact this, (fun x hx => by rcases List.mem_append.1 hx with hx | hx; exact HYg.out x hx; exact bl_byt s x hx), by have h1 := bl_len s; simp only [List.length_append, List.length_cons, List.length_nil] at *; omega, ho3, hn3, (HB2.out).trans hb3⟩
    | zero =>
      obtain rfl : j = l.length := by omega
      have hz : ¬ ((l.length : Int) < (l.length : Int)) := by omega
      have hR := HR.out
      rw [List.drop_length] at hR
      have hR2 : some acc = R := hR
      subst hR2
      have hcv := conv_all HO.out HN.out HY.out
      clear HR hR
      go_wp2
      go_ret2
      exact ⟨ret_2 rfl rfl, HB.out⟩
end Go.Proofs.YtekjicklbgpdcabDoor

/-
  hearsaylaw04.TokensBlanks: the walk.
-/
import Derived.Test.YtekjicklbgpdcaaDoorK41
namespace Go.Proofs.YtekjicklbgpdcaaDoor
open Go.RowKit

theorem bkt_len (K : Nat → Int) : ∀ (l : List Tk) (i : Nat), (∀ t ∈ l, okt t) → (bkt K i l).length ≤ wts l + 12 * l.length
  | [], _, _ => by simp [bkt, wts]
  | t :: r, i, h => by
    have ih := bkt_len K r (i + 1) (fun u hu => h u (by simp [hu]))
    rw [bkt_cons]
    simp only [wts, List.map_cons, List.sum_cons, List.length_cons] at ih ⊢
    cases e : spl t with
    | none => simp only; omega
    | some s =>
      have h1 := spl_size e (h t (by simp)).2.1 (h t (by simp)).2.2
      have h2 := (fil_size (K i)).2
      simp only [List.length_append, bl_len]; omega
theorem wnt_len (K : Nat → Int) : ∀ (l : List Tk) (i off : Nat), (wnt K i off l).length ≤ l.length
  | [], _, _ => by simp [wnt]
  | t :: r, i, off => by
    rw [wnt_cons]
    cases spl t with
    | none => have := wnt_len K r (i + 1) off; simp only [List.length_cons]; omega
    | some s => have := wnt_len K r (i + 1) (off + (fil (K i)).size + s.size); simp only [List.length_cons]; omega
def endB : ByteArray := ⟨#[32, 37, 32, 116, 104, 101, 32, 101, 110, 100]⟩
theorem bl_endB : bl endB = endL := rfl
theorem cut_blanks (K : Nat → Int) (l : List Tk) (ho : ∀ t ∈ l, okt t) : cutL (bl (ofL (bkt K 0 l ++ endL))) (ofL (bkt K 0 l ++ endL)).size = (wnt K 0 0 l, 0, 0) := by
  have hb : byt (bkt K 0 l ++ endL) := fun x hx => by
    rcases List.mem_append.1 hx with hx | hx
    · exact bkt_byt K l 0 x hx
    · exact endL_byt x hx
  rw [cutL_all, bl_ofL hb, ct_bkt K l 0 _ 0 [] ho (by rw [ofL_size]; omega), List.nil_append]
set_option maxRecDepth 20000 in
set_option maxHeartbeats 4000000 in
theorem blanks_any (l : List Tk) (h : List Int) (v u : Value) (w : World) (hv : Ks w v l) (hu : Js w u h) (hE : EnvOk w) (hok : ∀ t ∈ l, okt t) (hw : wts l ≤ 6291456) (hl : l.length ≤ 174762) (hh : h.length ≤ 2000000) :
    Calls Tryd.prog 6 #[v, u] w fun e w' => e = .returned (.bool true) ∧ Below w.heap.size w w' := by
  have HV : Hid (Ks w v l) := hv
  have HE : Hid (EnvOk w) := hE
  have HOK : Hid (∀ t ∈ l, okt t) := hok
  have ch := fun (X : World) (h : EnvOk X) => head_any X h
  obtain ⟨K, hK⟩ : ∃ K, kh h = K := ⟨_, rfl⟩
  obtain ⟨BT, hBT⟩ : ∃ B, bkt K 0 l = B := ⟨_, rfl⟩
  obtain ⟨WT, hWT⟩ : ∃ B, wnt K 0 0 l = B := ⟨_, rfl⟩
  have HBT : Hid (bkt K 0 l = BT) := hBT
  have HWT : Hid (wnt K 0 0 l = WT) := hWT
  have HKh : Hid (kh h = K) := hK
  have hBl : BT.length ≤ 8388600 := by rw [← hBT]; have := bkt_len K l 0 hok; omega
  have hWl : WT.length ≤ 174762 := by rw [← hWT]; have := wnt_len K l 0 0; omega
  have hcut := cut_blanks K l hok
  rw [hBT, hWT] at hcut
  have hbyt : byt (BT ++ endL) := fun x hx => by
    rcases List.mem_append.1 hx with hx | hx
    · rw [← hBT] at hx; exact bkt_byt K l 0 x hx
    · exact endL_byt x hx
  have ccut := fun (X : World) (h : EnvOk X) => cut_any (ofL (BT ++ endL)) (ofL (BT ++ endL)).size (by rw [ofL_size, List.length_append]; simp [endL]; omega) X h
  rw [hcut] at ccut
  have HBy : Hid (byt (BT ++ endL)) := hbyt
  obtain ⟨va, vc, rfl, -⟩ := hv
  obtain ⟨ua, uc, rfl, hum⟩ := hu
  have HUM : Hid (h = [] ∨ ∃ b o, ua = some ⟨b, o, none⟩ ∧ b < w.heap.size ∧ ∀ (i : Nat) (x : Int), h[i]? = some x → w.cell? ⟨b, o + i, none⟩ = some (.int .i64 x)) := hum
  clear hE hok hBT hWT hK hcut hbyt hum hw
  go_enter Tryd.func6, Tryd.ntmps6
  go_wp2
  go_loopg [5, 6, 7] l.length (fun g b k i wr => ∃ (j : Nat) (bs : List Int) (ws : List Tk), j + g = l.length ∧ i = .int .i64 (j : Int) ∧ OwnB wr w.heap.size b bs ∧ OwnK wr w.heap.size k ws ∧ bs ++ bkt K j (l.drop j) = BT ∧ ws ++ wnt K j bs.length (l.drop j) = WT ∧ Below w.heap.size w wr)
  case atStart => exact ⟨0, [], [], by omega, rfl, ⟨by simp [ibs], Or.inl ⟨rfl, rfl⟩⟩, OwnK.nil _ _, by rw [List.drop_zero, List.nil_append]; exact HBT.out, by rw [List.drop_zero, List.nil_append]; exact HWT.out, Below.refl _ _⟩
  case round =>
    obtain ⟨j, bs, ws, hj, rfl, ho, hk, hb, hws, hbr⟩ := hrel
    have HBr : Hid (Below w.heap.size w wr) := hbr
    have HEr : Hid (EnvOk wr) := HE.out.later hbr
    have HO : Hid (OwnB wr w.heap.size u5 bs) := ho
    have HK : Hid (OwnK wr w.heap.size u6 ws) := hk
    have hbl : bs.length ≤ BT.length := by rw [← hb, List.length_append]; omega
    have hwl : ws.length ≤ WT.length := by rw [← hws, List.length_append]; omega
    obtain ⟨ba, bc, rfl⟩ := ho.shape
    obtain ⟨ka, kc, rfl⟩ := hk.shape
    cases gk with
    | succ g =>
      have hlt : j < l.length := by omega
      have i0 : (0 : Int) ≤ (j : Int) := by omega
      have i1 : (j : Int) < (l.length : Int) := by omega
      obtain ⟨t, ht⟩ : ∃ t, l[j]? = some t := ⟨_, List.getElem?_eq_getElem hlt⟩
      have hdr : l.drop j = t :: l.drop (j + 1) := by
        rw [List.drop_eq_getElem_cons hlt]
        rw [List.getElem?_eq_getElem hlt] at ht
        cases ht; rfl
      have hot := HOK.out t (List.mem_of_getElem? ht)
      have cs := fun (X : World) (h : EnvOk X) => spell_any t hot.1 hot.2.1 hot.2.2 X h
      rw [hdr, bkt_cons] at hb
      rw [hdr, wnt_cons] at hws
      obtain ⟨a1, cap1, hva, hm1⟩ := HV.out
      simp only [Value.slice.injEq, true_and] at hva
      obtain ⟨rfl, rfl⟩ := hva
      rcases hm1 with hm1 | ⟨b1, o1, rfl, hb1, hm1⟩
      · rw [hm1] at hlt; simp at hlt
      have HC : Hid (∀ X, Below w.heap.size w X → X.cell? ⟨b1, o1 + j * 5, none⟩ = some (.int .i64 t.k) ∧ X.cell? ⟨b1, o1 + j * 5 + 1, none⟩ = some (.string t.x) ∧ X.cell? ⟨b1, o1 + j * 5 + 2, none⟩ = some (.int .i64 t.n) ∧ X.cell? ⟨b1, o1 + j * 5 + 3, none⟩ = some (.int .i64 t.a) ∧ X.cell? ⟨b1, o1 + j * 5 + 4, none⟩ = some (.int .i64 t.e)) := fun X hX => by
        obtain ⟨p0, p1, p2, p3, p4⟩ := hm1 j t ht
        exact ⟨cell_step hX hb1 p0, cell_step hX hb1 p1, cell_step hX hb1 p2, cell_step hX hb1 p3, cell_step hX hb1 p4⟩
      clear hm1 ht hdr hot hb1 ho hk
      cases es : spl t with
      | none =>
        rw [es] at cs hb hws
        simp only [Option.getD_none, Option.isSome_none] at cs hb hws
        obtain ⟨tk, tx, tn, ta, te⟩ := t
        obtain ⟨c0, c1, c2, c3, c4⟩ := HC.out wr hbr
        simp only at c0 c1 c2 c3 c4
        have HBB : Hid (bs ++ bkt K (j + 1) (l.drop (j + 1)) = BT) := hb
        have HWW : Hid (ws ++ wnt K (j + 1) bs.length (l.drop (j + 1)) = WT) := hws
        clear es hb hws hbr
        go_wp2_with (go_at_call 17; refine (cs _ HEr.out).mono ?_; rintro e w3 ⟨rfl, hb3⟩)
        go_roundg g
        case measure => omega
        case rel => exact ⟨j + 1, bs, ws, by omega, by go_num, HO.out.later hb3, HK.out.later hb3, HBB.out, HWW.out, below_step HBr.out hb3⟩
      | some s =>
        rw [es] at cs hb hws
        simp only [Option.getD_some, Option.isSome_some] at cs hb hws
        obtain ⟨kk, hkk⟩ : ∃ kk, K j = kk := ⟨_, rfl⟩
        rw [hkk] at hb hws
        have cf := fill_any kk
        have hfz := fil_size kk
        obtain ⟨F, hF⟩ : ∃ F, fil kk = F := ⟨_, rfl⟩
        rw [hF] at hb hws cf hfz
        have hlen2 : bs.length + F.size + s.size ≤ BT.length := by rw [← hb]; simp only [List.length_append, bl_len]; omega
        have HBB : Hid ((bs ++ bl F) ++ bl s ++ bkt K (j + 1) (l.drop (j + 1)) = BT) := by show _ = _; rw [← hb]; simp
        have HWW : Hid ((ws ++ [⟨t.k, t.x, t.n, ((bs.length + F.size : Nat) : Int), ((bs.length + F.size + s.size : Nat) : Int)⟩]) ++ wnt K (j + 1) (bs.length + F.size + s.size) (l.drop (j + 1)) = WT) := by show _ = _; rw [← hws]; simp
        obtain ⟨tk, tx, tn, ta, te⟩ := t
        simp only at HC HWW
        obtain ⟨c0, c1, c2, c3, c4⟩ := HC.out wr hbr
        clear es hb hws hbr hF
        go_upto_if 32 with (go_at_call 17; refine (cs _ HEr.out).mono ?_; rintro e w3 ⟨rfl, hb3⟩)
        have HB3 : Hid (Below w.heap.size w w3) := below_step HBr.out hb3
        have HO3 : Hid (OwnB w3 w.heap.size (.slice ba bs.length bc) bs) := HO.out.later hb3
        have HK3 : Hid (OwnK w3 w.heap.size (.slice ka ws.length kc) ws) := HK.out.later hb3
        clear hb3 c0 c1 c2 c3 c4 HO HK HEr HBr cs
        have HKK : Hid (K j = kk) := hkk
        clear hkk
        go_cut [10] from 14 to 60 (fun s10 wx => s10 = .int .i64 kk ∧ wx = w3)
        case first =>
          have hk2 := HKK.out
          rw [← HKh.out] at hk2
          unfold kh at hk2
          rcases HUM.out with rfl | ⟨b2, o2, rfl, hb2, hm2⟩
          · obtain rfl : 0 = kk := hk2
            go_wp2
            go_meet
            case rel => exact ⟨rfl, rfl⟩
          · by_cases hnil : h = []
            · subst hnil
              obtain rfl : 0 = kk := hk2
              go_wp2
              go_meet
              case rel => exact ⟨rfl, rfl⟩
            · have hp : 0 < h.length := List.length_pos_iff.2 hnil
              have hpi : (0 : Int) < (h.length : Int) := by omega
              have hm : j % h.length < h.length := Nat.mod_lt _ hp
              obtain ⟨x, hx⟩ : ∃ x, h[j % h.length]? = some x := ⟨_, List.getElem?_eq_getElem hm⟩
              rw [hx] at hk2
              obtain rfl : x = kk := hk2
              have c0 : w3.cell? ⟨b2, o2 + j % h.length, none⟩ = some (.int .i64 x) := cell_step HB3.out hb2 (hm2 _ x hx)
              have ht : Int.tmod (j : Int) (h.length : Int) = ((j % h.length : Nat) : Int) := by rw [Int.tmod_eq_emod_of_nonneg (by omega)]; exact (Int.natCast_emod j h.length).symm
              have hwt : IntKind.i64.wrap ((j % h.length : Nat) : Int) = ((j % h.length : Nat) : Int) := by rw [IntKind.wrap_i64]; omega
              obtain ⟨m, hmm⟩ : ∃ m, j % h.length = m := ⟨_, rfl⟩
              rw [hmm] at c0 ht hwt hm
              have hm0 : (0 : Int) ≤ (m : Int) := by omega
              have hm1 : (m : Int) < (h.length : Int) := by omega
              have hzi : ¬ (h.length : Int) = 0 := by omega
              clear hx hm2 hnil hmm hp
              go_wp2
              go_meet
              case rel => exact ⟨rfl, rfl⟩
        case rest =>
          obtain ⟨rfl, rfl⟩ := hcut
          have hz3 := HB3.out.size
          go_upto_region 12 with (first
            | (go_at_call 18; refine (cf _).mono ?_; rintro e w4 ⟨rfl, rfl⟩)
            | (at_builtin; refine app_str2 rfl _ _ rfl w.heap.size _ bs rfl HO3.out F rfl (by omega) hz3 ?_; intro v5 w5 ho5 hb5 hg5))
          have HB5 : Hid (Below w.heap.size w w5) := HB3.out.trans hb5
          have HK5 : Hid (OwnK w5 w.heap.size (.slice ka ws.length kc) ws) := HK3.out.keptB HO3.out hg5
          have HO5 : Hid (OwnB w5 w.heap.size v5 (bs ++ bl F)) := ho5
          obtain ⟨ba5, bc5, rfl⟩ := ho5.shape
          have hl5 : (bs ++ bl F).length = bs.length + F.size := by rw [List.length_append, bl_len]
          rw [hl5] at HO5 ⊢
          obtain ⟨c0, c1, c2, c3, c4⟩ := HC.out w5 HB5.out
          clear hb5 hg5 ho5 HK3 HO3 hz3 cf
          go_upto_region 14 with fail
          obtain ⟨A, hA⟩ : ∃ A : Int, (bs.length : Int) + (F.size : Int) = A := ⟨_, rfl⟩
          rw [hA]
          have bY := below1 w5 (.cells #[.int .i64 tk, .string tx, .int .i64 tn, .int .i64 A, .int .i64 te] 33)
          have fY := Blk.new w5 #[.int .i64 tk, .string tx, .int .i64 tn, .int .i64 A, .int .i64 te] 33
          have hoY := HO5.out.later bY
          have hkY := HK5.out.later bY
          have hltK := fun k hk => (World.ownsRow.lt HK5.out k hk).2
          obtain ⟨tb, htb⟩ : ∃ tb, w5.heap.size = tb := ⟨_, rfl⟩
          have hbt : w.heap.size ≤ tb := by rw [← htb]; exact HB5.out.size
          rw [htb] at fY hltK ⊢
          revert bY fY hoY hkY
          generalize w5.alloc (.cells #[.int .i64 tk, .string tx, .int .i64 tn, .int .i64 A, .int .i64 te] 33) = Y
          intro bY hoY hkY fY
          have HBY : Hid (Below w.heap.size w Y) := below_step HB5.out bY
          have HFY : Hid (Blk Y tb #[.int .i64 tk, .string tx, .int .i64 tn, .int .i64 A, .int .i64 te] 33) := fY
          have HOY : Hid (OwnB Y w.heap.size (.slice ba5 (bs.length + F.size) bc5) (bs ++ bl F)) := hoY
          have HKY : Hid (OwnK Y w.heap.size (.slice ka ws.length kc) ws) := hkY
          have HLT : Hid (∀ k, (Value.slice ka ws.length kc).ownBlock = some k → k < tb) := hltK
          have hYz := HBY.out.size
          clear bY fY hoY hkY hltK c0 c1 c2 c3 c4 HO5 HK5 HB5 htb
          go_upto_region 15 with (at_builtin; refine app_str2 rfl _ _ rfl w.heap.size _ (bs ++ bl F) rfl HOY.out s rfl (by omega) hYz ?_; intro v6 w6 ho6 hb6 hg6)
          have hB6 : Below w.heap.size w w6 := HBY.out.trans hb6
          have hF6 := HFY.out.keptB HOY.out hg6
          have hK6 := HKY.out.keptB HOY.out hg6
          obtain ⟨ba6, bc6, rfl⟩ := ho6.shape
          have hl6 : (bs ++ bl F ++ bl s).length = bs.length + F.size + s.size := by rw [List.length_append, hl5, bl_len]
          rw [hl6] at ho6 ⊢
          obtain ⟨g0, g1, g2, g3, g4⟩ := five hF6
          obtain ⟨-, -, -, -, z4⟩ := fiveF hF6
          have HB6 : Hid (Below w.heap.size w w6) := hB6
          have HF6 : Hid (Blk w6 tb #[.int .i64 tk, .string tx, .int .i64 tn, .int .i64 A, .int .i64 te] 33) := hF6
          have HO6 : Hid (OwnB w6 w.heap.size (.slice ba6 (bs.length + F.size + s.size) bc6) (bs ++ bl F ++ bl s)) := ho6
          have HK6 : Hid (OwnK w6 w.heap.size (.slice ka ws.length kc) ws) := hK6
          clear hB6 hF6 hK6 hb6 hg6 ho6 HOY HKY HFY HBY hYz
          go_upto_region 16 with fail
          obtain ⟨E, hEE⟩ : ∃ E : Int, A + (s.size : Int) = E := ⟨_, rfl⟩
          rw [hEE]
          have fZ : Blk (w6.setCell ⟨tb, 4, none⟩ (.int .i64 E)) tb #[.int .i64 tk, .string tx, .int .i64 tn, .int .i64 A, .int .i64 E] 33 := heap_setCell_same _ _ 4 _ _ _ HF6.out
          have bZ : Below w.heap.size w (w6.setCell ⟨tb, 4, none⟩ (.int .i64 E)) := HB6.out.setCell hbt _
          have oZ : OwnB (w6.setCell ⟨tb, 4, none⟩ (.int .i64 E)) w.heap.size (.slice ba6 (bs.length + F.size + s.size) bc6) (bs ++ bl F ++ bl s) := HO6.out.setT HF6.out
          have kZ : OwnK (w6.setCell ⟨tb, 4, none⟩ (.int .i64 E)) w.heap.size (.slice ka ws.length kc) ws := HK6.out.setT (fun h => by have := HLT.out tb h; omega)
          revert fZ bZ oZ kZ
          generalize w6.setCell ⟨tb, 4, none⟩ (.int .i64 E) = Z
          intro fZ bZ oZ kZ
          have HBZ : Hid (Below w.heap.size w Z) := bZ
          have HOZ : Hid (OwnB Z w.heap.size (.slice ba6 (bs.length + F.size + s.size) bc6) (bs ++ bl F ++ bl s)) := oZ
          have HKZ : Hid (OwnK Z w.heap.size (.slice ka ws.length kc) ws) := kZ
          have hZz := bZ.size
          have hWA : Hid (((bs.length + F.size : Nat) : Int) = A ∧ ((bs.length + F.size + s.size : Nat) : Int) = E) := by show _ ∧ _; omega
          clear g0 g1 g2 g3 g4 z4
          obtain ⟨g0, g1, g2, g3, g4⟩ := five fZ
          clear fZ bZ oZ kZ HF6 HO6 HK6 HB6 hA hEE HLT
          go_wp2_with (at_builtin; refine app_tok rfl _ _ rfl w.heap.size _ ws rfl (HKZ.out.later (below1 _ _)) Z.heap.size ⟨tk, tx, tn, A, E⟩ rfl (heap_alloc_new Z _) (by omega) (by simp; omega) ?_; intro v7 w7 ho7 hb7 hg7)
          go_roundg g
          case measure => omega
          case rel => exact ⟨j + 1, bs ++ bl F ++ bl s, ws ++ [⟨tk, tx, tn, A, E⟩], by omega, by go_num, (HOZ.out.later (below1 _ _)).keptK (HKZ.out.later (below1 _ _)) hg7, ho7, HBB.out, by have h1 := HWW.out; rw [hWA.out.1, hWA.out.2] at h1; rw [hl6]; exact h1, (HBZ.out.trans ((below1 _ _).mono hZz)).trans hb7⟩
    | zero =>
      obtain rfl : j = l.length := by omega
      have hz : ¬ ((l.length : Int) < (l.length : Int)) := by omega
      rw [List.drop_length] at hb hws
      have hb2 : bs = BT := by rw [← hb]; simp [bkt]
      have hw2 : ws = WT := by rw [← hws]; simp [wnt]
      subst hb2 hw2
      have hel : endB.size = 10 := rfl
      have hll : (bs ++ endL).length = bs.length + 10 := by rw [List.length_append]; rfl
      rw [ofL_size, hll] at ccut
      have hrz := hbr.size
      clear hb hws hbl hwl ho hk hbr
      go_upto_region 18 with (at_builtin; refine app_str2 rfl _ _ rfl w.heap.size _ bs rfl HO.out endB rfl (by omega) hrz ?_; intro v5 w5 ho5 hb5 hg5)
      rw [bl_endB] at ho5
      have HB5 : Hid (Below w.heap.size w w5) := HBr.out.trans hb5
      have HE5 : Hid (EnvOk w5) := HE.out.later HB5.out
      have HK5 : Hid (OwnK w5 w.heap.size (.slice ka ws.length kc) ws) := HK.out.keptB HO.out hg5
      have hcv : (convert 37 9 v5).run Tryd.prog w5 = .ok (.string (ofL (bs ++ endL))) w5 := conv_bytes ho5 (by omega) HBy.out
      obtain ⟨ba5, bc5, rfl⟩ := ho5.shape
      rw [hll] at hcv ⊢
      obtain ⟨S, hS⟩ : ∃ S, ofL (bs ++ endL) = S := ⟨_, rfl⟩
      rw [hS] at hcv ccut
      clear hb5 hg5 ho5 hS
      go_upto_region 19 with (go_at_call 13; refine (ccut _ HE5.out).mono ?_; rintro e w6 ⟨v6, rfl, ho6, hb6⟩)
      have bx := below1 w6 (.cells #[.int .i64 0, .int .i64 0] 27)
      have fx := Blk.new w6 #[.int .i64 0, .int .i64 0] 27
      have hk6 := (ho6.later bx).ks
      revert bx fx hk6
      generalize w6.alloc (.cells #[.int .i64 0, .int .i64 0] 27) = W6
      intro bx fx hk6
      have h56 := below_step hb6 bx
      have HB6 : Hid (Below w.heap.size w W6) := below_step HB5.out h56
      have HKs : Hid (Ks W6 v6 ws) := hk6
      have HKs2 : Hid (Ks W6 (.slice ka ws.length kc) ws) := (HK5.out.later h56).ks
      obtain ⟨b0, b1, -, -⟩ := two fx
      clear bx fx ho6 hb6 hk6 h56 ccut
      go_wp2_with (first
        | (go_at_call 19; refine (same_any ws _ _ _ HKs.out HKs2.out (by omega)).mono ?_; rintro e w7 ⟨rfl, hb7⟩)
        | (go_at_call 14; refine (ch _ (HE.out.later (below_step HB6.out hb7))).mono ?_; rintro e w8 ⟨rfl, hb8⟩))
      go_ret
      exact ⟨rfl, below_step (below_step HB6.out hb7) hb8⟩
end Go.Proofs.YtekjicklbgpdcaaDoor

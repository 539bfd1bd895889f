import Derived.Test.YtdfdnjkeiddfjaaDoorSL8
import Derived.Test.YtdfdnjkeiddfjaaDoorSMH
import Derived.Test.YtdfdnjkeiddfjaaDoorK9
import Derived.Test.YtdfdnjkeiddfjaaDoorK18
/-
  hearsaylaw25: ScriptBack's walk.
-/
namespace Go.Proofs.YtdfdnjkeiddfjaaDoor
open Go.RowKit
attribute [local go_sem ↓] Go.wp_at_zero Go.wp_at_succ

theorem mk_sm (d : SdO) (b : ByteArray) : SmS (mkD d) (mkB d b) := by
  have z : (⟨#[]⟩ : ByteArray).size = 0 := rfl
  unfold mkD mkB
  refine ⟨?_, ?_, ?_, ?_⟩
  all_goals
    try dsimp only
    split
  all_goals first | (rw [z]; omega) | exact ctL_size _
end Go.Proofs.YtdfdnjkeiddfjaaDoor
/-
  script (stage 25): PLAIN: a step's line spoiled: refused at its place.
-/
namespace Go.Proofs.YtdfdnjkeiddfjaaDoor
open Go.RowKit

theorem go_more (L : Int) (d : SdO) (b : ByteArray) (t : Tk) (T : List Tk) : ∀ (ps : List Int) (o : Nat) (e : SdO) (c : ByteArray), goS L ps (plS d b ps o ++ t :: T) e c = noS 253 t.a
  | [], _, _, _ => rfl
  | p :: ps, o, e, c => by
    show (if ftS p (tkS d b p).k = true then goS L ps (plS d b ps _ ++ t :: T) _ _ else _) = _
    rw [if_pos (ft_tk d b p), go_more L d b t T ps]
theorem go_less (L : Int) (d : SdO) (b : ByteArray) (p : Int) (qs : List Int) : ∀ (ps : List Int) (o : Nat) (e : SdO) (c : ByteArray), goS L (ps ++ p :: qs) (plS d b ps o) e c = noS 253 L
  | [], _, _, _ => rfl
  | q :: ps, o, e, c => by
    show (if ftS q (tkS d b q).k = true then goS L (ps ++ p :: qs) (plS d b ps _) _ _ else _) = _
    rw [if_pos (ft_tk d b q), go_less L d b p qs ps]
theorem go_other (L : Int) (d : SdO) (b : ByteArray) (p : Int) (qs : List Int) (t : Tk) (T : List Tk) (hf : ftS p t.k = false) : ∀ (ps : List Int) (o : Nat) (e : SdO) (c : ByteArray), goS L (ps ++ p :: qs) (plS d b ps o ++ t :: T) e c = noS 253 t.a
  | [], _, e, c => by
    show (if ftS p t.k = true then _ else noS 253 t.a) = _
    rw [hf]; rfl
  | q :: ps, o, e, c => by
    show (if ftS q (tkS d b q).k = true then goS L (ps ++ p :: qs) (plS d b ps _ ++ t :: T) _ _ else _) = _
    rw [if_pos (ft_tk d b q), go_other L d b p qs t T hf ps]
theorem rl_row {i : Nat} (hi : i < 24) (L : Int) (o : Nat) (T : List Tk) : rlS L (atP ⟨1, (rwS.getD i zrS).x, 0, 0, 0⟩ (rwS.getD i zrS).x.size o :: T) = goS L (blK (rwS.getD i zrS).p) T { zdS with k := (i : Int) + 1 } ⟨#[]⟩ := by
  have e : rwT (atP ⟨1, (rwS.getD i zrS).x, 0, 0, 0⟩ (rwS.getD i zrS).x.size o) = rwS.getD i zrS := (if_pos rfl).trans (rw_own hi)
  show (if (rwT (atP ⟨1, (rwS.getD i zrS).x, 0, 0, 0⟩ (rwS.getD i zrS).x.size o)).k = 0 then _ else goS L (blK (rwT (atP ⟨1, (rwS.getD i zrS).x, 0, 0, 0⟩ (rwS.getD i zrS).x.size o)).p) T { zdS with k := (rwT (atP ⟨1, (rwS.getD i zrS).x, 0, 0, 0⟩ (rwS.getD i zrS).x.size o)).k } ⟨#[]⟩) = _
  rw [e, rw_k hi, if_neg (by omega)]
/-- A word behind the line. -/
theorem bad_more {d : SdO} {b : ByteArray} (h : OkS d b) (hs : SmS d b) {i : Nat} (hi : i < 24) : rdS (stL d b i ++ (⟨#[32, 120]⟩ : ByteArray)) = noS 253 ((stL d b i).size + 1) := by
  have hsz := st_size h hs i
  have e2 : (⟨#[32, 120]⟩ : ByteArray).size = 2 := rfl
  have hx : CzP true [120] (fun o => [atP ⟨1, ⟨#[120]⟩, 0, 0, 0⟩ 1 o]) := row_cz (x := ⟨#[120]⟩) (by kernel_rfl) (by decide)
  have hcz := (ln_cz h hi).app ((CzP.gap 32 (Or.inl rfl)).app hx (fun e => by cases e)) (fun _ => ⟨32, [120], rfl, rfl, by decide⟩)
  have hc2 : CzP true (blK (stL d b i ++ (⟨#[32, 120]⟩ : ByteArray))) (fun o => lnT d b (rwS.getD i zrS) o ++ [atP ⟨1, ⟨#[120]⟩, 0, 0, 0⟩ 1 (o + (stL d b i).size + 1)]) := by
    refine hcz.eq (by rw [bl_append]; rfl) fun o => ?_
    simp only [List.nil_append, List.length_singleton, bl_len]
    rfl
  rw [rd_of (by simp only [ByteArray.size_append]; omega) (hc2.cut (Int.le_refl _))]
  show rlS _ (atP _ _ _ :: (plS d b (blK (rwS.getD i zrS).p) _ ++ [_])) = _
  rw [rl_row hi, go_more]
  show noS 253 ((0 + (stL d b i).size + 1 : Nat) : Int) = _
  congr 1
  omega
theorem rw_vrb {i : Nat} (h : i < 24) : vrb ((⟨#[88]⟩ : ByteArray) ++ (rwS.getD i zrS).x) = true := by
  have : ∀ i : Nat, i < 24 → vrb ((⟨#[88]⟩ : ByteArray) ++ (rwS.getD i zrS).x) = true := of_decide_eq_true (by kernel_rfl)
  exact this i h
/-- Another first word. -/
theorem bad_first {d : SdO} {b : ByteArray} (h : OkS d b) (hs : SmS d b) {i : Nat} (hi : i < 24) : rdS ((⟨#[88]⟩ : ByteArray) ++ stL d b i) = noS 252 0 := by
  have hsz := st_size h hs i
  have e2 : (⟨#[88]⟩ : ByteArray).size = 1 := rfl
  have hw := rw_vrb hi
  have e : spl ⟨2, (⟨#[88]⟩ : ByteArray) ++ (rwS.getD i zrS).x, 0, 0, 0⟩ = some ((⟨#[88]⟩ : ByteArray) ++ (rwS.getD i zrS).x) := by
    unfold spl
    rw [if_neg (show ¬ (2 : Int) = 1 by decide), if_pos rfl, if_pos ⟨hw, rfl⟩]
  have hx := (CzP.tok e ⟨by rw [ByteArray.size_append]; have := (rw_le i).1; omega, z64S.1, z64S.2⟩).weak
  have hcz := jo_cz h (blK (rwS.getD i zrS).p) _ _ hx
  rw [jo_front] at hcz
  have hc : cutL (blK ((⟨#[88]⟩ : ByteArray) ++ stL d b i)) (((⟨#[88]⟩ : ByteArray) ++ stL d b i).size : Int) = _ := hcz.cut (Int.le_refl _)
  rw [rd_of (by rw [ByteArray.size_append]; omega) hc]
  rfl
theorem plS_len (d : SdO) (b : ByteArray) : ∀ (ps : List Int) (o : Nat), (plS d b ps o).length = ps.length
  | [], _ => rfl
  | p :: ps, o => by show (_ :: plS d b ps _).length = _; rw [List.length_cons, plS_len d b ps, List.length_cons]
theorem plS_at (d : SdO) (b : ByteArray) : ∀ (ps : List Int) (o : Nat) (s : ByteArray) (j : Nat), j < ps.length → o = s.size → ∃ t, (plS d b ps o)[j]? = some t ∧ t.a = (((joS d b (ps.take j) s).size + 1 : Nat) : Int)
  | [], _, _, j, h, _ => by simp at h
  | p :: ps, o, s, 0, _, ho => ⟨_, rfl, by show ((o + 1 : Nat) : Int) = _; rw [ho]; rfl⟩
  | p :: ps, o, s, j + 1, h, ho => by
    obtain ⟨t, h1, h2⟩ := plS_at d b ps (o + 1 + (shS d b p).size) (s ++ (⟨#[32]⟩ : ByteArray) ++ shS d b p) j (by simpa using h) (by simp only [ByteArray.size_append]; have : (⟨#[32]⟩ : ByteArray).size = 1 := rfl; omega)
    exact ⟨t, h1, h2⟩
/-- The line up to a part. -/
def frS (d : SdO) (b : ByteArray) (i j : Nat) : ByteArray := joS d b ((blK (rwS.getD i zrS).p).take j) (rwS.getD i zrS).x
theorem st_split (d : SdO) (b : ByteArray) (i j : Nat) {p : Int} {qs : List Int} (h : (blK (rwS.getD i zrS).p).drop j = p :: qs) : stL d b i = (frS d b i j ++ (⟨#[32]⟩ : ByteArray)) ++ joS d b qs (shS d b p) := by
  unfold stL frS
  conv => lhs; rw [← List.take_append_drop j (blK (rwS.getD i zrS).p)]
  rw [jo_app, h]
  show joS d b qs (_ ++ _ ++ _) = _
  rw [← jo_front]
theorem fr_cz {d : SdO} {b : ByteArray} (ho : OkS d b) {i : Nat} (hi : i < 24) (j : Nat) : CzP true (blK (frS d b i j)) (fun o => atP ⟨1, (rwS.getD i zrS).x, 0, 0, 0⟩ (rwS.getD i zrS).x.size o :: plS d b ((blK (rwS.getD i zrS).p).take j) (o + (rwS.getD i zrS).x.size)) :=
  (jo_cz ho _ _ _ (row_cz (rw_wrd hi) (by have := (rw_le i).1; omega))).eq rfl fun _ => rfl
/-- The last parts left out. -/
theorem bad_less {d : SdO} {b : ByteArray} (h : OkS d b) (hs : SmS d b) {i j : Nat} (hi : i < 24) {p : Int} {qs : List Int} (hd : (blK (rwS.getD i zrS).p).drop j = p :: qs) : rdS (frS d b i j ++ (⟨#[32]⟩ : ByteArray)) = noS 253 ((frS d b i j).size + 1) := by
  have hsz := st_size h hs i
  have hsp := congrArg ByteArray.size (st_split d b i j hd)
  simp only [ByteArray.size_append] at hsp
  have e1 : (⟨#[32]⟩ : ByteArray).size = 1 := rfl
  have hcz := ((fr_cz h hi j).app (CzP.gap 32 (Or.inl rfl)) (fun _ => ⟨32, [], rfl, rfl, by decide⟩)).weak
  have hc2 : CzP true (blK (frS d b i j ++ (⟨#[32]⟩ : ByteArray))) (fun o => atP ⟨1, (rwS.getD i zrS).x, 0, 0, 0⟩ (rwS.getD i zrS).x.size o :: plS d b ((blK (rwS.getD i zrS).p).take j) (o + (rwS.getD i zrS).x.size)) :=
    hcz.eq (by rw [bl_append]; rfl) fun o => by simp
  rw [rd_of (by simp only [ByteArray.size_append]; omega) (hc2.cut (Int.le_refl _)), rl_row hi]
  conv => lhs; rw [← List.take_append_drop j (blK (rwS.getD i zrS).p), hd]
  have e : ((blK (rwS.getD i zrS).p).take j ++ p :: qs).take j = (blK (rwS.getD i zrS).p).take j := by rw [← hd, List.take_append_drop]
  rw [e, go_less, ByteArray.size_append, e1]
  rfl
theorem ft_comma {i : Nat} (hi : i < 24) {p : Int} (hp : p ∈ blK (rwS.getD i zrS).p) : ftS p 8 = false := by
  have h2 : ∀ i : Nat, i < 24 → ∀ p ∈ blK (rwS.getD i zrS).p, ftS p 8 = false := of_decide_eq_true (by kernel_rfl)
  exact h2 i hi p hp
/-- Another token ahead of a part. -/
theorem bad_other {d : SdO} {b : ByteArray} (h : OkS d b) (hs : SmS d b) {i j : Nat} (hi : i < 24) {p : Int} {qs : List Int} (hd : (blK (rwS.getD i zrS).p).drop j = p :: qs) : rdS (((frS d b i j ++ (⟨#[32]⟩ : ByteArray)) ++ (⟨#[44, 32]⟩ : ByteArray)) ++ joS d b qs (shS d b p)) = noS 253 ((frS d b i j).size + 1) := by
  have hsz := st_size h hs i
  have hsp := congrArg ByteArray.size (st_split d b i j hd)
  simp only [ByteArray.size_append] at hsp
  have e1 : (⟨#[32]⟩ : ByteArray).size = 1 := rfl
  have e2 : (⟨#[44, 32]⟩ : ByteArray).size = 2 := rfl
  have hcomma : CzP false [44] (fun o => [atP ⟨8, ⟨#[]⟩, 0, 0, 0⟩ 1 o]) := CzP.tok (t := ⟨8, ⟨#[]⟩, 0, 0, 0⟩) (s := ⟨#[44]⟩) (by kernel_rfl) ⟨by show (0 : Nat) ≤ _; omega, z64S.1, z64S.2⟩
  have hG := jo_cz h qs _ _ (CzP.tok (tk_spl h p).1 (tk_spl h p).2).weak
  have hcz := (fr_cz h hi j).app ((CzP.gap 32 (Or.inl rfl)).app (hcomma.app ((CzP.gap 32 (Or.inl rfl)).app hG (fun e => by cases e)) (fun e => by cases e)) (fun e => by cases e)) (fun _ => ⟨32, _, rfl, rfl, by decide⟩)
  have hc2 : CzP true (blK (((frS d b i j ++ (⟨#[32]⟩ : ByteArray)) ++ (⟨#[44, 32]⟩ : ByteArray)) ++ joS d b qs (shS d b p))) _ := hcz.eq (by rw [bl_append, bl_append, bl_append]; simp only [List.append_assoc]; rfl) fun o => rfl
  rw [rd_of (by simp only [ByteArray.size_append]; omega) (hc2.cut (Int.le_refl _))]
  simp only [List.nil_append, List.cons_append, List.length_singleton, bl_len]
  rw [rl_row hi]
  conv => lhs; rw [← List.take_append_drop j (blK (rwS.getD i zrS).p), hd]
  have e : ((blK (rwS.getD i zrS).p).take j ++ p :: qs).take j = (blK (rwS.getD i zrS).p).take j := by rw [← hd, List.take_append_drop]
  rw [e, go_other]
  · show noS 253 ((0 + (frS d b i j).size + 1 : Nat) : Int) = _
    congr 1
    omega
  · exact ft_comma hi (List.mem_of_mem_drop (by rw [hd]; exact List.mem_cons_self ..))
end Go.Proofs.YtdfdnjkeiddfjaaDoor
/-
  hearsaylaw25: ScriptRefuses' walk: up to the tokens.
-/
namespace Go.Proofs.YtdfdnjkeiddfjaaDoor
open Go.RowKit
attribute [local go_sem ↓] Go.wp_at_zero Go.wp_at_succ

theorem ext_front {S A G : ByteArray} (h : S = A ++ G) : S.extract 0 A.size = A ∧ S.extract A.size S.size = G := by
  have hb : blK S = blK A ++ blK G := by rw [h, bl_append]
  have hz : S.size = A.size + G.size := by rw [h, ByteArray.size_append]
  constructor
  · rw [extract_eq, hb, List.drop_zero, Nat.sub_zero, List.take_left' (bl_len A), ofL_bl]
  · rw [extract_eq, hb, List.drop_left' (bl_len A), hz, Nat.add_sub_cancel_left, ← bl_len G, List.take_length, ofL_bl]
/-- All that is known of a line that is to be spoiled. -/
structure SpL (D : SdO) (B S : ByteArray) (n : Nat) (T : List Tk) : Prop where
  ok : OkS D B
  pr : prS D B = some S
  sz : S.size ≤ 48018
  pos : 3 ≤ S.size
  more : rdS (S ++ (⟨#[32, 120]⟩ : ByteArray)) = noS 253 (S.size + 1)
  first : rdS ((⟨#[88]⟩ : ByteArray) ++ S) = noS 252 0
  cut : cutL (blK S) (S.size : Int) = (T, 0, 0)
  len : T.length = n + 1
  n3 : n ≤ 3
  at_ : ∀ j, j < n → ∃ t A G, T[j + 1]? = some t ∧ t.a = (A.size : Int) ∧ S = A ++ G ∧ A.size ≤ 48018 ∧ rdS A = noS 253 A.size ∧ rdS ((A ++ (⟨#[44, 32]⟩ : ByteArray)) ++ G) = noS 253 A.size
theorem spL_of (d : SdO) (b : ByteArray) (hn : N64S d.n) (hm : N64S d.m) (hq : N64S d.q) : ∃ S T n, SpL (mkD d) (mkB d b) S n T := by
  have hok := mk_ok (d := d) b hn hm hq
  have hsm := mk_sm d b
  have hcl := mk_cl d b
  have hi := mkI_lt d
  have hk : (mkD d).k = (mkI d : Int) + 1 := rfl
  have hz := st_size hok hsm (mkI d)
  have h3 := rw_pos hi
  have hj := jo_size (mkD d) (mkB d b) (blK (rwS.getD (mkI d) zrS).p) (rwS.getD (mkI d) zrS).x
  refine ⟨stL (mkD d) (mkB d b) (mkI d), lnT (mkD d) (mkB d b) (rwS.getD (mkI d) zrS) 0, (blK (rwS.getD (mkI d) zrS).p).length, hok, st_pr hok hsm hi hk hcl, hz, ?_, bad_more hok hsm hi, bad_first hok hsm hi, (ln_cz hok hi).cut (Int.le_refl _), ?_, (rw_ps hi).2.2, fun j hj => ?_⟩
  · unfold stL; omega
  · show (_ :: plS _ _ _ _).length = _
    rw [List.length_cons, plS_len]
  · obtain ⟨p, qs, hd⟩ : ∃ p qs, (blK (rwS.getD (mkI d) zrS).p).drop j = p :: qs := ⟨_, _, List.drop_eq_getElem_cons hj⟩
    obtain ⟨t, h1, h2⟩ := plS_at (mkD d) (mkB d b) _ (0 + (rwS.getD (mkI d) zrS).x.size) (rwS.getD (mkI d) zrS).x j hj (by omega)
    have hsp := st_split (mkD d) (mkB d b) (mkI d) j hd
    have e1 : (frS (mkD d) (mkB d b) (mkI d) j ++ (⟨#[32]⟩ : ByteArray)).size = (frS (mkD d) (mkB d b) (mkI d) j).size + 1 := by rw [ByteArray.size_append]; rfl
    refine ⟨t, _, _, h1, ?_, hsp, ?_, ?_, ?_⟩
    · rw [h2, e1]; rfl
    · have := congrArg ByteArray.size hsp
      rw [ByteArray.size_append] at this
      omega
    · rw [e1]; exact bad_less hok hsm hi hd
    · rw [e1]; exact bad_other hok hsm hi hd
end Go.Proofs.YtdfdnjkeiddfjaaDoor

import Derived.Test.YtechceagghcipabGreatDoorEJ1
import Derived.Test.YtechceagghcipabGreatDoorT2
import Derived.Test.YtechceagghcipabGreatDoorL3
import Derived.Test.YtechceagghcipabGreatDoorEB8
import Derived.Test.YtechceagghcipabGreatDoorA1
import Derived.Test.YtechceagghcipabGreatDoorW2
import Derived.Deep.CutRange
namespace Go.Proofs.YtechceagghcipabGreatDoor
open Go.RowKit
attribute [local go_sem ↓] Go.wp_at_zero Go.wp_at_succ
theorem become_nil (t : Tm) : become [] t = t := by
 unfold become
 split
 ·simp [look]
 ·rfl
theorem ofp8_any (parts p : Int) (Y : World) : Calls Tryz.prog 48 #[.int .i64 parts, .int .i64 p] Y fun e Y' => e = .returned (.bool (hp7 parts p)) /\ Y' = Y := by
 go_enter Tryz.func48, Tryz.ntmps48
 go_wp2
 go_ret
 exact ⟨ret_b (by unfold hp7; simp [bne]), rfl⟩
set_option maxRecDepth 20000 in
set_option maxHeartbeats 1000000 in
theorem ownA8_any (a : At) (x : Value) (Y : World) (hx : Ts Y x a.args) (hl : a.args.length <= 1000000000) : Calls Tryz.prog 40 #[a.v x] Y fun e Y' => ∃ y, e = .returned (a.v y) /\ OwnT Y' Y.heap.size y a.args /\ Below Y.heap.size Y Y' := by
 have HX := hm7 hx
 have HL := hm7 hl
 obtain ⟨xa, xc, hxv, -⟩ := hx
 obtain ⟨⟨k, n, ss⟩, nm, l⟩ := a
 simp only at hxv
 subst hxv
 obtain ⟨W, hW⟩ : ∃ W, (Y.alloc (.cells #[.int .i64 k, .int .i64 n, .string ss, .string nm, .slice xa l.length xc] 33)).alloc (.cells #[.int .i64 0, .int .i64 0, .string ⟨#[]⟩, .string ⟨#[]⟩, .slice none 0 0] 33) = W := ⟨_, rfl⟩
 have C := BoxB.start Y #[.int .i64 k, .int .i64 n, .string ss, .string nm, .slice xa l.length xc] #[.int .i64 0, .int .i64 0, .string ⟨#[]⟩, .string ⟨#[]⟩, .slice none 0 0] 33 33
 rw [hW] at C
 have HC := hm7 C
 have hz : W.heap.size = Y.heap.size + 2 := by rw [<- hW]; simp
 obtain ⟨p0, p1, p2, p3, p4⟩ := five C.1
 have hca := rapplyO_any [] (.slice none 0 0) ⟨⟨k, n, ss⟩, nm, l⟩ (.slice xa l.length xc) W ⟨none, 0, rfl, by simp, Or.inl rfl⟩ (HX.out.later C.2.2) (by simp only; simp only at hl; omega)
 have hmap : l.map (become []) = l := by rw [show become [] = id from funext become_nil]; simp
 simp only [become_nil, hmap] at hca
 have HCA : Hid (Calls Tryz.prog 73 #[.slice none 0 0, .agg #[.int .i64 k, .int .i64 n, .string ss, .string nm, .slice xa l.length xc]] W fun e w' => ∃ y, e = .returned ((At.mk ⟨k, n, ss⟩ nm l).v y) /\ OwnT w' W.heap.size y l /\ Below W.heap.size W w') := hca
 clear C hl hca hmap
 go_enter Tryz.func40, Tryz.ntmps40
 go_upto_region 1 with fail
 first | rw [hW] | skip
 go_wp2_with (go_at_call 73; refine HCA.out.mono ?_; rintro e W2 ⟨y, rfl, ho, hb⟩; have HO := hm7 ho; have HB := hm7 hb; obtain ⟨ya, yn, yc, rfl⟩ := ownT_form3 ho; obtain ⟨⟨q0, q1, q2, q3, q4⟩, f0, f1, f2, f3, f4⟩ := fiveF ((HC.out.later hb).2.1); clear ho hb p0 p1 p2 p3 p4)
 have hz2 := HB.out.size
 have hbl := (HC.out.later HB.out).2.2
 refine bodyPost_ret (v := (At.mk ⟨k, n, ss⟩ nm l).v (.slice ya yn yc)) (by simp [results, Tryz.results40, go_sem, q0, q1, q2, q3, q4]) rfl ⟨.slice ya yn yc, rfl, ?_, ?_⟩
 ·exact (OwnT.set (OwnT.set (OwnT.set (OwnT.set (OwnT.set HO.out (by omega)) (by omega)) (by omega)) (by omega)) (by omega)).mono (by omega)
 ·exact bset (bset (bset (bset (bset hbl (by omega)) (by omega)) (by omega)) (by omega)) (by omega)
end Go.Proofs.YtechceagghcipabGreatDoor
namespace Go.Proofs.YtechceagghcipabGreatDoor
open Go.RowKit
attribute [local go_sem ↓] Go.wp_at_zero Go.wp_at_succ
def tR8 (R : List It8) (j : Nat) : List It8 := (R.take j).map tI8 ++ R.drop j
theorem tR8_len (R : List It8) (j : Nat) : (tR8 R j).length = R.length := by
 unfold tR8
 rw [List.length_append, List.length_map, <- List.length_append, List.take_append_drop]
theorem tR8_at {R : List It8} {j : Nat} {x : It8} (h : R[j]? = some x) : (tR8 R j)[j]? = some x := by
 have hl := (List.getElem?_eq_some_iff.1 h).1
 unfold tR8
 rw [List.getElem?_append_right (by rw [List.length_map, List.length_take]; omega), List.length_map, List.length_take, Nat.min_eq_left (by omega), Nat.sub_self, List.getElem?_drop, Nat.add_zero, h]
theorem tR8_next {R : List It8} {j : Nat} {x : It8} (h : R[j]? = some x) : tR8 R (j + 1) = (tR8 R j).set j (tI8 x) := by
 have hl := (List.getElem?_eq_some_iff.1 h).1
 have e : ((R.take j).map tI8).length = j := by rw [List.length_map, List.length_take]; omega
 unfold tR8
 rw [List.set_append_right _ _ (by omega), e, Nat.sub_self, dropc7 h, take_next7 h, List.map_append, List.append_assoc]
 rfl
theorem hp7_four {q : Int} (h : q = 1 ∨ q = 2 ∨ q = 4) : hp7 4 q = decide (q = 4) := by rcases h with rfl | rfl | rfl <;> rfl
theorem RB8.parts {w0 : World} {A : Nat -> Prop} {r : Nat} {lv : Value} {R R' : List It8} {Y Y' : World} (h : RB8 w0 A r lv R Y) (hf : Fr (fun b => lv.ownBlock = some b) Y Y') (hl : EnL Y' w0.heap.size lv R') (hi : ∀ b, Ib lv R' b ↔ Ib lv R b) : RB8 w0 A r lv R' Y' :=
 ⟨h.b.fr hf h.rn, hl, fun b => by rw [h.a b, hi b], h.lo, h.be.trans (Fr.low (hf.mono (Q := fun b => w0.heap.size <= b) fun b _ hb => (h.l.o.lt b hb).1) h.be.size)⟩
theorem Ib_map {lv : Value} {R : List It8} {R' : List It8} (h : R'.map Prod.fst = R.map Prod.fst) (b : Nat) : Ib lv R' b ↔ Ib lv R b := by
 have key : ∀ S : List It8, (∃ x ∈ S, x.1.2.ownBlock = some b) ↔ ∃ y ∈ S.map Prod.fst, y.2.ownBlock = some b := fun S => by
  constructor
  ·rintro ⟨x, hx, e⟩; exact ⟨x.1, List.mem_map.2 ⟨x, hx, rfl⟩, e⟩
  ·rintro ⟨y, hy, e⟩; obtain ⟨x, hx, rfl⟩ := List.mem_map.1 hy; exact ⟨x, hx, e⟩
 unfold Ib
 rw [key, key, h]
theorem tR8_fst (R : List It8) (j : Nat) : (tR8 R j).map Prod.fst = R.map Prod.fst := by
 have e : ((R.take j).map tI8).map Prod.fst = (R.take j).map Prod.fst := by rw [List.map_map]; rfl
 unfold tR8
 rw [List.map_append, e, <- List.map_append, List.take_append_drop]
set_option maxRecDepth 20000 in
set_option maxHeartbeats 2000000 in
theorem rbturn8_any (w0 : World) (A : Nat -> Prop) (r : Nat) (lv : Value) (R : List It8) (Y : World) (h : RB8 w0 A r lv R Y) (hp : ∀ x ∈ R, x.2 = 1 ∨ x.2 = 2 ∨ x.2 = 4) (hl : R.length <= 1000000000) :
  Calls Tryz.prog 15 #[.pointer (some ⟨r, 0, none⟩)] Y fun e Y' => e = .returned (.int .i64 (((Ei R).filter fun x => hp7 4 x.2).length : Int)) /\ RB8 w0 A r lv (R.map tI8) Y' /\ Fr A Y Y' := by
 have H := hm7 h
 have HP := hm7 hp
 obtain ⟨la, lc, rfl⟩ := h.l.o.form
 clear h hp
 go_enter Tryz.func15, Tryz.ntmps15
 go_wp2
 go_loopg [4, 3] R.length (fun gg i c wr => ∃ j : Nat, j + gg = R.length /\ i = .int .i64 j /\ c = .int .i64 (pc8 R 4 j : Int) /\ pc8 R 4 j <= j /\ Fr (fun b => (Value.slice la R.length lc).ownBlock = some b) Y wr /\ EnL wr w0.heap.size (.slice la R.length lc) (tR8 R j))
 case atStart => exact ⟨0, by omega, rfl, rfl, by simp [pc8, Ei], Fr.refl _ _, by have := H.out.l; simpa [tR8] using this⟩
 case round =>
  obtain ⟨j, hj, rfl, rfl, hcj, hf, ho⟩ := hrel
  have c0 : wr.cell? ⟨r, 0, none⟩ = some (.slice la R.length lc) := (H.out.b.fr hf H.out.rn).cell rfl
  have HF := hm7 hf
  have HO := hm7 ho
  clear hf ho
  cases gk with
  | succ gg =>
   have hlt : (j : Int) < (R.length : Int) := by omega
   have j0 : (0 : Int) <= (j : Int) := by omega
   obtain ⟨x, hx⟩ : ∃ x, R[j]? = some x := ⟨_, List.getElem?_eq_getElem (by omega)⟩
   have HTA := hm7 (tR8_at hx)
   have HTN := hm7 (tR8_next hx)
   have HST := hm7 (pc8_step (parts := 4) hx)
   have hpx := HP.out x (List.mem_of_getElem? hx)
   have his := HO.out.is
   obtain ⟨lb, lo, fa, fc, rfl, -, hc⟩ := his.get HTA.out
   obtain ⟨a0, cap0, ev, hg0⟩ : ∃ g cap, (Value.slice (some ⟨lb, lo, none⟩) R.length lc) = .slice (some ⟨g, 0, none⟩) R.length cap /\ wr.frozen? ⟨g, (j * 6 + 5), none⟩ = false := by
    rcases HO.out.o.2 with ⟨e, -⟩ | ⟨g, cap, cur, e, -, hg, -⟩
    ·cases e
    ·rw [tR8_len] at e
     exact ⟨g, cap, e, Bk.froz hg _⟩
   cases ev
   have c5 := (hc wr (Below.refl _ _)).2
   rw [hp7_four hpx] at HST
   rw [Nat.zero_add] at c5
   have HHJ := hm7 (And.intro hj hcj)
   have hw : (pc8 R 4 j : Int) <= 1000000000 := by omega
   have HSET : ∀ q : Int, Hid (EnL (wr.setCell ⟨lb, j * 6 + 5, none⟩ (.int .i64 q)) w0.heap.size (.slice (some ⟨lb, 0, none⟩) R.length lc) ((tR8 R j).set j (x.1, q))) := fun q => HO.out.part HTA.out q
   have HFS : ∀ q : Int, Hid (Fr (fun b => (Value.slice (some ⟨lb, 0, none⟩) R.length lc).ownBlock = some b) Y (wr.setCell ⟨lb, j * 6 + 5, none⟩ (.int .i64 q))) := fun q => HF.out.set (Or.inl rfl)
   clear hx his hc hj hcj
   obtain ⟨xf, px⟩ := x
   simp only at hpx c5 HST HSET
   rcases hpx with rfl | rfl | rfl
   ·have HSN : Hid ((tR8 R j).set j (tI8 (xf, 1)) = tR8 R j) := set_self7 HTA.out
    clear HSET HFS
    go_wp2
    go_roundg gg
    case measure => omega
    case rel => exact ⟨j + 1, by have := HHJ.out; omega, by go_num, by rw [HST.out]; rfl, by rw [HST.out]; have := HHJ.out; simp; omega, HF.out, by rw [HTN.out, HSN.out]; exact HO.out⟩
   ·have HS := HSET 1
    have HG := HFS 1
    clear HSET HFS
    go_wp2
    go_roundg gg
    case measure => omega
    case rel => exact ⟨j + 1, by have := HHJ.out; omega, by go_num, by rw [HST.out]; rfl, by rw [HST.out]; have := HHJ.out; simp; omega, HG.out, by rw [HTN.out]; exact HS.out⟩
   ·have HS := HSET 2
    have HG := HFS 2
    clear HSET HFS
    go_wp2
    go_roundg gg
    case measure => omega
    case rel => exact ⟨j + 1, by have := HHJ.out; omega, by go_num, by rw [HST.out]; go_num, by rw [HST.out]; have := HHJ.out; simp; omega, HG.out, by rw [HTN.out]; exact HS.out⟩
  | zero =>
   have hlt : ¬ (j : Int) < (R.length : Int) := by omega
   obtain rfl : j = R.length := by omega
   clear hcj hj
   go_wp2
   go_ret
   have e : tR8 R R.length = R.map tI8 := by simp [tR8]
   refine ⟨by unfold pc8; rw [List.take_length]; rfl, ?_, HF.out.mono fun b _ hb => (H.out.a b).2 (Or.inr (Or.inl hb))⟩
   have ho := HO.out
   rw [e] at ho
   exact H.out.parts HF.out ho (Ib_map (by rw [<- e]; exact tR8_fst _ _))
end Go.Proofs.YtechceagghcipabGreatDoor
namespace Go.Proofs.YtechceagghcipabGreatDoor
open Go.RowKit
def nd (l : List Bd) : Prop := l.Pairwise fun a b => ¬ a.x = b.x
theorem hasX_look (l : List Bd) (x : Int) : hasX l x = (look l x).isSome := by
 induction l with
 | nil => rfl
 | cons d l ih =>
  simp only [hasX, List.any_cons] at ih ⊢
  rw [look]
  by_cases h : d.x = x
  ·simp [h]
  ·rw [if_neg h, <- ih]; simp [h]
theorem look_append (l r : List Bd) (x : Int) : look (l ++ r) x = (look l x).or (look r x) := by
 induction l with
 | nil => simp [look]
 | cons e l ih =>
  rw [List.cons_append, look, look]
  by_cases he : e.x = x
  ·rw [if_pos he, if_pos he]; rfl
  ·rw [if_neg he, if_neg he, ih]
theorem look_one (d : Bd) (x : Int) : look [d] x = if d.x = x then some d.to else none := rfl
theorem fbS_look (l : List Bd) (d : Bd) (x : Int) : look (fbS l d) x = (look l x).or (look [d] x) := by
 unfold fbS
 split
 ·rename_i hh
  rw [hasX_look] at hh
  rw [look_one]
  by_cases he : d.x = x
  ·rw [<- he]
   obtain ⟨t, ht⟩ := Option.isSome_iff_exists.1 hh
   rw [ht]; rfl
  ·rw [if_neg he]; simp
 ·rw [look_append]
theorem foldl_look (s : List Bd) (x : Int) : ∀ l, look (s.foldl fbS l) x = (look l x).or (look s x) := by
 induction s with
 | nil => intro l; simp [look]
 | cons d s ih =>
  intro l
  rw [List.foldl_cons, ih, fbS_look, Option.or_assoc, <- look_append]
  rfl
theorem fb_look (s : List Bd) (x : Int) : look (fb s) x = look s x := by
 rw [fb, foldl_look]; simp [look]
theorem mem_look {l : List Bd} {x : Int} {q : Tm} (h : look l x = some q) : ⟨x, q⟩ ∈ l := by
 induction l with
 | nil => cases h
 | cons e l ih =>
  rw [look] at h
  by_cases he : e.x = x
  ·rw [if_pos he] at h
   obtain ⟨ex, et⟩ := e
   simp only [Option.some.injEq] at h he
   subst h he
   exact List.mem_cons_self
  ·rw [if_neg he] at h; exact List.mem_cons_of_mem _ (ih h)
theorem mGo_keep : ∀ (r : List (Tm × Tm)) (o out : List Bd) (x : Int) (q : Tm), look o x = some q -> mGo o r = some out -> look out x = some q := by
 intro r
 induction r with
 | nil => intro o out x q h e; simp [mGo] at e; subst e; exact h
 | cons y r ih =>
  intro o out x q h e
  simp only [mGo] at e
  split at e
  ·split at e
   ·split at e
    ·exact ih _ _ _ _ h e
    ·cases e
   ·exact ih _ _ _ _ (by rw [look_append, h]; rfl) e
  ·exact ih _ _ _ _ h e
theorem mGo_makes : ∀ (r : List (Tm × Tm)) (o out : List Bd), mGo o r = some out -> ∀ y ∈ r, y.1.var = true -> look out y.1.n = some y.2 := by
 intro r
 induction r with
 | nil => intro o out e y hy; cases hy
 | cons z r ih =>
  intro o out e y hy hv
  simp only [mGo] at e
  rcases List.mem_cons.1 hy with rfl | hy
  ·rw [if_pos hv] at e
   split at e
   ·rename_i q hq
    split at e
    ·rename_i h2; rw [<- h2]; exact mGo_keep _ _ _ _ _ hq e
    ·cases e
   ·rename_i hn
    exact mGo_keep _ _ _ _ _ (by rw [look_append, hn, look_one]; simp) e
  ·split at e
   ·split at e
    ·split at e
     ·exact ih _ _ e y hy hv
     ·cases e
    ·exact ih _ _ e y hy hv
   ·exact ih _ _ e y hy hv
theorem map_become (out : List Bd) : ∀ (p a : List Tm), p.length = a.length -> fixOk p a = true -> (∀ y ∈ p.zip a, y.1.var = true -> look out y.1.n = some y.2) -> p.map (become out) = a := by
 intro p
 induction p with
 | nil => intro a hl _ _; cases a with
  | nil => rfl
  | cons _ _ => cases hl
 | cons t p ih =>
  intro a hl hf hy
  cases a with
  | nil => cases hl
  | cons u a =>
   simp only [fixOk, List.zip_cons_cons, List.all_cons, Bool.and_eq_true] at hf
   rw [List.map_cons, ih a (by simpa using hl) hf.2 (fun y h => hy y (by rw [List.zip_cons_cons]; exact List.mem_cons_of_mem _ h))]
   congr 1
   unfold become
   cases hv : t.var with
   | true =>
    have := hy (t, u) (by rw [List.zip_cons_cons]; exact List.mem_cons_self) hv
    simp only at this
    rw [if_pos rfl, this]; rfl
   | false =>
    have := hf.1
    simp only [hv, Bool.false_or, decide_eq_true_eq] at this
    simpa using this
end Go.Proofs.YtechceagghcipabGreatDoor
namespace Go.Proofs.YtechceagghcipabGreatDoor
open Go.RowKit
theorem Tryz.infoInt : (Tryz.prog.info? 3).map (fun i => (i.zero, i.size, i.bytes)) = some (some (.int .i64 0), 1, 8) := by kernel_rfl
def ics (l : List Int) : List Value := l.map (Value.int .i64)
theorem ics_snoc (l : List Int) (n : Int) : ics (l ++ [n]) = ics l ++ [.int .i64 n] := by simp [ics]
def OwnI (w : World) (base : Nat) (v : Value) (l : List Int) : Prop := w.ownsRow base 3 1 v l.length (ics l)
theorem ownI_cells {w : World} {base g cap n : Nat} {l : List Int} (h : OwnI w base (.slice (some ⟨g, 0, none⟩) n cap) l) (j : Nat) (d : Int) (hd : l[j]? = some d) :
  w.cell? ⟨g, j, none⟩ = some (.int .i64 d) := by
 rcases h.2 with ⟨h, _⟩ | ⟨g', cap', cur, hv, hb, hg, hn, hc, hs, ht⟩
 ·cases h
 ·simp only [Value.slice.injEq, Option.some.injEq, Addr.mk.injEq] at hv
  obtain ⟨⟨rfl, -⟩, -, rfl⟩ := hv
  have hj := (List.getElem?_eq_some_iff.1 hd).1
  have e : (ics l)[j]? = some (.int .i64 d) := by simp [ics, hd]
  rw [cell_of_row _ _ _ _ _ _ hg, <- e, <- ht, List.getElem?_take_of_lt (by omega)]
  simp
theorem OwnI.lt {w : World} {base : Nat} {v : Value} {l : List Int} (h : OwnI w base v l) : ∀ k, v.ownBlock = some k -> base <= k /\ k < w.heap.size := World.ownsRow.lt h
theorem OwnI.mono {w : World} {b b' : Nat} {v : Value} {l : List Int} (h : OwnI w b v l) (hb : b' <= b) : OwnI w b' v l := by
 refine ⟨h.1, ?_⟩
 rcases h.2 with hn | ⟨g, cap, cur, hv, hbb, rest⟩
 ·exact Or.inl hn
 ·exact Or.inr ⟨g, cap, cur, hv, Nat.le_trans hb hbb, rest⟩
theorem OwnI.later {w w' : World} {base : Nat} {v : Value} {l : List Int} (h : OwnI w base v l) (hb : Below w.heap.size w w') : OwnI w' base v l := by
 refine ⟨h.1, ?_⟩
 rcases h.2 with hn | ⟨g, cap, cur, hv, hbb, hg, rest⟩
 ·exact Or.inl hn
 ·exact Or.inr ⟨g, cap, cur, hv, hbb, (hb.block _ (Array.getElem?_eq_some_iff.1 hg).1).trans hg, rest⟩
theorem ownI_nil (w : World) (base : Nat) : OwnI w base (.slice none 0 0) [] := World.ownsRow_nil _ _ _ _
theorem ownI_form {w : World} {base : Nat} {v : Value} {l : List Int} (h : OwnI w base v l) (hn : 0 < l.length) :
  ∃ g cap, v = .slice (some ⟨g, 0, none⟩) l.length cap /\ base <= g /\ g < w.heap.size := World.ownsRow.form h hn
theorem ownI_len {w : World} {base : Nat} {v : Value} {l : List Int} (h : OwnI w base v l) : ∃ a cap, v = .slice a l.length cap := by
 rcases h.2 with ⟨rfl, hn⟩ | ⟨g, cap, cur, hv, -⟩
 ·exact ⟨none, 0, by rw [hn]⟩
 ·exact ⟨_, cap, hv⟩
def vS (l : List Int) (t : Tm) : List Int := if t.var then (if l.any (fun n => decide (n = t.n)) then l else l ++ [t.n]) else l
def vs (pl : List Tm) : List Int := pl.foldl vS []
theorem vs_take (s : List Tm) (k : Nat) (d : Tm) (h : s[k]? = some d) : vs (s.take (k + 1)) = vS (vs (s.take k)) d := by
 obtain ⟨hk, rfl⟩ := List.getElem?_eq_some_iff.1 h
 rw [List.take_succ_eq_append_getElem hk, vs, List.foldl_append]; rfl
theorem vS_len (l : List Int) (d : Tm) : (vS l d).length <= l.length + 1 := by
 unfold vS; split
 ·split <;> simp
 ·simp
theorem vs_len (s : List Tm) : (vs s).length <= s.length := by
 have : ∀ s l, (List.foldl vS l s).length <= l.length + s.length := by
  intro s
  induction s with
  | nil => intro l; simp
  | cons d s ih => intro l; have := ih (vS l d); have := vS_len l d; simp only [List.foldl_cons, List.length_cons]; omega
 have := this s []
 simpa [vs] using this
def hasI (l : List Int) (x : Int) : Bool := l.any fun n => decide (n = x)
theorem hasI_no (l : List Int) (x : Int) (j : Nat) (d : Int) (h : l[j]? = some d) (hn : hasI (l.take j) x = false) (hd : ¬ d = x) : hasI (l.take (j + 1)) x = false := by
 obtain ⟨hk, rfl⟩ := List.getElem?_eq_some_iff.1 h
 rw [List.take_succ_eq_append_getElem hk, hasI, List.any_append]
 rw [hasI] at hn
 rw [hn]; simpa using hd
theorem hasI_yes (l : List Int) (x : Int) (j : Nat) (d : Int) (h : l[j]? = some d) (hd : d = x) : hasI l x = true := by
 obtain ⟨hk, rfl⟩ := List.getElem?_eq_some_iff.1 h
 simp only [hasI, List.any_eq_true, decide_eq_true_eq]; exact ⟨_, List.getElem_mem hk, hd⟩
theorem vS_old (l : List Int) (d : Tm) (hv : d.var = true) (h : hasI l d.n = true) : vS l d = l := by
 unfold hasI at h; unfold vS; rw [if_pos hv, if_pos h]
theorem vS_new (l : List Int) (d : Tm) (hv : d.var = true) (h : hasI l d.n = false) : vS l d = l ++ [d.n] := by
 unfold hasI at h; unfold vS; rw [if_pos hv, if_neg (by simp [h])]
theorem vS_not (l : List Int) (d : Tm) (hv : d.var = false) : vS l d = l := by
 unfold vS; rw [hv]; rfl
end Go.Proofs.YtechceagghcipabGreatDoor
namespace Go.Proofs.YtechceagghcipabGreatDoor
open Go.RowKit
theorem become_not (s : List Bd) (t : Tm) (h : t.var = false) : become s t = t := by
 unfold become; rw [h]; rfl
theorem fix_made (s : List Bd) (pl : List Tm) : fixOk pl (pl.map (become s)) = true := by
 induction pl with
 | nil => rfl
 | cons t pl ih =>
  simp only [fixOk, List.map_cons, List.zip_cons_cons, List.all_cons] at ih ⊢
  rw [ih, Bool.and_true]
  cases h : t.var with
  | true => rfl
  | false => simp [become_not s t h]
def At.made (s : List Bd) (p : At) : At := ⟨become s p.by_, p.name, p.args.map (become s)⟩
theorem made_pl (s : List Bd) (p : At) : (p.made s).pl = p.pl.map (become s) := rfl
end Go.Proofs.YtechceagghcipabGreatDoor
namespace Go.Proofs.YtechceagghcipabGreatDoor
open Go.RowKit
def rS (all : List Bd) (y : Tm × Tm) : List Bd := if (y.1.var && (look all y.1.n).isNone) = true then all ++ [⟨y.1.n, y.2⟩] else all
def rGo (all : List Bd) (r : List (Tm × Tm)) : List Bd := r.foldl rS all
theorem rS_not {all : List Bd} {y : Tm × Tm} (h : y.1.var = false) : rS all y = all := by unfold rS; rw [h]; rfl
theorem rS_old {all : List Bd} {y : Tm × Tm} {q : Tm} (h : look all y.1.n = some q) : rS all y = all := by unfold rS; rw [h]; simp
theorem rS_new {all : List Bd} {y : Tm × Tm} (hv : y.1.var = true) (h : look all y.1.n = none) : rS all y = all ++ [⟨y.1.n, y.2⟩] := by unfold rS; rw [hv, h]; rfl
theorem rS_keep {all : List Bd} {y : Tm × Tm} {x : Int} {q : Tm} (h : look all x = some q) : look (rS all y) x = some q := by
 unfold rS
 split
 ·rw [look_append, h]; rfl
 ·exact h
theorem rGo_keep : ∀ (r : List (Tm × Tm)) (all : List Bd) (x : Int) (q : Tm), look all x = some q -> look (rGo all r) x = some q := by
 intro r
 induction r with
 | nil => intro all x q h; exact h
 | cons y r ih => intro all x q h; exact ih _ _ _ (rS_keep h)
theorem rGo_has : ∀ (r : List (Tm × Tm)) (all : List Bd) (y : Tm × Tm), y ∈ r -> y.1.var = true -> ∃ q, look (rGo all r) y.1.n = some q := by
 intro r
 induction r with
 | nil => intro all y h; cases h
 | cons z r ih =>
  intro all y h hv
  rcases List.mem_cons.1 h with rfl | h
  ·cases e : look all y.1.n with
   | some q => exact ⟨q, rGo_keep (y :: r) all _ q e⟩
   | none =>
    refine ⟨y.2, rGo_keep r (rS all y) _ _ ?_⟩
    rw [rS_new hv e, look_append, e, look_one, if_pos rfl]; rfl
  ·exact ih _ _ h hv
theorem look_snoc {o all : List Bd} (h : ∀ x, look o x = look all x) (d : Bd) : ∀ x, look (o ++ [d]) x = look (all ++ [d]) x := fun x => by
 rw [look_append, look_append, h]
theorem mGo_rGo : ∀ (r : List (Tm × Tm)) (o all : List Bd), (∀ x, look o x = look all x) →
  (∀ out, mGo o r = some out -> ∀ x, look out x = look (rGo all r) x) /\ (mGo o r = none -> ∃ y ∈ r, y.1.var = true /\ look (rGo all r) y.1.n ≠ some y.2) := by
 intro r
 induction r with
 | nil => intro o all h; exact ⟨fun out e => by simp [mGo] at e; subst e; exact h, fun e => by simp [mGo] at e⟩
 | cons y r ih =>
  intro o all h
  have hr : rGo all (y :: r) = rGo (rS all y) r := rfl
  rw [mGo, hr]
  cases hv : y.1.var with
  | false =>
   rw [rS_not hv]
   obtain ⟨h1, h2⟩ := ih o all h
   simp only [Bool.false_eq_true, if_false]
   exact ⟨h1, fun e => by obtain ⟨z, hz, hh⟩ := h2 e; exact ⟨z, List.mem_cons_of_mem _ hz, hh⟩⟩
  | true =>
   simp only [if_true]
   cases e : look o y.1.n with
   | some q =>
    have ha : look all y.1.n = some q := by rw [<- h]; exact e
    rw [rS_old ha]
    simp only
    by_cases hq : q = y.2
    ·rw [if_pos hq]
     obtain ⟨h1, h2⟩ := ih o all h
     exact ⟨h1, fun e => by obtain ⟨z, hz, hh⟩ := h2 e; exact ⟨z, List.mem_cons_of_mem _ hz, hh⟩⟩
    ·rw [if_neg hq]
     refine ⟨fun out e => (by cases e), fun _ => ⟨y, List.mem_cons_self, hv, ?_⟩⟩
     rw [rGo_keep r all _ q ha]
     exact fun hh => hq (Option.some.inj hh)
   | none =>
    have ha : look all y.1.n = none := by rw [<- h]; exact e
    rw [rS_new hv ha]
    simp only
    obtain ⟨h1, h2⟩ := ih (o ++ [⟨y.1.n, y.2⟩]) (all ++ [⟨y.1.n, y.2⟩]) (look_snoc h _)
    exact ⟨h1, fun e => by obtain ⟨z, hz, hh⟩ := h2 e; exact ⟨z, List.mem_cons_of_mem _ hz, hh⟩⟩
def rOk (p a : At) : Bool := shB p a && !(p.by_.var && decide (a.by_.k = 0))
def rAll (p a : At) (s : List Bd) : List Bd := rGo s (p.pl.zip a.pl)
theorem fix_of_map (all : List Bd) : ∀ (p a : List Tm), p.map (become all) = a -> fixOk p a = true := by
 intro p a h
 subst h
 exact fix_made all p
theorem zip_of_map (all : List Bd) : ∀ (p a : List Tm), p.map (become all) = a -> ∀ y ∈ p.zip a, y.2 = become all y.1 := by
 intro p
 induction p with
 | nil => intro a h y hy; cases hy
 | cons t p ih =>
  intro a h y hy
  subst h
  rw [List.map_cons, List.zip_cons_cons] at hy
  rcases List.mem_cons.1 hy with rfl | hy
  ·rfl
  ·exact ih _ rfl y hy
theorem made_iff (p a : At) (all : List Bd) (hn : p.name = a.name) : p.made all = a ↔ p.pl.map (become all) = a.pl := by
 obtain ⟨b, n, l⟩ := a
 obtain ⟨b', n', l'⟩ := p
 simp only at hn
 simp only [At.made, At.pl, List.map_cons, List.cons.injEq, At.mk.injEq]
 exact ⟨fun h => ⟨h.1, h.2.2⟩, fun h => ⟨h.1, hn, h.2⟩⟩
theorem match_same (p a : At) (s : List Bd) :
  (mRes p a s = none /\ (rOk p a = false ∨ ¬ p.made (rAll p a s) = a)) ∨ (∃ out, mRes p a s = some out /\ rOk p a = true /\ p.made (rAll p a s) = a /\ ∀ x, look out x = look (rAll p a s) x) := by
 cases hr : rOk p a with
 | false =>
  refine Or.inl ⟨?_, Or.inl rfl⟩
  unfold mRes
  rw [if_neg]
  intro h
  unfold rOk at hr
  simp only [mOk, Bool.and_eq_true] at h
  rw [h.1.1, h.2] at hr; cases hr
 | true =>
  have hsh : shB p a = true /\ (!(p.by_.var && decide (a.by_.k = 0))) = true := by simpa [rOk] using hr
  have hn : p.name = a.name := by
   have := hsh.1; simp only [shB, Bool.and_eq_true, beq_iff_eq] at this; exact toList_inj this.1
  have hl : p.pl.length = a.pl.length := by
   have := hsh.1; simp only [shB, Bool.and_eq_true, beq_iff_eq] at this; simp [At.pl, this.2]
  cases hf : fixOk p.pl a.pl with
  | false =>
   refine Or.inl ⟨?_, Or.inr fun h => ?_⟩
   ·unfold mRes; rw [if_neg]; intro h; simp only [mOk, Bool.and_eq_true] at h; rw [hf] at h; cases h.1.2
   ·rw [fix_of_map _ _ _ ((made_iff p a _ hn).1 h)] at hf; cases hf
  | true =>
   have hm : mOk p a = true := by unfold mOk; rw [hsh.1, hf, hsh.2]; rfl
   obtain ⟨h1, h2⟩ := mGo_rGo (p.pl.zip a.pl) (fb s) s (fun x => fb_look s x)
   have he : mRes p a s = mGo (fb s) (p.pl.zip a.pl) := by unfold mRes; rw [if_pos hm]
   rw [he]
   cases hg : mGo (fb s) (p.pl.zip a.pl) with
   | none =>
    refine Or.inl ⟨rfl, Or.inr fun h => ?_⟩
    obtain ⟨y, hy, hv, hne⟩ := h2 hg
    obtain ⟨q, hq⟩ := rGo_has _ s y hy hv
    have := zip_of_map _ _ _ ((made_iff p a _ hn).1 h) y hy
    refine hne ?_
    rw [hq, this]
    unfold become rAll
    rw [if_pos hv, hq]; rfl
   | some out =>
    refine Or.inr ⟨out, rfl, rfl, (made_iff p a _ hn).2 ?_, h1 out hg⟩
    refine map_become _ _ _ hl hf (fun y hy hv => ?_)
    rw [rAll, <- h1 out hg]
    exact mGo_makes _ _ _ hg y hy hv
def up (l : List Bd) : Prop := l.Pairwise fun a b => a.x < b.x
end Go.Proofs.YtechceagghcipabGreatDoor
namespace Go.Proofs.YtechceagghcipabGreatDoor
open Go.RowKit
attribute [local go_sem ↓] Go.wp_at_zero Go.wp_at_succ
def fr (out : List Bd) (x : Int) : Bool := match out.getLast? with
 | none => true
 | some d => decide (d.x < x)
theorem fr_snoc (out : List Bd) (d : Bd) (x : Int) : fr (out ++ [d]) x = decide (d.x < x) := by unfold fr; rw [List.getLast?_append]; rfl
def SInv (s out : List Bd) : Prop := up out /\ ∀ x, fr out x = false -> look out x = look s x
def cnt (s out : List Bd) : Nat := (s.filter fun d => fr out d.x).length
theorem look_ne {l : List Bd} {x : Int} (h : ∀ d ∈ l, ¬ d.x = x) : look l x = none := by
 induction l with
 | nil => rfl
 | cons d l ih =>
  rw [look, if_neg (h d List.mem_cons_self)]
  exact ih fun e he => h e (List.mem_cons_of_mem _ he)
theorem up_lt {out : List Bd} {x : Int} (hu : up out) (h : fr out x = true) : ∀ d ∈ out, d.x < x := by
 rcases List.eq_nil_or_concat out with rfl | ⟨ys, e, rfl⟩
 ·intro d hd; cases hd
 ·intro d hd
  rw [List.concat_eq_append] at *
  rw [fr_snoc, decide_eq_true_eq] at h
  rcases List.mem_append.1 hd with hd | hd
  ·have := (List.pairwise_append.1 hu).2.2 d hd e (List.mem_singleton.2 rfl); omega
  ·rw [List.mem_singleton.1 hd]; exact h
theorem up_none {out : List Bd} {x : Int} (hu : up out) (h : fr out x = true) : look out x = none :=
 look_ne fun d hd e => by have := up_lt hu h d hd; omega
theorem look_first : ∀ (s : List Bd) (i : Nat) (d : Bd), s[i]? = some d -> (∀ j e, j < i -> s[j]? = some e -> ¬ e.x = d.x) -> look s d.x = some d.to := by
 intro s
 induction s with
 | nil => intro i d h; simp at h
 | cons a s ih =>
  intro i d h hf
  cases i with
  | zero => simp only [List.getElem?_cons_zero, Option.some.injEq] at h; subst h; rw [look, if_pos rfl]
  | succ i =>
   simp only [List.getElem?_cons_succ] at h
   rw [look, if_neg (hf 0 a (by omega) (by simp))]
   exact ih i d h fun j e hj he => hf (j + 1) e (by omega) (by simpa using he)
theorem sinv_start (s : List Bd) : SInv s [] := ⟨List.Pairwise.nil, fun x h => by cases h⟩
theorem sinv_end {s out : List Bd} (h : SInv s out) (hn : ∀ (i : Nat) (e : Bd), s[i]? = some e -> fr out e.x = false) : ∀ x, look out x = look s x := fun x => by
 cases hf : fr out x with
 | false => exact h.2 x hf
 | true =>
  rw [up_none h.1 hf, look_ne]
  intro d hd e
  obtain ⟨i, hi, rfl⟩ := List.getElem_of_mem hd
  have := hn i _ (List.getElem?_eq_getElem hi)
  rw [e, hf] at this; cases this
theorem sinv_step {s out : List Bd} (h : SInv s out) {i0 : Nat} {d : Bd} (hd : s[i0]? = some d) (hf : fr out d.x = true)
  (hm : ∀ (i : Nat) (e : Bd), s[i]? = some e -> fr out e.x = true -> d.x <= e.x) (h1 : ∀ (i : Nat) (e : Bd), i < i0 -> s[i]? = some e -> ¬ e.x = d.x) : SInv s (out ++ [d]) /\ cnt s (out ++ [d]) < cnt s out := by
 refine ⟨⟨?_, fun x hx => ?_⟩, ?_⟩
 ·exact List.pairwise_append.2 ⟨h.1, List.pairwise_singleton _ _, fun a ha b hb => by rw [List.mem_singleton.1 hb]; exact up_lt h.1 hf a ha⟩
 ·rw [fr_snoc, decide_eq_false_iff_not] at hx
  rw [look_append, look_one]
  cases hfx : fr out x with
  | false =>
   rw [h.2 x hfx]
   rw [if_neg (fun e => by rw [<- e, hf] at hfx; cases hfx)]
   cases look s x <;> rfl
  | true =>
   rw [up_none h.1 hfx]
   by_cases e : d.x = x
   ·rw [if_pos e, <- e, look_first s i0 d hd h1]; rfl
   ·rw [if_neg e, look_ne]
    ·rfl
    ·intro a ha ea
     obtain ⟨i, hi, rfl⟩ := List.getElem_of_mem ha
     have := hm i _ (List.getElem?_eq_getElem hi) (by rw [ea]; exact hfx)
     omega
 ·unfold cnt
  have e : (s.filter fun a => fr (out ++ [d]) a.x) = (s.filter fun a => fr out a.x).filter fun a => fr (out ++ [d]) a.x := by
   rw [List.filter_filter]
   apply List.filter_congr
   intro a _
   rw [fr_snoc]
   by_cases hh : d.x < a.x
   ·rw [decide_eq_true hh, Bool.true_and]
    symm
    rcases List.eq_nil_or_concat out with rfl | ⟨ys, z, rfl⟩
    ·rfl
    ·rw [List.concat_eq_append] at *
     rw [fr_snoc, decide_eq_true_eq] at hf ⊢; omega
   ·rw [decide_eq_false hh, Bool.false_and]
  rw [e, List.length_filter_lt_length_iff_exists]
  refine ⟨d, List.mem_filter.2 ⟨List.mem_of_getElem? hd, hf⟩, ?_⟩
  rw [fr_snoc]; simp
def AtI (s out : List Bd) (j : Nat) (a : Int) : Prop :=
 (a = -1 /\ ∀ (i : Nat) (e : Bd), i < j -> s[i]? = some e -> fr out e.x = false) ∨
 ∃ (i0 : Nat) (d : Bd), a = (i0 : Int) /\ i0 < j /\ s[i0]? = some d /\ fr out d.x = true /\ (∀ (i : Nat) (e : Bd), i < j -> s[i]? = some e -> fr out e.x = true -> d.x <= e.x) /\ (∀ (i : Nat) (e : Bd), i < i0 -> s[i]? = some e -> ¬ e.x = d.x)
theorem at_no {s out : List Bd} {j : Nat} {a : Int} {e : Bd} (h : AtI s out j a) (he : s[j]? = some e) (hf : fr out e.x = false) : AtI s out (j + 1) a := by
 rcases h with ⟨rfl, h⟩ | ⟨i0, d, rfl, h0, h1, h2, h3, h4⟩
 ·refine Or.inl ⟨rfl, fun i e' hi he' => ?_⟩
  rcases Nat.lt_or_ge i j with hh | hh
  ·exact h i e' hh he'
  ·obtain rfl : i = j := by omega
   rw [he] at he'; cases he'; exact hf
 ·refine Or.inr ⟨i0, d, rfl, by omega, h1, h2, fun i e' hi he' hfe => ?_, h4⟩
  rcases Nat.lt_or_ge i j with hh | hh
  ·exact h3 i e' hh he' hfe
  ·obtain rfl : i = j := by omega
   rw [he] at he'; cases he'; rw [hf] at hfe; cases hfe
theorem at_new {s out : List Bd} {j : Nat} {e : Bd} (h : ∀ (i : Nat) (e : Bd), i < j -> s[i]? = some e -> fr out e.x = false) (he : s[j]? = some e) (hf : fr out e.x = true) : AtI s out (j + 1) j := by
 refine Or.inr ⟨j, e, rfl, by omega, he, hf, fun i e' hi he' hfe => ?_, fun i e' hi he' hx => ?_⟩
 ·rcases Nat.lt_or_ge i j with hh | hh
  ·rw [h i e' hh he'] at hfe; cases hfe
  ·obtain rfl : i = j := by omega
   rw [he] at he'; cases he'; exact Int.le_refl _
 ·have := h i e' hi he'
  rw [hx, hf] at this; cases this
theorem at_less {s out : List Bd} {j : Nat} {d e : Bd} (hm : ∀ (i : Nat) (e : Bd), i < j -> s[i]? = some e -> fr out e.x = true -> d.x <= e.x) (he : s[j]? = some e) (hf : fr out e.x = true) (hl : e.x < d.x) : AtI s out (j + 1) j := by
 refine Or.inr ⟨j, e, rfl, by omega, he, hf, fun i e' hi he' hfe => ?_, fun i e' hi he' hx => ?_⟩
 ·rcases Nat.lt_or_ge i j with hh | hh
  ·have := hm i e' hh he' hfe; omega
  ·obtain rfl : i = j := by omega
   rw [he] at he'; cases he'; exact Int.le_refl _
 ·have := hm i e' hi he' (by rw [hx]; exact hf); omega
theorem at_more {s out : List Bd} {j i0 : Nat} {d e : Bd} (h0 : i0 < j) (h1 : s[i0]? = some d) (h2 : fr out d.x = true) (hm : ∀ (i : Nat) (e : Bd), i < j -> s[i]? = some e -> fr out e.x = true -> d.x <= e.x) (h4 : ∀ (i : Nat) (e : Bd), i < i0 -> s[i]? = some e -> ¬ e.x = d.x) (he : s[j]? = some e) (hl : ¬ e.x < d.x) : AtI s out (j + 1) i0 := by
 refine Or.inr ⟨i0, d, rfl, by omega, h1, h2, fun i e' hi he' hfe => ?_, h4⟩
 rcases Nat.lt_or_ge i j with hh | hh
 ·exact hm i e' hh he' hfe
 ·obtain rfl : i = j := by omega
  rw [he] at he'; cases he'; omega
end Go.Proofs.YtechceagghcipabGreatDoor

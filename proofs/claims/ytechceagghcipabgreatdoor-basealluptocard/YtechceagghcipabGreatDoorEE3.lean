import Derived.Test.YtechceagghcipabGreatDoorRA2
import Derived.Test.YtechceagghcipabGreatDoorEE2
namespace Go.Proofs.YtechceagghcipabGreatDoor
open Go.RowKit Go.Shelf
attribute [local go_sem] Oper.semAt_some
def at8 (T : List Tm) (nm : ByteArray) (r : List Int) : At := ⟨T[(r[0]?.getD 0).toNat]?.getD zt, nm, r.tail.map fun i => T[i.toNat]?.getD zt⟩
theorem thing8_of {T : List Tm} {t : Tm} (h : (ix8 T t).isSome = true) : T[((((ix8 T t).getD 0 : Nat) : Int)).toNat]?.getD zt = t := by
 obtain ⟨i, hi⟩ := Option.isSome_iff_exists.1 h
 rw [hi]
 simp [ix8_some hi]
theorem at8_nm {T : List Tm} {a : At} (h : kn8 T a.pl = true) : at8 T a.name (nm8 T a.pl) = a := by
 obtain ⟨b, nm, l⟩ := a
 have h' := List.all_eq_true.1 h
 have e1 := thing8_of (h' b (by simp [At.pl]))
 have e2 : (l.map fun t => (((ix8 T t).getD 0 : Nat) : Int)).map (fun i => T[i.toNat]?.getD zt) = l := by
  rw [List.map_map]
  conv => rhs; rw [<- List.map_id l]
  apply List.map_congr_left
  intro t ht
  exact thing8_of (h' t (by simp [At.pl, ht]))
 unfold at8 nm8 At.pl
 simp only [List.map_cons, List.getElem?_cons_zero, Option.getD_some, List.tail_cons]
 rw [e1, e2]
def RowOf (T : List Tm) (nm : ByteArray) (n : Nat) (r : List Int) : Prop := ∃ a : At, a.name = nm /\ a.args.length = n /\ kn8 T a.pl = true /\ r = nm8 T a.pl
theorem RowOf.at {T : List Tm} {nm : ByteArray} {n : Nat} {r : List Int} (h : RowOf T nm n r) : (at8 T nm r).name = nm /\ (at8 T nm r).args.length = n /\ kn8 T (at8 T nm r).pl = true /\ nm8 T (at8 T nm r).pl = r := by
 obtain ⟨a, rfl, rfl, h1, rfl⟩ := h
 rw [at8_nm h1]
 exact ⟨rfl, rfl, h1, rfl⟩
def AtO (W : World) (base : Nat) (v : Value) (a : At) : Prop := ∃ A, v = a.v (.slice (some ⟨A, 0, none⟩) a.args.length a.args.length) /\ TBlk W A a.args a.args.length /\ base <= A
structure HD0 (g : Nat) (tv : Value) (mn mr : Nat) (T : List Tm) (nm : ByteArray) (n : Nat) (parts : Int) (cols keys : List Int) (cv kv : Value) (b gp : Nat) (F S G N : Nat -> Prop) (m : Nat) (s : St7) (W : World) : Prop where
 h : HV8 g nm n parts cv kv b W
 t : TB8 g tv mn (.map (some mr)) T W
 l : ∀ X : World, Below W.heap.size W X -> (Instr.lookup 42 (.map (some mr)) (.agg #[.string nm, .int .i64 (n : Int)]) false).run Tryz.prog X = .ok (.pointer (some ⟨gp, 0, none⟩)) X
 r : RM W gp F S m s
 c : Li G W cv cols
 k : Li N W kv keys
def HEff (gp : Nat) (F S : Nat -> Prop) (m : Nat) (s : St7) (W : World) (D : Nat) (W1 : World) : Prop :=
 ∃ F' S' : Nat -> Prop, RM W1 gp F' S' (m + 1) s /\ Fr F W W1 /\ (∀ b, F' b ∨ S' b -> (F b ∨ S b ∨ W.heap.size <= b) /\ b < W1.heap.size /\ b ≠ D /\ b ≠ D + 1) /\ W.heap.size <= D /\ D + 1 < W1.heap.size
def HK8 (g : Nat) (tv : Value) (mn mr : Nat) (T : List Tm) (nm : ByteArray) (n b : Nat) (S : Nat -> Prop) (W W1 : World) : Prop :=
 TB8 g tv mn (.map (some mr)) T W1 /\ Bk W1 b #[.pointer (some ⟨g, 0, none⟩)] 25 /\ Bk W1 (b + 1) #[.string nm, .int .i64 (n : Int)] 72 /\ ∀ x, S x -> W1.heap[x]? = W.heap[x]?
theorem FI.up {w v w' : World} {g : Nat} {parts : Int} {wd : Nat} {cols keys : List Int} {e : Ending} (h : FI v g parts wd cols keys e w') (hb : Below w.heap.size w v) : FI w g parts wd cols keys e w' := by
 obtain ⟨h1, b1, b2, b3, b4, b5, rfl, ⟨p1, p2, p3, p4, p5⟩, hc⟩ := h
 have hs := hb.size
 refine ⟨below_step hb h1, b1, b2, b3, b4, b5, rfl, by omega, hc.imp id ?_⟩
 rintro ⟨sv, nv, l, q1, q2, q3, q4, q5, q6, q7⟩
 exact ⟨sv, nv, l, q1, q2, q3, q4, q5, q6.mono hs, q7.mono hs⟩
theorem map_pre {α β : Type} (f : α -> β) {pre xs : List α} (h : pre <+: xs) : pre.map f <+: xs.map f := by
 obtain ⟨t, rfl⟩ := h
 exact ⟨t.map f, by simp⟩
set_option maxRecDepth 100000 in
set_option maxHeartbeats 1000000 in
theorem having_seq (g : Nat) (tv : Value) (mn mr : Nat) (T : List Tm) (nm : ByteArray) (n : Nat) (parts : Int) (cols keys : List Int) (cv kv : Value) (b gp : Nat) (F S G N : Nat -> Prop) (m : Nat) (s : St7) (hw : w64 keys) (hc : w64 cols) (hl : cols.length <= 1000000000) (hm : m <= 100000000000000) (hn : n <= 1000000000)
  (hrow : ∀ r ∈ s.rows, RowOf T nm n r) :
  SeqG Tryz.prog 76 #[.pointer (some ⟨b, 0, none⟩), .pointer (some ⟨b + 1, 0, none⟩), .pointer (some ⟨b + 2, 0, none⟩), .pointer (some ⟨b + 3, 0, none⟩), .pointer (some ⟨b + 4, 0, none⟩)] AtO ((fnd8 s parts cols keys).map (at8 T nm)) (HD0 g tv mn mr T nm n parts cols keys cv kv b gp F S G N m s) (HEff gp F S m s) (HK8 g tv mn mr T nm n b S) := by
 intro nn l J Jx W hd hEff hK hJ hJx hY
 obtain ⟨W0, hW0⟩ : ∃ W0, W.alloc (.cells #[.func (.yield l) #[] #[]] 66) = W0 := ⟨_, rfl⟩
 have hb0 : Below W.heap.size W W0 := by rw [<- hW0]; exact below1 _ _
 have hz0 : W0.heap.size = W.heap.size + 1 := by rw [<- hW0]; simp
 have HYB : Hid (Bk W0 W.heap.size #[.func (.yield l) #[] #[]] 66) := by show Bk _ _ _ _; rw [<- hW0]; exact Bk.new _ _ _
 have HB0 := hm7 hb0
 have HBK := hm7 (hd.t.b.below hb0)
 have H0 := hm7 (hd.h.below hb0)
 have HLK : Hid (∀ X : World, Below W0.heap.size W0 X -> (Instr.lookup 42 (.map (some mr)) (.agg #[.string nm, .int .i64 (n : Int)]) false).run Tryz.prog X = .ok (.pointer (some ⟨gp, 0, none⟩)) X) := fun X hX => hd.l X (below_step hb0 hX)
 have HFD : Hid (∀ X : World, Below W0.heap.size W0 X -> Calls Tryz.prog 77 #[.pointer (some ⟨gp, 0, none⟩), .int .i64 parts, cv, kv] X (FI X gp parts s.wd cols keys)) := fun X hX => find8_any gp F S G N m s parts cols keys cv kv X ((hd.r.below hb0).below hX) ((hd.c.below hb0).below hX) ((hd.k.below hb0).below hX) hl
 obtain ⟨ca, cn, cc, rfl⟩ : ∃ a n c, cv = .slice a n c := by obtain ⟨a, c, e, -⟩ := hd.c; exact ⟨_, _, _, e⟩
 obtain ⟨ka, kn, kc, rfl⟩ : ∃ a n c, kv = .slice a n c := by obtain ⟨a, c, e, -⟩ := hd.k; exact ⟨_, _, _, e⟩
 have HR := hm7 hd.r
 have HEff := hm7 hEff
 have HK := hm7 hK
 have HJ := hm7 hJ
 have HJx := hm7 hJx
 have HY := hm7 hY
 have HT := hm7 hd.t
 clear hd hEff hK hY hJ hJx hb0
 refine callsIn_of_wp_marks Tryz.func76 rfl trivial ?_ rfl
 simp only [Tryz.ntmps76, List.size_toArray, List.length_cons, List.length_nil, Nat.reduceAdd, Nat.reduceSub, Array.replicate_succ, Array.replicate_zero, List.push_toArray, List.append_toArray, List.nil_append, List.cons_append]
 gi_wp2
 try rw [hW0]
 clear hW0
 refine wpIn_mono (Q := NQ fun a' W1 => ∃ b1 b2 b3 b4 b5, a' = { tmps := #[.func (.yield l) #[] #[], .pointer (some ⟨b, 0, none⟩), .pointer (some ⟨b + 1, 0, none⟩), .pointer (some ⟨b + 2, 0, none⟩), .pointer (some ⟨b + 3, 0, none⟩), .pointer (some ⟨b + 4, 0, none⟩), .pointer (some ⟨W.heap.size, 0, none⟩), undef, .pointer (some ⟨g, 0, none⟩), .pointer (some ⟨g, 0, none⟩), .pointer (some ⟨g, 2, none⟩), .map (some mr), .agg #[.string nm, .int .i64 (n : Int)], .pointer (some ⟨gp, 0, none⟩), .int .i64 parts, .slice ca cn cc, .slice ka kn kc, fnd7 b1 b2 b3 b4 b5, undef, undef, undef, undef, undef, undef, undef, undef, undef], defers := [] } /\ Below W0.heap.size W0 W1 /\ (W0.heap.size <= b1 /\ W0.heap.size <= b2 /\ W0.heap.size <= b3 /\ W0.heap.size <= b4 /\ W0.heap.size <= b5) /\ FI W0 gp parts s.wd cols keys (.returned (fnd7 b1 b2 b3 b4 b5)) W1) ?_ ?_
 ·refine wpIn_region_heldZ (S := fun w' => Below W0.heap.size W0 w') (by kernel_rfl) (by exact (Below.refl _ _).drew) (fun hH => ?_)
  revert hH
  generalize W0.drew = V0
  intro hH
  refine wpAnyZ_take (i := 0) (oi := ⟨_, _, _, _, _, _⟩) (v := .pointer (some ⟨g, 0, none⟩)) (by kernel_rfl) rfl (by kernel_rfl) (by kernel_rfl) (by kernel_rfl) (fun _ _ _ h => h) (fun _ => rfl) (Or.inl ⟨by rfl, fun w' h => by have q := (H0.out.b0.below h).cell (i := 0) rfl; clear h; go_simp⟩) hH ?_
  simp only [wA, wB, wC, wD]
  refine wpAnyZ_take (i := 1) (oi := ⟨_, _, _, _, _, _⟩) (v := .pointer (some ⟨g, 0, none⟩)) (by kernel_rfl) rfl (by kernel_rfl) (by kernel_rfl) (by kernel_rfl) (fun _ _ _ h => h) (fun _ => rfl) (Or.inl ⟨by rfl, fun w' h => by clear h; go_simp⟩) hH ?_
  simp only [wA, wB, wC, wD]
  refine wpAnyZ_take (i := 2) (oi := ⟨_, _, _, _, _, _⟩) (v := .pointer (some ⟨g, 2, none⟩)) (by kernel_rfl) rfl (by kernel_rfl) (by kernel_rfl) (by kernel_rfl) (fun _ _ _ h => h) (fun _ => rfl) (Or.inl ⟨by rfl, fun w' h => by clear h; go_simp⟩) hH ?_
  simp only [wA, wB, wC, wD]
  refine wpAnyZ_take (i := 3) (oi := ⟨_, _, _, _, _, _⟩) (v := .map (some mr)) (by kernel_rfl) rfl (by kernel_rfl) (by kernel_rfl) (by kernel_rfl) (fun _ _ _ h => h) (fun _ => rfl) (Or.inl ⟨by rfl, fun w' h => by have q := (HBK.out.below h).cell (i := 2) rfl; clear h; go_simp⟩) hH ?_
  simp only [wA, wB, wC, wD]
  refine wpAnyZ_take (i := 4) (oi := ⟨_, _, _, _, _, _⟩) (v := .agg #[.string nm, .int .i64 (n : Int)]) (by kernel_rfl) rfl (by kernel_rfl) (by kernel_rfl) (by kernel_rfl) (fun _ _ _ h => h) (fun _ => rfl) (Or.inl ⟨by rfl, fun w' h => by have q := (H0.out.b1.below h).cell (i := 0) rfl; have q1 := (H0.out.b1.below h).cell (i := 1) rfl; clear h; go_simp⟩) hH ?_
  simp only [wA, wB, wC, wD]
  refine wpAnyZ_take (i := 5) (oi := ⟨_, _, _, _, _, _⟩) (v := .pointer (some ⟨gp, 0, none⟩)) (by kernel_rfl) rfl (by kernel_rfl) (by kernel_rfl) (by kernel_rfl) (fun _ _ _ h => h) (fun _ => rfl) (Or.inl ⟨by rfl, fun w' h => by have q := HLK.out w' h; clear h; go_simp⟩) hH ?_
  simp only [wA, wB, wC, wD]
  refine wpAnyZ_take (i := 6) (oi := ⟨_, _, _, _, _, _⟩) (v := .int .i64 parts) (by kernel_rfl) rfl (by kernel_rfl) (by kernel_rfl) (by kernel_rfl) (fun _ _ _ h => h) (fun _ => rfl) (Or.inl ⟨by rfl, fun w' h => by have q := (H0.out.b2.below h).cell (i := 0) rfl; clear h; go_simp⟩) hH ?_
  simp only [wA, wB, wC, wD]
  refine wpAnyZ_take (i := 7) (oi := ⟨_, _, _, _, _, _⟩) (v := .slice ca cn cc) (by kernel_rfl) rfl (by kernel_rfl) (by kernel_rfl) (by kernel_rfl) (fun _ _ _ h => h) (fun _ => rfl) (Or.inl ⟨by rfl, fun w' h => by have q := (H0.out.b3.below h).cell (i := 0) rfl; clear h; go_simp⟩) hH ?_
  simp only [wA, wB, wC, wD]
  refine wpAnyZ_take (i := 8) (oi := ⟨_, _, _, _, _, _⟩) (v := .slice ka kn kc) (by kernel_rfl) rfl (by kernel_rfl) (by kernel_rfl) (by kernel_rfl) (fun _ _ _ h => h) (fun _ => rfl) (Or.inl ⟨by rfl, fun w' h => by have q := (H0.out.b4.below h).cell (i := 0) rfl; clear h; go_simp⟩) hH ?_
  simp only [wA, wB, wC, wD]
  refine wpAnyZ_ready (rs := [9]) (by kernel_rfl) (by simp) ?_
  refine AllReadyZ.cons (o := ⟨_, _, _, _, _, _⟩) rfl (fun K hK => ?_) AllReadyZ.nil
  go_simp
  have HV := hm7 hH
  refine ⟨trivial, fun h => (by cases h), (callsIn_wide.2 (HFD.out _ hH)).mono ?_⟩
  rintro e W1 hfi
  have hfu := FI.up hfi HV.out
  obtain ⟨hb1, b1, b2, b3, b4, b5, rfl, hbs, hcase⟩ := hfi
  refine hK.out _ _ (below_step hH hb1) (fun hH => ?_)
  clear hK
  try simp only [wA, wB, wC, wD]
  refine wpAnyZ_done (by kernel_rfl) ?_ _
  exact ⟨b1, b2, b3, b4, b5, rfl, hH, by have := HV.out.size; have := hbs; omega, hfu⟩
 rintro e a1 W1 hq
 cases e <;> first | exact hq.elim | skip
 obtain ⟨b1, b2, b3, b4, b5, rfl, hb1, hbs, hfi⟩ := hq
 have HB1 := hm7 hb1
 have HBS := hm7 hbs
 have HFI := hm7 hfi
 clear hb1 hbs hfi HFD HLK
 gi_wp2
 suffices core : ∃ (D0' : World -> Prop) (Eff' Kp' : World -> World -> Prop) (S' : Nat -> Prop), SeqX Tryz.prog 104 #[.pointer (some ⟨b1, 0, none⟩), .pointer (some ⟨b2, 0, none⟩), .pointer (some ⟨b3, 0, none⟩), .pointer (some ⟨b4, 0, none⟩), .pointer (some ⟨b5, 0, none⟩)] (fnd8 s parts cols keys) D0' Eff' Kp' /\ (∀ x, S' x -> S x ∨ (W.heap.size <= x /\ x < W1.heap.size)) ∧
   ∀ V1, Below W1.heap.size W1 V1 -> V1.heap.size = W1.heap.size + 2 -> D0' V1 /\ (∀ V2, Eff' V1 V2 -> ∃ F' : Nat -> Prop, RM V2 gp F' S' (m + 1) s /\ Fr F V1 V2 /\ ∀ x, F' x -> (F x ∨ V1.heap.size <= x) /\ x < V2.heap.size) /\ ∀ V2, (∀ x, S' x -> V2.heap[x]? = W1.heap[x]?) -> Kp' V1 V2 by
  obtain ⟨D0', Eff', Kp', S', hseq, hS', hD'⟩ := core
  have hbW : Below W.heap.size W W1 := below_step HB0.out HB1.out
  have hFl : ∀ x, F x -> x < W.heap.size := fun x hx => (HR.out.q x hx).2
  have hSl : ∀ x, S x -> x < W.heap.size := HR.out.q2
  have hsW := hbW.size
  refine range_coreJ (W := W) rfl rfl hsW (fun x hx => HR.out.ok.w x (fnd8_mem x hx)) hseq
   (fun E pre X => J W1.heap.size E (pre.map (at8 T nm)) X) (fun E pre X => Jx W1.heap.size E (pre.map (at8 T nm)) X) ?hD (fun E pre V k o hk h => HJ.out _ _ _ _ k o hk h) (fun E pre V k o hk h => HJx.out _ _ _ _ k o hk h)
   (fun v => { tmps := #[.func (.yield l) #[] #[], .pointer (some ⟨b, 0, none⟩), .pointer (some ⟨b + 1, 0, none⟩), .pointer (some ⟨b + 2, 0, none⟩), .pointer (some ⟨b + 3, 0, none⟩), .pointer (some ⟨b + 4, 0, none⟩), .pointer (some ⟨W.heap.size, 0, none⟩), v, .pointer (some ⟨g, 0, none⟩), .pointer (some ⟨g, 0, none⟩), .pointer (some ⟨g, 2, none⟩), .map (some mr), .agg #[.string nm, .int .i64 (n : Int)], .pointer (some ⟨gp, 0, none⟩), .int .i64 parts, .slice ca cn cc, .slice ka kn kc, fnd7 b1 b2 b3 b4 b5, v, undef, undef, undef, undef, undef, undef, undef, undef], defers := [] }) ?assign ?body ?done ?stop
  case hD =>
   intro V1 hb hz
   obtain ⟨k1, k2, k3⟩ := hD' V1 hb hz
   refine ⟨k1, fun V2 h2 => ?_, fun E pre V2 hj hk => k3 V2 fun x hx => ?_⟩
   ·obtain ⟨F', q1, q2, q3⟩ := k2 V2 h2
    have hs2 := q2.size
    refine ⟨HEff.out W1.heap.size V2 ⟨F', S', q1, (Fr.of (below_step hbW hb)).trans q2 (fun x _ h => h), fun x hx => ?_, hsW, by omega⟩, by omega, fun k hk hl => q2.block k (by omega) fun hF => by have := hFl k hF; omega⟩
    rcases hx with hx | hx
    ·obtain ⟨h1, h2⟩ := q3 x hx
     rcases h1 with h1 | h1
     ·have := hFl x h1; exact ⟨Or.inl h1, h2, by omega, by omega⟩
     ·exact ⟨Or.inr (Or.inr (by omega)), h2, by omega, by omega⟩
    ·rcases hS' x hx with h1 | h1
     ·have := hSl x h1; exact ⟨Or.inr (Or.inl h1), by omega, by omega, by omega⟩
     ·exact ⟨Or.inr (Or.inr h1.1), by omega, by omega, by omega⟩
   ·rcases hS' x hx with h1 | h1
    ·rw [(HK.out _ _ _ V2 (Or.inl hj)).2.2.2 x h1, hbW.block x (hSl x h1)]
    ·exact hk x h1.1 h1.2
  case assign =>
   rintro l' mm v X K ⟨va, vn, vc, rfl⟩ hKK
   gi_wp2
   exact hKK
  case body =>
   rintro l' mm E pre x v X0 X hpre hj hk hb hE hX0 hli
   have hxm : x ∈ s.rows := fnd8_mem x (hpre.subset (by simp))
   obtain ⟨a, ha1, ha2, ha3, ha4⟩ := hrow x hxm
   obtain ⟨ht, hbb, hbp, -⟩ := HK.out _ _ _ X0 (Or.inl hj)
   have hat : at8 T nm x = a := by rw [ha4, <- ha1]; exact at8_nm ha3
   have hyb : Bk X0 W.heap.size #[.func (.yield l) #[] #[]] 66 := (hk _ (Nat.le_refl _) (by have := HB1.out.size; omega)).trans (HYB.out.below HB1.out)
   have hlx : x.length = n + 1 := by rw [ha4, nm8_len, <- ha2]; rfl
   obtain ⟨va, rc, rfl, hrc, -, -, hcell⟩ := hli
   rw [hlx] at hrc
   obtain ⟨rb, ro, rfl, hrb, hrb2, hcell⟩ : ∃ rb ro, va = some ⟨rb, ro, none⟩ /\ rb < X.heap.size /\ X0.heap.size <= rb /\ ∀ (i : Nat) (y : Int), x[i]? = some y -> X.cell? ⟨rb, ro + i, none⟩ = some (.int .i64 y) := by
    rcases hcell with ⟨e, -⟩ | h
    ·rw [e] at hlx; simp at hlx
    ·exact h
   have HFA : Hid (∀ V : World, Below X.heap.size X V -> Calls Tryz.prog 78 #[.pointer (some ⟨g, 0, none⟩), .string nm, .slice (some ⟨rb, ro, none⟩) (n + 1) rc] V fun e Y' => ∃ A, e = .returned ((⟨a.by_, nm, a.args⟩ : At).v (.slice (some ⟨A, 0, none⟩) n n)) /\ TBlk Y' A a.args n /\ V.heap.size <= A /\ Below V.heap.size V Y') := fun V hV => by
    have hkn := List.all_eq_true.1 ha3
    have hr : ∀ (j : Nat) (t : Tm), a.pl[j]? = some t -> ∃ i, (a.pl.map fun t => (ix8 T t).getD 0)[j]? = some i /\ T[i]? = some t := fun j t hj => by
     obtain ⟨i, hi⟩ := Option.isSome_iff_exists.1 (hkn t (List.mem_of_getElem? hj))
     exact ⟨i, by rw [List.getElem?_map, hj]; simp [hi], ix8_some hi⟩
    refine fact8_any g tv mn _ T nm rb ro rc n (a.pl.map fun t => (ix8 T t).getD 0) a.by_ a.args V ((ht.below hb).below hV) hn hrc (Nat.lt_of_lt_of_le hrb hV.size) (fun j i hj => ?_) (hr 0 a.by_ rfl) ha2 (fun j t hj => hr (j + 1) t hj)
    rw [hV.cell (p := ⟨rb, ro + j, none⟩) hrb]
    refine hcell j _ ?_
    rw [ha4]
    unfold nm8
    rw [List.getElem?_map] at hj ⊢
    obtain ⟨t, ht1, ht2⟩ := Option.map_eq_some_iff.1 hj
    rw [ht1, <- ht2]
    rfl
   have HSX : Hid (Bk X.drew W.heap.size #[.func (.yield l) #[] #[]] 66 /\ Bk X.drew b #[.pointer (some ⟨g, 0, none⟩)] 25 /\ Bk X.drew (b + 1) #[.string nm, .int .i64 (n : Int)] 72) := ⟨hyb.below hb.drew, hbb.below hb.drew, hbp.below hb.drew⟩
   have hpm : pre.map (at8 T nm) ++ [a] <+: (fnd8 s parts cols keys).map (at8 T nm) := by
    have := map_pre (at8 T nm) hpre
    rw [List.map_append, List.map_singleton, hat] at this
    exact this
   have em : (pre ++ [x]).map (at8 T nm) = pre.map (at8 T nm) ++ [a] := by rw [List.map_append, List.map_singleton, hat]
   have HYX : Hid (∀ (Y1 : World) (A : Nat), Below X.heap.size X Y1 -> TBlk Y1 A a.args n -> X.heap.size <= A -> YieldAt Fence.wide (mm - 1) Tryz.prog l #[(⟨a.by_, nm, a.args⟩ : At).v (.slice (some ⟨A, 0, none⟩) n n)] Y1 fun e W' => (e = .returned (.bool true) /\ J W1.heap.size E (pre.map (at8 T nm) ++ [a]) W' /\ Uq W.heap.size E Y1 W') ∨ (e = .returned (.bool false) /\ Jx W1.heap.size E (pre.map (at8 T nm) ++ [a]) W' /\ Uq W.heap.size E Y1 W')) := fun Y1 A h1 h2 h3 =>
    HY.out (mm - 1) W1.heap.size E _ a _ X0 Y1 hj hpm (below_step hb h1) ⟨A, by rw [<- ha1, <- ha2], by rw [ha2]; exact h2, Nat.le_trans hb.size h3⟩
   have HS3 : Hid (∀ (W3 : World) (q : List At), J W1.heap.size E q W3 ∨ Jx W1.heap.size E q W3 -> Uq W.heap.size E X W3 -> Bk W3 W.heap.size #[.func (.yield l) #[] #[]] 66 /\ Bk W3 b #[.pointer (some ⟨g, 0, none⟩)] 25 /\ Bk W3 (b + 1) #[.string nm, .int .i64 (n : Int)] 72) := fun W3 q hq hu => by
    obtain ⟨-, k1, k2, -⟩ := HK.out _ _ _ W3 hq
    have hyx := hyb.below hb
    exact ⟨(hu.same _ (Nat.le_refl _) (by have := HB1.out.size; omega) hyx.lt).trans hyx, k1, k2⟩
   obtain ⟨t0, nm', la⟩ := a
   simp only at ha1 ha2 HFA HYX em
   have ha1' := ha1.symm
   subst ha1'
   rw [hlx]
   clear ha4 hlx hcell hrow
   gi_wp2
   refine wpIn_mono (Q := NQ fun a' W3 => ∃ (A : Nat) (c : Bool), a' = { tmps := #[.func (.yield l) #[] #[], .pointer (some ⟨b, 0, none⟩), .pointer (some ⟨b + 1, 0, none⟩), .pointer (some ⟨b + 2, 0, none⟩), .pointer (some ⟨b + 3, 0, none⟩), .pointer (some ⟨b + 4, 0, none⟩), .pointer (some ⟨W.heap.size, 0, none⟩), .slice (some ⟨rb, ro, none⟩) (n + 1) rc, .pointer (some ⟨g, 0, none⟩), .pointer (some ⟨g, 0, none⟩), .pointer (some ⟨g, 2, none⟩), .map (some mr), .agg #[.string nm, .int .i64 (n : Int)], .pointer (some ⟨gp, 0, none⟩), .int .i64 parts, .slice ca cn cc, .slice ka kn kc, fnd7 b1 b2 b3 b4 b5, .slice (some ⟨rb, ro, none⟩) (n + 1) rc, .func (.yield l) #[] #[], .pointer (some ⟨g, 0, none⟩), .pointer (some ⟨b + 1, 0, none⟩), .string nm, .slice (some ⟨rb, ro, none⟩) (n + 1) rc, ((⟨t0, nm, la⟩ : At).v (.slice (some ⟨A, 0, none⟩) n n)), .bool c, .bool (!c)], defers := [] } /\ Uq W.heap.size E X W3 /\ ((c = true /\ J W1.heap.size E (pre.map (at8 T nm) ++ [⟨t0, nm, la⟩]) W3) ∨ (c = false /\ Jx W1.heap.size E (pre.map (at8 T nm) ++ [⟨t0, nm, la⟩]) W3))) ?_ ?_
   ·refine wpIn_region_heldZ (S := fun w' => Bk w' W.heap.size #[.func (.yield l) #[] #[]] 66 /\ Bk w' b #[.pointer (some ⟨g, 0, none⟩)] 25 /\ Bk w' (b + 1) #[.string nm, .int .i64 (n : Int)] 72) (by kernel_rfl) (by exact HSX.out) (fun hH => ?_)
    have HV : Hid (Below X.heap.size X X.drew) := (Below.refl _ _).drew
    revert hH HV
    generalize X.drew = V0
    intro hH HV
    refine wpAnyZ_take (i := 0) (oi := ⟨_, _, _, _, _, _⟩) (v := .func (.yield l) #[] #[]) (by kernel_rfl) rfl (by kernel_rfl) (by kernel_rfl) (by kernel_rfl) (fun _ _ _ h => h) (fun _ => rfl) (Or.inl ⟨by rfl, fun w' h => by have q := h.1.cell (i := 0) rfl; clear h; go_simp⟩) hH ?_
    simp only [wA, wB, wC, wD]
    refine wpAnyZ_take (i := 1) (oi := ⟨_, _, _, _, _, _⟩) (v := .pointer (some ⟨g, 0, none⟩)) (by kernel_rfl) rfl (by kernel_rfl) (by kernel_rfl) (by kernel_rfl) (fun _ _ _ h => h) (fun _ => rfl) (Or.inl ⟨by rfl, fun w' h => by have q := h.2.1.cell (i := 0) rfl; clear h; go_simp⟩) hH ?_
    simp only [wA, wB, wC, wD]
    refine wpAnyZ_take (i := 2) (oi := ⟨_, _, _, _, _, _⟩) (v := .pointer (some ⟨b + 1, 0, none⟩)) (by kernel_rfl) rfl (by kernel_rfl) (by kernel_rfl) (by kernel_rfl) (fun _ _ _ h => h) (fun _ => rfl) (Or.inl ⟨by rfl, fun w' h => by clear h; go_simp⟩) hH ?_
    simp only [wA, wB, wC, wD]
    refine wpAnyZ_take (i := 3) (oi := ⟨_, _, _, _, _, _⟩) (v := .string nm) (by kernel_rfl) rfl (by kernel_rfl) (by kernel_rfl) (by kernel_rfl) (fun _ _ _ h => h) (fun _ => rfl) (Or.inl ⟨by rfl, fun w' h => by have q := h.2.2.cell (i := 0) rfl; clear h; go_simp⟩) hH ?_
    simp only [wA, wB, wC, wD]
    refine wpAnyZ_take (i := 4) (oi := ⟨_, _, _, _, _, _⟩) (v := .slice (some ⟨rb, ro, none⟩) (n + 1) rc) (by kernel_rfl) rfl (by kernel_rfl) (by kernel_rfl) (by kernel_rfl) (fun _ _ _ h => h) (fun _ => rfl) (Or.inl ⟨by rfl, fun w' h => by clear h; go_simp⟩) hH ?_
    simp only [wA, wB, wC, wD]
    refine wpAnyZ_ready (rs := [5]) (by kernel_rfl) (by simp) ?_
    refine AllReadyZ.cons (o := ⟨_, _, _, _, _, _⟩) rfl (fun K hK => ?_) AllReadyZ.nil
    go_simp
    refine ⟨trivial, fun h => (by cases h), (CallsIn.inRound l' (callsIn_wide.2 (HFA.out _ HV.out))).mono ?_⟩
    rintro e Y1 ⟨A, rfl, hA, hAl, hbA⟩
    have HA := hm7 hA
    have HBA := hm7 (below_step HV.out hbA)
    have HAL := hm7 hAl
    have HS1 := hm7 (And.intro (hH.1.below hbA) (And.intro (hH.2.1.below hbA) (hH.2.2.below hbA)))
    clear hA hAl hbA hH
    refine hK.out _ _ (HS1.out) (fun hH => ?_)
    clear hK
    try simp only [wA, wB, wC, wD]
    obtain ⟨fn, tmps, assign, bd, hy, hR⟩ := HYX.out Y1 A HBA.out HA.out (Nat.le_trans HV.out.size HAL.out)
    refine wpAnyZ_ready (rs := [6]) (by kernel_rfl) (by simp) ?_
    refine AllReadyZ.cons (o := ⟨_, _, _, _, _, _⟩) rfl (fun K hK => ?_) AllReadyZ.nil
    go_simp
    refine ⟨fun h => (by cases h), hR.mono ?_⟩
    clear hR hy
    rintro e W3 (⟨rfl, hJ3, hu3⟩ | ⟨rfl, hx3, hu3⟩)
    ·have HU3 : Hid (Uq W.heap.size E X W3) := (Uq.below HBA.out).trans hu3
     refine hK.out _ _ (HS3.out W3 _ (Or.inl hJ3) HU3.out) (fun hH => ?_)
     clear hK
     try simp only [wA, wB, wC, wD]
     refine wpAnyZ_take (i := 7) (oi := ⟨_, _, _, _, _, _⟩) (v := .bool false) (by kernel_rfl) rfl (by kernel_rfl) (by kernel_rfl) (by kernel_rfl) (fun _ _ _ h => h) (fun _ => rfl) (Or.inl ⟨by rfl, fun w' h => by clear h; go_simp⟩) hH ?_
     simp only [wA, wB, wC, wD]
     refine wpAnyZ_done (by kernel_rfl) ?_ _
     exact ⟨A, true, rfl, HU3.out, Or.inl ⟨rfl, hJ3⟩⟩
    ·have HU3 : Hid (Uq W.heap.size E X W3) := (Uq.below HBA.out).trans hu3
     refine hK.out _ _ (HS3.out W3 _ (Or.inr hx3) HU3.out) (fun hH => ?_)
     clear hK
     try simp only [wA, wB, wC, wD]
     refine wpAnyZ_take (i := 7) (oi := ⟨_, _, _, _, _, _⟩) (v := .bool true) (by kernel_rfl) rfl (by kernel_rfl) (by kernel_rfl) (by kernel_rfl) (fun _ _ _ h => h) (fun _ => rfl) (Or.inl ⟨by rfl, fun w' h => by clear h; go_simp⟩) hH ?_
     simp only [wA, wB, wC, wD]
     refine wpAnyZ_done (by kernel_rfl) ?_ _
     exact ⟨A, false, rfl, HU3.out, Or.inr ⟨rfl, hx3⟩⟩
   rintro e a1 W3 hq
   cases e <;> first | exact hq.elim | skip
   obtain ⟨A, c, rfl, hu, hc⟩ := hq
   have HU := hm7 hu
   clear hu
   rcases hc with ⟨rfl, hc⟩ | ⟨rfl, hc⟩
   ·rw [<- em] at hc
    have HC := hm7 hc
    clear hc em
    gi_wp2
    exact ⟨HU.out, HC.out⟩
   ·rw [<- em] at hc
    have HC := hm7 hc
    clear hc em
    gi_wp2
    exact ⟨HU.out, HC.out⟩
  case done =>
   rintro E X hj hD
   have HJ0 := hm7 hj
   clear hj
   gi_wp2
   refine ⟨by simp, .inl ⟨_, _, rfl, run_takeDeferred hD, ?_⟩⟩
   exact ⟨_, results_none rfl _ _ _, ⟨_, rfl⟩, _, _, .inl (HJ.out _ _ _ _ _ _ (Or.inl rfl) HJ0.out)⟩
  case stop =>
   rintro E pre X hpre hx hD
   have HX := hm7 hx
   clear hx
   gi_wp2
   refine ⟨by simp, .inl ⟨_, _, rfl, run_takeDeferred hD, ?_⟩⟩
   exact ⟨_, results_none rfl _ _ _, ⟨_, rfl⟩, _, _, .inr ⟨_, map_pre _ hpre, HJx.out _ _ _ _ _ _ (Or.inl rfl) HX.out⟩⟩
 obtain ⟨hb1, c1, c2, c3, c4, c5, ee, ⟨p1, p2, p3, p4, p5⟩, hh⟩ := HFI.out
 have hbW : Below W.heap.size W W1 := below_step HB0.out HB1.out
 have hr1 : RM W1 gp F S m s := HR.out.below hbW
 obtain ⟨rfl, rfl, rfl, rfl, rfl⟩ : b1 = c1 /\ b2 = c2 /\ b3 = c3 /\ b4 = c4 /\ b5 = c5 := by
  simpa [fnd7] using ee
 rcases hh with ⟨q1, q2⟩ | ⟨sv, nv, L, q1, q2, q3, q4, q5, q6, q7⟩
 ·have e : fnd8 s parts cols keys = [] := by
   unfold fnd8
   rw [List.filter_eq_nil_iff]
   intro x hx
   rw [bad_none q2 (hr1.ok.wid x (sel_mem x ((srt7_perm _).mem_iff.1 hx)))]
   simp
  rw [e]
  refine ⟨_, _, _, S, find_none b1 b2 b3 b4 b5, fun x hx => Or.inl hx, fun V1 hb hz => ⟨q1.below hb, fun V2 hV2 => ?_, fun _ _ => trivial⟩⟩
  rw [hV2]
  exact ⟨F, (hr1.below hb).up (by omega), Fr.refl _ _, fun x hx => ⟨Or.inl hx, by have := (hr1.q x hx).2; omega⟩⟩
 ·have e1 : w64 (L.map Prod.fst) := by
   intro x hx
   simp only [List.mem_map] at hx
   obtain ⟨p, hp, rfl⟩ := hx
   exact hc p.1 (List.of_mem_zip ((unq7_mem q4 p).1 hp)).1
  have e2 : w64 (L.map Prod.snd) := by
   intro x hx
   simp only [List.mem_map] at hx
   obtain ⟨p, hp, rfl⟩ := hx
   exact hw p.2 (List.of_mem_zip ((unq7_mem q4 p).1 hp)).2
  have hsz := HB0.out.size
  obtain ⟨G', hG'⟩ : ∃ G' : Nat -> Prop, (fun x => W0.heap.size <= x /\ x < W1.heap.size) = G' := ⟨_, rfl⟩
  have g1 : ∀ x, G' x -> W0.heap.size <= x /\ x < W1.heap.size := fun x hx => by rw [<- hG'] at hx; exact hx
  have l1 : Li G' W1 sv (L.map Prod.fst) := (q6.li e1).mono fun x hl hx => by rw [<- hG']; exact ⟨hx.1, hl⟩
  have l2 : Li G' W1 nv (L.map Prod.snd) := (q7.li e2).mono fun x hl hx => by rw [<- hG']; exact ⟨hx.1, hl⟩
  have gF : ∀ x, G' x -> ¬ F x := fun x hx hF => by have := (HR.out.q x hF).2; have := g1 x hx; omega
  have hcl : ∀ p ∈ L, col7 s.wd p.1 = true := fun p hp => q3 p.1 (List.of_mem_zip ((unq7_mem q4 p).1 hp)).1
  have hll : L.length <= 1000000000 := by
   have := unq7_len q4
   rw [List.length_zip] at this
   omega
  have e := sift8 hr1.ok parts q2 q3 q4 hw
  have hmem : ∀ x ∈ fnd8 s parts cols keys, x ∈ s.rows := fnd8_mem
  have hlen : (fnd8 s parts cols keys).length <= 100000000000 := by
   unfold fnd8
   refine Nat.le_trans (List.length_filter_le ..) ?_
   rw [(srt7_perm _).length_eq]
   have h1' := sel_len s.rows (pls7 s [] []) (sts7 s parts)
   have h2' := pls7_len hr1.ok [] []
   have h3' := sts7_len s parts
   have := Nat.mul_le_mul h3' h2'
   unfold sel7
   omega
  refine ⟨_, _, _, fun x => S x ∨ G' x, find_seq gp F S G' G' m s parts (L.map fun p => p.1.toNat) (L.map Prod.snd) sv nv b1 b2 b3 b4 b5 (fnd8 s parts cols keys) (by unfold fnd8; rw [<- e]; exact srt7_srt _) (by unfold fnd8; rw [<- e]; exact srt7_perm _) (fun x hx => ?_) hlen (by rw [List.length_map]; omega) (fun c hc => ?_) (by rw [List.length_map]; omega) hm,
   fun x hx => hx.imp id fun hx => by have := g1 x hx; omega, fun V1 hb hz => ⟨⟨q1.below hb, hr1.below hb, ?_, fun x hx => ⟨gF x hx, by have := g1 x hx; omega⟩, l2.below hb, gF⟩, ?_, fun V2 hV x hx => ?_⟩⟩
  ·rw [hr1.ok.wid x (hmem x hx)]
   have := hr1.ok.d (List.ne_nil_of_mem (hmem x hx))
   omega
  ·obtain ⟨p, hp, rfl⟩ := List.mem_map.1 hc
   have := hcl p hp
   rw [col7, decide_eq_true_eq] at this
   omega
  ·rw [nat7_of hcl]; exact l1.below hb
  ·rintro V2 ⟨F', r1, r2, -, r4⟩
   exact ⟨F', r1, r2, r4⟩
  ·have hxl : x < W1.heap.size := hx.elim (fun h => hr1.q2 x h) fun h => (g1 x h).2
   rw [hV x hx, hb.block x hxl]
end Go.Proofs.YtechceagghcipabGreatDoor

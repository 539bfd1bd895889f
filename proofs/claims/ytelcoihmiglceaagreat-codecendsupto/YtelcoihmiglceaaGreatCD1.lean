import Derived.Test.YtelcoihmiglceaaGreatMP1
import Derived.Test.YtelcoihmiglceaaGreatW3
import Derived.Test.YtelcoihmiglceaaGreatMD14
import Derived.Test.YtelcoihmiglceaaGreatMD8
import Derived.Deep.RegionHeld3
import Derived.BigQuiet
import Derived.Laws.OwnMore
import Derived.Deep.CutRange
import Derived.Deep.DrawnRows
import Derived.WalkMore
import Derived.WalkSmall
import Derived.Deep.AppendLies
import Derived.Laws.IdiomStrings
import Derived.Lib.AppendStr
import Derived.Laws.BytesArg
namespace Go.Proofs.YtelcoihmiglceaaGreat
open Go.RowKit

def ints (n : Nat) : List Int := (List.range n).map fun i : Nat => (i : Int)
theorem mem_ints {n : Nat} {v : Int} : v ∈ ints n ↔ 0 <= v /\ v < n := by
 simp only [ints, List.mem_map, List.mem_range]
 exact ⟨fun ⟨i, h, e⟩ => by omega, fun ⟨h1, h2⟩ => ⟨v.toNat, by omega, by omega⟩⟩
theorem ints_succ (n : Nat) : ints (n + 1) = ints n ++ [(n : Int)] := by simp [ints, List.range_succ]
theorem mis_ints : ∀ (l : List Int) (n : Nat), (∀ v ∈ l, 0 <= v) -> mis n l = false -> ∃ m, n <= m /\ l.foldl dstep (ints n) = ints m /\ ∀ v ∈ l, v < m
 | [], n, _, _ => ⟨n, Nat.le_refl _, rfl, fun v hv => by cases hv⟩
 | v :: l, n, h0, h => by
  rw [mis] at h
  by_cases h1 : (n : Int) < v
  ·rw [if_pos h1] at h; cases h
  ·rw [if_neg h1] at h
   have hv := h0 v (by simp)
   rw [List.foldl_cons]
   by_cases h2 : v = n
   ·rw [if_pos h2] at h
    have e : dstep (ints n) v = ints (n + 1) := by
     unfold dstep; rw [if_neg (by rw [mem_ints]; omega), ints_succ, h2]
    obtain ⟨m, k1, k2, k3⟩ := mis_ints l (n + 1) (fun u hu => h0 u (by simp [hu])) (by exact_mod_cast h)
    rw [e]
    refine ⟨m, by omega, k2, fun u hu => ?_⟩
    rcases List.mem_cons.1 hu with rfl | hu
    ·omega
    ·exact k3 u hu
   ·rw [if_neg h2] at h
    have e : dstep (ints n) v = ints n := by
     unfold dstep; rw [if_pos (by rw [mem_ints]; omega)]
    obtain ⟨m, k1, k2, k3⟩ := mis_ints l n (fun u hu => h0 u (by simp [hu])) h
    rw [e]
    refine ⟨m, k1, k2, fun u hu => ?_⟩
    rcases List.mem_cons.1 hu with rfl | hu
    ·omega
    ·exact k3 u hu
theorem ints_sub : ∀ {m : Nat} {L : List Int}, (∀ v ∈ ints m, v ∈ L) -> m <= L.length
 | 0, _, _ => Nat.zero_le _
 | m + 1, L, h => by
  have hm : (m : Int) ∈ L := h _ (by rw [mem_ints]; omega)
  have := ints_sub (m := m) (L := L.erase (m : Int)) fun v hv => by
   have h2 := mem_ints.1 hv
   exact (List.mem_erase_of_ne (by omega)).2 (h v (by rw [mem_ints]; omega))
  rw [List.length_erase_of_mem hm] at this
  have := List.length_pos_of_mem hm
  omega
theorem var_nn {t : Tm} (h : t.var = true) : 0 <= t.n := by simp only [Tm.var, decide_eq_true_eq] at h; exact h.2.1
theorem num_vars {x : Ck} (hm : mis 0 (vrs (Ck.terms x)) = false) : ∃ m, dis (vrs (Ck.terms x)) = ints m /\ ∀ t ∈ Ck.terms x, t.var = true -> t.n < m := by
 obtain ⟨m, -, h2, h3⟩ := mis_ints (vrs (Ck.terms x)) 0 (fun v hv => by
  obtain ⟨t, ht, rfl⟩ := List.mem_map.1 hv
  exact var_nn (List.mem_filter.1 ht).2) hm
 exact ⟨m, h2, fun t ht hv => h3 _ (List.mem_map.2 ⟨t, List.mem_filter.2 ⟨ht, hv⟩, rfl⟩)⟩
theorem dis_mem {l : List Int} {v : Int} : v ∈ dis l ↔ v ∈ l := by
 unfold dis
 have : ∀ (l acc : List Int), v ∈ l.foldl dstep acc ↔ v ∈ acc ∨ v ∈ l := by
  intro l
  induction l with
  | nil => intro acc; simp
  | cons a l ih =>
   intro acc
   rw [List.foldl_cons, ih, List.mem_cons, dstep]
   by_cases h : a ∈ acc
   ·rw [if_pos h]
    exact ⟨fun e => e.elim Or.inl fun e => Or.inr (Or.inr e), fun e => e.elim Or.inl fun e => e.elim (fun e => Or.inl (e ▸ h)) Or.inr⟩
   ·rw [if_neg h, List.mem_append, List.mem_singleton, or_assoc]
 rw [this]; simp
theorem body_len {x : Ck} (h : Val0 x) : (x.2.1.flatMap At.pl).length <= 72 := by
 have hl := h.bl
 have he : ∀ a ∈ x.2.1, a.pl.length <= 9 := fun a ha => by
  have := (err_zero' (h.e a (by simp [ha]))).2.1
  simp [At.pl]; omega
 have : ∀ l : List At, (∀ a ∈ l, a.pl.length <= 9) -> (l.flatMap At.pl).length <= l.length * 9 := by
  intro l
  induction l with
  | nil => intro _; simp
  | cons a l ih =>
   intro h
   rw [List.flatMap_cons, List.length_append, List.length_cons]
   have h1 := h a (by simp)
   have h2 := ih fun b hb => h b (by simp [hb])
   omega
 have := this _ he
 omega
theorem num_le {x : Ck} (h : Val0 x) {m : Nat} (hd : dis (vrs (Ck.terms x)) = ints m) : m <= 72 := by
 have h2 := body_len h
 have : m <= (vrs (x.2.1.flatMap At.pl)).length := ints_sub fun v hv => by
  rw [<- hd, dis_mem] at hv
  obtain ⟨t, ht, rfl⟩ := List.mem_map.1 hv
  obtain ⟨ht, hvt⟩ := List.mem_filter.1 ht
  refine List.mem_map.2 ⟨t, List.mem_filter.2 ⟨?_, hvt⟩, rfl⟩
  unfold Ck.terms at ht
  rcases List.mem_append.1 ht with ht | ht
  ·exact h.s t (by simp [ht]) hvt
  ·rcases List.mem_append.1 ht with ht | ht
   ·exact ht
   ·exact h.s t (by simp [ht]) hvt
 have h3 : (vrs (x.2.1.flatMap At.pl)).length <= (x.2.1.flatMap At.pl).length := by
  unfold vrs; rw [List.length_map]; exact List.length_filter_le _ _
 omega
end Go.Proofs.YtelcoihmiglceaaGreat
namespace Go.Proofs.YtelcoihmiglceaaGreat
open Go.RowKit
attribute [local go_sem ↓] Go.wp_at_zero Go.wp_at_succ

structure KS (x : Ck) : Prop where
 h : x.1.args.length <= 8
 b : x.2.1.length <= 8
 t : x.2.2.length <= 8
 x : ∀ a ∈ x.2.1, a.args.length <= 8
theorem Val0.ks {x : Ck} (h : Val0 x) : KS x := ⟨(err_zero' (h.e _ (by simp))).2.1, h.bl, h.tl, fun a ha => (err_zero' (h.e a (by simp [ha]))).2.1⟩
theorem KS.len {x : Ck} (h : KS x) : (Ck.terms x).length <= 100 := by
 have h1 := h.h; have h2 := h.b; have h3 := h.t
 have := flat_len9 x.2.1 fun a ha => by have := h.x a ha; simp [At.pl]; omega
 unfold Ck.terms
 rw [List.length_append, List.length_append, tls_len]
 simp [At.pl] at this ⊢
 omega
theorem KS.lens {c : Cm} (h : KS c.key) : c.head.1.args.length <= 8 /\ c.body.length <= 8 /\ c.tests.length <= 8 /\ ∀ x ∈ c.body, x.1.args.length <= 8 :=
 ⟨h.h, by have := h.b; simpa [Cm.key, fsts] using this, h.t, fun x hx => h.x x.1 (List.mem_map.2 ⟨x, hx, rfl⟩)⟩
theorem MCl.ok8 {B : Nat} {X : World} {d : Cm} (h : MCl B X d) (hs : KS d.key) : d.ok X := by
 obtain ⟨h1, h2, h3, h4⟩ := hs.lens
 exact h.ok (by omega) (by omega) (fun y hy => by have := h4 y hy; omega) (by omega)
theorem wf_small {v : Int} (h : 0 <= v) (h' : v < 100000) : (Lit.int .i64 v).wf = true := by
 simp only [Lit.wf, IntKind.min, IntKind.max, IntKind.signed, IntKind.bits, Bool.and_eq_true, decide_eq_true_eq, if_true]
 omega
end Go.Proofs.YtelcoihmiglceaaGreat
namespace Go.Proofs.YtelcoihmiglceaaGreat
open Go.RowKit

structure Bx (X : World) (G : Nat) (d : Cm) : Prop where
 b : CBlk X G d.cs 30
 o : d.ok X
theorem Bx.later {X X' : World} {G : Nat} {d : Cm} (h : Bx X G d) (hb : Below X.heap.size X X') : Bx X' G d := ⟨h.b.later hb, h.o.later hb⟩
theorem Bx.new {X : World} {d : Cm} (h : d.ok X) : Bx (X.alloc (.cells d.cs 30)) X.heap.size d := ⟨CBlk.new _ _ _, h.later (below1 _ _)⟩
end Go.Proofs.YtelcoihmiglceaaGreat
namespace Go.Proofs.YtelcoihmiglceaaGreat
open Go.RowKit
attribute [local go_sem ↓] Go.wp_at_zero Go.wp_at_succ

theorem cm_sizes {c : Cm} (hs : (Ck.terms c.key).length <= 4000000) : c.head.1.args.length <= 4000000 /\ c.body.length <= 4000000 /\ c.tests.length <= 4000000 /\ ∀ x ∈ c.body, x.1.args.length <= 4000000 := by
 have e : (Ck.terms c.key).length = c.head.1.pl.length + (((fsts c.body).flatMap At.pl).length + (tls c.tests).length) := by
  unfold Ck.terms Cm.key
  simp only [List.length_append]
 have e1 : c.head.1.args.length <= c.head.1.pl.length := by simp [At.pl]
 have e2 : (tls c.tests).length = c.tests.length * 2 := tls_len _
 have e3 : (fsts c.body).length <= ((fsts c.body).flatMap At.pl).length := by
  generalize fsts c.body = l
  induction l with
  | nil => simp
  | cons a l ih => rw [List.flatMap_cons, List.length_append, List.length_cons]; have : 1 <= a.pl.length := (by simp [At.pl]); omega
 have e4 : (fsts c.body).length = c.body.length := by simp [fsts]
 refine ⟨by omega, by omega, by omega, fun x hx => ?_⟩
 have hm : x.1 ∈ fsts c.body := List.mem_map.2 ⟨x, hx, rfl⟩
 have : x.1.args.length <= ((fsts c.body).flatMap At.pl).length := by
  generalize fsts c.body = l at hm
  induction l with
  | nil => cases hm
  | cons a l ih =>
   rw [List.flatMap_cons, List.length_append]
   rcases List.mem_cons.1 hm with rfl | hm
   ·have : x.1.args.length <= x.1.pl.length := (by simp [At.pl]); omega
   ·have := ih hm; omega
 omega
end Go.Proofs.YtelcoihmiglceaaGreat
namespace Go.Proofs.YtelcoihmiglceaaGreat
open Go.RowKit

theorem key_len (c : Cm) : c.body.length = c.key.2.1.length /\ c.tests.length = c.key.2.2.length := by simp [Cm.key, fsts]
theorem unb_key {c : Cm} : unb c = (vrs (c.key.1.pl ++ tls c.key.2.2)).any fun v => !decide (v ∈ vrs (c.key.2.1.flatMap At.pl)) := by
 have e1 : c.restC.vars = vrs c.restC.terms := rfl
 have e2 : c.bodyC.vars = vrs c.bodyC.terms := rfl
 have e3 : flt c.body = c.key.2.1.flatMap At.pl := by simp [flt, Cm.key, fsts, List.flatMap_map]
 unfold unb
 rw [e1, e2, restC_terms, bodyC_terms, e3]
 have e4 : vrs (⟨0, 0, ⟨#[]⟩⟩ :: c.key.2.1.flatMap At.pl) = vrs (c.key.2.1.flatMap At.pl) := by unfold vrs; rw [List.filter_cons_of_neg (by rw [zt_var]; simp)]
 rw [e4]; rfl
theorem mis_key {c : Cm} : mis 0 c.vars = mis 0 (vrs (Ck.terms c.key)) := by
 have : c.vars = vrs c.terms := rfl
 rw [this, key_terms]
theorem wf_of {c : Cm} (h : ∀ t ∈ Ck.terms c.key, t.var = true -> t.n < 100000) (hl : (Ck.terms c.key).length <= 1000) : c.wf :=
 ⟨fun t ht hv => wf_small (var_nn hv) (h t (by rw [<- key_terms]; exact ht) hv), by rw [key_terms]; omega⟩
end Go.Proofs.YtelcoihmiglceaaGreat
namespace Go.Proofs.YtelcoihmiglceaaGreat
open Go.RowKit

theorem err_vals (a : At) : a.err = 0 ∨ a.err = 21 ∨ a.err = 22 ∨ a.err = 23 ∨ a.err = 24 := by
 unfold At.err; split
 ·exact Or.inr (Or.inl rfl)
 ·split
  ·exact Or.inr (Or.inr (Or.inl rfl))
  ·split
   ·exact Or.inr (Or.inr (Or.inr (Or.inl rfl)))
   ·split
    ·exact Or.inl rfl
    ·exact Or.inr (Or.inr (Or.inr (Or.inr rfl)))
theorem aErr_vals : ∀ l : List (At × Value), aErr l = 0 ∨ aErr l = 21 ∨ aErr l = 22 ∨ aErr l = 23 ∨ aErr l = 24
 | [] => Or.inl rfl
 | x :: l => by
  unfold aErr
  split
  ·exact aErr_vals l
  ·exact err_vals x.1
theorem chk_1 {c : Cm} (h : long c = true) : c.chk = 31 := by simp [Cm.chk, Cm.rs, chkL, h]
theorem chk_2 {c : Cm} (h : long c = false) (h2 : aErr c.atoms ≠ 0) : c.chk = aErr c.atoms := by
 rcases aErr_vals c.atoms with e | e | e | e | e
 ·exact absurd e h2
 all_goals simp [Cm.chk, Cm.rs, chkL, h, e]
theorem chk_3 {c : Cm} (h : long c = false) (h2 : aErr c.atoms = 0) (h3 : badT c = true) : c.chk = 32 := by simp [Cm.chk, Cm.rs, chkL, h, h2, h3]
theorem aErr_all : ∀ {l : List (At × Value)}, aErr l = 0 -> ∀ x ∈ l, x.1.err = 0
 | [], _, x, hx => by cases hx
 | y :: l, h, x, hx => by
  unfold aErr at h
  by_cases e : y.1.err = 0
  ·rw [if_pos e] at h
   rcases List.mem_cons.1 hx with rfl | hx
   ·exact e
   ·exact aErr_all h x hx
  ·rw [if_neg e] at h; exact absurd h e
def AsP (w : World) (v : Value) (l : List (At × Value)) : Prop := (v = .slice none 0 0 /\ l = []) ∨ ∃ ad cap, v = .slice (some ad) l.length cap /\ (l = [] ∨ ∃ b o, ad = ⟨b, o, none⟩ /\ ARow w b o l)
end Go.Proofs.YtelcoihmiglceaaGreat
namespace Go.Proofs.YtelcoihmiglceaaGreat
open Go.RowKit

def ibs (l : List Int) : List Value := l.map (Value.int .u8)
def OwnB (w : World) (base : Nat) (v : Value) (l : List Int) : Prop := w.ownsRow base 5 1 v l.length (ibs l)
theorem OwnB.later {w w' : World} {base : Nat} {v : Value} {l : List Int} (h : OwnB w base v l) (hb : Below w.heap.size w w') : OwnB w' base v l := by
 refine ⟨h.1, ?_⟩
 rcases h.2 with hn | ⟨g, cap, cur, hv, hbb, hg, rest⟩
 ·exact Or.inl hn
 ·exact Or.inr ⟨g, cap, cur, hv, hbb, (hb.block g (Array.getElem?_eq_some_iff.1 hg).1).trans hg, rest⟩
theorem ownB_nil (w : World) (base : Nat) : OwnB w base (.slice none 0 0) [] := World.ownsRow_nil _ _ _ _
theorem OwnB.mono {w : World} {base B : Nat} {v : Value} {l : List Int} (h : OwnB w base v l) (hb : B <= base) : OwnB w B v l := by
 refine ⟨h.1, ?_⟩
 rcases h.2 with hn | ⟨g, cap, cur, hv, hbb, rest⟩
 ·exact Or.inl hn
 ·exact Or.inr ⟨g, cap, cur, hv, Nat.le_trans hb hbb, rest⟩
theorem Tryz.infoU8 : (Tryz.prog.info? 5).map (fun i => (i.size, i.bytes, i.zero.map (·.cells.size))) = some (1, 1, some 1) := by kernel_rfl
theorem infoU8_parts : ∃ (i : TypeInfo) (z : Value), Tryz.prog.info? 5 = some i /\ i.zero = some z /\ i.size = 1 /\ i.bytes = 1 /\ z.cells.size = 1 := by
 have h := Tryz.infoU8
 cases hi : Tryz.prog.info? 5 with
 | none => rw [hi] at h; simp at h
 | some i =>
  rw [hi] at h
  simp only [Option.map_some, Option.some.injEq, Prod.mk.injEq] at h
  obtain ⟨h1, h2, h3⟩ := h
  cases hz : i.zero with
  | none => rw [hz] at h3; simp at h3
  | some z => rw [hz] at h3; simp only [Option.map_some, Option.some.injEq] at h3; exact ⟨i, z, rfl, hz, h1, h2, h3⟩
theorem grown_below {w w' : World} {base : Nat} {v : Value} (hg : w.grownBy w' v.ownBlock) (h : ∀ k, v.ownBlock = some k -> base <= k) (hb : base <= w.heap.size) : Below base w w' :=
 ⟨hg.os, hg.tape, hg.output, hg.size, fun k hk => hg.block k (by omega) (fun e => by have := h k e.symm; omega)⟩
def Bn (w : World) (v : Value) (l : List Int) : Prop := ∃ a cap, v = .slice a l.length cap /\ l.length <= cap /\ l.length < 1000000000000000000 /\ (l = [] ∨ ∃ b o, a = some ⟨b, o, none⟩ /\ b < w.heap.size /\ ∀ (i : Nat) (x : Int), l[i]? = some x -> w.cell? ⟨b, o + i, none⟩ = some (.int .u8 x))
theorem OwnB.bn {w : World} {base : Nat} {v : Value} {l : List Int} (h : OwnB w base v l) (hl : l.length < 1000000000000000000) : Bn w v l := by
 rcases h.2 with ⟨hv, hn⟩ | ⟨g, cap, cur, hv, -, hg, hn, -, -, -⟩
 ·have : l = [] := List.eq_nil_of_length_eq_zero hn
  subst this
  exact ⟨none, 0, hv, Nat.le_refl _, hl, Or.inl rfl⟩
 ·refine ⟨some ⟨g, 0, none⟩, cap, hv, hn, hl, Or.inr ⟨g, 0, rfl, (Array.getElem?_eq_some_iff.1 hg).1, fun i x hx => ?_⟩⟩
  have := World.ownsRow.cells h (g := g) (by rw [hv]; rfl) i (.int .u8 x) (by simp [ibs, hx])
  rw [Addr.add_mid] at this
  exact this
def i2b (l : List Int) : List UInt8 := l.map fun x => UInt8.ofNat x.toNat
def byt (l : List Int) : Prop := ∀ x ∈ l, 0 <= x /\ x <= 255
def bl (s : ByteArray) : List Int := s.data.toList.map fun b => (b.toNat : Int)
def ofL (l : List Int) : ByteArray := ⟨(i2b l).toArray⟩
theorem bl_len (s : ByteArray) : (bl s).length = s.size := by simp [bl]
theorem bl_byt (s : ByteArray) : byt (bl s) := fun x hx => by
 simp only [bl, List.mem_map] at hx
 obtain ⟨b, -, rfl⟩ := hx
 have := b.toNat_lt; omega
theorem i2b_map (l : List UInt8) : i2b (l.map fun b => (b.toNat : Int)) = l := by
 induction l with
 | nil => rfl
 | cons b l ih => simp only [i2b, List.map_cons] at ih ⊢; rw [ih]; simp
theorem ofL_bl (s : ByteArray) : ofL (bl s) = s := by
 unfold ofL bl; rw [i2b_map]
theorem byt.app {l m : List Int} (h : byt l) (k : byt m) : byt (l ++ m) := fun x hx => (List.mem_append.1 hx).elim (h x) (k x)
theorem conv_bn {w : World} {v : Value} {l : List Int} (h : Bn w v l) (hb : byt l) : (convert 37 9 v).run Tryz.prog w = .ok (.string (ofL l)) w := by
 obtain ⟨a, cap, rfl, h0, h1, h⟩ := h
 rcases h with rfl | ⟨b, o, rfl, hlt, hc⟩
 ·cases a with
  | none => exact run_convert_bytes_nil w 37 5 Tryz.underlying37 Tryz.underlying5 0 cap 9 Tryz.underlying9
  | some p => exact run_convert_bytes_back (P := Tryz.prog) w 37 9 5 p cap [] Tryz.underlying37 Tryz.underlying5 Tryz.underlying9 (fun j hj => by simp at hj)
 ·have e := run_convert_bytes_back (P := Tryz.prog) w 37 9 5 ⟨b, o, none⟩ cap (i2b l) Tryz.underlying37 Tryz.underlying5 Tryz.underlying9 (fun j hj => by
   have hj' : j < l.length := by simpa [i2b] using hj
   have := hb l[j] (List.getElem_mem hj')
   rw [Addr.add_mid, hc j l[j] (by simp [hj'])]
   simp [i2b]; omega)
  rw [show (i2b l).length = l.length by simp [i2b]] at e
  exact e
theorem Tryz.zeroU8 : ∃ i, Tryz.prog.info? 5 = some i /\ i.zero = some (.int .u8 0) /\ i.size = 1 /\ i.bytes = 1 := by
 obtain ⟨i, z, hi, hz0, hz1, hz2, hz3⟩ := infoU8_parts
 have h : (Tryz.prog.info? 5).bind (·.zero) = some (.int .u8 0) := by kernel_rfl
 rw [hi] at h
 exact ⟨i, hi, h, hz1, hz2⟩
theorem ibs_bl (s : ByteArray) : ibs (bl s) = Lib.strCells s := by simp [ibs, bl, Lib.strCells]
end Go.Proofs.YtelcoihmiglceaaGreat
namespace Go.Proofs.YtelcoihmiglceaaGreat
open Go.RowKit

def be : Nat -> Int -> List Int
 | 0, _ => []
 | k + 1, n => (n / (256 : Int) ^ k) % 256 :: be k n
theorem be_len (k : Nat) (n : Int) : (be k n).length = k := by induction k with
 | zero => rfl
 | succ k ih => simp [be, ih]
theorem be_byt (k : Nat) (n : Int) : byt (be k n) := by
 induction k with
 | zero => intro x hx; simp [be] at hx
 | succ k ih =>
  intro x hx
  simp only [be, List.mem_cons] at hx
  rcases hx with rfl | hx
  ·have := Int.emod_nonneg (n / (256 : Int) ^ k) (show (256 : Int) ≠ 0 by omega)
   have := Int.emod_lt_of_pos (n / (256 : Int) ^ k) (show (0 : Int) < 256 by omega)
   omega
  ·exact ih x hx
def sB (s : ByteArray) : List Int := (s.size : Int) :: bl s
def tB (t : Tm) : List Int := if t.k = 1 ∨ t.k = 3 then t.k :: be 8 (t.n % 18446744073709551616) else if t.k = 2 then 2 :: sB t.s else [0]
def aB (a : At) : List Int := tB a.by_ ++ (sB a.name ++ ((a.args.length : Int) :: a.args.flatMap tB))
def knd (t : Tm) : Prop := (t.k = 0 ∨ t.k = 1 ∨ t.k = 2 ∨ t.k = 3) /\ t.s.size <= 64
theorem knd_cov {t : Tm} (h : t.cov = true) : knd t := by
 unfold Tm.cov at h
 simp only [Tm.con, Tm.var, Bool.or_eq_true, decide_eq_true_eq] at h
 unfold knd
 rcases h with (h | h) | h
 ·exact ⟨by omega, by rw [h.2]; exact Nat.zero_le _⟩
 ·exact ⟨by omega, h.2.2⟩
 ·exact ⟨by omega, by rw [h.2.2]; exact Nat.zero_le _⟩
theorem knd_qual {t : Tm} (h : qualOk t = true) : knd t := by
 unfold qualOk at h
 simp only [Tm.prin, Tm.var, Bool.or_eq_true, decide_eq_true_eq] at h
 unfold knd
 rcases h with h | h | h
 ·subst h; exact ⟨by simp [zt], Nat.zero_le _⟩
 ·exact ⟨by omega, h.2.2.1⟩
 ·exact ⟨by omega, by rw [h.2.2]; exact Nat.zero_le _⟩
theorem tB_len (t : Tm) : 0 < (tB t).length /\ (tB t).length <= t.s.size + 9 := by
 unfold tB sB
 split
 ·simp [be_len]
 ·split
  ·simp [bl_len]
  ·simp
theorem sB_byt {s : ByteArray} (h : s.size <= 255) : byt (sB s) := fun x hx => by
 simp only [sB, List.mem_cons] at hx
 rcases hx with rfl | hx
 ·omega
 ·exact bl_byt s x hx
theorem tB_byt {t : Tm} (h : knd t) : byt (tB t) := by
 obtain ⟨h, hs⟩ := h
 intro x hx
 unfold tB at hx
 split at hx
 ·rcases List.mem_cons.1 hx with rfl | hx
  ·omega
  ·exact be_byt _ _ x hx
 ·split at hx
  ·rcases List.mem_cons.1 hx with rfl | hx
   ·omega
   ·exact sB_byt (by omega) x hx
  ·simp at hx; omega
structure Fit (a : At) : Prop where
 by_ : knd a.by_
 nm : a.name.size <= 64
 len : a.args.length <= 8
 args : ∀ t ∈ a.args, knd t
def val (l : List Int) : Int := l.foldl (fun v b => v * 256 + b) 0
theorem val_snoc (l : List Int) (b : Int) : val (l ++ [b]) = val l * 256 + b := by simp [val]
theorem val_rng {l : List Int} (h : byt l) : 0 <= val l /\ val l < (256 : Int) ^ l.length := by
 suffices H : ∀ (l : List Int) (v : Int) (k : Nat), byt l -> 0 <= v -> v < (256 : Int) ^ k -> 0 <= l.foldl (fun v b => v * 256 + b) v /\ l.foldl (fun v b => v * 256 + b) v < (256 : Int) ^ (k + l.length) by
  have := H l 0 0 h (by omega) (by simp)
  simpa [val] using this
 intro l
 induction l with
 | nil => intro v k _ h0 h1; simpa using ⟨h0, h1⟩
 | cons b l ih =>
  intro v k hb h0 h1
  have hx := hb b (by simp)
  have e : (256 : Int) ^ (k + 1) = (256 : Int) ^ k * 256 := Int.pow_succ _ _
  have := ih (v * 256 + b) (k + 1) (fun x hx => hb x (by simp [hx])) (by omega) (by omega)
  simpa [Nat.add_assoc, Nat.add_comm 1] using this
abbrev Rd (α : Type) := Except Int (α × List Int)
def Rd.and {α β : Type} (x : Rd α) (f : α -> List Int -> Rd β) : Rd β := match x with
 | .ok (a, r) => f a r
 | .error e => .error e
def rTake (n : Nat) (l : List Int) : Rd (List Int) := if l.length < n then .error 61 else .ok (l.take n, l.drop n)
def rNum (k : Nat) (l : List Int) : Rd Int := (rTake k l).and fun b r => .ok (val b, r)
def rBnd (lo hi : Int) (l : List Int) : Rd Int := (rNum 1 l).and fun n r => if n < lo ∨ hi < n then .error 63 else .ok (n, r)
def rOne (cs : List Int) (l : List Int) : Rd Int := (rNum 1 l).and fun n r => if n ∈ cs then .ok (n, r) else .error 63
def rNat (l : List Int) : Rd Int := (rNum 8 l).and fun n r => if 9223372036854775807 < n then .error 63 else .ok (n, r)
def rText (lo hi : Int) (l : List Int) : Rd ByteArray := (rBnd lo hi l).and fun n r => (rTake n.toNat r).and fun b r => .ok (ofL b, r)
def rTermOf (k lo : Int) (l : List Int) : Rd Tm :=
 if k = 1 then (rNum 8 l).and fun n r => .ok (⟨1, wrap64 n, ⟨#[]⟩⟩, r)
 else if k = 2 then (rText lo 64 l).and fun s r => .ok (⟨2, 0, s⟩, r)
 else if k = 3 then (rNat l).and fun n r => .ok (⟨3, n, ⟨#[]⟩⟩, r)
 else .ok (zt, l)
def rQual (l : List Int) : Rd Tm := (rOne [0, 2, 3] l).and fun k r => rTermOf k 1 r
def rArg (l : List Int) : Rd Tm := (rOne [1, 2, 3] l).and fun k r => rTermOf k 0 r
def rName (l : List Int) : Rd ByteArray := (rText 1 32 l).and fun s r => if nameOk s = true then .ok (s, r) else .error 63
def rMany {α : Type} (one : List Int -> Rd α) : Nat -> List Int -> Rd (List α)
 | 0, l => .ok ([], l)
 | n + 1, l => (one l).and fun a r => (rMany one n r).and fun ts r => .ok (a :: ts, r)
def rAtom (l : List Int) : Rd At := (rQual l).and fun by_ r => (rName r).and fun nm r => (rBnd 0 8 r).and fun n r => (rMany rArg n.toNat r).and fun ts r => .ok (⟨by_, nm, ts⟩, r)
def rWhole {α : Type} (one : List Int -> Rd α) (l : List Int) : Except Int α := match one l with
 | .ok (a, r) => if r = [] then .ok a else .error 62
 | .error e => .error e
end Go.Proofs.YtelcoihmiglceaaGreat

/-
  SyntaxAlts: the walk. (Written by SA5.py.)
-/
import Derived.Test.YtnikmcmkbjjcdaaGreatDoorDP2
import Derived.Maps.AppendAt
import Derived.Laws.OwnMore
namespace Go.Proofs.YtnikmcmkbjjcdaaGreatDoor
open Go.RowKit
attribute [local go_sem ↓] Go.wp_at_zero Go.wp_at_succ

theorem Tryz.infoStrs5 : (Tryz.prog.info? 39).map (fun i => (i.zero, i.size, i.bytes)) = some (some (.slice none 0 0), 1, 24) := by kernel_rfl
/-- Texts that are handed in. -/
structure Sb5 (w : World) (v : Value) (bs : List ByteArray) : Prop where
  m : ∃ a cap, v = .slice a bs.length cap ∧ (bs = [] ∨ ∃ b o, a = some ⟨b, o, none⟩ ∧ b < w.heap.size ∧ ∀ (j : Nat) (s : ByteArray), bs[j]? = some s → w.cell? ⟨b, o + j, none⟩ = some (.string s))
  z : ∀ s ∈ bs, s.size ≤ 1000000000000000000
/-- A list of lists of texts, each in a block of its own. -/
structure RS5 (B : Nat) (w : World) (v : Value) (L : List (Value × List ByteArray)) : Prop where
  o : w.ownsRow B 39 1 v L.length (L.map Prod.fst)
  k : ∀ x ∈ L, Sx5 w B x.1 x.2 ∧ (x.1.ownBlock = none ∨ x.1.ownBlock ≠ v.ownBlock)
theorem RS5.below {B : Nat} {w w' : World} {v : Value} {L : List (Value × List ByteArray)} (h : RS5 B w v L) (hb : Below w.heap.size w w') : RS5 B w' v L := ⟨row7_below h.o hb, fun x hx => ⟨row7_below (h.k x hx).1 hb, (h.k x hx).2⟩⟩
theorem RS5.nil (B : Nat) (w : World) : RS5 B w (.slice none 0 0) [] := ⟨World.ownsRow_nil _ _ _ _, fun x hx => by cases hx⟩
theorem RS5.form {B : Nat} {w : World} {v : Value} {L : List (Value × List ByteArray)} (h : RS5 B w v L) : ∃ a cap, v = .slice a L.length cap := by
  obtain ⟨a, c, e, -⟩ := row7_form h.o
  exact ⟨a, c, e⟩
theorem own_lt {w : World} {B e n m k : Nat} {v : Value} {l : List Value} (h : w.ownsRow B e n v m l) (hk : v.ownBlock = some k) : k < w.heap.size := (World.ownsRow.lt h k hk).2
/-- One more list behind. -/
theorem RS5.app {B : Nat} {w w' : World} {v v' : Value} {L : List (Value × List ByteArray)} {x : Value × List ByteArray} (h : RS5 B w v L) (hx : Sx5 w B x.1 x.2) (hxv : x.1.ownBlock = none ∨ x.1.ownBlock ≠ v.ownBlock) (ho : w'.ownsRow B 39 1 v' (L.length + 1) (L.map Prod.fst ++ [x.1])) (hg : w.grownBy w' v.ownBlock) (hv : v'.ownBlock = v.ownBlock ∨ v'.ownBlock = some w.heap.size) : RS5 B w' v' (L ++ [x]) := by
  refine ⟨by rw [List.length_append, List.map_append]; exact ho, fun y hy => ?_⟩
  have hy2 : Sx5 w B y.1 y.2 ∧ (y.1.ownBlock = none ∨ y.1.ownBlock ≠ v.ownBlock) := by
    rcases List.mem_append.1 hy with hy | hy
    · exact h.k y hy
    · rw [List.mem_singleton.1 hy]; exact ⟨hx, hxv⟩
  refine ⟨World.ownsRow.kept hy2.1 hg hy2.2, ?_⟩
  rcases hv with e | e
  · rw [e]; exact hy2.2
  · rcases hy2.2 with e2 | -
    · exact Or.inl e2
    · right
      intro e3
      rw [e] at e3
      have := own_lt hy2.1 e3
      omega
theorem sx_base {w : World} {b b' : Nat} {v : Value} {l : List ByteArray} (h : Sx5 w b v l) (hb : b' ≤ b) : Sx5 w b' v l := by
  obtain ⟨h1, h2⟩ := h
  refine ⟨h1, h2.imp id ?_⟩
  rintro ⟨g, cap, cur, e1, e2, e3⟩
  exact ⟨g, cap, cur, e1, Nat.le_trans hb e2, e3⟩
/-- A list that isn't empty lies somewhere. -/
theorem own_some {w : World} {B e n m : Nat} {v : Value} {l : List Value} (h : w.ownsRow B e n v m l) (hm : 0 < m) : ∃ g cap, v = .slice (some ⟨g, 0, none⟩) m cap ∧ g < w.heap.size := by
  rcases h.2 with ⟨-, e⟩ | ⟨g, cap, cur, e, -, hg, -⟩
  · omega
  · exact ⟨g, cap, e, (Array.getElem?_eq_some_iff.1 hg).1⟩
/-- append as a step of a region, told by what is owned. -/
theorem stepQ5 {T e : TypeId} {z : Value} {by_ size : Nat} (hT : Tryz.prog.underlying T = some (.slice e)) (hI : (Tryz.prog.info? e).map (fun i => (i.zero, i.size, i.bytes)) = some (some z, size, by_)) (hz : z.cells.size = size) (hsz : 0 < size) (hby : by_ ≤ 1000)
    {ops : Array Oper} {o : Oper} {a : Act} {K : Act → World → Prop} {Q : Exit → Act → World → Prop} {E : Prop} {w : World} (hgd : o.guard = none) (s x : Operand) (ho : o.op = .call { callee := .builtin .append, args := #[s, x], argTypes := #[T, T] }) (base : Nat) (v : Value) (n : Nat) (l : List Value) (hs : a.eval s = v) (y : Value) (m base' : Nat) (ys : List Value) (hx : a.eval x = y)
    (hown : w.ownsRow base e size v n l) (hy : w.ownsRow base' e size y m ys) (hone : ∀ u ∈ ys, u.oneCell' = true) (hlen : n + m ≤ 100000000000) (hbase : base ≤ w.heap.size)
    (h : ∀ v' w', w'.ownsRow base e size v' (n + m) (l ++ ys) → w.grownBy w' v.ownBlock → (v'.ownBlock = v.ownBlock ∨ v'.ownBlock = some w.heap.size) → K (a.put o.dst v') w') : if Region.wanted o (yielded ops a.tmps) = true then Oper.wp Tryz.prog o a w K Q else E := by
  obtain ⟨v', w', g1, g2, g3, g4⟩ := apR5 hT hI hz hsz hby o.type w base v n l hown y m base' ys hy hone hlen hbase
  exact stepR5 hgd s x ho v y v' hs hx g1 (h v' w' g2 g3 g4)
theorem bal5 {w X : World} (h : Below w.heap.size w X) (o : Obj) : Below w.heap.size w (X.alloc o) := h.alloc h.size _
theorem keepA {w X : World} {b o b' o' : Nat} {u u' : Value} (hb : b < w.heap.size) (hb' : b' < w.heap.size) (h : w.cell? ⟨b, o, none⟩ = some u) (h' : w.cell? ⟨b', o', none⟩ = some u') (hX : Below w.heap.size w X) : X.cell? ⟨b, o, none⟩ = some u ∧ X.cell? ⟨b', o', none⟩ = some u' ∧ Below w.heap.size w X :=
  ⟨cell_step hX hb h, cell_step hX hb' h', hX⟩
theorem own0 {X : World} {B g : Nat} (h : Bk X g #[] 9) (hb : B ≤ g) : X.ownsRow B 9 1 (.slice (some ⟨g, 0, none⟩) 0 0) 0 [] :=
  ⟨rfl, Or.inr ⟨g, 0, #[], rfl, hb, h, Nat.le_refl _, by unfold maxLen; omega, rfl, rfl⟩⟩
theorem bk_then {X : World} {g : Nat} {c : Array Value} {t : TypeId} (h : Bk X g c t) (o : Obj) : Bk (X.alloc o) g c t := h.below (below1 _ _)
theorem bk_new1 {X : World} {g : Nat} {c : Array Value} {t : TypeId} (hg : X.heap.size = g) : Bk (X.alloc (.cells c t)) g c t := by subst hg; exact Bk.new _ _ _
theorem grow5 {w X X' : World} {g n c : Nat} (h : Below w.heap.size w X) (hg : X.grownBy X' (Value.slice (some ⟨g, 0, none⟩) n c).ownBlock) (hb : w.heap.size ≤ g) : Below w.heap.size w X' :=
  h.grown hg h.size fun k e => by
    have : g = k := by simpa [Value.ownBlock] using e
    omega
theorem own_b (W : World) (B : Obj) : ((W.alloc (.cells #[] 9)).alloc B).ownsRow W.heap.size 9 1 (.slice (some ⟨W.heap.size, 0, none⟩) 0 0) 0 [] := own0 (bk_then (Bk.new _ _ _) _) (Nat.le_refl _)
theorem own_c (W : World) (B : Obj) : ((W.alloc B).alloc (.cells #[] 9)).ownsRow W.heap.size 9 1 (.slice (some ⟨W.heap.size + 1, 0, none⟩) 0 0) 0 [] := own0 (bk_new1 (by simp)) (by omega)
theorem hk_b {W w1 : World} {y : ByteArray} (hg : ((W.alloc (.cells #[] 9)).alloc (.cells #[.string y] 9)).grownBy w1 (Value.slice (some ⟨W.heap.size, 0, none⟩) 0 0).ownBlock) : Sx5 w1 W.heap.size (.slice (some ⟨W.heap.size + 1, 0, none⟩) 1 1) [y] := by
  have h : Sx5 ((W.alloc (.cells #[] 9)).alloc (.cells #[.string y] 9)) W.heap.size (.slice (some ⟨W.heap.size + 1, 0, none⟩) 1 1) [y] := Sx5.one (bk_new1 (by simp)) (by omega)
  exact World.ownsRow.kept h hg (Or.inr (by simp [Value.ownBlock]))
theorem hk_c {W w1 : World} {y : ByteArray} (hg : ((W.alloc (.cells #[.string y] 9)).alloc (.cells #[] 9)).grownBy w1 (Value.slice (some ⟨W.heap.size + 1, 0, none⟩) 0 0).ownBlock) : Sx5 w1 W.heap.size (.slice (some ⟨W.heap.size, 0, none⟩) 1 1) [y] := by
  have h : Sx5 ((W.alloc (.cells #[.string y] 9)).alloc (.cells #[] 9)) W.heap.size (.slice (some ⟨W.heap.size, 0, none⟩) 1 1) [y] := Sx5.one (bk_then (Bk.new _ _ _) _) (Nat.le_refl _)
  exact World.ownsRow.kept h hg (Or.inr (by simp [Value.ownBlock]))
theorem RS5.base {B B' : Nat} {w : World} {v : Value} {L : List (Value × List ByteArray)} (h : RS5 B w v L) (hb : B' ≤ B) : RS5 B' w v L := by
  refine ⟨?_, fun x hx => ⟨sx_base (h.k x hx).1 hb, (h.k x hx).2⟩⟩
  obtain ⟨h1, h2⟩ := h.o
  refine ⟨h1, h2.imp id ?_⟩
  rintro ⟨g, cap, cur, e1, e2, e3⟩
  exact ⟨g, cap, cur, e1, Nat.le_trans hb e2, e3⟩
theorem fin21 {W2 wr X w3 : World} {pv v2 v3 : Value} {N : List (Value × List ByteArray)} {l : List ByteArray} (hr : RS5 W2.heap.size wr pv N) (hb : Below W2.heap.size W2 wr) (hX : Below wr.heap.size wr X) (h2 : Sx5 X wr.heap.size v2 l) (h3 : w3.ownsRow W2.heap.size 39 1 v3 (N.length + 1) (N.map Prod.fst ++ [v2])) (hg : X.grownBy w3 pv.ownBlock) (hv : v3.ownBlock = pv.ownBlock ∨ v3.ownBlock = some X.heap.size) :
    RS5 W2.heap.size w3 v3 (N ++ [(v2, l)]) ∧ Below W2.heap.size W2 w3 := by
  have hR := hr.below hX
  refine ⟨hR.app (x := (v2, l)) (sx_base h2 hb.size) ?_ h3 hg hv, ?_⟩
  · rcases h : v2.ownBlock with _ | k
    · exact Or.inl rfl
    · right
      intro e
      have h5 := (World.ownsRow.lt h2 k h).1
      have h6 := own_lt hr.o e.symm
      omega
  · have hb2 := below_step hb hX
    exact hb2.grown hg hb2.size fun k e => (World.ownsRow.lt hR.o k e).1
theorem wl5_in (bs : List ByteArray) : ∀ (j : Nat) (a : List ByteArray), a ∈ wl5 bs j → a.length ≤ j
  | 0, a, h => by
    have h : a ∈ [[]] := h
    rw [List.mem_singleton.1 h]
    exact Nat.le_refl _
  | j + 1, a, h => by
    rw [wl5] at h
    obtain ⟨b, hb, h2⟩ := List.mem_flatMap.1 h
    obtain ⟨x, -, rfl⟩ := List.mem_map.1 h2
    have := wl5_in bs j b hb
    rw [List.length_append, List.length_singleton]
    omega
set_option maxRecDepth 20000 in
set_option maxHeartbeats 8000000 in
theorem alts_any (bs : List ByteArray) (v : Value) (w : World) (h : Sb5 w v bs) (hbl : bs.length ≤ 1000000000000000000) (hE : EnvOk w) (hO : OpsOk w) :
    Calls Tryz.prog 4 #[v] w fun e w' => e = .returned (.bool true) ∧ Below w.heap.size w w' := by
  have HF : Hid (∀ X : World, Below w.heap.size w X → Calls Tryz.prog 9 #[] X fun e w' => e = .returned (.bool true) ∧ Below X.heap.size X w') := fun X hX => first5_any X (hE.later hX) (hO.fr (P := fun _ => False) (Fr.of hX) fun h => h)
  have HPG : Hid (bs.length ≤ 8 → ∀ X : World, Below w.heap.size w X → Calls Tryz.prog 10 #[.string (txA bs)] X (ReP X (pg5 (txA bs) 1048576))) := fun h8 X hX => program_any (txA bs) (by
    unfold txA
    rw [ByteArray.size_append, ByteArray.size_append]
    have h1 := tu5_size bs bs.length
    have e1 : (⟨#[32, 32]⟩ : ByteArray).size = 2 := rfl
    have e2 : (⟨#[46]⟩ : ByteArray).size = 1 := rfl
    omega) X (hE.later hX) (hO.fr (P := fun _ => False) (Fr.of hX) fun h => h)
  obtain ⟨⟨va, vc, hv, hm⟩, hz⟩ := h
  obtain ⟨n, hn⟩ : ∃ n, bs.length = n := ⟨_, rfl⟩
  rw [hn] at hv hbl
  subst hv
  have HN := hm7 hn
  have HM := hm7 hm
  have HZ := hm7 hz
  clear hn hm hz hE hO
  by_cases hout : n = 0 ∨ 8 < n
  · have HF0 := hm7 (HF.out w (Below.refl _ _))
    by_cases h0 : n = 0
    · subst h0
      go_enter Tryz.func4, Tryz.ntmps4
      go_wp2_with (go_at_call 9; refine HF0.out.mono ?_; rintro e w1 ⟨rfl, hb⟩; have HB := hm7 hb; clear hb)
      go_ret
      exact ⟨rfl, HB.out⟩
    · have i1 : ((n : Int) == 0) = false := beq_eq_false_iff_ne.2 (by omega)
      have i2 : (8 : Int) < (n : Int) := by omega
      clear hout h0
      go_enter Tryz.func4, Tryz.ntmps4
      go_wp2_with (go_at_call 9; refine HF0.out.mono ?_; rintro e w1 ⟨rfl, hb⟩; have HB := hm7 hb; clear hb)
      go_ret
      exact ⟨rfl, HB.out⟩
  · have i1 : ((n : Int) == 0) = false := beq_eq_false_iff_ne.2 (by omega)
    have i2 : ¬ (8 : Int) < (n : Int) := by omega
    have hn8 : n ≤ 8 ∧ 1 ≤ n := by omega
    have HB0 := hm7 (below1 w (.cells #[.slice none 0 0] 39))
    have HR0 : Hid (RS5 w.heap.size (w.alloc (.cells #[.slice none 0 0] 39)) (.slice (some ⟨w.heap.size, 0, none⟩) 1 1) [(.slice none 0 0, [])]) := by
      refine ⟨⟨rfl, Or.inr ⟨w.heap.size, 1, _, rfl, Nat.le_refl _, Bk.new w #[.slice none 0 0] 39, Nat.le_refl _, by unfold maxLen; omega, rfl, rfl⟩⟩, fun x hx => ?_⟩
      rw [List.mem_singleton.1 hx]
      exact ⟨World.ownsRow_nil _ _ _ _, Or.inl rfl⟩
    clear hout
    go_enter Tryz.func4, Tryz.ntmps4
    go_wp2
    clear i1 i2
    go_loopg [3, 4, 5, 6] n (fun g tx cn u i wr => ∃ (j : Nat) (L : List (Value × List ByteArray)), j + g = n ∧ i = .int .i64 (j : Int) ∧ tx = .string (tu5 bs j) ∧ cn = .int .i64 ((wl5 bs j).length : Int) ∧ RS5 w.heap.size wr u L ∧ L.map Prod.snd = (if (wl5 bs j).length ≤ 64 then wl5 bs j else []) ∧ Below w.heap.size w wr)
    case atStart => exact ⟨0, [(.slice none 0 0, [])], by omega, rfl, rfl, rfl, HR0.out, rfl, HB0.out⟩
    case round =>
      obtain ⟨j, L, hg, rfl, rfl, rfl, hrs, hls, hb⟩ := hrel
      have HR := hm7 hrs
      have HLS := hm7 hls
      have HB := hm7 hb
      obtain ⟨ua, uc, huf⟩ := hrs.form
      obtain ⟨ln, hln⟩ : ∃ z, L.length = z := ⟨_, rfl⟩
      rw [hln] at huf
      have HLN := hm7 hln
      subst huf
      clear hrs hls hb hln
      cases gk with
      | succ g =>
        have k0 : (0 : Int) ≤ (j : Int) := by omega
        have k1 : (j : Int) < (n : Int) := by omega
        obtain ⟨s, hs⟩ : ∃ s, bs[j]? = some s := ⟨_, List.getElem?_eq_getElem (by have := HN.out; omega)⟩
        have hsz := HZ.out s (List.mem_of_getElem? hs)
        have hM : ∃ sb so, va = some ⟨sb, so, none⟩ ∧ sb < w.heap.size ∧ ∀ (j : Nat) (s : ByteArray), bs[j]? = some s → w.cell? ⟨sb, so + j, none⟩ = some (.string s) := by
          rcases HM.out with e | e
          · rw [e] at hs; simp at hs
          · exact e
        obtain ⟨sb, so, rfl, hzb, hce⟩ := hM
        have HCE : Hid (w.cell? ⟨sb, so + j, none⟩ = some (.string s)) := hce j s hs
        have HZB : Hid (sb < w.heap.size) := hzb
        have HTU : Hid (tu5 bs (j + 1) = (if 0 < j then tu5 bs j ++ (⟨#[44, 32]⟩ : ByteArray) else tu5 bs j) ++ ptx s) := by show _ = _; rw [tu5, hs]; rfl
        have HWL : Hid (wl5 bs (j + 1) = (wl5 bs j).flatMap fun a => (nm5 s).map fun x => a ++ [x]) := by show _ = _; rw [wl5, hs]; rfl
        have HWN : Hid ((wl5 bs (j + 1)).length = (wl5 bs j).length * (nm5 s).length) := by show _ = _; rw [wl5_len, hs]; rfl
        have HWM := hm7 (wl5_mono bs j)
        have hwc := wl5_le bs (j + 1)
        have h98 : 9 ^ (j + 1) ≤ 9 ^ 8 := Nat.pow_le_pow_right (by decide) (by omega)
        have e98 : (9 : Nat) ^ 8 = 43046721 := by decide
        rw [e98] at h98
        have htz := tu5_size bs j
        have HPX : Hid (∀ X : World, Calls Tryz.prog 11 #[.string s, .string ⟨#[59, 32]⟩] X fun e w' => e = .returned (.string (ptx s)) ∧ Below X.heap.size X w') := fun X => part5_any s hsz X
        have HNX : Hid (∀ X : World, Calls Tryz.prog 12 #[.string s] X fun e w' => ∃ v, e = .returned v ∧ Sx5 w' X.heap.size v (nm5 s) ∧ Below X.heap.size X w') := fun X => names5_any s hsz X
        have hpz := ptx_size s
        obtain ⟨ca, hca⟩ : ∃ z, (wl5 bs j).length = z := ⟨_, rfl⟩
        obtain ⟨cc, hcc⟩ : ∃ z, (wl5 bs (j + 1)).length = z := ⟨_, rfl⟩
        obtain ⟨cb, hcb⟩ : ∃ z, (nm5 s).length = z := ⟨_, rfl⟩
        rw [hca] at HWN HWM HLS ⊢
        rw [hcc] at HWN HWM hwc
        rw [hcb] at HWN
        have HCA := hm7 hca
        have HCC := hm7 hcc
        have HCB := hm7 hcb
        have hcm : (ca : Int) * (cb : Int) = (cc : Int) := by rw [HWN.out]; rfl
        have hcc2 : cc ≤ 43046721 := by omega
        have hac : ca ≤ cc := HWM.out
        obtain ⟨px, hpx⟩ : ∃ z, ptx s = z := ⟨_, rfl⟩
        rw [hpx] at HTU HPX hpz
        obtain ⟨tj, htj⟩ : ∃ z, tu5 bs j = z := ⟨_, rfl⟩
        rw [htj] at HTU htz ⊢
        obtain ⟨tx, htx⟩ : ∃ z, (if 0 < j then tj ++ (⟨#[44, 32]⟩ : ByteArray) else tj) = z := ⟨_, rfl⟩
        rw [htx] at HTU
        have htxz : tx.size ≤ tj.size + 2 := by
          rw [← htx]
          split
          · rw [ByteArray.size_append]; exact Nat.le_refl _
          · omega
        clear hs hce hzb hca hcc hcb hpx htj hwc h98 e98
        have hj8 : j < 8 := by omega
        go_upto_if 32 with fail
        go_cut [3] from 31 to 34 (fun s3 wx => s3 = .string tx ∧ wx = wr)
        case first =>
          by_cases hj0 : 0 < j
          · have i3 : (0 : Int) < (j : Int) := by omega
            rw [if_pos hj0] at htx
            have g1 : ¬ 9223372036854775807 < tj.size + 2 := by omega
            go_wp2
            go_meet
            case rel => exact ⟨by rw [← htx], rfl⟩
          · have i3 : ¬ (0 : Int) < (j : Int) := by omega
            rw [if_neg hj0] at htx
            subst htx
            go_wp2
            go_meet
            case rel => exact ⟨rfl, rfl⟩
        case rest =>
        obtain ⟨rfl, hw⟩ := hcut
        rw [hw]
        clear hw htx
        have g2 : ¬ 9223372036854775807 < tx.size + px.size := by omega
        have hsr : sb < wr.heap.size := Nat.lt_of_lt_of_le HZB.out HB.out.size
        have q0 := cell_step HB.out HZB.out HCE.out
        go_upto_region 12 with (go_at_call 11; refine (HPX.out _).mono ?_; rintro e W1 ⟨rfl, hb⟩; have HB1 := hm7 hb; clear hb)
        have q1 := cell_step HB1.out hsr q0
        clear q0
        go_upto_region 13 with (go_at_call 12; refine (HNX.out _).mono ?_; rintro e W2 ⟨nv, rfl, hnv, hb⟩; obtain ⟨na, nc, hnf, -⟩ := row7_form hnv; rw [HCB.out] at hnf; subst hnf; have HSN := hm7 hnv; have HB2 := hm7 (below_step HB1.out hb); have HS1 : Hid (w.heap.size ≤ W1.heap.size) := Nat.le_trans HB.out.size HB1.out.size; clear hb hnv)
        clear q1 hsr HPX HNX
        have HSB : Hid (Sx5 W2 w.heap.size (.slice na cb nc) (nm5 s)) := sx_base HSN.out HS1.out
        have HRW := hm7 (HR.out.below HB2.out)
        have HBW2 := hm7 (below_step HB.out HB2.out)
        clear HR HSN HB1 HS1
        have hcc3 : (cc : Int) ≤ 43046721 := by omega
        go_upto_region 14 with fail
        obtain ⟨nw, hnw⟩ : ∃ z, (if cc ≤ 64 then ln else 0) = z := ⟨_, rfl⟩
        have hnw2 : (cc ≤ 64 ∧ nw = ln) ∨ (64 < cc ∧ nw = 0) := by
          by_cases h64 : cc ≤ 64
          · rw [if_pos h64] at hnw; exact Or.inl ⟨h64, hnw.symm⟩
          · rw [if_neg h64] at hnw; exact Or.inr ⟨by omega, hnw.symm⟩
        clear hnw
        go_wp2
        go_loopg [8, 9] nw (fun g u i wr => ∃ (jj : Nat) (M : List (Value × List ByteArray)), jj + g = nw ∧ i = .int .i64 (jj : Int) ∧ RS5 W2.heap.size wr u M ∧ M.map Prod.snd = ((L.map Prod.snd).take jj).flatMap (fun a => (nm5 s).map fun x => a ++ [x]) ∧ M.length ≤ 9 * jj ∧ Below W2.heap.size W2 wr)
        case atStart => exact ⟨0, [], by omega, rfl, RS5.nil _ _, rfl, Nat.le_refl _, Below.refl _ _⟩
        case round =>
          obtain ⟨jj, M, hgj, rfl, hrm, hml, hmz, hbm⟩ := hrel
          have HRM := hm7 hrm
          have HML := hm7 hml
          have HBM := hm7 hbm
          obtain ⟨ma, mc, hmf⟩ := hrm.form
          obtain ⟨mn, hmn⟩ : ∃ z, M.length = z := ⟨_, rfl⟩
          rw [hmn] at hmf hmz
          have HMN := hm7 hmn
          subst hmf
          clear hrm hml hbm hmn
          cases gk with
          | succ g2 =>
            have hc64 : cc ≤ 64 := by omega
            have hjl : jj < ln := by omega
            have k2 : (0 : Int) ≤ (jj : Int) := by omega
            have k3 : (jj : Int) < (ln : Int) := by omega
            have k4 : (cc : Int) ≤ 64 := by omega
            have hln6 : ln ≤ 64 := by
              have h1 := congrArg List.length HLS.out
              rw [List.length_map, HLN.out, if_pos (by omega), HCA.out] at h1
              omega
            have hcb9 : cb ≤ 9 := by have := (nm5_len s).2; rw [HCB.out] at this; exact this
            obtain ⟨x, hx⟩ : ∃ x, L[jj]? = some x := ⟨_, List.getElem?_eq_getElem (by have := HLN.out; omega)⟩
            obtain ⟨ub, uc', hue, hub⟩ := own_some HRW.out.o (by have := HLN.out; omega)
            obtain ⟨rfl, rfl⟩ : ua = some ⟨ub, 0, none⟩ ∧ uc = uc' := by
              injection hue with h1 h2 h3
              exact ⟨h1, h3⟩
            have HXS := hm7 (HRW.out.k x (List.mem_of_getElem? hx)).1
            have HUC : Hid (W2.cell? ⟨ub, 0 + jj, none⟩ = some x.1) := row5_cell (m := L.length) (cap := uc) (by have := HRW.out.o; rw [HLN.out] at this ⊢; exact this) (by rw [List.getElem?_map, hx]; rfl)
            have HUB : Hid (ub < W2.heap.size) := hub
            have HTK : Hid ((L.map Prod.snd).take (jj + 1) = (L.map Prod.snd).take jj ++ [x.2]) := by
              show _ = _
              rw [List.take_add_one, List.getElem?_map, hx]; rfl
            have HMLX : Hid (x.2.length ≤ 8) := by
              have h1 : x.2 ∈ L.map Prod.snd := List.mem_map.2 ⟨x, List.mem_of_getElem? hx, rfl⟩
              rw [HLS.out, if_pos (by omega)] at h1
              exact Nat.le_trans (wl5_in bs j x.2 h1) (by omega)
            obtain ⟨xv, xl⟩ := x
            obtain ⟨xa, xc, hxf, -⟩ := row7_form HXS.out
            obtain ⟨xn, hxn⟩ : ∃ z, xl.length = z := ⟨_, rfl⟩
            have HXN := hm7 hxn
            have hxf2 : xv = .slice xa xn xc := by rw [← hxn]; exact hxf
            subst hxf2
            clear hxf hxn hue hub hx
            obtain ⟨W3, rfl⟩ : ∃ W3, W3 = wr := ⟨_, rfl⟩
            go_upto_region 18 with fail
            go_wp2
            go_loopg [8, 10] cb (fun g u i wr => ∃ (kk : Nat) (N : List (Value × List ByteArray)), kk + g = cb ∧ i = .int .i64 (kk : Int) ∧ RS5 W2.heap.size wr u N ∧ N.map Prod.snd = M.map Prod.snd ++ ((nm5 s).take kk).map (fun y => xl ++ [y]) ∧ N.length ≤ 9 * jj + kk ∧ Below W2.heap.size W2 wr)
            case atStart => exact ⟨0, M, by omega, rfl, HRM.out, by simp, by have := HMN.out; omega, HBM.out⟩
            case round =>
              obtain ⟨kk, N, hgk, rfl, hrn, hnl, hnz, hbn⟩ := hrel
              have HRN := hm7 hrn
              have HNL := hm7 hnl
              have HBN := hm7 hbn
              obtain ⟨pa, pc, hpf⟩ := hrn.form
              obtain ⟨pn, hpn⟩ : ∃ z, N.length = z := ⟨_, rfl⟩
              rw [hpn] at hpf hnz
              have HPN := hm7 hpn
              subst hpf
              clear hrn hnl hbn hpn
              cases gk with
              | succ g3 =>
                have k5 : (0 : Int) ≤ (kk : Int) := by omega
                have k6 : (kk : Int) < (cb : Int) := by omega
                obtain ⟨y, hy⟩ : ∃ y, (nm5 s)[kk]? = some y := ⟨_, List.getElem?_eq_getElem (by have := HCB.out; omega)⟩
                obtain ⟨nb, nc', hne, hnb⟩ := own_some HSB.out (by have := HCB.out; omega)
                obtain ⟨rfl, rfl⟩ : na = some ⟨nb, 0, none⟩ ∧ nc = nc' := by
                  injection hne with h1 h2 h3
                  exact ⟨h1, h3⟩
                have HYC : Hid (W2.cell? ⟨nb, 0 + kk, none⟩ = some (.string y)) := row5_cell (m := (nm5 s).length) (cap := nc) (by have := HSB.out; unfold Sx5 at this; rw [HCB.out] at this ⊢; exact this) (by rw [List.getElem?_map, hy]; rfl)
                have HNB : Hid (nb < W2.heap.size) := hnb
                have HTY : Hid ((nm5 s).take (kk + 1) = (nm5 s).take kk ++ [y]) := by
                  show _ = _
                  rw [List.take_add_one, hy]; rfl
                clear hne hnb hy
                have c1 := cell_step HBN.out HUB.out HUC.out
                have c2 := cell_step HBN.out HNB.out HYC.out
                rw [Nat.zero_add] at c1 c2
                have HUC0 : Hid (W2.cell? ⟨ub, jj, none⟩ = some (.slice xa xn xc)) := by have := HUC.out; rw [Nat.zero_add] at this; exact this
                have HYC0 : Hid (W2.cell? ⟨nb, kk, none⟩ = some (.string y)) := by have := HYC.out; rw [Nat.zero_add] at this; exact this
                go_wp2
                have hu5 : ub < wr.heap.size := Nat.lt_of_lt_of_le HUB.out HBN.out.size
                have hn5 : nb < wr.heap.size := Nat.lt_of_lt_of_le HNB.out HBN.out.size
                have HXW := hm7 (row7_below HXS.out HBN.out)
                have hxn8 : xn ≤ 8 := by have := HMLX.out; have := HXN.out; omega
                have HXU : Hid (∀ X : World, Below wr.heap.size wr X → X.ownsRow w.heap.size 9 1 (.slice xa xn xc) xn (xl.map Value.string)) := fun X hX => by
                  have := row7_below HXW.out hX
                  rw [HXN.out] at this
                  exact this
                go_region_held3 (fun w' => w'.cell? ⟨ub, jj, none⟩ = some (.slice xa xn xc) ∧ w'.cell? ⟨nb, kk, none⟩ = some (.string y) ∧ Below W2.heap.size W2 w')
                  ((refine keepA HUB.out HNB.out HUC0.out HYC0.out ?_; first | exact HBN.out.drew | exact bal5 HBN.out.drew _ | exact bal5 (bal5 HBN.out.drew _) _ | exact below_step HBN.out hb1 | exact bal5 (below_step HBN.out hb1) _ | exact below_step HBN.out hb2 | exact bal5 (below_step HBN.out hb2) _ | exact hb3))
                  ((first
                    | (refine stepQ5 Tryz.underlying39 Tryz.infoStr5 rfl (by decide) (by decide) rfl _ _ rfl wr.heap.size (.slice (some ⟨wr.heap.size, 0, none⟩) 0 0) 0 [] rfl (.slice xa xn xc) xn w.heap.size (xl.map Value.string) rfl (own0 (Bk.new _ _ _) (Nat.le_refl _)) (HXU.out _ (bal5 (Below.refl wr.heap.size wr).drew _)) (strs_one _) (by omega) (bal5 (Below.refl wr.heap.size wr).drew _).size ?_; intro v1 w1 ho1 hg1 hv1; clear hv1; rw [Nat.zero_add, List.nil_append] at ho1; have hb1 := grow5 (bal5 (Below.refl wr.heap.size wr).drew _) hg1 (by omega); clear hg1; obtain ⟨ya, yc, rfl, -⟩ := row7_form ho1)
                    | (refine stepQ5 Tryz.underlying39 Tryz.infoStr5 rfl (by decide) (by decide) rfl _ _ rfl wr.heap.size (.slice (some ⟨wr.heap.size + 1, 0, none⟩) 0 0) 0 [] rfl (.slice xa xn xc) xn w.heap.size (xl.map Value.string) rfl (own_c wr.drew (.cells #[.string y] 9)) (HXU.out _ (bal5 (bal5 (Below.refl wr.heap.size wr).drew (.cells #[.string y] 9)) (.cells #[] 9))) (strs_one _) (by omega) (bal5 (bal5 (Below.refl wr.heap.size wr).drew (.cells #[.string y] 9)) (.cells #[] 9)).size ?_; intro v1 w1 ho1 hg1 hv1; clear hv1; rw [Nat.zero_add, List.nil_append] at ho1; have hb1 := grow5 (bal5 (bal5 (Below.refl wr.heap.size wr).drew (.cells #[.string y] 9)) (.cells #[] 9)) hg1 (by omega); have hk2 : Sx5 w1 wr.heap.size (.slice (some ⟨wr.heap.size, 0, none⟩) 1 1) [y] := hk_c (W := wr.drew) hg1; clear hg1; obtain ⟨ya, yc, rfl, -⟩ := row7_form ho1)
                    | (refine stepQ5 Tryz.underlying39 Tryz.infoStr5 rfl (by decide) (by decide) rfl _ _ rfl wr.heap.size (.slice ya xn yc) xn (xl.map Value.string) rfl (.slice (some ⟨w1.heap.size, 0, none⟩) 1 1) 1 wr.heap.size [.string y] rfl (ho1.alloc _) (Sx5.one (Bk.new _ _ _) hb1.size) (strs_one [y]) (by omega) (bal5 hb1 _).size ?_; intro v2 w2 ho2 hg2 hv2; clear hv2; have hb2 : Below wr.heap.size wr w2 := (bal5 hb1 _).grown hg2 (bal5 hb1 _).size fun k e => (World.ownsRow.lt ho1 k e).1; clear hg2; obtain ⟨za, zc, rfl, -⟩ := row7_form ho2)
                    | (refine stepQ5 Tryz.underlying39 Tryz.infoStr5 rfl (by decide) (by decide) rfl _ _ rfl wr.heap.size (.slice ya xn yc) xn (xl.map Value.string) rfl (.slice (some ⟨wr.heap.size + 1, 0, none⟩) 1 1) 1 wr.heap.size [.string y] rfl ho1 hk1 (strs_one [y]) (by omega) hb1.size ?_; intro v2 w2 ho2 hg2 hv2; clear hv2; have hb2 : Below wr.heap.size wr w2 := hb1.grown hg2 hb1.size fun k e => (World.ownsRow.lt ho1 k e).1; clear hg2; obtain ⟨za, zc, rfl, -⟩ := row7_form ho2)
                    | (refine stepQ5 Tryz.underlying39 Tryz.infoStr5 rfl (by decide) (by decide) rfl _ _ rfl wr.heap.size (.slice ya xn yc) xn (xl.map Value.string) rfl (.slice (some ⟨wr.heap.size, 0, none⟩) 1 1) 1 wr.heap.size [.string y] rfl ho1 hk2 (strs_one [y]) (by omega) hb1.size ?_; intro v2 w2 ho2 hg2 hv2; clear hv2; have hb2 : Below wr.heap.size wr w2 := hb1.grown hg2 hb1.size fun k e => (World.ownsRow.lt ho1 k e).1; clear hg2; obtain ⟨za, zc, rfl, -⟩ := row7_form ho2)
                    | (refine stepQ5 Tryz.underlying40 Tryz.infoStrs5 rfl (by decide) (by decide) rfl _ _ rfl W2.heap.size (.slice pa pn pc) pn (N.map Prod.fst) rfl (.slice (some ⟨w2.heap.size, 0, none⟩) 1 1) 1 wr.heap.size [.slice za (xn + 1) zc] rfl (by have := (HRN.out.below (bal5 hb2 (.cells #[.slice za (xn + 1) zc] 39))).o; rw [HPN.out] at this; exact this) ⟨rfl, Or.inr ⟨_, 1, _, rfl, hb2.size, Bk.new _ _ _, Nat.le_refl _, by unfold maxLen; omega, rfl, rfl⟩⟩ (by simp [Value.oneCell']) (by omega) (Nat.le_trans HBN.out.size (bal5 hb2 _).size) ?_; intro v3 w3 ho3 hg3 hv3; have h3 := fin21 (v2 := .slice za (xn + 1) zc) (l := xl ++ [y]) HRN.out HBN.out (bal5 hb2 _) (by have := ho2.alloc (.cells #[.slice za (xn + 1) zc] 39); unfold Sx5; rw [List.length_append, HXN.out, List.map_append]; exact this) (by rw [HPN.out]; exact ho3) hg3 hv3; have hb3 := h3.2)
                    | (refine stepQ5 Tryz.underlying39 Tryz.infoStr5 rfl (by decide) (by decide) rfl _ _ rfl wr.heap.size (.slice (some ⟨wr.heap.size, 0, none⟩) 0 0) 0 [] rfl (.slice xa xn xc) xn w.heap.size (xl.map Value.string) rfl (own_b wr.drew (.cells #[.string y] 9)) (HXU.out _ (bal5 (bal5 (Below.refl wr.heap.size wr).drew (.cells #[] 9)) (.cells #[.string y] 9))) (strs_one _) (by omega) (bal5 (bal5 (Below.refl wr.heap.size wr).drew (.cells #[] 9)) (.cells #[.string y] 9)).size ?_; intro v1 w1 ho1 hg1 hv1; clear hv1; rw [Nat.zero_add, List.nil_append] at ho1; have hb1 := grow5 (bal5 (bal5 (Below.refl wr.heap.size wr).drew (.cells #[] 9)) (.cells #[.string y] 9)) hg1 (by omega); have hk1 : Sx5 w1 wr.heap.size (.slice (some ⟨wr.heap.size + 1, 0, none⟩) 1 1) [y] := hk_b (W := wr.drew) hg1; clear hg1; obtain ⟨ya, yc, rfl, -⟩ := row7_form ho1)))
                all_goals
                  have HR3 := hm7 h3
                  clear h3 hb3 ho3 hg3 hv3
                  go_wp2
                  go_roundg g3
                  case measure => omega
                  case rel => exact ⟨kk + 1, N ++ [(.slice za (xn + 1) zc, xl ++ [y])], by omega, by go_num, HR3.out.1, by rw [List.map_append, HNL.out, HTY.out, List.map_append, List.append_assoc]; rfl, by rw [List.length_append]; have := HPN.out; simp; omega, HR3.out.2⟩
              | zero =>
                have k6 : ¬ (kk : Int) < (cb : Int) := by omega
                have hkk : kk = cb := by omega
                subst hkk
                have HNE : Hid (N.map Prod.snd = ((L.map Prod.snd).take (jj + 1)).flatMap (fun a => (nm5 s).map fun x => a ++ [x])) := by
                  show _ = _
                  rw [HNL.out, HML.out, HTK.out, List.flatMap_append, List.take_of_length_le (l := nm5 s) (by rw [HCB.out]; exact Nat.le_refl _)]
                  simp
                go_wp2
                go_roundg g2
                case measure => omega
                case rel => exact ⟨jj + 1, N, by omega, by go_num, HRN.out, HNE.out, by have := HPN.out; omega, HBN.out⟩
          | zero =>
            rcases hnw2 with ⟨h64, hnl⟩ | ⟨h64, hnl⟩
            · have k3 : ¬ (jj : Int) < (ln : Int) := by omega
              have HLT : Hid (M.map Prod.snd = wl5 bs (j + 1)) := by
                show _ = _
                have h1 := HML.out
                rw [List.take_of_length_le (by rw [List.length_map, HLN.out]; omega), HLS.out, if_pos (by omega)] at h1
                rw [h1, HWL.out]
              go_wp2
              go_roundg g
              case measure => omega
              case rel => exact ⟨j + 1, M, by omega, by go_num, by rw [HTU.out], by rw [HCC.out], HRM.out.base HBW2.out.size, by rw [HLT.out, HCC.out, if_pos h64], below_step HBW2.out HBM.out⟩
            · have hj0 : jj = 0 := by omega
              subst hj0
              have hM0 : M = [] := by
                have h1 := HML.out
                rw [List.take_zero] at h1
                exact List.map_eq_nil_iff.1 h1
              have k4 : ¬ (cc : Int) ≤ 64 := by omega
              by_cases hl0 : 0 < ln
              · have k3 : ((0 : Nat) : Int) < (ln : Int) := by omega
                go_wp2
                go_roundg g
                case measure => omega
                case rel => exact ⟨j + 1, M, by omega, by go_num, by rw [HTU.out], by rw [HCC.out], HRM.out.base HBW2.out.size, by rw [hM0, HCC.out, if_neg (by omega)]; rfl, below_step HBW2.out HBM.out⟩
              · have k3 : ¬ ((0 : Nat) : Int) < (ln : Int) := by omega
                go_wp2
                go_roundg g
                case measure => omega
                case rel => exact ⟨j + 1, M, by omega, by go_num, by rw [HTU.out], by rw [HCC.out], HRM.out.base HBW2.out.size, by rw [hM0, HCC.out, if_neg (by omega)]; rfl, below_step HBW2.out HBM.out⟩
      | zero =>
        obtain rfl : j = n := by omega
        have h8 : bs.length ≤ 8 := by have := HN.out; omega
        have h0 : bs ≠ [] := by
          intro e
          have := HN.out
          rw [e] at this
          simp at this
          omega
        have HPX : Hid (∀ X : World, Below w.heap.size w X → Calls Tryz.prog 10 #[.string (txA bs)] X (ReP X (if 64 < (wl5 bs j).length then .error (53, 2) else .ok ((wl5 bs j).map kA)))) := fun X hX => by
          have h1 := HPG.out h8 X hX
          rw [pg_txA h0 h8, HN.out] at h1
          exact h1
        obtain ⟨A1, hA1⟩ : ∃ z, (⟨#[32, 32]⟩ : ByteArray) ++ tu5 bs j = z := ⟨_, rfl⟩
        obtain ⟨A2, hA2⟩ : ∃ z, A1 ++ (⟨#[46]⟩ : ByteArray) = z := ⟨_, rfl⟩
        have hTX : txA bs = A2 := by unfold txA; rw [HN.out, hA1, hA2]
        rw [hTX] at HPX
        have htz := tu5_size bs j
        have hz1 : A1.size = 2 + (tu5 bs j).size := by rw [← hA1, ByteArray.size_append]; rfl
        obtain ⟨tj, htj⟩ : ∃ z, tu5 bs j = z := ⟨_, rfl⟩
        rw [htj] at htz hz1 hA1 ⊢
        obtain ⟨cn, hcn⟩ : ∃ z, (wl5 bs j).length = z := ⟨_, rfl⟩
        rw [hcn] at HPX HLS ⊢
        have HCN := hm7 hcn
        have g1 : ¬ 9223372036854775807 < 2 + tj.size := by omega
        have g2 : ¬ 9223372036854775807 < A1.size + 1 := by omega
        have k1 : ¬ (j : Int) < (j : Int) := by omega
        clear HPG h0 h8 hTX htz hz1 htj hcn hbl HM HZ HB0 HR0 hg
        by_cases h64 : 64 < cn
        · rw [if_pos h64] at HPX
          have k2 : (64 : Int) < (cn : Int) := by omega
          have heq := eql_ft5
          clear h64
          go_wp2_with (first
            | (go_at_call 10; refine (HPX.out _ HB.out).mono ?_; rintro e W1 ⟨hb, v, c, a, rfl, hv, hc, ha⟩; subst hv hc ha; have HB2 := hm7 (below_step HB.out (below_step hb (below1 W1 (.cells #[.int .i64 53, .int .i64 2] 26)))); clear hb)
            | (go_at_call 9; refine (HF.out _ HB2.out).mono ?_; rintro e w3 ⟨rfl, hb⟩; have HB3 := hm7 (below_step HB2.out hb); clear hb))
          go_ret
          exact ⟨rfl, HB3.out⟩
        · rw [if_neg h64] at HPX
          have hc6 : cn ≤ 64 := by omega
          rw [if_pos hc6] at HLS
          have k2 : ¬ (64 : Int) < (cn : Int) := by omega
          have hlc : ln = cn := by
            have h1 := congrArg List.length HLS.out
            rw [List.length_map, HLN.out, HCN.out] at h1
            exact h1
          subst hlc
          clear h64
          go_upto_region 24 with (go_at_call 10; refine (HPX.out _ HB.out).mono ?_; rintro e W1 ⟨hb, v, c, a, rfl, rfl, rfl, l, hk, hrl⟩; have hl1 : l.length = ln := (by have := congrArg List.length hk; rw [List.length_map, List.length_map, HCN.out] at this; exact this); obtain ⟨vg, vc2, hvf⟩ := hrl.form; rw [hl1] at hvf; subst hvf; have HK := hm7 hk; have HRL := hm7 hrl; have HB1 := hm7 hb; have HL1 := hm7 hl1; clear hb hk hrl hl1)
          have HBX := hm7 (below1 W1 (.cells #[.int .i64 0, .int .i64 0] 26))
          have HRX := hm7 (HRL.out.below HBX.out)
          have HSX := hm7 ((HR.out.below HB1.out).below HBX.out)
          have HBW := hm7 (below_step HB.out (below_step HB1.out HBX.out))
          have HFX := hm7 (Bk.new W1 #[.int .i64 0, .int .i64 0] 26)
          have x0 := HFX.out.cell (i := 0) rfl
          have x1 := HFX.out.cell (i := 1) rfl
          have hnq := neq_ft0
          clear HPX HRL HR HBX hA1 hA2 g1 g2
          have k3 : ((ln : Int) != (ln : Int)) = false := by simp
          go_upto_region 28 with fail
          clear x0 x1 hnq k3
          revert HRX HSX HBW HFX
          generalize W1.alloc (.cells #[.int .i64 0, .int .i64 0] 26) = WX
          intro HRX HSX HBW HFX
          clear HFX HB1 HB
          go_wp2
          go_loopg [13] ln (fun g i wr => ∃ ii : Nat, ii + g = ln ∧ i = .int .i64 (ii : Int) ∧ Below WX.heap.size WX wr)
          case atStart => exact ⟨0, by omega, rfl, Below.refl _ _⟩
          case round =>
            obtain ⟨ii, hgi, rfl, hbr⟩ := hrel
            have HBR := hm7 hbr
            clear hbr
            cases gk with
            | succ g4 =>
              obtain ⟨c, hc⟩ : ∃ c, l[ii]? = some c := ⟨_, List.getElem?_eq_getElem (by have := HL1.out; omega)⟩
              obtain ⟨x, hx⟩ : ∃ x, L[ii]? = some x := ⟨_, List.getElem?_eq_getElem (by have := HLN.out; omega)⟩
              have hkey : c.key = kA x.2 := by
                have h1 : (l.map Cm.key)[ii]? = some c.key := by rw [List.getElem?_map, hc]; rfl
                have h2 : (L.map Prod.snd)[ii]? = some x.2 := by rw [List.getElem?_map, hx]; rfl
                rw [HK.out, List.getElem?_map, ← HLS.out, h2] at h1
                exact (Option.some.inj h1).symm
              obtain ⟨cg, cc, hce, hcg, ⟨-, -, -, c3, -, c5, c6⟩, hok⟩ := HRX.out.get5 hc
              rw [HL1.out] at hce
              obtain ⟨rfl, rfl⟩ : vg = some ⟨cg, 0, none⟩ ∧ vc2 = cc := by
                injection hce with h1 h2 h3
                exact ⟨h1, h3⟩
              obtain ⟨ub, uc', hue, hub⟩ := own_some HSX.out.o (by have := HLN.out; omega)
              obtain ⟨rfl, rfl⟩ : ua = some ⟨ub, 0, none⟩ ∧ uc = uc' := by
                injection hue with h1 h2 h3
                exact ⟨h1, h3⟩
              have HXS := hm7 (HSX.out.k x (List.mem_of_getElem? hx)).1
              have HUC : Hid (WX.cell? ⟨ub, 0 + ii, none⟩ = some x.1) := row5_cell (m := L.length) (cap := uc) (by have := HSX.out.o; rw [HLN.out] at this ⊢; exact this) (by rw [List.getElem?_map, hx]; rfl)
              obtain ⟨xv, xl⟩ := x
              obtain ⟨xa, xc, hxf, -⟩ := row7_form HXS.out
              obtain ⟨xn, hxn⟩ : ∃ z, xl.length = z := ⟨_, rfl⟩
              have HXN := hm7 hxn
              have hxf2 : xv = .slice xa xn xc := by rw [← hxn]; exact hxf
              subst hxf2
              have hxn8 : xn ≤ 8 := by
                have h1 : xl ∈ L.map Prod.snd := List.mem_map.2 ⟨_, List.mem_of_getElem? hx, rfl⟩
                rw [HLS.out] at h1
                have := wl5_in bs j xl h1
                omega
              have hhd : c.head.1 = hAt := congrArg Prod.fst hkey
              have hbd : fsts c.body = xl.map nAt := congrArg (fun z => z.2.1) hkey
              have hte : c.tests = [] := congrArg (fun z => z.2.2) hkey
              have hbl : c.body.length = xn := by
                have := congrArg List.length hbd
                rw [List.length_map, hxn] at this
                unfold fsts at this
                rw [List.length_map] at this
                exact this
              have HBD := hm7 hbd
              have hnm : c.head.1.name = ⟨#[104]⟩ := by rw [hhd]; decide
              rw [hnm] at c3
              obtain ⟨-, ⟨ba, bc, hbv⟩, ⟨ta, tc, htv⟩, -, -⟩ := hok.shape
              rw [hbl] at hbv
              rw [hte] at htv
              have HAs := hm7 hok.b
              rw [hbv] at c5 HAs
              rw [htv] at c6
              have HC5 := hm7 c5
              have HUC0 : Hid (WX.cell? ⟨ub, ii, none⟩ = some (.slice xa xn xc)) := by have := HUC.out; rw [Nat.zero_add] at this; exact this
              have HUB : Hid (ub < WX.heap.size) := hub
              have HCG : Hid (cg < WX.heap.size) := hcg
              have d3 := cell_step HBR.out hcg c3
              have d5 := cell_step HBR.out hcg c5
              have d6 := cell_step HBR.out hcg c6
              have d0 := cell_step HBR.out hub HUC0.out
              have k3 : (0 : Int) ≤ (ii : Int) := by omega
              have k4 : (ii : Int) < (ln : Int) := by omega
              have k5 : ((xn : Int) != (xn : Int)) = false := by simp
              simp only [List.length_nil] at d6
              clear hc hx hkey hce hue hxf hxn hhd hbd hte hnm hbv htv hok c3 c5 c6 hub hcg HUC hbl
              go_upto_region 31 with fail
              go_quiet (fail)
              clear d3 d5 d6 d0
              go_wp2
              go_loopg [14] xn (fun g i wr => ∃ kk : Nat, kk + g = xn ∧ i = .int .i64 (kk : Int) ∧ Below WX.heap.size WX wr)
              case atStart => exact ⟨0, by omega, rfl, below_drewN HBR.out _⟩
              case round =>
                obtain ⟨kk, hgk, rfl, hbq⟩ := hrel
                have HBQ := hm7 hbq
                clear hbq
                have e5 := cell_step HBQ.out HCG.out HC5.out
                have e0 := cell_step HBQ.out HUB.out HUC0.out
                cases gk with
                | succ g5 =>
                  obtain ⟨bb, bo, t, hba, ht, hbb, ⟨-, -, -, t3, -⟩, -⟩ := HAs.out.get5 (j := kk) (by omega)
                  subst hba
                  obtain ⟨y, hy⟩ : ∃ y, xl[kk]? = some y := ⟨_, List.getElem?_eq_getElem (by have := HXN.out; omega)⟩
                  have hty : t.1 = nAt y := by
                    have h1 : (fsts c.body)[kk]? = some t.1 := by unfold fsts; rw [List.getElem?_map, ht]; rfl
                    rw [HBD.out, List.getElem?_map, hy] at h1
                    exact (Option.some.inj h1).symm
                  have htn : t.1.name = y := by rw [hty]; rfl
                  rw [htn] at t3
                  obtain ⟨xb, xc', hxe, hxb⟩ := own_some HXS.out (by have := HXN.out; omega)
                  obtain ⟨rfl, rfl⟩ : xa = some ⟨xb, 0, none⟩ ∧ xc = xc' := by
                    injection hxe with h1 h2 h3
                    exact ⟨h1, h3⟩
                  have hyc : WX.cell? ⟨xb, 0 + kk, none⟩ = some (.string y) := row5_cell (m := xl.length) (cap := xc) (by have := HXS.out; unfold Sx5 at this; rw [HXN.out] at this ⊢; exact this) (by rw [List.getElem?_map, hy]; rfl)
                  rw [Nat.zero_add] at hyc
                  have e3 := cell_step HBQ.out hbb t3
                  have e1 := cell_step HBQ.out hxb hyc
                  have k6 : (0 : Int) ≤ (kk : Int) := by omega
                  have k7 : (kk : Int) < (xn : Int) := by omega
                  clear ht hbb t3 hy hty htn hxe hxb hyc
                  go_upto_region 36 with fail
                  go_quiet (fail)
                  go_wp2
                  go_roundg g5
                  case measure => omega
                  case rel => exact ⟨kk + 1, by omega, by go_num, below_drewN HBQ.out _⟩
                | zero =>
                  have k7 : ¬ (kk : Int) < (xn : Int) := by omega
                  go_wp2
                  go_roundg g4
                  case measure => omega
                  case rel => exact ⟨ii + 1, by omega, by go_num, HBQ.out⟩
            | zero =>
              have k4 : ¬ (ii : Int) < (ln : Int) := by omega
              have HB5 := hm7 (below_step HBW.out HBR.out)
              go_wp2_with (go_at_call 9; refine (HF.out _ HB5.out).mono ?_; rintro e w3 ⟨rfl, hb⟩; have HB3 := hm7 (below_step HB5.out hb); clear hb)
              go_ret
              exact ⟨rfl, HB3.out⟩
end Go.Proofs.YtnikmcmkbjjcdaaGreatDoor

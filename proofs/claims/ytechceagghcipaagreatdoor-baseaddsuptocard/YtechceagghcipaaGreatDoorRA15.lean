import Derived.Test.YtechceagghcipaaGreatDoorRA14
namespace Go.Proofs.YtechceagghcipaaGreatDoor
open Go.RowKit
attribute [local go_sem ↓] Go.wp_at_zero Go.wp_at_succ

theorem pcs7_get : ∀ (l : List (Int × Int)) (j : Nat) (p : Int × Int), l[j]? = some p -> (pcs7 l)[j * 2]? = some (.int .i64 p.1) /\ (pcs7 l)[j * 2 + 1]? = some (.int .i64 p.2)
 | x :: l, 0, p, h => by
  simp at h
  subst h
  exact ⟨rfl, rfl⟩
 | x :: l, j + 1, p, h => by
  have := pcs7_get l j p (by simpa using h)
  rw [show (j + 1) * 2 = (j * 2 + 1) + 1 by omega]
  exact this
theorem OwSt.at_ {w : World} {base cap n j : Nat} {a : Option Addr} {l : List (Int × Int)} {p : Int × Int} (h : OwSt w base (.slice a n cap) l) (hn : l.length = n) (hp : l[j]? = some p) : ∃ g, a = some ⟨g, 0, none⟩ /\ base <= g /\ g < w.heap.size /\ w.cell? ⟨g, j * 2, none⟩ = some (.int .i64 p.1) /\ w.cell? ⟨g, j * 2 + 1, none⟩ = some (.int .i64 p.2) := by
 obtain ⟨h1, h2⟩ := pcs7_get l j p hp
 unfold OwSt at h
 rw [hn] at h
 obtain ⟨g, e1, q1, q2, q3, -⟩ := row7_at h h1
 obtain ⟨g', e2, -, -, q4, -⟩ := row7_at h h2
 subst e1
 cases e2
 exact ⟨g, rfl, q1, q2, q3, q4⟩
def sum7 (l : List (Int × Int)) : Int := l.foldl (fun n p => n + (p.2 - p.1)) 0
theorem sum7_snoc (l : List (Int × Int)) (j : Nat) (p : Int × Int) (h : l[j]? = some p) : sum7 (l.take (j + 1)) = sum7 (l.take j) + (p.2 - p.1) := by
 rw [List.take_add_one, h]
 simp [sum7]
theorem sts7_len (s : St7) (parts : Int) : (sts7 s parts).length <= 3 := by
 unfold sts7
 split <;> split <;> split <;> simp
theorem sts7_mem {s : St7} (ho : s.Ok) {parts : Int} {p : Int × Int} (h : p ∈ sts7 s parts) : 0 <= p.1 /\ p.1 <= p.2 /\ p.2 <= (s.rows.length : Int) := by
 have h1 := ho.a
 have h2 := ho.b
 simp only [sts7, List.mem_append] at h
 rcases h with h | h | h <;> split at h <;> simp at h <;> subst h <;> simp <;> omega
theorem sum7_take {s : St7} (ho : s.Ok) (parts : Int) : ∀ j, 0 <= sum7 ((sts7 s parts).take j) /\ sum7 ((sts7 s parts).take j) <= (s.rows.length : Int) * j
 | 0 => by simp [sum7]
 | j + 1 => by
  have ih := sum7_take ho parts j
  cases hp : (sts7 s parts)[j]? with
  | none =>
   rw [List.take_of_length_le (by have := List.getElem?_eq_none_iff.1 hp; omega)]
   rw [List.take_of_length_le (by have := List.getElem?_eq_none_iff.1 hp; omega)] at ih
   refine ⟨ih.1, Int.le_trans ih.2 ?_⟩
   have : (s.rows.length : Int) * ((j + 1 : Nat) : Int) = (s.rows.length : Int) * (j : Int) + (s.rows.length : Int) := by rw [Int.natCast_add, Int.mul_add]; simp
   omega
  | some p =>
   obtain ⟨q1, q2, q3⟩ := sts7_mem ho (List.mem_of_getElem? hp)
   rw [sum7_snoc _ _ _ hp]
   have : (s.rows.length : Int) * ((j + 1 : Nat) : Int) = (s.rows.length : Int) * (j : Int) + (s.rows.length : Int) := by rw [Int.natCast_add, Int.mul_add]; simp
   omega
def len7 (s : St7) (parts : Int) : Int := sum7 (sts7 s parts)
set_option maxRecDepth 20000 in
set_option maxHeartbeats 2000000 in
theorem len7_any (g : Nat) (F S : Nat -> Prop) (m : Nat) (s : St7) (parts : Int) (w : World) (h : RM w g F S m s) :
  Calls Tryz.prog 112 #[.pointer (some ⟨g, 0, none⟩), .int .i64 parts] w fun e w' => e = .returned (.int .i64 (len7 s parts)) /\ Below w.heap.size w w' := by
 have HST : Hid (Calls Tryz.prog 126 #[.pointer (some ⟨g, 0, none⟩), .int .i64 parts] w fun e w' => ∃ v, e = .returned v /\ OwSt w' w.heap.size v (sts7 s parts) /\ Below w.heap.size w w') := stretches7_any g F S m s parts w h
 have HOK := hm7 h.ok
 clear h
 obtain ⟨L, hL⟩ : ∃ L, sts7 s parts = L := ⟨_, rfl⟩
 have HM : Hid (∀ p ∈ L, 0 <= p.1 /\ p.1 <= p.2 /\ p.2 <= 10000000000) := fun p hp => by
  have := sts7_mem HOK.out (parts := parts) (hL ▸ hp)
  have := HOK.out.c
  omega
 have HT : Hid (∀ j, 0 <= sum7 (L.take j) /\ sum7 (L.take j) <= (s.rows.length : Int) * j) := by rw [<- hL]; exact sum7_take HOK.out parts
 have hLL : L.length <= 3 := by rw [<- hL]; exact sts7_len _ _
 have HLE : Hid (len7 s parts = sum7 L) := by show _ = _; rw [len7, hL]
 rw [hL] at HST
 clear hL
 obtain ⟨n, hn⟩ : ∃ n, L.length = n := ⟨_, rfl⟩
 have HN := hm7 hn
 rw [hn] at hLL
 clear hn
 go_enter Tryz.func112, Tryz.ntmps112
 go_upto_region 3 with (go_at_call 126; refine HST.out.mono ?_; rintro e w1 ⟨v, rfl, ho, hb⟩; obtain ⟨a, cap, hv, -⟩ := row7_form ho; rw [HN.out] at hv; subst hv; have HO := hm7 ho; have HB := hm7 hb; clear ho hb)
 go_loopg [5, 12] n (fun g u i wr => ∃ j : Nat, j + g = n /\ u = .int .i64 (sum7 (L.take j)) /\ i = .int .i64 j /\ Below w1.heap.size w1 wr)
 case atStart => exact ⟨0, by omega, rfl, rfl, Below.refl _ _⟩
 case round =>
  obtain ⟨j, hj, rfl, rfl, hb⟩ := hrel
  have HB2 := hm7 hb
  cases gk with
  | succ g =>
   have hlt : (j : Int) < (n : Int) := by omega
   have j0 : (0 : Int) <= (j : Int) := by omega
   obtain ⟨⟨x, y⟩, hp⟩ : ∃ p, L[j]? = some p := ⟨_, List.getElem?_eq_getElem (by have := HN.out; omega)⟩
   obtain ⟨bg, e, -, hbl, q0, q1⟩ := HO.out.at_ HN.out hp
   subst e
   rw [<- hb.cell (p := ⟨bg, _, none⟩) hbl] at q0 q1
   have HS : Hid (sum7 (L.take (j + 1)) = sum7 (L.take j) + (y - x)) := sum7_snoc L j _ hp
   obtain ⟨T, hT⟩ : ∃ T, sum7 (L.take j) = T := ⟨_, rfl⟩
   have hxy := HM.out _ (List.mem_of_getElem? hp)
   simp only at hxy q0 q1
   obtain ⟨x1, x2, x3⟩ := hxy
   have t1 := HT.out j
   rw [hT] at t1
   have t2 : T <= 30000000000 := by
    have h1 := HOK.out.c
    have : (s.rows.length : Int) * (j : Int) <= 10000000000 * 3 := Int.mul_le_mul (by omega) (by omega) (by omega) (by omega)
    omega
   have t0 := t1.1
   rw [hT] at HS ⊢
   have b1 : wr.heap.size < (wr.alloc (.cells #[.int .i64 x, .int .i64 y] 190)).heap.size := by simp
   clear hp hb t1 hT
   go_wp2
   go_roundg g
   case measure => omega
   case rel => exact ⟨j + 1, by omega, by rw [HS.out], by go_num, HB2.out.trans ((below1 wr _).mono HB2.out.size)⟩
  | zero =>
   have hlt : ¬ (j : Int) < (n : Int) := by omega
   have HE : Hid (sum7 (L.take j) = len7 s parts) := by rw [HLE.out, List.take_of_length_le (by have := HN.out; omega)]; rfl
   obtain ⟨T, hT⟩ : ∃ T, sum7 (L.take j) = T := ⟨_, rfl⟩
   rw [hT] at HE ⊢
   clear hb hT
   go_wp2
   go_ret
   exact ⟨ret_i HE.out, HB.out.trans (HB2.out.mono HB.out.size)⟩
end Go.Proofs.YtechceagghcipaaGreatDoor

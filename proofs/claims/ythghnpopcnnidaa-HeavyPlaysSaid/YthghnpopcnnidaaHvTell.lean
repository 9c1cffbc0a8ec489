/- What heavy tells; the walk of headgatelaw30.awake; how the laws begin. -/
import Derived.Test.YthghnpopcnnidaaHvLaw
namespace Go.Proofs.Ythghnpopcnnidaa
open Go.RowKit Vm
set_option linter.unusedVariables false
set_option linter.unusedSimpArgs false

theorem at_key {H : Hv} {K : Nat} (hok : HOk H K) {t : Ta} (ht : t ∈ H.L) : hasK H.L t.k = true ∧ H.L.getD (idxK H.L t.k) ta0 = t := by
  have h1 := hasK_mem.2 ⟨t, ht, rfl⟩
  obtain ⟨h2, h3⟩ := idxK_lt h1
  refine ⟨h1, ?_⟩
  obtain ⟨i, hi, he⟩ := List.mem_iff_getElem.1 ht
  have he2 : H.L.getD i ta0 = t := by rw [← he]; simp [List.getD, hi]
  by_cases e : idxK H.L t.k = i
  · rw [e]; exact he2
  · exact absurd (by rw [h3, he2]) (keys_ne hok.nd h2 hi e)
theorem at_lo {H : Hv} {K : Nat} (hok : HOk H K) {t : Ta} (ht : t ∈ H.L) : loH H.L t.k = t.n - t.o ∧ hiH H.m H.L t.k = t.n := by
  obtain ⟨h1, h2⟩ := at_key hok ht
  unfold loH hiH
  rw [if_pos h1, if_pos h1, h2]
  exact ⟨rfl, rfl⟩
theorem tells {H : Hv} {K : Nat} {xs : List Int} (hok : HOk H K) (hs : Str H xs) (x : Int) : loH H.L x ≤ (cntX xs x : Int) ∧ (cntX xs x : Int) ≤ hiH H.m H.L x := by
  unfold loH hiH
  by_cases hh : hasK H.L x = true
  · obtain ⟨h1, h2⟩ := idxK_lt hh
    rw [if_pos hh, if_pos hh]
    have := hs.bd _ h1
    rw [h2] at this
    exact this
  · rw [if_neg hh, if_neg hh]
    obtain ⟨h1, h2⟩ := hs.nx x (by simpa using hh)
    refine ⟨by omega, ?_⟩
    by_cases hl : H.L.length < H.m
    · rw [if_pos hl, h2 hl]; exact Int.le_refl _
    · rw [if_neg hl]
      exact h1 _ (firstTo_lt (by have := hok.m0; omega) _ (Nat.le_refl _))
theorem hi_pos {H : Hv} {K : Nat} (hok : HOk H K) (x : Int) : 0 ≤ hiH H.m H.L x := by
  unfold hiH
  split
  · next h => have := hok.t _ (getD_memT (idxK_lt h).1); omega
  · split
    · omega
    · have := hok.t _ (getD_memT (firstTo_lt (L := H.L) (by have := hok.m0; omega) _ (Nat.le_refl _))); unfold firstR; omega
theorem sum_low (c : Int) : ∀ L : List Ta, (∀ t ∈ L, c ≤ t.n) → (L.length : Int) * c ≤ (L.map Ta.n).sum
  | [], _ => by simp
  | t :: L, h => by
    have h1 := sum_low c L (fun u hu => h u (List.mem_cons_of_mem _ hu))
    have h2 := h t (List.mem_cons_self ..)
    rw [List.map_cons, List.sum_cons, List.length_cons]
    have : ((L.length + 1 : Nat) : Int) * c = (L.length : Int) * c + c := by rw [Int.natCast_add, Int.add_mul]; simp
    omega
theorem few {m n c : Nat} (hm : 0 < m) (h : (m : Int) * c ≤ (n : Int)) : c ≤ n / m := by
  rw [Nat.le_div_iff_mul_le hm, Nat.mul_comm]
  have : ((m * c : Nat) : Int) ≤ (n : Int) := by rw [Int.natCast_mul]; exact h
  omega
theorem over_few {H : Hv} {K : Nat} {xs : List Int} (hok : HOk H K) (hs : Str H xs) {t : Ta} (ht : t ∈ H.L) : t.o ≤ ((xs.length / H.m : Nat) : Int) := by
  obtain ⟨i, hi, he⟩ := List.mem_iff_getElem.1 ht
  have he2 : H.L.getD i ta0 = t := by rw [← he]; simp [List.getD, hi]
  obtain ⟨h1, h2⟩ := hs.ov i hi
  rw [he2] at h1 h2
  by_cases hl : H.L.length < H.m
  · rw [h2 hl]; exact Int.natCast_nonneg _
  · have h3 := sum_low t.o H.L (fun u hu => by
      obtain ⟨j, hj, he3⟩ := List.mem_iff_getElem.1 hu
      have := h1 j hj
      rwa [show H.L.getD j ta0 = u from by rw [← he3]; simp [List.getD, hj]] at this)
    rw [hs.sm, show H.L.length = H.m by have := hok.len; omega] at h3
    have h4 := (hok.t t ht).1
    have := few (m := H.m) (n := xs.length) (c := t.o.toNat) hok.m0 (by rw [Int.toNat_of_nonneg h4]; exact h3)
    omega
theorem no_few {H : Hv} {K : Nat} {xs : List Int} (hok : HOk H K) (hs : Str H xs) {x : Int} (hx : hasK H.L x = false) : cntX xs x ≤ xs.length / H.m := by
  obtain ⟨h1, h2⟩ := hs.nx x hx
  by_cases hl : H.L.length < H.m
  · rw [h2 hl]; exact Nat.zero_le _
  · have h3 := sum_low (cntX xs x : Int) H.L (fun u hu => by
      obtain ⟨j, hj, he3⟩ := List.mem_iff_getElem.1 hu
      have := h1 j hj
      rwa [show H.L.getD j ta0 = u from by rw [← he3]; simp [List.getD, hj]] at this)
    rw [hs.sm, show H.L.length = H.m by have := hok.len; omega] at h3
    exact few hok.m0 h3
theorem str_made (m : Nat) (h0 : 1 ≤ m) (h1 : m ≤ 64) (xs : List Int) : Str (addTo (newH m) xs xs.length) xs := by
  have := str_add (l := xs) (newH_ok h0 h1) (str_new m) xs.length (Nat.le_refl _)
  rwa [List.nil_append, List.take_of_length_le (Nat.le_refl _)] at this
theorem top_mem {L : List Ta} {i : Nat} (h : i < (topL L).length) : (topL L).getD i ta0 ∈ L := (topL_perm L).mem_iff.1 (getD_memT h)
theorem top_two {a b : Ta} (h : ltOf oftI a b = true) : topL [a, b] = [a, b] := by
  have hp := topL_perm [a, b]
  have hs := (top_sorts [a, b]).2
  have hl := topL_len [a, b]
  have e : (Go.Sort.pdq (ltOf oftI) [a, b].toArray 0 [a, b].toArray.size (Go.Lib.bitLen [a, b].toArray.size) true true) = (topL [a, b]).toArray := by unfold topL; simp
  rw [e] at hs
  generalize topL [a, b] = T at *
  match T, hl with
  | [x, y], _ =>
    have hs1 := hs 0 1 (by omega) (by omega) (by simp)
    have hx : x = a ∨ x = b := by have := hp.mem_iff (a := x) |>.1 (by simp); simpa using this
    rcases hx with rfl | rfl
    · have := hp.cons_inv
      rw [List.perm_singleton] at this
      rw [this]
    · have h2 : [x, y].Perm [x, a] := hp.trans (List.Perm.swap x a [])
      have := h2.cons_inv
      rw [List.perm_singleton] at this
      simp only [List.cons.injEq, and_true] at this
      subst this
      simp at hs1
      rw [hs1] at h; cases h
def wH : Hv := ⟨2, 4, [⟨1, 2, 0⟩, ⟨3, 2, 1⟩]⟩
theorem wH_is : addTo (newH 2) [1, 1, 2, 3] 4 = wH := by rfl
set_option maxRecDepth 100000 in
set_option maxHeartbeats 4000000 in
theorem awake30_walk (w : World) : Calls Try.prog 12 #[] w fun e w' => e = .returned (.bool true) ∧ Below w.heap.size w w' := by
  have K0 : HOk (newH 2) 0 := newH_ok (by decide) (by decide)
  have K4 : HOk wH 4 := by have := addTo_ok (l := [1, 1, 2, 3]) K0 4; rwa [wH_is] at this
  have HN := Lib.hid (newH_walk 2 w (by decide) (by decide))
  unfold NewHQ at HN
  have J := Lib.hid (fun g S w al hl h => add_ha 0 [1, 1, 2, 3] 4 al 4 (newH 2) g S w rfl (by omega) K0 hl h)
  rw [wH_is] at J
  unfold HQ at J
  have C := Lib.hid (fun g S w h => cnt_ha 4 2 wH g S w (by omega) K4 h)
  rw [show loH wH.L 2 = 0 from by rfl, show hiH wH.m wH.L 2 = 2 from by rfl] at C
  have T := Lib.hid (fun g S w h => top_ha 2 4 wH g S w (by omega) (by omega) K4 h)
  have ht : topL wH.L = [⟨1, 2, 0⟩, ⟨3, 2, 1⟩] := top_two (by rw [oft_less]; decide)
  rw [ht] at T
  unfold RowQ at T
  have SN := Lib.hid (fun g S w h => seen_ha wH g S w h)
  rw [show (wH.s : Int) = 4 from rfl] at SN
  have SM := Lib.hid (fun a b c d w ha hb => same_ta [⟨1, 2, 0⟩, ⟨3, 2, 1⟩] 2 a b c d w.heap.size w rfl (by omega) ha hb (Nat.le_refl _))
  rw [show min 2 wH.L.length = 2 from rfl, show ([⟨1, 2, 0⟩, ⟨3, 2, 1⟩] : List Ta).take 2 = [⟨1, 2, 0⟩, ⟨3, 2, 1⟩] from rfl] at T
  generalize newH 2 = G0 at *
  generalize wH = G1 at *
  clear K0 K4 ht
  go_enter Try.func12, Try.ntmps12
  go_wp2_with fail
  refine HN.out.mono ?_
  rintro e w0 ⟨g, Z0, rfl, A0, hZ, b0⟩
  have hal := balloc w0 (.cells #[.int .i64 1, .int .i64 1, .int .i64 2, .int .i64 3] 3)
  have hlv := A0.live
  have q0 : Apt (w0.alloc (.cells #[.int .i64 1, .int .i64 1, .int .i64 2, .int .i64 3] 3)) Z0 (some ⟨w0.heap.size, 0, none⟩) (i64s [1, 1, 2, 3]) := ⟨sl_fresh w0 (i64s [1, 1, 2, 3]) 3, fun x hx => by injection hx with hx; subst hx; exact ⟨fun hS => by have := hlv _ hS; simp at this, by simp⟩⟩
  have JJ := Lib.hid (J.out g Z0 _ _ q0 (A0.keep hal))
  have N0 := Lib.hid (Mvs.below Z0 hal)
  clear HN J q0 hal A0 hlv
  go_wp2_with fail
  refine JJ.out.mono ?_
  rintro e w1 ⟨rfl, Z1, A1, M1⟩
  have m1 := N0.out.trans M1
  have CC := Lib.hid (C.out g Z1 w1 A1)
  clear JJ N0 M1 C
  go_wp2_with fail
  refine CC.out.mono ?_
  rintro e w2 ⟨rfl, b2⟩
  have A2 := A1.keep b2
  have m2 := m1.trans (Mvs.below _ b2)
  have TT := Lib.hid (T.out g Z1 w2 A2)
  clear CC A1 m1 b2 T
  go_wp2_with fail
  refine TT.out.mono ?_
  rintro e w3 ⟨a3, c3, rfl, q3, b3⟩
  have A3 := A2.keep b3
  have hal3 := balloc w3 (.cells #[.int .i64 1, .int .i64 2, .int .i64 0, .int .i64 3, .int .i64 2, .int .i64 1] 45)
  have s3 := Lib.hid (sl_fresh w3 (taCells [⟨1, 2, 0⟩, ⟨3, 2, 1⟩]) 45)
  have Q3 := Lib.hid (q3.keep hal3)
  have A4 := Lib.hid (A3.keep hal3)
  have m4 := Lib.hid ((m2.trans (Mvs.below _ b3)).trans (Mvs.below _ hal3))
  clear TT A2 m2 q3 b3 A3 hal3
  go_wp2_with fail
  refine (SM.out _ _ _ _ _ Q3.out.1 s3.out).mono ?_
  rintro e w5 ⟨rfl, b5⟩
  have A5 := A4.out.keep b5
  have m5 := m4.out.trans (Mvs.below _ b5)
  have SS := Lib.hid (SN.out g Z1 w5 A5)
  clear Q3 s3 A4 m4 b5 SM SN
  go_wp2_with fail
  refine SS.out.mono ?_
  rintro e w6 ⟨rfl, hw6⟩
  subst hw6
  go_wp2_with fail
  go_ret
  exact ⟨rfl, b0.trans (m5.low hZ.out b0.size)⟩
theorem row400 {w : World} {a : Option Addr} {len cap : Nat} {zs : List Int} (hr : IsRow .i64 w a len cap zs) :
    ∃ xs : List Int, xs.length = min len 400 ∧ Sl w w.heap.size a (i64s xs) ∧ (∀ x, a = some x → x.block < w.heap.size ∨ xs = []) ∧ (len : Int) ≤ 9223372036854775807 ∧ len ≤ cap := by
  have hl := row_len hr
  have hs : Sl w w.heap.size a (i64s ((zs.take len).take (min len 400))) := by
    rcases Sl.row hr with h | ⟨b, off, e, hlt, hc⟩
    · have h0 : zs.take len = [] := by have := congrArg List.length h; rw [List.length_map, List.length_nil] at this; exact List.eq_nil_of_length_eq_zero this
      exact .inl (by rw [h0]; simp [i64s])
    · refine .inr ⟨b, off, e, hlt, fun j u hu => hc j u ?_⟩
      unfold i64s at hu
      rw [List.map_take, List.getElem?_take] at hu
      split at hu
      · exact hu
      · cases hu
  refine ⟨(zs.take len).take (min len 400), by rw [List.length_take, hl]; omega, hs, fun x hx => ?_, ?_, ?_⟩
  · rcases hs with h | ⟨b, off, e, hlt, _⟩
    · right
      have := congrArg List.length h
      rw [i64t_len, List.length_nil] at this
      exact List.eq_nil_of_length_eq_zero this
    · left; rw [hx] at e; injection e with e; rw [e]; exact hlt
  · rcases hr with ⟨_, rfl, _, _⟩ | ⟨x, _, h1, h2, _⟩
    · omega
    · unfold maxLen at h2; omega
  · rcases hr with ⟨_, rfl, rfl, _⟩ | ⟨x, _, h1, h2, _⟩
    · omega
    · exact h1
end Go.Proofs.Ythghnpopcnnidaa

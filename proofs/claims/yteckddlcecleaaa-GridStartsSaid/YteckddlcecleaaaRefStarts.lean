/- The walk of headgateref14.Starts. -/
import Derived.Test.YteckddlcecleaaaGridStarts
namespace Go.Proofs.Yteckddlcecleaaa
open Go.RowKit Vm Gm
set_option linter.unusedVariables false

/-- The beginnings of k windows, falling from T. -/
def desc (T h : Int) : Nat → List Int
  | 0 => []
  | k + 1 => desc T h k ++ [T - (k : Int) * h]
theorem desc_length (T h : Int) (k : Nat) : (desc T h k).length = k := by
  induction k with
  | zero => rfl
  | succ k ih => simp [desc, ih]
theorem desc_get (T h : Int) (k : Nat) : ∀ (i : Nat) (hi : i < (desc T h k).length), (desc T h k)[i] = T - (i : Int) * h := by
  induction k with
  | zero => intro i hi; simp [desc] at hi
  | succ k ih =>
    intro i hi
    rw [desc_length] at hi
    simp only [desc]
    by_cases h1 : i < k
    · rw [List.getElem_append_left (by rw [desc_length]; exact h1), ih]
    · have : i = k := by omega
      subst this
      rw [List.getElem_append_right (by rw [desc_length]; omega)]
      simp [desc_length]
theorem starts_get {s h t : Int} (j : Nat) (hj : j < cnt s h t) : (starts s h t)[j]? = some (t / h * h - ((cnt s h t : Int) - 1 - j) * h) := by
  have hl : j < (starts s h t).length := by unfold starts; rw [asc_length]; exact hj
  rw [List.getElem?_eq_getElem hl]
  exact congrArg some (asc_get (t / h * h) h (cnt s h t) j hl)

set_option maxRecDepth 100000 in
set_option maxHeartbeats 4000000 in
theorem ref_starts_yes (s h l t : Int) (w : World) (hm : May s h l) (ht0 : 0 ≤ t) (ht1 : t ≤ 1099511627776) :
    Calls Try.prog 30 #[gv s h l, .int .i64 t] w (StartsPost w (starts s h t)) := by
  have HM := Lib.hid hm
  obtain ⟨h1, h2, h3, h4, h5, h6, h7, h8⟩ := hm
  obtain ⟨i0, hi, hz0, hz1, hz2⟩ := info_parts info_i64
  obtain ⟨n, hn⟩ : ∃ n : Nat, s = (n : Int) * h := ⟨(s / h).toNat, by
    have h10 : 0 ≤ s / h := Int.ediv_nonneg (by omega) (by omega)
    rw [Int.toNat_of_nonneg h10]
    exact (Int.ediv_mul_cancel (Int.dvd_of_emod_eq_zero h7)).symm⟩
  have hn8 : n ≤ 8 := by
    apply Classical.byContradiction
    intro hc
    have : (9 : Int) * h ≤ (n : Int) * h := Int.mul_le_mul_of_nonneg_right (by omega) (by omega)
    omega
  have hsn : s / h = (n : Int) := by rw [hn]; exact Int.mul_ediv_cancel _ (by omega)
  obtain ⟨q, hq⟩ : ∃ q : Nat, t / h = (q : Int) := ⟨(t / h).toNat, by rw [Int.toNat_of_nonneg (Int.ediv_nonneg ht0 (by omega))]⟩
  have hr0 : 0 ≤ t % h := Int.emod_nonneg _ (by omega)
  have hr1 : t % h < h := Int.emod_lt_of_pos _ (by omega)
  have hT : t - t % h = t / h * h := by have := Int.mul_ediv_add_emod t h; rw [Int.mul_comm] at this; omega
  have hc : cnt s h t = min n (q + 1) := by unfold cnt; rw [hsn, hq]; omega
  obtain ⟨T, hTT⟩ : ∃ T : Int, T = t / h * h := ⟨_, rfl⟩
  have hTq : T = (q : Int) * h := by rw [hTT, hq]
  have hTb : 0 ≤ T ∧ T ≤ 1099511627776 := by
    have : 0 ≤ T := by rw [hTq]; exact Int.mul_nonneg (by omega) (by omega)
    omega
  have hTt : T ≤ t ∧ t < T + h := by omega
  have hgo : ∀ k : Nat, k ≤ n → (k < cnt s h t → 0 ≤ T - (k : Int) * h ∧ t < T - (k : Int) * h + s) ∧ (¬ k < cnt s h t → T - (k : Int) * h < 0 ∨ ¬ t < T - (k : Int) * h + s) := by
    intro k hk
    rw [hc, hTq, hn]
    constructor
    · intro hlt
      have e1 : 0 ≤ ((q : Int) - k) * h := Int.mul_nonneg (by omega) (by omega)
      have e2 : 1 * h ≤ ((n : Int) - k) * h := Int.mul_le_mul_of_nonneg_right (by omega) (by omega)
      rw [Int.sub_mul] at e1 e2
      omega
    · intro hlt
      by_cases hkn : k = n
      · right; subst hkn; omega
      · left
        have e1 : ((q : Int) + 1) * h ≤ (k : Int) * h := Int.mul_le_mul_of_nonneg_right (by omega) (by omega)
        rw [Int.add_mul] at e1
        omega
  have hqb : (t / h) * h ≤ 1099511627776 := by rw [← hTT]; omega
  have hqb0 : 0 ≤ (t / h) * h := by rw [← hTT]; omega
  have hdv : 0 ≤ t / h := by omega
  have hdv2 : t / h ≤ 1099511627776 := by
    have := Int.ediv_le_self h ht0
    omega
  have hcl : cnt s h t ≤ 8 := by omega
  have HG := Lib.hid hgo
  have HS := Lib.hid (fun j => starts_get (s := s) (h := h) (t := t) j)
  have hmu : t / h * h = T := hTT.symm
  have HTT := Lib.hid hTT
  have HQ := Lib.hid hq
  have HN := Lib.hid hn
  have HC := Lib.hid hc
  clear hgo hn hsn hq hT hc hTT hTq h7
  go_enter Try.func30, Try.ntmps30
  go_wp2_with fail
  refine (may_yes s h l _ HM.out).mono ?_
  rintro e w1 ⟨rfl, g1⟩
  have c0 : w1.cell? ⟨w.heap.size, 0, none⟩ = some (.int .i64 s) := by rw [g1.cell (by simp)]; rw [World.cell?_alloc_at _ _ _ _ rfl]; rfl
  have c1 : w1.cell? ⟨w.heap.size, 1, none⟩ = some (.int .i64 h) := by rw [g1.cell (by simp)]; rw [World.cell?_alloc_at _ _ _ _ rfl]; rfl
  have hb1 : Below w.heap.size w w1 := ((Below.refl _ _).alloc (Nat.le_refl _) _).trans (g1.mono (by simp))
  have hz1' : w.heap.size < w1.heap.size := by have := g1.size; simp at this; omega
  go_wp2_with fail
  go_quiet (fail)
  have hb2 : Below w.heap.size w (w1.drewN nq) := hb1.trans (below_drewN _ _ _)
  have hz2' : w.heap.size < (w1.drewN nq).heap.size := hz1'
  have d0 : (w1.drewN nq).cell? ⟨w.heap.size, 0, none⟩ = some (.int .i64 s) := c0
  have d1 : (w1.drewN nq).cell? ⟨w.heap.size, 1, none⟩ = some (.int .i64 h) := c1
  generalize w1.drewN nq = w2 at *
  clear c0 c1 hb1 g1 hz1'
  go_wp2
  go_loopw [6, 7] (fun v x wr => ∃ k : Nat, k ≤ cnt s h t ∧ x = .int .i64 (T - (k : Int) * h) ∧ wr.ownsRow w2.heap.size 3 1 v (desc T h k).length (i64s (desc T h k)) ∧ Below w2.heap.size w2 wr) (fun _ x _ => (intOf x + h).toNat)
  case atStart => exact ⟨0, by omega, by simp, by simpa [i64s, desc] using World.ownsRow_nil _ _ _ _, Below.refl _ _⟩
  case round =>
    obtain ⟨k, hk, rfl, hown, hb⟩ := hrel
    have e0 : wr.cell? ⟨w.heap.size, 0, none⟩ = some (.int .i64 s) := (hb.cell (by exact hz2')).trans d0
    have e1 : wr.cell? ⟨w.heap.size, 1, none⟩ = some (.int .i64 h) := (hb.cell (by exact hz2')).trans d1
    have hkn : k ≤ n := by have := HC.out; omega
    obtain ⟨p1, p2⟩ := HG.out k hkn
    obtain ⟨S, hS⟩ : ∃ S : Int, S = T - (k : Int) * h := ⟨_, rfl⟩
    by_cases hlt : k < cnt s h t
    · obtain ⟨q1, q2⟩ := p1 hlt
      have hnx : T - ((k + 1 : Nat) : Int) * h = S - h := by rw [hS]; have : ((k + 1 : Nat) : Int) * h = (k : Int) * h + h := by rw [Int.natCast_add, Int.add_mul]; simp
                                                             omega
      rw [← hS] at q1 q2
      have hSb : S ≤ 1099511627776 := by
        have : 0 ≤ (k : Int) * h := Int.mul_nonneg (by omega) (by omega)
        omega
      have hds : desc T h (k + 1) = desc T h k ++ [S] := by rw [hS]; rfl
      have HDS := Lib.hid hds
      have HNX := Lib.hid hnx
      have hdl : (desc T h k).length ≤ 8 := by rw [desc_length]; omega
      rw [← hS]
      have HSS := Lib.hid hS
      clear p1 p2 hS hnx hds
      go_wp2_with (at_builtin; refine wpList_append_own _ rfl _ _ 55 rfl w2.heap.size 3 i0 (.int .i64 0) 1 8 Try.underlying55 hi hz0 hz1 hz2 rfl (by decide) _ _ _ rfl (hown.alloc _) ⟨wr.heap.size, 0, none⟩ 1 1 [.int .i64 S] rfl rfl ?c1 ?c2 ?c3 ?c4 ?c5 ?_)
      case c1 =>
        intro j u hj
        match j, hj with
        | 0, hj => simp at hj; subst hj; simp [Addr.add]
      case c2 => intro u hu; simp at hu; subst hu; rfl
      case c3 => unfold maxLen; omega
      case c4 => omega
      case c5 => have := hb.size; simp; omega
      intro v' w3 hown' hgrow _
      have hb3 := (hb.alloc hb.size _).grown hgrow (by have := hb.size; simp; omega) (fun k hk => (hown.lt k hk).1)
      have hown3 : w3.ownsRow w2.heap.size 3 1 v' (desc T h (k + 1)).length (i64s (desc T h (k + 1))) := by
        rw [HDS.out, i64s_snoc]; simpa using hown'
      have e1 : w3.cell? ⟨w.heap.size, 1, none⟩ = some (.int .i64 h) := (hb3.cell (by exact hz2')).trans d1
      clear hown' hgrow hown hb e0
      go_wp2
      go_roundw
      case rel => exact ⟨k + 1, by omega, by rw [HNX.out], hown3, hb3⟩
      case measure => simp [intOf]; omega
    · have hkc : k = cnt s h t := by omega
      obtain ⟨C, hC⟩ : ∃ C, C = cnt s h t := ⟨_, rfl⟩
      rw [← hC] at hkc hcl
      subst hkc
      have hx : S < 0 ∨ (0 ≤ S ∧ ¬ t < S + s) := by
        rcases p2 hlt with hh | hh
        · left; omega
        · by_cases h0 : S < 0
          · left; exact h0
          · right; exact ⟨by omega, by rw [hS]; omega⟩
      have hSb : S ≤ 1099511627776 := by
        have : 0 ≤ (k : Int) * h := Int.mul_nonneg (by omega) (by omega)
        omega
      have hwrz : w2.heap.size ≤ wr.heap.size := hb.size
      have hDl : (desc T h k).length = k := desc_length _ _ _
      rw [hDl] at hown
      rw [← hS]
      have HSS := Lib.hid hS
      obtain ⟨a, c, rfl, _⟩ := Sl.own hown
      have sl := own_sl hown
      have hDg := desc_get T h k
      have hSl : (starts s h t).length = k := by unfold starts; rw [asc_length, hC]
      have HSL := Lib.hid hSl
      have HDG := Lib.hid hDg
      have HDL := Lib.hid hDl
      have HCC := Lib.hid hC
      clear p1 p2 hS hDg hDl hlt hSl hC
      have hbw : Below w.heap.size w wr := hb2.trans (hb.mono (Nat.le_of_lt hz2'))
      clear hk hkn hown e1 hb d0 d1 hb2
      obtain ⟨wo, rfl⟩ : ∃ wo : World, wo = wr := ⟨_, rfl⟩
      rcases hx with hx | ⟨hx0, hx⟩
      all_goals
        go_wp2
        go_loopw [8, 9] (fun v x w5 => ∃ j : Nat, j ≤ k ∧ x = .int .i64 ((k : Int) - 1 - (j : Int)) ∧ w5.ownsRow wo.heap.size 3 1 v ((starts s h t).take j).length (i64s ((starts s h t).take j)) ∧ Below wo.heap.size wo w5) (fun _ x _ => (intOf x + 1).toNat)
        case atStart => exact ⟨0, by omega, by simp, by simpa [i64s] using World.ownsRow_nil _ _ _ _, Below.refl _ _⟩
        case round =>
          obtain ⟨j, hj, rfl, hown5, hb5⟩ := hrel
          by_cases hjl : j < k
          · obtain ⟨p, hp⟩ : ∃ p : Nat, p = k - 1 - j := ⟨_, rfl⟩
            have hpp : (k : Int) - 1 - (j : Int) = (p : Int) := by omega
            have hpk : p < k := by omega
            have hpk2 : (p : Int) < (k : Int) := by omega
            obtain ⟨b5, o5, e5, _, c5⟩ := (sl.below hb5 (Nat.le_refl _)).at (j := p) (by rw [i64s_length, HDL.out]; exact hpk)
            subst e5
            rw [i64s_at _ _ (by rw [HDL.out]; exact hpk), HDG.out] at c5
            have hst := HS.out j (by rw [← HCC.out]; exact hjl)
            rw [← HCC.out, ← HTT.out, hpp] at hst
            have hmore := take_more hst
            have hlk : ((starts s h t).take j).length ≤ 8 := by rw [List.length_take]; omega
            have hpn : (k : Int) - 1 - ((j + 1 : Nat) : Int) = (p : Int) - 1 := by omega
            generalize T - (p : Int) * h = X at *
            have HM2 := Lib.hid hmore
            have HPN := Lib.hid hpn
            rw [hpp]
            have HPP := Lib.hid hpp
            have HP := Lib.hid hp
            clear hst hmore hpn hpp hp
            go_wp2_with (at_builtin; refine wpList_append_own _ rfl _ _ 55 rfl wo.heap.size 3 i0 (.int .i64 0) 1 8 Try.underlying55 hi hz0 hz1 hz2 rfl (by decide) _ _ _ rfl (hown5.alloc _) ⟨wr.heap.size, 0, none⟩ 1 1 [.int .i64 X] rfl rfl ?c1 ?c2 ?c3 ?c4 ?c5 ?_)
            case c1 =>
              intro j u hj
              match j, hj with
              | 0, hj => simp at hj; subst hj; simp [Addr.add]
            case c2 => intro u hu; simp at hu; subst hu; rfl
            case c3 => unfold maxLen; omega
            case c4 => omega
            case c5 => exact Nat.le_trans hb5.size (by simp)
            intro v' w6 hown' hgrow _
            have hb6 := (hb5.alloc hb5.size _).grown hgrow (by have := hb5.size; simp; omega) (fun k hk => (hown5.lt k hk).1)
            have hown6 : w6.ownsRow wo.heap.size 3 1 v' ((starts s h t).take (j + 1)).length (i64s ((starts s h t).take (j + 1))) := by
              rw [HM2.out, i64s_snoc]; simpa using hown'
            clear hown' hgrow hown5 hb5 c5
            go_wp2
            go_roundw
            case rel => exact ⟨j + 1, by omega, by rw [HPN.out], hown6, hb6⟩
            case measure => simp [intOf]
          · have hjk : j = k := by omega
            subst hjk
            have hneg : (j : Int) - 1 - (j : Int) = -1 := by omega
            rw [hneg]
            have hall : (starts s h t).take j = starts s h t := List.take_of_length_le (by rw [HSL.out]; omega)
            rw [hall] at hown5
            have HA := Lib.hid hall
            clear hall hneg
            obtain ⟨a6, c6, rfl, _⟩ := Sl.own hown5
            go_wp2
            go_ret2
            exact ⟨hbw.trans (hb5.mono (by have := hbw.size; omega)), a6, c6, rfl, own_base hown5 (by have := hbw.size; omega)⟩

set_option maxRecDepth 100000 in
set_option maxHeartbeats 2000000 in
theorem ref_starts_no (s h l t : Int) (w : World) (hs : I64 s) (hh : I64 h) (hl : I64 l) (hm : ¬ May s h l ∨ t < 0 ∨ 1099511627776 < t) :
    Calls Try.prog 30 #[gv s h l, .int .i64 t] w fun e w' => e = .returned (.tuple #[.slice none 0 0, .int .i64 1]) ∧ Below w.heap.size w w' := by
  by_cases hy : May s h l
  · have ht : t < 0 ∨ (¬ t < 0 ∧ 1099511627776 < t) := by
      rcases hm with hm | hm
      · exact absurd hy hm
      · omega
    have HY := Lib.hid hy
    clear hm hy
    rcases ht with ht | ⟨ht0, ht⟩
    all_goals
      go_enter Try.func30, Try.ntmps30
      go_wp2_with fail
      refine (may_yes s h l _ HY.out).mono ?_
      rintro e w1 ⟨rfl, g1⟩
      go_wp2_with fail
      go_ret2
      exact ⟨rfl, ((Below.refl _ _).alloc (Nat.le_refl _) _).trans (g1.mono (by simp))⟩
  · clear hm
    have HY := Lib.hid hy
    clear hy
    go_enter Try.func30, Try.ntmps30
    go_wp2_with fail
    refine (may_no s h l _ hs hh hl HY.out).mono ?_
    rintro e w1 ⟨rfl, g1⟩
    go_wp2_with fail
    go_ret2
    exact ⟨rfl, ((Below.refl _ _).alloc (Nat.le_refl _) _).trans (g1.mono (by simp))⟩
end Go.Proofs.Yteckddlcecleaaa

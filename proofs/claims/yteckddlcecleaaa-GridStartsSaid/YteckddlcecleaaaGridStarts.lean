/- The walk of grid.Starts. -/
import Derived.Test.YteckddlcecleaaaInfo
import Derived.Test.YteckddlcecleaaaGrid
namespace Go.Proofs.Yteckddlcecleaaa
open Go.RowKit Vm Gm
set_option linter.unusedVariables false


/-- What Starts answers: the windows, in a slice of the call's own. -/
def StartsPost (w : World) (l : List Int) (e : Ending) (w' : World) : Prop :=
  Below w.heap.size w w' ∧ ∃ a c, e = .returned (.tuple #[.slice a l.length c, .int .i64 0]) ∧ w'.ownsRow w.heap.size 3 1 (.slice a l.length c) l.length (i64s l)

set_option maxRecDepth 100000 in
set_option maxHeartbeats 2000000 in
theorem starts_no (s h l t : Int) (w : World) (hs : I64 s) (hh : I64 h) (hl : I64 l) (hm : ¬ May s h l ∨ t < 0 ∨ 1099511627776 < t) :
    Calls Try.prog 29 #[gv s h l, .int .i64 t] w fun e w' => e = .returned (.tuple #[.slice none 0 0, .int .i64 1]) ∧ Below w.heap.size w w' := by
  by_cases hy : May s h l
  · have ht : t < 0 ∨ 1099511627776 < t := by
      rcases hm with hm | hm
      · exact absurd hy hm
      · exact hm
    have HY := Lib.hid hy
    clear hm hy
    rcases ht with ht | ht
    all_goals
      go_enter Try.func29, Try.ntmps29
      go_wp2_with fail
      refine (check_yes s h l _ HY.out).mono ?_
      rintro e w1 ⟨rfl, g1⟩
      go_wp2_with fail
      go_ret2
      exact ⟨rfl, ((Below.refl _ _).alloc (Nat.le_refl _) _).trans (g1.mono (by simp))⟩
  · clear hm
    have HY := Lib.hid hy
    clear hy
    go_enter Try.func29, Try.ntmps29
    go_wp2_with fail
    refine (check_no s h l _ hs hh hl HY.out).mono ?_
    rintro e w1 ⟨rfl, g1⟩
    go_wp2_with fail
    go_ret2
    exact ⟨rfl, ((Below.refl _ _).alloc (Nat.le_refl _) _).trans (g1.mono (by simp))⟩

set_option maxRecDepth 100000 in
set_option maxHeartbeats 2000000 in
theorem starts_yes (s h l t : Int) (w : World) (hm : May s h l) (ht0 : 0 ≤ t) (ht1 : t ≤ 1099511627776) :
    Calls Try.prog 29 #[gv s h l, .int .i64 t] w (StartsPost w (starts s h t)) := by
  have HM := Lib.hid hm
  obtain ⟨h1, h2, h3, h4, h5, h6, h7, h8⟩ := hm
  obtain ⟨i0, hi, hz0, hz1, hz2⟩ := info_parts info_i64
  obtain ⟨n, hn⟩ : ∃ n : Nat, s = (n : Int) * h := ⟨(s / h).toNat, by
    have h10 : 0 ≤ s / h := Int.ediv_nonneg (by omega) (by omega)
    rw [Int.toNat_of_nonneg h10]
    exact (Int.ediv_mul_cancel (Int.dvd_of_emod_eq_zero h7)).symm⟩
  have hn1 : 1 ≤ n := by
    rcases n with _ | n
    · simp at hn; omega
    · omega
  have hn8 : n ≤ 8 := by
    apply Classical.byContradiction
    intro hc
    have : (9 : Int) * h ≤ (n : Int) * h := Int.mul_le_mul_of_nonneg_right (by omega) (by omega)
    omega
  have hsn : s / h = (n : Int) := by rw [hn]; exact Int.mul_ediv_cancel _ (by omega)
  obtain ⟨q, hq⟩ : ∃ q : Nat, t / h = (q : Int) := ⟨(t / h).toNat, by rw [Int.toNat_of_nonneg (Int.ediv_nonneg ht0 (by omega))]⟩
  have hr0 : 0 ≤ t % h := Int.emod_nonneg _ (by omega)
  have hr1 : t % h < h := Int.emod_lt_of_pos _ (by omega)
  have hT : t - t % h = t / h * h := by have := Int.mul_ediv_add_emod t h; rw [Int.mul_comm] at this; omega
  obtain ⟨F, hF⟩ : ∃ F : Int, F = t - t % h - s + h := ⟨_, rfl⟩
  have HP := Lib.hid (fun k hk => piece (s := s) (h := h) (t := t) (F := F) (n := n) (q := q) h3 hn hq hn1 (by rw [hF, hT]) k hk)
  have hcl := cnt_le (t := t) h3 hn
  have hFb : -1048576 ≤ F ∧ F ≤ 1099511627776 + 1048576 := by omega
  have hF2 : t - t % h - s + h = F := hF.symm
  have HN := Lib.hid hn
  have HQ := Lib.hid hq
  have HF := Lib.hid hF
  have HS := Lib.hid hsn
  clear hn hq hF hT h7 hsn
  go_enter Try.func29, Try.ntmps29
  go_wp2_with fail
  refine (check_yes s h l _ HM.out).mono ?_
  rintro e w1 ⟨rfl, g1⟩
  have c0 : w1.cell? ⟨w.heap.size, 0, none⟩ = some (.int .i64 s) := by rw [g1.cell (by simp)]; rw [World.cell?_alloc_at _ _ _ _ rfl]; rfl
  have c1 : w1.cell? ⟨w.heap.size, 1, none⟩ = some (.int .i64 h) := by rw [g1.cell (by simp)]; rw [World.cell?_alloc_at _ _ _ _ rfl]; rfl
  have hb1 : Below w.heap.size w w1 := ((Below.refl _ _).alloc (Nat.le_refl _) _).trans (g1.mono (by simp))
  have hz1' : w.heap.size < w1.heap.size := by have := g1.size; simp at this; omega
  go_wp2_with fail
  go_quiet (fail)
  have hb2 : Below w.heap.size w (w1.drewN nq) := hb1.trans (below_drewN _ _ _)
  have hz2' : w.heap.size < (w1.drewN nq).heap.size := hz1'
  have d0 : (w1.drewN nq).cell? ⟨w.heap.size, 0, none⟩ = some (.int .i64 s) := c0
  have d1 : (w1.drewN nq).cell? ⟨w.heap.size, 1, none⟩ = some (.int .i64 h) := c1
  generalize w1.drewN nq = w2 at *
  clear c0 c1 hb1 g1 hz1'
  go_wp2
  go_loopw [6, 38] (fun v i wr => ∃ k : Nat, k ≤ n ∧ i = .int .i64 k ∧ wr.ownsRow w2.heap.size 3 1 v ((starts s h t).take (k - (n - cnt s h t))).length (i64s ((starts s h t).take (k - (n - cnt s h t)))) ∧ Below w2.heap.size w2 wr) (fun _ i _ => n - (intOf i).toNat)
  case atStart => exact ⟨0, by omega, rfl, by simpa [i64s] using World.ownsRow_nil _ _ _ _, Below.refl _ _⟩
  case round =>
    obtain ⟨k, hk, rfl, hown, hb⟩ := hrel
    have e0 : wr.cell? ⟨w.heap.size, 0, none⟩ = some (.int .i64 s) := (hb.cell (by exact hz2')).trans d0
    have e1 : wr.cell? ⟨w.heap.size, 1, none⟩ = some (.int .i64 h) := (hb.cell (by exact hz2')).trans d1
    by_cases hlt : k < n
    · have hlt2 : (k : Int) < s / h := by rw [HS.out]; omega
      have hle : (k : Int) * h ≤ 8 * h := Int.mul_le_mul_of_nonneg_right (by omega) (by omega)
      have hge : 0 ≤ (k : Int) * h := Int.mul_nonneg (by omega) (by omega)
      obtain ⟨p1, p2⟩ := HP.out k hlt
      by_cases hd : k < n - cnt s h t
      · have hneg := p1 hd
        have htk : k + 1 - (n - cnt s h t) = k - (n - cnt s h t) := by omega
        have HT := Lib.hid htk
        clear p1 p2 htk
        go_wp2
        go_roundw
        case rel => exact ⟨k + 1, by omega, by go_num, by rw [HT.out]; exact hown, hb⟩
        case measure => simp [intOf]; omega
      · obtain ⟨hpos, hget⟩ := p2 (by omega)
        have hmore := take_more hget
        have hlk : ((starts s h t).take (k - (n - cnt s h t))).length ≤ 8 := by rw [List.length_take]; omega
        have hnx : k + 1 - (n - cnt s h t) = k - (n - cnt s h t) + 1 := by omega
        rw [← hnx] at hmore
        have HM2 := Lib.hid hmore
        clear p1 p2 hget hmore hnx
        go_wp2_with (at_builtin; refine wpList_append_own _ rfl _ _ 55 rfl w2.heap.size 3 i0 (.int .i64 0) 1 8 Try.underlying55 hi hz0 hz1 hz2 rfl (by decide) _ _ _ rfl (hown.alloc _) ⟨wr.heap.size, 0, none⟩ 1 1 [.int .i64 (F + (k : Int) * h)] rfl rfl ?c1 ?c2 ?c3 ?c4 ?c5 ?_)
        case c1 =>
          intro j u hj
          match j, hj with
          | 0, hj => simp at hj; subst hj; simp [Addr.add]
        case c2 => intro u hu; simp at hu; subst hu; rfl
        case c3 => unfold maxLen; omega
        case c4 => omega
        case c5 => have := hb.size; simp; omega
        intro v' w3 hown' hgrow _
        have hb3 := (hb.alloc hb.size _).grown hgrow (by have := hb.size; simp; omega) (fun k hk => (hown.lt k hk).1)
        have hown3 : w3.ownsRow w2.heap.size 3 1 v' ((starts s h t).take (k + 1 - (n - cnt s h t))).length (i64s ((starts s h t).take (k + 1 - (n - cnt s h t)))) := by
          rw [HM2.out, i64s_snoc]; simpa using hown'
        clear hown' hgrow hown hb e0 e1
        go_wp2
        go_roundw
        case rel => exact ⟨k + 1, by omega, by go_num, hown3, hb3⟩
        case measure => simp [intOf]; omega
    · have hge2 : ¬ (k : Int) < s / h := by rw [HS.out]; omega
      have hall : (starts s h t).take (k - (n - cnt s h t)) = starts s h t := List.take_of_length_le (by rw [starts_length]; omega)
      rw [hall] at hown
      have HA := Lib.hid hall
      clear hall
      obtain ⟨a, c, rfl, _⟩ := Sl.own hown
      go_wp2
      go_ret2
      exact ⟨hb2.trans (hb.mono (by omega)), a, c, rfl, own_base hown (by omega)⟩
end Go.Proofs.Yteckddlcecleaaa

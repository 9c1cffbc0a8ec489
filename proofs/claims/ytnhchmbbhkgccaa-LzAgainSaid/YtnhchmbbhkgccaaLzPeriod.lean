/- The walk of lz.period. -/
import Derived.Test.YtnhchmbbhkgccaaLzAlike
import Derived.Deep.Cut
namespace Go.Proofs.Ytnhchmbbhkgccaa
open Go.RowKit Vm Lz
set_option linter.unusedVariables false
set_option linter.unusedSimpArgs false

def natVals (R : List Nat) : List Value := R.map fun (n : Nat) => Value.int .i64 (n : Int)
theorem natVals_length (R : List Nat) : (natVals R).length = R.length := by simp [natVals]
theorem natVals_get (R : List Nat) (k : Nat) (h : k < R.length) : (natVals R)[k]? = some (.int .i64 ((R.getD k 0 : Nat) : Int)) := by
  unfold natVals; simp [List.getD, h]
theorem natVals_set (R : List Nat) (i k : Nat) : natVals (R.set i k) = (natVals R).set i (.int .i64 (k : Int)) := by
  unfold natVals; rw [List.map_set]
theorem natVals_made (n : Nat) : (madeCells (Value.int .i64 0).cells (n * 1)).toList = natVals (List.replicate n 0) := by
  unfold madeCells natVals
  rw [Nat.mul_one]
  apply List.ext_getElem
  · simp
  · intro i h1 h2; simp [Value.cells, Nat.mod_one]
/-- The row of what was found so far. -/
def RowIs (L : List UInt8) (i : Nat) (R : List Nat) : Prop := ∀ j, j < i → Mx L (j + 1) (R.getD j 0)
theorem rowIs_one (L : List UInt8) (n : Nat) : RowIs L 1 (List.replicate n 0) := fun j hj => by
  obtain rfl : j = 0 := by omega
  have : (List.replicate n 0).getD 0 0 = 0 := by cases n <;> simp [List.getD, List.replicate]
  rw [this]; exact mx_one L
theorem rowIs_set {L : List UInt8} {i k N : Nat} {R : List Nat} (h : RowIs L i R) (hl : R.length = N) (hm : Mx L (i + 1) k ∧ i < N) : RowIs L (i + 1) (R.set i k) := fun j hj => by
  by_cases h1 : j = i
  · subst h1
    have : (R.set j k).getD j 0 = k := by simp [List.getD, hl, hm.2]
    rw [this]; exact hm.1
  · have : (R.set i k).getD j 0 = R.getD j 0 := by simp [List.getD, List.getElem?_set_ne (Ne.symm h1)]
    rw [this]; exact h j (by omega)
set_option maxRecDepth 100000 in
set_option maxHeartbeats 16000000 in
theorem period_walk (L : List UInt8) (N : Nat) (a : Option Addr) (c B : Nat) (w : World) (hN : L.length = N) (hNm : N ≤ 1048576) (h : Sl w B a (byteVals L)) (hB : B ≤ w.heap.size) :
    Calls Try.prog 18 #[.slice a N c] w fun e w' => ∃ p : Nat, PerIs L p ∧ e = .returned (.int .i64 p) ∧ Below w.heap.size w w' := by
  obtain ⟨i0, hi, hz0, hz1, hz2⟩ := info_parts info_i64
  by_cases h0 : N = 0
  · have : L = [] := List.eq_nil_of_length_eq_zero (by omega)
    subst this
    subst h0
    go_enter Try.func18, Try.ntmps18
    go_wp2_with fail
    go_ret
    exact ⟨0, .inl ⟨rfl, rfl⟩, rfl, Below.refl _ _⟩
  · have hN0 : 0 < N := by omega
    have hNe : ((N : Int) == 0) = false := by simp; omega
    have HN := Lib.hid hN
    obtain ⟨gb, off, rfl, hgB, hcb⟩ := h.bytes (by omega)
    have hgw : gb < w.heap.size := by omega
    have HC := Lib.hid (fun j (hj : j < N) => hcb j (by rw [hN]; exact hj))
    clear hN h hcb h0
    go_enter Try.func18, Try.ntmps18
    go_wp2_with (at_make; refine wpList_make_full _ rfl _ _ 46 rfl w.heap.size 3 i0 (.int .i64 0) 1 Try.underlying46 hi hz0 hz1 .i64 .i64 _ _ N rfl rfl rfl rfl (by rw [hz2]; omega) (by unfold maxLen; omega) (Nat.le_refl _) ?_; intro w0 own0 grow0)
    rw [natVals_made] at own0
    have hb0 : Below w.heap.size w w0 := (Below.refl _ _).grown grow0 (Nat.le_refl _) (fun k hk => by cases hk)
    obtain ⟨g, hg⟩ : ∃ g, w.heap.size = g := ⟨_, rfl⟩
    have own1 : w0.ownsRow w.heap.size 3 1 (.slice (some ⟨g, 0, none⟩) N N) N (natVals (List.replicate N 0)) := by rw [← hg]; exact own0
    clear own0 grow0
    rw [hg]
    have hgg : w.heap.size ≤ g := by omega
    clear hg
    have HO := Lib.hid own1
    clear own1
    go_wp2_with fail
    go_loopw [4] (fun J wr => ∃ (i : Nat) (R : List Nat), 1 ≤ i ∧ i ≤ N ∧ J = .int .i64 i ∧ Hid (R.length = N) ∧ Hid (RowIs L i R) ∧ wr.ownsRow w.heap.size 3 1 (.slice (some ⟨g, 0, none⟩) N N) N (natVals R) ∧ Below w.heap.size w wr) (fun J _ => N - (intOf J).toNat)
    case atStart => exact ⟨1, List.replicate N 0, by omega, by omega, rfl, Lib.hid (by simp), Lib.hid (rowIs_one L N), HO.out, hb0⟩
    case round =>
      obtain ⟨i, R, hi1, hiN, rfl, HRl, HR, own, hb⟩ := hrel
      have hbs := hb.size
      by_cases hlt : i < N
      · have hlt1 : (i : Int) < (N : Int) := by omega
        have hi0 : 0 ≤ (i : Int) := by omega
        obtain ⟨ip, hip⟩ : ∃ ip, i - 1 = ip := ⟨_, rfl⟩
        have hwip : IntKind.i64.wrap ((i : Int) - 1) = (ip : Int) := by rw [IntWalk.i64_in _ (by omega)]; omega
        have hip0 : 0 ≤ (ip : Int) := by omega
        have hip1 : (ip : Int) < (N : Int) := by omega
        have Hwi := Lib.hid (show IntKind.i64.wrap ((i : Int) + 1) = ((i + 1 : Nat) : Int) by rw [IntWalk.i64_in _ (by omega)]; omega)
        obtain ⟨g', e', _, hgl, _, hct⟩ := ownN_at own hN0
        injection e' with e'
        injection e' with e1 _ _
        subst e1
        have cp := hct ip _ (natVals_get R ip (by rw [HRl.out]; omega))
        obtain ⟨k0, hk0⟩ : ∃ k, R.getD ip 0 = k := ⟨_, rfl⟩
        have hm0 := HR.out ip (by omega)
        rw [hk0] at cp hm0
        rw [show ip + 1 = i by omega] at hm0
        have hk0i := hm0.1.1
        have HIn := Lib.hid (in_start hm0)
        have HOw := Lib.hid own
        clear hct hip hk0 hm0 own
        go_upto_region 8 with fail
        clear hwip cp
        obtain ⟨wo, rfl⟩ : ∃ wo : World, wo = wr := ⟨_, rfl⟩
        go_loopw [5] (fun J wz => ∃ k : Nat, k < i ∧ J = .int .i64 k ∧ Hid (In L i k) ∧ Below wo.heap.size wo wz) (fun J _ => (intOf J).toNat)
        case atStart => exact ⟨k0, hk0i, rfl, HIn, Below.refl _ _⟩
        case round =>
          obtain ⟨k, hki, rfl, HK, hz⟩ := hrel
          have ownz := own_keep HOw.out hz
          have hbz := hb.trans (hz.mono hbs)
          have hk0' : 0 ≤ (k : Int) := by omega
          have hkN : (k : Int) < (N : Int) := by omega
          have xc := HC.out k (by omega)
          have yc := HC.out i hlt
          obtain ⟨x, hx⟩ : ∃ x, L.getD k 0 = x := ⟨_, rfl⟩
          obtain ⟨y, hy⟩ : ∃ y, L.getD i 0 = y := ⟨_, rfl⟩
          rw [hx] at xc
          rw [hy] at yc
          have HX := Lib.hid hx
          have HY := Lib.hid hy
          clear hx hy
          have xz := (hbz.cell (p := ⟨gb, off + k, none⟩) (by show gb < _; omega)).trans xc
          have yz := (hbz.cell (p := ⟨gb, off + i, none⟩) (by show gb < _; omega)).trans yc
          by_cases he : x = y
          · have HM := (⟨in_yes HK.out (by rw [HX.out, HY.out, he]), hlt⟩ : Mx L (i + 1) (k + 1) ∧ i < N)
            have HM' := HM
            have he2 : ((x.toNat : Int) == (y.toNat : Int)) = true := by rw [he]; simp
            have he3 : ((x.toNat : Int) != (y.toNat : Int)) = false := by rw [he]; simp
            have Hwk := Lib.hid (show IntKind.i64.wrap ((k : Int) + 1) = ((k + 1 : Nat) : Int) by rw [IntWalk.i64_in _ (by omega)]; omega)
            clear he
            rcases Nat.eq_zero_or_pos k with hk00 | hk00
            · subst hk00
              go_upto_region 8 with fail
              go_quiet (fail)
              clear xz yz
              obtain ⟨wq, hwq⟩ : ∃ wq, wq = wr.drewN nq := ⟨_, rfl⟩
              have hzq : Below w.heap.size w wq := by rw [hwq]; exact hbz.trans (below_drewN _ _ _)
              have ownq : wq.ownsRow w.heap.size 3 1 (.slice (some ⟨g, 0, none⟩) N N) N (natVals R) := own_keep ownz (by rw [hwq]; exact below_drewN _ _ _)
              rw [← hwq]
              clear hwq nq ownz
              have x1 : wq.cell? ⟨gb, off, none⟩ = some (.int .u8 (x.toNat : Int)) := by have := (hzq.cell (p := ⟨gb, off + 0, none⟩) (by show gb < _; omega)).trans xc; simpa using this
              have hN0i : (0 : Int) < (N : Int) := by omega
              have y1 := (hzq.cell (p := ⟨gb, off + i, none⟩) (by show gb < _; omega)).trans yc
              clear xc yc
              go_upto_region 10 with fail
              go_quiet (fail)
              have own3 : (wq.drewN nq).ownsRow w.heap.size 3 1 (.slice (some ⟨g, 0, none⟩) N N) N (natVals R) := own_keep ownq (below_drewN _ _ _)
              have hz3 := hzq.trans (below_drewN w.heap.size wq nq)
              obtain ⟨w3, hw3⟩ : ∃ w3, w3 = wq.drewN nq := ⟨_, rfl⟩
              rw [← hw3] at own3 hz3 ⊢
              clear hw3 x1 y1 ownq hzq
              have HO3 := Lib.hid own3
              obtain ⟨g', e', hg3, hg4, hfr, hct3⟩ := ownN_at own3 hN0
              injection e' with e'
              injection e' with e1 _ _
              subst e1
              have f3 := hfr i
              have c3 := hct3 i _ (natVals_get R i (by rw [HRl.out]; exact hlt))
              obtain ⟨z3, hz3e⟩ : ∃ z, R.getD i 0 = z := ⟨_, rfl⟩
              rw [hz3e] at c3
              have HST := Lib.hid (rowIs_set HR.out HRl.out HM)
              clear hct3 hz3e own3 hfr HM'
              have hwk := Hwk.out
              go_upto_region 6 with fail
              clear hwk
              have hwi := Hwi.out
              go_wp2_with fail
              go_roundw
              case rel => exact ⟨i + 1, R.set i (0 + 1), by omega, by omega, by go_num, Lib.hid (by rw [List.length_set]; exact HRl.out), HST, by rw [natVals_set]; exact ownN_store HO3.out (by rw [natVals_length, HRl.out]; exact hlt), hz3.setCell (p := ⟨g, i, none⟩) hg3 _⟩
              case measure => simp [intOf]; omega
            · have hkd : decide (0 < k) = true := by simp; omega
              go_upto_region 8 with fail
              go_quiet (fail)
              clear xz yz
              obtain ⟨wq, hwq⟩ : ∃ wq, wq = wr.drewN nq := ⟨_, rfl⟩
              have hzq : Below w.heap.size w wq := by rw [hwq]; exact hbz.trans (below_drewN _ _ _)
              have ownq : wq.ownsRow w.heap.size 3 1 (.slice (some ⟨g, 0, none⟩) N N) N (natVals R) := own_keep ownz (by rw [hwq]; exact below_drewN _ _ _)
              rw [← hwq]
              clear hwq nq ownz
              have x1 := (hzq.cell (p := ⟨gb, off + k, none⟩) (by show gb < _; omega)).trans xc
              have y1 := (hzq.cell (p := ⟨gb, off + i, none⟩) (by show gb < _; omega)).trans yc
              clear xc yc
              go_upto_region 10 with fail
              go_quiet (fail)
              have own3 : (wq.drewN nq).ownsRow w.heap.size 3 1 (.slice (some ⟨g, 0, none⟩) N N) N (natVals R) := own_keep ownq (below_drewN _ _ _)
              have hz3 := hzq.trans (below_drewN w.heap.size wq nq)
              obtain ⟨w3, hw3⟩ : ∃ w3, w3 = wq.drewN nq := ⟨_, rfl⟩
              rw [← hw3] at own3 hz3 ⊢
              clear hw3 x1 y1 ownq hzq
              have HO3 := Lib.hid own3
              obtain ⟨g', e', hg3, hg4, hfr, hct3⟩ := ownN_at own3 hN0
              injection e' with e'
              injection e' with e1 _ _
              subst e1
              have f3 := hfr i
              have c3 := hct3 i _ (natVals_get R i (by rw [HRl.out]; exact hlt))
              obtain ⟨z3, hz3e⟩ : ∃ z, R.getD i 0 = z := ⟨_, rfl⟩
              rw [hz3e] at c3
              have HST := Lib.hid (rowIs_set HR.out HRl.out HM)
              clear hct3 hz3e own3 hfr HM'
              have hwk := Hwk.out
              go_upto_region 6 with fail
              clear hwk
              have hwi := Hwi.out
              go_wp2_with fail
              go_roundw
              case rel => exact ⟨i + 1, R.set i (k + 1), by omega, by omega, by go_num, Lib.hid (by rw [List.length_set]; exact HRl.out), HST, by rw [natVals_set]; exact ownN_store HO3.out (by rw [natVals_length, HRl.out]; exact hlt), hz3.setCell (p := ⟨g, i, none⟩) hg3 _⟩
              case measure => simp [intOf]; omega
          · have he2 : ((x.toNat : Int) == (y.toNat : Int)) = false := by
              have : x.toNat ≠ y.toNat := fun h => he (UInt8.toNat_inj.1 h)
              simp; omega
            have he3 : ((x.toNat : Int) != (y.toNat : Int)) = true := by simp [he2]; simpa using he2
            rcases Nat.eq_zero_or_pos k with hk00 | hk00
            · subst hk00
              have HM := (⟨in_no HK.out (by rw [HX.out, HY.out]; exact he), hlt⟩ : Mx L (i + 1) 0 ∧ i < N)
              have HM' := HM
              clear he
              go_upto_region 8 with fail
              go_quiet (fail)
              clear xz yz
              obtain ⟨wq, hwq⟩ : ∃ wq, wq = wr.drewN nq := ⟨_, rfl⟩
              have hzq : Below w.heap.size w wq := by rw [hwq]; exact hbz.trans (below_drewN _ _ _)
              have ownq : wq.ownsRow w.heap.size 3 1 (.slice (some ⟨g, 0, none⟩) N N) N (natVals R) := own_keep ownz (by rw [hwq]; exact below_drewN _ _ _)
              rw [← hwq]
              clear hwq nq ownz
              have x1 : wq.cell? ⟨gb, off, none⟩ = some (.int .u8 (x.toNat : Int)) := by have := (hzq.cell (p := ⟨gb, off + 0, none⟩) (by show gb < _; omega)).trans xc; simpa using this
              have hN0i : (0 : Int) < (N : Int) := by omega
              have y1 := (hzq.cell (p := ⟨gb, off + i, none⟩) (by show gb < _; omega)).trans yc
              clear xc yc
              go_upto_region 10 with fail
              go_quiet (fail)
              have own3 : (wq.drewN nq).ownsRow w.heap.size 3 1 (.slice (some ⟨g, 0, none⟩) N N) N (natVals R) := own_keep ownq (below_drewN _ _ _)
              have hz3 := hzq.trans (below_drewN w.heap.size wq nq)
              obtain ⟨w3, hw3⟩ : ∃ w3, w3 = wq.drewN nq := ⟨_, rfl⟩
              rw [← hw3] at own3 hz3 ⊢
              clear hw3 x1 y1 ownq hzq
              have HO3 := Lib.hid own3
              obtain ⟨g', e', hg3, hg4, hfr, hct3⟩ := ownN_at own3 hN0
              injection e' with e'
              injection e' with e1 _ _
              subst e1
              have f3 := hfr i
              have c3 := hct3 i _ (natVals_get R i (by rw [HRl.out]; exact hlt))
              obtain ⟨z3, hz3e⟩ : ∃ z, R.getD i 0 = z := ⟨_, rfl⟩
              rw [hz3e] at c3
              have HST := Lib.hid (rowIs_set HR.out HRl.out HM)
              clear hct3 hz3e own3 hfr HM'
              go_upto_region 6 with fail
              have hwi := Hwi.out
              go_wp2_with fail
              go_roundw
              case rel => exact ⟨i + 1, R.set i (0), by omega, by omega, by go_num, Lib.hid (by rw [List.length_set]; exact HRl.out), HST, by rw [natVals_set]; exact ownN_store HO3.out (by rw [natVals_length, HRl.out]; exact hlt), hz3.setCell (p := ⟨g, i, none⟩) hg3 _⟩
              case measure => simp [intOf]; omega
            · have hkd : decide (0 < k) = true := by simp; omega
              obtain ⟨kp, hkp⟩ : ∃ kp, k - 1 = kp := ⟨_, rfl⟩
              have Hwkp := Lib.hid (show IntKind.i64.wrap ((k : Int) - 1) = (kp : Int) by rw [IntWalk.i64_in _ (by omega)]; omega)
              have hkp0 : 0 ≤ (kp : Int) := by omega
              have hkp1 : (kp : Int) < (N : Int) := by omega
              obtain ⟨g', e', _, hgl2, _, hct⟩ := ownN_at ownz hN0
              injection e' with e'
              injection e' with e1 _ _
              subst e1
              have cp := hct kp _ (natVals_get R kp (by rw [HRl.out]; omega))
              obtain ⟨k2, hk2⟩ : ∃ k, R.getD kp 0 = k := ⟨_, rfl⟩
              have hm2 := HR.out kp (by omega)
              rw [hk2] at cp hm2
              rw [show kp + 1 = k by omega] at hm2
              have hk2k := hm2.1.1
              have HIn2 := Lib.hid (in_step HK.out (by rw [HX.out, HY.out]; exact he) hm2)
              clear hct hkp hk2 hm2 ownz he xc yc
              go_upto_region 8 with fail
              go_quiet (fail)
              have hwkp := Hwkp.out
              go_wp2_with fail
              go_roundw
              case rel => exact ⟨k2, by omega, by go_num, HIn2, hz.trans (below_drewN _ _ _)⟩
              case measure => simp [intOf]; omega
      · have hlt1 : ¬ (i : Int) < (N : Int) := by omega
        obtain ⟨q, hq⟩ : ∃ q, N - 1 = q := ⟨_, rfl⟩
        have hwq : IntKind.i64.wrap ((N : Int) - 1) = (q : Int) := by rw [IntWalk.i64_in _ (by omega)]; omega
        have hq0 : 0 ≤ (q : Int) := by omega
        have hq1 : (q : Int) < (N : Int) := by omega
        obtain ⟨g', e', _, hgl, _, hct⟩ := ownN_at own hN0
        injection e' with e'
        injection e' with e1 _ _
        subst e1
        have cp := hct q _ (natVals_get R q (by rw [HRl.out]; omega))
        obtain ⟨k0, hk0⟩ : ∃ k, R.getD q 0 = k := ⟨_, rfl⟩
        have hm0 := HR.out q (by omega)
        rw [hk0] at cp hm0
        rw [show q + 1 = L.length by rw [HN.out]; omega] at hm0
        have hk0i : k0 < N := by rw [← HN.out]; exact hm0.1.1
        have HP := Lib.hid (show PerIs L (N - k0) from .inr ⟨k0, hm0, by rw [HN.out]⟩)
        clear hct hq hk0 hm0 own
        obtain ⟨p, hp⟩ : ∃ p, N - k0 = p := ⟨_, rfl⟩
        rw [hp] at HP
        have hwp : wrap64 ((N : Int) - (k0 : Int)) = (p : Int) := by rw [IntWalk.wrap64_in _ (by omega)]; omega
        have hpe : (N : Int) - (k0 : Int) = (p : Int) := by omega
        clear hp
        go_wp2_with fail
        go_ret
        exact ⟨p, HP.out, rfl, hb⟩
end Go.Proofs.Ytnhchmbbhkgccaa

/- The walk of the statement AssignKeeps of layer 9. -/
import Derived.Test.YtgeeeaacaofbeaaAsFairW
namespace Go.Proofs.Ytgeeeaacaofbeaa
open Go.RowKit Vm As
set_option linter.unusedVariables false
set_option linter.unusedSimpArgs false

def hadR (old : List Int) (x : Int) : Nat → Nat
  | 0 => 0
  | i + 1 => hadR old x i + if old.getD i 0 = x then 1 else 0
def keptR (old l : List Int) (x : Int) : Nat → Nat
  | 0 => 0
  | i + 1 => keptR old l x i + if old.getD i 0 = x ∧ l.getD i 0 = x then 1 else 0
theorem getD_set_ne {l : List Int} {i p : Nat} {x : Int} (h : i ≠ p) : (l.set i x).getD p 0 = l.getD p 0 := by simp [List.getD, List.getElem?_set, h]
theorem keepTo_stay (M : Nat) (m old : List Int) (p i : Nat) : ∀ d, (keepTo M m old i).getD p 0 ≠ 0 → (keepTo M m old (i + d)).getD p 0 = (keepTo M m old i).getD p 0 := by
  intro d
  induction d with
  | zero => intro _; rfl
  | succ d ih =>
    intro h
    have e := ih h
    rw [← Nat.add_assoc, keepTo]
    unfold step1
    split
    · rw [getD_set_ne (by intro hp; subst hp; rw [keepTo_zero M m old _ _ (Nat.le_refl _)] at e; exact h e.symm)]; exact e
    · exact e
theorem fillTo_stay (m L : List Int) (p : Nat) (h : L.getD p 0 ≠ 0) : ∀ i, (fillTo m L i).getD p 0 = L.getD p 0 := by
  intro i
  induction i with
  | zero => rfl
  | succ i ih =>
    rw [fillTo]
    unfold step2
    split
    · next h0 => rw [getD_set_ne (by intro hp; subst hp; rw [ih] at h0; exact h h0)]; exact ih
    · exact ih
theorem keep_low (M : Nat) (m old l : List Int) (lim : Nat) (hlM : lim ≤ M) (hp : ∀ x ∈ m, 0 < x) (hl : ∀ p, (keepTo M m old lim).getD p 0 ≠ 0 → l.getD p 0 = (keepTo M m old lim).getD p 0) {x : Int} (hx : x ∈ m) : ∀ i, i ≤ lim →
    min (hadR old x i) (M / m.length) ≤ cnt (keepTo M m old i) x ∧ cnt (keepTo M m old i) x ≤ keptR old l x i := by
  have hx0 := hp x hx
  intro i
  induction i with
  | zero => intro _; rw [keepTo, cnt_zero M x hx0]; simp [hadR, keptR]
  | succ i ih =>
    intro hi
    obtain ⟨h1, h2⟩ := ih (by omega)
    have hz := keepTo_zero M m old i i (Nat.le_refl _)
    have hlen : i < (keepTo M m old i).length := by rw [keepTo_len]; omega
    rw [hadR, keptR]
    by_cases ho : old.getD i 0 = x
    · rw [if_pos ho]
      by_cases hg : old.getD i 0 ∈ m ∧ (cnt (keepTo M m old i) (old.getD i 0) < M / m.length ∨ (cnt (keepTo M m old i) (old.getD i 0) = M / m.length ∧ abv (keepTo M m old i) m (M / m.length) < M % m.length))
      · have e : keepTo M m old (i + 1) = (keepTo M m old i).set i x := by rw [keepTo]; unfold step1; rw [if_pos hg, ho]
        have hst : (keepTo M m old (i + 1)).getD i 0 = x := by rw [e]; simp [List.getD, hlen]
        have hfin : l.getD i 0 = x := by
          have := keepTo_stay M m old i (i + 1) (lim - (i + 1)) (by rw [hst]; omega)
          rw [show i + 1 + (lim - (i + 1)) = lim by omega, hst] at this
          rw [hl i (by rw [this]; omega), this]
        rw [if_pos ⟨ho, hfin⟩, e, (cnt_set hlen hz (by omega)).1]
        omega
      · have e : keepTo M m old (i + 1) = keepTo M m old i := by rw [keepTo]; unfold step1; rw [if_neg hg]
        rw [e]
        rw [ho] at hg
        have : M / m.length ≤ cnt (keepTo M m old i) x := by
          rcases Nat.lt_or_ge (cnt (keepTo M m old i) x) (M / m.length) with h | h
          · exact absurd ⟨hx, .inl h⟩ hg
          · exact h
        constructor <;> omega
    · rw [if_neg ho, if_neg (fun h => ho h.1)]
      by_cases hg : old.getD i 0 ∈ m ∧ (cnt (keepTo M m old i) (old.getD i 0) < M / m.length ∨ (cnt (keepTo M m old i) (old.getD i 0) = M / m.length ∧ abv (keepTo M m old i) m (M / m.length) < M % m.length))
      · have e : keepTo M m old (i + 1) = (keepTo M m old i).set i (old.getD i 0) := by rw [keepTo]; unfold step1; rw [if_pos hg]
        rw [e, (cnt_set hlen hz (by have := hp _ hg.1; omega)).2 x (Ne.symm ho) (by omega)]
        constructor <;> omega
      · have e : keepTo M m old (i + 1) = keepTo M m old i := by rw [keepTo]; unfold step1; rw [if_neg hg]
        rw [e]
        constructor <;> omega
theorem kept_ok (M : Nat) (m old : List Int) (hp : ∀ x ∈ m, 0 < x) (h0 : m ≠ []) {x : Int} (hx : x ∈ m) : min (hadR old x (min M old.length)) (M / m.length) ≤ keptR old (stickyL M m old) x (min M old.length) := by
  obtain ⟨h1, h2⟩ := keep_low M m old (stickyL M m old) (min M old.length) (by omega) hp (fun p hpn => by unfold stickyL; rw [if_neg h0]; exact fillTo_stay _ _ _ hpn _) hx (min M old.length) (Nat.le_refl _)
  omega
set_option maxRecDepth 100000 in
set_option maxHeartbeats 16000000 in
theorem assignKeeps_law (p : Int) (a1 : Option Addr) (len1 cap1 : Nat) (zs1 : List Int) (a2 : Option Addr) (len2 cap2 : Nat) (zs2 : List Int) (w : World) (hp0 : (Lit.int .i64 p).wf = true) (hr1 : IsRow .i64 w a1 len1 cap1 zs1) (hcap1 : cap1 * 8 ≤ 140737488351232) (hr2 : IsRow .i64 w a2 len2 cap2 zs2) (hcap2 : cap2 * 8 ≤ 140737488351232) :
    Calls Try.prog 6 #[.int .i64 p, .slice a1 len1 cap1, .slice a2 len2 cap2] w fun e w' => e = .returned (.bool true) ∧ Below w.heap.size w w' := by
  obtain ⟨xs, hxn, hsx, hwx, hl1, hlc1⟩ := row_some hr1
  obtain ⟨os, hon, hso, hwo, hl2, hlc2⟩ := row_some hr2
  have C1 := Lib.hid (fun w => some_walk a1 len1 cap1 w hl1 hlc1)
  have C2 := Lib.hid (fun w => some_walk a2 len2 cap2 w hl2 hlc2)
  obtain ⟨M1, hM1⟩ : ∃ M, min len1 70 = M := ⟨_, rfl⟩
  obtain ⟨M2, hM2⟩ : ∃ M, min len2 70 = M := ⟨_, rfl⟩
  rw [hM1] at C1 hxn
  rw [hM2] at C2 hon
  have hM1b : M1 ≤ 70 := by omega
  have hM2b : M2 ≤ 70 := by omega
  have HX := Lib.hid hsx
  have HO := Lib.hid hso
  have HOl := Lib.hid hon
  have HXl := Lib.hid hxn
  have K1 := Lib.hid (fun w h h3 => sticky_all p xs os M1 M2 a1 a2 cap1 cap2 w hxn (by omega) hon (by omega) hwx hwo h h3)
  have K2 := Lib.hid (fun w h => rmembers_walk xs M1 a1 cap1 w hxn (by omega) h)
  unfold OutPost at K1
  unfold MemPost at K2
  by_cases hok : okP p = true
  · obtain ⟨h1, h2⟩ := okP_yes hok
    obtain ⟨M, hMp⟩ : ∃ M : Nat, p = (M : Int) := ⟨p.toNat, by omega⟩
    subst hMp
    have hE : errF (M : Int) = 0 := by unfold errF; rw [if_pos hok]
    have HSe := Lib.hid (show stickyF (M : Int) xs os = stickyL M (memL xs) os by unfold stickyF; rw [if_pos hok]; rfl)
    rw [hE] at K1
    obtain ⟨S, hS⟩ : ∃ S, stickyF (M : Int) xs os = S := ⟨_, rfl⟩
    rw [hS] at K1 HSe
    have HSl := Lib.hid (show S.length = M by rw [HSe.out, stickyL_len])
    rw [HSl.out] at K1
    have hM1' : 1 ≤ M := by omega
    have hM2' : M ≤ 64 := by omega
    clear hon hso hwo hwx hsx hr1 hr2 hM1 hM2 hl1 hl2 hlc1 hlc2 hxn hE hok hS h1 h2
    go_enter Try.func6, Try.ntmps6
    go_wp2_with fail
    refine (C1.out _).mono ?_
    rintro e w0 ⟨rfl, rfl⟩
    go_wp2_with fail
    refine (C2.out _).mono ?_
    rintro e w0 ⟨rfl, rfl⟩
    clear C1 C2
    go_wp2_with fail
    refine (K1.out _ HX.out HO.out).mono ?_
    rintro e w1 ⟨r1, k1, rfl, q1, s1, g1⟩
    clear q1
    go_wp2_with fail
    refine (K2.out _ (Sl.grow (HX.out.below g1 (Nat.le_refl _)) g1.size)).mono ?_
    rintro e w3 ⟨m, k, a2', c2', hm, hk, rfl, ho, hb3⟩
    have hme := memIs_unique (memL_is xs) hm
    have g3 := g1.trans (hb3.mono g1.size)
    have HSL := Lib.hid (Sl.grow (s1.below hb3 (Nat.le_refl _)) hb3.size)
    have HSm := Lib.hid (ownN_sl ho)
    clear s1 ho
    have hk2 : k ≤ 1000 := by have := memIs_len hm; rw [HXl.out] at this; omega
    have HMI := Lib.hid hm
    have HK := Lib.hid hk
    rw [hme] at HSe
    clear hme hm hk
    have hMz : ((M : Int) == 0) = false := beq_eq_false_iff_ne.2 (by omega)
    rcases Nat.eq_zero_or_pos k with hk0 | hk0
    · subst hk0
      go_wp2_with fail
      refine (awake09_walk _).mono ?_
      rintro e w8 ⟨rfl, b8⟩
      have g8 := g3.trans (b8.mono g3.size)
      go_wp2_with fail
      go_ret
      exact ⟨rfl, g8⟩
    · have hkz : ((k : Int) == 0) = false := beq_eq_false_iff_ne.2 (by omega)
      have hMM : ((M : Int) != (M : Int)) = false := by simp
      have Hqd := Lib.hid (show wrap64 ((M : Int) / (k : Int)) = ((M / k : Nat) : Int) by
        have := Nat.div_le_self M k
        rw [← Int.natCast_ediv]
        generalize M / k = q at this ⊢
        rw [IntWalk.wrap64_in _ (by omega)])
      obtain ⟨bm, om, rfl, hbm, hcm⟩ := HSm.out.ints (by rw [HK.out]; exact hk0)
      have HG := Lib.hid (show ∀ x ∈ m, min (hadR os x (min M M2)) (M / k) ≤ keptR os S x (min M M2) from fun x hx => by
        have := kept_ok M m os (fun x hx => ((HMI.out.2 x).1 hx).2) (by intro h; have := HK.out; rw [h] at this; simp at this; omega) hx
        rwa [HOl.out, HK.out, ← HSe.out] at this)
      have HCM := Lib.hid hcm
      clear hcm
      go_upto_region 8 with fail
      clear hMM hMz
      go_wp2_with fail
      go_loopw [10] (fun I wr => ∃ i : Nat, i ≤ k ∧ I = .int .i64 i ∧ Below w3.heap.size w3 wr) (fun I _ => k - (intOf I).toNat)
      case atStart => exact ⟨0, Nat.zero_le _, rfl, Below.refl _ _⟩
      case round =>
        obtain ⟨i, hik, rfl, hz0⟩ := hrel
        by_cases hil : i < k
        · have hki : (i : Int) < (k : Int) := by omega
          have hi0 : 0 ≤ (i : Int) := by omega
          have rx := HCM.out i (by rw [HK.out]; exact hil)
          have hxm := memGet (m := m) (j := i) (by rw [HK.out]; exact hil)
          obtain ⟨x, hx⟩ : ∃ x, m.getD i 0 = x := ⟨_, rfl⟩
          rw [hx] at rx hxm
          have RX := Lib.hid (fun (w' : World) (h' : Below w3.heap.size w3 w') => (h'.cell (p := ⟨bm, om + i, none⟩) (by show bm < _; omega)).trans rx)
          have HOK := Lib.hid (HG.out x hxm)
          clear rx hx hxm
          go_wp2_with fail
          go_loopw [11, 12, 13] (fun A C P wr => ∃ (t H K : Nat), t ≤ M ∧ t ≤ M2 ∧ H ≤ t ∧ K ≤ t ∧ P = .int .i64 t ∧ A = .int .i64 H ∧ C = .int .i64 K ∧ Hid (H = hadR os x t) ∧ Hid (K = keptR os S x t) ∧ Below w3.heap.size w3 wr) (fun _ _ P _ => M - (intOf P).toNat)
          case atStart => exact ⟨0, 0, 0, Nat.zero_le _, Nat.zero_le _, Nat.le_refl _, Nat.le_refl _, rfl, rfl, rfl, Lib.hid rfl, Lib.hid rfl, hz0⟩
          case round =>
            obtain ⟨t, H, K, htM, htN2, hHt, hKt, rfl, rfl, rfl, HHd, HKp, hz⟩ := hrel
            by_cases hlt : t < M ∧ t < M2
            · obtain ⟨hlt1, hlt2⟩ := hlt
              have hti : (t : Int) < (M : Int) := by omega
              have htN : (t : Int) < (M2 : Int) := by omega
              have ht0 : 0 ≤ (t : Int) := by omega
              have hlim : t + 1 ≤ M ∧ t + 1 ≤ M2 := ⟨hlt1, hlt2⟩
              obtain ⟨bo, oo, rfl, hbo, hco⟩ := HO.out.ints (by rw [HOl.out]; omega)
              have ro := hco t (by rw [HOl.out]; exact hlt2)
              obtain ⟨bl, ol, rfl, hbl, hcl⟩ := HSL.out.ints (by rw [HSl.out]; omega)
              have rl := hcl t (by rw [HSl.out]; exact hlt1)
              obtain ⟨o, ho9⟩ : ∃ o, os.getD t 0 = o := ⟨_, rfl⟩
              obtain ⟨v, hv⟩ : ∃ v, S.getD t 0 = v := ⟨_, rfl⟩
              rw [ho9] at ro
              rw [hv] at rl
              have RO := Lib.hid (fun (w' : World) (h' : Below w3.heap.size w3 w') => ((g3.trans (h'.mono g3.size)).cell (p := ⟨bo, oo + t, none⟩) (by show bo < _; omega)).trans ro)
              have RL := Lib.hid (fun (w' : World) (h' : Below w3.heap.size w3 w') => (h'.cell (p := ⟨bl, ol + t, none⟩) (by show bl < _; omega)).trans rl)
              have HO9 := Lib.hid ho9
              have HV9 := Lib.hid hv
              have hz9 := hz.size
              have hg3s := g3.size
              have c1 := RO.out wr hz
              have c2 := RX.out wr hz
              have hb1 : bo < wr.heap.size := by omega
              have hb2' : bm < wr.heap.size := by omega
              have Hwp := Lib.hid (show IntKind.i64.wrap ((t : Int) + 1) = ((t + 1 : Nat) : Int) by rw [IntWalk.i64_in _ (by omega)]; omega)
              have Hwh := Lib.hid (show IntKind.i64.wrap ((H : Int) + 1) = ((H + 1 : Nat) : Int) by rw [IntWalk.i64_in _ (by omega)]; omega)
              have Hwk := Lib.hid (show IntKind.i64.wrap ((K : Int) + 1) = ((K + 1 : Nat) : Int) by rw [IntWalk.i64_in _ (by omega)]; omega)
              clear hco hcl ro rl ho9 hv hlt1 hlt2
              by_cases hox : o = x
              · have hbe : (o == x) = true := by rw [hox]; exact beq_self_eq_true _
                have HH2 := Lib.hid (show H + 1 = hadR os x (t + 1) by rw [hadR, HO9.out, if_pos hox, ← HHd.out])
                go_upto_region 15 with fail
                go_quiet (fail)
                clear c1 c2 hbe
                obtain ⟨w4, hv9⟩ : ∃ w4, w4 = wr.drewN nq := ⟨_, rfl⟩
                have d4 : Below wr.heap.size wr w4 := by rw [hv9]; exact below_drewN _ _ _
                have h4 := hz.trans (d4.mono hz.size)
                rw [← hv9]
                clear hv9 nq
                go_upto_region 16 with fail
                have hwh := Hwh.out
                go_upto_region 17 with fail
                clear hwh
                have h4s := h4.size
                have c3 := RL.out w4 h4
                have c4 := RX.out w4 h4
                have hb3' : bl < w4.heap.size := by omega
                have hb4' : bm < w4.heap.size := by omega
                by_cases hvx : v = x
                · have hbe : (v == x) = true := by rw [hvx]; exact beq_self_eq_true _
                  have HK2 := Lib.hid (show K + 1 = keptR os S x (t + 1) by rw [keptR, HO9.out, HV9.out, if_pos ⟨hox, hvx⟩, ← HKp.out])
                  clear hox hvx
                  go_quiet (fail)
                  clear c3 c4 hbe
                  obtain ⟨w5, hv9⟩ : ∃ w5, w5 = w4.drewN nq := ⟨_, rfl⟩
                  have d5 : Below w4.heap.size w4 w5 := by rw [hv9]; exact below_drewN _ _ _
                  have h5 := h4.trans (d5.mono h4.size)
                  rw [← hv9]
                  clear hv9 nq
                  have hwk := Hwk.out
                  go_upto_region 14 with fail
                  clear hwk
                  have hwp := Hwp.out
                  go_wp2_with fail
                  go_roundw
                  case rel => exact ⟨t + 1, H + 1, K + 1, hlim.1, hlim.2, by omega, by omega, by go_num, by go_num, by go_num, HH2, HK2, h5⟩
                  case measure => simp [intOf]; omega
                · have hbe : (v == x) = false := beq_eq_false_iff_ne.2 hvx
                  have HK2 := Lib.hid (show K = keptR os S x (t + 1) by rw [keptR, HO9.out, HV9.out, if_neg (fun h => hvx h.2), ← HKp.out]; rfl)
                  clear hox hvx
                  go_quiet (fail)
                  clear c3 c4 hbe
                  obtain ⟨w5, hv9⟩ : ∃ w5, w5 = w4.drewN nq := ⟨_, rfl⟩
                  have d5 : Below w4.heap.size w4 w5 := by rw [hv9]; exact below_drewN _ _ _
                  have h5 := h4.trans (d5.mono h4.size)
                  rw [← hv9]
                  clear hv9 nq
                  go_upto_region 14 with fail
                  have hwp := Hwp.out
                  go_wp2_with fail
                  go_roundw
                  case rel => exact ⟨t + 1, H + 1, K, hlim.1, hlim.2, by omega, by omega, by go_num, by go_num, by go_num, HH2, HK2, h5⟩
                  case measure => simp [intOf]; omega
              · have hbe : (o == x) = false := beq_eq_false_iff_ne.2 hox
                have HH2 := Lib.hid (show H = hadR os x (t + 1) by rw [hadR, HO9.out, if_neg hox, ← HHd.out]; rfl)
                have HK2 := Lib.hid (show K = keptR os S x (t + 1) by rw [keptR, HO9.out, if_neg (fun h => hox h.1), ← HKp.out]; rfl)
                clear hox
                go_upto_region 15 with fail
                go_quiet (fail)
                clear c1 c2 hbe
                obtain ⟨w4, hv9⟩ : ∃ w4, w4 = wr.drewN nq := ⟨_, rfl⟩
                have d4 : Below wr.heap.size wr w4 := by rw [hv9]; exact below_drewN _ _ _
                have h4 := hz.trans (d4.mono hz.size)
                rw [← hv9]
                clear hv9 nq
                go_upto_region 14 with fail
                have hwp := Hwp.out
                go_wp2_with fail
                go_roundw
                case rel => exact ⟨t + 1, H, K, hlim.1, hlim.2, by omega, by omega, by go_num, by go_num, by go_num, HH2, HK2, h4⟩
                case measure => simp [intOf]; omega
            · have hte : t = min M M2 := by omega
              by_cases htm : t < M
              · have hti : (t : Int) < (M : Int) := by omega
                have htN : ¬ (t : Int) < (M2 : Int) := by omega
                have hfin : ¬ ((K : Int) < min (H : Int) (wrap64 ((M : Int) / (k : Int)))) := by
                  rw [Hqd.out]
                  have := HOK.out
                  rw [← hte, ← HHd.out, ← HKp.out] at this
                  omega
                have Hwi := Lib.hid (show IntKind.i64.wrap ((i : Int) + 1) = ((i + 1 : Nat) : Int) by rw [IntWalk.i64_in _ (by omega)]; omega)
                go_upto_region 10 with fail
                clear hfin HG
                have hwi := Hwi.out
                go_wp2_with fail
                go_roundw
                case rel => exact ⟨i + 1, by omega, by go_num, hz⟩
                case measure => simp [intOf]; omega
              · have hti : ¬ (t : Int) < (M : Int) := by omega
                have hfin : ¬ ((K : Int) < min (H : Int) (wrap64 ((M : Int) / (k : Int)))) := by
                  rw [Hqd.out]
                  have := HOK.out
                  rw [← hte, ← HHd.out, ← HKp.out] at this
                  omega
                have Hwi := Lib.hid (show IntKind.i64.wrap ((i : Int) + 1) = ((i + 1 : Nat) : Int) by rw [IntWalk.i64_in _ (by omega)]; omega)
                go_upto_region 10 with fail
                clear hfin HG
                have hwi := Hwi.out
                go_wp2_with fail
                go_roundw
                case rel => exact ⟨i + 1, by omega, by go_num, hz⟩
                case measure => simp [intOf]; omega
        · obtain rfl : i = k := by omega
          go_wp2_with fail
          refine (awake09_walk _).mono ?_
          rintro e w8 ⟨rfl, b8⟩
          have g7 := g3.trans (hz0.mono g3.size)
          have g8 := g7.trans (b8.mono g7.size)
          go_wp2_with fail
          go_ret
          exact ⟨rfl, g8⟩
  · have hE : errF p = 1 := by unfold errF; rw [if_neg hok]
    have hS : stickyF p xs os = [] := by unfold stickyF; rw [if_neg hok]
    rw [hE, hS] at K1
    clear hon hso hwo hwx hsx hr1 hr2 hM1 hM2 hl1 hl2 hlc1 hlc2 hxn hE hok hS
    go_enter Try.func6, Try.ntmps6
    go_wp2_with fail
    refine (C1.out _).mono ?_
    rintro e w0 ⟨rfl, rfl⟩
    go_wp2_with fail
    refine (C2.out _).mono ?_
    rintro e w0 ⟨rfl, rfl⟩
    clear C1 C2
    go_wp2_with fail
    refine (K1.out _ HX.out HO.out).mono ?_
    rintro e w1 ⟨r1, k1, rfl, q1, s1, g1⟩
    clear q1
    go_wp2_with fail
    refine (K2.out _ (Sl.grow (HX.out.below g1 (Nat.le_refl _)) g1.size)).mono ?_
    rintro e w3 ⟨m, k, a2', c2', hm, hk, rfl, ho, hb3⟩
    have g3 := g1.trans (hb3.mono g1.size)
    clear s1 ho
    clear hm hk
    go_wp2_with fail
    go_ret
    exact ⟨rfl, g3⟩
end Go.Proofs.Ytgeeeaacaofbeaa

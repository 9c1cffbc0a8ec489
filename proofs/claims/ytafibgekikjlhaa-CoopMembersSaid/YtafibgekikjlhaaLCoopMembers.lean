/- The walk of headgatelaw35.CoopMembers. -/
import Derived.Test.YtafibgekikjlhaaCoDoes
namespace Go.Proofs.Ytafibgekikjlhaa
open Go.RowKit Vm As
set_option linter.unusedVariables false
set_option linter.unusedSimpArgs false

set_option maxRecDepth 100000 in
set_option maxHeartbeats 8000000 in
theorem coopMembers_law (parts : Int) (l : List Cd) (a : Option Addr) (c : Nat) (w : World) (hp : (Lit.int .i64 parts).wf = true) (hs : Sl w w.heap.size a (cdCells l)) (hci : ∀ r ∈ l, CdI w r) (hz : (a = none → c = 0) ∧ l.length ≤ c ∧ c ≤ maxLen) :
    Calls Try.prog 5 #[.int .i64 parts, .slice a l.length c] w fun e w' => e = .returned (.bool true) ∧ Below w.heap.size w w' := by
  have KOf := Lib.hid (of35_walk parts w)
  have K7 := Lib.hid (fun w => awake35_walk w)
  have HCI := Lib.hid hci
  have HS0 := Lib.hid hs
  have hlm : l.length ≤ 9223372036854775807 := by have := hz.2.2; unfold maxLen at this; omega
  have hlc := hz.2.1
  obtain ⟨n, hn⟩ : ∃ n, l.length = n := ⟨_, rfl⟩
  rw [hn] at hlm hlc ⊢
  have HNl := Lib.hid hn
  obtain ⟨hp1, hp2⟩ := ofN_le parts
  unfold OfQ at KOf
  generalize ofN parts = pp at *
  have HOK := Lib.hid (fun k => runC_ok (l := someL l) (newC_ok hp1 hp2) k)
  clear hp hs hci hz hn
  go_enter Try.func5, Try.ntmps5
  go_wp2_with fail
  refine KOf.out.mono ?_
  rintro e w0 ⟨g, S0, rfl, A0, hZ0, b0⟩
  have KS := Lib.hid (some35_walk l n a c w0 HNl.out hlm hlc ((HS0.out.below b0 (Nat.le_refl _)).grow b0.size) (fun r hr => cdi_keep (HCI.out r hr) b0))
  unfold SomePost at KS
  have hNle : (someL l).length ≤ 100 := by rw [some_len]; omega
  have HDL := Lib.hid (fun (wr : World) (S : Nat → Prop) (C : Co) (k : Nat) (hb : Below w.heap.size w wr) (hk : k < (someL l).length) => deed_lapt (S := S) (k := k) C HCI.out hb hk)
  obtain ⟨L, hL⟩ : ∃ L, someL l = L := ⟨_, rfl⟩
  rw [hL] at KS HOK hNle HDL
  obtain ⟨N, hN⟩ : ∃ N, L.length = N := ⟨_, rfl⟩
  rw [hN] at KS hNle
  have HN := Lib.hid hN
  clear hL hN KOf HS0
  go_wp2_with fail
  refine KS.out.mono ?_
  rintro e w1 ⟨a1, c1, rfl, own1, b1⟩
  have A1 := A0.keep b1
  have q1 := Lib.hid (Apt.own A0.live own1)
  have B1 := b0.trans (b1.mono b0.size)
  obtain ⟨C0, hC0⟩ : ∃ C0, newC pp = C0 := ⟨_, rfl⟩
  rw [hC0] at A1 HOK
  clear KS A0 own1 hC0
  go_wp2_with fail
  go_loopw [6] (fun I wr => ∃ (k : Nat) (S : Nat → Prop), k ≤ N ∧ I = .int .i64 k ∧ CA wr g (runC C0 L k) S ∧ Hid (Apt wr S a1 (cdCells L)) ∧ Hid (∀ x, S x → w.heap.size ≤ x) ∧ Below w.heap.size w wr) (fun I _ => N - (intOf I).toNat)
  case atStart => exact ⟨0, S0, by omega, rfl, A1, q1, hZ0, B1⟩
  case round =>
    obtain ⟨k, S, hk, rfl, A, q, hZ, hb⟩ := hrel
    by_cases hlt : k < N
    · have hil : k < L.length := by rw [HN.out]; exact hlt
      have hlt2 : (k : Int) < (N : Int) := by omega
      have hk0 : 0 ≤ (k : Int) := by omega
      obtain ⟨b2, o2, rfl, hb2, r0, r1, r2, r3, r4⟩ := q.out.1.cd5 hil
      have hOK := HOK.out k
      have HOK1 := Lib.hid (HOK.out (k + 1))
      have HDk := Lib.hid (HDL.out wr S (runC C0 L k) k hb hil)
      have HRS := Lib.hid (show runC C0 L (k + 1) = doesC (runC C0 L k) (aimF (L.getD k cd0) (runC C0 L k)) from rfl)
      obtain ⟨C, hC⟩ : ∃ C, runC C0 L k = C := ⟨_, rfl⟩
      have HCk := Lib.hid hC
      rw [hC] at hOK HDk HRS A
      obtain ⟨x, hx⟩ : ∃ x, L.getD k cd0 = x := ⟨_, rfl⟩
      have HXk := Lib.hid hx
      rw [hx] at r0 r1 r2 r3 r4 HDk HRS
      have KA := Lib.hid (aimed35_walk k x C g S wr hOK A)
      obtain ⟨y, hy⟩ : ∃ y, aimF x C = y := ⟨_, rfl⟩
      have HY := Lib.hid hy
      rw [hy] at KA HDk HRS
      have KD := Lib.hid (fun w' (h : Below wr.heap.size wr w') => does35_walk k y C g S w' (by omega) hOK (A.keep h) ⟨HDk.out.1, HDk.out.2.1, HDk.out.2.2.1, (HDk.out.2.2.2.below h (Nat.le_refl _)).grow h.size⟩)
      rw [← HRS.out] at KD
      unfold DoQ at KD
      unfold AimPost at KA
      obtain ⟨C', hC'⟩ : ∃ C', runC C0 L (k + 1) = C' := ⟨_, rfl⟩
      have HC' := Lib.hid hC'
      rw [hC'] at KD HOK1
      have HA := Lib.hid A
      obtain ⟨xk, xm, xp, xn, xl, xa, xc⟩ := x
      unfold cdV at KA KD
      simp only at KA KD r0 r1 r2 r3 r4
      generalize doesE C y = E at KD
      clear hC hx hy hOK A hC'
      go_wp2_with fail
      refine KA.out.mono ?_
      rintro e w2 ⟨rfl, b2'⟩
      have KD2 := Lib.hid (KD.out w2 b2')
      clear KA KD r0 r1 r2 r3 r4
      go_wp2_with fail
      refine KD2.out.mono ?_
      rintro e w3 ⟨rfl, S3, A3, M3⟩
      have M23 := (Mvs.below S b2').trans M3
      have q3 := Lib.hid (q.out.mvs M23)
      have hZ3 := Lib.hid (fun x hx => M23.low2 hZ.out hb.size x hx)
      have B3 := hb.trans (M23.low hZ.out hb.size)
      clear KD2 M3 M23 b2' hb2
      have hok := HOK1.out
      have KM := Lib.hid (cmembers_ca (k + 1) C' g S3 w3 HOK1.out A3)
      have KH := Lib.hid (fun w' h => chave_ca (k + 1) C' g S3 w' HOK1.out h)
      have KW := Lib.hid (fun w' h => cwant_ca (k + 1) C' g S3 w' HOK1.out h)
      unfold RowQ at KM KH KW
      obtain ⟨m, hm⟩ : ∃ m, C'.M.length = m := ⟨_, rfl⟩
      obtain ⟨P, hP⟩ : ∃ P, C'.H.length = P := ⟨_, rfl⟩
      have hP16 : P ≤ 16 := by rw [← hP]; exact hok.b.h1
      have hm8 : m ≤ 8 := by rw [← hm]; exact hok.b.ml
      have hWl := hok.b.wl
      rw [hP] at hWl KH
      rw [hm] at KM
      rw [hWl] at KW
      have HM := Lib.hid hm
      have HP := Lib.hid hP
      have HWl := Lib.hid hWl
      clear hm hP hWl hok
      go_wp2_with fail
      refine KM.out.mono ?_
      rintro e w4 ⟨a4, c4, rfl, p4, h4⟩
      have A4 := A3.keep h4
      have KH2 := Lib.hid (KH.out w4 A4)
      clear KM KH A3
      go_wp2_with fail
      refine KH2.out.mono ?_
      rintro e w5 ⟨a5, c5, rfl, p5, h5⟩
      have A5 := A4.keep h5
      have KW2 := Lib.hid (KW.out w5 A5)
      have p45 := p4.keep h5
      clear KH2 KW A4 p4
      go_wp2_with fail
      refine KW2.out.mono ?_
      rintro e w6 ⟨a6, c6, rfl, p6, h6⟩
      have A6 := Lib.hid (A5.keep h6)
      have pM := Lib.hid (p45.keep h6)
      have pH := Lib.hid (p5.keep h6)
      have pW := Lib.hid p6
      have h46 := gtrans (gtrans h4 h5) h6
      have q6 := Lib.hid (q3.out.keep h46)
      have B6 := B3.trans (h46.mono B3.size)
      clear KW2 A5 p45 p5 p6 h4 h5 h6 h46 q3 B3
      go_wp2_with fail
      go_loopw [10] (fun I wr => ∃ (p : Nat), p ≤ P ∧ I = .int .i64 p ∧ Below w6.heap.size w6 wr) (fun I _ => P - (intOf I).toNat)
      case atStart => exact ⟨0, by omega, rfl, Below.refl _ _⟩
      case round =>
        obtain ⟨p, hp, rfl, hbp⟩ := hrel
        by_cases hlp : p < P
        · have hlp2 : (p : Int) < (P : Int) := by omega
          have hp0 : 0 ≤ (p : Int) := by omega
          have hpH : p < C'.H.length := by rw [HP.out]; exact hlp
          have hpW : p < C'.W.length := by rw [HWl.out]; exact hlp
          obtain ⟨b7, o7, rfl, hb7, hc7⟩ := (pH.out.keep hbp).1.ints (by omega)
          obtain ⟨b8, o8, rfl, hb8, hc8⟩ := (pW.out.keep hbp).1.ints (by omega)
          have s0 := hc7 p hpH
          have s1 := hc8 p hpW
          have hbd := Lib.hid (fun nq => hbp.trans (below_drewN w6.heap.size wr nq))
          rcases Nat.eq_zero_or_pos m with hm0 | hm0
          · subst hm0
            have hMe : C'.M = [] := List.eq_nil_of_length_eq_zero HM.out
            have e0 : C'.H.getD p 0 = 0 := by
              rcases HOK1.out.b.hz _ (getD_mem0 hpH) with h | h
              · exact h
              · rw [hMe] at h; cases h
            have e1 : C'.W.getD p 0 = 0 := by
              rcases HOK1.out.wz _ (getD_mem0 hpW) with h | h
              · exact h
              · rw [hMe] at h; cases h
            rw [e0] at s0
            rw [e1] at s1
            clear e0 e1 hMe hc7 hc8 hpH hpW
            go_wp2_with fail
            go_quiet (fail)
            go_wp2_with fail
            go_roundw
            case rel => exact ⟨p + 1, by omega, by go_num, hbd.out _⟩
            case measure => simp [intOf]; omega
          · have hne : C'.M ≠ [] := fun e => by have := HM.out; rw [e] at this; simp at this; omega
            have k0 := cnt_asc HOK1.out.b.ms (HOK1.out.full hne _ (getD_mem0 hpH))
            have k1 := cnt_asc HOK1.out.b.ms (HOK1.out.fw.all hne _ (getD_mem0 hpW))
            have KC := Lib.hid (fun nq x => rcount_walk C'.M m x a4 c4 (wr.drewN nq).heap.size (wr.drewN nq) HM.out (by omega) ((pM.out.keep hbp).keep (below_drewN _ wr nq)).1 (Nat.le_refl _))
            obtain ⟨v, hv⟩ : ∃ v, C'.H.getD p 0 = v := ⟨_, rfl⟩
            obtain ⟨u, hu⟩ : ∃ u, C'.W.getD p 0 = u := ⟨_, rfl⟩
            rw [hv] at s0 k0
            rw [hu] at s1 k1
            have KC1 := Lib.hid (fun nq => KC.out nq v)
            have KC2 := Lib.hid (fun nq => KC.out nq u)
            rw [k0] at KC1
            rw [k1] at KC2
            have g1 : ((m : Int) == 0) = false := beq_eq_false_iff_ne.2 (by omega)
            have g2 : (0 : Int) < (m : Int) := by omega
            clear hne k0 k1 hv hu hc7 hc8 hpH hpW KC
            go_wp2_with fail
            go_quiet (fail)
            go_wp2_with fail
            refine (KC1.out _).mono ?_
            rintro e w9 ⟨rfl, hw9⟩
            subst hw9
            go_wp2_with fail
            refine (KC2.out _).mono ?_
            rintro e w9 ⟨rfl, hw9⟩
            subst hw9
            go_wp2_with fail
            go_roundw
            case rel => exact ⟨p + 1, by omega, by go_num, hbd.out _⟩
            case measure => simp [intOf]; omega
        · obtain rfl : p = P := by omega
          have h6z := B6.size
          go_wp2_with fail
          go_roundw
          case rel => exact ⟨k + 1, S3, by omega, by go_num, by rw [HC'.out]; exact A6.out.keep hbp, Lib.hid (q6.out.keep hbp), hZ3, B6.trans (hbp.mono h6z)⟩
          case measure => simp [intOf]; omega
    · obtain rfl : k = N := by omega
      obtain ⟨C, hC⟩ : ∃ C, runC C0 L k = C := ⟨_, rfl⟩
      rw [hC] at A
      clear hC A HOK HDL
      go_wp2_with fail
      refine (K7.out _).mono ?_
      rintro e w8 ⟨rfl, h8⟩
      go_wp2_with fail
      go_ret
      exact ⟨rfl, hb.trans (h8.mono hb.size)⟩
end Go.Proofs.Ytafibgekikjlhaa

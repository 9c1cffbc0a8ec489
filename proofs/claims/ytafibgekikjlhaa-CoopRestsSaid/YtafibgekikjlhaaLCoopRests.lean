/- The walk of headgatelaw35.CoopRests. -/
import Derived.Test.YtafibgekikjlhaaCoDoes
import Derived.Deep.RegionWith
import Derived.Deep.RegionHeld3
namespace Go.Proofs.Ytafibgekikjlhaa
open Go.RowKit Vm As
set_option linter.unusedVariables false
set_option linter.unusedSimpArgs false

def HTo (H W R : List Int) : Nat → List Int
  | 0 => H
  | j + 1 => (HTo H W R j).set (R.getD j 0).toNat (W.getD (R.getD j 0).toNat 0)
theorem HTo_len (H W R : List Int) : ∀ j, (HTo H W R j).length = H.length
  | 0 => rfl
  | j + 1 => by unfold HTo; rw [List.length_set, HTo_len H W R j]
theorem HTo_cases (H W R : List Int) : ∀ j q, (HTo H W R j).getD q 0 = H.getD q 0 ∨ (HTo H W R j).getD q 0 = W.getD q 0
  | 0, q => .inl rfl
  | j + 1, q => by
    unfold HTo
    rw [getD_set]
    split
    · next h => rw [h.1]; exact .inr rfl
    · exact HTo_cases H W R j q
theorem HTo_out (H W R : List Int) : ∀ j q, (∀ i, i < j → (R.getD i 0).toNat ≠ q) → (HTo H W R j).getD q 0 = H.getD q 0
  | 0, q, _ => rfl
  | j + 1, q, h => by
    unfold HTo
    rw [getD_set, if_neg (fun h2 => h j (by omega) h2.1)]
    exact HTo_out H W R j q (fun i hi => h i (by omega))
theorem HTo_in (H W R : List Int) : ∀ j i q, i < j → (R.getD i 0).toNat = q → q < H.length → (HTo H W R j).getD q 0 = W.getD q 0
  | 0, i, q, h, _, _ => by omega
  | j + 1, i, q, h, e, hq => by
    unfold HTo
    rw [getD_set, HTo_len]
    by_cases h1 : (R.getD j 0).toNat = q
    · rw [if_pos ⟨h1, hq⟩, h1]
    · rw [if_neg (fun h2 => h1 h2.1)]
      have : i ≠ j := fun e2 => h1 (e2 ▸ e)
      exact HTo_in H W R j i q (by omega) e hq
def dC (C : Co) (R : List Int) (j : Nat) : Co := { C with H := HTo C.H C.W R j }
theorem asc_getD {l : List Int} (h : l.Pairwise (· < ·)) {i j : Nat} (hij : i < j) (hj : j < l.length) : l.getD i 0 < l.getD j 0 := by
  have := List.pairwise_iff_getElem.1 h i j (by omega) hj hij
  rwa [show l.getD i 0 = l[i] from by simp [List.getD, show i < l.length by omega], show l.getD j 0 = l[j] from by simp [List.getD, hj]]
theorem done_step {C : Co} {x : Int} {j : Nat} (hx : C.M.contains x = true) (hj : j < (revTo C x C.H.length).length) :
    doneE (dC C (revTo C x C.H.length) j) x ((revTo C x C.H.length).getD j 0) = 0 ∧ doneC (dC C (revTo C x C.H.length) j) x ((revTo C x C.H.length).getD j 0) = dC C (revTo C x C.H.length) (j + 1) := by
  obtain ⟨R, hR⟩ : ∃ R, revTo C x C.H.length = R := ⟨_, rfl⟩
  obtain ⟨q, hq, he, hs⟩ := (revTo_mem (C := C) (m := x) C.H.length _).1 (getD_mem0 hj)
  have hasc := revTo_asc C x C.H.length
  rw [hR] at he hj hasc ⊢
  have ho : (HTo C.H C.W R j).getD q 0 = C.H.getD q 0 := HTo_out _ _ _ j q (fun i hi e => by
    have h1 := asc_getD hasc hi hj
    obtain ⟨q2, _, he2, _⟩ := (revTo_mem (C := C) (m := x) C.H.length (R.getD i 0)).1 (by rw [hR]; exact getD_mem0 (by omega))
    rw [he, he2] at h1
    rw [he2] at e
    omega)
  have hE : doneE (dC C R j) x (R.getD j 0) = 0 := by
    unfold doneE
    rw [if_pos (show (dC C R j).M.contains x = true from hx), if_pos (show 0 ≤ R.getD j 0 ∧ R.getD j 0 < ((dC C R j).H.length : Int) from by rw [he]; show 0 ≤ (q : Int) ∧ (q : Int) < ((HTo C.H C.W R j).length : Int); rw [HTo_len]; omega), if_pos]
    rw [he]
    unfold surp at hs ⊢
    rw [Int.toNat_natCast]
    show ((HTo C.H C.W R j).getD q 0 == x && C.W.getD q 0 != x) = true
    rw [ho]; exact hs
  refine ⟨hE, ?_⟩
  unfold doneC
  rw [if_pos hE]
  rfl
theorem dC_ok {C : Co} {K : Nat} {x : Int} (hok : COk C K) (hx : C.M.contains x = true) : ∀ j, j ≤ (revTo C x C.H.length).length → COk (dC C (revTo C x C.H.length) j) K
  | 0, _ => hok
  | j + 1, hj => by
    have h1 := doneC_ok (m := x) (p := (revTo C x C.H.length).getD j 0) (dC_ok hok hx j (by omega))
    rwa [(done_step hx (by omega)).2] at h1
/-- Who has not to give up any more. -/
def RestI (C : Co) (ms : Nat → Int) (i : Nat) : Prop := ∀ q, q < C.H.length → C.H.getD q 0 = C.W.getD q 0 ∨ ∀ i', i' < i → C.H.getD q 0 ≠ ms i'
theorem rest_step {C : Co} {ms : Nat → Int} {i : Nat} (h : RestI C ms i) : RestI (dC C (revTo C (ms i) C.H.length) (revTo C (ms i) C.H.length).length) ms (i + 1) := by
  intro q hq
  have hq2 : q < C.H.length := by
    have : (dC C (revTo C (ms i) C.H.length) (revTo C (ms i) C.H.length).length).H.length = C.H.length := HTo_len _ _ _ _
    omega
  show (HTo C.H C.W _ _).getD q 0 = C.W.getD q 0 ∨ ∀ i', i' < i + 1 → (HTo C.H C.W _ _).getD q 0 ≠ ms i'
  rcases HTo_cases C.H C.W (revTo C (ms i) C.H.length) (revTo C (ms i) C.H.length).length q with hc | hc
  · by_cases hx : C.H.getD q 0 = ms i
    · by_cases hw : C.W.getD q 0 = ms i
      · exact .inl (by rw [hc, hx, hw])
      · have hs : surp C (ms i) q = true := by unfold surp; rw [Bool.and_eq_true]; exact ⟨beq_iff_eq.2 hx, bne_iff_ne.2 hw⟩
        have hm := (revTo_mem (C := C) (m := ms i) C.H.length (q : Int)).2 ⟨q, hq2, rfl, hs⟩
        obtain ⟨k, hk, he⟩ := List.mem_iff_getElem.1 hm
        refine .inl (HTo_in _ _ _ _ k q hk ?_ hq2)
        rw [show (revTo C (ms i) C.H.length).getD k 0 = (revTo C (ms i) C.H.length)[k] from by simp [List.getD, hk], he]
        omega
    · rw [hc]
      rcases h q hq2 with h1 | h1
      · exact .inl h1
      · refine .inr (fun i' hi' => ?_)
        rcases Nat.lt_or_ge i' i with h2 | h2
        · exact h1 i' h2
        · rw [show i' = i by omega]; exact hx
  · exact .inl hc
def ordM (M : List Int) (back : Bool) (i : Nat) : Int := M.getD (if back = true then M.length - 1 - i else i) 0
theorem rest_end {C : Co} {K : Nat} {back : Bool} (hok : COk C K) (h : RestI C (ordM C.M back) C.M.length) : C.H = C.W := by
  apply ext_getD hok.b.wl.symm
  intro q hq
  rcases h q hq with h1 | h1
  · exact h1
  · by_cases hne : C.M = []
    · have e0 : C.H.getD q 0 = 0 := by
        rcases hok.b.hz _ (getD_mem0 hq) with h | h
        · exact h
        · rw [hne] at h; cases h
      have e1 : C.W.getD q 0 = 0 := by
        rcases hok.wz _ (getD_mem0 (show q < C.W.length by rw [hok.b.wl]; exact hq)) with h | h
        · exact h
        · rw [hne] at h; cases h
      rw [e0, e1]
    · exfalso
      obtain ⟨k, hk, he⟩ := List.mem_iff_getElem.1 (hok.full hne _ (getD_mem0 hq))
      have e2 : C.M.getD k 0 = C.H.getD q 0 := by rw [← he]; simp [List.getD, hk]
      cases back with
      | false =>
        refine h1 k hk ?_
        unfold ordM
        rw [if_neg (by decide)]
        exact e2.symm
      | true =>
        refine h1 (C.M.length - 1 - k) (by omega) ?_
        unfold ordM
        rw [if_pos rfl, show C.M.length - 1 - (C.M.length - 1 - k) = k by omega]
        exact e2.symm
def RestK (C Cf : Co) : Prop := COk C 100 ∧ C.M = Cf.M ∧ C.W = Cf.W ∧ C.g = Cf.g
theorem share2 {C : Co} {K : Nat} (hok : COk C K) {x : Int} (hx : x ∈ C.M) : C.H.length / C.M.length ≤ cnt C.W x ∧ cnt C.W x ≤ C.H.length / C.M.length + 1 := by
  rcases hok.fw.2 with ⟨e, _⟩ | ⟨_, f⟩
  · rw [e] at hx; cases hx
  · exact ⟨fair_low hok.b.ms hok.b.mp f x hx, f.1.2.2.1 x hx⟩
theorem rev_rest {C : Co} {x : Int} (h : C.H = C.W) : revL C x = [] := by
  unfold revL
  split
  · have : ∀ p, revTo C x p = [] := by
      intro p
      induction p with
      | zero => rfl
      | succ p ih =>
        unfold revTo
        rw [ih, if_neg]
        · rfl
        · unfold surp
          rw [h]
          simp
    exact this _
  · rfl
set_option maxRecDepth 100000 in
set_option maxHeartbeats 8000000 in
theorem coopRests_law (parts : Int) (l : List Cd) (a : Option Addr) (c : Nat) (back : Bool) (w : World) (hp : (Lit.int .i64 parts).wf = true) (hs : Sl w w.heap.size a (cdCells l)) (hci : ∀ r ∈ l, CdI w r) (hz : (a = none → c = 0) ∧ l.length ≤ c ∧ c ≤ maxLen) :
    Calls Try.prog 6 #[.int .i64 parts, .slice a l.length c, .bool back] w fun e w' => e = .returned (.bool true) ∧ Below w.heap.size w w' := by
  have KOf := Lib.hid (of35_walk parts w)
  have K7 := Lib.hid (fun w => awake35_walk w)
  have HCI := Lib.hid hci
  have HS0 := Lib.hid hs
  have hlm : l.length ≤ 9223372036854775807 := by have := hz.2.2; unfold maxLen at this; omega
  have hlc := hz.2.1
  obtain ⟨n, hn⟩ : ∃ n, l.length = n := ⟨_, rfl⟩
  rw [hn] at hlm hlc ⊢
  have HNl := Lib.hid hn
  obtain ⟨hp1, hp2⟩ := ofN_le parts
  unfold OfQ at KOf
  generalize ofN parts = pp at *
  have HOK := Lib.hid (fun k => runC_ok (l := someL l) (newC_ok hp1 hp2) k)
  clear hp hs hci hz hn
  go_enter Try.func6, Try.ntmps6
  go_wp2_with fail
  refine KOf.out.mono ?_
  rintro e w0 ⟨g, S0, rfl, A0, hZ0, b0⟩
  have KS := Lib.hid (some35_walk l n a c w0 HNl.out hlm hlc ((HS0.out.below b0 (Nat.le_refl _)).grow b0.size) (fun r hr => cdi_keep (HCI.out r hr) b0))
  unfold SomePost at KS
  have hNle : (someL l).length ≤ 100 := by rw [some_len]; omega
  have HDL := Lib.hid (fun (wr : World) (S : Nat → Prop) (C : Co) (k : Nat) (hb : Below w.heap.size w wr) (hk : k < (someL l).length) => deed_lapt (S := S) (k := k) C HCI.out hb hk)
  obtain ⟨L, hL⟩ : ∃ L, someL l = L := ⟨_, rfl⟩
  rw [hL] at KS HOK hNle HDL
  obtain ⟨N, hN⟩ : ∃ N, L.length = N := ⟨_, rfl⟩
  rw [hN] at KS hNle
  have HN := Lib.hid hN
  clear hL hN KOf HS0
  go_wp2_with fail
  refine KS.out.mono ?_
  rintro e w1 ⟨a1, c1, rfl, own1, b1⟩
  have A1 := A0.keep b1
  have q1 := Lib.hid (Apt.own A0.live own1)
  have B1 := b0.trans (b1.mono b0.size)
  obtain ⟨C0, hC0⟩ : ∃ C0, newC pp = C0 := ⟨_, rfl⟩
  rw [hC0] at A1 HOK
  clear KS A0 own1 hC0
  go_wp2_with fail
  go_loopw [8] (fun I wr => ∃ (k : Nat) (S : Nat → Prop), k ≤ N ∧ I = .int .i64 k ∧ CA wr g (runC C0 L k) S ∧ Hid (Apt wr S a1 (cdCells L)) ∧ Hid (∀ x, S x → w.heap.size ≤ x) ∧ Below w.heap.size w wr) (fun I _ => N - (intOf I).toNat)
  case atStart => exact ⟨0, S0, by omega, rfl, A1, q1, hZ0, B1⟩
  case round =>
    obtain ⟨k, S, hk, rfl, A, q, hZ, hb⟩ := hrel
    by_cases hlt : k < N
    · have hil : k < L.length := by rw [HN.out]; exact hlt
      have hlt2 : (k : Int) < (N : Int) := by omega
      have hk0 : 0 ≤ (k : Int) := by omega
      obtain ⟨b2, o2, rfl, hb2, r0, r1, r2, r3, r4⟩ := q.out.1.cd5 hil
      have hOK := HOK.out k
      have HOK1 := Lib.hid (HOK.out (k + 1))
      have HDk := Lib.hid (HDL.out wr S (runC C0 L k) k hb hil)
      have HRS := Lib.hid (show runC C0 L (k + 1) = doesC (runC C0 L k) (aimF (L.getD k cd0) (runC C0 L k)) from rfl)
      obtain ⟨C, hC⟩ : ∃ C, runC C0 L k = C := ⟨_, rfl⟩
      have HCk := Lib.hid hC
      rw [hC] at hOK HDk HRS A
      obtain ⟨x, hx⟩ : ∃ x, L.getD k cd0 = x := ⟨_, rfl⟩
      have HXk := Lib.hid hx
      rw [hx] at r0 r1 r2 r3 r4 HDk HRS
      have KA := Lib.hid (aimed35_walk k x C g S wr hOK A)
      obtain ⟨y, hy⟩ : ∃ y, aimF x C = y := ⟨_, rfl⟩
      have HY := Lib.hid hy
      rw [hy] at KA HDk HRS
      have KD := Lib.hid (fun w' (h : Below wr.heap.size wr w') => does35_walk k y C g S w' (by omega) hOK (A.keep h) ⟨HDk.out.1, HDk.out.2.1, HDk.out.2.2.1, (HDk.out.2.2.2.below h (Nat.le_refl _)).grow h.size⟩)
      rw [← HRS.out] at KD
      unfold DoQ at KD
      unfold AimPost at KA
      obtain ⟨C', hC'⟩ : ∃ C', runC C0 L (k + 1) = C' := ⟨_, rfl⟩
      have HC' := Lib.hid hC'
      rw [hC'] at KD HOK1
      have HA := Lib.hid A
      obtain ⟨xk, xm, xp, xn, xl, xa, xc⟩ := x
      unfold cdV at KA KD
      simp only at KA KD r0 r1 r2 r3 r4
      generalize doesE C y = E at KD
      clear hC hx hy hOK A hC'
      go_wp2_with fail
      refine KA.out.mono ?_
      rintro e w2 ⟨rfl, b2'⟩
      have KD2 := Lib.hid (KD.out w2 b2')
      clear KA KD r0 r1 r2 r3 r4
      go_wp2_with fail
      refine KD2.out.mono ?_
      rintro e w3 ⟨rfl, S3, A3, M3⟩
      have M23 := (Mvs.below S b2').trans M3
      have q3 := Lib.hid (q.out.mvs M23)
      have hZ3 := Lib.hid (fun x hx => M23.low2 hZ.out hb.size x hx)
      have B3 := hb.trans (M23.low hZ.out hb.size)
      clear KD2 M3 M23 b2' hb2
      have A3' := Lib.hid A3
      have B3' := Lib.hid B3
      clear A3 B3
      go_wp2_with fail
      go_roundw
      case rel => exact ⟨k + 1, S3, by omega, by go_num, by rw [HC'.out]; exact A3'.out, q3, hZ3, B3'.out⟩
      case measure => simp [intOf]; omega
    · obtain rfl : k = N := by omega
      have hOK := (HOK.out k).more (show k ≤ 100 by omega)
      obtain ⟨Cf, hC⟩ : ∃ C, runC C0 L k = C := ⟨_, rfl⟩
      rw [hC] at A hOK
      have HOf := Lib.hid hOK
      obtain ⟨M, hM⟩ : ∃ M, Cf.M = M := ⟨_, rfl⟩
      obtain ⟨m, hm⟩ : ∃ m, M.length = m := ⟨_, rfl⟩
      obtain ⟨gx, hgx⟩ : ∃ gx, Cf.g = gx := ⟨_, rfl⟩
      have hm8 : m ≤ 8 := by rw [← hm, ← hM]; exact hOK.b.ml
      have KM := Lib.hid (cmembers_ca 100 Cf g S wr hOK A)
      have KG := Lib.hid (fun w' h => cgen_ca Cf g S w' h)
      unfold RowQ at KM
      rw [hM, hm] at KM
      rw [hgx] at KG
      have HM := Lib.hid hM
      have Hm := Lib.hid hm
      have HG := Lib.hid hgx
      clear hC HOK HDL hOK hM hm hgx q
      go_wp2_with fail
      refine KM.out.mono ?_
      rintro e w2 ⟨a2, c2, rfl, p2, h2⟩
      have A2 := A.keep h2
      have B2 := hb.trans (h2.mono hb.size)
      have KG2 := Lib.hid (KG.out w2 A2)
      clear KM KG A hb h2
      go_wp2_with fail
      refine KG2.out.mono ?_
      rintro e w3 ⟨rfl, hw3⟩
      subst hw3
      have P2 := Lib.hid p2
      have HR0 := Lib.hid (show RestI Cf (ordM M back) 0 from fun q hq => .inr (fun i' hi' => by omega))
      have HK0 := Lib.hid (show RestK Cf Cf from ⟨HOf.out, rfl, rfl, rfl⟩)
      clear KG2 p2
      go_wp2_with fail
      go_loopw [11] (fun I wr => ∃ (i : Nat) (C : Co) (S : Nat → Prop), i ≤ m ∧ I = .int .i64 i ∧ CA wr g C S ∧ Hid (RestK C Cf) ∧ Hid (RestI C (ordM M back) i) ∧ Hid (Apt wr S a2 (i64s M)) ∧ Hid (∀ x, S x → w.heap.size ≤ x) ∧ Below w.heap.size w wr) (fun I _ => m - (intOf I).toNat)
      case atStart => exact ⟨0, Cf, S, by omega, rfl, A2, HK0, HR0, P2, hZ, B2⟩
      case round =>
        obtain ⟨i, C, S, hi, rfl, A, HK, HR, qM, hZ, hb⟩ := hrel
        by_cases hli : i < m
        · have hli2 : (i : Int) < (m : Int) := by omega
          have hi0 : 0 ≤ (i : Int) := by omega
          cases back with
          | false =>
            have HKK := Lib.hid (show ordM M false i = M.getD i 0 from by unfold ordM; rw [if_neg (by decide)])
            have hkm : i < m := by omega
            go_upto_region 17 with fail
            obtain ⟨bm, om, rfl, hbm, hcm⟩ := qM.out.1.ints (by rw [Hm.out]; omega)
            have r0 := hcm i (by rw [Hm.out]; exact hkm)
            obtain ⟨x, hx⟩ : ∃ x, M.getD i 0 = x := ⟨_, rfl⟩
            rw [hx] at r0 HKK
            have hcx : C.M.contains x = true := by rw [HK.out.2.1, HM.out, List.contains_iff_mem, ← hx]; exact getD_mem0 (by rw [Hm.out]; exact hkm)
            have HCX := Lib.hid hcx
            have KR := Lib.hid (revoke_ca 100 x C g S wr HK.out.1 A)
            unfold RevQ at KR
            have hRL : revL C x = revTo C x C.H.length := by unfold revL; rw [if_pos hcx]
            have hRE : revE C x = 0 := by unfold revE; rw [if_pos hcx]
            rw [hRL, hRE] at KR
            have HDS := Lib.hid (fun j hj => done_step (C := C) (x := x) (j := j) hcx hj)
            have HDO := Lib.hid (fun j hj => dC_ok (C := C) (K := 100) (x := x) HK.out.1 hcx j hj)
            have HRS := Lib.hid (rest_step HR.out)
            rw [HKK.out] at HRS
            obtain ⟨R, hR⟩ : ∃ R, revTo C x C.H.length = R := ⟨_, rfl⟩
            rw [hR] at KR HDS HDO HRS
            obtain ⟨D, hD⟩ : ∃ D, R.length = D := ⟨_, rfl⟩
            have hD16 : D ≤ 16 := by
              rw [← hD, ← hR]
              have h1 := revTo_len C x C.H.length
              have h2 := HK.out.1.b.h1
              omega
            rw [hD] at KR HRS
            have HD := Lib.hid hD
            have HX := Lib.hid hx
            clear hcm hx hcx hRL hRE hR hD
            go_wp2_with fail
            refine KR.out.mono ?_
            rintro e w5 ⟨a5, c5, rfl, p5, h5⟩
            have A5 := A.keep h5
            have q5 := Lib.hid (qM.out.keep h5)
            have P5 := Lib.hid p5
            have B5 := hb.trans (h5.mono hb.size)
            clear KR A qM p5 hb h5 r0 hbm
            go_wp2_with fail
            go_loopw [15] (fun I wr => ∃ (j : Nat) (S : Nat → Prop), j ≤ D ∧ I = .int .i64 j ∧ CA wr g (dC C R j) S ∧ Hid (Apt wr S (some ⟨bm, om, none⟩) (i64s M)) ∧ Hid (Apt wr S a5 (i64s R)) ∧ Hid (∀ x, S x → w.heap.size ≤ x) ∧ Below w.heap.size w wr) (fun I _ => D - (intOf I).toNat)
            case atStart => exact ⟨0, S, by omega, rfl, A5, q5, P5, hZ, B5⟩
            case round =>
              obtain ⟨j, Sj, hj, rfl, Aj, qj, pj, hZj, hbj⟩ := hrel
              by_cases hlj : j < D
              · have hlj2 : (j : Int) < (D : Int) := by omega
                have hj0 : 0 ≤ (j : Int) := by omega
                obtain ⟨bm', om', e', hbm', hcm⟩ := qj.out.1.ints (by rw [Hm.out]; omega)
                injection e' with e'
                injection e' with e1 e2 _
                subst e1 e2
                have r0 := hcm i (by rw [Hm.out]; exact hkm)
                obtain ⟨br, orr, rfl, hbr, hcr⟩ := pj.out.1.ints (by rw [HD.out]; omega)
                have r1 := hcr j (by rw [HD.out]; exact hlj)
                have hds := HDS.out j (by rw [HD.out]; exact hlj)
                have hdo := HDO.out j (by rw [HD.out]; omega)
                obtain ⟨p, hp⟩ : ∃ p, R.getD j 0 = p := ⟨_, rfl⟩
                rw [HX.out] at r0
                rw [hp] at r1 hds
                have KD := Lib.hid (done_ca 100 x p (dC C R j) g Sj wr.drew hdo (Aj.keep (below_drewN _ wr 1)))
                unfold CQ at KD
                rw [hds.1, hds.2] at KD
                have Qj := Lib.hid (qj.out.keep (below_drewN _ wr 1))
                have Pj := Lib.hid (pj.out.keep (below_drewN _ wr 1))
                have Bj := Lib.hid (hbj.trans (below_drewN _ wr 1))
                clear hcm hcr hds hdo hp Aj qj pj hbj
                go_wp2_with fail
                go_region_with (go_at_call 25; refine KD.out.mono ?_; rintro e w6 ⟨rfl, S6, A6, M6⟩)
                all_goals
                  have hfin1 := Lib.hid (Qj.out.mvs M6)
                  have hfin2 := Lib.hid (Pj.out.mvs M6)
                  have hfin3 := Lib.hid (fun x hx => M6.low2 hZj.out Bj.out.size x hx)
                  have hfin4 := Bj.out.trans (M6.low hZj.out Bj.out.size)
                  clear M6 KD r0 r1
                  go_wp2_with fail
                  go_roundw
                  case rel => exact ⟨j + 1, S6, by omega, by go_num, A6, hfin1, hfin2, hfin3, hfin4⟩
                  case measure => simp [intOf]; omega
              · obtain rfl : j = D := by omega
                have hfinK := Lib.hid (show RestK (dC C R j) Cf from ⟨HDO.out j (by rw [HD.out]; exact Nat.le_refl _), HK.out.2.1, HK.out.2.2.1, HK.out.2.2.2⟩)
                go_wp2_with fail
                go_roundw
                case rel => exact ⟨i + 1, dC C R j, Sj, by omega, by go_num, Aj, hfinK, HRS, qj, hZj, hbj⟩
                case measure => simp [intOf]; omega
          | true =>
            have HKK := Lib.hid (show ordM M true i = M.getD (m - 1 - i) 0 from by unfold ordM; rw [if_pos rfl, Hm.out])
            obtain ⟨kk, hkk⟩ : ∃ kk, m - 1 - i = kk := ⟨_, rfl⟩
            have hkm : kk < m := by omega
            have hkm2 : (kk : Int) < (m : Int) := by omega
            have hkm0 : 0 ≤ (kk : Int) := by omega
            rw [hkk] at HKK
            obtain ⟨hw1, hw2⟩ : IntKind.i64.wrap ((m : Int) - 1) = (m : Int) - 1 ∧ IntKind.i64.wrap ((m : Int) - 1 - (i : Int)) = (kk : Int) := ⟨IntWalk.i64_in _ (by omega), by rw [IntWalk.i64_in _ (by omega)]; omega⟩
            go_upto_region 17 with fail
            clear hw1 hw2
            obtain ⟨bm, om, rfl, hbm, hcm⟩ := qM.out.1.ints (by rw [Hm.out]; omega)
            have r0 := hcm kk (by rw [Hm.out]; exact hkm)
            obtain ⟨x, hx⟩ : ∃ x, M.getD kk 0 = x := ⟨_, rfl⟩
            rw [hx] at r0 HKK
            have hcx : C.M.contains x = true := by rw [HK.out.2.1, HM.out, List.contains_iff_mem, ← hx]; exact getD_mem0 (by rw [Hm.out]; exact hkm)
            have HCX := Lib.hid hcx
            have KR := Lib.hid (revoke_ca 100 x C g S wr HK.out.1 A)
            unfold RevQ at KR
            have hRL : revL C x = revTo C x C.H.length := by unfold revL; rw [if_pos hcx]
            have hRE : revE C x = 0 := by unfold revE; rw [if_pos hcx]
            rw [hRL, hRE] at KR
            have HDS := Lib.hid (fun j hj => done_step (C := C) (x := x) (j := j) hcx hj)
            have HDO := Lib.hid (fun j hj => dC_ok (C := C) (K := 100) (x := x) HK.out.1 hcx j hj)
            have HRS := Lib.hid (rest_step HR.out)
            rw [HKK.out] at HRS
            obtain ⟨R, hR⟩ : ∃ R, revTo C x C.H.length = R := ⟨_, rfl⟩
            rw [hR] at KR HDS HDO HRS
            obtain ⟨D, hD⟩ : ∃ D, R.length = D := ⟨_, rfl⟩
            have hD16 : D ≤ 16 := by
              rw [← hD, ← hR]
              have h1 := revTo_len C x C.H.length
              have h2 := HK.out.1.b.h1
              omega
            rw [hD] at KR HRS
            have HD := Lib.hid hD
            have HX := Lib.hid hx
            clear hcm hx hcx hRL hRE hR hD
            go_wp2_with fail
            refine KR.out.mono ?_
            rintro e w5 ⟨a5, c5, rfl, p5, h5⟩
            have A5 := A.keep h5
            have q5 := Lib.hid (qM.out.keep h5)
            have P5 := Lib.hid p5
            have B5 := hb.trans (h5.mono hb.size)
            clear KR A qM p5 hb h5 r0 hbm
            go_wp2_with fail
            go_loopw [15] (fun I wr => ∃ (j : Nat) (S : Nat → Prop), j ≤ D ∧ I = .int .i64 j ∧ CA wr g (dC C R j) S ∧ Hid (Apt wr S (some ⟨bm, om, none⟩) (i64s M)) ∧ Hid (Apt wr S a5 (i64s R)) ∧ Hid (∀ x, S x → w.heap.size ≤ x) ∧ Below w.heap.size w wr) (fun I _ => D - (intOf I).toNat)
            case atStart => exact ⟨0, S, by omega, rfl, A5, q5, P5, hZ, B5⟩
            case round =>
              obtain ⟨j, Sj, hj, rfl, Aj, qj, pj, hZj, hbj⟩ := hrel
              by_cases hlj : j < D
              · have hlj2 : (j : Int) < (D : Int) := by omega
                have hj0 : 0 ≤ (j : Int) := by omega
                obtain ⟨bm', om', e', hbm', hcm⟩ := qj.out.1.ints (by rw [Hm.out]; omega)
                injection e' with e'
                injection e' with e1 e2 _
                subst e1 e2
                have r0 := hcm kk (by rw [Hm.out]; exact hkm)
                obtain ⟨br, orr, rfl, hbr, hcr⟩ := pj.out.1.ints (by rw [HD.out]; omega)
                have r1 := hcr j (by rw [HD.out]; exact hlj)
                have hds := HDS.out j (by rw [HD.out]; exact hlj)
                have hdo := HDO.out j (by rw [HD.out]; omega)
                obtain ⟨p, hp⟩ : ∃ p, R.getD j 0 = p := ⟨_, rfl⟩
                rw [HX.out] at r0
                rw [hp] at r1 hds
                have KD := Lib.hid (done_ca 100 x p (dC C R j) g Sj wr.drew hdo (Aj.keep (below_drewN _ wr 1)))
                unfold CQ at KD
                rw [hds.1, hds.2] at KD
                have Qj := Lib.hid (qj.out.keep (below_drewN _ wr 1))
                have Pj := Lib.hid (pj.out.keep (below_drewN _ wr 1))
                have Bj := Lib.hid (hbj.trans (below_drewN _ wr 1))
                clear hcm hcr hds hdo hp Aj qj pj hbj
                go_wp2_with fail
                go_region_with (go_at_call 25; refine KD.out.mono ?_; rintro e w6 ⟨rfl, S6, A6, M6⟩)
                all_goals
                  have hfin1 := Lib.hid (Qj.out.mvs M6)
                  have hfin2 := Lib.hid (Pj.out.mvs M6)
                  have hfin3 := Lib.hid (fun x hx => M6.low2 hZj.out Bj.out.size x hx)
                  have hfin4 := Bj.out.trans (M6.low hZj.out Bj.out.size)
                  clear M6 KD r0 r1
                  go_wp2_with fail
                  go_roundw
                  case rel => exact ⟨j + 1, S6, by omega, by go_num, A6, hfin1, hfin2, hfin3, hfin4⟩
                  case measure => simp [intOf]; omega
              · obtain rfl : j = D := by omega
                have hfinK := Lib.hid (show RestK (dC C R j) Cf from ⟨HDO.out j (by rw [HD.out]; exact Nat.le_refl _), HK.out.2.1, HK.out.2.2.1, HK.out.2.2.2⟩)
                go_wp2_with fail
                go_roundw
                case rel => exact ⟨i + 1, dC C R j, Sj, by omega, by go_num, Aj, hfinK, HRS, qj, hZj, hbj⟩
                case measure => simp [intOf]; omega
        · obtain rfl : i = m := by omega
          have hHW : C.H = C.W := rest_end (back := back) HK.out.1 (by rw [HK.out.2.1, HM.out, Hm.out]; exact HR.out)
          have KT := Lib.hid (crests_ca 100 C g S wr HK.out.1 A)
          rw [decide_eq_true hHW] at KT
          have KG := Lib.hid (fun w' h => cgen_ca C g S w' h)
          rw [HK.out.2.2.2, HG.out] at KG
          have KH := Lib.hid (fun w' h => chave_ca 100 C g S w' HK.out.1 h)
          have KW := Lib.hid (fun w' h => cwant_ca 100 C g S w' HK.out.1 h)
          rw [← hHW] at KW
          unfold RowQ at KH KW
          obtain ⟨P, hP⟩ : ∃ P, C.H.length = P := ⟨_, rfl⟩
          have hP16 : P ≤ 16 := by rw [← hP]; exact HK.out.1.b.h1
          have KS := Lib.hid (fun a b c d w ha hb => same_all C.H a b c d w (by rw [hP]; omega) ha hb)
          rw [hP] at KH KW KS
          have HP := Lib.hid hP
          have HHW := Lib.hid hHW
          have hgg : (gx != gx) = false := by simp
          clear hP hHW
          go_wp2_with fail
          refine KT.out.mono ?_
          rintro e w4 ⟨rfl, h4⟩
          have A4 := A.keep h4
          have KG2 := Lib.hid (KG.out w4 A4)
          clear KT KG A
          go_wp2_with fail
          refine KG2.out.mono ?_
          rintro e w5 ⟨rfl, hw5⟩
          subst hw5
          have KH2 := Lib.hid (KH.out w5 A4)
          clear KG2
          go_wp2_with fail
          refine KH2.out.mono ?_
          rintro e w6 ⟨a6, c6, rfl, p6, h6⟩
          have A6 := A4.keep h6
          have KW2 := Lib.hid (KW.out w6 A6)
          clear KH2 A4
          go_wp2_with fail
          refine KW2.out.mono ?_
          rintro e w7 ⟨a7, c7, rfl, p7, h7⟩
          have A7 := A6.keep h7
          have KS2 := Lib.hid (KS.out a6 a7 c6 c7 w7 (p6.keep h7).1 p7.1)
          clear KW2 A6 p6 p7
          go_wp2_with fail
          refine KS2.out.mono ?_
          rintro e w8 ⟨rfl, h8⟩
          have A8 := A7.keep h8
          have KH3 := Lib.hid (KH.out w8 A8)
          have h48 := gtrans (gtrans (gtrans h4 h6) h7) h8
          have q8 := qM.out.keep h48
          have B8 := hb.trans (h48.mono hb.size)
          clear KS2 A7 h4 h6 h7 h8 h48 hgg KH KW KS qM hb
          go_wp2_with fail
          refine KH3.out.mono ?_
          rintro e w9 ⟨a9, c9, rfl, p9, h9⟩
          have A9 := Lib.hid (A8.keep h9)
          have q9 := Lib.hid (q8.keep h9)
          have P9 := Lib.hid p9
          have B9 := Lib.hid (B8.trans (h9.mono B8.size))
          clear KH3 A8 q8 p9 B8 h9
          have h9z := B9.out.size
          go_wp2_with fail
          go_loopw [17] (fun I wr => ∃ j : Nat, j ≤ i ∧ I = .int .i64 j ∧ Below w9.heap.size w9 wr) (fun I _ => i - (intOf I).toNat)
          case atStart => exact ⟨0, by omega, rfl, Below.refl _ _⟩
          case round =>
            obtain ⟨j, hj, rfl, hbj⟩ := hrel
            by_cases hlj : j < i
            · have hlj2 : (j : Int) < (i : Int) := by omega
              have hj0 : 0 ≤ (j : Int) := by omega
              have hi0 : ((i : Int) == 0) = false := beq_eq_false_iff_ne.2 (by omega)
              have hi00 : (i : Int) ≠ 0 := by omega
              obtain ⟨bm, om, rfl, hbm, hcm⟩ := (q9.out.keep hbj).1.ints (by rw [Hm.out]; omega)
              have r0 := hcm j (by rw [Hm.out]; exact hlj)
              have hmem : M.getD j 0 ∈ C.M := by rw [HK.out.2.1, HM.out]; exact getD_mem0 (by rw [Hm.out]; exact hlj)
              have hsh := share2 HK.out.1 hmem
              rw [← HHW.out, HP.out, HK.out.2.1, HM.out, Hm.out] at hsh
              have hrev := rev_rest (x := M.getD j 0) HHW.out
              obtain ⟨x, hx⟩ : ∃ x, M.getD j 0 = x := ⟨_, rfl⟩
              rw [hx] at r0 hsh hrev
              have KC := Lib.hid (rcount_walk C.H P x a9 c9 wr.heap.size wr HP.out (by omega) (P9.out.keep hbj).1 (Nat.le_refl _))
              have KR := Lib.hid (revoke_ca 100 x C g S wr HK.out.1 (A9.out.keep hbj))
              unfold RevQ at KR
              rw [hrev] at KR
              simp only [List.length_nil] at KR
              generalize revE C x = ER at KR
              obtain ⟨cx, hcx⟩ : ∃ cx, cnt C.H x = cx := ⟨_, rfl⟩
              rw [hcx] at hsh KC
              obtain ⟨Q, hQ⟩ : ∃ Q, P / i = Q := ⟨_, rfl⟩
              rw [hQ] at hsh
              have hQP : Q ≤ 16 := by have := Nat.div_le_self P i; omega
              have Hqd := Lib.hid (show wrap64 ((P : Int) / (i : Int)) = (Q : Int) by rw [← Int.natCast_ediv, hQ, IntWalk.wrap64_in _ (by omega)])
              have Hqs := Lib.hid (show wrap64 ((Q : Int) + 1) = ((Q + 1 : Nat) : Int) by rw [IntWalk.wrap64_in _ (by omega)]; omega)
              clear hcm hmem hx hrev hcx hQ
              rcases (show cx = Q ∨ (cx ≠ Q ∧ cx = Q + 1) by omega) with hcq | ⟨hcq, hcq2⟩
              · have hg : ((cx : Int) != wrap64 ((P : Int) / (i : Int))) = false := by rw [Hqd.out, hcq]; simp
                clear hcq hsh
                go_wp2_with fail
                refine KC.out.mono ?_
                rintro e w10 ⟨rfl, hw10⟩
                subst hw10
                clear KC
                go_wp2_with fail
                refine KR.out.mono ?_
                rintro e w11 ⟨a11, c11, rfl, _, h11⟩
                have b11 := gtrans hbj h11
                go_wp2_with fail
                go_roundw
                case rel => exact ⟨j + 1, by omega, by go_num, b11⟩
                case measure => simp [intOf]; omega
              · have hg : ((cx : Int) != wrap64 ((P : Int) / (i : Int))) = true := by rw [Hqd.out]; simp; omega
                have hg2 : ((cx : Int) != wrap64 (wrap64 ((P : Int) / (i : Int)) + 1)) = false := by rw [Hqd.out, Hqs.out, hcq2]; simp
                clear hcq hcq2 hsh
                go_wp2_with fail
                refine KC.out.mono ?_
                rintro e w10 ⟨rfl, hw10⟩
                subst hw10
                clear KC
                go_wp2_with fail
                refine KR.out.mono ?_
                rintro e w11 ⟨a11, c11, rfl, _, h11⟩
                have b11 := gtrans hbj h11
                go_wp2_with fail
                go_roundw
                case rel => exact ⟨j + 1, by omega, by go_num, b11⟩
                case measure => simp [intOf]; omega
            · obtain rfl : j = i := by omega
              go_wp2_with fail
              refine (K7.out _).mono ?_
              rintro e w12 ⟨rfl, h12⟩
              have hfin := (B9.out.trans (hbj.mono h9z)).trans (h12.mono (Nat.le_trans h9z hbj.size))
              go_wp2_with fail
              go_ret
              exact ⟨rfl, hfin⟩
end Go.Proofs.Ytafibgekikjlhaa

/- The walk of headgatelaw30.HeavyPlays: an empty row of no room. -/
import Derived.Test.YthghnpopcnnidaaHrBoth
namespace Go.Proofs.Ythghnpopcnnidaa
open Go.RowKit Vm
set_option linter.unusedVariables false
set_option linter.unusedSimpArgs false


set_option maxRecDepth 100000 in
set_option maxHeartbeats 16000000 in
theorem plays_low (m : Nat) (key n : Int) (x : Addr) (w : World) (h0 : 1 ≤ m) (h1 : m ≤ 64) (hn : n ≤ 9223372036854775807)  :
    Calls Try.prog 3 #[.int .i64 m, .slice (some x) 0 0, .int .i64 key, .int .i64 n] w fun e w' => e = .returned (.bool true) ∧ Below w.heap.size w w' := by
  have KSo := some30_walk (some x) 0 0 w (by decide) (Nat.zero_le _)
  rw [show min 0 400 = 0 from rfl] at KSo
  have KSo := Lib.hid KSo
  obtain ⟨l1, hl1e⟩ : ∃ l1 : List Int, [] = l1 := ⟨_, rfl⟩
  obtain ⟨l2, hl2e⟩ : ∃ l2 : List Int, [] = l2 := ⟨_, rfl⟩
  have hl1 : l1.length = 0 := by rw [← hl1e]; rfl
  have hl2 : l2.length = 0 := by rw [← hl2e]; rfl
  have O1 : ∀ al, Old w al l1 := fun al => .inl hl1e.symm
  have O2 : ∀ al, Old w al l2 := fun al => .inl hl2e.symm
  clear hl1e hl2e
  have K7 := Lib.hid (fun w => awake30_walk w)
  have KN := newH_walk m w h0 h1
  unfold NewHQ at KN
  have KR := Lib.hid (fun w => rnew_good m w h0 h1)
  have JN := Lib.hid (fun wa w1 g S A hZ b0 b1 => jb_new m w wa w1 g S A hZ b0 b1)
  have HK0 := newH_ok h0 h1
  obtain ⟨H0, hH0⟩ : ∃ H0, newH m = H0 := ⟨_, rfl⟩
  rw [hH0] at KN JN HK0
  have KN := Lib.hid KN
  have HK1 := addTo_ok (l := l1) HK0 0
  have A1 := Lib.hid (fun al cl R g r w' (h : JB w w' g r H0 R) => jb_add 0 l1 0 al cl H0 R g r w w' hl1 (by omega) HK0 (O1 al) h)
  have B1 := Lib.hid (fun al cl H g r w' (h : JB w w' g r H H0) => jb_radd 0 l1 0 al cl H H0 g r w w' hl1 (by omega) HK0 (O1 al) h)
  obtain ⟨H1, hH1⟩ : ∃ H1, addTo H0 l1 0 = H1 := ⟨_, rfl⟩
  rw [hH1] at A1 B1 HK1
  have HK2 := addTo_ok (l := l2) HK1 0
  have A2 := Lib.hid (fun al cl R g r w' (h : JB w w' g r H1 R) => jb_add (0 + 0) l2 0 al cl H1 R g r w w' hl2 (by omega) HK1 (O2 al) h)
  have B2 := Lib.hid (fun al cl H g r w' (h : JB w w' g r H H1) => jb_radd (0 + 0) l2 0 al cl H H1 g r w w' hl2 (by omega) HK1 (O2 al) h)
  obtain ⟨H2, hH2⟩ : ∃ H2, addTo H1 l2 0 = H2 := ⟨_, rfl⟩
  rw [hH2] at A2 B2 HK2
  have HKK := HK2.more (show 0 + 0 + 0 ≤ 400 by omega)
  have hlD : H2.L.length ≤ 64 := by have := HKK.len; have := HKK.m1; omega
  have C1 := Lib.hid (fun g r w' (h : JB w w' g r H2 H2) => jb_cnt 400 key H2 H2 g r w w' (by omega) HKK h)
  have C2 := Lib.hid (fun g r w' (h : JB w w' g r H2 H2) => jb_rcnt 400 key H2 H2 g r w w' (by omega) HKK h)
  have S1 := Lib.hid (fun g r w' (h : JB w w' g r H2 H2) => jb_seen H2 H2 g r w w' h)
  have CL := Lib.hid (fun g r w' (h : JB w w' g r H2 H2) => h.cell)
  obtain ⟨D, hD⟩ : ∃ D, H2.L.length = D := ⟨_, rfl⟩
  obtain ⟨qf, hqf⟩ : ∃ qf : Int → Nat, ∀ n, qf n = min n.toNat D := ⟨_, fun _ => rfl⟩
  have T1 := Lib.hid (fun n (hn : n ≤ 9223372036854775807) g r w' (h : JB w w' g r H2 H2) => jb_top n 400 H2 H2 g r (qf n) w w' hn (by rw [hD, hqf]) HKK h)
  have U1 := Lib.hid (fun n g r w' (h : JB w w' g r H2 H2) => jb_rtop n 400 H2 H2 g r (qf n) w w' (by rw [hD, hqf]) HKK h)
  have hTl : (topL H2.L).length = D := by rw [topL_len, hD]
  have SM := Lib.hid (fun n a b c d w' ha hb => same_ta ((topL H2.L).take (qf n)) (qf n) a b c d w'.heap.size w' (by rw [List.length_take, hTl, hqf]; omega) (by rw [hqf]; omega) ha hb (Nat.le_refl _))
  unfold RtQ at T1 U1
  have hn64 : (64 : Int) ≤ 9223372036854775807 := by decide
  obtain ⟨lo, hlo⟩ : ∃ lo, loH H2.L key = lo := ⟨_, rfl⟩
  obtain ⟨hh, hhi⟩ : ∃ hh, hiH H2.m H2.L key = hh := ⟨_, rfl⟩
  obtain ⟨sv, hsv⟩ : ∃ sv, (H2.s : Int) = sv := ⟨_, rfl⟩
  rw [hlo, hhi] at C1 C2
  rw [hsv] at S1 CL
  generalize topL H2.L = T at *
  have e1 : (lo == lo) = true := by simp
  have e2 : (hh == hh) = true := by simp
  have e3 : (sv == sv) = true := by simp
  have E123 := Lib.hid (And.intro e1 (And.intro e2 e3))
  clear hlo hhi hsv hTl hD hqf HKK HK0 HK1 HK2 hH0 hH1 hH2 O1 O2 hl1 hl2 hlD e1 e2 e3
  go_enter Try.func3, Try.ntmps3
  go_wp2_with fail
  refine KSo.out.mono ?_
  rintro e w' ⟨rfl, hww⟩
  subst hww
  clear KSo
  go_wp2_with fail
  refine KN.out.mono ?_
  rintro e w0 ⟨g, S, rfl, A0, hZ, b0⟩
  clear KN
  go_wp2_with fail
  refine (KR.out _).mono ?_
  rintro e w1 ⟨rfl, b1⟩
  have J0 := JN.out w0 w1 g S A0 hZ.out b0 b1
  clear KR JN A0 hZ b0 b1
  go_upto_region 4 with fail
  obtain ⟨w2, hw2⟩ : ∃ w2, w2 = w1.alloc (.cells #[.int .i64 (m : Int), .int .i64 0, .slice none 0 0] 30) := ⟨_, rfl⟩
  rw [← hw2] at J0 ⊢
  clear hw2
  generalize w1.heap.size = r at *
  have J1 : JB w w2.drew g r H0 H0 := J0.keep (below_drewN _ w2 1)
  clear J0
  go_wp2_with fail
  have jE := J1
  clear J1
  go_region_held3 (fun _ => True) (trivial) (first
    | (go_at_call 13; first | (have jq : JB w _ g r H0 _ := (by with_reducible exact jE); refine (A1.out _ _ _ _ _ _ jq).mono ?_; clear jq jE; rintro e w5 ⟨rfl, jE⟩) | (have jq : JB w _ g r H1 _ := (by with_reducible exact jE); refine (A2.out _ _ _ _ _ _ jq).mono ?_; clear jq jE; rintro e w5 ⟨rfl, jE⟩))
    | (go_at_call 14; first | (have jq : JB w _ g r _ H0 := (by with_reducible exact jE); refine (B1.out _ _ _ _ _ _ jq).mono ?_; clear jq jE; rintro e w5 ⟨rfl, jE⟩) | (have jq : JB w _ g r _ H1 := (by with_reducible exact jE); refine (B2.out _ _ _ _ _ _ jq).mono ?_; clear jq jE; rintro e w5 ⟨rfl, jE⟩)))
  all_goals
    have JE := Lib.hid (show JB w _ g r H2 H2 from jE)
    clear jE A1 A2 B1 B2
    go_wp2_with fail
    refine (C1.out _ _ _ JE.out).mono ?_
    rintro e w7 ⟨rfl, b7⟩
    have j7 := JE.out.keep b7
    clear b7 C1
    go_wp2_with fail
    refine (C2.out _ _ _ j7).mono ?_
    rintro e w8 ⟨rfl, b8⟩
    have j8 := j7.keep b8
    clear b8 j7 JE C2
    have j9 : JB w w8.drew g r H2 H2 := j8.keep (below_drewN _ w8 1)
    clear j8
    have y9 := CL.out _ _ _ j9
    obtain ⟨e1, e2, e3⟩ := E123.out
    go_wp2_with fail
    have jz := j9
    have yz := y9
    clear j9
    go_region_held3 (fun w' => w'.cell? ⟨r, 1, none⟩ = some (.int .i64 sv)) (with_reducible assumption)
      (first
      | (go_at_call 17; refine (S1.out _ _ _ jz).mono ?_; rintro e w5 ⟨rfl, hw⟩; subst hw)
      | (go_at_call 19; refine (T1.out _ (by assumption) _ _ _ jz).mono ?_; rintro e w5 ⟨aA, cA, rfl, sA, b5⟩; have jz := JB.keep jz b5; have yz := keepC yz b5; (try have sB := slK sB b5))
      | (go_at_call 20; refine (U1.out _ _ _ _ jz).mono ?_; rintro e w6 ⟨aB, cB, rfl, sB, b6⟩; have jz := JB.keep jz b6; have yz := keepC yz b6; (try have sA := slK sA b6))
      | (go_at_call 18; refine (SM.out _ _ _ _ _ _ sA sB).mono ?_; clear sA sB; rintro e w10 ⟨rfl, b10⟩; have jz := JB.keep jz b10; have yz := keepC yz b10)
      | (go_at_call 12; refine (K7.out _).mono ?_; rintro e w12 ⟨rfl, b12⟩; have jz := JB.keep jz b12; have yz := keepC yz b12))
    all_goals
      have hfin := JB.low jz
      go_wp2_with fail
      go_ret
      exact ⟨rfl, hfin⟩
end Go.Proofs.Ythghnpopcnnidaa

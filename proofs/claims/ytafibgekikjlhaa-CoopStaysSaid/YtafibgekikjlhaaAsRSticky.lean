/- The walk of headgateref09.Sticky. -/
import Derived.Test.YtafibgekikjlhaaAsCount
namespace Go.Proofs.Ytafibgekikjlhaa
open Go.RowKit Vm As
set_option linter.unusedVariables false
set_option linter.unusedSimpArgs false

theorem set_nn {l : List Int} {i : Nat} {x : Int} (h : ∀ p, 0 ≤ l.getD p 0) (hx : 0 ≤ x) : ∀ p, 0 ≤ (l.set i x).getD p 0 := fun p => by
  have hp := h p
  by_cases e : i = p
  · subst e
    by_cases hl : i < l.length
    · simp [List.getD, hl]; exact hx
    · rw [List.set_eq_of_length_le (by omega)]; exact hp
  · rw [show (l.set i x).getD p 0 = l.getD p 0 from by simp [List.getD, List.getElem?_set, e]]; exact hp
theorem keepTo_nn (parts : Nat) (m old : List Int) (hm : ∀ x ∈ m, 0 < x) : ∀ i p, 0 ≤ (keepTo parts m old i).getD p 0 := by
  intro i
  induction i with
  | zero => intro p; rw [keepTo_zero parts m old 0 p (Nat.zero_le _)]; omega
  | succ i ih =>
    rw [keepTo]
    unfold step1
    split
    · next h => exact set_nn ih (by have := hm _ h.1; omega)
    · exact ih
theorem fillTo_nn (m l : List Int) (hm : ∀ x ∈ m, 0 < x) (h0 : 0 < m.length) (hl : ∀ p, 0 ≤ l.getD p 0) : ∀ i p, 0 ≤ (fillTo m l i).getD p 0 := by
  intro i
  induction i with
  | zero => exact hl
  | succ i ih =>
    rw [fillTo]
    unfold step2
    split
    · exact set_nn ih (by have := hm _ (poorTo_mem (R := fillTo m l i) h0 _ (Nat.le_refl _)); omega)
    · exact ih
set_option maxRecDepth 100000 in
theorem rsticky_bad (x : Int) (a a3 : Option Addr) (N c N3 c3 : Nat) (w : World) (hd : okP x = false) : Calls Try.prog 59 #[.int .i64 x, .slice a N c, .slice a3 N3 c3] w (ArgPost w) := by
  by_cases h1 : x < 1
  · have hg : decide (x < 1) = true := decide_eq_true h1
    clear hd
    go_enter Try.func59, Try.ntmps59
    go_wp2_with fail
    go_ret2
    exact ⟨rfl, Below.refl _ _⟩
  · have hg : decide (x < 1) = false := decide_eq_false h1
    have h2 : 64 < x := by unfold okP at hd; simp at hd; omega
    clear hd h1
    go_enter Try.func59, Try.ntmps59
    go_wp2_with fail
    go_ret2
    exact ⟨rfl, Below.refl _ _⟩
set_option maxRecDepth 100000 in
set_option maxHeartbeats 16000000 in
theorem rsticky_walk (M : Nat) (l old : List Int) (N N3 : Nat) (a a3 : Option Addr) (c c3 : Nat) (w : World) (hM1 : 1 ≤ M) (hM2 : M ≤ 64) (hN : l.length = N) (hNm : N ≤ 1000) (hN3 : old.length = N3) (hN3m : N3 ≤ 1000) (h : Sl w w.heap.size a (i64s l)) (h3 : Sl w w.heap.size a3 (i64s old)) :
    Calls Try.prog 59 #[.int .i64 (M : Int), .slice a N c, .slice a3 N3 c3] w fun e w' => ∃ m a' c', MemIs l m ∧ e = .returned (.tuple #[.slice a' M c', .int .i64 0]) ∧ w'.ownsRow w.heap.size 3 1 (.slice a' M c') M (i64s (stickyL M m old)) ∧ Below w.heap.size w w' := by
  obtain ⟨i7, hi7, hz70, hz71, hz72⟩ := info_parts info_i64
  have hg1 : decide ((M : Int) < 1) = false := decide_eq_false (by omega)
  have hg2 : ¬ (64 : Int) < (M : Int) := by omega
  have KM := Lib.hid (rmembers_walk l N a c w hN hNm h)
  unfold MemPost at KM
  have HN := Lib.hid hN
  have HN3 := Lib.hid hN3
  have HS3 := Lib.hid h3
  clear hN h hN3 h3
  go_enter Try.func59, Try.ntmps59
  go_upto_region 3 with fail
  clear hg1 hg2
  go_wp2_with fail
  refine KM.out.mono ?_
  rintro e w2 ⟨m, k, a2, c2, hm, hk, rfl, ho, hb2⟩
  have hk2 : k ≤ 1000 := by have := memIs_len hm; rw [HN.out] at this; omega
  have HMI := Lib.hid hm
  have HK := Lib.hid hk
  have HMp := Lib.hid (show ∀ x ∈ m, 0 < x from fun x hx => ((hm.2 x).1 hx).2)
  have HMs := Lib.hid hm.1
  have HSl := Lib.hid (ownN_sl ho)
  have hw2z := hb2.size
  clear KM hm hk ho
  go_wp2_with fail
  go_loopw [9, 10] (fun T I wr => ∃ (i : Nat) (a4 : Option Addr) (c4 : Nat), i ≤ M ∧ I = .int .i64 i ∧ T = .slice a4 i c4 ∧ wr.ownsRow w2.heap.size 3 1 (.slice a4 i c4) i (i64s (List.replicate i 0)) ∧ Below w2.heap.size w2 wr) (fun _ I _ => M - (intOf I).toNat)
  case atStart => exact ⟨0, none, 0, Nat.zero_le _, rfl, rfl, World.ownsRow_nil _ _ _ _, Below.refl _ _⟩
  case round =>
    obtain ⟨d, a4, c4, hdM, rfl, rfl, ownz, hbw⟩ := hrel
    have hwz := hbw.size
    by_cases hdl : d < M
    · have hdi : (d : Int) < (M : Int) := by omega
      have Hw1 := Lib.hid (show IntKind.i64.wrap ((d : Int) + 1) = ((d + 1 : Nat) : Int) by rw [IntWalk.i64_in _ (by omega)]; omega)
      have HO1 := Lib.hid (ownz.alloc (.cells #[.int .i64 0] 3))
      have HB1 := Lib.hid (hbw.alloc hbw.size (.cells #[.int .i64 0] 3))
      have hza := (balloc wr (.cells #[.int .i64 0] 3)).size
      clear ownz
      go_wp2_with (at_builtin; refine wp_app2 rfl _ _ 22 rfl w2.heap.size 3 i7 (.int .i64 0) 1 8 Try.underlying22 hi7 hz70 hz71 hz72 rfl (by decide) _ _ _ rfl HO1.out _ _ _ rfl [.int .i64 0] _ w2 rfl (sl_fresh _ [.int .i64 0] 3) (fun h => by cases h) (i_one8 _) ?da ?db ?dc HB1.out ?_)
      case da => unfold maxLen; omega
      case db => omega
      case dc => omega
      intro a5 c5 w5 o5 b5 f5
      have HO5 : Hid (w5.ownsRow w2.heap.size 3 1 (.slice a5 (d + 1) c5) (d + 1) (i64s (List.replicate (d + 1) 0))) := Lib.hid (by
        rw [List.replicate_succ', i64s_snoc]; exact o5)
      clear o5 f5 HO1 HB1 hza
      have hw1 := Hw1.out
      go_wp2_with fail
      go_roundw
      case rel => exact ⟨d + 1, a5, c5, by omega, by go_num, rfl, HO5.out, b5⟩
      case measure => simp [intOf]; omega
    · obtain rfl : d = M := by omega
      rcases Nat.eq_zero_or_pos k with hk0 | hk0
      · subst hk0
        have hm0 : m = [] := List.eq_nil_of_length_eq_zero HK.out
        have HO1 := Lib.hid ownz
        clear ownz
        go_wp2_with fail
        go_ret2
        refine ⟨m, a4, c4, HMI.out, rfl, ?_, hb2.trans (hbw.mono hw2z)⟩
        have e : List.replicate d 0 = stickyL d m old := by unfold stickyL; rw [if_pos hm0]
        rw [← e]; exact own_base HO1.out hw2z
      · obtain ⟨g, rfl, hgb, _, _, _⟩ := ownN_at ownz (by omega)
        have hkz : ((k : Int) == 0) = false := beq_eq_false_iff_ne.2 (by omega)
        obtain ⟨q, hq⟩ : ∃ q, d / k = q := ⟨_, rfl⟩
        obtain ⟨rs, hrs⟩ : ∃ rs, d % k = rs := ⟨_, rfl⟩
        have hqM : q ≤ 64 := by have := Nat.div_le_self d k; omega
        have hrM : rs ≤ 64 := by have := Nat.mod_le d k; omega
        have Hqd := Lib.hid (show wrap64 ((d : Int) / (k : Int)) = (q : Int) by
          rw [← Int.natCast_ediv, hq, IntWalk.wrap64_in _ (by omega)])
        have Hrd := Lib.hid (show (d : Int) % (k : Int) = (rs : Int) by rw [← Int.natCast_emod, hrs])
        have HQ := Lib.hid hq
        have HRS := Lib.hid hrs
        have HO1 := Lib.hid ownz
        clear ownz hq hrs
        obtain ⟨wo, hwo⟩ : ∃ wo : World, wo = wr := ⟨_, rfl⟩
        rw [← hwo] at hbw hwz HO1 ⊢
        clear hwo
        go_upto_region 12 with fail
        rw [Hqd.out]
        go_wp2_with fail
        go_loopw [12] (fun I wr => ∃ (i : Nat) (R : List Int), i ≤ d ∧ i ≤ N3 ∧ I = .int .i64 i ∧ Hid (R = keepTo d m old i) ∧ wr.ownsRow w2.heap.size 3 1 (.slice (some ⟨g, 0, none⟩) d c4) d (i64s R) ∧ Below w2.heap.size w2 wr) (fun I _ => d - (intOf I).toNat)
        case atStart => exact ⟨0, List.replicate d 0, Nat.zero_le _, Nat.zero_le _, rfl, Lib.hid rfl, HO1.out, hbw⟩
        case round =>
          obtain ⟨i, R, hid, hiN, rfl, HR, own, hb⟩ := hrel
          have hbz := hb.size
          have HRl := Lib.hid (show R.length = d by rw [HR.out, keepTo_len])
          have hi0 : 0 ≤ (i : Int) := by omega
          by_cases hlt : i < d ∧ i < N3
          · obtain ⟨hlt1, hlt2⟩ := hlt
            have hli : (i : Int) < (d : Int) := by omega
            have hlN : (i : Int) < (N3 : Int) := by omega
            have hbt := hb2.trans (hb.mono hw2z)
            obtain ⟨b3, o3, rfl, hb3g, hc3⟩ := HS3.out.ints (by rw [HN3.out]; omega)
            have hx0 := hc3 i (by rw [HN3.out]; exact hlt2)
            obtain ⟨x, hx⟩ : ∃ x, old.getD i 0 = x := ⟨_, rfl⟩
            rw [hx] at hx0
            have HX := Lib.hid hx
            have r0 := (hbt.cell (p := ⟨b3, o3 + i, none⟩) (by show b3 < _; omega)).trans hx0
            have hzb : b3 < wr.heap.size := by omega
            have HR1 := Lib.hid (show keepTo d m old (i + 1) = step1 q rs m R i x by rw [keepTo, ← HR.out, HX.out, HK.out, HQ.out, HRS.out])
            have hsm := HSl.out.below hb (Nat.le_refl _)
            have Hwi := Lib.hid (show IntKind.i64.wrap ((i : Int) + 1) = ((i + 1 : Nat) : Int) by rw [IntWalk.i64_in _ (by omega)]; omega)
            have hlim : i + 1 ≤ d ∧ i + 1 ≤ N3 := ⟨hlt1, hlt2⟩
            have HO := Lib.hid own
            clear hc3 hx hx0 own hlt1 hlt2
            by_cases hmem : x ∈ m
            · have KH := Lib.hid (rhas_walk m k x true a2 c2 _ wr HK.out hk2 hsm hbz ⟨fun _ => hmem, fun _ => rfl⟩)
              obtain ⟨cx, hcx⟩ : ∃ cx, cnt R x = cx := ⟨_, rfl⟩
              have KC := Lib.hid (rcount_walk R d x (some ⟨g, 0, none⟩) c4 _ wr HRl.out (by omega) (ownN_sl HO.out) (Nat.le_refl _))
              rw [hcx] at KC
              have hcM : cx ≤ 64 := by have := cnt_le R x; rw [hcx, HRl.out] at this; omega
              obtain ⟨ab, hab⟩ : ∃ ab, abv R m q = ab := ⟨_, rfl⟩
              have habk : ab ≤ 1000 := by have := abv_le R m q; rw [hab, HK.out] at this; omega
              have KA := Lib.hid (fun nq => rabove_walk R m d k q (some ⟨g, 0, none⟩) a2 c4 c2 _ _ (wr.drewN nq) HRl.out (by omega) ((ownN_sl HO.out).below (below_drewN _ _ _) (Nat.le_refl _)) (Nat.le_refl _) HK.out hk2 (hsm.below (below_drewN _ _ _) (Nat.le_refl _)) hbz)
              rw [hab] at KA
              have HCX := Lib.hid hcx
              have HAB := Lib.hid hab
              have HXR := Lib.hid (fun (nq : Nat) => (show (wr.drewN nq).cell? ⟨b3, o3 + i, none⟩ = some (.int .i64 x) from r0))
              clear hcx hab hsm
              go_wp2_with fail
              refine KH.out.mono ?_
              rintro e w4 ⟨rfl, hw4⟩
              subst hw4
              go_upto_region 16 with fail
              go_wp2_with fail
              refine KC.out.mono ?_
              rintro e w5 ⟨rfl, hw5⟩
              subst hw5
              clear KH KC r0
              go_upto_region 17 with fail
              obtain ⟨wz, hwz9⟩ : ∃ wz : World, wz = w5 := ⟨_, rfl⟩
              rw [← hwz9] at hb hbz HO KA HXR hzb hbt ⊢
              clear hwz9
              by_cases hcq : cx < q
              · have hg1 : decide (cx < q) = true := decide_eq_true hcq
                have HR2 := Lib.hid (show R.set i x = keepTo d m old (i + 1) by rw [HR1.out]; unfold step1; rw [if_pos ⟨hmem, .inl (by rw [HCX.out]; exact hcq)⟩])
                clear hmem hcq
                go_quiet (fail)
                clear hg1
                obtain ⟨w6, hw6⟩ : ∃ w6, w6 = wz.drewN nq := ⟨_, rfl⟩
                have hd6 : Below wz.heap.size wz w6 := by rw [hw6]; exact below_drewN _ _ _
                have hx6 : w6.cell? ⟨b3, o3 + i, none⟩ = some (.int .i64 x) := by rw [hw6]; exact HXR.out nq
                rw [← hw6]
                clear hw6 nq
                have hz6 := hd6.size
                have hb6 := hb.trans (hd6.mono hbz)
                have HO6 := Lib.hid (own_keep HO.out hd6)
                obtain ⟨_, e', _, hgw6, hfr, hct⟩ := ownN_at HO6.out (by omega)
                injection e' with e'
                injection e' with e' _ _
                subst e'
                have c0 := hct i _ (i64s_get R i (by rw [HRl.out]; omega))
                have f0 := hfr i
                have hzb6 : b3 < w6.heap.size := by omega
                have own7 := ownN_store (u := .int .i64 x) HO6.out (j := i) (by rw [i64s_len, HRl.out]; omega)
                rw [← i64s_set] at own7
                have HO7 := Lib.hid own7
                have hb7 := hb6.setCell (p := ⟨g, i, none⟩) hgb (.int .i64 x)
                clear hct hfr own7 hd6 HO6
                go_upto_region 14 with fail
                clear c0 f0 hx6
                have hwi := Hwi.out
                go_wp2_with fail
                go_roundw
                case rel => exact ⟨i + 1, R.set i x, hlim.1, hlim.2, by go_num, HR2, HO7.out, hb7⟩
                case measure => simp [intOf]; omega
              · have hg1 : decide (cx < q) = false := decide_eq_false hcq
                by_cases hce : cx = q ∧ ab < rs
                · have hg2 : (cx == q) = true := by rw [hce.1]; exact beq_self_eq_true _
                  have hg2' : ((cx : Int) == (q : Int)) = true := by rw [hce.1]; exact beq_self_eq_true _
                  have hg3 : decide ((ab : Int) < (d : Int) % (k : Int)) = true := by rw [Hrd.out]; exact decide_eq_true (by omega)
                  have HR2 := Lib.hid (show R.set i x = keepTo d m old (i + 1) by rw [HR1.out]; unfold step1; rw [if_pos ⟨hmem, .inr ⟨by rw [HCX.out]; exact hce.1, by rw [HAB.out]; exact hce.2⟩⟩])
                  clear hmem hcq hce
                  go_quiet ((go_at_call 74; exact Calls.quiet_of_same (KA.out _)))
                  clear hg1 hg2 hg2' hg3
                  obtain ⟨w6, hw6⟩ : ∃ w6, w6 = wz.drewN nq := ⟨_, rfl⟩
                  have hd6 : Below wz.heap.size wz w6 := by rw [hw6]; exact below_drewN _ _ _
                  have hx6 : w6.cell? ⟨b3, o3 + i, none⟩ = some (.int .i64 x) := by rw [hw6]; exact HXR.out nq
                  rw [← hw6]
                  clear hw6 nq
                  have hz6 := hd6.size
                  have hb6 := hb.trans (hd6.mono hbz)
                  have HO6 := Lib.hid (own_keep HO.out hd6)
                  obtain ⟨_, e', _, hgw6, hfr, hct⟩ := ownN_at HO6.out (by omega)
                  injection e' with e'
                  injection e' with e' _ _
                  subst e'
                  have c0 := hct i _ (i64s_get R i (by rw [HRl.out]; omega))
                  have f0 := hfr i
                  have hzb6 : b3 < w6.heap.size := by omega
                  have own7 := ownN_store (u := .int .i64 x) HO6.out (j := i) (by rw [i64s_len, HRl.out]; omega)
                  rw [← i64s_set] at own7
                  have HO7 := Lib.hid own7
                  have hb7 := hb6.setCell (p := ⟨g, i, none⟩) hgb (.int .i64 x)
                  clear hct hfr own7 hd6 HO6
                  go_upto_region 14 with fail
                  clear c0 f0 hx6
                  have hwi := Hwi.out
                  go_wp2_with fail
                  go_roundw
                  case rel => exact ⟨i + 1, R.set i x, hlim.1, hlim.2, by go_num, HR2, HO7.out, hb7⟩
                  case measure => simp [intOf]; omega
                · have HR2 := Lib.hid (show R = keepTo d m old (i + 1) by
                    rw [HR1.out]
                    unfold step1
                    rw [if_neg]
                    rintro ⟨_, h | ⟨h1, h2⟩⟩
                    · rw [HCX.out] at h; exact hcq h
                    · rw [HCX.out] at h1; rw [HAB.out] at h2; exact hce ⟨h1, h2⟩)
                  by_cases hce1 : cx = q
                  · have hg2 : (cx == q) = true := by rw [hce1]; exact beq_self_eq_true _
                    have hg2' : ((cx : Int) == (q : Int)) = true := by rw [hce1]; exact beq_self_eq_true _
                    have hg3 : decide ((ab : Int) < (d : Int) % (k : Int)) = false := by rw [Hrd.out]; exact decide_eq_false (by omega)
                    clear hmem hcq hce hce1
                    go_quiet ((go_at_call 74; exact Calls.quiet_of_same (KA.out _)))
                    clear hg1 hg2 hg2' hg3
                    obtain ⟨w6, hw6⟩ : ∃ w6, w6 = wz.drewN nq := ⟨_, rfl⟩
                    have hd6 : Below wz.heap.size wz w6 := by rw [hw6]; exact below_drewN _ _ _
                    rw [← hw6]
                    clear hw6 nq
                    have hz6 := hd6.size
                    have hb6 := hb.trans (hd6.mono hbz)
                    have HO6 := Lib.hid (own_keep HO.out hd6)
                    clear hd6
                    go_upto_region 14 with fail
                    have hwi := Hwi.out
                    go_wp2_with fail
                    go_roundw
                    case rel => exact ⟨i + 1, R, hlim.1, hlim.2, by go_num, HR2, HO6.out, hb6⟩
                    case measure => simp [intOf]; omega
                  · have hg2 : (cx == q) = false := beq_eq_false_iff_ne.2 hce1
                    have hg2' : ((cx : Int) == (q : Int)) = false := beq_eq_false_iff_ne.2 (by omega)
                    clear hmem hcq hce hce1
                    go_quiet (fail)
                    clear hg1 hg2 hg2'
                    obtain ⟨w6, hw6⟩ : ∃ w6, w6 = wz.drewN nq := ⟨_, rfl⟩
                    have hd6 : Below wz.heap.size wz w6 := by rw [hw6]; exact below_drewN _ _ _
                    rw [← hw6]
                    clear hw6 nq
                    have hz6 := hd6.size
                    have hb6 := hb.trans (hd6.mono hbz)
                    have HO6 := Lib.hid (own_keep HO.out hd6)
                    clear hd6
                    go_upto_region 14 with fail
                    have hwi := Hwi.out
                    go_wp2_with fail
                    go_roundw
                    case rel => exact ⟨i + 1, R, hlim.1, hlim.2, by go_num, HR2, HO6.out, hb6⟩
                    case measure => simp [intOf]; omega
            · have KH := Lib.hid (rhas_walk m k x false a2 c2 _ wr HK.out hk2 hsm hbz ⟨(fun h => by cases h), (fun h => absurd h hmem)⟩)
              have HR2 := Lib.hid (show R = keepTo d m old (i + 1) by rw [HR1.out]; unfold step1; rw [if_neg (fun h => hmem h.1)])
              clear hmem hsm
              go_wp2_with fail
              refine KH.out.mono ?_
              rintro e w4 ⟨rfl, hw4⟩
              subst hw4
              clear KH r0
              go_upto_region 14 with fail
              have hwi := Hwi.out
              go_wp2_with fail
              go_roundw
              case rel => exact ⟨i + 1, R, hlim.1, hlim.2, by go_num, HR2, HO.out, hb⟩
              case measure => simp [intOf]; omega
          · by_cases hid2 : i < d
            · have hli : (i : Int) < (d : Int) := by omega
              have hlN : ¬ (i : Int) < (N3 : Int) := by omega
              have hmin : i = min d N3 := by omega
              clear hid2
              have HO2 := Lib.hid own
              have HR0 := Lib.hid (show R = keepTo d m old (min d N3) by rw [HR.out, hmin])
              obtain ⟨R0, hR0⟩ : ∃ R0, R = R0 := ⟨_, rfl⟩
              have HNN := Lib.hid (show ∀ p, 0 ≤ R0.getD p 0 from by rw [← hR0, HR.out]; exact keepTo_nn d m old HMp.out i)
              rw [hR0] at HO2 HR0 HRl
              clear own hR0 hmin HR
              go_wp2_with fail
              clear hlt hli hlN
              obtain ⟨wo3, hwo3⟩ : ∃ wo3 : World, wo3 = wr := ⟨_, rfl⟩
              rw [← hwo3] at hb hbz HO2 ⊢
              clear hwo3
              have HR0l := HRl
              clear HRl
              go_loopw [14] (fun I wr => ∃ (i : Nat) (R : List Int), i ≤ d ∧ I = .int .i64 i ∧ Hid (R = fillTo m R0 i) ∧ wr.ownsRow w2.heap.size 3 1 (.slice (some ⟨g, 0, none⟩) d c4) d (i64s R) ∧ Below w2.heap.size w2 wr) (fun I _ => d - (intOf I).toNat)
              case atStart => exact ⟨0, R0, Nat.zero_le _, rfl, Lib.hid rfl, HO2.out, hb⟩
              case round =>
                obtain ⟨i, R, hid, rfl, HR, own, hb⟩ := hrel
                have hbz := hb.size
                by_cases hlt : i < d
                · have hli : (i : Int) < (d : Int) := by omega
                  have hi0 : 0 ≤ (i : Int) := by omega
                  have HRl := Lib.hid (show R.length = d by rw [HR.out, fillTo_len, HR0l.out])
                  obtain ⟨_, e', _, hgw6, hfr, hct⟩ := ownN_at own (by omega)
                  injection e' with e'
                  injection e' with e' _ _
                  subst e'
                  have c0 := hct i _ (i64s_get R i (by rw [HRl.out]; omega))
                  have f0 := hfr i
                  obtain ⟨v, hv⟩ : ∃ v, R.getD i 0 = v := ⟨_, rfl⟩
                  rw [hv] at c0
                  have hvn : 0 ≤ v := by rw [← hv, HR.out]; exact fillTo_nn m R0 HMp.out (by rw [HK.out]; exact hk0) HNN.out i i
                  have HV := Lib.hid hv
                  have HF1 := Lib.hid (show fillTo m R0 (i + 1) = step2 m R i by rw [fillTo, ← HR.out])
                  have HO := Lib.hid own
                  have HCT := Lib.hid c0
                  have Hwi := Lib.hid (show IntKind.i64.wrap ((i : Int) + 1) = ((i + 1 : Nat) : Int) by rw [IntWalk.i64_in _ (by omega)]; omega)
                  have hsm := HSl.out.below hb (Nat.le_refl _)
                  obtain ⟨bm, om, ha2, hbm, hcm⟩ := hsm.ints (by rw [HK.out]; exact hk0)
                  subst ha2
                  have KC := Lib.hid (fun x => rcount_walk R d x (some ⟨g, 0, none⟩) c4 _ wr HRl.out (by omega) (ownN_sl HO.out) (Nat.le_refl _))
                  clear hct hfr own hv hsm
                  by_cases hv0 : v = 0
                  · subst hv0
                    go_upto_region 23 with fail
                    clear c0
                    have rm0 := hcm 0 (by rw [HK.out]; exact hk0)
                    rw [Nat.add_zero] at rm0
                    obtain ⟨x0, hx0⟩ : ∃ x, m.getD 0 0 = x := ⟨_, rfl⟩
                    rw [hx0] at rm0
                    have hzm : bm < wr.heap.size := by omega
                    have hk0i : (0 : Int) < (k : Int) := by omega
                    have HX0 := Lib.hid (show x0 = poorTo m R 1 by rw [poorTo, hx0, poorTo, hx0]; simp)
                    have HCM := Lib.hid (show ∀ j, j < k → wr.cell? ⟨bm, om + j, none⟩ = some (.int .i64 (m.getD j 0)) from fun j hj => hcm j (by rw [HK.out]; exact hj))
                    clear hx0 hcm
                    obtain ⟨wz, hwz9⟩ : ∃ wz : World, wz = wr := ⟨_, rfl⟩
                    rw [← hwz9] at hb hbz HO KC HCM HCT hzm rm0 f0 ⊢
                    clear hwz9
                    go_upto_region 24 with fail
                    clear rm0 hk0i
                    go_wp2_with fail
                    go_loopw [15, 16] (fun Y J wr => ∃ (j : Nat) (y : Int), 1 ≤ j ∧ j ≤ k ∧ Y = .int .i64 y ∧ J = .int .i64 j ∧ Hid (y = poorTo m R j) ∧ wr = wz) (fun _ J _ => k - (intOf J).toNat)
                    case atStart => exact ⟨1, x0, Nat.le_refl _, by omega, rfl, rfl, HX0, rfl⟩
                    case round =>
                      obtain ⟨j, y, hj1, hjk, rfl, rfl, HY, hwr⟩ := hrel
                      subst hwr
                      by_cases hjl : j < k
                      · have hji : (j : Int) < (k : Int) := by omega
                        have hj0 : 0 ≤ (j : Int) := by omega
                        have rj := HCM.out j hjl
                        obtain ⟨x, hx⟩ : ∃ x, m.getD j 0 = x := ⟨_, rfl⟩
                        rw [hx] at rj
                        obtain ⟨cx, hcx⟩ : ∃ cx, cnt R x = cx := ⟨_, rfl⟩
                        obtain ⟨cy, hcy⟩ : ∃ cy, cnt R y = cy := ⟨_, rfl⟩
                        have HY1 := Lib.hid (show poorTo m R (j + 1) = if cx < cy then x else y by rw [poorTo, hx, ← HY.out, hcx, hcy])
                        have KX := KC.out x
                        have KY := KC.out y
                        rw [hcx] at KX
                        rw [hcy] at KY
                        have HKX := Lib.hid KX
                        have HKY := Lib.hid KY
                        have Hwj := Lib.hid (show IntKind.i64.wrap ((j : Int) + 1) = ((j + 1 : Nat) : Int) by rw [IntWalk.i64_in _ (by omega)]; omega)
                        clear hx hcx hcy KX KY
                        by_cases hc : cx < cy
                        · have hci : (cx : Int) < (cy : Int) := by omega
                          have HY2 := Lib.hid (show x = poorTo m R (j + 1) by rw [HY1.out, if_pos hc])
                          clear hc
                          go_wp2_with fail
                          refine HKX.out.mono ?_
                          rintro e w4 ⟨rfl, hw4⟩
                          subst hw4
                          go_wp2_with fail
                          refine HKY.out.mono ?_
                          rintro e w5 ⟨rfl, hw5⟩
                          subst hw5
                          clear HKX HKY
                          go_upto_region 26 with fail
                          clear rj
                          have hwj := Hwj.out
                          go_wp2_with fail
                          go_roundw
                          case rel => exact ⟨j + 1, x, by omega, by omega, rfl, by go_num, HY2, trivial⟩
                          case measure => simp [intOf]; omega
                        · have hci : ¬ (cx : Int) < (cy : Int) := by omega
                          have HY2 := Lib.hid (show y = poorTo m R (j + 1) by rw [HY1.out, if_neg hc])
                          clear hc
                          go_wp2_with fail
                          refine HKX.out.mono ?_
                          rintro e w4 ⟨rfl, hw4⟩
                          subst hw4
                          go_wp2_with fail
                          refine HKY.out.mono ?_
                          rintro e w5 ⟨rfl, hw5⟩
                          subst hw5
                          clear HKX HKY
                          go_upto_region 26 with fail
                          clear rj
                          have hwj := Hwj.out
                          go_wp2_with fail
                          go_roundw
                          case rel => exact ⟨j + 1, y, by omega, by omega, rfl, by go_num, HY2, trivial⟩
                          case measure => simp [intOf]; omega
                      · have hje : j = k := by omega
                        have hjn : ¬ (j : Int) < (k : Int) := by omega
                        have HR2 := Lib.hid (show R.set i y = fillTo m R0 (i + 1) by rw [HF1.out]; unfold step2; rw [if_pos HV.out, HY.out, hje, HK.out])
                        have c0 := HCT.out
                        have own7 := ownN_store (u := .int .i64 y) HO.out (j := i) (by rw [i64s_len, HRl.out]; exact hlt)
                        rw [← i64s_set] at own7
                        have HO7 := Lib.hid own7
                        have hb7 := hb.setCell (p := ⟨g, i, none⟩) hgb (.int .i64 y)
                        clear own7 hje
                        go_upto_region 21 with fail
                        clear c0 f0
                        have hwi := Hwi.out
                        go_wp2_with fail
                        go_roundw
                        case rel => exact ⟨i + 1, R.set i y, by omega, by go_num, HR2, HO7.out, hb7⟩
                        case measure => simp [intOf]; omega
                  · have hv1 : 0 < v := by omega
                    have HR2 := Lib.hid (show R = fillTo m R0 (i + 1) by rw [HF1.out]; unfold step2; rw [if_neg (by rw [HV.out]; exact hv0)])
                    clear hv0 hcm
                    go_upto_region 21 with fail
                    clear c0 f0
                    have hwi := Hwi.out
                    go_wp2_with fail
                    go_roundw
                    case rel => exact ⟨i + 1, R, by omega, by go_num, HR2, HO.out, hb⟩
                    case measure => simp [intOf]; omega
                · obtain rfl : i = d := by omega
                  go_wp2_with fail
                  go_ret2
                  refine ⟨m, some ⟨g, 0, none⟩, c4, HMI.out, rfl, ?_, hb2.trans (hb.mono hw2z)⟩
                  have e : R = stickyL i m old := by
                    unfold stickyL
                    rw [if_neg (by intro h; have := HK.out; rw [h] at this; simp at this; omega), HN3.out, ← HR0.out]
                    exact HR.out
                  rw [← e]; exact own_base own hw2z
            · have hli : ¬ (i : Int) < (d : Int) := by omega
              have hmin : i = min d N3 := by omega
              clear hid2
              have HO2 := Lib.hid own
              have HR0 := Lib.hid (show R = keepTo d m old (min d N3) by rw [HR.out, hmin])
              obtain ⟨R0, hR0⟩ : ∃ R0, R = R0 := ⟨_, rfl⟩
              have HNN := Lib.hid (show ∀ p, 0 ≤ R0.getD p 0 from by rw [← hR0, HR.out]; exact keepTo_nn d m old HMp.out i)
              rw [hR0] at HO2 HR0 HRl
              clear own hR0 hmin HR
              go_wp2_with fail
              clear hlt hli
              obtain ⟨wo3, hwo3⟩ : ∃ wo3 : World, wo3 = wr := ⟨_, rfl⟩
              rw [← hwo3] at hb hbz HO2 ⊢
              clear hwo3
              have HR0l := HRl
              clear HRl
              go_loopw [14] (fun I wr => ∃ (i : Nat) (R : List Int), i ≤ d ∧ I = .int .i64 i ∧ Hid (R = fillTo m R0 i) ∧ wr.ownsRow w2.heap.size 3 1 (.slice (some ⟨g, 0, none⟩) d c4) d (i64s R) ∧ Below w2.heap.size w2 wr) (fun I _ => d - (intOf I).toNat)
              case atStart => exact ⟨0, R0, Nat.zero_le _, rfl, Lib.hid rfl, HO2.out, hb⟩
              case round =>
                obtain ⟨i, R, hid, rfl, HR, own, hb⟩ := hrel
                have hbz := hb.size
                by_cases hlt : i < d
                · have hli : (i : Int) < (d : Int) := by omega
                  have hi0 : 0 ≤ (i : Int) := by omega
                  have HRl := Lib.hid (show R.length = d by rw [HR.out, fillTo_len, HR0l.out])
                  obtain ⟨_, e', _, hgw6, hfr, hct⟩ := ownN_at own (by omega)
                  injection e' with e'
                  injection e' with e' _ _
                  subst e'
                  have c0 := hct i _ (i64s_get R i (by rw [HRl.out]; omega))
                  have f0 := hfr i
                  obtain ⟨v, hv⟩ : ∃ v, R.getD i 0 = v := ⟨_, rfl⟩
                  rw [hv] at c0
                  have hvn : 0 ≤ v := by rw [← hv, HR.out]; exact fillTo_nn m R0 HMp.out (by rw [HK.out]; exact hk0) HNN.out i i
                  have HV := Lib.hid hv
                  have HF1 := Lib.hid (show fillTo m R0 (i + 1) = step2 m R i by rw [fillTo, ← HR.out])
                  have HO := Lib.hid own
                  have HCT := Lib.hid c0
                  have Hwi := Lib.hid (show IntKind.i64.wrap ((i : Int) + 1) = ((i + 1 : Nat) : Int) by rw [IntWalk.i64_in _ (by omega)]; omega)
                  have hsm := HSl.out.below hb (Nat.le_refl _)
                  obtain ⟨bm, om, ha2, hbm, hcm⟩ := hsm.ints (by rw [HK.out]; exact hk0)
                  subst ha2
                  have KC := Lib.hid (fun x => rcount_walk R d x (some ⟨g, 0, none⟩) c4 _ wr HRl.out (by omega) (ownN_sl HO.out) (Nat.le_refl _))
                  clear hct hfr own hv hsm
                  by_cases hv0 : v = 0
                  · subst hv0
                    go_upto_region 23 with fail
                    clear c0
                    have rm0 := hcm 0 (by rw [HK.out]; exact hk0)
                    rw [Nat.add_zero] at rm0
                    obtain ⟨x0, hx0⟩ : ∃ x, m.getD 0 0 = x := ⟨_, rfl⟩
                    rw [hx0] at rm0
                    have hzm : bm < wr.heap.size := by omega
                    have hk0i : (0 : Int) < (k : Int) := by omega
                    have HX0 := Lib.hid (show x0 = poorTo m R 1 by rw [poorTo, hx0, poorTo, hx0]; simp)
                    have HCM := Lib.hid (show ∀ j, j < k → wr.cell? ⟨bm, om + j, none⟩ = some (.int .i64 (m.getD j 0)) from fun j hj => hcm j (by rw [HK.out]; exact hj))
                    clear hx0 hcm
                    obtain ⟨wz, hwz9⟩ : ∃ wz : World, wz = wr := ⟨_, rfl⟩
                    rw [← hwz9] at hb hbz HO KC HCM HCT hzm rm0 f0 ⊢
                    clear hwz9
                    go_upto_region 24 with fail
                    clear rm0 hk0i
                    go_wp2_with fail
                    go_loopw [15, 16] (fun Y J wr => ∃ (j : Nat) (y : Int), 1 ≤ j ∧ j ≤ k ∧ Y = .int .i64 y ∧ J = .int .i64 j ∧ Hid (y = poorTo m R j) ∧ wr = wz) (fun _ J _ => k - (intOf J).toNat)
                    case atStart => exact ⟨1, x0, Nat.le_refl _, by omega, rfl, rfl, HX0, rfl⟩
                    case round =>
                      obtain ⟨j, y, hj1, hjk, rfl, rfl, HY, hwr⟩ := hrel
                      subst hwr
                      by_cases hjl : j < k
                      · have hji : (j : Int) < (k : Int) := by omega
                        have hj0 : 0 ≤ (j : Int) := by omega
                        have rj := HCM.out j hjl
                        obtain ⟨x, hx⟩ : ∃ x, m.getD j 0 = x := ⟨_, rfl⟩
                        rw [hx] at rj
                        obtain ⟨cx, hcx⟩ : ∃ cx, cnt R x = cx := ⟨_, rfl⟩
                        obtain ⟨cy, hcy⟩ : ∃ cy, cnt R y = cy := ⟨_, rfl⟩
                        have HY1 := Lib.hid (show poorTo m R (j + 1) = if cx < cy then x else y by rw [poorTo, hx, ← HY.out, hcx, hcy])
                        have KX := KC.out x
                        have KY := KC.out y
                        rw [hcx] at KX
                        rw [hcy] at KY
                        have HKX := Lib.hid KX
                        have HKY := Lib.hid KY
                        have Hwj := Lib.hid (show IntKind.i64.wrap ((j : Int) + 1) = ((j + 1 : Nat) : Int) by rw [IntWalk.i64_in _ (by omega)]; omega)
                        clear hx hcx hcy KX KY
                        by_cases hc : cx < cy
                        · have hci : (cx : Int) < (cy : Int) := by omega
                          have HY2 := Lib.hid (show x = poorTo m R (j + 1) by rw [HY1.out, if_pos hc])
                          clear hc
                          go_wp2_with fail
                          refine HKX.out.mono ?_
                          rintro e w4 ⟨rfl, hw4⟩
                          subst hw4
                          go_wp2_with fail
                          refine HKY.out.mono ?_
                          rintro e w5 ⟨rfl, hw5⟩
                          subst hw5
                          clear HKX HKY
                          go_upto_region 26 with fail
                          clear rj
                          have hwj := Hwj.out
                          go_wp2_with fail
                          go_roundw
                          case rel => exact ⟨j + 1, x, by omega, by omega, rfl, by go_num, HY2, trivial⟩
                          case measure => simp [intOf]; omega
                        · have hci : ¬ (cx : Int) < (cy : Int) := by omega
                          have HY2 := Lib.hid (show y = poorTo m R (j + 1) by rw [HY1.out, if_neg hc])
                          clear hc
                          go_wp2_with fail
                          refine HKX.out.mono ?_
                          rintro e w4 ⟨rfl, hw4⟩
                          subst hw4
                          go_wp2_with fail
                          refine HKY.out.mono ?_
                          rintro e w5 ⟨rfl, hw5⟩
                          subst hw5
                          clear HKX HKY
                          go_upto_region 26 with fail
                          clear rj
                          have hwj := Hwj.out
                          go_wp2_with fail
                          go_roundw
                          case rel => exact ⟨j + 1, y, by omega, by omega, rfl, by go_num, HY2, trivial⟩
                          case measure => simp [intOf]; omega
                      · have hje : j = k := by omega
                        have hjn : ¬ (j : Int) < (k : Int) := by omega
                        have HR2 := Lib.hid (show R.set i y = fillTo m R0 (i + 1) by rw [HF1.out]; unfold step2; rw [if_pos HV.out, HY.out, hje, HK.out])
                        have c0 := HCT.out
                        have own7 := ownN_store (u := .int .i64 y) HO.out (j := i) (by rw [i64s_len, HRl.out]; exact hlt)
                        rw [← i64s_set] at own7
                        have HO7 := Lib.hid own7
                        have hb7 := hb.setCell (p := ⟨g, i, none⟩) hgb (.int .i64 y)
                        clear own7 hje
                        go_upto_region 21 with fail
                        clear c0 f0
                        have hwi := Hwi.out
                        go_wp2_with fail
                        go_roundw
                        case rel => exact ⟨i + 1, R.set i y, by omega, by go_num, HR2, HO7.out, hb7⟩
                        case measure => simp [intOf]; omega
                  · have hv1 : 0 < v := by omega
                    have HR2 := Lib.hid (show R = fillTo m R0 (i + 1) by rw [HF1.out]; unfold step2; rw [if_neg (by rw [HV.out]; exact hv0)])
                    clear hv0 hcm
                    go_upto_region 21 with fail
                    clear c0 f0
                    have hwi := Hwi.out
                    go_wp2_with fail
                    go_roundw
                    case rel => exact ⟨i + 1, R, by omega, by go_num, HR2, HO.out, hb⟩
                    case measure => simp [intOf]; omega
                · obtain rfl : i = d := by omega
                  go_wp2_with fail
                  go_ret2
                  refine ⟨m, some ⟨g, 0, none⟩, c4, HMI.out, rfl, ?_, hb2.trans (hb.mono hw2z)⟩
                  have e : R = stickyL i m old := by
                    unfold stickyL
                    rw [if_neg (by intro h; have := HK.out; rw [h] at this; simp at this; omega), HN3.out, ← HR0.out]
                    exact HR.out
                  rw [← e]; exact own_base own hw2z
theorem rsticky_all (x : Int) (l old : List Int) (N N3 : Nat) (a a3 : Option Addr) (c c3 : Nat) (w : World) (hN : l.length = N) (hNm : N ≤ 1000) (hN3 : old.length = N3) (hN3m : N3 ≤ 1000) (h : Sl w w.heap.size a (i64s l)) (h3 : Sl w w.heap.size a3 (i64s old)) :
    Calls Try.prog 59 #[.int .i64 x, .slice a N c, .slice a3 N3 c3] w (OutPost (stickyF x l old) (errF x) w) := by
  by_cases hx : okP x = true
  · obtain ⟨h1, h2⟩ := okP_yes hx
    have hk := rsticky_walk x.toNat l old N N3 a a3 c c3 w (by omega) (by omega) hN hNm hN3 hN3m h h3
    rw [show ((x.toNat : Nat) : Int) = x by omega] at hk
    refine hk.mono ?_
    rintro e w' ⟨m, a', c', hm, rfl, ho, hb⟩
    have e1 : stickyF x l old = stickyL x.toNat m old := by unfold stickyF; rw [if_pos hx, memIs_unique (memL_is l) hm]
    have e2 : (stickyF x l old).length = x.toNat := by rw [e1, stickyL_len]
    refine ⟨a', c', by rw [e2]; unfold errF; rw [if_pos hx], ?_, ?_, hb⟩
    · rw [e2, e1]; exact ho
    · rw [e1]; exact ownN_sl ho
  · have hx' : okP x = false := by simpa using hx
    refine (rsticky_bad x a a3 N c N3 c3 w hx').mono ?_
    rintro e w' ⟨rfl, hb⟩
    have e1 : stickyF x l old = [] := by unfold stickyF; rw [if_neg hx]
    refine ⟨none, 0, by rw [e1]; unfold errF; rw [if_neg hx]; rfl, ?_, ?_, hb⟩
    · rw [e1]; exact World.ownsRow_nil _ _ _ _
    · rw [e1]; exact Sl.nil _ _ _
end Go.Proofs.Ytafibgekikjlhaa

/- The walk of lz.pieces. -/
import Derived.Test.YtnhchmbbhkgccaaLzMap
import Derived.Test.YtnhchmbbhkgccaaWhole
import Derived.Laws.Cover3
namespace Go.Proofs.Ytnhchmbbhkgccaa
open Go.RowKit Vm Lz
set_option linter.unusedVariables false
set_option linter.unusedSimpArgs false

theorem Sl.cut {w : World} {B g off : Nat} {L : List UInt8} (hlt : g < B) (hc : ∀ j, j < L.length → w.cell? ⟨g, off + j, none⟩ = some (.int .u8 ((L.getD j 0).toNat : Int))) (i j : Nat) (hj : j ≤ L.length) : Sl w B (some ⟨g, off + i, none⟩) (byteVals (cutL L i j)) := by
  refine .inr ⟨g, off + i, rfl, hlt, fun k u hu => ?_⟩
  have hk : k < (cutL L i j).length := by
    have := (List.getElem?_eq_some_iff.1 hu).1
    rw [byteVals_length] at this; exact this
  rw [byteVals_get _ _ hk] at hu
  rw [cutL_len _ _ _ hj] at hk
  rw [Nat.add_assoc, hc (i + k) (by omega), ← hu]
  congr 4
  unfold cutL
  simp [List.getD, List.getElem?_drop, List.getElem?_take, show i + k < j by omega]
theorem Sl.ofCells {w : World} {B g off : Nat} {L : List UInt8} (hlt : g < B) (hc : ∀ j, j < L.length → w.cell? ⟨g, off + j, none⟩ = some (.int .u8 ((L.getD j 0).toNat : Int))) : Sl w B (some ⟨g, off, none⟩) (byteVals L) := by
  refine .inr ⟨g, off, rfl, hlt, fun k u hu => ?_⟩
  have hk : k < L.length := by
    have := (List.getElem?_eq_some_iff.1 hu).1
    rw [byteVals_length] at this; exact this
  rw [byteVals_get _ _ hk] at hu
  rw [hc k hk, ← hu]
set_option maxRecDepth 100000 in
set_option maxHeartbeats 16000000 in
theorem pieces_walk (L : List UInt8) (N : Nat) (g off c B : Nat) (w : World) (hN : L.length = N) (hNm : N ≤ 1048576) (hcap : N ≤ c) (hgB : g < B) (hcc : ∀ j, j < L.length → w.cell? ⟨g, off + j, none⟩ = some (.int .u8 ((L.getD j 0).toNat : Int))) (hB : B ≤ w.heap.size) :
    Calls Try.prog 19 #[.slice (some ⟨g, off, none⟩) N c] w fun e w' => ∃ P, PcIs L P ∧ e = .returned (.string (str P)) ∧ Below w.heap.size w w' := by
  obtain ⟨i0, hi, hz0, hz1, hz2⟩ := info_parts info_u8
  have hmm := @run_makeMap Try.prog
  have hal := balloc w (.map #[] 0)
  have hM0 : MapI (w.alloc (.map #[] 0)) w.heap.size 0 0 := ⟨_, World.ownsMap_made w _ _ _⟩
  have HN := Lib.hid hN
  have HC := Lib.hid hcc
  have HS := Lib.hid (Sl.ofCells hgB hcc)
  clear hN hcc
  go_enter Try.func19, Try.ntmps19
  go_wp2_with fail
  obtain ⟨w1, hw1⟩ : ∃ w1, w1 = w.alloc (.map #[] 0) := ⟨_, rfl⟩
  have hz1s : w1.heap.size = w.heap.size + 1 := by rw [hw1]; simp
  rw [← hw1] at hal hM0 ⊢
  obtain ⟨r, hr⟩ : ∃ r, w.heap.size = r := ⟨_, rfl⟩
  rw [hr] at hM0 hz1s ⊢
  clear hw1 hmm
  go_loopw [3, 5, 6] (fun O T J wr => ∃ (i t : Nat) (o : List UInt8) (n m : Nat) (a3 : Option Addr) (c3 : Nat), i ≤ N ∧ t ≤ i ∧ J = .int .i64 i ∧ T = .int .i64 t ∧ O = .slice a3 n c3 ∧ Hid (o.length = n) ∧ n ≤ t ∧ Hid (PcInv L o t) ∧ MapI wr r i m ∧ m ≤ i ∧ wr.ownsRow (r + 1) 5 1 (.slice a3 n c3) n (byteVals o) ∧ Below r w wr ∧ r + 1 ≤ wr.heap.size) (fun _ _ J _ => N - (intOf J).toNat)
  case atStart => exact ⟨0, 0, [], 0, 0, none, 0, by omega, by omega, rfl, rfl, rfl, Lib.hid rfl, by omega, Lib.hid (pc_start L), hM0, by omega, World.ownsRow_nil _ _ _ _, by rw [← hr]; exact hal, by omega⟩
  case round =>
    obtain ⟨i, t, o, n, m, a3, c3, hiN, hti, rfl, rfl, rfl, HO, hnt, HP, HM, hmi, own, hb, hbz⟩ := hrel
    by_cases h4 : i + 4 ≤ N
    · have h4i : (i : Int) + 4 ≤ (N : Int) := by omega
      have hi0 : 0 ≤ (i : Int) := by omega
      have hiN2 : (i : Int) ≤ (N : Int) := by omega
      have hc := HC.out
      have rd : ∀ j, j < N → wr.cell? ⟨g, off + j, none⟩ = some (kb (L.getD j 0)) := fun j hj => (hb.cell (p := ⟨g, off + j, none⟩) (by show g < r; omega)).trans (hc j (by rw [HN.out]; exact hj))
      obtain ⟨x0, hx0⟩ : ∃ x, L.getD i 0 = x := ⟨_, rfl⟩
      obtain ⟨x1, hx1⟩ : ∃ x, L.getD (i + 1) 0 = x := ⟨_, rfl⟩
      obtain ⟨x2, hx2⟩ : ∃ x, L.getD (i + 2) 0 = x := ⟨_, rfl⟩
      obtain ⟨x3, hx3⟩ : ∃ x, L.getD (i + 3) 0 = x := ⟨_, rfl⟩
      have c0 := rd i (by omega)
      have c1 := rd (i + 1) (by omega)
      have c2 := rd (i + 2) (by omega)
      have c3' := rd (i + 3) (by omega)
      rw [hx0] at c0
      rw [hx1] at c1
      rw [hx2] at c2
      rw [hx3] at c3'
      unfold kb at c0 c1 c2 c3'
      rw [← Nat.add_assoc] at c1 c2 c3'
      have rdc := Lib.hid rd
      clear rd hc
      have hat : ∀ w, (Instr.arrayAt 48 (.slice (some ⟨g, off + i, none⟩) (N - i) (c - i))).run Try.prog w = .ok (.pointer (some ⟨g, off + i, none⟩)) w := fun w => run_arrayAt w 48 5 4 _ _ _ Try.underlying48 (by omega)
      have Hwi := Lib.hid (show IntKind.i64.wrap ((i : Int) + 1) = ((i + 1 : Nat) : Int) by rw [IntWalk.i64_in _ (by omega)]; omega)
      go_upto_region 7 with fail
      clear c0 c1 c2 c3' hat
      have hal2 := balloc wr (.cells #[.int .u8 (x0.toNat : Int), .int .u8 (x1.toNat : Int), .int .u8 (x2.toNat : Int), .int .u8 (x3.toNat : Int)] 48)
      have G2 := Whole.new wr 48 #[.int .u8 (x0.toNat : Int), .int .u8 (x1.toNat : Int), .int .u8 (x2.toNat : Int), .int .u8 (x3.toNat : Int)]
      have HM2 := HM.below hal2
      have own2 := own_keep own hal2
      have hb2 := hb.trans (hal2.mono (by omega))
      have hz2s := hal2.size
      have q0 := G2.cell 0
      have q1 := G2.cell 1
      have q2 := G2.cell 2
      have q3 := G2.cell 3
      obtain ⟨w2, hw2⟩ : ∃ w2, w2 = wr.alloc (.cells #[.int .u8 (x0.toNat : Int), .int .u8 (x1.toNat : Int), .int .u8 (x2.toNat : Int), .int .u8 (x3.toNat : Int)] 48) := ⟨_, rfl⟩
      rw [← hw2] at HM2 own2 hb2 hz2s q0 q1 q2 q3 ⊢
      obtain ⟨v, f, hlk, hf1, hf0⟩ := HM2.look x0 x1 x2 x3
      obtain ⟨kl, hkl⟩ := key4_some x0 x1 x2 x3
      unfold key4 kb at hlk hkl
      obtain ⟨D, hD⟩ := HM2.mono (Nat.le_succ i)
      have HD := Lib.hid hD
      have HKL := Lib.hid hkl
      have HOw := Lib.hid own2
      clear hal2 G2 HM2 own2 hw2 hD hkl own HM
      go_upto_region 8 with fail
      clear hlk
      go_wp2_with (at_mapUpdate; refine wpList_mapUpdate_own _ rfl _ _ _ 47 rfl 48 3 law4 Try.underlying47 (bdR (i + 1)) r m D rfl HD.out (by unfold maxLen; omega) _ _ kl rfl rfl HKL.out _ _ (bdR_some (Nat.lt_succ_self i)) ?_)
      intro w3 ownM g3
      have HM3 := Lib.hid (show MapI w3 r (i + 1) (m + 1) from ⟨_, ownM⟩)
      have HO3 := Lib.hid (HOw.out.kept g3 (.inr (fun hh => by have := (HOw.out.lt r hh).1; omega)))
      have hb3 := hb2.grown g3 (by omega) (fun k hk => by cases hk; exact Nat.le_refl _)
      have hz3s := g3.size
      clear ownM g3 q0 q1 q2 q3 HOw HD HKL
      have hSl3 : Sl w3 w3.heap.size (some ⟨g, off, none⟩) (byteVals L) := (HS.out.below hb3 (by omega)).grow (by omega)
      cases f
      · clear hSl3
        go_upto_region 12 with fail
        go_upto_region 13 with fail
        have hwi := Hwi.out
        go_wp2_with fail
        go_roundw
        case rel => exact ⟨i + 1, t, o, n, m + 1, a3, c3, by omega, by omega, by go_num, rfl, rfl, HO, hnt, HP, HM3.out, by omega, HO3.out, hb3, by omega⟩
        case measure => simp [intOf]; omega
      · have hvi : v < i := hf1 rfl
        by_cases hfar : i - v ≤ 4096
        · have hfar2 : (i : Int) - (v : Int) ≤ 4096 := by omega
          have hvb : -9223372036854775808 ≤ (i : Int) - (v : Int) := by omega
          have K := Lib.hid (alike_walk L N i v (some ⟨g, off, none⟩) c w3.heap.size w3 HN.out hNm hvi (by omega) hSl3 (Nat.le_refl _))
          clear hSl3 hf1 hf0
          go_upto_region 11 with fail
          go_wp2_with fail
          refine K.out.mono ?_
          rintro e w4 ⟨k, rfl, hk, b4⟩
          have hkN := hk.1
          have HK := Lib.hid hk
          have hb4 := hb3.trans (b4.mono (by omega))
          have hz4s := b4.size
          clear hk K
          by_cases h8 : k < 8
          · have h8i : (k : Int) < 8 := by omega
            go_upto_region 13 with fail
            have hwi := Hwi.out
            go_wp2_with fail
            go_roundw
            case rel => exact ⟨i + 1, t, o, n, m + 1, a3, c3, by omega, by omega, by go_num, rfl, rfl, HO, hnt, HP, (HM3.out.below b4), by omega, (own_keep HO3.out b4), hb4, by omega⟩
            case measure => simp [intOf]; omega
          · have h8i : ¬ (k : Int) < 8 := by omega
            have own4 := own_keep HO3.out b4
            have HM4 := Lib.hid (HM3.out.below b4)
            obtain ⟨p, hp⟩ : ∃ p, (plainP (cutL L t i)).length = p := ⟨_, rfl⟩
            have hcl := cutL_len L t i (by rw [HN.out]; omega)
            have hpl := plain_len (cutL L t i) (by omega)
            rw [hp, hcl] at hpl
            have hSl4 : Sl w4 w4.heap.size (some ⟨g, off + t, none⟩) (byteVals (cutL L t i)) := Sl.cut (by omega) (fun j hj => (hb4.cell (p := ⟨g, off + j, none⟩) (by show g < r; omega)).trans (HC.out j hj)) t i (by rw [HN.out]; omega)
            have KP := Lib.hid (plain_walk (cutL L t i) (i - t) (some ⟨g, off + t, none⟩) (c - t) w4.heap.size w4 hcl (by omega) hSl4 (Nat.le_refl _))
            have HPp := Lib.hid (show (str (plainP (cutL L t i))).size = p by rw [str_size, hp])
            obtain ⟨d, hd⟩ : ∃ d, i - v = d := ⟨_, rfl⟩
            have KA := Lib.hid (fun w => again_walk k d w (by omega) (by omega) (by omega))
            rw [show ((d : Nat) : Int) = (i : Int) - (v : Int) by omega] at KA
            obtain ⟨p2, hp2⟩ : ∃ p, (againP k d).length = p := ⟨_, rfl⟩
            have hal6 := again_len k d (by omega) (by omega) (by omega)
            rw [hp2] at hal6
            have HPa := Lib.hid (show (str (againP k d)).size = p2 by rw [str_size, hp2])
            have HST := Lib.hid (pc_step HP.out (by rw [HN.out]; omega) hti (by omega) (by rw [HN.out]; exact hkN) hvi hfar HK.out.2)
            rw [hd] at HST
            have HOl := Lib.hid (show (o ++ plainP (cutL L t i) ++ againP k d).length = n + p + p2 by rw [List.length_append, List.length_append, HO.out, hp, hp2])
            have hti1 : (t : Int) ≤ (i : Int) := by omega
            have ht0 : 0 ≤ (t : Int) := by omega
            have hic : (i : Int) ≤ (c : Int) := by omega
            have HD2 := Lib.hid hd
            clear hp hcl hSl4 hp2 hd
            go_upto_region 14 with fail
            go_wp2_with fail
            refine KP.out.mono ?_
            rintro e w5 ⟨rfl, b5⟩
            have own5 := own_keep own4 b5
            have HM5 := HM4.out.below b5
            have hb5 := hb4.trans (b5.mono (by omega))
            have hz5s := b5.size
            clear KP own4
            go_wp2_with (at_builtin; refine wpList_app_str rfl _ _ _ _ rfl (r + 1) 5 i0 _ 1 Try.underlying32 Try.underlying9 hi hz0 hz1 hz2 rfl _ n _ rfl own5 _ p rfl HPp.out ?m1 ?m2 ?m3 ?_)
            case m1 => unfold maxLen; omega
            case m2 => omega
            case m3 => omega
            intro a6 c6 w6 own6 g6
            rw [str_toList, ← byteVals_append] at own6
            have HM6 := HM5.kept g6 (fun e => by have := (own5.lt r e.symm).1; omega)
            have hb6 := hb5.grown g6 (by omega) (fun k hk => by have := (own5.lt k hk).1; omega)
            have hz6s := g6.size
            clear own5 HM5 g6
            go_upto_region 15 with fail
            go_wp2_with fail
            refine (KA.out _).mono ?_
            rintro e w7 ⟨rfl, b7⟩
            have own7 := own_keep own6 b7
            have HM7 := HM6.below b7
            have hb7 := hb6.trans (b7.mono (by omega))
            have hz7s := b7.size
            clear KA own6 HM6
            go_wp2_with (at_builtin; refine wpList_app_str rfl _ _ _ _ rfl (r + 1) 5 i0 _ 1 Try.underlying32 Try.underlying9 hi hz0 hz1 hz2 rfl _ (n + p) _ rfl own7 _ p2 rfl HPa.out ?n1 ?n2 ?n3 ?_)
            case n1 => unfold maxLen; omega
            case n2 => omega
            case n3 => omega
            intro a8 c8 w8 own8 g8
            rw [str_toList, ← byteVals_append] at own8
            have HM8 := Lib.hid ((HM7.kept g8 (fun e => by have := (own7.lt r e.symm).1; omega)).mono (show i + 1 ≤ i + k by omega))
            have hb8 := hb7.grown g8 (by omega) (fun k hk => by have := (own7.lt k hk).1; omega)
            have hz8s := g8.size
            have HO8 := Lib.hid own8
            clear own7 HM7 g8 own8
            obtain ⟨wo, rfl⟩ : ∃ wo : World, wo = wr := ⟨_, rfl⟩
            go_upto_region 17 with fail
            go_wp2_with fail
            go_loopw [11] (fun J wz => ∃ (q m2 : Nat), i + 1 ≤ q ∧ q ≤ i + k ∧ J = .int .i64 q ∧ MapI wz r (i + k) m2 ∧ m2 ≤ q ∧ wz.ownsRow (r + 1) 5 1 (.slice a8 (n + p + p2) c8) (n + p + p2) (byteVals (o ++ plainP (cutL L t i) ++ againP k d)) ∧ Below r w wz ∧ r + 1 ≤ wz.heap.size) (fun J _ => i + k - (intOf J).toNat)
            case atStart => exact ⟨i + 1, m + 1, by omega, by omega, by go_num, HM8.out, by omega, HO8.out, hb8, by omega⟩
            case round =>
              obtain ⟨q, m2, hq1, hq2, rfl, HMq, hm2, ownq, hbq, hbqz⟩ := hrel
              by_cases hqk : q < i + k
              · have hqi : (q : Int) < (i : Int) + (k : Int) := by omega
                by_cases hq4 : q + 4 ≤ N
                · have hq4i : (q : Int) + 4 ≤ (N : Int) := by omega
                  have hq0 : 0 ≤ (q : Int) := by omega
                  have hqN : (q : Int) ≤ (N : Int) := by omega
                  have rd := fun j (hj : j < N) => (hbq.cell (p := ⟨g, off + j, none⟩) (by show g < r; omega)).trans (HC.out j (by rw [HN.out]; exact hj))
                  obtain ⟨y0, hy0⟩ : ∃ x, L.getD q 0 = x := ⟨_, rfl⟩
                  obtain ⟨y1, hy1⟩ : ∃ x, L.getD (q + 1) 0 = x := ⟨_, rfl⟩
                  obtain ⟨y2, hy2⟩ : ∃ x, L.getD (q + 2) 0 = x := ⟨_, rfl⟩
                  obtain ⟨y3, hy3⟩ : ∃ x, L.getD (q + 3) 0 = x := ⟨_, rfl⟩
                  have d0 := rd q (by omega)
                  have d1 := rd (q + 1) (by omega)
                  have d2 := rd (q + 2) (by omega)
                  have d3 := rd (q + 3) (by omega)
                  rw [hy0] at d0
                  rw [hy1, ← Nat.add_assoc] at d1
                  rw [hy2, ← Nat.add_assoc] at d2
                  rw [hy3, ← Nat.add_assoc] at d3
                  clear rd hy0 hy1 hy2 hy3
                  have hat : ∀ w, (Instr.arrayAt 48 (.slice (some ⟨g, off + q, none⟩) (N - q) (c - q))).run Try.prog w = .ok (.pointer (some ⟨g, off + q, none⟩)) w := fun w => run_arrayAt w 48 5 4 _ _ _ Try.underlying48 (by omega)
                  obtain ⟨kl2, hkl2⟩ := key4_some y0 y1 y2 y3
                  unfold key4 kb at hkl2
                  obtain ⟨D2, hD2⟩ := HMq
                  have HD2' := Lib.hid hD2
                  have HKL2 := Lib.hid hkl2
                  have HOq := Lib.hid ownq
                  have Hwq := Lib.hid (show IntKind.i64.wrap ((q : Int) + 1) = ((q + 1 : Nat) : Int) by rw [IntWalk.i64_in _ (by omega)]; omega)
                  clear hD2 hkl2 ownq
                  go_wp2_with (at_mapUpdate; refine wpList_mapUpdate_own _ rfl _ _ _ 47 rfl 48 3 law4 Try.underlying47 (bdR (i + k)) r m2 D2 rfl HD2'.out (by unfold maxLen; omega) _ _ kl2 rfl rfl HKL2.out _ _ (bdR_some hqk) ?_)
                  intro w9 ownM g9
                  have HM9 : MapI w9 r (i + k) (m2 + 1) := ⟨_, ownM⟩
                  have own9 := HOq.out.kept g9 (.inr (fun hh => by have := (HOq.out.lt r hh).1; omega))
                  have hb9 := hbq.grown g9 (by omega) (fun k hk => by cases hk; exact Nat.le_refl _)
                  have hz9s := g9.size
                  clear ownM g9 d0 d1 d2 d3 hat HOq HD2' HKL2
                  have hwq := Hwq.out
                  go_wp2_with fail
                  go_roundw
                  case rel => exact ⟨q + 1, m2 + 1, by omega, by omega, by go_num, HM9, by omega, own9, hb9, by omega⟩
                  case measure => simp [intOf]; omega
                · have hq4i : ¬ (q : Int) + 4 ≤ (N : Int) := by omega
                  go_wp2_with fail
                  go_roundw
                  case rel => exact ⟨i + k, i + k, o ++ plainP (cutL L t i) ++ againP k d, n + p + p2, m2, a8, c8, hkN, Nat.le_refl _, by go_num, by go_num, rfl, HOl, by have := HST.out.2.2; rw [HOl.out] at this; exact this, HST, HMq, by omega, ownq, hbq, hbqz⟩
                  case measure => simp [intOf]; omega
              · have hqi : ¬ (q : Int) < (i : Int) + (k : Int) := by omega
                go_wp2_with fail
                go_roundw
                case rel => exact ⟨i + k, i + k, o ++ plainP (cutL L t i) ++ againP k d, n + p + p2, m2, a8, c8, hkN, Nat.le_refl _, by go_num, by go_num, rfl, HOl, by have := HST.out.2.2; rw [HOl.out] at this; exact this, HST, HMq, by omega, ownq, hbq, hbqz⟩
                case measure => simp [intOf]; omega
        · have hfar2 : ¬ (i : Int) - (v : Int) ≤ 4096 := by omega
          have hvb : -9223372036854775808 ≤ (i : Int) - (v : Int) := by omega
          clear hSl3
          go_upto_region 12 with fail
          go_upto_region 13 with fail
          have hwi := Hwi.out
          go_wp2_with fail
          go_roundw
          case rel => exact ⟨i + 1, t, o, n, m + 1, a3, c3, by omega, by omega, by go_num, rfl, rfl, HO, hnt, HP, HM3.out, by omega, HO3.out, hb3, by omega⟩
          case measure => simp [intOf]; omega
    · have h4i : ¬ (i : Int) + 4 ≤ (N : Int) := by omega
      obtain ⟨p, hp⟩ : ∃ p, (plainP (cutL L t N)).length = p := ⟨_, rfl⟩
      have hcl := cutL_len L t N (by rw [HN.out]; omega)
      have hpl := plain_len (cutL L t N) (by omega)
      rw [hp, hcl] at hpl
      have HPp := Lib.hid (show (str (plainP (cutL L t N))).size = p by rw [str_size, hp])
      have HPE := Lib.hid (pc_end HP.out (by rw [HN.out]; exact hNm))
      rw [HN.out] at HPE
      have HOl := Lib.hid (show (o ++ plainP (cutL L t N)).length = n + p by rw [List.length_append, HO.out, hp])
      have ht0 : 0 ≤ (t : Int) := by omega
      have htN : (t : Int) ≤ (N : Int) := by omega
      have hNc : (N : Int) ≤ (c : Int) := by omega
      by_cases hct : c = t
      · obtain rfl : t = c := hct.symm
        clear hct
        obtain rfl : t = N := by omega
        clear hNc htN
        have hsl : Sl wr wr.heap.size (some ⟨g, off, none⟩) (byteVals (cutL L t t)) := .inl (List.eq_nil_of_length_eq_zero (by rw [byteVals_length, hcl]; omega))
        have KP := Lib.hid (plain_walk (cutL L t t) 0 (some ⟨g, off, none⟩) 0 wr.heap.size wr (by rw [hcl]; omega) (by omega) hsl (Nat.le_refl _))
        clear hp hcl hsl HM
        go_wp2_with fail
        refine KP.out.mono ?_
        rintro e w5 ⟨rfl, b5⟩
        have own5 := own_keep own b5
        have hb5 := hb.trans (b5.mono (by omega))
        have hz5s := b5.size
        clear KP own
        go_wp2_with (at_builtin; refine wpList_app_str rfl _ _ _ _ rfl (r + 1) 5 i0 _ 1 Try.underlying32 Try.underlying9 hi hz0 hz1 hz2 rfl _ n _ rfl own5 _ p rfl HPp.out ?m1 ?m2 ?m3 ?_)
        case m1 => unfold maxLen; omega
        case m2 => omega
        case m3 => omega
        intro a6 c6 w6 own6 g6
        rw [str_toList, ← byteVals_append] at own6
        have hb6 := hb5.grown g6 (by omega) (fun k hk => by have := (own5.lt k hk).1; omega)
        have hconv := conv_any 32 9 5 Try.underlying32 Try.underlying5 Try.underlying9 own6 HOl.out
        go_wp2_with fail
        go_ret
        exact ⟨_, HPE.out, rfl, by rw [hr]; exact hb6⟩
      · have hct2 : (t : Int) < (c : Int) := by omega
        have hsl : Sl wr wr.heap.size (some ⟨g, off + t, none⟩) (byteVals (cutL L t N)) := Sl.cut (by omega) (fun j hj => (hb.cell (p := ⟨g, off + j, none⟩) (by show g < r; omega)).trans (HC.out j hj)) t N (by rw [HN.out]; omega)
        have KP := Lib.hid (plain_walk (cutL L t N) (N - t) (some ⟨g, off + t, none⟩) (c - t) wr.heap.size wr hcl (by omega) hsl (Nat.le_refl _))
        clear hp hcl hsl HM
        go_wp2_with fail
        refine KP.out.mono ?_
        rintro e w5 ⟨rfl, b5⟩
        have own5 := own_keep own b5
        have hb5 := hb.trans (b5.mono (by omega))
        have hz5s := b5.size
        clear KP own
        go_wp2_with (at_builtin; refine wpList_app_str rfl _ _ _ _ rfl (r + 1) 5 i0 _ 1 Try.underlying32 Try.underlying9 hi hz0 hz1 hz2 rfl _ n _ rfl own5 _ p rfl HPp.out ?m1 ?m2 ?m3 ?_)
        case m1 => unfold maxLen; omega
        case m2 => omega
        case m3 => omega
        intro a6 c6 w6 own6 g6
        rw [str_toList, ← byteVals_append] at own6
        have hb6 := hb5.grown g6 (by omega) (fun k hk => by have := (own5.lt k hk).1; omega)
        have hconv := conv_any 32 9 5 Try.underlying32 Try.underlying5 Try.underlying9 own6 HOl.out
        go_wp2_with fail
        go_ret
        exact ⟨_, HPE.out, rfl, by rw [hr]; exact hb6⟩
end Go.Proofs.Ytnhchmbbhkgccaa

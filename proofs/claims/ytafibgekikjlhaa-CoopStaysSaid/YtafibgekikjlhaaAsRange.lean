/- The walks of assign's valid and Range. -/
import Derived.Test.YtafibgekikjlhaaAsClean
import Derived.Test.YtafibgekikjlhaaAsSt
import Derived.Deep.RegionHeld
namespace Go.Proofs.Ytafibgekikjlhaa
open Go.RowKit Vm As
set_option linter.unusedVariables false
set_option linter.unusedSimpArgs false

/-- A, and zeros behind it. -/
def part (A : List Int) (n : Nat) : List Int := A ++ List.replicate (n - A.length) 0
theorem part_len {A : List Int} {n : Nat} (h : A.length ≤ n) : (part A n).length = n := by simp [part]; omega
theorem part_set {A : List Int} {n : Nat} (h : A.length < n) (x : Int) : (part A n).set A.length x = part (A ++ [x]) n := by
  unfold part
  obtain ⟨k, hk⟩ : ∃ k, n - A.length = k + 1 := ⟨n - A.length - 1, by omega⟩
  rw [hk, List.length_append, show n - (A.length + [x].length) = k from by simp; omega, List.set_append_right _ _ (Nat.le_refl _), Nat.sub_self, List.replicate_succ]
  simp
theorem part_full {A : List Int} {n : Nat} (h : A.length = n) : part A n = A := by simp [part, h]
theorem ints_made (n : Nat) : (madeCells (Value.int .i64 0).cells (n * 1)).toList = i64s (part [] n) := by
  unfold madeCells i64s part
  rw [Nat.mul_one]
  apply List.ext_getElem
  · simp
  · intro i h1 h2; simp [Value.cells, Nat.mod_one]
set_option maxRecDepth 100000 in
theorem valid_walk (x : Int) (w : World) (d : Bool) (hd : (decide (1 ≤ x) && decide (x ≤ 64)) = d) : Calls Try.prog 35 #[.int .i64 x] w fun e w' => e = .returned (.bool d) ∧ Below w.heap.size w w' := by
  by_cases h1 : 1 ≤ x
  · have hg : decide (1 ≤ x) = true := decide_eq_true h1
    rw [hg, Bool.true_and] at hd
    go_enter Try.func35, Try.ntmps35
    go_wp2_with fail
    go_ret
    exact ⟨by first | rfl | (rw [← hd]), Below.refl _ _⟩
  · have hg : decide (1 ≤ x) = false := decide_eq_false h1
    rw [hg, Bool.false_and] at hd
    subst hd
    clear h1
    go_enter Try.func35, Try.ntmps35
    go_wp2_with fail
    go_ret
    exact ⟨by first | rfl | (rw [← hd]), Below.refl _ _⟩
def ArgPost (w : World) (e : Ending) (w' : World) : Prop := e = .returned (.tuple #[.slice none 0 0, .int .i64 1]) ∧ Below w.heap.size w w'
set_option maxRecDepth 100000 in
theorem range_bad (x : Int) (a : Option Addr) (N c : Nat) (w : World) (hd : (decide (1 ≤ x) && decide (x ≤ 64)) = false) : Calls Try.prog 10 #[.int .i64 x, .slice a N c] w (ArgPost w) := by
  have HV := Lib.hid (valid_walk x w false hd)
  clear hd
  go_enter Try.func10, Try.ntmps10
  go_wp2_with fail
  refine HV.out.mono ?_
  rintro e w1 ⟨rfl, b1⟩
  go_wp2_with fail
  go_ret2
  exact ⟨rfl, b1⟩
theorem Sl.set_far {w : World} {B g j : Nat} {a : Option Addr} {xs : List Value} (h : Sl w B a xs) (ha : ∀ x, a = some x → x.block ≠ g) (u : Value) : Sl (w.setCell ⟨g, j, none⟩ u) B a xs := by
  rcases h with h | ⟨b, off, e, hlt, hc⟩
  · exact .inl h
  · refine .inr ⟨b, off, e, hlt, fun i v hv => ?_⟩
    rw [World.cell?_setCell_far _ _ _ _ (by show g ≠ b; exact Ne.symm (ha _ e))]
    exact hc i v hv
/-- The owners, in a row of the call's own. -/
def RowPost (R : List Int) (M : Nat) (w : World) (e : Ending) (w' : World) : Prop := ∃ g, e = .returned (.tuple #[.slice (some ⟨g, 0, none⟩) M M, .int .i64 0]) ∧ w'.ownsRow w.heap.size 3 1 (.slice (some ⟨g, 0, none⟩) M M) M (i64s R) ∧ Below w.heap.size w w'
set_option maxRecDepth 100000 in
set_option maxHeartbeats 16000000 in
theorem range_walk (M : Nat) (l : List Int) (N : Nat) (a : Option Addr) (c B : Nat) (w : World) (hM1 : 1 ≤ M) (hM2 : M ≤ 64) (hN : l.length = N) (hNm : N ≤ 1000) (h : Sl w B a (i64s l)) (hB : B ≤ w.heap.size) :
    Calls Try.prog 10 #[.int .i64 (M : Int), .slice a N c] w fun e w' => ∃ m, MemIs l m ∧ RowPost (rangeL M m) M w e w' := by
  obtain ⟨i0, hi, hz0, hz1, hz2⟩ := info_parts info_i64
  have HV := Lib.hid (valid_walk (M : Int) w true (by rw [decide_eq_true (by omega), decide_eq_true (by omega)]; rfl))
  have HN := Lib.hid hN
  have HS := Lib.hid h
  clear hN h
  go_enter Try.func10, Try.ntmps10
  go_wp2_with fail
  refine HV.out.mono ?_
  rintro e w1 ⟨rfl, b1⟩
  have hw1z := b1.size
  clear HV
  have hMi : 0 ≤ (M : Int) := by omega
  go_wp2_with (at_make; refine wpList_make_full _ rfl _ _ 22 rfl w1.heap.size 3 i0 (.int .i64 0) 1 Try.underlying22 hi hz0 hz1 .i64 .i64 _ _ M rfl rfl rfl rfl (by rw [hz2]; omega) (by unfold maxLen; omega) (Nat.le_refl _) ?_; intro w0 own0 grow0)
  rw [ints_made] at own0
  have hb0 : Below w1.heap.size w1 w0 := (Below.refl _ _).grown grow0 (Nat.le_refl _) (fun k hk => by cases hk)
  obtain ⟨g, hg⟩ : ∃ g, w1.heap.size = g := ⟨_, rfl⟩
  have own1 : w0.ownsRow w.heap.size 3 1 (.slice (some ⟨g, 0, none⟩) M M) M (i64s (part [] M)) := own_base (by rw [← hg]; exact own0) hw1z
  have hb0' : Below w.heap.size w w0 := b1.trans (hb0.mono hw1z)
  rw [hg]
  have hgg : w.heap.size ≤ g := by omega
  clear hg own0 grow0
  have hw0z := hb0'.size
  have KC := Lib.hid (clean_walk l N a c B w0 HN.out hNm (HS.out.below (hb0'.mono (Nat.le_refl _)) hB) (by omega))
  clear hb0
  go_wp2_with fail
  refine KC.out.mono ?_
  rintro e w2 ⟨m, a2, c2, hm, rfl, hsl, hnew, b2⟩
  obtain ⟨g', e', _, hgw0, _, _⟩ := ownN_at own1 (by omega)
  injection e' with e'
  injection e' with e' _ _
  subst e'
  have own2 := own_keep own1 b2
  have hb2 := hb0'.trans (b2.mono hw0z)
  have hml : m.length ≤ 1000 := by have := memIs_len hm; rw [HN.out] at this; omega
  obtain ⟨k, hk⟩ : ∃ k, m.length = k := ⟨_, rfl⟩
  rw [hk] at hml ⊢
  have HK := Lib.hid hk
  have HMI := Lib.hid hm
  have HSl := Lib.hid hsl
  have hw2z := b2.size
  have HO2 := Lib.hid own2
  clear KC hm hk hsl own1 own2 HS HN
  go_wp2_with fail
  go_loopw [7, 20] (fun P I wr => ∃ (i : Nat) (A : List Int), i ≤ k ∧ P = .int .i64 A.length ∧ I = .int .i64 i ∧ Hid (A = rngTo M m i) ∧ wr.ownsRow w.heap.size 3 1 (.slice (some ⟨g, 0, none⟩) M M) M (i64s (part A M)) ∧ Below w.heap.size w wr ∧ Sl wr w2.heap.size a2 (i64s m) ∧ w2.heap.size ≤ wr.heap.size) (fun _ I _ => k - (intOf I).toNat)
  case atStart => exact ⟨0, [], by omega, rfl, rfl, Lib.hid rfl, HO2.out, hb2, HSl.out, Nat.le_refl _⟩
  case round =>
    obtain ⟨i, A, hik, rfl, rfl, HA, own, hb, hs, hs2⟩ := hrel
    have hbz := hb.size
    by_cases hlt : i < k
    · have hki : (i : Int) < (k : Int) := by omega
      have hi0 : 0 ≤ (i : Int) := by omega
      obtain ⟨b1', o1, rfl, hb1, hc⟩ := hs.ints (by rw [HK.out]; omega)
      have r0 := hc i (by rw [HK.out]; exact hlt)
      obtain ⟨x, hx⟩ : ∃ x, m.getD i 0 = x := ⟨_, rfl⟩
      rw [hx] at r0
      have hk0 : ((k : Int) == 0) = false := beq_eq_false_iff_ne.2 (by omega)
      have hz1 : b1' < wr.heap.size := by omega
      obtain ⟨q, hq⟩ : ∃ q, M / k = q := ⟨_, rfl⟩
      have hqM : q ≤ 64 := by have := Nat.div_le_self M k; omega
      have Hqd := Lib.hid (show wrap64 ((M : Int) / (k : Int)) = (q : Int) by
        rw [← Int.natCast_ediv, hq, IntWalk.wrap64_in _ (by omega)])
      have HQ := Lib.hid hq
      have HX := Lib.hid hx
      have HO := Lib.hid own
      obtain ⟨p, hp⟩ : ∃ p, A.length = p := ⟨_, rfl⟩
      have HAl := Lib.hid hp
      rw [hp]
      clear hc hx own hq hp
      by_cases hsm : i < M % k
      · have hsi : (i : Int) < (M : Int) % (k : Int) := by rw [← Int.natCast_emod]; omega
        obtain ⟨sh, hsh⟩ : ∃ sh, q + 1 = sh := ⟨_, rfl⟩
        have Hqs := Lib.hid (show wrap64 ((q : Int) + 1) = (sh : Int) by rw [IntWalk.wrap64_in _ (by omega)]; omega)
        have hshe : share M k i = sh := by unfold share; rw [if_pos hsm, HQ.out, hsh]
        have HA2 := Lib.hid (show A ++ List.replicate sh x = rngTo M m (i + 1) by rw [rngTo, HK.out, hshe, HX.out, ← HA.out])
        have hle : p + sh ≤ M := by
          have h1 := rngTo_le M m (i + 1) (by rw [HK.out]; omega) (by rw [HK.out]; omega)
          rw [← HA2.out, List.length_append, List.length_replicate, HAl.out] at h1; exact h1
        clear hshe hsm
        go_upto_region 12 with fail
        clear r0
        rw [Hqd.out, Hqs.out]
        go_wp2_with fail
        go_loopw [7, 38] (fun P J wz => ∃ d : Nat, d ≤ sh ∧ P = .int .i64 ((p + d : Nat) : Int) ∧ J = .int .i64 d ∧ wz.ownsRow w.heap.size 3 1 (.slice (some ⟨g, 0, none⟩) M M) M (i64s (part (A ++ List.replicate d x) M)) ∧ Below w.heap.size w wz ∧ Sl wz w2.heap.size (some ⟨b1', o1, none⟩) (i64s m) ∧ w2.heap.size ≤ wz.heap.size) (fun _ J _ => sh - (intOf J).toNat)
        case atStart => exact ⟨0, by omega, by rw [Nat.add_zero], rfl, by simpa using HO.out, hb, hs, hs2⟩
        case round =>
          obtain ⟨d, hd, rfl, rfl, ownz, hbw, hsz, hs2z⟩ := hrel
          by_cases hdl : d < sh
          · have hdi : (d : Int) < (sh : Int) := by omega
            have Hw1 := Lib.hid (show IntKind.i64.wrap ((d : Int) + 1) = ((d + 1 : Nat) : Int) by rw [IntWalk.i64_in _ (by omega)]; omega)
            have Hw2 := Lib.hid (show IntKind.i64.wrap (((p + d : Nat) : Int) + 1) = ((p + (d + 1) : Nat) : Int) by rw [IntWalk.i64_in _ (by omega)]; omega)
            obtain ⟨pd, hpd⟩ : ∃ pd, p + d = pd := ⟨_, rfl⟩
            rw [hpd] at Hw2 ⊢
            have hpd0 : 0 ≤ (pd : Int) := by omega
            have hpdM : (pd : Int) < (M : Int) := by omega
            have hlen : (A ++ List.replicate d x).length = pd := by rw [List.length_append, List.length_replicate, HAl.out]; exact hpd
            obtain ⟨g', e', hg3, _, hfr, hct⟩ := ownN_at ownz (by omega)
            injection e' with e'
            injection e' with e' _ _
            subst e'
            have f0 := hfr pd
            have c0 := hct pd _ (i64s_get _ pd (by rw [part_len (by omega)]; omega))
            have own3 := ownN_store (u := .int .i64 x) ownz (j := pd) (by rw [i64s_len, part_len (by omega)]; omega)
            rw [← i64s_set, ← hlen, part_set (by omega), List.append_assoc, ← List.replicate_succ', hlen] at own3
            have HO3 := Lib.hid own3
            have hb3 := hbw.setCell (p := ⟨g, pd, none⟩) hg3 (.int .i64 x)
            have hsl3 := hsz.set_far (g := g) (j := pd) (fun y hy => by have := hnew y hy; omega) (.int .i64 x)
            clear hct hfr ownz own3 hlen
            go_upto_region 15 with fail
            have hw2 := Hw2.out
            go_upto_region 16 with fail
            clear hw2
            have hw1 := Hw1.out
            go_wp2_with fail
            go_roundw
            case rel => exact ⟨d + 1, by omega, by go_num, by go_num, HO3.out, hb3, hsl3, by rw [World.size_setCell]; exact hs2z⟩
            case measure => simp [intOf]; omega
          · obtain rfl : d = sh := by omega
            have Hw1 := Lib.hid (show IntKind.i64.wrap ((i : Int) + 1) = ((i + 1 : Nat) : Int) by rw [IntWalk.i64_in _ (by omega)]; omega)
            have hw1 := Hw1.out
            go_wp2_with fail
            go_roundw
            case rel => exact ⟨i + 1, A ++ List.replicate d x, by omega, by rw [List.length_append, List.length_replicate, HAl.out], by go_num, HA2, ownz, hbw, hsz, hs2z⟩
            case measure => simp [intOf]; omega
      · have hsi : ¬ (i : Int) < (M : Int) % (k : Int) := by rw [← Int.natCast_emod]; omega
        have hshe : share M k i = q := by unfold share; rw [if_neg hsm, HQ.out]; rfl
        have HA2 := Lib.hid (show A ++ List.replicate q x = rngTo M m (i + 1) by rw [rngTo, HK.out, hshe, HX.out, ← HA.out])
        have hle : p + q ≤ M := by
          have h1 := rngTo_le M m (i + 1) (by rw [HK.out]; omega) (by rw [HK.out]; omega)
          rw [← HA2.out, List.length_append, List.length_replicate, HAl.out] at h1; exact h1
        clear hshe hsm
        go_upto_region 12 with fail
        clear r0
        rw [Hqd.out]
        go_wp2_with fail
        go_loopw [7, 38] (fun P J wz => ∃ d : Nat, d ≤ q ∧ P = .int .i64 ((p + d : Nat) : Int) ∧ J = .int .i64 d ∧ wz.ownsRow w.heap.size 3 1 (.slice (some ⟨g, 0, none⟩) M M) M (i64s (part (A ++ List.replicate d x) M)) ∧ Below w.heap.size w wz ∧ Sl wz w2.heap.size (some ⟨b1', o1, none⟩) (i64s m) ∧ w2.heap.size ≤ wz.heap.size) (fun _ J _ => q - (intOf J).toNat)
        case atStart => exact ⟨0, by omega, by rw [Nat.add_zero], rfl, by simpa using HO.out, hb, hs, hs2⟩
        case round =>
          obtain ⟨d, hd, rfl, rfl, ownz, hbw, hsz, hs2z⟩ := hrel
          by_cases hdl : d < q
          · have hdi : (d : Int) < (q : Int) := by omega
            have Hw1 := Lib.hid (show IntKind.i64.wrap ((d : Int) + 1) = ((d + 1 : Nat) : Int) by rw [IntWalk.i64_in _ (by omega)]; omega)
            have Hw2 := Lib.hid (show IntKind.i64.wrap (((p + d : Nat) : Int) + 1) = ((p + (d + 1) : Nat) : Int) by rw [IntWalk.i64_in _ (by omega)]; omega)
            obtain ⟨pd, hpd⟩ : ∃ pd, p + d = pd := ⟨_, rfl⟩
            rw [hpd] at Hw2 ⊢
            have hpd0 : 0 ≤ (pd : Int) := by omega
            have hpdM : (pd : Int) < (M : Int) := by omega
            have hlen : (A ++ List.replicate d x).length = pd := by rw [List.length_append, List.length_replicate, HAl.out]; exact hpd
            obtain ⟨g', e', hg3, _, hfr, hct⟩ := ownN_at ownz (by omega)
            injection e' with e'
            injection e' with e' _ _
            subst e'
            have f0 := hfr pd
            have c0 := hct pd _ (i64s_get _ pd (by rw [part_len (by omega)]; omega))
            have own3 := ownN_store (u := .int .i64 x) ownz (j := pd) (by rw [i64s_len, part_len (by omega)]; omega)
            rw [← i64s_set, ← hlen, part_set (by omega), List.append_assoc, ← List.replicate_succ', hlen] at own3
            have HO3 := Lib.hid own3
            have hb3 := hbw.setCell (p := ⟨g, pd, none⟩) hg3 (.int .i64 x)
            have hsl3 := hsz.set_far (g := g) (j := pd) (fun y hy => by have := hnew y hy; omega) (.int .i64 x)
            clear hct hfr ownz own3 hlen
            go_upto_region 15 with fail
            have hw2 := Hw2.out
            go_upto_region 16 with fail
            clear hw2
            have hw1 := Hw1.out
            go_wp2_with fail
            go_roundw
            case rel => exact ⟨d + 1, by omega, by go_num, by go_num, HO3.out, hb3, hsl3, by rw [World.size_setCell]; exact hs2z⟩
            case measure => simp [intOf]; omega
          · obtain rfl : d = q := by omega
            have Hw1 := Lib.hid (show IntKind.i64.wrap ((i : Int) + 1) = ((i + 1 : Nat) : Int) by rw [IntWalk.i64_in _ (by omega)]; omega)
            have hw1 := Hw1.out
            go_wp2_with fail
            go_roundw
            case rel => exact ⟨i + 1, A ++ List.replicate d x, by omega, by rw [List.length_append, List.length_replicate, HAl.out], by go_num, HA2, ownz, hbw, hsz, hs2z⟩
            case measure => simp [intOf]; omega
    · obtain rfl : i = k := by omega
      go_wp2_with fail
      go_ret2
      refine ⟨m, HMI.out, g, rfl, ?_, hb⟩
      have e : part A M = rangeL M m := by
        unfold rangeL
        rw [HA.out]
        by_cases h0 : m = []
        · subst h0
          rw [← HK.out, if_pos rfl]; simp [rngTo, part]
        · rw [if_neg h0, ← HK.out]
          exact part_full (rngTo_all M m (List.length_pos_iff.2 h0))
      rw [← e]; exact own
end Go.Proofs.Ytafibgekikjlhaa

/- The walk of headgateref29.Encode. -/
import Derived.Test.YtbljhmcenjmjjaaBkEnc
import Derived.Test.YtbljhmcenjmjjaaRefBk
import Derived.Test.YtbljhmcenjmjjaaRefPut
import Derived.Deep.RegionHeld3
namespace Go.Proofs.Ytbljhmcenjmjjaa
open Go.RowKit Vm Sk
set_option linter.unusedVariables false

theorem str_app (a b : List UInt8) : str a ++ str b = str (a ++ b) := by
  apply ByteArray.ext
  apply Array.ext'
  rw [ByteArray.data_append, Array.toList_append, str_toList, str_toList, str_toList]
theorem el_keep {V w w' : World} {b i : Nat} {u : Value} (h : w.cell? ⟨b, i, none⟩ = some u ∧ b < w.heap.size ∧ Below V.heap.size V w) (hb : Below w.heap.size w w') : w'.cell? ⟨b, i, none⟩ = some u ∧ b < w'.heap.size ∧ Below V.heap.size V w' :=
  ⟨(hb.cell (p := ⟨b, i, none⟩) h.2.1).trans h.1, Nat.lt_of_lt_of_le h.2.1 hb.size, h.2.2.trans (hb.mono h.2.2.size)⟩

set_option maxRecDepth 100000 in
set_option maxHeartbeats 4000000 in
theorem rbkenc_yes (l : List Bk) (N : Nat) (a : Option Addr) (c B : Nat) (w : World) (hN : l.length = N) (hlen : N ≤ 2000) (hm : MayS l) (h : Sl w B a (bkCells l)) (hB : B ≤ w.heap.size) :
    Calls Try.prog 31 #[.slice a N c] w fun e w' => e = .returned (.tuple #[.string (str (skL l)), .int .i64 0]) ∧ Below w.heap.size w w' := by
  have HC := Lib.hid (fun w h hB => rmay29_walk l N a c B w true hN hlen ⟨fun _ => hm, fun _ => rfl⟩ h hB)
  have HR := Lib.hid hm.rng
  have e0 : skL l = putL (N : Int) ++ encD 0 l := by unfold skL; rw [hN]
  rw [e0]
  have iN : I64 (N : Int) := ⟨by omega, by omega⟩
  have P0 := Lib.hid (fun W => ref_put_walk (N : Int) W iN)
  have z1 := putL_len iN
  generalize putL (N : Int) = H at *
  clear hm e0
  go_enter Try.func31, Try.ntmps31
  go_wp2_with fail
  refine (HC.out _ h hB).mono ?_
  rintro e w1 ⟨rfl, g1⟩
  have L1 := h.below g1 hB
  have hB1 := Nat.le_trans hB g1.size
  clear h
  go_wp2_with fail
  refine (P0.out _).mono ?_
  rintro e w2 ⟨rfl, gg⟩
  have g2 := gtrans g1 gg
  have L1 := L1.below gg hB1
  have hB1 := Nat.le_trans hB1 gg.size
  clear gg g1 P0
  go_wp2_with fail
  go_loopw [4, 5] (fun S i wr => ∃ k : Nat, k ≤ N ∧ i = .int .i64 k ∧ S = .string (str (H ++ encD 0 (l.take k))) ∧ Below w2.heap.size w2 wr) (fun _ i _ => N - (intOf i).toNat)
  case atStart => exact ⟨0, by omega, rfl, by simp [encD], Below.refl _ _⟩
  case round =>
    obtain ⟨k, hk, rfl, rfl, hb⟩ := hrel
    have hlk := encD_len (l.take k) 0 (HR.out.take k) ⟨by omega, by omega⟩
    have hlk2 : (l.take k).length ≤ k := List.length_take_le _ _
    obtain ⟨wo, rfl⟩ : ∃ wo : World, wo = wr := ⟨_, rfl⟩
    by_cases hlt : k < N
    · obtain ⟨b1, o1, rfl, hb1, hc⟩ := (L1.below hb hB1).bk (by omega)
      obtain ⟨r0, r1⟩ := hc k (by omega)
      have hz1 : b1 < wo.heap.size := by have := hb.size; omega
      have hx := HR.out.getD k (by omega)
      have hla := lastOf_rng (l.take k) 0 (HR.out.take k) ⟨by omega, by omega⟩
      have hts := Lib.hid (show encD 0 (l.take (k + 1)) = encD 0 (l.take k) ++ (putL ((l.getD k bk0).b - lastOf 0 (l.take k)) ++ putL (l.getD k bk0).n) by rw [take_getD l k (by omega), encD_snoc])
      have hl1 : (H ++ encD 0 (l.take k)).length ≤ 50000 := by rw [List.length_append]; omega
      have hprev : (k = 0 ∧ lastOf 0 (l.take k) = 0) ∨ ∃ j : Nat, k = j + 1 ∧ j < N ∧ IntKind.i64.wrap ((k : Int) - 1) = (j : Int) ∧ wo.cell? ⟨b1, o1 + j * 2, none⟩ = some (.int .i64 (lastOf 0 (l.take k))) := by
        cases k with
        | zero => exact .inl ⟨rfl, rfl⟩
        | succ j => exact .inr ⟨j, rfl, by omega, by rw [IntWalk.i64_in _ (by omega)]; omega, by rw [take_getD l j (by omega), lastOf_snoc]; exact (hc j (by omega)).1⟩
      clear hc
      generalize l.getD k bk0 = x at *
      obtain ⟨xb, xn⟩ := x
      simp only at r0 r1 hx hts
      generalize lastOf 0 (l.take k) = la at *
      have id : I64 (xb - la) := ⟨by omega, by omega⟩
      have hsub : IntKind.i64.wrap (xb - la) = xb - la := IntWalk.i64_in _ id
      have P1 := Lib.hid (fun W => ref_put_walk (xb - la) W id)
      have P2 := Lib.hid (fun W => ref_put_walk xn W hx.2.2)
      have l1 := putL_len id
      have l2 := putL_len hx.2.2
      have q1 : ¬ (9223372036854775807 < (str (H ++ encD 0 (l.take k))).size + (str (putL (xb - la))).size) := by rw [str_size, str_size]; omega
      have q2 : ¬ (9223372036854775807 < (str (H ++ encD 0 (l.take k))).size + (str (putL (xb - la))).size + (str (putL xn)).size) := by rw [str_size, str_size, str_size]; omega
      have HA := Lib.hid (show str (H ++ encD 0 (l.take k)) ++ str (putL (xb - la)) ++ str (putL xn) = str (H ++ encD 0 (l.take (k + 1))) by rw [str_app, str_app, hts.out]; simp)
      clear l1 l2 hx hl1 hlk hlk2 hts
      generalize str (H ++ encD 0 (l.take k)) = X at *
      generalize str (putL (xb - la)) = Y at *
      generalize str (putL xn) = Z at *
      rcases hprev with ⟨rfl, rfl⟩ | ⟨j, hkj, hjN, hjw, p0⟩
      · simp only [Nat.zero_mul, Nat.add_zero] at r0 r1
        rw [show xb - 0 = xb from by omega] at P1
        have hbV := hb
        have hS0 : wo.drew.cell? ⟨b1, o1 + 1, none⟩ = some (.int .i64 xn) ∧ b1 < wo.drew.heap.size ∧ Below wo.heap.size wo wo.drew := ⟨r1, hz1, (Below.refl _ _).drew⟩
        go_wp2_with fail
        go_region_held3 (fun w' => w'.cell? ⟨b1, o1 + 1, none⟩ = some (.int .i64 xn) ∧ b1 < w'.heap.size ∧ Below wo.heap.size wo w')
          (with_reducible assumption)
          (first
            | (go_at_call_of 43 xb; refine (P1.out _).mono ?_; rintro x w3 ⟨rfl, h3⟩; have y := el_keep (by with_reducible assumption) h3)
            | (go_at_call_of 43 xn; refine (P2.out _).mono ?_; rintro x w4 ⟨rfl, h4⟩; have y := el_keep (by with_reducible assumption) h4))
        all_goals
          go_wp2_with fail
          go_roundw
          case rel => exact ⟨0 + 1, by omega, by go_num, by rw [HA.out], hbV.trans (y.2.2.mono hbV.size)⟩
          case measure => simp [intOf]; omega
      · have hk0 : 0 < k := by omega
        have d4 : decide (0 < k) = true := decide_eq_true hk0
        generalize hdv : xb - la = dv at *
        clear hkj
        go_wp2_with fail
        go_quiet (fail)
        go_wp2_with fail
        obtain ⟨V, hV⟩ : ∃ V, V = wo.drewN nq := ⟨_, rfl⟩
        rw [← hV]
        have hbV : Below w2.heap.size w2 V := by rw [hV]; exact hb.trans (below_drewN _ _ _)
        have hS0 : V.drew.cell? ⟨b1, o1 + k * 2 + 1, none⟩ = some (.int .i64 xn) ∧ b1 < V.drew.heap.size ∧ Below V.heap.size V V.drew := by rw [hV]; exact ⟨r1, hz1, (Below.refl _ _).drew⟩
        clear hV
        go_region_held3 (fun w' => w'.cell? ⟨b1, o1 + k * 2 + 1, none⟩ = some (.int .i64 xn) ∧ b1 < w'.heap.size ∧ Below V.heap.size V w')
          (with_reducible assumption)
          (first
            | (go_at_call_of 43 dv; refine (P1.out _).mono ?_; rintro x w3 ⟨rfl, h3⟩; have y := el_keep (by with_reducible assumption) h3)
            | (go_at_call_of 43 xn; refine (P2.out _).mono ?_; rintro x w4 ⟨rfl, h4⟩; have y := el_keep (by with_reducible assumption) h4))
        all_goals
          go_wp2_with fail
          go_roundw
          case rel => exact ⟨k + 1, by omega, by go_num, by rw [HA.out], hbV.trans (y.2.2.mono hbV.size)⟩
          case measure => simp [intOf]; omega
    · have hall : l.take k = l := List.take_of_length_le (by omega)
      rw [hall]
      go_wp2_with fail
      go_ret2
      exact ⟨rfl, g2.trans (hb.mono g2.size)⟩

set_option maxRecDepth 100000 in
set_option maxHeartbeats 1000000 in
theorem rbkenc_no (l : List Bk) (N : Nat) (a : Option Addr) (c B : Nat) (w : World) (hN : l.length = N) (hlen : N ≤ 2000) (hm : ¬ MayS l) (h : Sl w B a (bkCells l)) (hB : B ≤ w.heap.size) :
    Calls Try.prog 31 #[.slice a N c] w fun e w' => e = .returned (.tuple #[.string ⟨#[]⟩, .int .i64 1]) ∧ Below w.heap.size w w' := by
  have HC := Lib.hid (fun w h hB => rmay29_walk l N a c B w false hN hlen ⟨fun h => (by cases h), fun h => absurd h hm⟩ h hB)
  clear hm
  go_enter Try.func31, Try.ntmps31
  go_wp2_with fail
  refine (HC.out _ h hB).mono ?_
  rintro e w1 ⟨rfl, g1⟩
  go_wp2_with fail
  go_ret2
  exact ⟨rfl, g1⟩
end Go.Proofs.Ytbljhmcenjmjjaa

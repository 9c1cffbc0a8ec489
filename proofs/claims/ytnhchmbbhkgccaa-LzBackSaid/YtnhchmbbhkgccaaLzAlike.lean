/- The walks of lz.alike, plain, again. -/
import Derived.Test.YtnhchmbbhkgccaaLzPer
import Derived.Test.YtnhchmbbhkgccaaLzUnpack
import Derived.Test.YtnhchmbbhkgccaaPutAll
import Derived.Test.YtnhchmbbhkgccaaLzRef
import Derived.BigQuiet
import Derived.Deep.RegionHeld3
namespace Go.Proofs.Ytnhchmbbhkgccaa
open Go.RowKit Vm Lz
set_option linter.unusedVariables false
set_option linter.unusedSimpArgs false

theorem Sl.bytes {w : World} {B : Nat} {a : Option Addr} {L : List UInt8} (h : Sl w B a (byteVals L)) (h0 : 0 < L.length) :
    ∃ b off, a = some ⟨b, off, none⟩ ∧ b < B ∧ ∀ j, j < L.length → w.cell? ⟨b, off + j, none⟩ = some (.int .u8 ((L.getD j 0).toNat : Int)) := by
  rcases h with h | ⟨b, off, e, hlt, hc⟩
  · have := congrArg List.length h
    rw [byteVals_length, List.length_nil] at this; omega
  · exact ⟨b, off, e, hlt, fun j hj => hc _ _ (byteVals_get L j hj)⟩
set_option maxRecDepth 100000 in
set_option maxHeartbeats 4000000 in
theorem alike_walk (L : List UInt8) (N i j : Nat) (a : Option Addr) (c B : Nat) (w : World) (hN : L.length = N) (hNm : N ≤ 1048576) (hji : j < i) (hiN : i < N) (h : Sl w B a (byteVals L)) (hB : B ≤ w.heap.size) :
    Calls Try.prog 23 #[.slice a N c, .int .i64 j, .int .i64 i] w fun e w' => ∃ n : Nat, e = .returned (.int .i64 n) ∧ (i + n ≤ N ∧ ∀ k, k < n → L.getD (j + k) 0 = L.getD (i + k) 0) ∧ Below w.heap.size w w' := by
  have HN := Lib.hid hN
  obtain ⟨g, off, rfl, hgB, hc⟩ := h.bytes (by omega)
  clear hN h
  go_enter Try.func23, Try.ntmps23
  go_wp2_with fail
  go_loopw [7] (fun J wr => ∃ n : Nat, J = .int .i64 n ∧ i + n ≤ N ∧ Hid (∀ k, k < n → L.getD (j + k) 0 = L.getD (i + k) 0) ∧ Below w.heap.size w wr) (fun J _ => N - (intOf J).toNat)
  case atStart => exact ⟨0, rfl, by omega, Lib.hid (fun k hk => by omega), Below.refl _ _⟩
  case round =>
    obtain ⟨n, rfl, hn, HE, hb⟩ := hrel
    by_cases hlt : i + n < N
    · have hd : decide (i + n < N) = true := by simp; omega
      have h1 : 0 ≤ (j : Int) + (n : Int) := by omega
      have h2 : (j : Int) + (n : Int) < (N : Int) := by omega
      have h3 : 0 ≤ (i : Int) + (n : Int) := by omega
      have h4 : (i : Int) + (n : Int) < (N : Int) := by omega
      have x0 := (hb.cell (p := ⟨g, off + (j + n), none⟩) (by show g < _; omega)).trans (hc (j + n) (by rw [HN.out]; omega))
      have y0 := (hb.cell (p := ⟨g, off + (i + n), none⟩) (by show g < _; omega)).trans (hc (i + n) (by rw [HN.out]; omega))
      obtain ⟨x, hx⟩ : ∃ x, L.getD (j + n) 0 = x := ⟨_, rfl⟩
      obtain ⟨y, hy⟩ : ∃ y, L.getD (i + n) 0 = y := ⟨_, rfl⟩
      rw [hx] at x0
      rw [hy] at y0
      by_cases he : x = y
      · have HE2 := Lib.hid (show ∀ k, k < n + 1 → L.getD (j + k) 0 = L.getD (i + k) 0 from fun k hk => by
          by_cases h5 : k < n
          · exact HE.out k h5
          · rw [show k = n by omega, hx, hy, he])
        have he2 : ((x.toNat : Int) == (y.toNat : Int)) = true := by rw [he]; simp
        clear hx hy he hc hlt
        go_upto_region 2 with fail
        go_quiet (fail)
        go_wp2_with fail
        go_roundw
        case rel => exact ⟨n + 1, by go_num, by omega, HE2, hb.trans (below_drewN _ _ _)⟩
        case measure => simp [intOf]; omega
      · have he2 : ((x.toNat : Int) == (y.toNat : Int)) = false := by
          have : x.toNat ≠ y.toNat := fun h => he (UInt8.toNat_inj.1 h)
          simp; omega
        clear hx hy he hc hlt
        go_upto_region 2 with fail
        go_quiet (fail)
        go_wp2_with fail
        go_ret
        exact ⟨n, rfl, ⟨hn, HE.out⟩, hb.trans (below_drewN _ _ _)⟩
    · have hd : decide ((i : Int) + (n : Int) < (N : Int)) = false := by simp; omega
      clear hlt
      go_upto_region 2 with fail
      go_quiet (fail)
      go_wp2_with fail
      go_ret
      exact ⟨n, rfl, ⟨hn, HE.out⟩, hb.trans (below_drewN _ _ _)⟩
theorem conv_sl {P : Program} {w : World} {B n : Nat} {a : Option Addr} {c : Nat} {L : List UInt8} (src dst e : TypeId) (hs : P.underlying src = some (.slice e)) (he : P.underlying e = some (.int .u8)) (hd : P.underlying dst = some .string)
    (h : Sl w B a (byteVals L)) (hl : L.length = n) : (convert src dst (.slice a n c)).run P w = .ok (.string (str L)) w := by
  subst hl
  by_cases h0 : 0 < L.length
  · obtain ⟨b, off, rfl, _, hc⟩ := h.bytes h0
    refine run_convert_bytes_back w src dst e ⟨b, off, none⟩ c L hs he hd fun j hj => ?_
    rw [add_at, hc j hj]
    simp [List.getD, hj]
  · have : L = [] := List.eq_nil_of_length_eq_zero (by omega)
    subst this
    cases a with
    | none => exact run_convert_bytes_nil w src e hs he _ _ _ hd
    | some x => exact run_convert_bytes_back w src dst e x c [] hs he hd (fun j hj => by simp at hj)
set_option maxRecDepth 100000 in
set_option maxHeartbeats 4000000 in
theorem plain_walk (L : List UInt8) (N : Nat) (a : Option Addr) (c B : Nat) (w : World) (hN : L.length = N) (hNm : N ≤ 1048576) (h : Sl w B a (byteVals L)) (hB : B ≤ w.heap.size) :
    Calls Try.prog 24 #[.slice a N c] w fun e w' => e = .returned (.string (str (plainP L))) ∧ Below w.heap.size w w' := by
  by_cases h0 : N = 0
  · have : L = [] := List.eq_nil_of_length_eq_zero (by omega)
    subst this
    subst h0
    go_enter Try.func24, Try.ntmps24
    go_wp2_with fail
    go_ret
    exact ⟨rfl, Below.refl _ _⟩
  · have hp : plainP L = putL (2 * (N : Int)) ++ L := by
      unfold plainP
      rw [if_neg (fun e => h0 (by rw [← hN, e]; rfl)), hN]
    have HP := Lib.hid hp
    have hpl := (plain_len L (by omega))
    rw [hp, List.length_append] at hpl
    have hN0 : decide ((N : Int) = 0) = false := by simp; omega
    have hN1 : ((N : Int) == 0) = false := by simp; omega
    have hmul : IntKind.i64.wrap (2 * (N : Int)) = 2 * (N : Int) := IntWalk.i64_in _ (by omega)
    have HC := Lib.hid (fun (w' : World) (b : Below w.heap.size w w') => conv_sl (P := Try.prog) (n := N) (c := c) 32 9 5 Try.underlying32 Try.underlying5 Try.underlying9 (h.below b hB) hN)
    have K := Lib.hid (fun w' => put_walk (2 * (N : Int)) w' (by unfold I64; omega))
    have hcat : ¬ (9223372036854775807 < (str (putL (2 * (N : Int)))).size + (str L).size) := by rw [str_size, str_size]; omega
    have hE := HC.out w.drew (Below.refl _ _).drew
    have hB0 : Below w.heap.size w w.drew := (Below.refl _ _).drew
    clear h hN hp hpl h0
    go_enter Try.func24, Try.ntmps24
    go_upto_region 3 with fail
    go_region_held3 (fun w' => (convert 32 9 (.slice a N c)).run Try.prog w' = .ok (.string (str L)) w' ∧ Below w.heap.size w w') (first | exact ⟨hE, hB0⟩ | exact ⟨HC.out _ (by with_reducible assumption), by with_reducible assumption⟩)
      ((go_at_call 27; refine (K.out _).mono ?_; rintro e w1 ⟨rfl, b1⟩; have y := gtrans hB0 b1))
    go_wp2_with fail
    go_ret
    exact ⟨by rw [HP.out, ← str_app]; rfl, gtrans hB0 b1⟩
set_option maxRecDepth 100000 in
set_option maxHeartbeats 4000000 in
theorem again_walk (n b : Nat) (w : World) (hn : 4 ≤ n) (hn2 : n ≤ 1048576) (hb : b ≤ 1048576) :
    Calls Try.prog 20 #[.int .i64 n, .int .i64 b] w fun e w' => e = .returned (.string (str (againP n b))) ∧ Below w.heap.size w w' := by
  have h1 : wrap64 (2 * ((n : Int) - 4)) = 2 * ((n : Int) - 4) := IntWalk.wrap64_in _ (by omega)
  obtain ⟨z, hz⟩ : ∃ z, z = 2 * ((n : Int) - 4) + 1 := ⟨_, rfl⟩
  have hal := balloc w (.cells #[.int .i64 z, .int .i64 b] 3)
  have K := Lib.hid (put_all_walk (some ⟨w.heap.size, 0, none⟩) 2 2 _ [z, (b : Int)] (w.alloc (.cells #[.int .i64 z, .int .i64 b] 3)) rfl (by omega) (sl_fresh w [.int .i64 z, .int .i64 b] 3) (Nat.le_refl _) (fun x hx => by simp at hx; unfold I64; rcases hx with rfl | rfl <;> omega))
  rw [hz] at K hal
  have HF := Lib.hid (show putN [z, (b : Int)] = againP n b by unfold againP putN; rw [hz]; simp)
  rw [hz] at HF
  clear hz
  go_enter Try.func20, Try.ntmps20
  go_wp2_with fail
  refine K.out.mono ?_
  rintro e w1 ⟨rfl, b1⟩
  go_wp2_with fail
  go_ret
  exact ⟨by rw [HF.out]; rfl, gtrans hal b1⟩
end Go.Proofs.Ytnhchmbbhkgccaa

/- The walk of lz.Pack. -/
import Derived.Test.YtnhchmbbhkgccaaLzPieces
namespace Go.Proofs.Ytnhchmbbhkgccaa
open Go.RowKit Vm Lz
set_option linter.unusedVariables false
set_option linter.unusedSimpArgs false

theorem conv_to_bytes {P : Program} (w : World) (src dst e : TypeId) (s : ByteArray) (hs : P.underlying src = some .string) (hd : P.underlying dst = some (.slice e)) (he : P.underlying e = some (.int .u8)) :
    ∃ (C : Nat) (w1 : World), (convert src dst (.string s)).run P w = .ok (.slice (some ⟨w.heap.size, 0, none⟩) s.size C) w1 ∧ s.size ≤ C ∧ w1.heap.size = w.heap.size + 1 ∧ Below w.heap.size w w1 ∧
      ∀ j, j < s.size → w1.cell? ⟨w.heap.size, 0 + j, none⟩ = some (.int .u8 ((s.data.toList.getD j 0).toNat : Int)) := by
  have h := run_bytes_of_string w src dst e s hs hd he
  have hC := grownCap_ge w s.size 0 e
  generalize grownCap w s.size 0 e = C at h hC
  refine ⟨C, _, h, hC, by simp, ((Below.refl _ w).drew).alloc (Nat.le_refl _) _, fun j hj => ?_⟩
  have hj' : j < s.data.size := hj
  have hb := heap_alloc_new w.drew (.cells (bytesRow s C) e ((bytesRow s C).size, (bytesRow s C).size + 1))
  rw [Nat.zero_add, cell_of_row _ w.heap.size j _ _ _ hb, bytesRow_at s C j hj']
  simp only [List.getD, Array.getElem?_toList]
  rw [Array.getElem?_eq_getElem hj']; rfl
set_option maxRecDepth 100000 in
set_option maxHeartbeats 8000000 in
theorem pack_walk (s : ByteArray) (w : World) (hs : s.size ≤ 1048576) :
    Calls Try.prog 13 #[.string s] w fun e w' => ∃ t, PackIs s.data.toList t ∧ e = .returned (.tuple #[.string (str t), .int .i64 0]) ∧ Below w.heap.size w w' := by
  obtain ⟨L, hL⟩ : ∃ L, s.data.toList = L := ⟨_, rfl⟩
  obtain ⟨N, hN⟩ : ∃ N, s.size = N := ⟨_, rfl⟩
  have hLN : L.length = N := by rw [← hL, toList_length, hN]
  have hNi : (N : Int) ≤ 1048576 := by omega
  have hNn : decide ((1048576 : Int) < (N : Int)) = false := by simp; omega
  obtain ⟨C, w1, hconv, hC, hz1, hb1, hc⟩ := conv_to_bytes (P := Try.prog) w 9 32 5 s Try.underlying9 Try.underlying32 Try.underlying5
  rw [hN] at hconv hC hc
  rw [hL] at hc ⊢
  obtain ⟨g, hg⟩ : ∃ g, w.heap.size = g := ⟨_, rfl⟩
  rw [hg] at hconv hc hz1 hb1 ⊢
  have hs2 : Sl w1 (g + 1) (some ⟨g, 0, none⟩) (byteVals L) := Sl.ofCells (by omega) (fun j hj => hc j (by omega))
  have K1 := Lib.hid (period_walk L N (some ⟨g, 0, none⟩) C (g + 1) w1 hLN (by omega) hs2 (by omega))
  have HC := Lib.hid hc
  have HL := Lib.hid hLN
  have HN := Lib.hid hN
  clear hc hs2 hL hLN
  go_enter Try.func13, Try.ntmps13
  go_upto_region 4 with fail
  clear hconv
  go_wp2_with fail
  refine K1.out.mono ?_
  rintro e w2 ⟨p, hp, rfl, b2⟩
  have hpN := per_le hp
  rw [HL.out] at hpN
  have HP := Lib.hid hp
  have hb2 := hb1.trans (b2.mono (by omega))
  have hz2 := b2.size
  have rd := fun j (hj : j < L.length) => (b2.cell (p := ⟨g, 0 + j, none⟩) (by show g < _; omega)).trans (HC.out j (by rw [← HL.out]; exact hj))
  have hpi : (p : Int) ≤ (N : Int) := by omega
  have hp0 : 0 ≤ (p : Int) := by omega
  clear hp K1
  by_cases h1 : p ≤ 4096 ∧ p + 4 ≤ N
  · obtain ⟨h1a, h1b⟩ := h1
    have h1c : (p : Int) ≤ 4096 := by omega
    have h1d : (4 : Int) ≤ (N : Int) - (p : Int) := by omega
    have hpC : (p : Int) ≤ (C : Int) := by omega
    have htl : (L.take p).length = p := by rw [List.length_take, HL.out]; omega
    have K2 := Lib.hid (pieces_walk (L.take p) p g 0 C (g + 1) w2 htl (by omega) (by omega) (by omega) (fun j hj => by
      rw [htl] at hj
      have := rd j (by rw [HL.out]; omega)
      rw [this]
      congr 4
      simp [List.getD, hj]) (by omega))
    obtain ⟨q, hq⟩ : ∃ q, N - p = q := ⟨_, rfl⟩
    have K3 := Lib.hid (fun w => again_walk q p w (by omega) (by omega) (by omega))
    rw [show ((q : Nat) : Int) = (N : Int) - (p : Int) by omega] at K3
    have HQ := Lib.hid hq
    have hal := again_len q p (by omega) (by omega) h1a
    clear rd htl hq
    go_wp2_with fail
    refine K2.out.mono ?_
    rintro e w3 ⟨P, hP, rfl, b3⟩
    have hPl := hP.2
    rw [List.length_take, HL.out, Nat.min_eq_left hpN] at hPl
    have HPc := Lib.hid hP
    have hb3 := hb2.trans (b3.mono (by omega))
    clear hP K2
    go_wp2_with fail
    refine (K3.out _).mono ?_
    rintro e w4 ⟨rfl, b4⟩
    have hb4 := hb3.trans (b4.mono (by have := b3.size; omega))
    have hs3 := str_size P
    have hs4 := str_size (againP q p)
    have hcat : ¬ (9223372036854775807 < P.length + (againP q p).length) := by omega
    have HS := Lib.hid (str_app P (againP q p))
    clear K3
    go_wp2_with fail
    go_ret2
    exact ⟨P ++ againP q p, ⟨p, HP.out, .inl ⟨h1a, by rw [HL.out]; exact h1b, P, HPc.out, by rw [HL.out, HQ.out]⟩⟩, by rw [← HS.out]; rfl, hb4⟩
  · have K2 := Lib.hid (pieces_walk L N g 0 C (g + 1) w2 HL.out (by omega) hC (by omega) rd (by omega))
    clear rd
    by_cases h1a : p ≤ 4096
    · have h1b : ¬ (4 : Int) ≤ (N : Int) - (p : Int) := by omega
      have h1c : (p : Int) ≤ 4096 := by omega
      have H1 := Lib.hid h1
      clear h1
      go_wp2_with fail
      refine K2.out.mono ?_
      rintro e w3 ⟨P, hP, rfl, b3⟩
      go_wp2_with fail
      go_ret2
      exact ⟨P, ⟨p, HP.out, .inr ⟨by rw [HL.out]; exact H1.out, hP⟩⟩, rfl, hb2.trans (b3.mono (by omega))⟩
    · have h1c : ¬ (p : Int) ≤ 4096 := by omega
      have H1 := Lib.hid h1
      clear h1
      go_wp2_with fail
      refine K2.out.mono ?_
      rintro e w3 ⟨P, hP, rfl, b3⟩
      go_wp2_with fail
      go_ret2
      exact ⟨P, ⟨p, HP.out, .inr ⟨by rw [HL.out]; exact H1.out, hP⟩⟩, rfl, hb2.trans (b3.mono (by omega))⟩
end Go.Proofs.Ytnhchmbbhkgccaa

/- The walk of headgateref06.Encode. -/
import Derived.Test.YtdeenkpkcibebaaRefBatMay
import Derived.Test.YtdeenkpkcibebaaBatEnc
namespace Go.Proofs.Ytdeenkpkcibebaa
open Go.RowKit Vm Bm
set_option linter.unusedVariables false

theorem str_app (a b : List UInt8) : str a ++ str b = str (a ++ b) := by
  apply ByteArray.ext
  apply Array.ext'
  rw [ByteArray.data_append, Array.toList_append, str_toList, str_toList, str_toList]
/-- Five cells of a batch's box. -/
abbrev Fv (w1 w2 : World) (g : Nat) (b : Bat) (a : Option Addr) (c : Nat) : Prop := w2.cell? ⟨g, 0, none⟩ = some (.int .i64 b.kind) ∧ w2.cell? ⟨g, 1, none⟩ = some (.int .i64 b.pid) ∧ w2.cell? ⟨g, 2, none⟩ = some (.int .i64 b.epoch) ∧ w2.cell? ⟨g, 3, none⟩ = some (.int .i64 b.seq) ∧ w2.cell? ⟨g, 4, none⟩ = some (.slice a b.l.length c) ∧ g < w2.heap.size ∧ Below w1.heap.size w1 w2
theorem fv_keep {w1 w2 w3 : World} {g : Nat} {b : Bat} {a : Option Addr} {c : Nat} (hx : Fv w1 w2 g b a c) (h : Below w2.heap.size w2 w3) : Fv w1 w3 g b a c := by
  obtain ⟨h0, h1, h2, h3, h4, hg, hb⟩ := hx
  have e : ∀ i, w3.cell? ⟨g, i, none⟩ = w2.cell? ⟨g, i, none⟩ := fun i => h.cell (p := ⟨g, i, none⟩) hg
  exact ⟨by rw [e]; exact h0, by rw [e]; exact h1, by rw [e]; exact h2, by rw [e]; exact h3, by rw [e]; exact h4, Nat.lt_of_lt_of_le hg h.size, hb.trans (h.mono hb.size)⟩

set_option maxRecDepth 100000 in
set_option maxHeartbeats 4000000 in
theorem renc6_yes (b : Bat) (a : Option Addr) (c B : Nat) (w : World) (hm : MayB b) (hl : Sl w B a (recCells b.l)) (hB : B ≤ w.heap.size) :
    Calls Try.prog 23 #[bv b a c] w fun e w' => e = .returned (.tuple #[.string (str (batL b)), .int .i64 0]) ∧ Below w.heap.size w w' := by
  have HC := Lib.hid (fun w hl hB => rmay_walk b a c B w true ⟨fun _ => hm, fun _ => rfl⟩ hl hB)
  have hh := hm.heads
  have hln := hm.1.2.2.2.2.2.2
  have HMR := Lib.hid hm.2.2
  have R0 := Whole.new w 24 (bvc b a c)
  have B0 := below_alloc w (.cells (bvc b a c) 24)
  have L0 := hl.below B0 hB
  have i1 := hh b.kind (by simp [headsL])
  have i2 := hh b.pid (by simp [headsL])
  have i3 := hh b.epoch (by simp [headsL])
  have i4 := hh b.seq (by simp [headsL])
  have i5 := hh (b.l.length : Int) (by simp [headsL])
  have P1 := Lib.hid (fun W => ref_put_walk b.kind W i1)
  have P2 := Lib.hid (fun W => ref_put_walk b.pid W i2)
  have P3 := Lib.hid (fun W => ref_put_walk b.epoch W i3)
  have P4 := Lib.hid (fun W => ref_put_walk b.seq W i4)
  have P5 := Lib.hid (fun W => ref_put_walk (b.l.length : Int) W i5)
  have z1 : (str (putL b.kind)).size ≤ 10 := by rw [str_size]; exact putL_len i1
  have z2 : (str (putL b.pid)).size ≤ 10 := by rw [str_size]; exact putL_len i2
  have z3 : (str (putL b.epoch)).size ≤ 10 := by rw [str_size]; exact putL_len i3
  have z4 : (str (putL b.seq)).size ≤ 10 := by rw [str_size]; exact putL_len i4
  have z5 : (str (putL (b.l.length : Int))).size ≤ 10 := by rw [str_size]; exact putL_len i5
  have hE : str (putL b.kind) ++ str (putL b.pid) ++ str (putL b.epoch) ++ str (putL b.seq) ++ str (putL (b.l.length : Int)) = str (putN (headsL b)) := by
    rw [str_app, str_app, str_app, str_app]; simp [putN, headsL]
  have hpz := putN_len _ hh
  obtain ⟨c0, c1, c2, c3, c4, hg⟩ := R0.five
  have HbL : batL b = putN (headsL b) ++ recsL b.l := rfl
  have HB := Lib.hid (fun k h => batL_take b k h)
  rw [HbL]
  obtain ⟨H, hH⟩ : ∃ H, H = putN (headsL b) := ⟨_, rfl⟩
  rw [← hH] at hE hpz HB ⊢
  clear hH HbL hh hm i1 i2 i3 i4 i5
  obtain ⟨k, p, e, q, l⟩ := b
  simp only [bv]
  simp only [bvc] at *
  generalize str (putL k) = X1 at *
  generalize str (putL p) = X2 at *
  generalize str (putL e) = X3 at *
  generalize str (putL q) = X4 at *
  generalize str (putL (l.length : Int)) = X5 at *
  have HE := Lib.hid hE
  clear hE
  have q1 : ¬ (9223372036854775807 < X1.size + X2.size) := by omega
  have q2 : ¬ (9223372036854775807 < X1.size + X2.size + X3.size) := by omega
  have q3 : ¬ (9223372036854775807 < X1.size + X2.size + X3.size + X4.size) := by omega
  have q4 : ¬ (9223372036854775807 < X1.size + X2.size + X3.size + X4.size + X5.size) := by omega
  go_enter Try.func23, Try.ntmps23
  go_wp2_with fail
  refine (HC.out _ L0 (Nat.le_trans hB B0.size)).mono ?_
  rintro x w1 ⟨rfl, g1⟩
  have R1 := R0.keep g1
  have B1 := B0.trans (g1.mono B0.size)
  have L1 := L0.below g1 (Nat.le_trans hB B0.size)
  clear g1 c0 c1 c2 c3 c4 hg R0 L0 B0 z1 z2 z3 z4 z5
  obtain ⟨c0, c1, c2, c3, c4, hg⟩ := Whole.five (b := ⟨k, p, e, q, l⟩) R1
  simp only at c0 c1 c2 c3 c4
  have hS0 : Fv w1 w1.drew w.heap.size ⟨k, p, e, q, l⟩ a c := ⟨c0, c1, c2, c3, c4, hg, (Below.refl _ _).drew⟩
  unfold Fv at hS0
  simp only at hS0
  go_wp2_with fail
  go_region_held3 (fun w' => w'.cell? ⟨w.heap.size, 0, none⟩ = some (.int .i64 k) ∧ w'.cell? ⟨w.heap.size, 1, none⟩ = some (.int .i64 p) ∧ w'.cell? ⟨w.heap.size, 2, none⟩ = some (.int .i64 e) ∧ w'.cell? ⟨w.heap.size, 3, none⟩ = some (.int .i64 q) ∧ w'.cell? ⟨w.heap.size, 4, none⟩ = some (.slice a l.length c) ∧ w.heap.size < w'.heap.size ∧ Below w1.heap.size w1 w')
    (with_reducible assumption)
    (first
      | (go_at_call_of 51 k; refine (P1.out _).mono ?_; rintro x w3 ⟨rfl, h3⟩; have y : Fv w1 w3 w.heap.size ⟨k, p, e, q, l⟩ a c := fv_keep (by with_reducible assumption) h3; unfold Fv at y; simp only at y)
      | (go_at_call_of 51 p; refine (P2.out _).mono ?_; rintro x w4 ⟨rfl, h4⟩; have y : Fv w1 w4 w.heap.size ⟨k, p, e, q, l⟩ a c := fv_keep (by with_reducible assumption) h4; unfold Fv at y; simp only at y)
      | (go_at_call_of 51 e; refine (P3.out _).mono ?_; rintro x w5 ⟨rfl, h5⟩; have y : Fv w1 w5 w.heap.size ⟨k, p, e, q, l⟩ a c := fv_keep (by with_reducible assumption) h5; unfold Fv at y; simp only at y)
      | (go_at_call_of 51 q; refine (P4.out _).mono ?_; rintro x w6 ⟨rfl, h6⟩; have y : Fv w1 w6 w.heap.size ⟨k, p, e, q, l⟩ a c := fv_keep (by with_reducible assumption) h6; unfold Fv at y; simp only at y)
      | (go_at_call_of 51 l; refine (P5.out _).mono ?_; rintro x w7 ⟨rfl, h7⟩; have y : Fv w1 w7 w.heap.size ⟨k, p, e, q, l⟩ a c := fv_keep (by with_reducible assumption) h7; unfold Fv at y; simp only at y))
  all_goals
    rw [HE.out]
    obtain ⟨y0, y1, y2, y3, y4, yg, yb⟩ := y
    have L7 := L1.below yb (Nat.le_trans hB B1.size)
    have B7 := B1.trans (yb.mono B1.size)
    have R7 := R1.keep yb
    have hB7 := Nat.le_trans hB B7.size
    obtain ⟨w8, rfl⟩ : ∃ w8 : World, w8 = w7 := ⟨_, rfl⟩
    have hpz' : H.length ≤ 50 := by simpa [headsL] using hpz
    clear h3 h4 h5 h6 h7 hS0 c0 c1 c2 c3 c4 hg HE q1 q2 q3 q4 P1 P2 P3 P4 P5 hpz L1 B1 R1 yb
    go_wp2_with fail
    clear y0 y1 y2 y3 y4
    go_loopw [4, 5] (fun s i wr => ∃ n : Nat, n ≤ l.length ∧ i = .int .i64 n ∧ s = .string (str (H ++ recsL (l.take n))) ∧ Below w8.heap.size w8 wr) (fun _ i _ => l.length - (intOf i).toNat)
    case atStart => exact ⟨0, by omega, rfl, by simp [recsL], Below.refl _ _⟩
    case round =>
      obtain ⟨n, hn, rfl, rfl, hb⟩ := hrel
      have hlk := recsL_len (l := l.take n) (fun r hr => HMR.out r (List.mem_of_mem_take hr))
      have hlk2 : (l.take n).length ≤ n := List.length_take_le _ _
      obtain ⟨c0, c1, c2, c3, c4, hg⟩ := Whole.five (b := ⟨k, p, e, q, l⟩) (R7.keep hb)
      simp only at c0 c1 c2 c3 c4
      by_cases hlt : n < l.length
      · obtain ⟨b1, o1, rfl, hb1, r0, r1, r2⟩ := (L7.below hb hB7).rec hlt
        have hts := Lib.hid (HB.out n hlt)
        have hmr := HMR.out _ (List.getElem_mem hlt)
        have hl1 : (H ++ recsL (l.take n)).length ≤ 40000 := by rw [List.length_append]; omega
        generalize l[n] = r at *
        have hrl := recL_len hmr.i
        have hrx := hmr.2.2.2.2
        have P2 := Lib.hid (fun W => ref_rec_walk r W hmr.i.1 hmr.i.2.1 (by omega))
        generalize H ++ recsL (l.take n) = X at *
        have y3 : ¬ (9223372036854775807 < (str X).size + (str (recL r)).size) := by rw [str_size, str_size]; omega
        clear hrl hrx hmr hl1 hlk hlk2
        go_wp2_with fail
        refine (P2.out _).mono ?_
        rintro x w9 ⟨rfl, g9⟩
        have hb9 := hb.trans (g9.mono hb.size)
        clear g9 hb r0 r1 r2 c0 c1 c2 c3 c4
        go_wp2_with fail
        go_roundw
        case rel => exact ⟨n + 1, by omega, by go_num, by rw [hts.out, ← str_app], hb9⟩
        case measure => simp [intOf]; omega
      · have hall : l.take n = l := List.take_of_length_le (by omega)
        rw [hall]
        go_wp2_with fail
        go_ret2
        exact ⟨rfl, B7.trans (hb.mono B7.size)⟩

set_option maxRecDepth 100000 in
set_option maxHeartbeats 1000000 in
theorem renc6_no (b : Bat) (a : Option Addr) (c B : Nat) (w : World) (hm : ¬ MayB b) (hl : Sl w B a (recCells b.l)) (hB : B ≤ w.heap.size) :
    Calls Try.prog 23 #[bv b a c] w fun e w' => e = .returned (.tuple #[.string ⟨#[]⟩, .int .i64 1]) ∧ Below w.heap.size w w' := by
  have HC := Lib.hid (fun w hl hB => rmay_walk b a c B w false ⟨fun h => (by cases h), fun h => absurd h hm⟩ hl hB)
  have B0 := below_alloc w (.cells (bvc b a c) 24)
  have L0 := hl.below B0 hB
  obtain ⟨c0, c1, c2, c3, c4, hg⟩ := (Whole.new w 24 (bvc b a c)).five
  clear hm
  simp only [bv]
  go_enter Try.func23, Try.ntmps23
  go_wp2_with fail
  refine (HC.out _ L0 (Nat.le_trans hB B0.size)).mono ?_
  rintro e w1 ⟨rfl, g1⟩
  go_wp2_with fail
  go_ret2
  exact ⟨rfl, B0.trans (g1.mono B0.size)⟩
end Go.Proofs.Ytdeenkpkcibebaa

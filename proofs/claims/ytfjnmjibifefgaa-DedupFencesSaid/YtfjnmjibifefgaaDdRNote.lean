/- The walk of headgateref07.Note. -/
import Derived.Test.YtfjnmjibifefgaaDdRPut
namespace Go.Proofs.Ytfjnmjibifefgaa
open Go.RowKit Vm Bm
set_option linter.unusedVariables false
set_option linter.unusedSimpArgs false

theorem ntIs_put {b : Bat} {x : Pr} {m : Bool} {l D : List Pr} (h : NtIs b x m l D) (h0 : b.pid ≠ 0) (hx : x.p = b.pid) :
    PutIs l x D ∨ (m = true ∧ D = l ∧ ∃ k, k < l.length ∧ (∀ p, p < k → prKey (l.getD p pr0) ≠ b.pid) ∧ prKey (l.getD k pr0) = b.pid ∧ ¬ (l.getD k pr0).e < b.epoch) := by
  unfold PutIs
  rw [hx]
  rcases h with ⟨h, _⟩ | ⟨_, h1, h2⟩ | ⟨_, k, h1, h2, h3, ⟨h4, h5, h6⟩ | ⟨h4, h5⟩⟩
  · exact absurd h h0
  · exact .inl (.inl ⟨h1, h2⟩)
  · exact .inr ⟨h4, h6, k, h1, h2, h3, h5⟩
  · exact .inl (.inr ⟨k, h1, h2, h3, h5⟩)
/-- Of a mark: what the row that is told says of the two ways. -/
theorem nt_mark {b : Bat} {x : Pr} {l D : List Pr} {Y : Pr} {EE : Bool} (h : NtIs b x true l D) (h0 : b.pid ≠ 0) (hx : x.p = b.pid) (hY : RowP l b.pid Y EE) :
    (EE = true ∧ b.epoch ≤ Y.e ∧ D = l) ∨ (EE = true ∧ ¬ b.epoch ≤ Y.e ∧ PutIs l x D) ∨ (EE = false ∧ PutIs l x D) := by
  rcases first_ex l b.pid with h1 | ⟨k, h1, h2, h3⟩
  · have hE : EE = false := by
      rcases hY with ⟨h4, _⟩ | ⟨_, _, h4⟩
      · rw [getR_miss prKey pr0 h1] at h4; cases h4
      · exact h4
    exact .inr (.inr ⟨hE, .inl ⟨by rw [hx]; exact h1, ntIs_none h h0 h1⟩⟩)
  · have hg := getR_hit prKey pr0 h2 h1 h3
    obtain ⟨rfl, rfl⟩ : Y = l.getD k pr0 ∧ EE = true := by
      rcases hY with ⟨h4, h5⟩ | ⟨h4, _⟩
      · rw [hg] at h4; injection h4 with h4; exact ⟨h4.symm, h5⟩
      · rw [hg] at h4; cases h4
    rcases ntIs_at h h0 h1 h2 h3 with ⟨_, h5, h6⟩ | ⟨h5, h6⟩
    · exact .inl ⟨rfl, by omega, h6⟩
    · refine .inr (.inl ⟨rfl, ?_, .inr ⟨k, h1, by rw [hx]; exact h2, by rw [hx]; exact h3, h6⟩⟩)
      rcases h5 with h5 | h5
      · cases h5
      · omega
set_option maxRecDepth 100000 in
set_option maxHeartbeats 8000000 in
theorem rnote_walk (l : List Pr) (N : Nat) (a : Option Addr) (c B : Nat) (b : Bat) (ab : Option Addr) (cb : Nat) (o : Int) (w : World) (x : Pr) (m : Bool) (D : List Pr) (hN : l.length = N) (hNm : N ≤ 1000) (hx : RowIs b o x m) (hD : NtIs b x m l D) (h : Sl w B a (prCells l)) (hB : B ≤ w.heap.size) :
    Calls Try.prog 21 #[.slice a N c, bv b ab cb, .int .i64 o] w (RpPost w D) := by
  have hal := balloc w (.cells (bvc b ab cb) 25)
  have hW := Whole.new w 25 (bvc b ab cb)
  have h' := h.below hal hB
  have hB' := Nat.le_trans hB hal.size
  have HNe := Lib.hid hN
  obtain ⟨x0, x1, x2, x3, x4, hg⟩ := hW.five
  by_cases hp0 : b.pid = 0
  · have hpb : (b.pid == 0) = true := by rw [hp0]; rfl
    have HDe := Lib.hid (show D = l from by rcases hD with ⟨_, h⟩ | ⟨h, _⟩ | ⟨h, _⟩; exact h; exact absurd hp0 h; exact absurd hp0 h)
    clear hp0 hD hx hN
    unfold bv
    go_enter Try.func21, Try.ntmps21
    go_wp2_with fail
    go_ret
    exact ⟨a, c, by rw [HDe.out, HNe.out]; rfl, by rw [HDe.out]; exact h'.grow hB', hal⟩
  · have hpb : (b.pid == 0) = false := by simp [hp0]
    have HP := Lib.hid hp0
    clear hp0
    have HQ := Lib.hid (fun w7 (y : Pr) (h7 : PutIs l y D) (hs : Sl w7 B a (prCells l)) (hb : B ≤ w7.heap.size) => rput_walk l N a c B y w7 D h7 hN hNm hs hb)
    rcases hx with ⟨hk, rfl, hxe⟩ | ⟨hk, rfl, hxe⟩
    · obtain rfl := hxe
      have hk2 : ¬ b.kind ≤ 2 := by omega
      obtain ⟨Y, EE, hY⟩ := rowP_ex l b.pid
      have HM := Lib.hid (nt_mark hD HP.out rfl hY)
      have HR := Lib.hid (rdrow_walk l N a c B b.pid (w.alloc (.cells (bvc b ab cb) 25)) Y EE hN (by omega) hY h' hB')
      unfold RdPost at HR
      clear hD hY hN h
      unfold bv
      go_enter Try.func21, Try.ntmps21
      go_wp2_with fail
      refine HR.out.mono ?_
      rintro e w1 ⟨rfl, g1⟩
      have hal2 := balloc w1 (.cells #[.int .i64 Y.p, .int .i64 Y.e, .int .i64 Y.s, .int .i64 Y.n, .int .i64 Y.b] 44)
      have Z2 := Whole.new w1 44 #[.int .i64 Y.p, .int .i64 Y.e, .int .i64 Y.s, .int .i64 Y.n, .int .i64 Y.b]
      have W2 := (hW.keep g1).keep hal2
      have s2 := (h'.below g1 hB').below hal2 (Nat.le_trans hB' g1.size)
      have b2 := gtrans (gtrans hal g1) hal2
      have hz1 := g1.size
      have hz2 := hal2.size
      have hlt : w.heap.size < w1.heap.size := (hW.keep g1).lt
      go_upto_region 6 with fail
      obtain ⟨w2, hw2⟩ : ∃ w2, w2 = w1.alloc (.cells #[.int .i64 Y.p, .int .i64 Y.e, .int .i64 Y.s, .int .i64 Y.n, .int .i64 Y.b] 44) := ⟨_, rfl⟩
      rw [← hw2] at Z2 W2 s2 b2 hz2 ⊢
      have hB2 : B ≤ w2.heap.size := by omega
      clear hw2 hal2 x0 x1 x2 x3 x4 g1 hal h' hW
      obtain ⟨x0, x1, x2, x3, x4, _⟩ := W2.five
      obtain ⟨⟨z0, z1, z2, z3, z4⟩, hzl⟩ := Z2.fiveP
      rcases HM.out with ⟨rfl, he, hDe⟩ | ⟨rfl, he, hput⟩ | ⟨rfl, hput⟩
      · have HDe := Lib.hid hDe
        clear hDe HM
        go_wp2_with fail
        go_ret
        exact ⟨a, c, by rw [HDe.out, HNe.out]; rfl, by rw [HDe.out]; exact s2.grow hB2, b2⟩
      all_goals
        have HC := Lib.hid (HQ.out w2 ⟨b.pid, b.epoch, 0, 0, o⟩ hput s2 hB2)
        simp only at HC
        unfold RpPost at HC
        clear hput HM HQ
        go_wp2_with fail
        refine HC.out.mono ?_
        rintro e w3 ⟨a3, c3, rfl, s3, g3⟩
        go_wp2_with fail
        go_ret
        exact ⟨a3, c3, rfl, s3, gtrans b2 g3⟩
    · obtain rfl := hxe
      have hk2 : b.kind ≤ 2 := by omega
      have hput : PutIs l ⟨b.pid, b.epoch, b.seq, b.l.length, o⟩ D := by
        rcases ntIs_put hD HP.out rfl with h | ⟨h, _⟩
        · exact h
        · cases h
      have HC := Lib.hid (HQ.out _ _ hput h' hB')
      simp only at HC
      unfold RpPost at HC
      clear hput HQ hD hN
      unfold bv
      go_enter Try.func21, Try.ntmps21
      go_wp2_with fail
      refine HC.out.mono ?_
      rintro e w3 ⟨a3, c3, rfl, s3, g3⟩
      go_wp2_with fail
      go_ret
      exact ⟨a3, c3, rfl, s3, gtrans hal g3⟩
end Go.Proofs.Ytfjnmjibifefgaa

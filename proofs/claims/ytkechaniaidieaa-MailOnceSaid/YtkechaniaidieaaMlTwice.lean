/- The walk of mail.Twice; chapter 24's example. -/
import Derived.Test.YtkechaniaidieaaMlTake
import Derived.Test.YtkechaniaidieaaPkSame
namespace Go.Proofs.Ytkechaniaidieaa
open Go.RowKit Vm
set_option linter.unusedVariables false
set_option linter.unusedSimpArgs false

theorem twice_nil (p : Int) (w : World) : Calls Try.prog 14 #[.pointer none, .int .i64 p] w fun e w' => e = .returned (.int .i64 6) ∧ Below w.heap.size w w' := by
  have K := Lib.hid (fun w => mhas_nil p w)
  go_enter Try.func14, Try.ntmps14
  go_wp2_with fail
  refine (K.out _).mono ?_
  rintro e w1 ⟨rfl, g1⟩
  go_wp2_with fail
  go_ret
  exact ⟨rfl, g1⟩
/-- What sending once more answers. -/
def TwiceIs (s : Int) (L : List Pk) (p E s' : Int) (L' : List Pk) : Prop := (¬ (0 ≤ p ∧ p < (L.length : Int)) ∧ E = 6 ∧ s' = s ∧ L' = L) ∨ ∃ k : Nat, p = k ∧ k < L.length ∧ SendIs s L (L.getD k pk0).d (L.getD k pk0).f [(L.getD k pk0).x] E s' L'
theorem twiceIs_ex (s : Int) (L : List Pk) (p : Int) : ∃ E s' L', TwiceIs s L p E s' L' := by
  by_cases h : 0 ≤ p ∧ p < (L.length : Int)
  · obtain ⟨E, s', L', h1⟩ := sendIs_ex s L (L.getD p.toNat pk0).d (L.getD p.toNat pk0).f [(L.getD p.toNat pk0).x]
    exact ⟨E, s', L', .inr ⟨p.toNat, by omega, by omega, h1⟩⟩
  · exact ⟨_, _, _, .inl ⟨h, rfl, rfl, rfl⟩⟩
theorem MA.rowlt {w : World} {g : Nat} {s : Int} {L : List Pk} {a : Option Addr} {c : Nat} (h : MA w g s L a c) : ∀ y, a = some y → y.block < w.heap.size := by
  intro y hy
  subst hy
  rcases h.2.2 with ⟨h1, _⟩ | ⟨g', cap, cur, h1, _, hh, _⟩
  · cases h1
  · injection h1 with h1 _ _
    injection h1 with h1
    subst h1
    apply Classical.byContradiction
    intro hc
    rw [Array.getElem?_eq_none (by simp only at hc; omega)] at hh
    cases hh
set_option maxRecDepth 100000 in
set_option maxHeartbeats 4000000 in
theorem mtwice_walk (g : Nat) (s : Int) (L : List Pk) (a : Option Addr) (c : Nat) (p : Int) (w : World) (E s' : Int) (L' : List Pk) (hT : TwiceIs s L p E s' L') (hs : 0 ≤ s ∧ s ≤ 1000000000) (hL : L.length ≤ 256) (h : MA w g s L a c) :
    Calls Try.prog 14 #[.pointer (some ⟨g, 0, none⟩), .int .i64 p] w (MPost w g a (.int .i64 E) s' L') := by
  have HM := Lib.hid h
  rcases hT with ⟨hp, rfl, rfl, rfl⟩ | ⟨k, rfl, hk, hS⟩
  · have K := Lib.hid (mhas_walk g s' L' a c p w false (.inr ⟨hp, rfl⟩) h)
    clear hp h
    go_enter Try.func14, Try.ntmps14
    go_wp2_with fail
    refine K.out.mono ?_
    rintro e w1 ⟨rfl, g1⟩
    go_wp2_with fail
    go_ret
    exact ⟨rfl, a, c, HM.out.keep g1, Mv.below g1, Ab.refl w a, g1.mono (Nat.le_of_lt HM.out.1.lt)⟩
  · have K := Lib.hid (mhas_walk g s L a c k w true (.inl ⟨⟨by omega, by omega⟩, rfl⟩) h)
    obtain ⟨n, hn⟩ : ∃ n, L.length = n := ⟨_, rfl⟩
    have HN := Lib.hid hn
    have hkn2 : (k : Int) < (n : Int) := by omega
    have hk0 : 0 ≤ (k : Int) := by omega
    obtain ⟨gb, hae, hgb, _, _⟩ := ownN_at h.2 (by omega)
    subst hae
    obtain ⟨x, hx⟩ : ∃ x, L.getD k pk0 = x := ⟨_, rfl⟩
    rw [hx] at hS
    have HX := Lib.hid hx
    have hkL := Lib.hid hk
    have HSE := Lib.hid hS
    have HLL := Lib.hid hL
    clear h hn hk hx hS hL
    go_enter Try.func14, Try.ntmps14
    go_wp2_with fail
    refine K.out.mono ?_
    rintro e w2 ⟨rfl, g2⟩
    have M2 := HM.out.keep g2
    obtain ⟨m0, m1, f0, f1, hg2⟩ := M2.two
    rw [HN.out] at m1
    obtain ⟨gb', e, _, hgl2, _, hcc⟩ := ownN_at M2.2 (by have := hkL.out; omega)
    injection e with e
    injection e with e1 _ _
    subst e1
    have hat := pkCells_at L k hkL.out
    rw [HX.out] at hat
    have c0 := hcc _ _ hat.1
    have c1 := hcc _ _ hat.2.1
    have c2 := hcc _ _ hat.2.2.1
    have c3 := hcc _ _ hat.2.2.2
    have hax := balloc w2 (.cells #[.int .i64 x.n, .int .i64 x.d, .int .i64 x.f, .string (str x.x)] 37)
    have X3 := Whole.new w2 37 #[.int .i64 x.n, .int .i64 x.d, .int .i64 x.f, .string (str x.x)]
    have M3 := M2.keep hax
    have t3 := gtrans g2 hax
    clear hcc hat K M2
    go_upto_region 4 with fail
    obtain ⟨w3, hw3⟩ : ∃ w3, w3 = w2.alloc (.cells #[.int .i64 x.n, .int .i64 x.d, .int .i64 x.f, .string (str x.x)] 37) := ⟨_, rfl⟩
    rw [← hw3] at hax X3 M3 t3 ⊢
    clear hw3 c0 c1 c2 c3 m0 m1 f0 f1
    obtain ⟨⟨y0, y1, y2, y3⟩, _, hl2⟩ := X3.four
    have hat4 := balloc w3 (.cells #[.string (str x.x)] 9)
    have M4 := M3.keep hat4
    have t4 := gtrans t3 hat4
    have sT : Sl (w3.alloc (.cells #[.string (str x.x)] 9)) (w3.alloc (.cells #[.string (str x.x)] 9)).heap.size (some ⟨w3.heap.size, 0, none⟩) (stCells [x.x]) := sl_fresh w3 [.string (str x.x)] 9
    have hg3 := M3.1.lt
    have hrl := M3.rowlt
    have S := Lib.hid (msend_walk s L x.d x.f [x.x] 1 (some ⟨w3.heap.size, 0, none⟩) 1 g (some ⟨gb, 0, none⟩) c (w3.alloc (.cells #[.string (str x.x)] 9)) E s' L' rfl (by omega) hs HLL.out HSE.out M4 sT (fun _ z hz => by
      injection hz with hz
      subst hz
      exact ⟨by simp only; omega, fun y hy => by have := hrl y hy; simp only; omega⟩))
    unfold MPost at S
    clear M3 M4 sT
    go_wp2_with fail
    refine S.out.mono ?_
    rintro e w5 ⟨rfl, a5, c5, M5, mv5, ab5, b5⟩
    go_wp2_with fail
    go_ret
    exact ⟨rfl, a5, c5, M5, (Mv.below t4).trans mv5 (Ab.refl _ _), fun x' hx' => by
      rcases ab5 x' hx' with h | h
      · exact .inl h
      · exact .inr (Nat.le_trans t4.size h), (t4.mono (Nat.le_of_lt HM.out.1.lt)).trans b5⟩
end Go.Proofs.Ytkechaniaidieaa

/- The walks of headgateref36.Right and headgateref36.Has. -/
import Derived.Test.YtbhbilmpkgcmeaaQuValid
namespace Go.Proofs.Ytbhbilmpkgcmeaa
open Go.RowKit Vm
set_option linter.unusedVariables false

def lastQ (l : List Ac) (k : Nat) : Int := if k = 0 then -1 else (l.getD (k - 1) ac0).o
theorem lastQ_ge {m now : Int} {l : List Ac} {k : Nat} (h : PreQ m now l k) : -1 ≤ lastQ l k ∧ (k = 0 → lastQ l k = -1) := by
  unfold lastQ
  split
  · exact ⟨by omega, fun _ => rfl⟩
  · have := (h (k - 1) (by omega)).1.1
    exact ⟨by omega, fun h => by omega⟩

set_option maxRecDepth 100000 in
set_option maxHeartbeats 4000000 in
theorem rright_walk (t m : Int) (l : List Ac) (N : Nat) (a : Option Addr) (c B : Nat) (now : Int) (w : World) (d : Bool) (hN : l.length = N) (hd : (RightQ t m l now ∧ d = true) ∨ (¬ RightQ t m l now ∧ d = false)) (h : Sl w B a (acCells l)) (hB : B ≤ w.heap.size) :
    Calls Try.prog 68 #[.agg #[.int .i64 t, .int .i64 m], .slice a N c, .int .i64 now] w fun e w' => e = .returned (.bool d) ∧ Below w.heap.size w w' := by
  have HNO := Lib.hid (show ¬ RightQ t m l now → d = false from fun h => by rcases hd with h1 | h1; exact absurd h1.1 h; exact h1.2)
  have HYES := Lib.hid (show RightQ t m l now → d = true from fun h => by rcases hd with h1 | h1; exact h1.2; exact absurd h h1.1)
  clear hd
  have hal : Below w.heap.size w (w.alloc (.cells #[.int .i64 t, .int .i64 m] 60)) := balloc _ _
  by_cases hr : ¬ MayQ t m
  · have HC := Lib.hid (fun w => rmay36_no t m w hr)
    obtain rfl := HNO.out (fun h => hr h.1)
    clear hr HNO HYES
    go_enter Try.func68, Try.ntmps68
    go_wp2_with fail
    refine (HC.out _).mono ?_
    rintro e w1 ⟨rfl, g1⟩
    go_wp2_with fail
    go_ret
    exact ⟨rfl, gtrans hal g1⟩
  have hr := Classical.not_not.1 hr
  have HC := Lib.hid (fun w => rmay36_yes t m w hr)
  by_cases hn : ¬ (0 ≤ now ∧ now ≤ 1099511627776)
  · obtain rfl := HNO.out (fun h => hn h.2.1)
    have hn' : now < 0 ∨ (¬ now < 0 ∧ 1099511627776 < now) := by omega
    clear hr hn HNO HYES
    rcases hn' with hn | ⟨hn, hn2⟩
    all_goals
      go_enter Try.func68, Try.ntmps68
      go_wp2_with fail
      refine (HC.out _).mono ?_
      rintro e w1 ⟨rfl, g1⟩
      go_wp2_with fail
      go_ret
      exact ⟨rfl, gtrans hal g1⟩
  have hn := Classical.not_not.1 hn
  have hn1 : ¬ now < 0 := by omega
  have hn2 : ¬ 1099511627776 < now := by omega
  by_cases hl : 64 < N
  · obtain rfl := HNO.out (fun h => by have := h.2.2.1; omega)
    have hl2 : (64 : Int) < (N : Int) := by omega
    clear hr hn HNO HYES
    go_enter Try.func68, Try.ntmps68
    go_wp2_with fail
    refine (HC.out _).mono ?_
    rintro e w1 ⟨rfl, g1⟩
    go_wp2_with fail
    go_ret
    exact ⟨rfl, gtrans hal g1⟩
  have hm0 := hr.2.2.2
  have c0 : ∀ w1, Below (w.heap.size + 1) (w.alloc (.cells #[.int .i64 t, .int .i64 m] 60)) w1 → w1.cell? ⟨w.heap.size, 1, none⟩ = some (.int .i64 m) := fun w1 g => by
    rw [g.cell (by simp), World.cell?_alloc_at _ _ _ _ rfl]; rfl
  have C0 := Lib.hid c0
  have hal2 : w.heap.size + 1 ≤ (w.alloc (.cells #[.int .i64 t, .int .i64 m] 60)).heap.size := by simp
  have HNO2 := Lib.hid (show ∀ k, k < N → ¬ OkQ m now l k → d = false from fun k hk h => HNO.out (fun h2 => h (h2.2.2.2 k (by omega))))
  have HYES2 := Lib.hid (show PreQ m now l N → d = true from fun h => HYES.out ⟨hr, hn, by omega, by rw [hN]; exact h⟩)
  clear c0 HNO HYES hr
  go_enter Try.func68, Try.ntmps68
  go_wp2_with fail
  refine (HC.out _).mono ?_
  rintro e w1 ⟨rfl, g1⟩
  have HW1 := Lib.hid (g1.mono hal2)
  have hws := g1.size
  simp at hws
  have g1 := gtrans hal g1
  have hs1 := h.below g1 hB
  have hB1 := Nat.le_trans hB g1.size
  clear HC h hal
  go_wp2_with fail
  go_loopw [7, 8] (fun L i wr => ∃ k : Nat, k ≤ N ∧ i = .int .i64 k ∧ L = .int .i64 (lastQ l k) ∧ PreQ m now l k ∧ Below w1.heap.size w1 wr) (fun _ i _ => N - (intOf i).toNat)
  case atStart => exact ⟨0, by omega, rfl, rfl, PreQ.zero m now l, Below.refl _ _⟩
  case round =>
    obtain ⟨k, hk, rfl, rfl, hpre, hb⟩ := hrel
    have HP := Lib.hid hpre
    obtain ⟨hlq, hlq0⟩ := lastQ_ge hpre
    clear hpre
    by_cases hlt : k < N
    · obtain ⟨b1, o1, rfl, hb1, hc⟩ := (hs1.below hb hB1).ac (by omega)
      obtain ⟨r0, r1, r2⟩ := hc k (by omega)
      have hz1 : b1 < wr.heap.size := by have := hb.size; omega
      have hm1 := C0.out _ (HW1.out.trans (hb.mono (by omega)))
      have hz2 : w.heap.size < wr.heap.size := by have := hb.size; omega
      have HOk := Lib.hid (HNO2.out k hlt)
      have HOkd := Lib.hid (show OkQ m now l k ↔ ((0 ≤ (l.getD k ac0).o ∧ (l.getD k ac0).o ≤ 1099511627776) ∧ 0 ≤ (l.getD k ac0).l ∧ (l.getD k ac0).l ≤ m ∧ 0 ≤ (l.getD k ac0).s ∧ (l.getD k ac0).s ≤ now ∧ (0 < k → lastQ l k < (l.getD k ac0).o)) from by
        unfold OkQ lastQ
        by_cases hk0 : k = 0
        · subst hk0; simp
        · rw [if_neg hk0])
      have HL1 := Lib.hid (show lastQ l (k + 1) = (l.getD k ac0).o from by unfold lastQ; rw [if_neg (by omega), Nat.add_sub_cancel])
      clear hc hs1
      generalize l.getD k ac0 = x at *
      generalize lastQ l k = L at *
      obtain ⟨xo, xl, xs⟩ := x
      simp only at r0 r1 r2 HOkd HL1
      have hfin : ∀ n, Below w.heap.size w (wr.drewN n) := fun n => gtrans g1 (hb.trans (below_drewN _ _ _))
      have hfin2 : ∀ n, Below w1.heap.size w1 (wr.drewN n) := fun n => hb.trans (below_drewN _ _ _)
      have HF := Lib.hid hfin
      have HF2 := Lib.hid hfin2
      clear hfin hfin2
      by_cases h1 : xo ≤ L
      · have d1 : decide (xo ≤ L) = true := decide_eq_true h1
        obtain rfl := HOk.out (by rw [HOkd.out]; omega)
        clear HOkd HOk hlq0
        go_wp2_with fail
        go_quiet (fail)
        go_wp2_with fail
        go_ret
        exact ⟨rfl, HF.out _⟩
      have d1 : decide (xo ≤ L) = false := decide_eq_false h1
      by_cases h6 : 1099511627776 < xo
      · have d6 : decide (1099511627776 < xo) = true := decide_eq_true h6
        obtain rfl := HOk.out (by rw [HOkd.out]; omega)
        clear HOkd HOk hlq0
        go_wp2_with fail
        go_quiet (fail)
        go_wp2_with fail
        go_ret
        exact ⟨rfl, HF.out _⟩
      have d6 : decide (1099511627776 < xo) = false := decide_eq_false h6
      by_cases h2 : xl < 0
      · have d2 : decide (xl < 0) = true := decide_eq_true h2
        obtain rfl := HOk.out (by rw [HOkd.out]; omega)
        clear HOkd HOk hlq0
        go_wp2_with fail
        go_quiet (fail)
        go_wp2_with fail
        go_ret
        exact ⟨rfl, HF.out _⟩
      have d2 : decide (xl < 0) = false := decide_eq_false h2
      by_cases h3 : m < xl
      · have d3 : decide (m < xl) = true := decide_eq_true h3
        obtain rfl := HOk.out (by rw [HOkd.out]; omega)
        clear HOkd HOk hlq0
        go_wp2_with fail
        go_quiet (fail)
        go_wp2_with fail
        go_ret
        exact ⟨rfl, HF.out _⟩
      have d3 : decide (m < xl) = false := decide_eq_false h3
      by_cases h4 : xs < 0
      · have d4 : decide (xs < 0) = true := decide_eq_true h4
        obtain rfl := HOk.out (by rw [HOkd.out]; omega)
        clear HOkd HOk hlq0
        go_wp2_with fail
        go_quiet (fail)
        go_wp2_with fail
        go_ret
        exact ⟨rfl, HF.out _⟩
      have d4 : decide (xs < 0) = false := decide_eq_false h4
      by_cases h5 : now < xs
      · have d5 : decide (now < xs) = true := decide_eq_true h5
        obtain rfl := HOk.out (by rw [HOkd.out]; omega)
        clear HOkd HOk hlq0
        go_wp2_with fail
        go_quiet (fail)
        go_wp2_with fail
        go_ret
        exact ⟨rfl, HF.out _⟩
      have d5 : decide (now < xs) = false := decide_eq_false h5
      have HO := Lib.hid (show OkQ m now l k from HOkd.out.2 ⟨⟨by omega, by omega⟩, by omega, by omega, by omega, by omega, fun h => by omega⟩)
      clear HOkd HOk hlq0
      go_wp2_with fail
      go_quiet (fail)
      go_wp2_with fail
      go_roundw
      case rel => exact ⟨k + 1, by omega, by go_num, by rw [HL1.out], HP.out.succ HO.out, HF2.out _⟩
      case measure => simp [intOf]; omega
    · obtain rfl : k = N := by omega
      obtain rfl := HYES2.out HP.out
      clear hlq0
      go_wp2_with fail
      go_ret
      exact ⟨rfl, gtrans g1 hb⟩

end Go.Proofs.Ytbhbilmpkgcmeaa

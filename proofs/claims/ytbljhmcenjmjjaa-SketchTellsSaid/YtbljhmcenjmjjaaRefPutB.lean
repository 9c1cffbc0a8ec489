/- The walk of headgateref29.put. -/
import Derived.Test.YtbljhmcenjmjjaaBkMerge
import Derived.Laws.AppendOwnNone
namespace Go.Proofs.Ytbljhmcenjmjjaa
open Go.RowKit Vm Sk
set_option linter.unusedVariables false

theorem at_of {l : List Bk} {b : Int} {k : Nat} (hp : Pre l l.length) (hk : k ≤ l.length) (h1 : ∀ p, p < k → (l.getD p bk0).b < b) (h2 : k < l.length → b ≤ (l.getD k bk0).b) : At l b k := by
  refine ⟨hk, h1, fun p hp1 hp2 => ?_⟩
  rcases Nat.lt_or_ge k p with h | h
  · have := pre_lt hp h hp2
    have := h2 (by omega)
    omega
  · rw [show p = k from by omega]; exact h2 (by omega)

theorem rput_end (l : List Bk) {w w5 : World} {p : List Bk} {n1 : Nat} {xs : List Value} {a5 : Option Addr} {c5 : Nat} (hn : n1 = p.length) (he : xs = bkCells p) (hown : w5.ownsRow w.heap.size 63 2 (.slice a5 n1 c5) n1 xs) (hb : Below w.heap.size w w5) :
    ∃ a' c', Ending.returned (.slice a5 n1 c5) = .returned (.slice a' p.length c') ∧ w5.ownsRow w.heap.size 63 2 (.slice a' p.length c') p.length (bkCells p) ∧ Below w.heap.size w w5 := by
  subst hn he
  exact ⟨a5, c5, rfl, hown, hb⟩
theorem rput_cells (l : List Bk) {w w3 : World} {B b1 o1 : Nat} (h : Sl w B (some ⟨b1, o1, none⟩) (bkCells l)) (k : Nat) (hb : Below w.heap.size w w3) (hB : B ≤ w.heap.size) (j : Nat) (u : Value) (hj : ((bkCells l).drop (k * 2))[j]? = some u) : w3.cell? ((⟨b1, o1 + k * 2, none⟩ : Addr).add j) = some u := by
  rcases h.below hb hB with h0 | ⟨b2, o2, e, _, hc⟩
  · rw [h0] at hj; simp at hj
  · injection e with e
    injection e with e1 e2 _
    subst e1 e2
    rw [List.getElem?_drop] at hj
    have := hc _ _ hj
    rw [add_at, ← this]
    congr 2
    omega

set_option maxRecDepth 100000 in
set_option maxHeartbeats 4000000 in
theorem rput_walk (l : List Bk) (N : Nat) (a : Option Addr) (c B : Nat) (b n : Int) (w : World) (hN : l.length = N) (hlen : N < 2000) (hm : MayS l) (hb : -960 ≤ b ∧ b < 960) (hn : 1 ≤ n ∧ n ≤ 1099511627776) (h : Sl w B a (bkCells l)) (hB : B ≤ w.heap.size) (hac : a = none → c = 0) (hNc : N ≤ c) :
    Calls Try.prog 38 #[.slice a N c, .int .i64 b, .int .i64 n] w fun e w' => ∃ a' c', e = .returned (.slice a' (putB l b n).length c') ∧ w'.ownsRow w.heap.size 63 2 (.slice a' (putB l b n).length c') (putB l b n).length (bkCells (putB l b n)) ∧ Below w.heap.size w w' := by
  obtain ⟨i0, hi, hz0, hz1, hz2⟩ := info_parts info_bk
  have HM := Lib.hid hm
  clear hm
  go_enter Try.func38, Try.ntmps38
  go_wp2_with fail
  go_loopw [7, 8] (fun v i wr => ∃ (k : Nat) (a3 : Option Addr) (c3 : Nat), k ≤ N ∧ i = .int .i64 k ∧ v = .slice a3 k c3 ∧ Hid (∀ p, p < k → (l.getD p bk0).b < b) ∧ wr.ownsRow w.heap.size 63 2 (.slice a3 k c3) k (bkCells (l.take k)) ∧ Below w.heap.size w wr) (fun _ i _ => N - (intOf i).toNat)
  case atStart => exact ⟨0, none, 0, by omega, rfl, rfl, Lib.hid (fun p hp => by omega), World.ownsRow_nil _ _ _ _, Below.refl _ _⟩
  case round =>
    obtain ⟨k, a3, c3, hk, rfl, rfl, HL, hown, hbw⟩ := hrel
    by_cases hkN : k < N
    · obtain ⟨b1, o1, rfl, hb1, hc⟩ := (h.below hbw hB).bk (by omega)
      obtain ⟨r0, r1⟩ := hc k (by omega)
      have hz1' : b1 < wr.heap.size := by have := hbw.size; omega
      have htk := Lib.hid (take_getD l k (by omega))
      generalize hx : l.getD k bk0 = x at *
      have HX := Lib.hid hx
      obtain ⟨xb, xn⟩ := x
      simp only at r0 r1
      clear hx hc
      by_cases hlt : xb < b
      · have hown2 := hown.alloc (.cells #[.int .i64 xb, .int .i64 xn] 63)
        have hbz := hbw.size
        go_wp2_with (at_builtin; refine wpList_append_own _ rfl _ _ 30 rfl w.heap.size 63 i0 (.agg #[.int .i64 0, .int .i64 0]) 2 16 Try.underlying30 hi hz0 hz1 hz2 rfl (by decide) _ _ _ rfl hown2 ⟨wr.heap.size, 0, none⟩ 1 1 [.int .i64 xb, .int .i64 xn] rfl rfl ?c1 ?c2 ?c3 ?c4 ?c5 ?_)
        case c1 =>
          intro j u hj
          match j, hj with
          | 0, hj => simp at hj; subst hj; simp [Addr.add]
          | 1, hj => simp at hj; subst hj; simp [Addr.add]
        case c2 => intro u hu; simp at hu; rcases hu with rfl | rfl <;> rfl
        case c3 => unfold maxLen; omega
        case c4 => omega
        case c5 => simp; omega
        intro v' w3 hown' hgrow _
        obtain ⟨a4, c4, rfl⟩ := own_shape hown'
        have hb3 := (hbw.alloc hbz (.cells #[.int .i64 xb, .int .i64 xn] 63)).grown hgrow (by simp; omega) (fun g hg => (hown2.lt g hg).1)
        have hown3 : w3.ownsRow w.heap.size 63 2 (.slice a4 (k + 1) c4) (k + 1) (bkCells (l.take (k + 1))) := by
          rw [htk.out, bkCells_snoc]; exact hown'
        clear hown' hgrow hown2 hbw hown r0 r1
        go_wp2_with fail
        go_roundw
        case rel => exact ⟨k + 1, a4, c4, by omega, by go_num, rfl, Lib.hid (fun p hp => by rcases Nat.lt_or_ge p k with h1 | h1; exact HL.out p h1; rw [show p = k from by omega, HX.out]; exact hlt), hown3, hb3⟩
        case measure => simp [intOf]; omega
      · have hAt := Lib.hid (at_of HM.out.1 (by omega) HL.out (fun _ => by rw [HX.out]; simp only; omega))
        have hil : k < l.length := by omega
        have hok := HM.out.1 k hil
        unfold OkAt at hok
        rw [HX.out] at hok
        simp only at hok
        have hn1 := hok.2.2.1
        have hn2 := hok.2.2.2.1
        clear hok
        by_cases he : xb = b
        · subst he
          have HR := Lib.hid (show bkCells (l.take k) ++ [.int .i64 xb, .int .i64 (n + xn)] ++ (bkCells l).drop ((k + 1) * 2) = bkCells (putB l xb n) by
            rw [putB_old hAt.out hil (by rw [HX.out]), HX.out, bkCells_append, bkCells_append, bkCells_drop]; rfl)
          have HL2 := Lib.hid (show (putB l xb n).length = k + 1 + (N - (k + 1)) by
            rw [putB_old hAt.out hil (by rw [HX.out])]; simp; omega)
          have HC3 := Lib.hid (fun w3 (hb3 : Below w.heap.size w w3) => rput_cells l (w3 := w3) h (k + 1) hb3 hB)
          have hw0 : IntKind.i64.wrap (n + xn) = n + xn := IntWalk.i64_in _ (by omega)
          have hlt2 : ¬ xb < xb := by omega
          have hown2 := hown.alloc (.cells #[.int .i64 xb, .int .i64 (n + xn)] 63)
          have hbz := hbw.size
          go_wp2_with (at_builtin; refine wpList_append_own _ rfl _ _ 30 rfl w.heap.size 63 i0 (.agg #[.int .i64 0, .int .i64 0]) 2 16 Try.underlying30 hi hz0 hz1 hz2 rfl (by decide) _ _ _ rfl hown2 ⟨wr.heap.size, 0, none⟩ 1 1 [.int .i64 xb, .int .i64 (n + xn)] rfl rfl ?c1_1 ?c1_2 ?c1_3 ?c1_4 ?c1_5 ?_)
          try (case c1_1 => (intro j u hj; match j, hj with | 0, hj => (simp at hj; subst hj; simp [Addr.add]) | 1, hj => (simp at hj; subst hj; simp [Addr.add])))
          case c1_2 => first | (intro u hu; simp at hu; rcases hu with rfl | rfl <;> rfl) | exact ⟨rfl, rfl⟩
          try (case c1_3 => unfold maxLen; omega)
          try (case c1_4 => omega)
          try (case c1_5 => first | omega | (simp; omega))
          intro v' w3 hown' hgrow _
          obtain ⟨a4, c4, rfl⟩ := own_shape hown'
          have hb3 := (hbw.alloc hbz (.cells #[.int .i64 xb, .int .i64 (n + xn)] 63)).grown hgrow (by simp; omega) (fun g hg => (hown2.lt g hg).1)
          have HO3 := Lib.hid hown'
          clear hown' hgrow hown2 hbw hown
          have hck : c = k + 1 ∨ ¬ c = k + 1 := by omega
          rcases hck with hck | hck
          · have HR := Lib.hid (HR.out)
            have hdr : (bkCells l).drop ((k + 1) * 2) = [] := List.drop_of_length_le (by rw [bkCells_length]; omega)
            rw [hdr] at HR
            go_wp2_with (at_builtin; refine wpList_append_own _ rfl _ _ 30 rfl w.heap.size 63 i0 (.agg #[.int .i64 0, .int .i64 0]) 2 16 Try.underlying30 hi hz0 hz1 hz2 rfl (by decide) _ _ _ rfl HO3.out ⟨b1, o1, none⟩ (N - (k + 1)) 0 [] rfl (by simp; omega) ?d2_1 ?d2_2 ?d2_3 ?d2_4 ?d2_5 ?_)
            try (case d2_1 => intro j u hj; cases hj)
            try (case d2_2 => intro u hu; cases hu)
            try (case d2_3 => unfold maxLen; omega)
            try (case d2_4 => omega)
            try (case d2_5 => have := hb3.size; omega)
            intro v' w5 hown' hgrow _
            obtain ⟨a5, c5, rfl⟩ := own_shape hown'
            have hb5 := hb3.grown hgrow (by have := hb3.size; omega) (fun g hg => (HO3.out.lt g hg).1)
            go_wp2_with fail
            go_ret
            exact rput_end l HL2.out.symm (by rw [← HR.out]; try simp) hown' hb5
          · go_wp2_with (at_builtin; refine wpList_append_own _ rfl _ _ 30 rfl w.heap.size 63 i0 (.agg #[.int .i64 0, .int .i64 0]) 2 16 Try.underlying30 hi hz0 hz1 hz2 rfl (by decide) _ _ _ rfl HO3.out ⟨b1, o1 + (k + 1) * 2, none⟩ (N - (k + 1)) (c - (k + 1)) ((bkCells l).drop ((k + 1) * 2)) rfl (by rw [List.length_drop, bkCells_length]; omega) ?d3_1 ?d3_2 ?d3_3 ?d3_4 ?d3_5 ?_)
            try (case d3_1 => exact HC3.out _ hb3)
            try (case d3_2 => intro u hu; exact bkCells_one l u (List.mem_of_mem_drop hu))
            try (case d3_3 => unfold maxLen; omega)
            try (case d3_4 => omega)
            try (case d3_5 => have := hb3.size; omega)
            intro v' w5 hown' hgrow _
            obtain ⟨a5, c5, rfl⟩ := own_shape hown'
            have hb5 := hb3.grown hgrow (by have := hb3.size; omega) (fun g hg => (HO3.out.lt g hg).1)
            go_wp2_with fail
            go_ret
            exact rput_end l HL2.out.symm (by rw [← HR.out]; try simp) hown' hb5
        · have HR := Lib.hid (show bkCells (l.take k) ++ [.int .i64 b, .int .i64 n] ++ (bkCells l).drop (k * 2) = bkCells (putB l b n) by
            rw [putB_new hAt.out (fun h => he (by have := h.2; rw [HX.out] at this; exact this)), bkCells_append, bkCells_append, bkCells_drop]; rfl)
          have HL2 := Lib.hid (show (putB l b n).length = k + 1 + (N - k) by
            rw [putB_new hAt.out (fun h => he (by have := h.2; rw [HX.out] at this; exact this))]; simp; omega)
          have HC3 := Lib.hid (fun w3 (hb3 : Below w.heap.size w w3) => rput_cells l (w3 := w3) h k hb3 hB)
          have hck : ¬ c = k := by omega
          have hkN2 : k ≤ N := by omega
          have hown2 := hown.alloc (.cells #[.int .i64 b, .int .i64 (n)] 63)
          have hbz := hbw.size
          go_wp2_with (at_builtin; refine wpList_append_own _ rfl _ _ 30 rfl w.heap.size 63 i0 (.agg #[.int .i64 0, .int .i64 0]) 2 16 Try.underlying30 hi hz0 hz1 hz2 rfl (by decide) _ _ _ rfl hown2 ⟨wr.heap.size, 0, none⟩ 1 1 [.int .i64 b, .int .i64 (n)] rfl rfl ?c4_1 ?c4_2 ?c4_3 ?c4_4 ?c4_5 ?_)
          try (case c4_1 => (intro j u hj; match j, hj with | 0, hj => (simp at hj; subst hj; simp [Addr.add]) | 1, hj => (simp at hj; subst hj; simp [Addr.add])))
          case c4_2 => first | (intro u hu; simp at hu; rcases hu with rfl | rfl <;> rfl) | exact ⟨rfl, rfl⟩
          try (case c4_3 => unfold maxLen; omega)
          try (case c4_4 => omega)
          try (case c4_5 => first | omega | (simp; omega))
          intro v' w3 hown' hgrow _
          obtain ⟨a4, c4, rfl⟩ := own_shape hown'
          have hb3 := (hbw.alloc hbz (.cells #[.int .i64 b, .int .i64 (n)] 63)).grown hgrow (by simp; omega) (fun g hg => (hown2.lt g hg).1)
          have HO3 := Lib.hid hown'
          clear hown' hgrow hown2 hbw hown
          go_wp2_with (at_builtin; refine wpList_append_own _ rfl _ _ 30 rfl w.heap.size 63 i0 (.agg #[.int .i64 0, .int .i64 0]) 2 16 Try.underlying30 hi hz0 hz1 hz2 rfl (by decide) _ _ _ rfl HO3.out ⟨b1, o1 + k * 2, none⟩ (N - k) (c - k) ((bkCells l).drop (k * 2)) rfl (by rw [List.length_drop, bkCells_length]; omega) ?d5_1 ?d5_2 ?d5_3 ?d5_4 ?d5_5 ?_)
          try (case d5_1 => exact HC3.out _ hb3)
          try (case d5_2 => intro u hu; exact bkCells_one l u (List.mem_of_mem_drop hu))
          try (case d5_3 => unfold maxLen; omega)
          try (case d5_4 => omega)
          try (case d5_5 => have := hb3.size; omega)
          intro v' w5 hown' hgrow _
          obtain ⟨a5, c5, rfl⟩ := own_shape hown'
          have hb5 := hb3.grown hgrow (by have := hb3.size; omega) (fun g hg => (HO3.out.lt g hg).1)
          go_wp2_with fail
          go_ret
          exact rput_end l HL2.out.symm (by rw [← HR.out]; try simp) hown' hb5
    · obtain rfl : k = N := by omega
      have hAt := Lib.hid (at_of HM.out.1 (by omega) HL.out (fun h => by omega))
      have HR := Lib.hid (show bkCells (l.take k) ++ [.int .i64 b, .int .i64 n] = bkCells (putB l b n) by
        rw [putB_new hAt.out (fun h => by omega), List.drop_of_length_le (by omega), List.append_nil, bkCells_append]; rfl)
      have HL2 := Lib.hid (show (putB l b n).length = k + 1 by
        rw [putB_new hAt.out (fun h => by omega)]; simp; omega)
      cases a with
      | none =>
        obtain rfl := hac rfl
        obtain rfl : k = 0 := by omega
        have hown2 := hown.alloc (.cells #[.int .i64 b, .int .i64 (n)] 63)
        have hbz := hbw.size
        go_wp2_with (at_builtin; refine wpList_append_own _ rfl _ _ 30 rfl w.heap.size 63 i0 (.agg #[.int .i64 0, .int .i64 0]) 2 16 Try.underlying30 hi hz0 hz1 hz2 rfl (by decide) _ _ _ rfl hown2 ⟨wr.heap.size, 0, none⟩ 1 1 [.int .i64 b, .int .i64 (n)] rfl rfl ?c6_1 ?c6_2 ?c6_3 ?c6_4 ?c6_5 ?_)
        try (case c6_1 => (intro j u hj; match j, hj with | 0, hj => (simp at hj; subst hj; simp [Addr.add]) | 1, hj => (simp at hj; subst hj; simp [Addr.add])))
        case c6_2 => first | (intro u hu; simp at hu; rcases hu with rfl | rfl <;> rfl) | exact ⟨rfl, rfl⟩
        try (case c6_3 => unfold maxLen; omega)
        try (case c6_4 => omega)
        try (case c6_5 => first | omega | (simp; omega))
        intro v' w3 hown' hgrow _
        obtain ⟨a4, c4, rfl⟩ := own_shape hown'
        have hb3 := (hbw.alloc hbz (.cells #[.int .i64 b, .int .i64 (n)] 63)).grown hgrow (by simp; omega) (fun g hg => (hown2.lt g hg).1)
        have HO3 := Lib.hid hown'
        clear hown' hgrow hown2 hbw hown
        go_wp2_with (at_builtin; refine wpList_append_own_none rfl _ _ 30 rfl w.heap.size 63 i0 2 Try.underlying30 hi _ _ _ rfl HO3.out rfl ?_)
        go_wp2_with fail
        go_ret
        exact rput_end l HL2.out.symm HR.out HO3.out hb3
      | some ad =>
        have hown2 := hown.alloc (.cells #[.int .i64 b, .int .i64 (n)] 63)
        have hbz := hbw.size
        go_wp2_with (at_builtin; refine wpList_append_own _ rfl _ _ 30 rfl w.heap.size 63 i0 (.agg #[.int .i64 0, .int .i64 0]) 2 16 Try.underlying30 hi hz0 hz1 hz2 rfl (by decide) _ _ _ rfl hown2 ⟨wr.heap.size, 0, none⟩ 1 1 [.int .i64 b, .int .i64 (n)] rfl rfl ?c7_1 ?c7_2 ?c7_3 ?c7_4 ?c7_5 ?_)
        try (case c7_1 => (intro j u hj; match j, hj with | 0, hj => (simp at hj; subst hj; simp [Addr.add]) | 1, hj => (simp at hj; subst hj; simp [Addr.add])))
        case c7_2 => first | (intro u hu; simp at hu; rcases hu with rfl | rfl <;> rfl) | exact ⟨rfl, rfl⟩
        try (case c7_3 => unfold maxLen; omega)
        try (case c7_4 => omega)
        try (case c7_5 => first | omega | (simp; omega))
        intro v' w3 hown' hgrow _
        obtain ⟨a4, c4, rfl⟩ := own_shape hown'
        have hb3 := (hbw.alloc hbz (.cells #[.int .i64 b, .int .i64 (n)] 63)).grown hgrow (by simp; omega) (fun g hg => (hown2.lt g hg).1)
        have HO3 := Lib.hid hown'
        clear hown' hgrow hown2 hbw hown
        have hck : c = k ∨ ¬ c = k := by omega
        rcases hck with hck | hck
        · go_wp2_with (at_builtin; refine wpList_append_own _ rfl _ _ 30 rfl w.heap.size 63 i0 (.agg #[.int .i64 0, .int .i64 0]) 2 16 Try.underlying30 hi hz0 hz1 hz2 rfl (by decide) _ _ _ rfl HO3.out ad 0 0 [] rfl rfl ?d8_1 ?d8_2 ?d8_3 ?d8_4 ?d8_5 ?_)
          try (case d8_1 => intro j u hj; cases hj)
          try (case d8_2 => intro u hu; cases hu)
          try (case d8_3 => unfold maxLen; omega)
          try (case d8_4 => omega)
          try (case d8_5 => have := hb3.size; omega)
          intro v' w5 hown' hgrow _
          obtain ⟨a5, c5, rfl⟩ := own_shape hown'
          have hb5 := hb3.grown hgrow (by have := hb3.size; omega) (fun g hg => (HO3.out.lt g hg).1)
          go_wp2_with fail
          go_ret
          exact rput_end l HL2.out.symm (by rw [← HR.out]; try simp) hown' hb5
        · go_wp2_with (at_builtin; refine wpList_append_own _ rfl _ _ 30 rfl w.heap.size 63 i0 (.agg #[.int .i64 0, .int .i64 0]) 2 16 Try.underlying30 hi hz0 hz1 hz2 rfl (by decide) _ _ _ rfl HO3.out (ad.add (k * 2)) 0 (c - k) [] rfl rfl ?d9_1 ?d9_2 ?d9_3 ?d9_4 ?d9_5 ?_)
          try (case d9_1 => intro j u hj; cases hj)
          try (case d9_2 => intro u hu; cases hu)
          try (case d9_3 => unfold maxLen; omega)
          try (case d9_4 => omega)
          try (case d9_5 => have := hb3.size; omega)
          intro v' w5 hown' hgrow _
          obtain ⟨a5, c5, rfl⟩ := own_shape hown'
          have hb5 := hb3.grown hgrow (by have := hb3.size; omega) (fun g hg => (HO3.out.lt g hg).1)
          go_wp2_with fail
          go_ret
          exact rput_end l HL2.out.symm (by rw [← HR.out]; try simp) hown' hb5
end Go.Proofs.Ytbljhmcenjmjjaa

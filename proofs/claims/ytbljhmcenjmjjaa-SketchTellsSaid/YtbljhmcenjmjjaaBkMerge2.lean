/- sketch.Merge's refusals, and headgateref29.Merge. -/
import Derived.Test.YtbljhmcenjmjjaaRefPutB
import Derived.Test.YtbljhmcenjmjjaaRefBk
import Derived.Test.YtbljhmcenjmjjaaRefBkEnc
namespace Go.Proofs.Ytbljhmcenjmjjaa
open Go.RowKit Vm Sk
set_option linter.unusedVariables false

/-- What a merge answers: D, E. -/
def MgIs (l m D : List Bk) (E : Int) : Prop :=
  (¬ (MayS l ∧ MayS m) ∧ D = [] ∧ E = 1) ∨ (MayS l ∧ MayS m ∧ 1099511627776 < sumN l + sumN m ∧ D = [] ∧ E = 6) ∨ (MayS l ∧ MayS m ∧ sumN l + sumN m ≤ 1099511627776 ∧ D = mergeB l m ∧ E = 0)
theorem mgIs_ex (l m : List Bk) : ∃ D E, MgIs l m D E := by
  by_cases h1 : MayS l ∧ MayS m
  · by_cases h2 : 1099511627776 < sumN l + sumN m
    · exact ⟨_, _, .inr (.inl ⟨h1.1, h1.2, h2, rfl, rfl⟩)⟩
    · exact ⟨_, _, .inr (.inr ⟨h1.1, h1.2, by omega, rfl, rfl⟩)⟩
  · exact ⟨_, _, .inl ⟨h1, rfl, rfl⟩⟩
theorem mgIs_comm {l m D : List Bk} {E : Int} (h : MgIs l m D E) : MgIs m l D E := by
  rcases h with ⟨h1, h2, h3⟩ | ⟨h1, h2, h3, h4, h5⟩ | ⟨h1, h2, h3, h4, h5⟩
  · exact .inl ⟨fun h => h1 h.symm, h2, h3⟩
  · exact .inr (.inl ⟨h2, h1, by omega, h4, h5⟩)
  · exact .inr (.inr ⟨h2, h1, by omega, by rw [h4, mergeB_comm h1 h2], h5⟩)
theorem own_cap {w : World} {base n size : Nat} {e : TypeId} {a : Option Addr} {c : Nat} {xs : List Value} (h : w.ownsRow base e size (.slice a n c) n xs) : (a = none → c = 0) ∧ n ≤ c := by
  rcases h.2 with ⟨hv, h0⟩ | ⟨g, cap, cur, hv, hg, hh, h1, _⟩
  · injection hv with e1 e2 e3; exact ⟨fun _ => e3, by omega⟩
  · injection hv with e1 e2 e3; subst e1 e3; exact ⟨(fun h => by cases h), h1⟩

theorem cells_keep {w w' : World} {b i j : Nat} {u v : Value} (h0 : w.cell? ⟨b, i, none⟩ = some u) (h1 : w.cell? ⟨b, j, none⟩ = some v) (hz : b < w.heap.size) (hb : Below w.drew.heap.size w.drew w') : w'.cell? ⟨b, i, none⟩ = some u ∧ w'.cell? ⟨b, j, none⟩ = some v :=
  ⟨(hb.cell (p := ⟨b, i, none⟩) hz).trans h0, (hb.cell (p := ⟨b, j, none⟩) hz).trans h1⟩
theorem below_drew (w : World) {w' : World} (h : Below w.drew.heap.size w.drew w') : Below w.heap.size w w' := gtrans (b := w.drew) ((Below.refl _ _).drew) h

set_option maxRecDepth 100000 in
set_option maxHeartbeats 4000000 in
theorem bmerge_walk (l m : List Bk) (N M : Nat) (a1 a2 : Option Addr) (c1 c2 B : Nat) (w : World) (D : List Bk) (E : Int) (hN : l.length = N) (hM : m.length = M) (hn1 : N ≤ 200) (hn2 : M ≤ 200) (hD : MgIs l m D E)
    (hl1 : Sl w B a1 (bkCells l)) (hl2 : Sl w B a2 (bkCells m)) (hB : B ≤ w.heap.size) :
    Calls Try.prog 25 #[.slice a1 N c1, .slice a2 M c2] w (MgPost w D E) := by
  rcases hD with ⟨h, rfl, rfl⟩ | ⟨h1, h2, hs, rfl, rfl⟩ | ⟨h1, h2, hs, rfl, rfl⟩
  · by_cases h1 : MayS l
    · have h2 : ¬ MayS m := fun h2 => h ⟨h1, h2⟩
      have C1 := Lib.hid (fun w h hB => bk_check_walk l N a1 c1 B w 0 hN (by omega) (.inl ⟨h1, rfl⟩) h hB)
      have C2 := Lib.hid (fun w h hB => bk_check_walk m M a2 c2 B w 1 hM (by omega) (.inr ⟨h2, rfl⟩) h hB)
      clear h h1 h2
      go_enter Try.func25, Try.ntmps25
      go_wp2_with fail
      refine (C1.out _ hl1 hB).mono ?_
      rintro e w1 ⟨rfl, g1⟩
      have p2 := hl2.below g1 hB
      go_wp2_with fail
      refine (C2.out _ p2 (Nat.le_trans hB g1.size)).mono ?_
      rintro e w2 ⟨rfl, gg⟩
      go_wp2_with fail
      go_ret2
      exact ⟨none, 0, rfl, .inl rfl, gtrans g1 gg⟩
    · have C1 := Lib.hid (fun w h hB => bk_check_walk l N a1 c1 B w 1 hN (by omega) (.inr ⟨h1, rfl⟩) h hB)
      clear h h1
      go_enter Try.func25, Try.ntmps25
      go_wp2_with fail
      refine (C1.out _ hl1 hB).mono ?_
      rintro e w1 ⟨rfl, g1⟩
      go_wp2_with fail
      go_ret2
      exact ⟨none, 0, rfl, .inl rfl, g1⟩
  · have C1 := Lib.hid (fun w h hB => bk_check_walk l N a1 c1 B w 0 hN (by omega) (.inl ⟨h1, rfl⟩) h hB)
    have C2 := Lib.hid (fun w h hB => bk_check_walk m M a2 c2 B w 0 hM (by omega) (.inl ⟨h2, rfl⟩) h hB)
    have K1 := Lib.hid (fun w h hB => bk_count_walk l N a1 c1 B w hN (by omega) h1 h hB)
    have K2 := Lib.hid (fun w h hB => bk_count_walk m M a2 c2 B w hM (by omega) h2 h hB)
    have s1 : 0 ≤ sumN l := (pre_ord h1.1).sum
    have s2 : 0 ≤ sumN m := (pre_ord h2.1).sum
    have s3 := h1.2
    have s4 := h2.2
    have hw : IntKind.i64.wrap (sumN l + sumN m) = sumN l + sumN m := IntWalk.i64_in _ (by omega)
    clear h1 h2
    go_enter Try.func25, Try.ntmps25
    go_wp2_with fail
    refine (C1.out _ hl1 hB).mono ?_
    rintro e w1 ⟨rfl, g1⟩
    have p1 := hl1.below g1 hB
    have p2 := hl2.below g1 hB
    have hB1 := Nat.le_trans hB g1.size
    go_wp2_with fail
    refine (C2.out _ p2 hB1).mono ?_
    rintro e w2 ⟨rfl, gg⟩
    have g2 := gtrans g1 gg
    have p1 := p1.below gg hB1
    have p2 := p2.below gg hB1
    have hB2 := Nat.le_trans hB1 gg.size
    clear gg g1
    go_wp2_with fail
    refine (K1.out _ p1 hB2).mono ?_
    rintro e w3 ⟨rfl, gg⟩
    have g3 := gtrans g2 gg
    have p2 := p2.below gg hB2
    have hB3 := Nat.le_trans hB2 gg.size
    clear gg g2
    go_wp2_with fail
    refine (K2.out _ p2 hB3).mono ?_
    rintro e w4 ⟨rfl, gg⟩
    have g4 := gtrans g3 gg
    clear gg g3
    go_wp2_with fail
    go_ret2
    exact ⟨none, 0, rfl, .inl rfl, g4⟩
  · exact bmerge_yes l m N M a1 a2 c1 c2 B w hN hM hn1 hn2 h1 h2 hs hl1 hl2 hB

set_option maxRecDepth 100000 in
set_option maxHeartbeats 4000000 in
theorem rmerge_no (l m : List Bk) (N M : Nat) (a1 a2 : Option Addr) (c1 c2 B : Nat) (w : World) (hN : l.length = N) (hM : m.length = M) (hn1 : N ≤ 200) (hn2 : M ≤ 200) (h : ¬ (MayS l ∧ MayS m))
    (hl1 : Sl w B a1 (bkCells l)) (hl2 : Sl w B a2 (bkCells m)) (hB : B ≤ w.heap.size) :
    Calls Try.prog 26 #[.slice a1 N c1, .slice a2 M c2] w (MgPost w [] 1) := by
  by_cases h1 : MayS l
  · have h2 : ¬ MayS m := fun h2 => h ⟨h1, h2⟩
    have C1 := Lib.hid (fun w h hB => rmay29_walk l N a1 c1 B w true hN (by omega) ⟨fun _ => h1, fun _ => rfl⟩ h hB)
    have C2 := Lib.hid (fun w h hB => rmay29_walk m M a2 c2 B w false hM (by omega) ⟨(fun h => by cases h), fun h => absurd h h2⟩ h hB)
    clear h h1 h2
    go_enter Try.func26, Try.ntmps26
    go_wp2_with fail
    refine (C1.out _ hl1 hB).mono ?_
    rintro e w1 ⟨rfl, g1⟩
    have p2 := hl2.below g1 hB
    go_wp2_with fail
    refine (C2.out _ p2 (Nat.le_trans hB g1.size)).mono ?_
    rintro e w2 ⟨rfl, gg⟩
    go_wp2_with fail
    go_ret2
    exact ⟨none, 0, rfl, .inl rfl, gtrans g1 gg⟩
  · have C1 := Lib.hid (fun w h hB => rmay29_walk l N a1 c1 B w false hN (by omega) ⟨(fun h => by cases h), fun h => absurd h h1⟩ h hB)
    clear h h1
    go_enter Try.func26, Try.ntmps26
    go_wp2_with fail
    refine (C1.out _ hl1 hB).mono ?_
    rintro e w1 ⟨rfl, g1⟩
    go_wp2_with fail
    go_ret2
    exact ⟨none, 0, rfl, .inl rfl, g1⟩

set_option maxRecDepth 100000 in
set_option maxHeartbeats 4000000 in
theorem rmerge_may (l m : List Bk) (N M : Nat) (a1 a2 : Option Addr) (c1 c2 B : Nat) (w : World) (D : List Bk) (E : Int) (hN : l.length = N) (hM : m.length = M) (hn1 : N ≤ 200) (hn2 : M ≤ 200) (h1 : MayS l) (h2 : MayS m)
    (hD : (1099511627776 < sumN l + sumN m ∧ D = [] ∧ E = 6) ∨ (sumN l + sumN m ≤ 1099511627776 ∧ D = mergeB l m ∧ E = 0))
    (hl1 : Sl w B a1 (bkCells l)) (hl2 : Sl w B a2 (bkCells m)) (hB : B ≤ w.heap.size) (hac : (a1 = none → c1 = 0) ∧ N ≤ c1) :
    Calls Try.prog 26 #[.slice a1 N c1, .slice a2 M c2] w (MgPost w D E) := by
  have C1 := Lib.hid (fun w h hB => rmay29_walk l N a1 c1 B w true hN (by omega) ⟨fun _ => h1, fun _ => rfl⟩ h hB)
  have C2 := Lib.hid (fun w h hB => rmay29_walk m M a2 c2 B w true hM (by omega) ⟨fun _ => h2, fun _ => rfl⟩ h hB)
  have K1 := Lib.hid (fun w h hB => rcount29_walk l N a1 c1 B w hN (by omega) h1 h hB)
  have K2 := Lib.hid (fun w h hB => rcount29_walk m M a2 c2 B w hM (by omega) h2 h hB)
  have s1 : 0 ≤ sumN l := (pre_ord h1.1).sum
  have s2 : 0 ≤ sumN m := (pre_ord h2.1).sum
  have s3 := h1.2
  have s4 := h2.2
  have hw : IntKind.i64.wrap (1099511627776 - sumN l) = 1099511627776 - sumN l := IntWalk.i64_in _ (by omega)
  have H1 := Lib.hid h1
  have H2 := Lib.hid h2
  have hge : (1099511627776 - sumN l < sumN m ∧ D = [] ∧ E = 6) ∨ (¬ (1099511627776 - sumN l < sumN m) ∧ Hid (sumN l + sumN m ≤ 1099511627776) ∧ D = mergeB l m ∧ E = 0) := by
    rcases hD with ⟨h, r⟩ | ⟨h, r⟩
    · exact .inl ⟨by omega, r⟩
    · exact .inr ⟨by omega, Lib.hid h, r⟩
  clear h1 h2 hD
  go_enter Try.func26, Try.ntmps26
  go_wp2_with fail
  refine (C1.out _ hl1 hB).mono ?_
  rintro e w1 ⟨rfl, g1⟩
  have p1 := hl1.below g1 hB
  have p2 := hl2.below g1 hB
  have hB1 := Nat.le_trans hB g1.size
  clear hl1 hl2
  go_wp2_with fail
  refine (C2.out _ p2 hB1).mono ?_
  rintro e w2 ⟨rfl, gg⟩
  have g2 := gtrans g1 gg
  have p1 := p1.below gg hB1
  have p2 := p2.below gg hB1
  have hB2 := Nat.le_trans hB1 gg.size
  clear gg g1
  go_wp2_with fail
  refine (K2.out _ p2 hB2).mono ?_
  rintro e w3 ⟨rfl, gg⟩
  have g3 := gtrans g2 gg
  have p1 := p1.below gg hB2
  have p2 := p2.below gg hB2
  have hB3 := Nat.le_trans hB2 gg.size
  clear gg g2
  go_wp2_with fail
  refine (K1.out _ p1 hB3).mono ?_
  rintro e w4 ⟨rfl, gg⟩
  have g4 := gtrans g3 gg
  have p1 := p1.below gg hB3
  have p2 := p2.below gg hB3
  have hB4 := Nat.le_trans hB3 gg.size
  clear gg g3
  rcases hge with ⟨hgt, rfl, rfl⟩ | ⟨hle, HS, rfl, rfl⟩
  · go_wp2_with fail
    go_ret2
    exact ⟨none, 0, rfl, .inl rfl, g4⟩
  go_wp2_with fail
  go_loopw [0, 6] (fun v i wr => ∃ (k : Nat) (a : Option Addr) (c : Nat) (ls : List Bk), k ≤ M ∧ i = .int .i64 k ∧ v = .slice a ls.length c ∧ Hid (ls = mergeB l (m.take k)) ∧ Hid (MayS ls) ∧ sumN ls = sumN l + sumN (m.take k) ∧ ls.length ≤ N + k ∧ Hid (Sl wr wr.heap.size a (bkCells ls)) ∧ Hid ((a = none → c = 0) ∧ ls.length ≤ c) ∧ Below w4.heap.size w4 wr) (fun _ i _ => M - (intOf i).toNat)
  case atStart => exact ⟨0, a1, c1, l, by omega, rfl, by rw [hN], Lib.hid rfl, H1, by simp [sumN], by omega, Lib.hid (p1.grow hB4), Lib.hid (by rw [hN]; exact hac), Below.refl _ _⟩
  case round =>
    obtain ⟨k, a, c, ls, hk, rfl, rfl, HLs, HMs, hsm, hll, HSl, HAc, hb⟩ := hrel
    by_cases hlt : k < M
    · obtain ⟨b1, o1, rfl, hb1, hc⟩ := (p2.below hb hB4).bk (by omega)
      obtain ⟨r0, r1⟩ := hc k (by omega)
      have hz1 : b1 < wr.heap.size := by have := hb.size; omega
      have hok := H2.out.1 k (by omega)
      have hts := sumN_take m k (by omega)
      have hmo := sum_mono (k + 1) (by omega) H2.out.1
      have hmt := Lib.hid (mergeB_take l m k (by omega))
      have ho1 := hok.1
      have ho2 := hok.2.1
      have ho3 := hok.2.2.1
      have ho4 := hok.2.2.2.1
      clear hc hok
      generalize m.getD k bk0 = x at *
      obtain ⟨xb, xn⟩ := x
      simp only at r0 r1 hts hmt ho1 ho2 ho3 ho4
      have hsp := HS.out
      have HC := Lib.hid (rput_walk ls ls.length a c wr.heap.size xb xn wr.drew rfl (by omega) HMs.out ⟨ho1, ho2⟩ ⟨ho3, ho4⟩ (HSl.out.below ((Below.refl _ _).drew) (Nat.le_refl _)) (Nat.le_refl _) HAc.out.1 HAc.out.2)
      have HM2 := Lib.hid (putB_may HMs.out ⟨ho1, ho2⟩ ho3 (by omega : sumN ls + xn ≤ 1099511627776))
      have hps := putB_sum ls xb xn
      have hpl := putB_len ls xb xn
      have HE := Lib.hid (show putB ls xb xn = mergeB l (m.take (k + 1)) by rw [hmt.out, ← HLs.out])
      have hsum2 := Lib.hid (show sumN (putB ls xb xn) = sumN l + sumN (m.take (k + 1)) by omega)
      have hlen2 := Lib.hid (show (putB ls xb xn).length ≤ N + (k + 1) by omega)
      have hS0 : wr.drew.cell? ⟨b1, o1 + k * 2, none⟩ = some (.int .i64 xb) ∧ wr.drew.cell? ⟨b1, o1 + k * 2 + 1, none⟩ = some (.int .i64 xn) := ⟨r0, r1⟩
      clear hts hmo hmt ho1 ho2 ho3 ho4 hps hpl hsp HMs HLs hsm
      go_wp2_with fail
      go_region_held3 (fun w' => w'.cell? ⟨b1, o1 + k * 2, none⟩ = some (.int .i64 xb) ∧ w'.cell? ⟨b1, o1 + k * 2 + 1, none⟩ = some (.int .i64 xn))
        (with_reducible assumption)
        (first
          | (go_at_call_of 38 xb; refine HC.out.mono ?_; rintro x w6 ⟨a6, c6, rfl, hown6, g6⟩; have y := cells_keep r0 r1 hz1 g6))
      all_goals
        have hsz6 := g6.size
        have hb6 := hb.trans ((below_drew wr g6).mono hb.size)
        go_wp2_with fail
        go_roundw
        case rel => exact ⟨k + 1, a6, c6, putB ls xb xn, by omega, by go_num, rfl, HE, HM2, hsum2.out, hlen2.out, Lib.hid (own_sln hown6), Lib.hid (own_cap hown6), hb6⟩
        case measure => simp [intOf]; omega
    · have hall : m.take k = m := List.take_of_length_le (by omega)
      rw [hall] at HLs
      clear hall
      go_wp2_with fail
      go_ret2
      exact ⟨a, c, by rw [← HLs.out]; rfl, by rw [← HLs.out]; exact HSl.out, gtrans g4 hb⟩
theorem rmerge_walk (l m : List Bk) (N M : Nat) (a1 a2 : Option Addr) (c1 c2 B : Nat) (w : World) (D : List Bk) (E : Int) (hN : l.length = N) (hM : m.length = M) (hn1 : N ≤ 200) (hn2 : M ≤ 200) (hD : MgIs l m D E)
    (hl1 : Sl w B a1 (bkCells l)) (hl2 : Sl w B a2 (bkCells m)) (hB : B ≤ w.heap.size) (hac : (a1 = none → c1 = 0) ∧ N ≤ c1) :
    Calls Try.prog 26 #[.slice a1 N c1, .slice a2 M c2] w (MgPost w D E) := by
  rcases hD with ⟨h, rfl, rfl⟩ | ⟨h1, h2, r⟩ | ⟨h1, h2, r⟩
  · exact rmerge_no l m N M a1 a2 c1 c2 B w hN hM hn1 hn2 h hl1 hl2 hB
  · exact rmerge_may l m N M a1 a2 c1 c2 B w D E hN hM hn1 hn2 h1 h2 (.inl r) hl1 hl2 hB hac
  · exact rmerge_may l m N M a1 a2 c1 c2 B w D E hN hM hn1 hn2 h1 h2 (.inr r) hl1 hl2 hB hac
end Go.Proofs.Ytbljhmcenjmjjaa

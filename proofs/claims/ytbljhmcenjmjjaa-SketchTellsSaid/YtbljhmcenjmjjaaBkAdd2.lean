/- The walks of sketch.Add and headgateref29.Add. -/
import Derived.Test.YtbljhmcenjmjjaaBkMerge2
import Derived.Test.YtbljhmcenjmjjaaSkOf
import Derived.Test.YtbljhmcenjmjjaaRefSk
namespace Go.Proofs.Ytbljhmcenjmjjaa
open Go.RowKit Vm Sk
set_option linter.unusedVariables false

def addB (l : List Bk) (vs : List Int) : List Bk := vs.foldl (fun s v => putB s (ofI v) 1) l
theorem addB_take (l : List Bk) (vs : List Int) (k : Nat) (h : k < vs.length) : addB l (vs.take (k + 1)) = putB (addB l (vs.take k)) (ofI vs[k]) 1 := by
  unfold addB
  rw [List.take_succ_eq_append_getElem h, List.foldl_append]; rfl
/-- What counting numbers answers: D, E. -/
def AdIs (l : List Bk) (vs : List Int) (D : List Bk) (E : Int) : Prop :=
  (¬ MayS l ∧ D = [] ∧ E = 1) ∨ (MayS l ∧ 1099511627776 < sumN l + (vs.length : Int) ∧ D = [] ∧ E = 6) ∨ (MayS l ∧ sumN l + (vs.length : Int) ≤ 1099511627776 ∧ D = addB l vs ∧ E = 0)
theorem adIs_ex (l : List Bk) (vs : List Int) : ∃ D E, AdIs l vs D E := by
  by_cases h1 : MayS l
  · by_cases h2 : 1099511627776 < sumN l + (vs.length : Int)
    · exact ⟨_, _, .inr (.inl ⟨h1, h2, rfl, rfl⟩)⟩
    · exact ⟨_, _, .inr (.inr ⟨h1, by omega, rfl, rfl⟩)⟩
  · exact ⟨_, _, .inl ⟨h1, rfl, rfl⟩⟩
theorem adIs_may {l : List Bk} {vs : List Int} {D : List Bk} {E : Int} (h : AdIs l vs D E) : (¬ MayS l ∧ D = [] ∧ E = 1) ∨ (MayS l ∧ ((1099511627776 < sumN l + (vs.length : Int) ∧ D = [] ∧ E = 6) ∨ (sumN l + (vs.length : Int) ≤ 1099511627776 ∧ D = addB l vs ∧ E = 0))) := by
  rcases h with h | ⟨h, r⟩ | ⟨h, r⟩
  · exact .inl h
  · exact .inr ⟨h, .inl r⟩
  · exact .inr ⟨h, .inr r⟩
theorem ofI_in {v : Int} (h : I64 v) : -960 ≤ ofI v ∧ ofI v < 960 := (tells h).1

set_option maxRecDepth 100000 in
set_option maxHeartbeats 4000000 in
theorem badd_walk (l : List Bk) (vs : List Int) (N M : Nat) (a1 a2 : Option Addr) (c1 c2 B : Nat) (w : World) (D : List Bk) (E : Int) (hN : l.length = N) (hM : vs.length = M) (hn1 : N ≤ 200) (hn2 : M ≤ 200) (hv : ∀ v ∈ vs, I64 v) (hD : AdIs l vs D E)
    (hl1 : Sl w B a1 (bkCells l)) (hl2 : Sl w B a2 (i64s vs)) (hB : B ≤ w.heap.size) :
    Calls Try.prog 18 #[.slice a1 N c1, .slice a2 M c2] w (MgPost w D E) := by
  rcases adIs_may hD with ⟨h, rfl, rfl⟩ | ⟨h1, hD⟩
  · have C1 := Lib.hid (fun w h' hB => bk_check_walk l N a1 c1 B w 1 hN (by omega) (.inr ⟨h, rfl⟩) h' hB)
    clear h
    go_enter Try.func18, Try.ntmps18
    go_wp2_with fail
    refine (C1.out _ hl1 hB).mono ?_
    rintro e w1 ⟨rfl, g1⟩
    go_wp2_with fail
    go_ret2
    exact ⟨none, 0, rfl, .inl rfl, g1⟩
  have C1 := Lib.hid (fun w h hB => bk_check_walk l N a1 c1 B w 0 hN (by omega) (.inl ⟨h1, rfl⟩) h hB)
  have K1 := Lib.hid (fun w h hB => bk_count_walk l N a1 c1 B w hN (by omega) h1 h hB)
  have CL := Lib.hid (fun w h hB => clone_walk l N a1 c1 B w hN (by omega) h hB)
  have s1 : 0 ≤ sumN l := (pre_ord h1.1).sum
  have s3 := h1.2
  have hw : IntKind.i64.wrap (sumN l + (M : Int)) = sumN l + (M : Int) := IntWalk.i64_in _ (by omega)
  have H1 := Lib.hid h1
  have HV := Lib.hid hv
  have HM := Lib.hid hM
  have hge : (1099511627776 < sumN l + (M : Int) ∧ D = [] ∧ E = 6) ∨ (¬ (1099511627776 < sumN l + (M : Int)) ∧ D = addB l vs ∧ E = 0) := by
    rcases hD with ⟨h, r⟩ | ⟨h, r⟩
    · exact .inl ⟨by omega, r⟩
    · exact .inr ⟨by omega, r⟩
  clear h1 hD hv hM
  go_enter Try.func18, Try.ntmps18
  go_wp2_with fail
  refine (C1.out _ hl1 hB).mono ?_
  rintro e w1 ⟨rfl, g1⟩
  have p1 := hl1.below g1 hB
  have p2 := hl2.below g1 hB
  have hB1 := Nat.le_trans hB g1.size
  clear hl1 hl2
  go_wp2_with fail
  refine (K1.out _ p1 hB1).mono ?_
  rintro e w3 ⟨rfl, gg⟩
  have g3 := gtrans g1 gg
  have p1 := p1.below gg hB1
  have p2 := p2.below gg hB1
  have hB3 := Nat.le_trans hB1 gg.size
  clear gg g1
  rcases hge with ⟨hgt, rfl, rfl⟩ | ⟨hle, rfl, rfl⟩
  · go_wp2_with fail
    go_ret2
    exact ⟨none, 0, rfl, .inl rfl, g3⟩
  go_wp2_with fail
  refine (CL.out _ p1 hB3).mono ?_
  rintro e w5 ⟨a5, c5, rfl, hown, g5⟩
  go_wp2_with fail
  go_loopw [0, 23] (fun v i wr => ∃ (k : Nat) (a : Option Addr) (c : Nat) (ls : List Bk), k ≤ M ∧ i = .int .i64 k ∧ v = .slice a ls.length c ∧ Hid (ls = addB l (vs.take k)) ∧ Hid (MayS ls) ∧ sumN ls = sumN l + (k : Int) ∧ ls.length ≤ N + k ∧ wr.ownsRow w3.heap.size 63 2 (.slice a ls.length c) ls.length (bkCells ls) ∧ Below w3.heap.size w3 wr) (fun _ i _ => M - (intOf i).toNat)
  case atStart => exact ⟨0, a5, c5, l, by omega, rfl, by rw [hN], Lib.hid rfl, H1, by simp, by omega, by rw [hN]; exact hown, g5⟩
  case round =>
    obtain ⟨k, a, c, ls, hk, rfl, rfl, HLs, HMs, hsm, hll, hown, hb⟩ := hrel
    by_cases hlt : k < M
    · have hkx : k < vs.length := by have := HM.out; omega
      obtain ⟨b1, o1, rfl, hb1, k1⟩ := (p2.below hb hB3).at (j := k) (by rw [i64s_length]; exact hkx)
      rw [i64s_at _ _ hkx] at k1
      have hi := HV.out vs[k] (List.getElem_mem hkx)
      have hmt := Lib.hid (addB_take l vs k hkx)
      generalize vs[k] = x at *
      obtain ⟨ho1, ho2⟩ := ofI_in hi
      have HOf := Lib.hid (fun w => of_walk x w hi)
      generalize ofI x = xb at *
      have HC := Lib.hid (count_walk ls ls.length a c w3.heap.size xb 1 _ rfl (by omega) HMs.out.1 ⟨ho1, ho2⟩ ⟨by omega, by omega⟩ hown hb.size)
      have HM2 := Lib.hid (putB_may HMs.out ⟨ho1, ho2⟩ (by omega) (by omega : sumN ls + 1 ≤ 1099511627776))
      have hps := putB_sum ls xb 1
      have hpl := putB_len ls xb 1
      have HE := Lib.hid (show putB ls xb 1 = addB l (vs.take (k + 1)) by rw [hmt.out, ← HLs.out])
      have hsum2 := Lib.hid (show sumN (putB ls xb 1) = sumN l + ((k + 1 : Nat) : Int) by omega)
      have hlen2 := Lib.hid (show (putB ls xb 1).length ≤ N + (k + 1) by omega)
      clear hmt ho1 ho2 hown hps hpl HMs HLs hsm hi hkx
      go_wp2_with fail
      refine (HOf.out _).mono ?_
      rintro e w6 ⟨rfl, rfl⟩
      go_wp2_with fail
      refine HC.out.mono ?_
      rintro e w6 ⟨a6, c6, rfl, hown6, g6⟩
      go_wp2_with fail
      go_roundw
      case rel => exact ⟨k + 1, a6, c6, putB ls xb 1, by omega, by go_num, rfl, HE, HM2, hsum2.out, hlen2.out, hown6, hb.trans (g6.mono (Nat.le_refl _))⟩
      case measure => simp [intOf]; omega
    · have hall : vs.take k = vs := List.take_of_length_le (by have := HM.out; omega)
      rw [hall] at HLs
      have hL := own_sln hown
      clear hall
      go_wp2_with fail
      go_ret2
      exact ⟨a, c, by rw [← HLs.out]; rfl, by rw [← HLs.out]; exact hL, gtrans g3 hb⟩

set_option maxRecDepth 100000 in
set_option maxHeartbeats 4000000 in
theorem radd_walk (l : List Bk) (vs : List Int) (N M : Nat) (a1 a2 : Option Addr) (c1 c2 B : Nat) (w : World) (D : List Bk) (E : Int) (hN : l.length = N) (hM : vs.length = M) (hn1 : N ≤ 200) (hn2 : M ≤ 200) (hv : ∀ v ∈ vs, I64 v) (hD : AdIs l vs D E)
    (hl1 : Sl w B a1 (bkCells l)) (hl2 : Sl w B a2 (i64s vs)) (hB : B ≤ w.heap.size) (hac : (a1 = none → c1 = 0) ∧ N ≤ c1) :
    Calls Try.prog 19 #[.slice a1 N c1, .slice a2 M c2] w (MgPost w D E) := by
  rcases adIs_may hD with ⟨h, rfl, rfl⟩ | ⟨h1, hD⟩
  · have C1 := Lib.hid (fun w h' hB => rmay29_walk l N a1 c1 B w false hN (by omega) ⟨(fun h => by cases h), fun h2 => absurd h2 h⟩ h' hB)
    clear h
    go_enter Try.func19, Try.ntmps19
    go_wp2_with fail
    refine (C1.out _ hl1 hB).mono ?_
    rintro e w1 ⟨rfl, g1⟩
    go_wp2_with fail
    go_ret2
    exact ⟨none, 0, rfl, .inl rfl, g1⟩
  have C1 := Lib.hid (fun w h hB => rmay29_walk l N a1 c1 B w true hN (by omega) ⟨fun _ => h1, fun _ => rfl⟩ h hB)
  have K1 := Lib.hid (fun w h hB => rcount29_walk l N a1 c1 B w hN (by omega) h1 h hB)
  have s1 : 0 ≤ sumN l := (pre_ord h1.1).sum
  have s3 := h1.2
  have hw : IntKind.i64.wrap (1099511627776 - sumN l) = 1099511627776 - sumN l := IntWalk.i64_in _ (by omega)
  have H1 := Lib.hid h1
  have HV := Lib.hid hv
  have HM := Lib.hid hM
  have hge : (1099511627776 - sumN l < (M : Int) ∧ D = [] ∧ E = 6) ∨ (¬ (1099511627776 - sumN l < (M : Int)) ∧ D = addB l vs ∧ E = 0) := by
    rcases hD with ⟨h, r⟩ | ⟨h, r⟩
    · exact .inl ⟨by omega, r⟩
    · exact .inr ⟨by omega, r⟩
  clear h1 hD hv hM
  go_enter Try.func19, Try.ntmps19
  go_wp2_with fail
  refine (C1.out _ hl1 hB).mono ?_
  rintro e w1 ⟨rfl, g1⟩
  have p1 := hl1.below g1 hB
  have p2 := hl2.below g1 hB
  have hB1 := Nat.le_trans hB g1.size
  clear hl1 hl2
  go_wp2_with fail
  refine (K1.out _ p1 hB1).mono ?_
  rintro e w3 ⟨rfl, gg⟩
  have g3 := gtrans g1 gg
  have p1 := p1.below gg hB1
  have p2 := p2.below gg hB1
  have hB3 := Nat.le_trans hB1 gg.size
  clear gg g1
  rcases hge with ⟨hgt, rfl, rfl⟩ | ⟨hle, rfl, rfl⟩
  · go_wp2_with fail
    go_ret2
    exact ⟨none, 0, rfl, .inl rfl, g3⟩
  go_wp2_with fail
  go_loopw [0, 6] (fun v i wr => ∃ (k : Nat) (a : Option Addr) (c : Nat) (ls : List Bk), k ≤ M ∧ i = .int .i64 k ∧ v = .slice a ls.length c ∧ Hid (ls = addB l (vs.take k)) ∧ Hid (MayS ls) ∧ sumN ls = sumN l + (k : Int) ∧ ls.length ≤ N + k ∧ Hid (Sl wr wr.heap.size a (bkCells ls)) ∧ Hid ((a = none → c = 0) ∧ ls.length ≤ c) ∧ Below w3.heap.size w3 wr) (fun _ i _ => M - (intOf i).toNat)
  case atStart => exact ⟨0, a1, c1, l, by omega, rfl, by rw [hN], Lib.hid rfl, H1, by simp, by omega, Lib.hid (p1.grow hB3), Lib.hid (by rw [hN]; exact hac), Below.refl _ _⟩
  case round =>
    obtain ⟨k, a, c, ls, hk, rfl, rfl, HLs, HMs, hsm, hll, HSl, HAc, hb⟩ := hrel
    by_cases hlt : k < M
    · have hkx : k < vs.length := by have := HM.out; omega
      obtain ⟨b1, o1, rfl, hb1, k1⟩ := (p2.below hb hB3).at (j := k) (by rw [i64s_length]; exact hkx)
      rw [i64s_at _ _ hkx] at k1
      have hi := HV.out vs[k] (List.getElem_mem hkx)
      have hmt := Lib.hid (addB_take l vs k hkx)
      generalize vs[k] = x at *
      obtain ⟨ho1, ho2⟩ := ofI_in hi
      have HOf := Lib.hid (fun w => ref_of_walk x w hi)
      generalize ofI x = xb at *
      have HC := Lib.hid (rput_walk ls ls.length a c wr.heap.size xb 1 wr rfl (by omega) HMs.out ⟨ho1, ho2⟩ ⟨by omega, by omega⟩ HSl.out (Nat.le_refl _) HAc.out.1 HAc.out.2)
      have HM2 := Lib.hid (putB_may HMs.out ⟨ho1, ho2⟩ (by omega) (by omega : sumN ls + 1 ≤ 1099511627776))
      have hps := putB_sum ls xb 1
      have hpl := putB_len ls xb 1
      have HE := Lib.hid (show putB ls xb 1 = addB l (vs.take (k + 1)) by rw [hmt.out, ← HLs.out])
      have hsum2 := Lib.hid (show sumN (putB ls xb 1) = sumN l + ((k + 1 : Nat) : Int) by omega)
      have hlen2 := Lib.hid (show (putB ls xb 1).length ≤ N + (k + 1) by omega)
      clear hmt ho1 ho2 hps hpl HMs HLs hsm hi hkx
      go_wp2_with fail
      refine (HOf.out _).mono ?_
      rintro e w6 ⟨rfl, rfl⟩
      go_wp2_with fail
      refine HC.out.mono ?_
      rintro e w6 ⟨a6, c6, rfl, hown6, g6⟩
      go_wp2_with fail
      go_roundw
      case rel => exact ⟨k + 1, a6, c6, putB ls xb 1, by omega, by go_num, rfl, HE, HM2, hsum2.out, hlen2.out, Lib.hid (own_sln hown6), Lib.hid (own_cap hown6), hb.trans (g6.mono hb.size)⟩
      case measure => simp [intOf]; omega
    · have hall : vs.take k = vs := List.take_of_length_le (by have := HM.out; omega)
      rw [hall] at HLs
      clear hall
      go_wp2_with fail
      go_ret2
      exact ⟨a, c, by rw [← HLs.out]; rfl, by rw [← HLs.out]; exact HSl.out, gtrans g3 hb⟩
end Go.Proofs.Ytbljhmcenjmjjaa

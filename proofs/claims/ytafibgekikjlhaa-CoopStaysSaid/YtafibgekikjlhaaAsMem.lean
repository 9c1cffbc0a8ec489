/- The walk of headgateref09.Members. -/
import Derived.Test.YtafibgekikjlhaaAsKit
import Derived.BigQuiet
namespace Go.Proofs.Ytafibgekikjlhaa
open Go.RowKit Vm As
set_option linter.unusedVariables false
set_option linter.unusedSimpArgs false

theorem i_one8 (x : Int) : ∀ u ∈ ([.int .i64 x] : List Value), u.oneCell' = true := fun v hv => by simp at hv; rw [hv]; rfl
theorem i64s_one (l : List Int) : ∀ u ∈ i64s l, u.oneCell' = true := fun u hu => by
  unfold i64s at hu
  obtain ⟨x, _, rfl⟩ := List.mem_map.1 hu
  rfl
theorem memIs_no {l O : List Int} {x : Int} (h : MemIs l O) (hx : x ≤ 0) : MemIs (l ++ [x]) O := ⟨h.1, fun y => by
  rw [h.2 y]
  constructor
  · rintro ⟨h1, h2⟩; exact ⟨List.mem_append_left _ h1, h2⟩
  · rintro ⟨h1, h2⟩
    rcases List.mem_append.1 h1 with h1 | h1
    · exact ⟨h1, h2⟩
    · have := List.mem_singleton.1 h1; omega⟩
theorem memIs_ins {l A B : List Int} {x : Int} (h : MemIs l (A ++ B)) (hx : 0 < x) (hA : ∀ a ∈ A, a < x) (hB : ∀ b ∈ B, x < b) : MemIs (l ++ [x]) (A ++ [x] ++ B) := by
  obtain ⟨h1, h2, h3⟩ := List.pairwise_append.1 h.1
  refine ⟨?_, fun y => ?_⟩
  · rw [List.append_assoc]
    refine List.pairwise_append.2 ⟨h1, List.pairwise_cons.2 ⟨fun b hb => hB b hb, h2⟩, fun a ha b hb => ?_⟩
    rcases List.mem_cons.1 hb with rfl | hb
    · exact hA a ha
    · exact h3 a ha b hb
  · have := h.2 y
    simp only [List.mem_append, List.mem_singleton] at this ⊢
    constructor
    · rintro ((h4 | h4) | h4)
      · have := this.1 (.inl h4); exact ⟨.inl this.1, this.2⟩
      · exact ⟨.inr h4, by omega⟩
      · have := this.1 (.inr h4); exact ⟨.inl this.1, this.2⟩
    · rintro ⟨h4 | h4, h5⟩
      · rcases this.2 ⟨h4, h5⟩ with h6 | h6
        · exact .inl (.inl h6)
        · exact .inr h6
      · exact .inl (.inr h4)
theorem memIs_has {l A B : List Int} {x : Int} (h : MemIs l (A ++ x :: B)) : MemIs (l ++ [x]) (A ++ [x] ++ B) := by
  have e : A ++ [x] ++ B = A ++ x :: B := by simp
  rw [e]
  refine ⟨h.1, fun y => ?_⟩
  have hx := (h.2 x).1 (by simp)
  rw [h.2 y]
  constructor
  · rintro ⟨h1, h2⟩; exact ⟨List.mem_append_left _ h1, h2⟩
  · rintro ⟨h1, h2⟩
    rcases List.mem_append.1 h1 with h1 | h1
    · exact ⟨h1, h2⟩
    · rw [List.mem_singleton.1 h1]; exact hx
theorem ownN_kind {w : World} {base n c size : Nat} {a : Option Addr} {e : TypeId} {xs : List Value} (h : w.ownsRow base e size (.slice a n c) n xs) : (a = none ∧ n = 0 ∧ c = 0) ∨ ∃ g, a = some ⟨g, 0, none⟩ := by
  rcases h.2 with ⟨hv, hx⟩ | ⟨g, cap, cur, hv, _⟩
  · injection hv with h1 h2 h3
    exact .inl ⟨h1, h2, h3⟩
  · injection hv with h1 _ _
    exact .inr ⟨g, h1⟩
theorem sl_drop {w : World} {B g t : Nat} {L : List Int} (hg : g < B) (h : ∀ j u, (i64s L)[j]? = some u → w.cell? ⟨g, j, none⟩ = some u) : Sl w B (some ⟨g, t, none⟩) (i64s (L.drop t)) := by
  refine .inr ⟨g, t, rfl, hg, fun j u hu => h _ _ ?_⟩
  rw [← hu]
  unfold i64s
  rw [List.map_drop, List.getElem?_drop]
theorem i64s_app (a b : List Int) : i64s (a ++ b) = i64s a ++ i64s b := by simp [i64s]
def LtAt (O : List Int) (x : Int) (j : Nat) : Prop := O.getD j 0 < x
theorem take_lt {O : List Int} {x : Int} {k : Nat} (h : ∀ j, j < k → LtAt O x j) (hk : k ≤ O.length) : ∀ a ∈ O.take k, a < x := fun a ha => by
  obtain ⟨j, hj, rfl⟩ := List.mem_iff_getElem.1 ha
  rw [List.length_take] at hj
  have := h j (by omega)
  unfold LtAt at this
  rw [List.getElem_take]
  rwa [show O.getD j 0 = O[j]'(by omega) from by simp [List.getD, show j < O.length by omega]] at this
theorem drop_gt {O : List Int} {x : Int} {k : Nat} (hs : O.Pairwise (· < ·)) (hk : k < O.length) (hx : x < O.getD k 0) : ∀ b ∈ O.drop k, x < b := fun b hb => by
  rw [List.drop_eq_getElem_cons hk] at hb
  rw [show O.getD k 0 = O[k] from by simp [List.getD, hk]] at hx
  rcases List.mem_cons.1 hb with rfl | hb
  · exact hx
  · obtain ⟨j, hj, rfl⟩ := List.mem_iff_getElem.1 hb
    rw [List.length_drop] at hj
    rw [List.getElem_drop]
    have := List.pairwise_iff_getElem.1 hs k (k + 1 + j) hk (by omega) (by omega)
    omega
theorem take_one_more (xs : List Int) (i : Nat) (h : i < xs.length) : xs.take (i + 1) = xs.take i ++ [xs.getD i 0] := take_get xs 0 i h
/-- The three endings of a search. -/
theorem mem_end1 {l O : List Int} {x : Int} (h : MemIs l O) (hx : 0 < x) (h1 : ∀ j, j < O.length → LtAt O x j) : MemIs (l ++ [x]) (O ++ [x]) := by
  have := memIs_ins (A := O) (B := []) (by rw [List.append_nil]; exact h) hx (by have := take_lt h1 (Nat.le_refl _); rwa [List.take_length] at this) (by simp)
  simpa using this
theorem mem_end2 {l O : List Int} {x : Int} {k : Nat} (h : MemIs l O) (hk : k < O.length) (he : O.getD k 0 = x) : MemIs (l ++ [x]) (O.take k ++ [x] ++ O.drop (k + 1)) := by
  refine memIs_has ?_
  have e : x :: O.drop (k + 1) = O.drop k := by rw [List.drop_eq_getElem_cons hk, ← he]; simp [List.getD, hk]
  rw [e, List.take_append_drop]; exact h
theorem mem_end3 {l O : List Int} {x : Int} {k : Nat} (h : MemIs l O) (hx : 0 < x) (h1 : ∀ j, j < k → LtAt O x j) (hk : k < O.length) (hy : x < O.getD k 0) : MemIs (l ++ [x]) (O.take k ++ [x] ++ O.drop k) :=
  memIs_ins (by rw [List.take_append_drop]; exact h) hx (take_lt h1 (by omega)) (drop_gt h.1 hk hy)
def MemPost (xs : List Int) (w : World) (e : Ending) (w' : World) : Prop := ∃ (m : List Int) (n : Nat) (a' : Option Addr) (c' : Nat), MemIs xs m ∧ m.length = n ∧ e = .returned (.slice a' n c') ∧ w'.ownsRow w.heap.size 3 1 (.slice a' n c') n (i64s m) ∧ Below w.heap.size w w'
set_option maxRecDepth 100000 in
set_option maxHeartbeats 16000000 in
theorem rmembers_walk (xs : List Int) (M : Nat) (a : Option Addr) (c : Nat) (w : World) (hM : xs.length = M) (hMm : M ≤ 1000) (h : Sl w w.heap.size a (i64s xs)) :
    Calls Try.prog 37 #[.slice a M c] w (MemPost xs w) := by
  obtain ⟨i7, hi7, hz70, hz71, hz72⟩ := info_parts info_i64
  have HL := Lib.hid hM
  have HS := Lib.hid h
  clear hM h
  go_enter Try.func37, Try.ntmps37
  go_wp2_with fail
  go_loopw [3, 4] (fun T I wr => ∃ (i : Nat) (O : List Int) (n : Nat) (a3 : Option Addr) (c3 : Nat), i ≤ M ∧ I = .int .i64 i ∧ T = .slice a3 n c3 ∧ Hid (O.length = n) ∧ n ≤ i ∧ Hid (MemIs (xs.take i) O) ∧ wr.ownsRow w.heap.size 3 1 (.slice a3 n c3) n (i64s O) ∧ Below w.heap.size w wr) (fun _ I _ => M - (intOf I).toNat)
  case atStart => exact ⟨0, [], 0, none, 0, Nat.zero_le _, rfl, rfl, Lib.hid rfl, Nat.le_refl _, Lib.hid ⟨List.Pairwise.nil, by simp⟩, World.ownsRow_nil _ _ _ _, Below.refl _ _⟩
  case round =>
    obtain ⟨i, O, n, a3, c3, hiM, rfl, rfl, HOl, hni, HMI, own, hb⟩ := hrel
    have hbz := hb.size
    by_cases hlt : i < M
    · have hli : (i : Int) < (M : Int) := by omega
      have hi0 : 0 ≤ (i : Int) := by omega
      obtain ⟨bx, ox, rfl, hbx, hcx⟩ := HS.out.ints (by rw [HL.out]; omega)
      have hx0 := hcx i (by rw [HL.out]; exact hlt)
      have HT := Lib.hid (take_one_more xs i (by rw [HL.out]; exact hlt))
      obtain ⟨x, hx⟩ : ∃ x, xs.getD i 0 = x := ⟨_, rfl⟩
      rw [hx] at hx0 HT
      have HX0 := Lib.hid hx0
      have r0 := (hb.cell (p := ⟨bx, ox + i, none⟩) (by show bx < _; omega)).trans hx0
      have hzb : bx < wr.heap.size := by omega
      have Hwi := Lib.hid (show IntKind.i64.wrap ((i : Int) + 1) = ((i + 1 : Nat) : Int) by rw [IntWalk.i64_in _ (by omega)]; omega)
      clear hcx hx hx0
      by_cases hxz : x ≤ 0
      · have HM2 := Lib.hid (show MemIs (xs.take (i + 1)) O by rw [HT.out]; exact memIs_no HMI.out hxz)
        have HOw := Lib.hid own
        clear own
        go_upto_region 4 with fail
        clear r0 hxz
        have hwi := Hwi.out
        go_wp2_with fail
        go_roundw
        case rel => exact ⟨i + 1, O, n, a3, c3, by omega, by go_num, rfl, HOl, by omega, HM2, HOw.out, hb⟩
        case measure => simp [intOf]; omega
      · have hx1 : 0 < x := by omega
        have HOw := Lib.hid own
        clear own
        go_upto_region 6 with fail
        clear r0 hxz
        obtain ⟨wo, hwo⟩ : ∃ wo : World, wo = wr := ⟨_, rfl⟩
        rw [← hwo] at hb hbz hzb HOw ⊢
        clear hwo
        go_wp2_with fail
        go_loopw [5, 6] (fun T K wz => ∃ (k : Nat) (a5 : Option Addr) (c5 : Nat), k ≤ n ∧ K = .int .i64 k ∧ T = .slice a5 k c5 ∧ Hid (∀ j, j < k → LtAt O x j) ∧ wz.ownsRow wo.heap.size 3 1 (.slice a5 k c5) k (i64s (O.take k)) ∧ Below wo.heap.size wo wz) (fun _ K _ => n - (intOf K).toNat)
        case atStart => exact ⟨0, none, 0, Nat.zero_le _, rfl, rfl, Lib.hid (fun j hj => by omega), World.ownsRow_nil _ _ _ _, Below.refl _ _⟩
        case round =>
          obtain ⟨k, a5, c5, hkn, rfl, rfl, HLt, own5, hz⟩ := hrel
          have hzz := hz.size
          have xw := ((hb.trans (hz.mono hbz)).cell (p := ⟨bx, ox + i, none⟩) (by show bx < _; omega)).trans HX0.out
          have hzb2 : bx < wr.heap.size := by omega
          have hk0 : 0 ≤ (k : Int) := by omega
          have hncap := ownN_cap HOw.out
          by_cases hkl : k < n
          · obtain ⟨g3, rfl, hg3, hg3l, _, hg3c⟩ := ownN_at HOw.out (by omega)
            have y0 := hg3c k _ (i64s_get O k (by rw [HOl.out]; exact hkl))
            obtain ⟨y, hy⟩ : ∃ y, O.getD k 0 = y := ⟨_, rfl⟩
            rw [hy] at y0
            have HY := Lib.hid hy
            have yw := (hz.cell (p := ⟨g3, k, none⟩) (by show g3 < _; omega)).trans y0
            have HYW := Lib.hid (fun (w' : World) (h' : Below wo.heap.size wo w') => (h'.cell (p := ⟨g3, k, none⟩) (by show g3 < _; omega)).trans y0)
            have hzg : g3 < wr.heap.size := by omega
            have hkd : decide (k < n) = true := decide_eq_true hkl
            have HCC := Lib.hid hg3c
            clear hy hg3c y0
            by_cases hyx : y < x
            · have hyd : decide (y < x) = true := decide_eq_true hyx
              have HO5 := Lib.hid own5
              have HLt2 := Lib.hid (show ∀ j, j < k + 1 → LtAt O x j from fun j hj => by
                rcases Nat.lt_or_ge j k with h1 | h1
                · exact HLt.out j h1
                · rw [show j = k by omega]; unfold LtAt; rw [HY.out]; exact hyx)
              have HTk := Lib.hid (show O.take (k + 1) = O.take k ++ [y] by rw [take_one_more O k (by rw [HOl.out]; exact hkl), HY.out])
              clear own5 hyx
              go_upto_region 8 with fail
              go_quiet (fail)
              clear xw yw
              obtain ⟨w2, hw2⟩ : ∃ w2, w2 = wr.drewN nq := ⟨_, rfl⟩
              have hd2 : Below wr.heap.size wr w2 := by rw [hw2]; exact below_drewN _ _ _
              rw [← hw2]
              clear hw2 nq
              have hz2 := hz.trans (hd2.mono hzz)
              have hz2s := hz2.size
              have yw2 := HYW.out w2 hz2
              have hzg2 : g3 < w2.heap.size := by omega
              have HO6 := Lib.hid ((own_keep HO5.out hd2).alloc (.cells #[.int .i64 y] 3))
              have HB6 := Lib.hid (hz2.alloc hz2s (.cells #[.int .i64 y] 3))
              have hza := (balloc w2 (.cells #[.int .i64 y] 3)).size
              have Hwk := Lib.hid (show IntKind.i64.wrap ((k : Int) + 1) = ((k + 1 : Nat) : Int) by rw [IntWalk.i64_in _ (by omega)]; omega)
              have hkn2 : (k : Int) < (n : Int) := by omega
              clear hd2 HO5 hkd hyd hz hzz
              go_wp2_with (at_builtin; refine wp_app2 rfl _ _ 22 rfl wo.heap.size 3 i7 (.int .i64 0) 1 8 Try.underlying22 hi7 hz70 hz71 hz72 rfl (by decide) _ _ _ rfl HO6.out _ _ _ rfl [.int .i64 y] _ wo rfl (sl_fresh _ [.int .i64 y] 3) (fun h => by cases h) (i_one8 _) ?da ?db ?dc HB6.out ?_)
              case da => unfold maxLen; omega
              case db => omega
              case dc => omega
              intro a7 c7 w7 o7 b7 f7
              have HO7 : Hid (w7.ownsRow wo.heap.size 3 1 (.slice a7 (k + 1) c7) (k + 1) (i64s (O.take (k + 1)))) := Lib.hid (by rw [HTk.out, i64s_snoc]; exact o7)
              clear o7 f7 HO6 HB6 yw2 hza
              have hwk := Hwk.out
              go_wp2_with fail
              go_roundw
              case rel => exact ⟨k + 1, a7, c7, by omega, by go_num, rfl, HLt2, HO7.out, b7⟩
              case measure => simp [intOf]; omega
            · by_cases hyx2 : y = x
              · have hyd : decide (y < x) = false := decide_eq_false hyx
                have HCD := Lib.hid (fun (w' : World) (h' : Below wo.heap.size wo w') => sl_drop (t := k + 1) (Nat.lt_of_lt_of_le hg3l (Nat.le_refl _)) (fun j u hu => (h'.cell (p := ⟨g3, j, none⟩) (by show g3 < _; omega)).trans (HCC.out j u hu)))
                have HMM := Lib.hid (show MemIs (xs.take (i + 1)) (O.take k ++ [x] ++ O.drop (k + 1)) by rw [HT.out]; exact mem_end2 HMI.out (by rw [HOl.out]; exact hkl) (by rw [HY.out]; exact hyx2))
                have HRl := Lib.hid (show (O.take k ++ [x] ++ O.drop (k + 1)).length = k + 1 + (n - (k + 1)) by simp only [List.length_append, List.length_take, List.length_drop, HOl.out, List.length_cons, List.length_nil]; omega)
                clear hyx
                have HO5 := Lib.hid own5
                have hcap := hncap.2
                clear own5
                go_upto_region 8 with fail
                go_quiet (fail)
                clear xw yw
                obtain ⟨w2, hw2⟩ : ∃ w2, w2 = wr.drewN nq := ⟨_, rfl⟩
                have hd2 : Below wr.heap.size wr w2 := by rw [hw2]; exact below_drewN _ _ _
                rw [← hw2]
                clear hw2 nq
                have hz2 := hz.trans (hd2.mono hzz)
                have hz2s := hz2.size
                have xw2 := ((hb.trans (hz2.mono hbz)).cell (p := ⟨bx, ox + i, none⟩) (by show bx < _; omega)).trans HX0.out
                have hzb3 : bx < w2.heap.size := by omega
                have HO6 := Lib.hid ((own_keep HO5.out hd2).alloc (.cells #[.int .i64 x] 3))
                have HB6 := Lib.hid (hz2.alloc hz2s (.cells #[.int .i64 x] 3))
                have hza := (balloc w2 (.cells #[.int .i64 x] 3)).size
                clear hd2 HO5 hz hzz hyd hkd
                go_wp2_with (at_builtin; refine wp_app2 rfl _ _ 22 rfl wo.heap.size 3 i7 (.int .i64 0) 1 8 Try.underlying22 hi7 hz70 hz71 hz72 rfl (by decide) _ _ _ rfl HO6.out _ _ _ rfl [.int .i64 x] _ wo rfl (sl_fresh _ [.int .i64 x] 3) (fun h => by cases h) (i_one8 _) ?da ?db ?dc HB6.out ?_)
                case da => unfold maxLen; omega
                case db => omega
                case dc => omega
                intro a6 c6 w6 o6 b6 f6
                have hz6 := b6.size
                have HO7 : Hid (w6.ownsRow wo.heap.size 3 1 (.slice a6 (k + 1) c6) (k + 1) (i64s (O.take k ++ [x]))) := Lib.hid (by rw [i64s_snoc]; exact o6)
                have xw6 := ((hb.trans (b6.mono hbz)).cell (p := ⟨bx, ox + i, none⟩) (by show bx < _; omega)).trans HX0.out
                have hzb6 : bx < w6.heap.size := by omega
                clear o6 f6 HO6 HB6 xw2 hza hzb3
                have hkd : decide (k < n) = true := decide_eq_true hkl
                have yw6 := HYW.out w6 b6
                have hzg6 : g3 < w6.heap.size := by omega
                have hye : (y == x) = true := by rw [hyx2]; exact beq_self_eq_true _
                clear hyx2
                go_upto_region 12 with fail
                go_quiet (fail)
                clear xw6 yw6 hye hkd
                obtain ⟨w5, hw5⟩ : ∃ w5, w5 = w6.drewN nq := ⟨_, rfl⟩
                have hd5 : Below w6.heap.size w6 w5 := by rw [hw5]; exact below_drewN _ _ _
                rw [← hw5]
                clear hw5 nq
                have hz5 := b6.trans (hd5.mono hz6)
                have hz5s := hz5.size
                have HO5 := Lib.hid (own_keep HO7.out hd5)
                have HB5 := Lib.hid hz5
                clear hd5 HO7 b6
                have hkn2 : ((k + 1 : Nat) : Int) ≤ (n : Int) := by omega
                have hwk : IntKind.i64.wrap ((k : Int) + 1) = ((k + 1 : Nat) : Int) := by rw [IntWalk.i64_in _ (by omega)]; omega
                go_upto_region 14 with fail
                clear hwk
                obtain ⟨t, ht⟩ : ∃ t, k + 1 = t := ⟨_, rfl⟩
                rw [show ((k : Int) + 1) = (t : Int) from by omega]
                have htn : (t : Int) ≤ (n : Int) := by omega
                have ht0 : 0 ≤ (t : Int) := by omega
                have hncI : (n : Int) ≤ (c3 : Int) := by omega
                have htk : k + 1 + (n - t) = n := by omega
                by_cases htc : t = c3
                · have hnt : n = t := by omega
                  have hdr : O.drop (k + 1) = [] := List.drop_eq_nil_of_le (by rw [HOl.out]; omega)
                  rw [hdr, List.append_nil] at HMM
                  replace HRl := Lib.hid (show (O.take k ++ [x]).length = k + 1 by rw [List.length_append, List.length_take, HOl.out]; simp; omega)
                  have HE := Lib.hid (fun (a7 : Option Addr) (c7 : Nat) (w7 : World) (h : w7.ownsRow wo.heap.size 3 1 (.slice a7 (k + 1) c7) (k + 1) (i64s (O.take k ++ [x]))) => (own_base h hbz : w7.ownsRow w.heap.size 3 1 (.slice a7 (k + 1) c7) (k + 1) (i64s (O.take k ++ [x]))))
                  subst htc
                  subst hnt
                  clear hdr hncI htn hcap hkn2 htk ht hncap
                  go_wp2_with (at_builtin; refine wp_app2 rfl _ _ 22 rfl wo.heap.size 3 i7 (.int .i64 0) 1 8 Try.underlying22 hi7 hz70 hz71 hz72 rfl (by decide) _ _ _ rfl HO5.out _ _ _ rfl [] wo.heap.size wo ?dd (Sl.nil _ _ _) (fun h => by cases h) (fun u hu => by cases hu) ?da ?db ?dc HB5.out ?_)
                  case dd => simp
                  case da => unfold maxLen; omega
                  case db => omega
                  case dc => omega
                  intro a7 c7 w7 o7 b7 f7
                  have HRo := Lib.hid (HE.out a7 c7 w7 (by simpa using o7))
                  have hb7 := hb.trans (b7.mono hbz)
                  clear o7 f7
                  have hwi := Hwi.out
                  go_wp2_with fail
                  go_roundw
                  case rel => exact ⟨i + 1, O.take k ++ [x], k + 1, a7, c7, by omega, by go_num, by simp, HRl, by omega, HMM, HRo.out, hb7⟩
                  case measure => simp [intOf]; omega
                · have htc2 : t < c3 := by omega
                  rw [ht] at HMM HRl HCD
                  clear hkn2 hncap hcap htc htk
                  go_wp2_with (at_builtin; refine wp_app2 rfl _ _ 22 rfl wo.heap.size 3 i7 (.int .i64 0) 1 8 Try.underlying22 hi7 hz70 hz71 hz72 rfl (by decide) _ _ _ rfl HO5.out _ _ _ rfl (i64s (O.drop (t))) wo.heap.size wo ?dd ?ds (fun h => by cases h) (i64s_one _) ?da ?db ?dc HB5.out ?_)
                  case dd => simp [i64s, HOl.out]
                  case ds => simpa using HCD.out _ HB5.out
                  case da => unfold maxLen; omega
                  case db => omega
                  case dc => omega
                  intro a7 c7 w7 o7 b7 f7
                  have HRo : Hid (w7.ownsRow w.heap.size 3 1 (.slice a7 (t + (n - t)) c7) (t + (n - t)) (i64s (O.take k ++ [x] ++ O.drop (t)))) := Lib.hid (own_base (by rw [i64s_app]; exact o7) hbz)
                  have hb7 := hb.trans (b7.mono hbz)
                  clear o7 f7
                  have hwi := Hwi.out
                  go_wp2_with fail
                  go_roundw
                  case rel => exact ⟨i + 1, O.take k ++ [x] ++ O.drop (t), t + (n - t), a7, c7, by omega, by go_num, rfl, HRl, by omega, HMM, HRo.out, hb7⟩
                  case measure => simp [intOf]; omega
              · have hyd : decide (y < x) = false := decide_eq_false hyx
                have HCD := Lib.hid (fun (w' : World) (h' : Below wo.heap.size wo w') => sl_drop (t := k) (Nat.lt_of_lt_of_le hg3l (Nat.le_refl _)) (fun j u hu => (h'.cell (p := ⟨g3, j, none⟩) (by show g3 < _; omega)).trans (HCC.out j u hu)))
                have HMM := Lib.hid (show MemIs (xs.take (i + 1)) (O.take k ++ [x] ++ O.drop (k)) by rw [HT.out]; exact mem_end3 HMI.out hx1 HLt.out (by rw [HOl.out]; exact hkl) (by rw [HY.out]; omega))
                have HRl := Lib.hid (show (O.take k ++ [x] ++ O.drop (k)).length = k + 1 + (n - (k)) by simp only [List.length_append, List.length_take, List.length_drop, HOl.out, List.length_cons, List.length_nil]; omega)
                clear hyx
                have HO5 := Lib.hid own5
                have hcap := hncap.2
                clear own5
                go_upto_region 8 with fail
                go_quiet (fail)
                clear xw yw
                obtain ⟨w2, hw2⟩ : ∃ w2, w2 = wr.drewN nq := ⟨_, rfl⟩
                have hd2 : Below wr.heap.size wr w2 := by rw [hw2]; exact below_drewN _ _ _
                rw [← hw2]
                clear hw2 nq
                have hz2 := hz.trans (hd2.mono hzz)
                have hz2s := hz2.size
                have xw2 := ((hb.trans (hz2.mono hbz)).cell (p := ⟨bx, ox + i, none⟩) (by show bx < _; omega)).trans HX0.out
                have hzb3 : bx < w2.heap.size := by omega
                have HO6 := Lib.hid ((own_keep HO5.out hd2).alloc (.cells #[.int .i64 x] 3))
                have HB6 := Lib.hid (hz2.alloc hz2s (.cells #[.int .i64 x] 3))
                have hza := (balloc w2 (.cells #[.int .i64 x] 3)).size
                clear hd2 HO5 hz hzz hyd hkd
                go_wp2_with (at_builtin; refine wp_app2 rfl _ _ 22 rfl wo.heap.size 3 i7 (.int .i64 0) 1 8 Try.underlying22 hi7 hz70 hz71 hz72 rfl (by decide) _ _ _ rfl HO6.out _ _ _ rfl [.int .i64 x] _ wo rfl (sl_fresh _ [.int .i64 x] 3) (fun h => by cases h) (i_one8 _) ?da ?db ?dc HB6.out ?_)
                case da => unfold maxLen; omega
                case db => omega
                case dc => omega
                intro a6 c6 w6 o6 b6 f6
                have hz6 := b6.size
                have HO7 : Hid (w6.ownsRow wo.heap.size 3 1 (.slice a6 (k + 1) c6) (k + 1) (i64s (O.take k ++ [x]))) := Lib.hid (by rw [i64s_snoc]; exact o6)
                have xw6 := ((hb.trans (b6.mono hbz)).cell (p := ⟨bx, ox + i, none⟩) (by show bx < _; omega)).trans HX0.out
                have hzb6 : bx < w6.heap.size := by omega
                clear o6 f6 HO6 HB6 xw2 hza hzb3
                have hkd : decide (k < n) = true := decide_eq_true hkl
                have yw6 := HYW.out w6 b6
                have hzg6 : g3 < w6.heap.size := by omega
                have hye : (y == x) = false := beq_eq_false_iff_ne.2 hyx2
                clear hyx2
                go_upto_region 12 with fail
                go_quiet (fail)
                clear xw6 yw6 hye hkd
                obtain ⟨w5, hw5⟩ : ∃ w5, w5 = w6.drewN nq := ⟨_, rfl⟩
                have hd5 : Below w6.heap.size w6 w5 := by rw [hw5]; exact below_drewN _ _ _
                rw [← hw5]
                clear hw5 nq
                have hz5 := b6.trans (hd5.mono hz6)
                have hz5s := hz5.size
                have HO5 := Lib.hid (own_keep HO7.out hd5)
                have HB5 := Lib.hid hz5
                clear hd5 HO7 b6
                have hkn2 : (k : Int) ≤ (n : Int) := by omega
                have hkc2 : k < c3 := by omega
                have hnc : (n : Int) ≤ (c3 : Int) := by omega
                clear hncap
                go_wp2_with (at_builtin; refine wp_app2 rfl _ _ 22 rfl wo.heap.size 3 i7 (.int .i64 0) 1 8 Try.underlying22 hi7 hz70 hz71 hz72 rfl (by decide) _ _ _ rfl HO5.out _ _ _ rfl (i64s (O.drop (k))) wo.heap.size wo ?dd ?ds (fun h => by cases h) (i64s_one _) ?da ?db ?dc HB5.out ?_)
                case dd => simp [i64s, HOl.out]
                case ds => simpa using HCD.out _ HB5.out
                case da => unfold maxLen; omega
                case db => omega
                case dc => omega
                intro a7 c7 w7 o7 b7 f7
                have HRo : Hid (w7.ownsRow w.heap.size 3 1 (.slice a7 (k + 1 + (n - k)) c7) (k + 1 + (n - k)) (i64s (O.take k ++ [x] ++ O.drop (k)))) := Lib.hid (own_base (by rw [i64s_app]; exact o7) hbz)
                have hb7 := hb.trans (b7.mono hbz)
                clear o7 f7
                have hwi := Hwi.out
                go_wp2_with fail
                go_roundw
                case rel => exact ⟨i + 1, O.take k ++ [x] ++ O.drop (k), k + 1 + (n - k), a7, c7, by omega, by go_num, rfl, HRl, by omega, HMM, HRo.out, hb7⟩
                case measure => simp [intOf]; omega
          · obtain rfl : k = n := by omega
            have hkd : decide (k < k) = false := by simp
            have HO5 := Lib.hid own5
            have hkind := ownN_kind HOw.out
            have hcap := hncap.2
            clear own5
            go_upto_region 8 with fail
            go_quiet (fail)
            clear xw
            obtain ⟨w2, hw2⟩ : ∃ w2, w2 = wr.drewN nq := ⟨_, rfl⟩
            have hd2 : Below wr.heap.size wr w2 := by rw [hw2]; exact below_drewN _ _ _
            rw [← hw2]
            clear hw2 nq
            have hz2 := hz.trans (hd2.mono hzz)
            have hz2s := hz2.size
            have xw2 := ((hb.trans (hz2.mono hbz)).cell (p := ⟨bx, ox + i, none⟩) (by show bx < _; omega)).trans HX0.out
            have hzb3 : bx < w2.heap.size := by omega
            have HO6 := Lib.hid ((own_keep HO5.out hd2).alloc (.cells #[.int .i64 x] 3))
            have HB6 := Lib.hid (hz2.alloc hz2s (.cells #[.int .i64 x] 3))
            have hza := (balloc w2 (.cells #[.int .i64 x] 3)).size
            clear hd2 HO5 hz hzz
            go_wp2_with (at_builtin; refine wp_app2 rfl _ _ 22 rfl wo.heap.size 3 i7 (.int .i64 0) 1 8 Try.underlying22 hi7 hz70 hz71 hz72 rfl (by decide) _ _ _ rfl HO6.out _ _ _ rfl [.int .i64 x] _ wo rfl (sl_fresh _ [.int .i64 x] 3) (fun h => by cases h) (i_one8 _) ?da ?db ?dc HB6.out ?_)
            case da => unfold maxLen; omega
            case db => omega
            case dc => omega
            intro a6 c6 w6 o6 b6 f6
            have hz6 := b6.size
            have HO7 : Hid (w6.ownsRow wo.heap.size 3 1 (.slice a6 (k + 1) c6) (k + 1) (i64s (O.take k ++ [x]))) := Lib.hid (by rw [i64s_snoc]; exact o6)
            have xw6 := ((hb.trans (b6.mono hbz)).cell (p := ⟨bx, ox + i, none⟩) (by show bx < _; omega)).trans HX0.out
            have hzb6 : bx < w6.heap.size := by omega
            clear o6 f6 HO6 HB6 xw2 hza hzb3
            go_upto_region 12 with fail
            go_quiet (fail)
            clear xw6
            obtain ⟨w5, hw5⟩ : ∃ w5, w5 = w6.drewN nq := ⟨_, rfl⟩
            have hd5 : Below w6.heap.size w6 w5 := by rw [hw5]; exact below_drewN _ _ _
            rw [← hw5]
            clear hw5 nq
            have hz5 := b6.trans (hd5.mono hz6)
            have hz5s := hz5.size
            have HO5 := Lib.hid (own_keep HO7.out hd5)
            have HB5 := Lib.hid hz5
            clear hd5 HO7 b6
            have HMM := Lib.hid (show MemIs (xs.take (i + 1)) (O.take k ++ [x]) by
              rw [HT.out, show O.take k = O from List.take_of_length_le (by rw [HOl.out]; exact Nat.le_refl _)]
              exact mem_end1 HMI.out hx1 (fun j hj => HLt.out j (by rw [← HOl.out]; exact hj)))
            have HRl := Lib.hid (show (O.take k ++ [x]).length = k + 1 by rw [List.length_append, List.length_take, HOl.out]; simp)
            clear hncap hkl
            have hend : ∀ (a7 : Option Addr) (c7 : Nat) (w7 : World), w7.ownsRow wo.heap.size 3 1 (.slice a7 (k + 1) c7) (k + 1) (i64s (O.take k ++ [x])) → w7.ownsRow w.heap.size 3 1 (.slice a7 (k + 1) c7) (k + 1) (i64s (O.take k ++ [x])) := fun a7 c7 w7 h => own_base h hbz
            have HE := Lib.hid hend
            clear hend
            rcases hkind with ⟨rfl, rfl, rfl⟩ | ⟨g3, rfl⟩
            · go_wp2_with (at_builtin; refine wp_app2 rfl _ _ 22 rfl wo.heap.size 3 i7 (.int .i64 0) 1 8 Try.underlying22 hi7 hz70 hz71 hz72 rfl (by decide) _ _ _ rfl HO5.out _ _ _ rfl [] wo.heap.size wo rfl (Sl.nil _ _ _) (fun _ => ⟨rfl, rfl⟩) (fun u hu => by cases hu) ?da ?db ?dc HB5.out ?_)
              case da => unfold maxLen; omega
              case db => omega
              case dc => omega
              intro a7 c7 w7 o7 b7 f7
              have HRo := Lib.hid (HE.out _ _ _ (by simpa using o7))
              have hb7 := hb.trans (b7.mono hbz)
              clear o7 f7
              have hwi := Hwi.out
              go_wp2_with fail
              go_roundw
              case rel => exact ⟨i + 1, O.take 0 ++ [x], 0 + 1, a7, c7, by omega, by go_num, rfl, HRl, by omega, HMM, HRo.out, hb7⟩
              case measure => simp [intOf]; omega
            · by_cases hkc : k = c3
              · subst hkc
                clear hcap
                go_wp2_with (at_builtin; refine wp_app2 rfl _ _ 22 rfl wo.heap.size 3 i7 (.int .i64 0) 1 8 Try.underlying22 hi7 hz70 hz71 hz72 rfl (by decide) _ _ _ rfl HO5.out _ _ _ rfl [] wo.heap.size wo ?dd (Sl.nil _ _ _) (fun h => by cases h) (fun u hu => by cases hu) ?da ?db ?dc HB5.out ?_)
                case dd => simp
                case da => unfold maxLen; omega
                case db => omega
                case dc => omega
                intro a7 c7 w7 o7 b7 f7
                have HRo := Lib.hid (HE.out a7 c7 w7 (by simpa using o7))
                have hb7 := hb.trans (b7.mono hbz)
                clear o7 f7
                have hwi := Hwi.out
                go_wp2_with fail
                go_roundw
                case rel => exact ⟨i + 1, O.take k ++ [x], k + 1, a7, c7, by omega, by go_num, by simp, HRl, by omega, HMM, HRo.out, hb7⟩
                case measure => simp [intOf]; omega
              · have hkc2 : k < c3 := by omega
                go_wp2_with (at_builtin; refine wp_app2 rfl _ _ 22 rfl wo.heap.size 3 i7 (.int .i64 0) 1 8 Try.underlying22 hi7 hz70 hz71 hz72 rfl (by decide) _ _ _ rfl HO5.out _ _ _ rfl [] wo.heap.size wo ?dd (Sl.nil _ _ _) (fun h => by cases h) (fun u hu => by cases hu) ?da ?db ?dc HB5.out ?_)
                case dd => simp
                case da => unfold maxLen; omega
                case db => omega
                case dc => omega
                intro a7 c7 w7 o7 b7 f7
                have HRo := Lib.hid (HE.out a7 c7 w7 (by simpa using o7))
                have hb7 := hb.trans (b7.mono hbz)
                clear o7 f7
                have hwi := Hwi.out
                go_wp2_with fail
                go_roundw
                case rel => exact ⟨i + 1, O.take k ++ [x], k + 1, a7, c7, by omega, by go_num, by simp, HRl, by omega, HMM, HRo.out, hb7⟩
                case measure => simp [intOf]; omega
    · obtain rfl : i = M := by omega
      go_wp2_with fail
      go_ret
      refine ⟨O, n, a3, c3, ?_, HOl.out, rfl, own, hb⟩
      have := HMI.out
      rwa [List.take_of_length_le (by rw [HL.out]; exact Nat.le_refl _)] at this
end Go.Proofs.Ytafibgekikjlhaa

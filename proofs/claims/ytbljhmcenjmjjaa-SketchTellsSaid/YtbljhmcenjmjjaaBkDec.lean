/- The walk of sketch.Decode. -/
import Derived.Test.YtbljhmcenjmjjaaBkEnc
import Derived.Test.YtbljhmcenjmjjaaTakeAll
import Derived.OwnWalk
namespace Go.Proofs.Ytbljhmcenjmjjaa
open Go.RowKit Vm Sk
set_option linter.unusedVariables false

/-- A row of the call's own, of elements of several cells. -/
theorem own_sln {w : World} {base n size : Nat} {e : TypeId} {a : Option Addr} {c : Nat} {xs : List Value} (h : w.ownsRow base e size (.slice a n c) n xs) : Sl w w.heap.size a xs := by
  have hn := h.1
  rcases h.2 with ⟨hv, h0⟩ | ⟨g, cap, cur, hv, hg, hh, _⟩
  · subst h0; rw [Nat.zero_mul] at hn; exact .inl (List.eq_nil_of_length_eq_zero hn)
  · injection hv with e1 _ _
    subst e1
    have hlt := h.lt g rfl
    refine .inr ⟨g, 0, rfl, hlt.2, fun j u hu => ?_⟩
    have := h.cells (g := g) rfl j u hu
    rw [add_at] at this
    exact this
theorem own_shape {w : World} {base n size : Nat} {e : TypeId} {v : Value} {xs : List Value} (h : w.ownsRow base e size v n xs) : ∃ a c, v = .slice a n c := by
  rcases h.2 with ⟨rfl, rfl⟩ | ⟨g, cap, cur, rfl, _⟩
  · exact ⟨none, 0, rfl⟩
  · exact ⟨_, _, rfl⟩
theorem takeN_two' {s r1 : List UInt8} {vs : List Int} (h : takeN 2 s = some (vs, r1)) : ∃ k t s1, vs = [k, t] ∧ takeL s = some (k, s1) ∧ takeL s1 = some (t, r1) := by
  rw [takeN] at h
  split at h
  · cases h
  · next k s1 h1 =>
    split at h
    · cases h
    · next vs' r' h2 =>
      rw [takeN] at h2
      split at h2
      · cases h2
      · next t s2 h3 => cases h2; cases h; exact ⟨k, t, s1, rfl, h1, h3⟩
theorem suffix_size {s : ByteArray} {a b : List UInt8} (e : s.data.toList = a ++ b) (hs : s.size ≤ 140737488355328) : (str b).size ≤ 140737488355328 := by
  have := congrArg List.length e
  rw [List.length_append, toList_length] at this
  rw [str_size]; omega
theorem info_bk : (Try.prog.info? 63).map (fun i => (i.zero, i.size, i.bytes)) = some (some (.agg #[.int .i64 0, .int .i64 0]), 2, 16) := by kernel_rfl
/-- What Decode leaves. -/
def SPost (w : World) (o : Option (List Bk)) (e : Ending) (w' : World) : Prop :=
  Below w.heap.size w w' ∧ ((o = none ∧ e = .returned (.tuple #[.slice none 0 0, .int .i64 2])) ∨ ∃ l a c, o = some l ∧ e = .returned (.tuple #[.slice a l.length c, .int .i64 0]) ∧ Sl w' w'.heap.size a (bkCells l))

set_option maxRecDepth 100000 in
set_option maxHeartbeats 4000000 in
theorem bkdec_walk (s : ByteArray) (w : World) (o : Option (List Bk)) (ho : IsS s.data.toList o) (hs : s.size ≤ 140737488355328) :
    Calls Try.prog 32 #[.string s] w (SPost w o) := by
  have HO := Lib.hid ho
  clear ho
  have hsm : s.size ≤ maxLen := by unfold maxLen; omega
  have hs0 : str [] = ⟨#[]⟩ := rfl
  obtain ⟨i0, hi, hz0, hz1, hz2⟩ := info_parts info_bk
  cases hT : takeL s.data.toList with
  | none =>
    obtain rfl : o = none := HO.out.n1 hT
    have HA := Lib.hid (show takeA s = (0, [], 2) by unfold takeA; rw [hT])
    clear hT HO
    go_enter Try.func32, Try.ntmps32
    go_wp2_with fail
    refine (take_walk s _ hsm).mono ?_
    rw [HA.out]
    rintro e w1 ⟨rfl, d1⟩
    go_wp2_with fail
    go_ret2
    exact ⟨d1.below _, .inl ⟨rfl, rfl⟩⟩
  | some p =>
    obtain ⟨n, r1⟩ := p
    have HA := Lib.hid (show takeA s = (n, r1, 0) by unfold takeA; rw [hT])
    have hr1 : (str r1).size ≤ 140737488355328 := suffix_size (takeL_some hT).2 hs
    by_cases hn : n < 0 ∨ 1920 < n
    · obtain rfl : o = none := HO.out.n2 hT hn
      have hn' : n < 0 ∨ (¬ n < 0 ∧ 1920 < n) := by omega
      clear hT HO hn
      go_enter Try.func32, Try.ntmps32
      go_wp2_with fail
      refine (take_walk s _ hsm).mono ?_
      rw [HA.out]
      rintro e w1 ⟨rfl, d1⟩
      rcases hn' with q | ⟨q0, q⟩
      all_goals
        go_wp2_with fail
        go_ret2
        exact ⟨d1.below _, .inl ⟨rfl, rfl⟩⟩
    · obtain ⟨N, rfl⟩ := Int.eq_ofNat_of_zero_le (show 0 ≤ n by omega)
      have hN : N ≤ 1920 := by omega
      have UF := Lib.hid (show (∀ l, MayS l → unP N 0 r1 = some (l, []) → False) → o = none from fun h => HO.out.n3 hT h)
      have UM := Lib.hid (show ∀ ls, unP N 0 r1 = some (ls, []) → MayS ls → o = some ls from fun ls h hm => HO.out.y3 hT hN h hm)
      have hn0 : ¬ ((N : Int) < 0) := by omega
      have hn1 : ¬ (1920 < (N : Int)) := by omega
      clear hT HO hn
      go_enter Try.func32, Try.ntmps32
      go_wp2_with fail
      refine (take_walk s _ hsm).mono ?_
      rw [HA.out]
      rintro e w1 ⟨rfl, d1⟩
      have B1 := d1.below w.heap.size
      clear d1
      go_wp2_with fail
      go_loopw [0, 6, 7, 26] (fun t v la i wr => ∃ (x : ByteArray) (ls : List Bk) (a : Option Addr) (c : Nat), t = .string x ∧ v = .slice a ls.length c ∧ la = .int .i64 (lastOf 0 ls) ∧ i = .int .i64 ls.length ∧ x.size ≤ 140737488355328 ∧ ls.length ≤ N ∧ wr.ownsRow w.heap.size 63 2 (.slice a ls.length c) ls.length (bkCells ls) ∧ Below w.heap.size w wr ∧ Hid (LeftP r1 N ls (lastOf 0 ls) x.data.toList)) (fun _ _ _ i _ => N - (intOf i).toNat)
      case atStart => exact ⟨str r1, [], none, 0, rfl, rfl, rfl, rfl, hr1, Nat.zero_le _, World.ownsRow_nil _ _ _ _, B1, Lib.hid (by rw [str_toList]; exact LeftP.start _ _)⟩
      case round =>
        obtain ⟨x, ls, a, cc, rfl, rfl, rfl, rfl, hx, hll, hown, hb, HL⟩ := hrel
        obtain ⟨wo, rfl⟩ : ∃ wo : World, wo = wr := ⟨_, rfl⟩
        clear B1
        by_cases hlt : (ls.length : Int) < (N : Int)
        · cases hR : takeN 2 x.data.toList with
          | none =>
            obtain rfl : o = none := UF.out (fun l _ h => by rw [HL.out.fail (by omega) hR] at h; cases h)
            have HT2 := Lib.hid hR
            clear UF UM HL hR
            go_wp2_with fail
            refine (take_none_at x 2 2 rfl _ hx (by omega) HT2.out).mono ?_
            rintro y w2 ⟨rfl, g2⟩
            go_wp2_with fail
            go_ret2
            exact ⟨hb.trans (g2.mono hb.size), .inl ⟨rfl, rfl⟩⟩
          | some q =>
            obtain ⟨vs, r2⟩ := q
            obtain ⟨d, k, s1, rfl, h1, h2⟩ := takeN_two' hR
            have HT2 := Lib.hid hR
            have HL2 := Lib.hid (HL.out.step (by omega) h1 h2)
            have hr2 : (str r2).size ≤ 140737488355328 := by
              have z1 := suffix_size (takeL_some h1).2 hx
              exact suffix_size (s := str s1) (by rw [str_toList]; exact (takeL_some h2).2) z1
            have hla := Lib.hid (lastOf_snoc ls 0 ⟨Go.Proofs.Ytbljhmcenjmjjaa.wr (lastOf 0 ls + d), k⟩)
            have hwv : IntKind.i64.wrap (lastOf 0 ls + d) = Go.Proofs.Ytbljhmcenjmjjaa.wr (lastOf 0 ls + d) := rfl
            generalize Go.Proofs.Ytbljhmcenjmjjaa.wr (lastOf 0 ls + d) = wv at *
            generalize lastOf 0 ls = la at *
            clear UF UM HL hR h1 h2
            go_wp2_with fail
            refine (take_all_at x 2 2 rfl [d, k] r2 _ hx (by omega) HT2.out).mono ?_
            rintro y w2 ⟨a2, c2, rfl, o2, g2⟩
            have hb2 := hb.trans (g2.mono hb.size)
            have hown2 := own_keep hown g2
            have sl := own_sl o2
            obtain ⟨b1, x1, rfl, l1, k0⟩ := sl.at (j := 0) (by simp [i64s])
            obtain ⟨b2, x2, e2, l2, k1⟩ := sl.at (j := 1) (by simp [i64s])
            obtain ⟨rfl, rfl⟩ : b1 = b2 ∧ x1 = x2 := by simpa using e2
            simp [i64s] at k0 k1
            clear g2 o2 sl e2 hown hb
            go_wp2_with (at_builtin; refine wpList_append_own _ rfl _ _ 30 rfl w.heap.size 63 i0 (.agg #[.int .i64 0, .int .i64 0]) 2 16 Try.underlying30 hi hz0 hz1 hz2 rfl (by decide) _ _ _ rfl (hown2.alloc _) ⟨w2.heap.size, 0, none⟩ 1 1 [.int .i64 wv, .int .i64 k] rfl rfl ?c1 ?c2 ?c3 ?c4 ?c5 ?_)
            case c1 =>
              intro j u hj
              match j, hj with
              | 0, hj => simp at hj; subst hj; simp [Addr.add]
              | 1, hj => simp at hj; subst hj; simp [Addr.add]
            case c2 => intro u hu; simp at hu; rcases hu with rfl | rfl <;> rfl
            case c3 => unfold maxLen; omega
            case c4 => omega
            case c5 => have := hb2.size; simp; omega
            intro v' w3 hown' hgrow _
            obtain ⟨a3, c3, rfl⟩ := own_shape hown'
            have hb3 := (hb2.alloc hb2.size (.cells #[.int .i64 wv, .int .i64 k] 63)).grown hgrow (by have := hb2.size; simp; omega) (fun g hg => (hown2.lt g hg).1)
            have hown3 : w3.ownsRow w.heap.size 63 2 (.slice a3 (ls ++ [(⟨wv, k⟩ : Bk)]).length c3) (ls ++ [(⟨wv, k⟩ : Bk)]).length (bkCells (ls ++ [(⟨wv, k⟩ : Bk)])) := by
              rw [bkCells_snoc, List.length_append]; exact hown'
            clear hown' hgrow hown2 hb2 k0 k1 hwv
            go_wp2_with fail
            go_roundw
            case rel => exact ⟨str r2, ls ++ [⟨wv, k⟩], a3, c3, rfl, by simp, by rw [hla.out], by simp, hr2, by simp; omega, hown3, hb3, Lib.hid (by rw [str_toList, hla.out]; exact HL2.out)⟩
            case measure => simp [intOf]; omega
        · obtain hlN : ls.length = N := by omega
          have hd := HL.out.done hlN
          have hL := own_sln hown
          by_cases hxe : x.data.toList = []
          · rw [hxe] at hd
            obtain rfl : x = str [] := by rw [← hxe, str_data]
            by_cases hm : MayS ls
            · obtain rfl := UM.out ls hd hm
              have HC := Lib.hid (fun w h hB => bk_check_walk ls N a cc wo.heap.size w 0 hlN (by omega) (.inl ⟨hm, rfl⟩) h hB)
              clear UF UM hd hm HL
              rw [hs0]
              go_wp2_with fail
              refine (HC.out _ hL (Nat.le_refl _)).mono ?_
              rintro y w2 ⟨rfl, g2⟩
              have hL2 := (hL.below g2 (Nat.le_refl _)).grow g2.size
              go_wp2_with fail
              go_ret2
              exact ⟨hb.trans (g2.mono hb.size), .inr ⟨ls, a, cc, rfl, by rw [hlN]; rfl, hL2⟩⟩
            · obtain rfl : o = none := UF.out (fun l hml h => by rw [hd] at h; injection h with h; injection h with h _; subst h; exact hm hml)
              have HC := Lib.hid (fun w h hB => bk_check_walk ls N a cc wo.heap.size w 1 hlN (by omega) (.inr ⟨hm, rfl⟩) h hB)
              clear UF UM hd hm HL
              rw [hs0]
              go_wp2_with fail
              refine (HC.out _ hL (Nat.le_refl _)).mono ?_
              rintro y w2 ⟨rfl, g2⟩
              go_wp2_with fail
              go_ret2
              exact ⟨hb.trans (g2.mono hb.size), .inl ⟨rfl, rfl⟩⟩
          · obtain rfl : o = none := UF.out (fun l _ h => by rw [hd] at h; injection h with h; injection h with _ h; exact hxe h)
            clear UF UM hd HL
            have hie : x.toList.isEmpty = false := by
              rw [ByteArray.toList_eq]
              cases hh : x.data.toList with
              | nil => exact absurd hh hxe
              | cons y l => rfl
            clear hxe
            go_wp2_with fail
            go_ret2
            exact ⟨hb, .inl ⟨rfl, rfl⟩⟩
end Go.Proofs.Ytbljhmcenjmjjaa

/- The walk of Group.Sync. -/
import Derived.Test.YtocmhmfaehnliaaGrOp
namespace Go.Proofs.Ytocmhmfaehnliaa
open Go.RowKit Vm
set_option linter.unusedVariables false
set_option linter.unusedSimpArgs false

def SyncP (g : Nat) (a b : Option Addr) (G' : Gr) (N : Int) (L : List Int) (E : Int) (w : World) (e : Ending) (w' : World) : Prop := ∃ a' c' b' d' al cl, e = .returned (.tuple #[.int .i64 N, .slice al L.length cl, .int .i64 E]) ∧ GrW w' g G' a' c' b' d' ∧ Mvs w w' (SF g a b) (SF g a' b') ∧ Sl w' w'.heap.size al (i64s L) ∧ (∀ x, al = some x → w.heap.size ≤ x.block ∧ x.block < w'.heap.size)
theorem gsync_nil (x : Int) (w : World) : Calls Try.prog 20 #[.pointer none, .int .i64 x] w fun e w' => e = .returned (.tuple #[.int .i64 0, .slice none 0 0, .int .i64 11]) ∧ Below w.heap.size w w' := by
  have KM := Lib.hid (gmem_nil x w)
  go_enter Try.func20, Try.ntmps20
  go_wp2_with fail
  refine KM.out.mono ?_
  rintro e w1 ⟨rfl, b1⟩
  go_wp2_with fail
  go_ret3
  exact ⟨rfl, b1⟩
/-- Somebody is heard of: the store of its time. -/
theorem gr_hear {w : World} {g ga j : Nat} {G : Gr} {c : Nat} {b : Option Addr} {d : Nat} (h : GrW w g G (some ⟨ga, 0, none⟩) c b d) (hj : j < G.L.length) :
    GrW (w.setCell ⟨ga, j * 3 + 2, none⟩ (.int .i64 (G.t + 12))) g (hearG G j) (some ⟨ga, 0, none⟩) c b d ∧ Mvs w (w.setCell ⟨ga, j * 3 + 2, none⟩ (.int .i64 (G.t + 12))) (SF g (some ⟨ga, 0, none⟩) b) (SF g (some ⟨ga, 0, none⟩) b) ∧ (w.cell? ⟨ga, j * 3 + 2, none⟩).isSome = true ∧ w.frozen? ⟨ga, j * 3 + 2, none⟩ = false := by
  have hne : ga ≠ g := h.neA _ rfl
  obtain ⟨g', e, _, hgl, hfz, hcc⟩ := ownN_at h.rowL (by omega)
  injection e with e
  injection e with e _ _
  subst e
  have hc := hcc _ _ (mbCells_at G.L j hj).2.2
  have hl : (G.L.set j { G.L.getD j mb0 with d := G.t + 12 }).length = G.L.length := by simp
  refine ⟨⟨?_, ?_, ?_⟩, (Mvs.refl _ _).setG (.inr (.inl ⟨_, rfl, rfl⟩)) _ _, by rw [hc]; rfl, hfz _⟩
  · have := h.box.far ga (j * 3 + 2) (.int .i64 (G.t + 12)) (Ne.symm hne)
    unfold hearG
    simp only [hl]
    exact this
  · have := mb_store2 h.rowL hj (G.t + 12)
    unfold hearG
    simp only [hl]
    exact this
  · exact own_set h.rowO (fun x hx e => h.neAB _ x rfl hx e.symm) _ _
set_option maxRecDepth 100000 in
set_option maxHeartbeats 8000000 in
theorem gsync_walk (K : Nat) (x : Int) (G : Gr) (g : Nat) (a : Option Addr) (c : Nat) (b : Option Addr) (d : Nat) (w : World) (hK : K ≤ 800) (hok : GOk G K) (h : GrW w g G a c b d) :
    Calls Try.prog 20 #[.pointer (some ⟨g, 0, none⟩), .int .i64 x] w (SyncP g a b (syncG G x) (syncN G x) (syncL G x) (syncE G x) w) := by
  obtain ⟨i0, hi, hz0, hz1, hz2⟩ := info_parts info_i64
  have hlN := hok.len
  have ht0 := hok.t0
  have ht1 := hok.t1
  have ho1 := hok.o1
  have KM := Lib.hid (gmem_walk x G g a c b d w (by omega) h)
  unfold MemP at KM
  have HG := Lib.hid h
  unfold syncG syncN syncL syncE
  clear hok h
  by_cases hh : hasI G.L x = true
  · simp only [if_pos hh]
    go_enter Try.func20, Try.ntmps20
    go_wp2_with fail
    refine KM.out.mono ?_
    rintro e w1 ⟨⟨_, ga, rfl, rfl⟩ | ⟨hh2, rfl⟩, b1⟩
    rotate_left
    · exfalso; rw [hh] at hh2; cases hh2
    have H1 := HG.out.keep b1
    have hj := (idx_lt hh).1
    have M1 := Mvs.below (SF g (some ⟨ga, 0, none⟩) b) b1
    obtain ⟨H2, M2, s2, z2⟩ := gr_hear H1 hj
    obtain ⟨m0, m1, m2, m3, m4, m5, hfz⟩ := H1.six
    have M3 := M1.trans M2
    have hwt : IntKind.i64.wrap (G.t + 12) = G.t + 12 := IntWalk.i64_in _ (by omega)
    have hbl := b1.size
    obtain ⟨v2, hv2⟩ := Option.isSome_iff_exists.1 s2
    generalize idxI G.L x = j at *
    clear KM m0 m1 m2 m4 m5 hfz M1 M2 s2 H1
    go_upto_region 6 with fail
    obtain ⟨w2, hw2⟩ : ∃ w2, w2 = w1.setCell ⟨ga, j * 3 + 2, none⟩ (.int .i64 (G.t + 12)) := ⟨_, rfl⟩
    rw [← hw2] at H2 M3 ⊢
    clear hw2 m3 z2 hv2
    obtain ⟨P, hP⟩ : ∃ P, G.O.length = P := ⟨_, rfl⟩
    have m5 := H2.six.2.2.2.2.2.1
    have hO5 : (hearG G j).O.length = P := hP
    rw [hO5] at m5
    have HP := Lib.hid hP
    rw [hP] at ho1
    clear hP hO5
    go_wp2_with fail
    go_loopw [8, 29] (fun R I wr => ∃ k : Nat, k ≤ P ∧ I = .int .i64 k ∧ wr.ownsRow w2.heap.size 3 1 R (ownTo G.O x k).length (i64s (ownTo G.O x k)) ∧ Below w2.heap.size w2 wr) (fun _ I _ => P - (intOf I).toNat)
    case atStart => exact ⟨0, by omega, rfl, by simpa [i64s, ownTo] using World.ownsRow_nil _ _ _ _, Below.refl _ _⟩
    case round =>
      obtain ⟨k, hk, rfl, hown, hb⟩ := hrel
      have HG2 := H2.keep hb
      by_cases hlt : k < P
      · have hil : k < G.O.length := by rw [HP.out]; exact hlt
        have hlt2 : (k : Int) < (P : Int) := by omega
        have hk0 : 0 ≤ (k : Int) := by omega
        have hrow := HG2.rowO
        have hOO : (hearG G j).O = G.O := rfl
        rw [hOO] at hrow
        rw [HP.out] at hrow
        obtain ⟨gb, rfl, hgb, hgl2, _, hcc⟩ := ownN_at hrow (by omega)
        have r0 := hcc _ _ (i64s_get G.O k hil)
        have hEq : ownTo G.O x (k + 1) = ownTo G.O x k ++ (if G.O.getD k 0 = x then [(k : Int)] else []) := rfl
        obtain ⟨v, hv⟩ : ∃ v, G.O.getD k 0 = v := ⟨_, rfl⟩
        rw [hv] at r0 hEq
        have hll := ownTo_len G.O x k
        clear hcc hrow hv HG2 hOO
        by_cases he : v = x
        · rw [if_pos he] at hEq
          have HE := Lib.hid hEq
          have hbe : (v == x) = true := by simpa using he
          subst he
          generalize hDD : ownTo G.O v k = D at *
          have HDD := Lib.hid hDD
          clear hEq hDD
          go_wp2_with (at_builtin; refine wpList_append_own _ rfl _ _ 39 rfl w2.heap.size 3 i0 (.int .i64 0) 1 8 Try.underlying39 hi hz0 hz1 hz2 rfl (by decide) _ _ _ rfl (hown.alloc _) ⟨wr.heap.size, 0, none⟩ 1 1 [.int .i64 k] rfl rfl ?c1 ?c2 ?c3 ?c4 ?c5 ?_)
          case c1 =>
            intro q u hj
            match q, hj with
            | 0, hj => simp at hj; subst hj; simp [Addr.add]
          case c2 => intro u hu; simp at hu; subst hu; rfl
          case c3 => unfold maxLen; omega
          case c4 => omega
          case c5 => exact Nat.le_trans hb.size (by simp)
          intro v' w3 hown' hgrow _
          have hb3 := (hb.alloc hb.size _).grown hgrow (by have := hb.size; simp; omega) (fun k hk => (hown.lt k hk).1)
          have hown3 : w3.ownsRow w2.heap.size 3 1 v' (ownTo G.O v (k + 1)).length (i64s (ownTo G.O v (k + 1))) := by
            rw [HE.out, i64s_snoc]; simpa using hown'
          clear hown' hgrow hown hb
          go_wp2_with fail
          go_roundw
          case rel => exact ⟨k + 1, by omega, by go_num, hown3, hb3⟩
          case measure => simp [intOf]; omega
        · rw [if_neg he, List.append_nil] at hEq
          have HE := Lib.hid hEq
          have hbe : (v == x) = false := by simpa using he
          clear hEq
          go_wp2_with fail
          go_roundw
          case rel => exact ⟨k + 1, by omega, by go_num, by rw [HE.out]; exact hown, hb⟩
          case measure => simp [intOf]; omega
      · obtain rfl : k = P := by omega
        obtain ⟨a6, c6, rfl⟩ := ownN_shape hown
        have n1 := HG2.six.2.1
        have hgg : (hearG G j).g = G.g := rfl
        rw [hgg] at n1
        have sl := Lib.hid (ownN_sl hown)
        have lo := Lib.hid (own_low hown)
        have M4 := Lib.hid (M3.trans (Mvs.below _ hb))
        have HG3 := Lib.hid HG2
        have hgl := HG2.lt
        have h2z := M3.size
        clear hown HG2 hb m5
        go_wp2_with fail
        go_ret3
        refine ⟨_, c, _, d, a6, c6, by rw [HP.out]; rfl, HG3.out, M4.out, by rw [HP.out]; exact sl.out, fun y hy => ?_⟩
        have := lo.out y hy
        omega
  · simp only [if_neg hh]
    go_enter Try.func20, Try.ntmps20
    go_wp2_with fail
    refine KM.out.mono ?_
    rintro e w1 ⟨⟨hh2, ga, rfl, rfl⟩ | ⟨_, rfl⟩, b1⟩
    · exact absurd hh2 hh
    have HF := Lib.hid (HG.out.keep b1)
    clear KM
    go_wp2_with fail
    go_ret3
    exact ⟨a, c, b, d, none, 0, rfl, HF.out, Mvs.below _ b1, Sl.nil _ _ _, fun y hy => by cases hy⟩
end Go.Proofs.Ytocmhmfaehnliaa

/- The walks of coop.New, Join and Leave. -/
import Derived.Test.YtafibgekikjlhaaCoOp
import Derived.Test.YtafibgekikjlhaaCoDel
import Derived.Maps.AppendAt
namespace Go.Proofs.Ytafibgekikjlhaa
open Go.RowKit Vm As
open Go.Sort (Holds)
set_option linter.unusedVariables false
set_option linter.unusedSimpArgs false

def CNewPost (parts : Nat) (w : World) (e : Ending) (w' : World) : Prop := ∃ g b d, e = .returned (.tuple #[.pointer (some ⟨g, 0, none⟩), .int .i64 0]) ∧ CoW w' g (newC parts) none 0 b parts d parts ∧ (∀ k, CF g none b d k → w.heap.size ≤ k) ∧ Below w.heap.size w w'
theorem made_ints (n : Nat) : (madeCells #[Value.int .i64 0] n).toList = i64s (List.replicate n 0) := by
  rw [Go.toList_madeCells_one]; simp [i64s]
theorem twoW_co (w : World) (i j parts : Nat) (hp : parts ≤ 16) (hij : (i = 0 ∧ j = 1) ∨ (i = 1 ∧ j = 0)) :
    CoW (twoW w (madeCells #[.int .i64 0] parts) i j parts) (w.heap.size + 2) (newC parts) none 0 (some ⟨w.heap.size + i, 0, none⟩) parts (some ⟨w.heap.size + j, 0, none⟩) parts ∧ Below w.heap.size w (twoW w (madeCells #[.int .i64 0] parts) i j parts) := by
  have hs : (madeCells #[Value.int .i64 0] parts).size = parts * 1 := by rw [size_madeCells, Nat.mul_one]
  have hr0 : ∀ w0 : World, (w0.alloc (.cells (madeCells #[.int .i64 0] parts) 3)).ownsRow 0 3 1 (.slice (some ⟨w0.heap.size, 0, none⟩) parts parts) parts (i64s (List.replicate parts 0)) := fun w0 => by
    have := World.ownsRow_lit (base := 0) (e := 3) (size := 1) w0 (madeCells #[.int .i64 0] parts) parts (Nat.zero_le _) (by unfold maxLen; omega) hs
    rwa [made_ints] at this
  unfold twoW
  have hz1 : (w.alloc (.cells (madeCells #[.int .i64 0] parts) 3)).heap.size = w.heap.size + 1 := by simp
  have hz2 : ((w.alloc (.cells (madeCells #[.int .i64 0] parts) 3)).alloc (.cells (madeCells #[.int .i64 0] parts) 3)).heap.size = w.heap.size + 2 := by simp
  have hb1 := balloc w (.cells (madeCells #[.int .i64 0] parts) 3)
  have R0 := hr0 w
  have R1 := hr0 (w.alloc (.cells (madeCells #[.int .i64 0] parts) 3))
  have hb2 := balloc (w.alloc (.cells (madeCells #[.int .i64 0] parts) 3)) (.cells (madeCells #[.int .i64 0] parts) 3)
  have R0' := own_keep R0 hb2
  rw [hz1] at R1
  obtain ⟨W2, hW2⟩ : ∃ W2, (w.alloc (.cells (madeCells #[.int .i64 0] parts) 3)).alloc (.cells (madeCells #[.int .i64 0] parts) 3) = W2 := ⟨_, rfl⟩
  have hb12 := gtrans hb1 hb2
  rw [hW2] at R1 R0' hz2 hb12 ⊢
  have hb3 := fun o => balloc W2 o
  have hrep : (newC parts).H.length = parts := by simp [newC]
  have hrep2 : (newC parts).W.length = parts := by simp [newC]
  have hbox := fun cs => Whole.new W2 65 cs
  rw [hz2] at hbox
  rcases hij with ⟨rfl, rfl⟩ | ⟨rfl, rfl⟩
  · refine ⟨⟨?_, World.ownsRow_nil _ _ _ _, ?_, ?_, fun x y hx => (by cases hx), fun x y hx => (by cases hx), fun x y hx hy => (by injection hx with hx; injection hy with hy; subst hx hy; simp)⟩, gtrans hb12 (hb3 _)⟩
    · rw [hrep, hrep2]; exact hbox _
    · rw [hrep]; exact own_keep R0' (hb3 _)
    · rw [hrep2]; exact own_keep R1 (hb3 _)
  · refine ⟨⟨?_, World.ownsRow_nil _ _ _ _, ?_, ?_, fun x y hx => (by cases hx), fun x y hx => (by cases hx), fun x y hx hy => (by injection hx with hx; injection hy with hy; subst hx hy; simp)⟩, gtrans hb12 (hb3 _)⟩
    · rw [hrep, hrep2]; exact hbox _
    · rw [hrep]; exact own_keep R1 (hb3 _)
    · rw [hrep2]; exact own_keep R0' (hb3 _)
theorem cnew_walk (parts : Nat) (w : World) (h1 : 1 ≤ parts) (h2 : parts ≤ 16) : Calls Try.prog 14 #[.int .i64 parts] w (CNewPost parts w) := by
  refine (cnew_raw parts w h1 h2).mono ?_
  rintro e w' ⟨i, j, hij, rfl, rfl⟩
  obtain ⟨h3, h4⟩ := twoW_co w i j parts h2 hij
  refine ⟨w.heap.size + 2, _, _, rfl, h3.keep (below_drewN _ _ 1), ?_, h4.trans (below_drewN _ _ 1)⟩
  rintro k (rfl | ⟨x, hx, rfl⟩ | ⟨x, hx, rfl⟩ | ⟨x, hx, rfl⟩)
  · omega
  · cases hx
  · injection hx with hx; subst hx; simp
  · injection hx with hx; subst hx; simp
set_option maxRecDepth 100000 in
theorem cnew_bad (parts : Int) (w : World) (h : ¬ (1 ≤ parts ∧ parts ≤ 16)) : Calls Try.prog 14 #[.int .i64 parts] w fun e w' => e = .returned (.tuple #[.pointer none, .int .i64 1]) ∧ w' = w := by
  rcases (show parts < 1 ∨ (¬ parts < 1 ∧ 16 < parts) by omega) with h1 | ⟨h1, h2⟩ <;>
  · clear h
    go_enter Try.func14, Try.ntmps14
    go_wp2_with fail
    go_ret2
    exact ⟨rfl, rfl⟩
/-- The members' row is another one. -/
theorem CoW.setM {w w' : World} {g : Nat} {C : Co} {a a' : Option Addr} {ca ca' : Nat} {b : Option Addr} {cb : Nat} {d : Option Addr} {cd : Nat} {D : List Int} (h : CoW w g C a ca b cb d cd) (hg : w'.heap[g]? = w.heap[g]?) (hB : ∀ x, b = some x → w'.heap[x.block]? = w.heap[x.block]?) (hD : ∀ x, d = some x → w'.heap[x.block]? = w.heap[x.block]?)
    (ho : w'.ownsRow 0 3 1 (.slice a' D.length ca') D.length (i64s D)) (h1 : Apart2 a' b) (h2 : Apart2 a' d) :
    CoW (w'.setCell ⟨g, 1, none⟩ (.slice a' D.length ca')) g { C with M := D } a' ca' b cb d cd :=
  ⟨Whole.set (show Whole w' g _ _ from hg.trans h.box) 1 _, own_set ho (own_box ho (show Whole w' g _ _ from hg.trans h.box) (by decide)) 1 _, own_set (own_same h.rowH hB) h.neH 1 _, own_set (own_same h.rowW hD) h.neW 1 _, h1, h2, h.hw⟩
theorem Mva.mvsC {w w' : World} {g : Nat} {a b d : Option Addr} (h : Mva w w' a) (hz : Below 0 w w') : Mvs w w' (CF g a b d) (CF g a b d) :=
  ⟨hz, fun k hk hn => h k hk (fun x hx he => hn (.inr (.inl ⟨x, hx, he⟩))), fun k hk => .inl hk⟩
/-- Elements of who has what that are m are none any more. -/
def cutTo (H : List Int) (m : Int) : Nat → List Int
  | 0 => H
  | k + 1 => if (H.getD k 0) = m then (cutTo H m k).set k 0 else cutTo H m k
theorem cutTo_len (H : List Int) (m : Int) : ∀ k, (cutTo H m k).length = H.length
  | 0 => rfl
  | k + 1 => by unfold cutTo; split <;> simp [cutTo_len H m k]
theorem cutTo_at (H : List Int) (m : Int) : ∀ k p, (cutTo H m k).getD p 0 = if p < k ∧ p < H.length ∧ H.getD p 0 = m then 0 else H.getD p 0
  | 0, p => by simp [cutTo]
  | k + 1, p => by
    unfold cutTo
    split
    · next h =>
      rw [getD_set, cutTo_at H m k p, cutTo_len]
      by_cases h1 : k = p
      · subst h1
        by_cases h2 : k < H.length
        · rw [if_pos ⟨rfl, h2⟩, if_pos ⟨by omega, h2, h⟩]
        · rw [if_neg (by omega), if_neg (by omega), if_neg (by omega)]
      · rw [if_neg (by omega)]
        by_cases h2 : p < k ∧ p < H.length ∧ H.getD p 0 = m
        · rw [if_pos h2, if_pos ⟨by omega, h2.2⟩]
        · rw [if_neg h2, if_neg (fun h3 => h2 ⟨by omega, h3.2⟩)]
    · next h =>
      rw [cutTo_at H m k p]
      by_cases h2 : p < k ∧ p < H.length ∧ H.getD p 0 = m
      · rw [if_pos h2, if_pos ⟨by omega, h2.2⟩]
      · rw [if_neg h2, if_neg]
        rintro ⟨h3, h4, h5⟩
        by_cases h6 : p = k
        · subst h6; exact h h5
        · exact h2 ⟨by omega, h4, h5⟩
theorem cutTo_next (H : List Int) (m : Int) (k : Nat) : (cutTo H m k).getD k 0 = H.getD k 0 := by rw [cutTo_at]; simp
theorem cutTo_full {H : List Int} {m : Int} {k : Nat} (hk : H.length = k) : cutTo H m k = dropL H m := by
  apply ext_getD
  · rw [cutTo_len]; simp [dropL]
  · intro p hp
    rw [cutTo_len] at hp
    rw [cutTo_at]
    unfold dropL
    have e1 : H.getD p 0 = H[p] := by simp [List.getD, hp]
    rw [e1, List.getD_eq_getElem?_getD, List.getElem?_map, List.getElem?_eq_getElem hp]
    simp only [Option.map_some, Option.getD_some]
    by_cases h : H[p] = m
    · rw [if_pos ⟨by omega, hp, h⟩, if_pos h]
    · rw [if_neg (fun h2 => h h2.2.2), if_neg h]
theorem setDrop {g gb k : Nat} {C : Co} {m : Int} {w : World} {a : Option Addr} {ca cb : Nat} {d : Option Addr} {cd : Nat} (h : CoW w g { C with H := cutTo C.H m k } a ca (some ⟨gb, 0, none⟩) cb d cd) (hk : k < C.H.length) (hm : C.H.getD k 0 = m) :
    CoW (w.setCell ⟨gb, k, none⟩ (.int .i64 0)) g { C with H := cutTo C.H m (k + 1) } a ca (some ⟨gb, 0, none⟩) cb d cd := by
  have h1 := h.setH k 0 (by show k < (cutTo C.H m k).length; rw [cutTo_len]; exact hk)
  have e : cutTo C.H m (k + 1) = (cutTo C.H m k).set k 0 := by show (if _ then _ else _) = _; rw [if_pos hm]
  rw [e]
  exact h1
set_option maxRecDepth 100000 in
theorem cleave_nil (m : Int) (w : World) : Calls Try.prog 21 #[.pointer none, .int .i64 m] w fun e w' => e = .returned (.int .i64 11) ∧ Below w.heap.size w w' := by
  have hal := balloc w (.cells #[.int .i64 m] 3)
  have KI := Lib.hid (is_nil m (w.alloc (.cells #[.int .i64 m] 3)))
  go_enter Try.func21, Try.ntmps21
  go_wp2_with fail
  refine KI.out.mono ?_
  rintro e w1 ⟨rfl, hw⟩
  subst hw
  go_wp2_with fail
  go_ret
  exact ⟨rfl, hal⟩
set_option maxRecDepth 100000 in
set_option maxHeartbeats 8000000 in
theorem cleave_walk (K : Nat) (m : Int) (C : Co) (g : Nat) (a : Option Addr) (ca : Nat) (b : Option Addr) (cb : Nat) (d : Option Addr) (cd : Nat) (w : World) (hK : K ≤ 800) (hok : COk C K) (h : CoW w g C a ca b cb d cd) :
    Calls Try.prog 21 #[.pointer (some ⟨g, 0, none⟩), .int .i64 m] w (CoP g a b d (leaveC C m) (.int .i64 (leaveE C m)) w) := by
  have hml := hok.b.ml
  have ho0 := hok.b.h0
  have ho1 := hok.b.h1
  have hal := balloc w (.cells #[.int .i64 m] 3)
  have hpx := Whole.new w 3 #[.int .i64 m]
  have HH0 := Lib.hid h
  have H1 := h.keep hal
  have M1 := Mvs.below (CF g a b d) hal
  have HLv := Lib.hid (fun k hk => (h.live k hk : k < w.heap.size))
  unfold leaveC leaveE
  cases hh : C.M.contains m with
  | false =>
    have KI := Lib.hid (is_walk m C g a ca b cb d cd _ (by omega) H1)
    rw [hh] at KI
    rw [if_neg (by decide), if_neg (by decide)]
    have HF := Lib.hid (CoP.same (.int .i64 11) h hal)
    clear hh hok h H1 M1 hpx
    go_enter Try.func21, Try.ntmps21
    go_wp2_with fail
    refine KI.out.mono ?_
    rintro e w1 ⟨rfl, hw⟩
    subst hw
    go_wp2_with fail
    go_ret
    exact HF.out
  | true =>
    have HBO := Lib.hid (cutM_ok (m := m) hok.b)
    rw [if_pos rfl, if_pos rfl]
    have HW := Lib.hid hok.b.wl
    have KI := Lib.hid (fun w' (hw : CoW w' g C a ca b cb d cd) => is_walk m C g a ca b cb d cd w' (by omega) hw)
    rw [hh] at KI
    clear hh hok h
    go_enter Try.func21, Try.ntmps21
    go_upto_region 1 with fail
    obtain ⟨w1, hw1⟩ : ∃ w1, w1 = w.alloc (.cells #[.int .i64 m] 3) := ⟨_, rfl⟩
    rw [← hw1] at hal hpx H1 M1 ⊢
    clear hw1
    have p0 := hpx.cell 0
    simp only [List.getElem?_toArray, List.getElem?_cons_zero] at p0
    have hpl := hpx.lt
    have KI1 := Lib.hid (KI.out w1 H1)
    have hpa : ∀ x, a = some x → x.block ≠ w.heap.size := fun x hx e => by have := HLv.out _ (.inr (.inl ⟨x, hx, rfl⟩)); omega
    have hne : w.heap.size ≠ g := fun e => by have := HLv.out g (.inl rfl); omega
    have KD := Lib.hid (delC_walk m C.M C.M.length a ca 0 w.heap.size w1 rfl (by omega) p0 H1.rowM (Nat.zero_le _) hpa)
    unfold DelPost at KD
    obtain ⟨D, hD⟩ : ∃ D, dropI m C.M = D := ⟨_, rfl⟩
    rw [hD] at KD
    have HD := Lib.hid hD
    have HG1 := Lib.hid H1
    obtain ⟨m0, m1, m2, m3, hfz⟩ := H1.four
    have hgl := H1.lt
    clear hD KI hpa hfz m0 m2 m3 H1
    go_wp2_with fail
    refine KI1.out.mono ?_
    rintro e w1' ⟨rfl, hw⟩
    subst hw
    clear KI1
    go_wp2_with fail
    refine KD.out.mono ?_
    rintro e w2 ⟨c2, rfl, own2, b2, V2⟩
    have hg2 : w2.heap[g]? = w1'.heap[g]? := V2 g HG1.out.lt HG1.out.neM
    have hW2 : Whole w2 g _ _ := hg2.trans HG1.out.box
    have n1 := hW2.cell 1
    have z1 := hW2.frozen 1
    simp only [List.getElem?_toArray, List.getElem?_cons_zero, List.getElem?_cons_succ] at n1
    have hP2 : Whole w2 w.heap.size 3 #[.int .i64 m] := (V2 w.heap.size hpl (fun x hx e => by have := HLv.out _ (.inr (.inl ⟨x, hx, rfl⟩)); omega)).trans hpx
    have H3 := HG1.out.setM (D := D) hg2 (fun x hx => V2 x.block (own_low HG1.out.rowH x hx).2 (fun y hy e => HG1.out.mh y x hy hx e)) (fun x hx => V2 x.block (own_low HG1.out.rowW x hx).2 (fun y hy e => HG1.out.mw y x hy hx e)) own2 HG1.out.mh HG1.out.mw
    have M3 := M1.trans ((Mva.mvsC (g := g) (b := b) (d := d) V2 b2).setG (.inl rfl) 1 (.slice a D.length c2))
    have P3 := hP2.far g 1 (.slice a D.length c2) hne
    clear KD m1 own2 V2 hg2 hW2 hP2 hpx M1 p0 b2
    go_upto_region 4 with fail
    obtain ⟨w3, hw3⟩ : ∃ w3, w3 = w2.setCell ⟨g, 1, none⟩ (.slice a D.length c2) := ⟨_, rfl⟩
    rw [← hw3] at H3 M3 P3 ⊢
    clear hw3 n1 z1
    obtain ⟨P, hP⟩ : ∃ P, C.H.length = P := ⟨_, rfl⟩
    have HP := Lib.hid hP
    rw [hP] at ho0 ho1
    have k2 := H3.four.2.2.1
    have hgl3 := H3.lt
    simp only at k2
    rw [hP] at k2
    clear hP
    go_wp2_with fail
    go_loopw [24] (fun I wr => ∃ k : Nat, k ≤ P ∧ I = .int .i64 k ∧ CoW wr g { ({ C with M := D } : Co) with H := cutTo C.H m k } a c2 b cb d cd ∧ Mvs w wr (CF g a b d) (CF g a b d) ∧ Whole wr w.heap.size 3 #[.int .i64 m]) (fun I _ => P - (intOf I).toNat)
    case atStart => exact ⟨0, by omega, rfl, H3, M3, P3⟩
    case round =>
      obtain ⟨k, hk, rfl, HG, MG, PG⟩ := hrel
      by_cases hlt : k < P
      · have hil : k < C.H.length := by rw [HP.out]; exact hlt
        have hlt2 : (k : Int) < (P : Int) := by omega
        have hk0 : 0 ≤ (k : Int) := by omega
        have q0 := PG.cell 0
        simp only [List.getElem?_toArray, List.getElem?_cons_zero] at q0
        have q2 := HG.four.2.2.1
        have hgr := HG.lt
        have hpr := PG.lt
        simp only at q2
        have hrow := HG.rowH
        simp only at hrow
        rw [cutTo_len, HP.out] at q2 hrow
        obtain ⟨gb, rfl, _, hgb, hfb, hcc⟩ := ownN_at hrow (by omega)
        have r0 := hcc k _ (i64s_get (cutTo C.H m k) k (by rw [cutTo_len]; exact hil))
        rw [cutTo_next] at r0
        have f0 := hfb k
        obtain ⟨v, hv⟩ : ∃ v, C.H.getD k 0 = v := ⟨_, rfl⟩
        rw [hv] at r0
        by_cases he : v = m
        · have g1 : (v == m) = true := by simpa using he
          have Hfin := Lib.hid (fun n => setDrop (w := wr.drewN n) (C := { C with M := D }) (HG.keep (below_drewN _ wr n)) hil (hv.trans he))
          have Mfin := Lib.hid (fun n => (MG.trans (Mvs.below _ (below_drewN _ wr n))).setG (g := gb) (.inr (.inr (.inl ⟨_, rfl, rfl⟩))) k (.int .i64 0))
          have Pfin := Lib.hid (fun n => (PG.drewN n).far gb k (.int .i64 0) (fun e => by have := HLv.out gb (.inr (.inr (.inl ⟨_, rfl, rfl⟩))); omega))
          clear hv he HG MG PG hrow hcc hfb k2
          go_wp2_with fail
          go_quiet (fail)
          go_wp2_with fail
          go_roundw
          case rel => exact ⟨k + 1, by omega, by go_num, Hfin.out _, Mfin.out _, Pfin.out _⟩
          case measure => simp [intOf]; omega
        · have g1 : (v == m) = false := by simpa using he
          have e1 : cutTo C.H m (k + 1) = cutTo C.H m k := by show (if _ then _ else _) = _; rw [if_neg (by rw [hv]; exact he)]
          have Hfin := Lib.hid (fun n => (HG.keep (below_drewN _ wr n) : CoW (wr.drewN n) g _ _ _ _ _ _ _))
          rw [← e1] at Hfin
          have Mfin := Lib.hid (fun n => MG.trans (Mvs.below _ (below_drewN _ wr n)))
          have Pfin := Lib.hid (fun n => PG.drewN n)
          clear hv he HG MG PG hrow hcc hfb e1 k2
          go_wp2_with fail
          go_quiet (fail)
          go_wp2_with fail
          go_roundw
          case rel => exact ⟨k + 1, by omega, by go_num, Hfin.out _, Mfin.out _, Pfin.out _⟩
          case measure => simp [intOf]; omega
      · obtain rfl : k = P := by omega
        rw [cutTo_full HP.out, ← HD.out] at HG
        have KB := Lib.hid (cbeg_walk K (cutM C m) g a c2 b cb d cd wr (by omega) HBO.out HG)
        unfold CBegPost at KB
        clear HG k2
        go_wp2_with fail
        refine KB.out.mono ?_
        rintro e w8 ⟨rfl, d8, c8, H8, M8⟩
        have M9 := MG.trans M8
        clear KB
        go_wp2_with fail
        go_ret
        exact ⟨rfl, _, _, _, _, _, _, H8, M9⟩
end Go.Proofs.Ytafibgekikjlhaa

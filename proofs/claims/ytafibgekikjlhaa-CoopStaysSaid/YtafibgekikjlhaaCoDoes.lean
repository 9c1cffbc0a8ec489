/- The walks of headgatelaw35.does and of; a coop behind so many deeds. -/
import Derived.Test.YtafibgekikjlhaaCoAim
namespace Go.Proofs.Ytafibgekikjlhaa
open Go.RowKit Vm As
set_option linter.unusedVariables false
set_option linter.unusedSimpArgs false

def doesE (C : Co) (x : Cd) : Int := if x.k = 0 ∨ x.k = 1 then joinE C x.l else if x.k = 2 then leaveE C x.m else if x.k = 3 then revE C x.m else doneE C x.m x.p
def doesC (C : Co) (x : Cd) : Co := if x.k = 0 ∨ x.k = 1 then joinC C x.l else if x.k = 2 then leaveC C x.m else if x.k = 3 then C else doneC C x.m x.p
theorem doesC_ok {C : Co} {K : Nat} {x : Cd} (h : COk C K) : COk (doesC C x) (K + 1) := by
  unfold doesC
  split
  · exact joinC_ok h
  · split
    · exact leaveC_ok h
    · split
      · exact h.more (by omega)
      · exact (doneC_ok h).more (by omega)
def DoQ (g : Nat) (S : Nat → Prop) (C' : Co) (E : Int) (w : World) (e : Ending) (w' : World) : Prop := e = .returned (.int .i64 E) ∧ ∃ S', CA w' g C' S' ∧ Mvs w w' S S'
set_option maxRecDepth 100000 in
set_option maxHeartbeats 8000000 in
theorem does35_walk (K : Nat) (x : Cd) (C : Co) (g : Nat) (S : Nat → Prop) (w : World) (hK : K ≤ 800) (hok : COk C K) (hA : CA w g C S) (hl : LApt w S x.l x.l.length x.a x.c) :
    Calls Try.prog 33 #[.pointer (some ⟨g, 0, none⟩), cdV x] w (DoQ g S (doesC C x) (doesE C x) w) := by
  have HOK := Lib.hid hok
  have hX := Whole.new w 41 (cdC x)
  have hal := balloc w (.cells (cdC x) 41)
  have A1 := hA.keep hal
  have M1 := Lib.hid (Mvs.below S hal)
  have HL : LApt (w.alloc (.cells (cdC x) 41)) S x.l x.l.length x.a x.c := ⟨hl.1, hl.2.1, hl.2.2.1, (hl.2.2.2.below hal (Nat.le_refl _)).grow (by simp)⟩
  unfold doesC doesE
  obtain ⟨k, m, p, nn, xl, xa, xc⟩ := x
  obtain ⟨Q, hQ⟩ : ∃ Q, xl.length = Q := ⟨_, rfl⟩
  unfold cdV cdC at *
  simp only at *
  simp only [hQ] at hX hal A1 M1 HL ⊢
  clear hok hA hl hQ
  have HLL := Lib.hid HL
  clear HL
  rcases (show k = 0 ∨ k = 1 ∨ k = 2 ∨ k = 3 ∨ (¬ k = 0 ∧ ¬ k = 1 ∧ ¬ k = 2 ∧ ¬ k = 3) by omega) with hk | hk | hk | hk | ⟨k0, k1, k2, k3⟩
  · subst hk
    simp only [true_or, if_true]
    go_enter Try.func33, Try.ntmps33
    go_upto_region 1 with fail
    obtain ⟨w1, hw1⟩ : ∃ w1, w1 = w.alloc (.cells #[.int .i64 0, .int .i64 m, .int .i64 p, .bool nn, .slice xa Q xc] 41) := ⟨_, rfl⟩
    rw [← hw1] at hX hal A1 M1 HLL ⊢
    clear hw1
    obtain ⟨x0, x1, x2, x3, x4, xf, xlt⟩ := hX.five
    have KC := Lib.hid (join_ca K xl Q xa xc C g S w1 (by omega) HOK.out HLL.out A1)
    clear hX xf A1
    go_wp2_with fail
    refine KC.out.mono ?_
    rintro e w9 ⟨rfl, S9, A9, M9⟩
    go_wp2_with fail
    go_ret
    exact ⟨by first | rfl | trivial, S9, A9, M1.out.trans M9⟩
  · subst hk
    simp only [or_true, if_true]
    go_enter Try.func33, Try.ntmps33
    go_upto_region 1 with fail
    obtain ⟨w1, hw1⟩ : ∃ w1, w1 = w.alloc (.cells #[.int .i64 1, .int .i64 m, .int .i64 p, .bool nn, .slice xa Q xc] 41) := ⟨_, rfl⟩
    rw [← hw1] at hX hal A1 M1 HLL ⊢
    clear hw1
    obtain ⟨x0, x1, x2, x3, x4, xf, xlt⟩ := hX.five
    have KC := Lib.hid (join_ca K xl Q xa xc C g S w1 (by omega) HOK.out HLL.out A1)
    clear hX xf A1
    go_wp2_with fail
    refine KC.out.mono ?_
    rintro e w9 ⟨rfl, S9, A9, M9⟩
    go_wp2_with fail
    go_ret
    exact ⟨by first | rfl | trivial, S9, A9, M1.out.trans M9⟩
  · subst hk
    rw [if_neg (by omega), if_pos rfl, if_neg (by omega), if_pos rfl]
    go_enter Try.func33, Try.ntmps33
    go_upto_region 1 with fail
    obtain ⟨w1, hw1⟩ : ∃ w1, w1 = w.alloc (.cells #[.int .i64 2, .int .i64 m, .int .i64 p, .bool nn, .slice xa Q xc] 41) := ⟨_, rfl⟩
    rw [← hw1] at hX hal A1 M1 HLL ⊢
    clear hw1
    obtain ⟨x0, x1, x2, x3, x4, xf, xlt⟩ := hX.five
    have KC := Lib.hid (leave_ca K m C g S w1 (by omega) HOK.out A1)
    clear hX xf A1
    go_wp2_with fail
    refine KC.out.mono ?_
    rintro e w9 ⟨rfl, S9, A9, M9⟩
    go_wp2_with fail
    go_ret
    exact ⟨by first | rfl | trivial, S9, A9, M1.out.trans M9⟩
  · subst hk
    rw [if_neg (by omega), if_neg (by omega), if_pos rfl, if_neg (by omega), if_neg (by omega), if_pos rfl]
    go_enter Try.func33, Try.ntmps33
    go_upto_region 1 with fail
    obtain ⟨w1, hw1⟩ : ∃ w1, w1 = w.alloc (.cells #[.int .i64 3, .int .i64 m, .int .i64 p, .bool nn, .slice xa Q xc] 41) := ⟨_, rfl⟩
    rw [← hw1] at hX hal A1 M1 HLL ⊢
    clear hw1
    obtain ⟨x0, x1, x2, x3, x4, xf, xlt⟩ := hX.five
    have KC := Lib.hid (revoke_ca K m C g S w1 HOK.out A1)
    clear hX xf
    go_wp2_with fail
    refine KC.out.mono ?_
    rintro e w9 ⟨a9, c9, rfl, p9, b9⟩
    have HF := Lib.hid (A1.keep b9)
    have HM := Lib.hid (M1.out.trans (Mvs.below S b9))
    clear A1
    go_wp2_with fail
    go_ret
    exact ⟨by first | rfl | trivial, S, HF.out, HM.out⟩
  · rw [if_neg (by omega), if_neg (by omega), if_neg (by omega), if_neg (by omega), if_neg (by omega), if_neg (by omega)]
    go_enter Try.func33, Try.ntmps33
    go_upto_region 1 with fail
    obtain ⟨w1, hw1⟩ : ∃ w1, w1 = w.alloc (.cells #[.int .i64 k, .int .i64 m, .int .i64 p, .bool nn, .slice xa Q xc] 41) := ⟨_, rfl⟩
    rw [← hw1] at hX hal A1 M1 HLL ⊢
    clear hw1
    obtain ⟨x0, x1, x2, x3, x4, xf, xlt⟩ := hX.five
    have KC := Lib.hid (done_ca K m p C g S w1 HOK.out A1)
    clear hX xf A1
    go_wp2_with fail
    refine KC.out.mono ?_
    rintro e w9 ⟨rfl, S9, A9, M9⟩
    go_wp2_with fail
    go_ret
    exact ⟨by first | rfl | trivial, S9, A9, M1.out.trans M9⟩
def ofN (p : Int) : Nat := pickN p 16 + 1
theorem ofN_le (p : Int) : 1 ≤ ofN p ∧ ofN p ≤ 16 := by
  have := (pickN_is p 16 (by omega)).2.1
  unfold ofN
  omega
def OfQ (parts : Nat) (w : World) (e : Ending) (w' : World) : Prop := ∃ g S, e = .returned (.pointer (some ⟨g, 0, none⟩)) ∧ CA w' g (newC parts) S ∧ Hid (∀ k, S k → w.heap.size ≤ k) ∧ Below w.heap.size w w'
set_option maxRecDepth 100000 in
theorem of35_walk (p : Int) (w : World) : Calls Try.prog 32 #[.int .i64 p] w (OfQ (ofN p) w) := by
  obtain ⟨hq, hq2, hq3, hq4⟩ : (p.tmod 16 + 16).tmod 16 = ((pickN p 16 : Nat) : Int) ∧ pickN p 16 < 16 ∧ -(16 : Int) < p.tmod 16 ∧ p.tmod 16 < 16 := pickN_is p 16 (by omega)
  have KN := cnew_ca (ofN p) w (ofN_le p).1 (ofN_le p).2
  unfold ofN at *
  generalize pickN p 16 = j at *
  rw [show ((j + 1 : Nat) : Int) = 1 + (j : Int) from by omega] at KN
  unfold CNewQ at KN
  have HK := Lib.hid KN
  obtain ⟨hw1, hw2⟩ : IntKind.i64.wrap (p.tmod 16 + 16) = p.tmod 16 + 16 ∧ IntKind.i64.wrap (1 + (j : Int)) = 1 + (j : Int) := ⟨IntWalk.i64_in _ (by omega), IntWalk.i64_in _ (by omega)⟩
  have hq5 : (p.tmod 16 + 16).tmod 16 = (j : Int) := hq
  clear hq hq2 hq3 hq4 KN
  go_enter Try.func32, Try.ntmps32
  go_wp2_with fail
  refine HK.out.mono ?_
  rintro e w0 ⟨g, S, rfl, A0, hZ, b0⟩
  clear hw1 hw2 hq5
  go_wp2_with fail
  go_ret
  exact ⟨g, S, rfl, A0, hZ, b0⟩
def runC (C : Co) (l : List Cd) : Nat → Co
  | 0 => C
  | k + 1 => doesC (runC C l k) (aimF (l.getD k cd0) (runC C l k))
theorem runC_ok {C : Co} {l : List Cd} (h : COk C 0) : ∀ k, COk (runC C l k) k
  | 0 => h
  | k + 1 => doesC_ok (runC_ok h k)
theorem aimF_l (x : Cd) (C : Co) : (aimF x C).l = x.l ∧ (aimF x C).a = x.a ∧ (aimF x C).c = x.c := by
  unfold aimF; split <;> exact ⟨rfl, rfl, rfl⟩
theorem some_len (l : List Cd) : (someL l).length = min 100 l.length := by unfold someL; rw [List.length_map, List.length_take]
theorem deed_lapt {w wr : World} {S : Nat → Prop} {l : List Cd} (C : Co) {k : Nat} (hci : ∀ r ∈ l, CdI w r) (hb : Below w.heap.size w wr) (hk : k < (someL l).length) :
    LApt wr S (aimF ((someL l).getD k cd0) C).l (aimF ((someL l).getD k cd0) C).l.length (aimF ((someL l).getD k cd0) C).a (aimF ((someL l).getD k cd0) C).c := by
  obtain ⟨e1, e2, e3⟩ := aimF_l ((someL l).getD k cd0) C
  rw [e1, e2, e3]
  have hm := getD_mem (someL l) cd0 k hk
  unfold someL at hm ⊢
  obtain ⟨r, hr, he⟩ := List.mem_map.1 hm
  rw [← he]
  have hc := hci r (List.mem_of_mem_take hr)
  unfold cut12
  simp only
  have h4 := hc.2.2.2.2.1
  refine ⟨rfl, ?_, ?_, ?_⟩
  · rw [List.length_take]; omega
  · rw [List.length_take]; omega
  · exact (sl_takeI 12 (hc.2.2.1.below hb (Nat.le_refl _))).grow hb.size
theorem cdi_keep {w w' : World} {x : Cd} (h : CdI w x) (hb : Below w.heap.size w w') : CdI w' x := ⟨h.1, h.2.1, (h.2.2.1.below hb (Nat.le_refl _)).grow hb.size, h.2.2.2⟩
theorem cnt_asc {M : List Int} (hs : M.Pairwise (· < ·)) {x : Int} (hx : x ∈ M) : cnt M x = 1 := by
  unfold cnt
  induction M with
  | nil => cases hx
  | cons y t ih =>
    obtain ⟨h1, h2⟩ := List.pairwise_cons.1 hs
    rw [List.count_cons]
    rcases List.mem_cons.1 hx with rfl | hm
    · have : t.count x = 0 := List.count_eq_zero.2 (fun h => by have := h1 x h; omega)
      rw [this]; simp
    · have := h1 x hm
      rw [ih h2 hm, if_neg (by simp; omega)]
theorem Sl.cd5 {w : World} {B : Nat} {a : Option Addr} {l : List Cd} (h : Sl w B a (cdCells l)) {k : Nat} (hk : k < l.length) : ∃ b off, a = some ⟨b, off, none⟩ ∧ b < B ∧ w.cell? ⟨b, off + k * 5, none⟩ = some (.int .i64 (l.getD k cd0).k) ∧ w.cell? ⟨b, off + k * 5 + 1, none⟩ = some (.int .i64 (l.getD k cd0).m) ∧ w.cell? ⟨b, off + k * 5 + 2, none⟩ = some (.int .i64 (l.getD k cd0).p) ∧ w.cell? ⟨b, off + k * 5 + 3, none⟩ = some (.bool (l.getD k cd0).n) ∧ w.cell? ⟨b, off + k * 5 + 4, none⟩ = some (.slice (l.getD k cd0).a (l.getD k cd0).l.length (l.getD k cd0).c) := by
  obtain ⟨b, off, e, hb, hc⟩ := h.cd (by omega)
  obtain ⟨h0, h1, h2, h3, h4⟩ := hc k hk
  exact ⟨b, off, e, hb, h0, h1, h2, h3, h4⟩
end Go.Proofs.Ytafibgekikjlhaa

/- The rows behind notes: a function; the walk of headgatelaw12.behind, chapter 12's example. -/
import Derived.Test.YtfjnmjibifefgaaTxFold
import Derived.Test.YtfjnmjibifefgaaNt
namespace Go.Proofs.Ytfjnmjibifefgaa
open Go.RowKit Vm
set_option linter.unusedVariables false

instance (l : List Tr) : Decidable (RightT l) := by unfold RightT PreT OkT; infer_instance
def foldF (l : List Tr) (n : Nt) : List Tr × Int :=
  if MayN n.k n.p n.m ∧ RightT l then
    match getR trKey l n.p with
    | none => if n.k = 1 then (putR trKey l ⟨n.p, 1, 1, 0, 0⟩, 0) else ([], 3)
    | some x => match turnT x n.k n.m with
      | none => ([], 9)
      | some y => if 1099511627776 < y.e then ([], 6) else (putR trKey l y, 0)
  else ([], 1)
theorem foldF_is (l : List Tr) (n : Nt) : FdIs l n.k n.p n.m (foldF l n).1 (foldF l n).2 := by
  unfold foldF FdIs
  split
  · next hg =>
    split
    · next hx =>
      split
      · next hk => exact .inr (.inl ⟨hg, hx, .inr ⟨hk, rfl, rfl⟩⟩)
      · next hk => exact .inr (.inl ⟨hg, hx, .inl ⟨hk, rfl, rfl⟩⟩)
    · next x hx =>
      split
      · next hy => exact .inr (.inr ⟨hg, x, hx, .inl ⟨hy, rfl, rfl⟩⟩)
      · next y hy =>
        split
        · next he => exact .inr (.inr ⟨hg, x, hx, .inr ⟨y, hy, .inl ⟨he, rfl, rfl⟩⟩⟩)
        · next he => exact .inr (.inr ⟨hg, x, hx, .inr ⟨y, hy, .inr ⟨by omega, rfl, rfl⟩⟩⟩)
  · next hg => exact .inl ⟨hg, rfl, rfl⟩
theorem foldF_len (l : List Tr) (n : Nt) : (foldF l n).1.length ≤ 9 := fdIs_len (foldF_is l n)
def stepF (l : List Tr) (n : Nt) : List Tr := if (foldF l n).2 = 0 then (foldF l n).1 else l
def behF (ns : List Nt) : List Tr := ns.foldl stepF []
theorem behF_snoc (ns : List Nt) (n : Nt) : behF (ns ++ [n]) = stepF (behF ns) n := by unfold behF; rw [List.foldl_append]; rfl
theorem behF_len (ns : List Nt) : (behF ns).length ≤ 9 := by
  have key : ∀ k, k ≤ ns.length → (behF (ns.take k)).length ≤ 9 := by
    intro k
    induction k with
    | zero => intro _; simp [behF]
    | succ k ih =>
      intro hk
      have := ih (by omega)
      rw [take_get ns nt0 k (by omega), behF_snoc]
      unfold stepF
      split
      · exact foldF_len _ _
      · exact this
  have := key ns.length (Nat.le_refl _)
  rwa [List.take_length] at this
def RwPost (w : World) (D : List Tr) (e : Ending) (w' : World) : Prop :=
  ∃ a c, e = .returned (.slice a D.length c) ∧ Sl w' w'.heap.size a (trCells D) ∧ Below w.heap.size w w' ∧ (a = none → c = 0) ∧ D.length ≤ c
set_option maxRecDepth 100000 in
set_option maxHeartbeats 4000000 in
theorem behind_walk (ns : List Nt) (N : Nat) (a : Option Addr) (c B : Nat) (w : World) (hN : ns.length = N) (h : Sl w B a (ntCells ns)) (hB : B ≤ w.heap.size) :
    Calls Try.prog 35 #[.slice a N c] w (RwPost w (behF (ns.take 100))) := by
  have HNe := Lib.hid hN
  clear hN
  go_enter Try.func35, Try.ntmps35
  go_wp2_with fail
  go_loopw [3, 4] (fun R I wr => ∃ (k : Nat) (rs : List Tr) (a' : Option Addr) (c' : Nat), k ≤ N ∧ k ≤ 100 ∧ I = .int .i64 k ∧ R = .slice a' rs.length c' ∧ Hid (rs = behF (ns.take k)) ∧ Sl wr wr.heap.size a' (trCells rs) ∧ Hid ((a' = none → c' = 0) ∧ rs.length ≤ c') ∧ Below w.heap.size w wr) (fun _ I _ => 100 - (intOf I).toNat)
  case atStart => exact ⟨0, [], none, 0, by omega, by omega, rfl, rfl, Lib.hid rfl, .inl rfl, Lib.hid ⟨fun _ => rfl, Nat.le_refl _⟩, Below.refl _ _⟩
  case round =>
    obtain ⟨k, rs, a', c', hk, hk100, rfl, rfl, HR, srs, HAC, hbw⟩ := hrel
    have hrl : rs.length ≤ 9 := by rw [HR.out]; exact behF_len _
    by_cases hlt : k < N
    · by_cases h100 : k < 100
      · have hkl : k < ns.length := by rw [HNe.out]; exact hlt
        obtain ⟨b1, o1, rfl, hb1, hc⟩ := (h.below hbw hB).nt (by omega)
        obtain ⟨r0, r1, r2⟩ := hc k hkl
        have hz1 : b1 < wr.heap.size := by have := hbw.size; omega
        have hbs := Lib.hid (behF_snoc (ns.take k) (ns.getD k nt0))
        have htk := Lib.hid (take_get ns nt0 k hkl)
        have HFi := Lib.hid (foldF_is rs (ns.getD k nt0))
        have hDl := foldF_len rs (ns.getD k nt0)
        have HST := Lib.hid (show stepF rs (ns.getD k nt0) = if (foldF rs (ns.getD k nt0)).2 = 0 then (foldF rs (ns.getD k nt0)).1 else rs from rfl)
        rw [← HR.out] at hbs
        clear hc
        generalize ns.getD k nt0 = x at *
        generalize (foldF rs x).1 = D at *
        generalize (foldF rs x).2 = E at *
        obtain ⟨xk, xp, xm⟩ := x
        simp only at r0 r1 r2 HFi
        have HT := Lib.hid (tfold_walk rs rs.length a' c' wr.heap.size xk xp xm wr D E rfl (by unfold maxLen; omega) HFi.out srs (Nat.le_refl _))
        unfold FdPost at HT
        clear HFi
        go_wp2_with fail
        refine HT.out.mono ?_
        rintro e w5 ⟨a5, c5, rfl, s5, g5, h5⟩
        have H5 := Lib.hid h5
        have b5 := hbw.trans (g5.mono hbw.size)
        have srs5 := (srs.below g5 (Nat.le_refl _)).grow g5.size
        clear srs h5
        by_cases hE : E = 0
        · subst hE
          have HB := Lib.hid (show D = behF (ns.take (k + 1)) by rw [htk.out, hbs.out, HST.out, if_pos rfl])
          clear HST
          go_wp2_with fail
          go_roundw
          case rel => exact ⟨k + 1, D, a5, c5, by omega, by omega, by go_num, rfl, HB, s5, H5, b5⟩
          case measure => simp [intOf]; omega
        · have HB := Lib.hid (show rs = behF (ns.take (k + 1)) by rw [htk.out, hbs.out, HST.out, if_neg hE])
          have hE2 : (E == 0) = false := by simp [hE]
          clear HST
          go_wp2_with fail
          go_roundw
          case rel => exact ⟨k + 1, rs, a', c', by omega, by omega, by go_num, rfl, HB, srs5, HAC, b5⟩
          case measure => simp [intOf]; omega
      · have HR2 := Lib.hid (show behF (ns.take 100) = rs by rw [HR.out]; congr 2; omega)
        go_wp2_with fail
        go_ret
        exact ⟨a', c', by rw [HR2.out]; rfl, by rw [HR2.out]; exact srs, hbw, HAC.out.1, by rw [HR2.out]; exact HAC.out.2⟩
    · have HR2 := Lib.hid (show behF (ns.take 100) = rs by rw [HR.out, List.take_of_length_le (by rw [HNe.out]; omega), List.take_of_length_le (by rw [HNe.out]; omega)])
      go_wp2_with fail
      go_ret
      exact ⟨a', c', by rw [HR2.out]; rfl, by rw [HR2.out]; exact srs, hbw, HAC.out.1, by rw [HR2.out]; exact HAC.out.2⟩
set_option maxRecDepth 100000 in
set_option maxHeartbeats 2000000 in
theorem awake12_walk (w : World) :
    Calls Try.prog 25 #[] w fun e w' => e = .returned (.bool true) ∧ Below w.heap.size w w' := by
  have hb : behF (([⟨1, 1, 0⟩, ⟨2, 1, 5⟩, ⟨3, 1, 0⟩, ⟨5, 1, 0⟩] : List Nt).take 100) = [⟨1, 2, 1, 0, 3⟩] := by
    kernel_rfl
  have H1 := Lib.hid (fun w a c h => behind_walk [⟨1, 1, 0⟩, ⟨2, 1, 5⟩, ⟨3, 1, 0⟩, ⟨5, 1, 0⟩] 4 a c w.heap.size w rfl h (Nat.le_refl _))
  unfold RwPost at H1
  rw [hb] at H1
  clear hb
  have hal := balloc w (.cells #[.int .i64 1, .int .i64 1, .int .i64 0, .int .i64 2, .int .i64 1, .int .i64 5, .int .i64 3, .int .i64 1, .int .i64 0, .int .i64 5, .int .i64 1, .int .i64 0] 50)
  have hs : Sl (w.alloc (.cells #[.int .i64 1, .int .i64 1, .int .i64 0, .int .i64 2, .int .i64 1, .int .i64 5, .int .i64 3, .int .i64 1, .int .i64 0, .int .i64 5, .int .i64 1, .int .i64 0] 50)) (w.alloc (.cells #[.int .i64 1, .int .i64 1, .int .i64 0, .int .i64 2, .int .i64 1, .int .i64 5, .int .i64 3, .int .i64 1, .int .i64 0, .int .i64 5, .int .i64 1, .int .i64 0] 50)).heap.size (some ⟨w.heap.size, 0, none⟩) (ntCells [⟨1, 1, 0⟩, ⟨2, 1, 5⟩, ⟨3, 1, 0⟩, ⟨5, 1, 0⟩]) := by
    refine .inr ⟨_, 0, rfl, by simp, fun j u hu => ?_⟩
    rw [World.cell?_alloc_at _ _ _ _ rfl, Nat.zero_add]
    simpa [ntCells, ntOf] using hu
  go_enter Try.func25, Try.ntmps25
  go_wp2_with fail
  refine (H1.out _ _ _ hs).mono ?_
  rintro e w1 ⟨a1, c1, rfl, s1, g1, _, _⟩
  obtain ⟨b1, o1, rfl, hb1, hc⟩ := s1.tr (by decide)
  obtain ⟨r0, r1, r2, r3, r4⟩ := hc 0 (by decide)
  simp only [List.getD_cons_zero, Nat.zero_mul, Nat.add_zero] at r0 r1 r2 r3 r4
  go_wp2_with fail
  go_ret
  exact ⟨rfl, gtrans hal g1⟩
end Go.Proofs.Ytfjnmjibifefgaa

/- The walk of sketch.Merge. -/
import Derived.Test.YtbljhmcenjmjjaaBkAdd
import Derived.Test.YtbljhmcenjmjjaaBkSum
namespace Go.Proofs.Ytbljhmcenjmjjaa
open Go.RowKit Vm Sk
set_option linter.unusedVariables false

def mergeB (a b : List Bk) : List Bk := b.foldl (fun s x => putB s x.b x.n) a
theorem mergeB_take (a b : List Bk) (k : Nat) (h : k < b.length) : mergeB a (b.take (k + 1)) = putB (mergeB a (b.take k)) (b.getD k bk0).b (b.getD k bk0).n := by
  unfold mergeB
  rw [take_getD b k h, List.foldl_append]; rfl
/-- What a merge answers. -/
def MgPost (w : World) (D : List Bk) (E : Int) (e : Ending) (w' : World) : Prop :=
  ∃ a c, e = .returned (.tuple #[.slice a D.length c, .int .i64 E]) ∧ Sl w' w'.heap.size a (bkCells D) ∧ Below w.heap.size w w'

set_option maxRecDepth 100000 in
set_option maxHeartbeats 4000000 in
theorem bmerge_yes (l m : List Bk) (N M : Nat) (a1 a2 : Option Addr) (c1 c2 B : Nat) (w : World) (hN : l.length = N) (hM : m.length = M) (hn1 : N ≤ 200) (hn2 : M ≤ 200) (h1 : MayS l) (h2 : MayS m) (hs : sumN l + sumN m ≤ 1099511627776)
    (hl1 : Sl w B a1 (bkCells l)) (hl2 : Sl w B a2 (bkCells m)) (hB : B ≤ w.heap.size) :
    Calls Try.prog 25 #[.slice a1 N c1, .slice a2 M c2] w (MgPost w (mergeB l m) 0) := by
  have C1 := Lib.hid (fun w h hB => bk_check_walk l N a1 c1 B w 0 hN (by omega) (.inl ⟨h1, rfl⟩) h hB)
  have C2 := Lib.hid (fun w h hB => bk_check_walk m M a2 c2 B w 0 hM (by omega) (.inl ⟨h2, rfl⟩) h hB)
  have K1 := Lib.hid (fun w h hB => bk_count_walk l N a1 c1 B w hN (by omega) h1 h hB)
  have K2 := Lib.hid (fun w h hB => bk_count_walk m M a2 c2 B w hM (by omega) h2 h hB)
  have CL := Lib.hid (fun w h hB => clone_walk l N a1 c1 B w hN (by omega) h hB)
  have s1 : 0 ≤ sumN l := (pre_ord h1.1).sum
  have s2 : 0 ≤ sumN m := (pre_ord h2.1).sum
  have hw : IntKind.i64.wrap (sumN l + sumN m) = sumN l + sumN m := IntWalk.i64_in _ (by omega)
  have hs' : ¬ (1099511627776 < sumN l + sumN m) := by omega
  have H1 := Lib.hid h1
  have H2 := Lib.hid h2
  have HS := Lib.hid hs
  clear h1 h2 hs
  go_enter Try.func25, Try.ntmps25
  go_wp2_with fail
  refine (C1.out _ hl1 hB).mono ?_
  rintro e w1 ⟨rfl, g1⟩
  have p1 := hl1.below g1 hB
  have p2 := hl2.below g1 hB
  have hB1 := Nat.le_trans hB g1.size
  clear hl1 hl2
  go_wp2_with fail
  refine (C2.out _ p2 hB1).mono ?_
  rintro e w2 ⟨rfl, gg⟩
  have g2 := gtrans g1 gg
  have p1 := p1.below gg hB1
  have p2 := p2.below gg hB1
  have hB2 := Nat.le_trans hB1 gg.size
  clear gg g1
  go_wp2_with fail
  refine (K1.out _ p1 hB2).mono ?_
  rintro e w3 ⟨rfl, gg⟩
  have g3 := gtrans g2 gg
  have p1 := p1.below gg hB2
  have p2 := p2.below gg hB2
  have hB3 := Nat.le_trans hB2 gg.size
  clear gg g2
  go_wp2_with fail
  refine (K2.out _ p2 hB3).mono ?_
  rintro e w4 ⟨rfl, gg⟩
  have g4 := gtrans g3 gg
  have p1 := p1.below gg hB3
  have p2 := p2.below gg hB3
  have hB4 := Nat.le_trans hB3 gg.size
  clear gg g3
  go_wp2_with fail
  refine (CL.out _ p1 hB4).mono ?_
  rintro e w5 ⟨a5, c5, rfl, hown, g5⟩
  go_wp2_with fail
  go_loopw [6, 29] (fun v i wr => ∃ (k : Nat) (a : Option Addr) (c : Nat) (ls : List Bk), k ≤ M ∧ i = .int .i64 k ∧ v = .slice a ls.length c ∧ Hid (ls = mergeB l (m.take k)) ∧ Hid (MayS ls) ∧ sumN ls = sumN l + sumN (m.take k) ∧ ls.length ≤ N + k ∧ wr.ownsRow w4.heap.size 63 2 (.slice a ls.length c) ls.length (bkCells ls) ∧ Below w4.heap.size w4 wr) (fun _ i _ => M - (intOf i).toNat)
  case atStart => exact ⟨0, a5, c5, l, by omega, rfl, by rw [hN], Lib.hid rfl, H1, by simp [sumN], by omega, by rw [hN]; exact hown, g5⟩
  case round =>
    obtain ⟨k, a, c, ls, hk, rfl, rfl, HLs, HMs, hsm, hll, hown, hb⟩ := hrel
    by_cases hlt : k < M
    · obtain ⟨b1, o1, rfl, hb1, hc⟩ := (p2.below hb hB4).bk (by omega)
      obtain ⟨r0, r1⟩ := hc k (by omega)
      have hz1 : b1 < wr.heap.size := by have := hb.size; omega
      have hok := H2.out.1 k (by omega)
      have hts := sumN_take m k (by omega)
      have hmo := sum_mono (k + 1) (by omega) H2.out.1
      have hmt := Lib.hid (mergeB_take l m k (by omega))
      have ho1 := hok.1
      have ho2 := hok.2.1
      have ho3 := hok.2.2.1
      have ho4 := hok.2.2.2.1
      clear hc hok
      have hal : Below wr.heap.size wr (wr.alloc (.cells #[.int .i64 (m.getD k bk0).b, .int .i64 (m.getD k bk0).n] 63)) := below_alloc _ _
      generalize m.getD k bk0 = x at *
      obtain ⟨xb, xn⟩ := x
      simp only at r0 r1 hts hmt ho1 ho2 ho3 ho4 hal
      have hb2 := hb.trans (hal.mono hb.size)
      have hsp := HS.out
      have HC := Lib.hid (count_walk ls ls.length a c w4.heap.size xb xn _ rfl (by omega) HMs.out.1 ⟨ho1, ho2⟩ ⟨ho3, ho4⟩ (own_keep hown hal) (Nat.le_trans hb.size hal.size))
      have HM2 := Lib.hid (putB_may HMs.out ⟨ho1, ho2⟩ ho3 (by omega : sumN ls + xn ≤ 1099511627776))
      have hps := putB_sum ls xb xn
      have hpl := putB_len ls xb xn
      have HE := Lib.hid (show putB ls xb xn = mergeB l (m.take (k + 1)) by rw [hmt.out, ← HLs.out])
      have hsum2 := Lib.hid (show sumN (putB ls xb xn) = sumN l + sumN (m.take (k + 1)) by omega)
      have hlen2 := Lib.hid (show (putB ls xb xn).length ≤ N + (k + 1) by omega)
      clear hts hmo hmt ho1 ho2 ho3 ho4 hal hown hb hps hpl hsp HMs HLs hsm
      go_wp2_with fail
      refine HC.out.mono ?_
      rintro e w6 ⟨a6, c6, rfl, hown6, g6⟩
      go_wp2_with fail
      go_roundw
      case rel => exact ⟨k + 1, a6, c6, putB ls xb xn, by omega, by go_num, rfl, HE, HM2, hsum2.out, hlen2.out, hown6, hb2.trans (g6.mono (Nat.le_refl _))⟩
      case measure => simp [intOf]; omega
    · have hall : m.take k = m := List.take_of_length_le (by omega)
      rw [hall] at HLs
      have hL := own_sln hown
      clear hall
      go_wp2_with fail
      go_ret2
      exact ⟨a, c, by rw [← HLs.out]; rfl, by rw [← HLs.out]; exact hL, g4.trans (hb.mono g4.size)⟩

theorem putB_last {acc : List Bk} {b n : Int} (h : ∀ x ∈ acc, x.b < b) : putB acc b n = acc ++ [⟨b, n⟩] := by
  induction acc with
  | nil => rfl
  | cons x t ih => rw [putB, if_pos (h x (by simp)), ih (fun y hy => h y (by simp [hy]))]; rfl
theorem fold_ord (m : List Bk) : ∀ (acc : List Bk) (lo : Option Int), Ord lo m → (∀ x ∈ acc, ∀ y ∈ m, x.b < y.b) → mergeB acc m = acc ++ m := by
  induction m with
  | nil => intro acc lo _ _; simp [mergeB]
  | cons x t ih =>
    intro acc lo h hlt
    obtain ⟨_, _, _, _, h5⟩ := h
    have hx := putB_last (n := x.n) (fun y hy => hlt y hy x (by simp))
    have key : ∀ (t : List Bk) (z : Int), Ord (some z) t → ∀ y ∈ t, z < y.b := by
      intro t
      induction t with
      | nil => intro z _ y hy; cases hy
      | cons u s ihs =>
        intro z hz y hy
        obtain ⟨_, _, _, k4, k5⟩ := hz
        have hu := k4 z rfl
        rcases List.mem_cons.1 hy with rfl | hy
        · exact hu
        · have := ihs u.b k5 y hy; omega
    have h6 := ih (acc ++ [x]) _ h5 (fun y hy z hz => by
      rcases List.mem_append.1 hy with hy | hy
      · exact hlt y hy z (by simp [hz])
      · rw [List.mem_singleton.1 hy]; exact key t x.b h5 z hz)
    show mergeB (putB acc x.b x.n) t = _
    rw [hx]
    show mergeB (acc ++ [x]) t = _
    rw [h6]; simp
theorem mergeB_nil {m : List Bk} (h : MayS m) : mergeB [] m = m := by
  have := fold_ord m [] none (pre_ord h.1) (fun x hx => by cases hx)
  simpa using this
theorem mergeB_comm {l m : List Bk} (h1 : MayS l) (h2 : MayS m) : mergeB l m = mergeB m l := by
  have e1 : mergeB l m = mergeB [] (l ++ m) := by
    conv => lhs; rw [← mergeB_nil h1]
    unfold mergeB
    rw [List.foldl_append]
  have e2 : mergeB m l = mergeB [] (m ++ l) := by
    conv => lhs; rw [← mergeB_nil h2]
    unfold mergeB
    rw [List.foldl_append]
  rw [e1, e2]
  unfold mergeB
  exact List.Perm.foldl_eq' List.perm_append_comm (fun x _ y _ z => putB_comm z x.b y.b x.n y.n) []
end Go.Proofs.Ytbljhmcenjmjjaa

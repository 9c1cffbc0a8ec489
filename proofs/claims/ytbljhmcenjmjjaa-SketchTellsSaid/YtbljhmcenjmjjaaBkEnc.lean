/- The walks of sketch.Encode, headgateref29.Same. -/
import Derived.Test.YtbljhmcenjmjjaaBkMath
import Derived.Test.YtbljhmcenjmjjaaBkCheck
import Derived.Test.YtbljhmcenjmjjaaPutAll
import Derived.Test.YtbljhmcenjmjjaaBuilder2
namespace Go.Proofs.Ytbljhmcenjmjjaa
open Go.RowKit Vm Sk
set_option linter.unusedVariables false

theorem below_alloc (w : World) (o : Obj) : Below w.heap.size w (w.alloc o) := (Below.refl _ _).alloc (Nat.le_refl _) o
theorem past {w w' : World} {o : Obj} (h : Below (w.alloc o).heap.size (w.alloc o) w') : Below w.heap.size w w' := (below_alloc w o).trans (h.mono (below_alloc w o).size)
theorem sl_new (w : World) (cs : Array Value) (t : TypeId) : Sl (w.alloc (.cells cs t)) (w.alloc (.cells cs t)).heap.size (some ⟨w.heap.size, 0, none⟩) cs.toList := by
  refine .inr ⟨w.heap.size, 0, rfl, by simp, fun j u hu => ?_⟩
  rw [Nat.zero_add, World.cell?_alloc_at _ _ _ _ rfl, ← Array.getElem?_toList]
  exact hu
theorem put_two29 (x y : Int) (w : World) (t : TypeId) (g : Nat) (hg : g = w.heap.size) (hx : I64 x) (hy : I64 y) :
    Calls Try.prog 41 #[.slice (some ⟨g, 0, none⟩) 2 2] (w.alloc (.cells #[.int .i64 x, .int .i64 y] t)) fun e w' => e = .returned (.string (str (putL x ++ putL y))) ∧ Below (w.alloc (.cells #[.int .i64 x, .int .i64 y] t)).heap.size (w.alloc (.cells #[.int .i64 x, .int .i64 y] t)) w' := by
  subst hg
  have e : putN [x, y] = putL x ++ putL y := by simp [putN]
  rw [← e]
  refine put_all_walk (some ⟨w.heap.size, 0, none⟩) 2 2 _ [x, y] _ rfl (by omega) (sl_new w #[.int .i64 x, .int .i64 y] t) (Nat.le_refl _) ?_
  intro z hz
  simp at hz
  rcases hz with rfl | rfl
  · exact hx
  · exact hy
def lastOf : Int → List Bk → Int
  | last, [] => last
  | _, x :: t => lastOf x.b t
theorem encD_snoc (l : List Bk) : ∀ (last : Int) (x : Bk), encD last (l ++ [x]) = encD last l ++ (putL (x.b - lastOf last l) ++ putL x.n) := by
  induction l with
  | nil => intro last x; simp [encD, lastOf]
  | cons y t ih => intro last x; rw [List.cons_append, encD, ih, encD, lastOf]; simp
theorem lastOf_snoc (l : List Bk) : ∀ (last : Int) (x : Bk), lastOf last (l ++ [x]) = x.b := by
  induction l with
  | nil => intro last x; rfl
  | cons y t ih => intro last x; rw [List.cons_append, lastOf, ih]
theorem lastOf_rng (l : List Bk) : ∀ (last : Int), Rng l → -960 ≤ last ∧ last < 960 → -960 ≤ lastOf last l ∧ lastOf last l < 960 := by
  induction l with
  | nil => intro last _ h; exact h
  | cons y t ih => intro last h hl; exact ih y.b (fun x hx => h x (by simp [hx])) ⟨(h y (by simp)).1, (h y (by simp)).2.1⟩
theorem take_getD (l : List Bk) (k : Nat) (h : k < l.length) : l.take (k + 1) = l.take k ++ [l.getD k bk0] := by
  rw [List.take_succ_eq_append_getElem h]; simp [List.getD, List.getElem?_eq_getElem h]
theorem Rng.take {l : List Bk} (h : Rng l) (k : Nat) : Rng (l.take k) := fun x hx => h x (List.mem_of_mem_take hx)
theorem Rng.getD {l : List Bk} (h : Rng l) (k : Nat) (hk : k < l.length) : -960 ≤ (l.getD k bk0).b ∧ (l.getD k bk0).b < 960 ∧ I64 (l.getD k bk0).n := h _ (by simp [List.getD, List.getElem?_eq_getElem hk])
theorem encD_len (l : List Bk) : ∀ (last : Int), Rng l → -960 ≤ last ∧ last < 960 → (encD last l).length ≤ 20 * l.length := by
  induction l with
  | nil => intro last _ _; simp [encD]
  | cons y t ih =>
    intro last h hl
    have hy := h y (by simp)
    have h1 := ih y.b (fun x hx => h x (by simp [hx])) ⟨hy.1, hy.2.1⟩
    have h2 := putL_len (n := y.b - last) ⟨by omega, by omega⟩
    have h3 := putL_len hy.2.2
    rw [encD, List.length_append, List.length_append, List.length_cons]; omega

set_option maxRecDepth 100000 in
set_option maxHeartbeats 4000000 in
theorem bkenc_yes (l : List Bk) (N : Nat) (a : Option Addr) (c B : Nat) (w : World) (hN : l.length = N) (hlen : N ≤ 2000) (hm : MayS l) (h : Sl w B a (bkCells l)) (hB : B ≤ w.heap.size) :
    Calls Try.prog 30 #[.slice a N c] w fun e w' => e = .returned (.tuple #[.string (str (skL l)), .int .i64 0]) ∧ Below w.heap.size w w' := by
  have HC := Lib.hid (fun w h hB => bk_check_walk l N a c B w 0 hN hlen (.inl ⟨hm, rfl⟩) h hB)
  have HR := Lib.hid hm.rng
  have e0 : skL l = putL (N : Int) ++ encD 0 l := by unfold skL; rw [hN]
  rw [e0]
  have iN : I64 (N : Int) := ⟨by omega, by omega⟩
  have P1 := Lib.hid (fun W => put_walk (N : Int) W iN)
  have z1 := putL_len iN
  generalize putL (N : Int) = H at *
  clear hm e0
  go_enter Try.func30, Try.ntmps30
  go_wp2_with fail
  refine (HC.out _ h hB).mono ?_
  rintro e w1 ⟨rfl, g1⟩
  have L1 := h.below g1 hB
  have hB1 := Nat.le_trans hB g1.size
  clear h
  go_wp2_with fail
  refine (P1.out _).mono ?_
  rintro e w2 ⟨rfl, g2⟩
  have D2 := (Bd.start w1).below g2
  have k2 := past g2
  have z2 : w1.heap.size < w2.heap.size := by have := g2.size; simp at this; omega
  clear g2
  go_wp2_with fail
  have y2 : ([] : List UInt8).length + (str H).size ≤ 140737488355328 := by rw [str_size]; simp; omega
  refine (write_walk _ _ _ _ _ D2 y2 (by omega)).mono ?_
  rintro e w3 ⟨rfl, D3, g3⟩
  have k3 := k2.trans g3
  have z3 : w1.heap.size < w3.heap.size := by have := g3.size; omega
  rw [str_toList, List.nil_append] at D3
  clear g3 D2 k2 y2 z2 P1
  go_wp2_with fail
  go_loopw [6, 20] (fun la i wr => ∃ k : Nat, k ≤ N ∧ i = .int .i64 k ∧ la = .int .i64 (lastOf 0 (l.take k)) ∧ Bd w1.heap.size w1.heap.size (H ++ encD 0 (l.take k)) wr ∧ Below w1.heap.size w1 wr ∧ w1.heap.size < wr.heap.size) (fun _ i _ => N - (intOf i).toNat)
  case atStart => exact ⟨0, by omega, rfl, rfl, by simpa [encD] using D3, k3, z3⟩
  case round =>
    obtain ⟨k, hk, rfl, rfl, hbd, hb, hsz⟩ := hrel
    have hlk := encD_len (l.take k) 0 (HR.out.take k) ⟨by omega, by omega⟩
    have hlk2 : (l.take k).length ≤ k := List.length_take_le _ _
    by_cases hlt : k < N
    · obtain ⟨b1, o1, rfl, hb1, hc⟩ := (L1.below hb hB1).bk (by omega)
      obtain ⟨r0, r1⟩ := hc k (by omega)
      have hz1 : b1 < wr.heap.size := by omega
      have hx := HR.out.getD k (by omega)
      have hla := lastOf_rng (l.take k) 0 (HR.out.take k) ⟨by omega, by omega⟩
      have hts := Lib.hid (show encD 0 (l.take (k + 1)) = encD 0 (l.take k) ++ (putL ((l.getD k bk0).b - lastOf 0 (l.take k)) ++ putL (l.getD k bk0).n) by rw [take_getD l k (by omega), encD_snoc])
      have hls := Lib.hid (show lastOf 0 (l.take (k + 1)) = (l.getD k bk0).b by rw [take_getD l k (by omega), lastOf_snoc])
      have hl1 : (H ++ encD 0 (l.take k)).length ≤ 50000 := by rw [List.length_append]; omega
      clear hc
      generalize l.getD k bk0 = x at *
      obtain ⟨xb, xn⟩ := x
      simp only at r0 r1 hx hts hls
      generalize lastOf 0 (l.take k) = la at *
      have hsub : IntKind.i64.wrap (xb - la) = xb - la := IntWalk.i64_in _ (by omega)
      have id : I64 (xb - la) := ⟨by omega, by omega⟩
      have P2 := Lib.hid (fun w t g hg => put_two29 (xb - la) xn w t g hg id hx.2.2)
      have l1 := putL_len id
      have l2 := putL_len hx.2.2
      have y3 : (H ++ encD 0 (l.take k)).length + (str (putL (xb - la) ++ putL xn)).size ≤ 140737488355328 := by
        have l3 : (putL (xb - la) ++ putL xn).length = (putL (xb - la)).length + (putL xn).length := List.length_append
        rw [str_size, l3]; omega
      have HA := Lib.hid (show H ++ encD 0 (l.take k) ++ (putL (xb - la) ++ putL xn) = H ++ encD 0 (l.take (k + 1)) by rw [hts.out, List.append_assoc])
      generalize H ++ encD 0 (l.take k) = X at *
      clear l1 l2 hx hla hl1 hlk hlk2 hts
      go_wp2_with fail
      refine (P2.out _ _ _ (by simp)).mono ?_
      rintro e w4 ⟨rfl, g4⟩
      have g4' := past (past g4)
      have hbd4 := hbd.below g4'
      have hb4 := hb.trans (g4'.mono hb.size)
      have z4 : w1.heap.size < w4.heap.size := by have := g4'.size; omega
      have c0 : w4.cell? ⟨wr.heap.size, 0, none⟩ = some (.int .i64 xb) := by
        have h1 : (wr.alloc (.cells #[.int .i64 xb, .int .i64 xn] 63)).cell? ⟨wr.heap.size, 0, none⟩ = some (.int .i64 xb) := by rw [World.cell?_alloc_at _ _ _ _ rfl]; rfl
        exact ((past g4).cell (p := ⟨wr.heap.size, 0, none⟩) (by simp)).trans h1
      have z5 : wr.heap.size < w4.heap.size := by have := (past g4).size; simp at this; omega
      have hrow := hbd.row g4' (Nat.le_refl _)
      have hne : wr.heap.size ≠ w1.heap.size := by omega
      clear hbd g4 g4' r0 r1 hb
      go_wp2_with fail
      refine (write_walk2 _ _ wr.heap.size _ _ _ hbd4 y3 (by omega) hne z5 hrow).mono ?_
      rintro e w5 ⟨rfl, hbd5, g5, hk5, hz5⟩
      have hb5 := hb4.trans g5
      have z6 : w1.heap.size < w5.heap.size := by have := g5.size; omega
      have d0 : w5.cell? ⟨wr.heap.size, 0, none⟩ = some (.int .i64 xb) := (World.cell?_of_block (a := ⟨wr.heap.size, 0, none⟩) hk5).trans c0
      have z7 : wr.heap.size < w5.heap.size := by omega
      rw [str_toList, HA.out] at hbd5
      clear g5 hbd4 hrow c0 hk5 hb4
      go_wp2_with fail
      go_roundw
      case rel => exact ⟨k + 1, by omega, by go_num, by rw [hls.out], hbd5, hb5, z6⟩
      case measure => simp [intOf]; omega
    · have hall : l.take k = l := List.take_of_length_le (by omega)
      rw [hall] at hbd hlk hlk2
      clear hall
      go_wp2_with fail
      refine (string_walk _ _ _ _ hbd (by omega)).mono ?_
      rintro e w4 ⟨rfl, g4⟩
      go_wp2_with fail
      go_ret2
      exact ⟨rfl, (g1.trans (hb.mono g1.size)).trans (g4.mono g1.size)⟩

set_option maxRecDepth 100000 in
set_option maxHeartbeats 1000000 in
theorem bkenc_no (l : List Bk) (N : Nat) (a : Option Addr) (c B : Nat) (w : World) (hN : l.length = N) (hlen : N ≤ 2000) (hm : ¬ MayS l) (h : Sl w B a (bkCells l)) (hB : B ≤ w.heap.size) :
    Calls Try.prog 30 #[.slice a N c] w fun e w' => e = .returned (.tuple #[.string ⟨#[]⟩, .int .i64 1]) ∧ Below w.heap.size w w' := by
  have HC := Lib.hid (fun w h hB => bk_check_walk l N a c B w 1 hN hlen (.inr ⟨hm, rfl⟩) h hB)
  clear hm
  go_enter Try.func30, Try.ntmps30
  go_wp2_with fail
  refine (HC.out _ h hB).mono ?_
  rintro e w1 ⟨rfl, g1⟩
  go_wp2_with fail
  go_ret2
  exact ⟨rfl, g1⟩
set_option maxRecDepth 100000 in
set_option maxHeartbeats 2000000 in
theorem same29_walk (l : List Bk) (N : Nat) (a1 a2 : Option Addr) (c1 c2 B : Nat) (w : World) (hN : l.length = N) (hlen : N ≤ 2000) (h1 : Sl w B a1 (bkCells l)) (h2 : Sl w B a2 (bkCells l)) (hB : B ≤ w.heap.size) :
    Calls Try.prog 20 #[.slice a1 N c1, .slice a2 N c2] w fun e w' => e = .returned (.bool true) ∧ Below w.heap.size w w' := by
  go_enter Try.func20, Try.ntmps20
  go_wp2_with fail
  go_loopw [5] (fun i wr => ∃ n : Nat, n ≤ N ∧ i = .int .i64 n ∧ Below w.heap.size w wr) (fun i _ => N - (intOf i).toNat)
  case atStart => exact ⟨0, by omega, rfl, Below.refl _ _⟩
  case round =>
    obtain ⟨n, hn, rfl, hb⟩ := hrel
    by_cases hlt : n < N
    · obtain ⟨b1, o1, rfl, hb1, hc1⟩ := (h1.below hb hB).bk (by omega)
      obtain ⟨b2, o2, rfl, hb2, hc2⟩ := (h2.below hb hB).bk (by omega)
      obtain ⟨r0, r1⟩ := hc1 n (by omega)
      obtain ⟨s0, s1⟩ := hc2 n (by omega)
      clear hc1 hc2
      generalize l.getD n bk0 = r at *
      obtain ⟨xb, xn⟩ := r
      simp only at r0 r1 s0 s1
      have z1 : b1 < wr.heap.size := by have := hb.size; omega
      have z2 : b2 < wr.heap.size := by have := hb.size; omega
      clear h1 h2
      go_wp2_with fail
      go_quiet (fail)
      go_wp2_with fail
      go_roundw
      case rel => exact ⟨n + 1, by omega, by go_num, hb.trans (below_drewN _ _ _)⟩
      case measure => simp [intOf]; omega
    · go_wp2_with fail
      go_ret
      exact ⟨rfl, hb⟩
end Go.Proofs.Ytbljhmcenjmjjaa

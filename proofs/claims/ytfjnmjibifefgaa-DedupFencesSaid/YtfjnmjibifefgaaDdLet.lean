/- The walk of headgatelaw07.let (written by gen/let07.py). -/
import Derived.Test.YtfjnmjibifefgaaDdLetM
import Derived.Test.YtfjnmjibifefgaaDdRows
import Derived.Test.YtfjnmjibifefgaaBxOpen
namespace Go.Proofs.Ytfjnmjibifefgaa
open Go.RowKit Vm Bm
set_option linter.unusedVariables false
set_option linter.unusedSimpArgs false

def iCells (A : List Int) : List Value := A.map fun n => .int .i64 n
theorem iCells_snoc (A : List Int) (n : Int) : iCells (A ++ [n]) = iCells A ++ [.int .i64 n] := by simp [iCells]
theorem iCells_at (A : List Int) (i : Nat) (h : i < A.length) : (iCells A)[i]? = some (.int .i64 (A.getD i 0)) := by simp [iCells, List.getD, h]
theorem bx_five (a b c d : Int) (v : Option Addr) (n m : Nat) : ∀ u ∈ ([.int .i64 a, .int .i64 b, .int .i64 c, .int .i64 d, .slice v n m] : List Value), u.oneCell' = true := fun v hv => by simp at hv; rcases hv with rfl | rfl | rfl | rfl | rfl <;> rfl
theorem i_one7 (a : Int) : ∀ u ∈ ([.int .i64 a] : List Value), u.oneCell' = true := fun v hv => by simp at hv; rcases hv with rfl; rfl
theorem Whole.farOf {w w' : World} {g : Nat} {t : TypeId} {cs : Array Value} {v : Value} (h : Whole w g t cs) (hf : FarOf w w' v) (hv : v.ownBlock ≠ some g) : Whole w' g t cs := (hf.2 g h.lt hv).trans h
theorem rblen7_walk (b : Bat) (a : Option Addr) (c : Nat) (w : World) (h0 : 0 < b.l.length) :
    Calls Try.prog 46 #[bv b a c] w fun e w' => e = .returned (.int .i64 b.l.length) ∧ Below w.heap.size w w' := by
  have A1 := balloc w (.cells (bvc b a c) 25)
  have h1 : ¬ b.l.length = 0 := by omega
  have hW := Whole.new w 25 (bvc b a c)
  obtain ⟨x0, x1, x2, x3, x4, _⟩ := hW.five
  clear h0
  unfold bv
  go_enter Try.func46, Try.ntmps46
  go_wp2_with fail
  go_ret
  exact ⟨rfl, A1⟩
theorem own_bx {w : World} {base N c : Nat} {a : Option Addr} {l : List Bx} {k : Nat} (h : w.ownsRow base 25 5 (.slice a N c) N (bxCells l)) (hk : k < l.length) {y : Bx} (hy : l.getD k bx0 = y) :
    ∃ g, a = some ⟨g, 0, none⟩ ∧ g < w.heap.size ∧ w.cell? ⟨g, k * 5 + 1, none⟩ = some (.int .i64 y.b.pid) ∧ w.cell? ⟨g, k * 5 + 2, none⟩ = some (.int .i64 y.b.epoch) ∧ w.cell? ⟨g, k * 5 + 3, none⟩ = some (.int .i64 y.b.seq) ∧ w.cell? ⟨g, k * 5 + 4, none⟩ = some (.slice y.a y.b.l.length y.c) := by
  subst hy
  have hn : 0 < N := by
    have h1 := h.1
    rw [bxCells_length] at h1
    omega
  obtain ⟨g, rfl, hg, hl, _, hc⟩ := ownN_at h hn
  have := bxCells_at l k hk
  exact ⟨g, rfl, hl, hc _ _ this.2.1, hc _ _ this.2.2.1, hc _ _ this.2.2.2.1, hc _ _ this.2.2.2.2⟩
theorem own_i {w : World} {base N c : Nat} {a : Option Addr} {A : List Int} {k : Nat} (h : w.ownsRow base 3 1 (.slice a N c) N (iCells A)) (hk : k < A.length) {v : Int} (hv : A.getD k 0 = v) :
    ∃ g, a = some ⟨g, 0, none⟩ ∧ g < w.heap.size ∧ w.cell? ⟨g, k, none⟩ = some (.int .i64 v) := by
  subst hv
  have hn : 0 < N := by
    have h1 := h.1
    unfold iCells at h1
    rw [List.length_map] at h1
    omega
  obtain ⟨g, rfl, hg, hl, _, hc⟩ := ownN_at h hn
  exact ⟨g, rfl, hl, hc _ _ (iCells_at A k hk)⟩
theorem results_tmp4 {fn : Func} {t u v x : Tmp} (h : fn.results = #[.tmp t, .tmp u, .tmp v, .tmp x]) (tmps : Array Value) (P : Program) (w : World) :
    (results fn tmps).run P w = .ok (.tuple #[tmps.getD t undef, tmps.getD u undef, tmps.getD v undef, tmps.getD x undef]) w := by simp [results, h, go_sem]
def LetSt (l I : List Bx) (A : List Int) (R : List Pr) (nx : Int) (m p k : Nat) : Prop := I.length = m ∧ R.length = p ∧ LetInv I A R nx ∧ m ≤ k ∧ ∀ x ∈ I, x ∈ l
def LetPost (l : List Bx) (w : World) (e : Ending) (w' : World) : Prop :=
  ∃ (I : List Bx) (A : List Int) (R : List Pr) (nx : Int) (a6 a7 a8 : Option Addr) (c6 c7 c8 : Nat), e = .returned (.tuple #[.slice a6 I.length c6, .slice a7 I.length c7, .slice a8 R.length c8, .bool true]) ∧
    LetInv I A R nx ∧ I.length ≤ 60 ∧ (∀ x ∈ I, x ∈ l) ∧ Sl w' w'.heap.size a6 (bxCells I) ∧ Sl w' w'.heap.size a7 (iCells A) ∧ Sl w' w'.heap.size a8 (prCells R) ∧ Below w.heap.size w w'
theorem let_end {l I : List Bx} {A : List Int} {R : List Pr} {nx : Int} {m p k : Nat} {a6 a7 a8 : Option Addr} {c6 c7 c8 b6 b7 b8 : Nat} {w w' : World} (h : LetSt l I A R nx m p k) (hk : k ≤ 60)
    (h6 : w'.ownsRow b6 25 5 (.slice a6 m c6) m (bxCells I)) (h7 : w'.ownsRow b7 3 1 (.slice a7 m c7) m (iCells A)) (h8 : w'.ownsRow b8 44 5 (.slice a8 p c8) p (prCells R)) (hb : Below w.heap.size w w') :
    LetPost l w (.returned (.tuple #[.slice a6 m c6, .slice a7 m c7, .slice a8 p c8, .bool true])) w' := by
  obtain ⟨rfl, rfl, h1, h2, h3⟩ := h
  exact ⟨I, A, R, nx, a6, a7, a8, c6, c7, c8, rfl, h1, by omega, h3, ownN_sl h6, ownN_sl h7, ownN_sl h8, hb⟩
theorem letSt_step {l I : List Bx} {A : List Int} {R D : List Pr} {nx n : Int} {m p k : Nat} {x : Bx} {r : Pr} {EE : Bool} (h : LetSt l I A R nx m p k) (hx : x ∈ l) (hr : RowP R x.b.pid r EE) (hd : DlIs x.b r n false 0)
    (hD : NtIs x.b ⟨x.b.pid, x.b.epoch, x.b.seq, x.b.l.length, nx⟩ false R D) : LetSt l (I ++ [x]) (A ++ [nx]) D (nx + x.b.l.length) (m + 1) D.length (k + 1) := by
  obtain ⟨rfl, rfl, h1, h2, h3⟩ := h
  refine ⟨by simp, rfl, letInv_step h1 hr hd hD (ntIs_len' hD), by omega, fun y hy => ?_⟩
  rcases List.mem_append.1 hy with hy | hy
  · exact h3 y hy
  · rw [List.mem_singleton.1 hy]; exact hx
theorem letSt_same {l I : List Bx} {A : List Int} {R : List Pr} {nx : Int} {m p k : Nat} (h : LetSt l I A R nx m p k) : LetSt l I A R nx m p (k + 1) := ⟨h.1, h.2.1, h.2.2.1, by have := h.2.2.2.1; omega, h.2.2.2.2⟩
theorem letSt_facts {l I : List Bx} {A : List Int} {R : List Pr} {nx : Int} {m p k : Nat} (h : LetSt l I A R nx m p k) (hk : k ≤ 60) : I.length = m ∧ A.length = m ∧ R.length = p ∧ m ≤ 60 ∧ p ≤ 60 ∧ 0 ≤ nx ∧ nx ≤ 3840 := by
  obtain ⟨rfl, rfl, h1, h2, _⟩ := h
  have := h1.pl
  have := h1.nx
  have := h1.al
  omega
set_option maxRecDepth 100000 in
set_option maxHeartbeats 16000000 in
theorem let_walk (l : List Bx) (N : Nat) (a : Option Addr) (c : Nat) (w : World) (hN : l.length = N) (hNm : N ≤ maxLen) (h : Sl w w.heap.size a (bxCells l)) (hi : ∀ x ∈ l, BxI w x) :
    Calls Try.prog 22 #[.slice a N c] w (LetPost l w) := by
  obtain ⟨i6, hi6, hz60, hz61, hz62⟩ := info_parts info_bx
  obtain ⟨i7, hi7, hz70, hz71, hz72⟩ := info_parts info_i1
  have HNe := Lib.hid hN
  have HI := Lib.hid hi
  clear hN hi hNm
  go_enter Try.func22, Try.ntmps22
  go_wp2_with fail
  go_loopw [6, 7, 8, 9, 10] (fun O6 O7 O8 NX J wr => ∃ (k : Nat) (I : List Bx) (A : List Int) (R : List Pr) (nx : Int) (m p : Nat) (a6 a7 a8 : Option Addr) (c6 c7 c8 : Nat), k ≤ N ∧ k ≤ 60 ∧ J = .int .i64 k ∧ O6 = .slice a6 m c6 ∧ O7 = .slice a7 m c7 ∧ O8 = .slice a8 p c8 ∧ NX = .int .i64 nx ∧ Hid (LetSt l I A R nx m p k) ∧
      wr.ownsRow w.heap.size 25 5 (.slice a6 m c6) m (bxCells I) ∧ wr.ownsRow w.heap.size 3 1 (.slice a7 m c7) m (iCells A) ∧ wr.ownsRow w.heap.size 44 5 (.slice a8 p c8) p (prCells R) ∧ Below w.heap.size w wr) (fun _ _ _ _ J _ => 60 - (intOf J).toNat)
  case atStart => exact ⟨0, [], [], [], 0, 0, 0, none, none, none, 0, 0, 0, by omega, by omega, rfl, rfl, rfl, rfl, rfl, Lib.hid ⟨rfl, rfl, letInv_nil, Nat.le_refl _, fun x h => (by cases h)⟩, World.ownsRow_nil _ _ _ _, World.ownsRow_nil _ _ _ _, World.ownsRow_nil _ _ _ _, Below.refl _ _⟩
  case round =>
    obtain ⟨k, I, A, R, nx, m, p, a6, a7, a8, c6, c7, c8, hkN, hk60, rfl, rfl, rfl, rfl, rfl, HS, own6, own7, own8, hb⟩ := hrel
    obtain ⟨hIm, hAm, hRp, hm60, hp60, hnx0, hnx1⟩ := letSt_facts HS.out hk60
    have HF := Lib.hid (And.intro hIm (And.intro hAm hRp))
    clear hIm hAm hRp
    by_cases hk1 : k < N
    · by_cases hk2 : k < 60
      · have hil : k < l.length := by rw [HNe.out]; exact hk1
        have hkN2 : (k : Int) < (N : Int) := by omega
        have hk62 : (k : Int) < 60 := by omega
        obtain ⟨b1, o1, rfl, hb1, hc⟩ := (h.below hb (Nat.le_refl _)).bx (by omega)
        obtain ⟨r0, r1, r2, r3, r4⟩ := hc k hil
        have hxl := getD_mem l bx0 k hil
        obtain ⟨x, hx⟩ : ∃ x, l.getD k bx0 = x := ⟨_, rfl⟩
        rw [hx] at r0 r1 r2 r3 r4 hxl
        have HXL := Lib.hid hxl
        obtain ⟨hbw, hrs⟩ := HI.out x hxl
        clear hx hc hxl
        have hbz := hb.size
        have hb1z : b1 < wr.heap.size := by omega
        have hal := balloc wr (.cells (bvc x.b x.a x.c) 25)
        have W0 := Whole.new wr 25 (bvc x.b x.a x.c)
        have hwk : IntKind.i64.wrap ((k : Int) + 1) = ((k + 1 : Nat) : Int) := by rw [IntWalk.i64_in _ (by omega)]; omega
        go_upto_region 9 with fail
        obtain ⟨w0, hw0⟩ : ∃ w0, w0 = wr.alloc (.cells (bvc x.b x.a x.c) 25) := ⟨_, rfl⟩
        have hw0' : wr.alloc (.cells #[.int .i64 x.b.kind, .int .i64 x.b.pid, .int .i64 x.b.epoch, .int .i64 x.b.seq, .slice x.a x.b.l.length x.c] 25) = w0 := hw0.symm
        rw [← hw0] at hal W0
        rw [hw0']
        clear hw0 hw0' r0 r1 r2 r3 r4
        have b0 := hb.trans (hal.mono hbz)
        have rs0 := ((hrs.below b0 (Nat.le_refl _)).grow b0.size)
        obtain ⟨x0, x1, x2, x3, x4, hgl⟩ := W0.five
        by_cases hL : LightB x.b
        · have HL := Lib.hid (light_walk x.b x.b.l.length x.a x.c _ w0 true rfl ⟨fun _ => hL, fun _ => rfl⟩ rs0 (Nat.le_refl _))
          have hbl : x.b.l.length ≤ maxLen := by have := hL.1; unfold maxLen; omega
          clear hL
          go_wp2_with fail
          refine HL.out.mono ?_
          rintro e w1 ⟨rfl, g1⟩
          have W1 := W0.keep g1
          have b1 := gtrans b0 g1
          have t1 := gtrans hal g1
          have rs1 := (rs0.below g1 (Nat.le_refl _)).grow g1.size
          have o81 := own_keep own8 t1
          obtain ⟨r, EE, hr⟩ := rowP_ex R x.b.pid
          obtain ⟨n, d, E, hd⟩ := dlIs_ex x.b r
          have hI := letInv_i HS.out.2.2.1 hr
          have K := Lib.hid (dlook_walk R p a8 c8 w1.heap.size x.b x.a x.c w1 r n d E EE HF.out.2.2 (by omega) hbl hbw hI hr hd (ownN_sl o81) rs1 (Nat.le_refl _))
          unfold LkPost at K
          have HR := Lib.hid hr
          have HD := Lib.hid hd
          clear HL hr hd hI g1 rs0 b0 x0 x1 x2 x3 x4 W0 o81 hgl
          obtain ⟨x0, x1, x2, x3, x4, hgl⟩ := W1.five
          go_wp2_with fail
          refine K.out.mono ?_
          rintro e w2 ⟨rfl, g2⟩
          have W2 := W1.keep g2
          have b2 := gtrans b1 g2
          have t2 := gtrans t1 g2
          have o6 := own_keep own6 t2
          have o7 := own_keep own7 t2
          have o8 := own_keep own8 t2
          have hz2 := t2.size
          have hlt2 : wr.heap.size < w2.heap.size := W2.lt
          have nb6 : (Value.slice a6 m c6).ownBlock ≠ some wr.heap.size := fun hh => by have := (own6.lt _ hh).2; omega
          have nb7 : (Value.slice a7 m c7).ownBlock ≠ some wr.heap.size := fun hh => by have := (own7.lt _ hh).2; omega
          clear K own7 own8 x0 x1 x2 x3 x4 W1 b1 t1 hgl
          obtain ⟨x0, x1, x2, x3, x4, hgl⟩ := W2.five
          by_cases hE : E = 0
          · subst hE
            cases d with
            | true =>
              have hdup := letInv_dup HS.out.2.2.1 HR.out HD.out
              obtain ⟨j, hj, hj1, hj2, hj3, hj4, hj5⟩ := hdup
              have HJ := Lib.hid (And.intro hj1 (And.intro hj2 (And.intro hj3 (And.intro hj4 hj5))))
              have hjm : j < m := by rw [← HF.out.1]; exact hj
              clear hj hj1 hj2 hj3 hj4 hj5 HR HD rs1 own6
              go_wp2_with fail
              obtain ⟨wo, rfl⟩ : ∃ wo : World, wo = wr := ⟨_, rfl⟩
              go_loopw [15, 16] (fun Q J wq => ∃ (i : Nat) (q : Bool), i ≤ m ∧ J = .int .i64 i ∧ Q = .bool q ∧ (j < i → q = true) ∧ Below w2.heap.size w2 wq) (fun _ J _ => m - (intOf J).toNat)
              case atStart => exact ⟨0, false, by omega, rfl, rfl, fun hh => (by omega), Below.refl _ _⟩
              case round =>
                obtain ⟨i, q, him, rfl, rfl, hq, hb9⟩ := hrel
                by_cases hilt : i < m
                · have hilt2 : (i : Int) < (m : Int) := by omega
                  have hi0 : 0 ≤ (i : Int) := by omega
                  have p6 := own_keep o6 hb9
                  have p7 := own_keep o7 hb9
                  obtain ⟨y, hy⟩ : ∃ y, I.getD i bx0 = y := ⟨_, rfl⟩
                  obtain ⟨v, hv⟩ : ∃ v, A.getD i 0 = v := ⟨_, rfl⟩
                  obtain ⟨q6, rfl, hg6, y1, y2, y3, y4⟩ := own_bx p6 (by rw [HF.out.1]; exact hilt) hy
                  obtain ⟨q7, rfl, hg7, v0⟩ := own_i p7 (by rw [HF.out.2.1]; exact hilt) hv
                  clear x0 x1 x2 x3 x4 hgl
                  obtain ⟨x0, x1, x2, x3, x4, hgl⟩ := (W2.keep hb9).five
                  have HA : i = j → v = n ∧ y.b.pid = x.b.pid ∧ y.b.epoch = x.b.epoch ∧ y.b.seq = x.b.seq ∧ y.b.l.length = x.b.l.length := fun hh => by
                    have h1 := HJ.out
                    rw [← hh, hy, hv] at h1
                    exact h1
                  have hwi : IntKind.i64.wrap ((i : Int) + 1) = ((i + 1 : Nat) : Int) := by rw [IntWalk.i64_in _ (by omega)]; omega
                  clear p6 p7 hy hv
                  cases q with
                  | true =>
                    clear HA hq
                    go_wp2_with fail
                    go_quiet (fail)
                    go_wp2_with fail
                    go_roundw
                    case rel => exact ⟨i + 1, true, by omega, by go_num, rfl, fun _ => rfl, hb9.trans (below_drewN _ _ _)⟩
                    case measure => simp [intOf]; omega
                  | false =>
                    have hij : i ≤ j := by
                      apply Classical.byContradiction
                      intro hh
                      have := hq (by omega)
                      cases this
                    have hcase : ((v == n) = false ∧ ¬ j < i + 1) ∨ ((v == n) = true ∧ (y.b.pid == x.b.pid) = false ∧ ¬ j < i + 1) ∨ ((v == n) = true ∧ (y.b.pid == x.b.pid) = true ∧ (y.b.epoch == x.b.epoch) = false ∧ ¬ j < i + 1) ∨ ((v == n) = true ∧ (y.b.pid == x.b.pid) = true ∧ (y.b.epoch == x.b.epoch) = true ∧ (y.b.seq == x.b.seq) = false ∧ ¬ j < i + 1) ∨ ((v == n) = true ∧ (y.b.pid == x.b.pid) = true ∧ (y.b.epoch == x.b.epoch) = true ∧ (y.b.seq == x.b.seq) = true ∧ ((y.b.l.length : Int) == (x.b.l.length : Int)) = false ∧ ¬ j < i + 1) ∨ ((v == n) = true ∧ (y.b.pid == x.b.pid) = true ∧ (y.b.epoch == x.b.epoch) = true ∧ (y.b.seq == x.b.seq) = true ∧ ((y.b.l.length : Int) == (x.b.l.length : Int)) = true) := by
                      by_cases e1 : v = n
                      · by_cases e2 : y.b.pid = x.b.pid
                        · by_cases e3 : y.b.epoch = x.b.epoch
                          · by_cases e4 : y.b.seq = x.b.seq
                            · by_cases e5 : y.b.l.length = x.b.l.length
                              · exact .inr (.inr (.inr (.inr (.inr ⟨by simp [e1], by simp [e2], by simp [e3], by simp [e4], by simp [e5]⟩))))
                              · exact .inr (.inr (.inr (.inr (.inl ⟨by simp [e1], by simp [e2], by simp [e3], by simp [e4], by simp; omega, fun hh => e5 (HA (by omega)).2.2.2.2⟩))))
                            · exact .inr (.inr (.inr (.inl ⟨by simp [e1], by simp [e2], by simp [e3], by simp [e4], fun hh => e4 (HA (by omega)).2.2.2.1⟩)))
                          · exact .inr (.inr (.inl ⟨by simp [e1], by simp [e2], by simp [e3], fun hh => e3 (HA (by omega)).2.2.1⟩))
                        · exact .inr (.inl ⟨by simp [e1], by simp [e2], fun hh => e2 (HA (by omega)).2.1⟩)
                      · exact .inl ⟨by simp [e1], fun hh => e1 (HA (by omega)).1⟩
                    clear HA hq hij
                    rcases hcase with ⟨f1, hnj⟩ | ⟨f1, f2, hnj⟩ | ⟨f1, f2, f3, hnj⟩ | ⟨f1, f2, f3, f4, hnj⟩ | ⟨f1, f2, f3, f4, f5, hnj⟩ | ⟨f1, f2, f3, f4, f5⟩
                    rotate_left 5
                    · go_wp2_with fail
                      go_quiet (fail)
                      go_wp2_with fail
                      go_roundw
                      case rel => exact ⟨i + 1, true, by omega, by go_num, rfl, fun _ => rfl, hb9.trans (below_drewN _ _ _)⟩
                      case measure => simp [intOf]; omega
                    all_goals
                      go_wp2_with fail
                      go_quiet (fail)
                      go_wp2_with fail
                      go_roundw
                      case rel => exact ⟨i + 1, false, by omega, by go_num, rfl, fun hh => absurd hh hnj, hb9.trans (below_drewN _ _ _)⟩
                      case measure => simp [intOf]; omega
                · have hilt2 : ¬ (i : Int) < (m : Int) := by omega
                  obtain rfl := hq (by omega)
                  have o69 := own_keep o6 hb9
                  have o79 := own_keep o7 hb9
                  have o89 := own_keep o8 hb9
                  have b9 := gtrans b2 hb9
                  clear o6 o7 o8 x0 x1 x2 x3 x4
                  go_wp2_with fail
                  go_roundw
                  case rel => exact ⟨k + 1, I, A, R, nx, m, p, a6, a7, a8, c6, c7, c8, by omega, by omega, by go_num, rfl, rfl, rfl, rfl, Lib.hid (letSt_same HS.out), o69, o79, o89, b9⟩
                  case measure => simp [intOf]; omega
            | false =>
              have hm := (dlIs_new (E := 0) HD.out).1
              have hp := may_pos hm.1 hm.2
              obtain ⟨D, hD⟩ := ntIs_ex x.b ⟨x.b.pid, x.b.epoch, x.b.seq, x.b.l.length, nx⟩ false R
              have HST := Lib.hid (letSt_step HS.out HXL.out HR.out HD.out hD)
              have hDp : D.length ≤ 61 := by have := ntIs_len' hD; have := HF.out.2.2; omega
              have KN := Lib.hid (dnote_walk R p a8 c8 w2.heap.size x.b x.a x.c nx w2 _ false D HF.out.2.2 (by omega) (.inr ⟨hm.2, rfl, rfl⟩) hD (ownN_sl o8) (Nat.le_refl _))
              unfold OwnPost at KN
              have hlen := hp.1
              have h64 := hp.2.1
              have hadd1 : IntKind.i64.wrap (nx + (x.b.l.length : Int)) = nx + (x.b.l.length : Int) := IntWalk.i64_in _ (by omega)
              have hadd2 : wrap64 (nx + (x.b.l.length : Int)) = nx + (x.b.l.length : Int) := IntWalk.wrap64_in _ (by omega)
              clear hm hD HD HR hp own6
              go_wp2_with fail
              refine KN.out.mono ?_
              rintro e w3 ⟨a8', c8', rfl, o83, g3⟩
              have W3 := W2.keep g3
              have b3 := gtrans b2 g3
              have o63 := own_keep o6 g3
              have o73 := own_keep o7 g3
              have hz3 := g3.size
              have hb3z := b3.size
              clear x0 x1 x2 x3 x4 hgl W2 o6 o7 o8 KN
              obtain ⟨x0, x1, x2, x3, x4, hgl⟩ := W3.five
              have HO6 := Lib.hid (o63.alloc (.cells #[.int .i64 x.b.kind, .int .i64 x.b.pid, .int .i64 x.b.epoch, .int .i64 x.b.seq, .slice x.a x.b.l.length x.c] 25))
              have HB3 := Lib.hid (b3.alloc hb3z (.cells #[.int .i64 x.b.kind, .int .i64 x.b.pid, .int .i64 x.b.epoch, .int .i64 x.b.seq, .slice x.a x.b.l.length x.c] 25))
              have HO7a := Lib.hid (o73.alloc (.cells #[.int .i64 x.b.kind, .int .i64 x.b.pid, .int .i64 x.b.epoch, .int .i64 x.b.seq, .slice x.a x.b.l.length x.c] 25))
              have HO8a := Lib.hid (o83.alloc (.cells #[.int .i64 x.b.kind, .int .i64 x.b.pid, .int .i64 x.b.epoch, .int .i64 x.b.seq, .slice x.a x.b.l.length x.c] 25))
              have HW3 := Lib.hid (W3.keep (balloc w3 (.cells #[.int .i64 x.b.kind, .int .i64 x.b.pid, .int .i64 x.b.epoch, .int .i64 x.b.seq, .slice x.a x.b.l.length x.c] 25)))
              have hz3a := (balloc w3 (.cells #[.int .i64 x.b.kind, .int .i64 x.b.pid, .int .i64 x.b.epoch, .int .i64 x.b.seq, .slice x.a x.b.l.length x.c] 25)).size
              clear o63 o73 o83 b3 W3
              go_wp2_with (at_builtin; refine wp_app2 rfl _ _ 38 rfl w.heap.size 25 i6 (.agg #[.int .i64 0, .int .i64 0, .int .i64 0, .int .i64 0, .slice none 0 0]) 5 56 Try.underlying38 hi6 hz60 hz61 hz62 rfl (by decide) _ _ _ rfl HO6.out _ _ _ rfl [.int .i64 x.b.kind, .int .i64 x.b.pid, .int .i64 x.b.epoch, .int .i64 x.b.seq, .slice x.a x.b.l.length x.c] _ w rfl (sl_fresh _ [.int .i64 x.b.kind, .int .i64 x.b.pid, .int .i64 x.b.epoch, .int .i64 x.b.seq, .slice x.a x.b.l.length x.c] 25) (fun h => by cases h) (bx_five _ _ _ _ _ _ _) ?ca ?cb ?cc HB3.out ?_)
              case ca => unfold maxLen; omega
              case cb => omega
              case cc => omega
              intro a6' c6' w4 o64 b4 f4
              have o74 := own_far2 HO7a.out f4 (own_ne HO7a.out HO6.out (by decide))
              have o84 := own_far2 HO8a.out f4 (own_ne HO8a.out HO6.out (by decide))
              have W4 := HW3.out.farOf f4 nb6
              have hb4z := b4.size
              have hz4 := f4.1
              clear x0 x1 x2 x3 x4 hgl f4 HO6 HB3 HO7a HO8a HW3
              obtain ⟨x0, x1, x2, x3, x4, hgl⟩ := W4.five
              have HO7 := Lib.hid (o74.alloc (.cells #[.int .i64 nx] 3))
              have HB4 := Lib.hid (b4.alloc hb4z (.cells #[.int .i64 nx] 3))
              have HO6a := Lib.hid (o64.alloc (.cells #[.int .i64 nx] 3))
              have HO8a := Lib.hid (o84.alloc (.cells #[.int .i64 nx] 3))
              have HW4 := Lib.hid (W4.keep (balloc w4 (.cells #[.int .i64 nx] 3)))
              have hz4a := (balloc w4 (.cells #[.int .i64 nx] 3)).size
              clear o64 o74 o84 b4 W4
              go_wp2_with (at_builtin; refine wp_app2 rfl _ _ 39 rfl w.heap.size 3 i7 (.int .i64 0) 1 8 Try.underlying39 hi7 hz70 hz71 hz72 rfl (by decide) _ _ _ rfl HO7.out _ _ _ rfl [.int .i64 nx] _ w rfl (sl_fresh _ [.int .i64 nx] 3) (fun h => by cases h) (i_one7 _) ?da ?db ?dc HB4.out ?_)
              case da => unfold maxLen; omega
              case db => omega
              case dc => omega
              intro a7' c7' w5 o75 b5 f5
              have o65 := own_far2 HO6a.out f5 (own_ne HO6a.out HO7.out (by decide))
              have o85 := own_far2 HO8a.out f5 (own_ne HO8a.out HO7.out (by decide))
              have W5 := HW4.out.farOf f5 nb7
              have hz5 := f5.1
              clear x0 x1 x2 x3 x4 hgl f5 HO7 HB4 HO6a HO8a HW4
              obtain ⟨x0, x1, x2, x3, x4, hgl⟩ := W5.five
              have KL := Lib.hid (rblen7_walk x.b x.a x.c w5 hlen)
              go_wp2_with fail
              refine KL.out.mono ?_
              rintro e w6 ⟨rfl, g6⟩
              have o66 := own_keep o65 g6
              have o76 := own_keep o75 g6
              have o86 := ownN_base (own_keep o85 g6) (show w.heap.size ≤ w2.heap.size from b2.size)
              have b6 := gtrans b5 g6
              clear x0 x1 x2 x3 x4 o65 o75 o85 b5
              go_wp2_with fail
              go_roundw
              case rel => exact ⟨k + 1, I ++ [x], A ++ [nx], D, nx + x.b.l.length, m + 1, D.length, a6', a7', a8', c6', c7', c8', by omega, by omega, by go_num, rfl, rfl, rfl, rfl, HST, by rw [bxCells_snoc]; exact o66, by rw [iCells_snoc]; exact o76, o86, b6⟩
              case measure => simp [intOf]; omega
          · have he := dlIs_err HD.out hE
            obtain ⟨rfl, rfl⟩ := he
            have hE2 : (E != 0) = true := by simp [hE]
            clear hE HD HR own6
            go_wp2_with fail
            go_roundw
            case rel => exact ⟨k + 1, I, A, R, nx, m, p, a6, a7, a8, c6, c7, c8, by omega, by omega, by go_num, rfl, rfl, rfl, rfl, Lib.hid (letSt_same HS.out), o6, o7, o8, b2⟩
            case measure => simp [intOf]; omega
        · have HL := Lib.hid (light_walk x.b x.b.l.length x.a x.c _ w0 false rfl ⟨fun h => (by cases h), fun h => absurd h hL⟩ rs0 (Nat.le_refl _))
          clear hL
          go_wp2_with fail
          refine HL.out.mono ?_
          rintro e w1 ⟨rfl, g1⟩
          have b1 := gtrans b0 g1
          have t1 := gtrans hal g1
          have o6 := own_keep own6 t1
          have o7 := own_keep own7 t1
          have o8 := own_keep own8 t1
          clear own6 own7 own8 x0 x1 x2 x3 x4
          go_wp2_with fail
          go_roundw
          case rel => exact ⟨k + 1, I, A, R, nx, m, p, a6, a7, a8, c6, c7, c8, by omega, by omega, by go_num, rfl, rfl, rfl, rfl, Lib.hid (letSt_same HS.out), o6, o7, o8, b1⟩
          case measure => simp [intOf]; omega
      · have hkN2 : (k : Int) < (N : Int) := by omega
        have hk62 : ¬ (k : Int) < 60 := by omega
        go_wp2_with fail
        refine bodyPost_ret (results_tmp4 rfl _ _ _) rfl ?_
        exact let_end HS.out hk60 own6 own7 own8 hb
    · have hkN2 : ¬ (k : Int) < (N : Int) := by omega
      go_wp2_with fail
      refine bodyPost_ret (results_tmp4 rfl _ _ _) rfl ?_
      exact let_end HS.out hk60 own6 own7 own8 hb
end Go.Proofs.Ytfjnmjibifefgaa

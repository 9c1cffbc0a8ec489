/- The walks of quota.Trim and headgateref36.Trim. -/
import Derived.Test.YtbhbilmpkgcmeaaQuDel
import Derived.Test.YtbhbilmpkgcmeaaQuHas
import Derived.Test.YtbhbilmpkgcmeaaQuRef
import Derived.Test.YtbhbilmpkgcmeaaApp
namespace Go.Proofs.Ytbhbilmpkgcmeaa
open Go.RowKit Vm
set_option linter.unusedVariables false
set_option linter.unusedSimpArgs false

/-- What trimming tells. -/
def TrIs (t m now : Int) (l D : List Ac) (E : Int) : Prop := (RightQ t m l now ∧ D = keepQ t m now l ∧ E = 0) ∨ (¬ RightQ t m l now ∧ D = [] ∧ E = 1)
theorem trIs_ex (t m now : Int) (l : List Ac) : ∃ D E, TrIs t m now l D E := by
  by_cases h : RightQ t m l now
  · exact ⟨_, _, .inl ⟨h, rfl, rfl⟩⟩
  · exact ⟨_, _, .inr ⟨h, rfl, rfl⟩⟩
theorem keepQ_len (t m now : Int) (l : List Ac) : (keepQ t m now l).length ≤ l.length := List.length_filter_le _ _
theorem rightQ_ok {t m now : Int} {l : List Ac} (h : RightQ t m l now) : ∀ x ∈ l, AcOk m now x := by
  intro x hx
  obtain ⟨i, hi, rfl⟩ := List.mem_iff_getElem.1 hx
  have := h.2.2.2 i hi
  unfold OkQ at this
  rw [show l.getD i ac0 = l[i] from by simp [List.getD, hi]] at this
  exact ⟨⟨this.2.1, this.2.2.1⟩, this.2.2.2.1, this.2.2.2.2.1⟩
def TrPost (w : World) (D : List Ac) (E : Int) (e : Ending) (w' : World) : Prop := ∃ a c, e = .returned (.tuple #[.slice a D.length c, .int .i64 E]) ∧ Sl w' w'.heap.size a (acCells D) ∧ Below w.heap.size w w'
set_option maxRecDepth 100000 in
set_option maxHeartbeats 4000000 in
theorem qtrim_walk (t m now : Int) (l : List Ac) (N : Nat) (a : Option Addr) (c B : Nat) (w : World) (D : List Ac) (E : Int) (hN : l.length = N) (hT : TrIs t m now l D E) (h : Sl w B a (acCells l)) (hB : B ≤ w.heap.size) :
    Calls Try.prog 42 #[.agg #[.int .i64 t, .int .i64 m], .slice a N c, .int .i64 now] w (TrPost w D E) := by
  have hal1 := balloc w (.cells #[.int .i64 t, .int .i64 m] 60)
  have R1 := Whole.new w 60 #[.int .i64 t, .int .i64 m]
  have hal2 := balloc (w.alloc (.cells #[.int .i64 t, .int .i64 m] 60)) (.cells #[.int .i64 now] 3)
  have N2 := Whole.new (w.alloc (.cells #[.int .i64 t, .int .i64 m] 60)) 3 #[.int .i64 now]
  have R2 := R1.keep hal2
  have hal := gtrans hal1 hal2
  have hz1 : (w.alloc (.cells #[.int .i64 t, .int .i64 m] 60)).heap.size = w.heap.size + 1 := by simp
  rw [hz1] at N2
  have h2 := h.below hal hB
  have hz2 : ((w.alloc (.cells #[.int .i64 t, .int .i64 m] 60)).alloc (.cells #[.int .i64 now] 3)).heap.size = w.heap.size + 2 := by simp
  go_enter Try.func42, Try.ntmps42
  go_upto_region 1 with fail
  obtain ⟨w2, hw2⟩ : ∃ w2, w2 = (w.alloc (.cells #[.int .i64 t, .int .i64 m] 60)).alloc (.cells #[.int .i64 now] 3) := ⟨_, rfl⟩
  rw [← hw2] at N2 R2 hal h2 hz2 ⊢
  clear hw2 hal1 hal2 R1 hz1
  have C2 : Caps w2 w.heap.size (w.heap.size + 1) t m now := ⟨R2.cell 0, R2.cell 1, N2.cell 0⟩
  have hB2 : B ≤ w2.heap.size := by omega
  have HNe := Lib.hid hN
  have hzl : w.heap.size < w2.heap.size := by omega
  have hzl2 : w.heap.size + 1 < w2.heap.size := by omega
  rcases hT with ⟨hR, rfl, rfl⟩ | ⟨hR, rfl, rfl⟩
  · have HV := Lib.hid (qvalid_walk t m l N a c B now w2 true hN (.inl ⟨hR, rfl⟩) h2 hB2)
    have hN64 : N ≤ 64 := by have := hR.2.2.1; omega
    have HR := Lib.hid hR
    clear hR R2 N2 hN
    obtain ⟨c0, c1, c2⟩ := C2
    go_wp2_with fail
    refine HV.out.mono ?_
    rintro e w3 ⟨rfl, g3⟩
    have b3 := gtrans hal g3
    have h3 := h2.below g3 hB2
    have C3 : Caps w3 w.heap.size (w.heap.size + 1) t m now := Caps.keep ⟨c0, c1, c2⟩ g3 hzl hzl2
    have hz3 := g3.size
    have HC := Lib.hid (clone_ac l N a c B w3 HNe.out (by omega) h3 (by omega))
    clear c0 c1 c2 HV
    go_wp2_with fail
    refine HC.out.mono ?_
    rintro e w4 ⟨a4, c4, rfl, own4, g4⟩
    have b4 := gtrans b3 g4
    have C4 := C3.keep g4 (by omega) (by omega)
    have hz4 := g4.size
    have HDl := Lib.hid (qdel_walk t m now l N a4 c4 w3.heap.size w.heap.size (w.heap.size + 1) w4 HNe.out hN64 HR.out.1 (rightQ_ok HR.out) HR.out.2.1.2 C4 own4 hz4 (by omega) (by omega))
    unfold DelPost at HDl
    clear own4 C4 C3 HC
    go_wp2_with fail
    refine HDl.out.mono ?_
    rintro e w5 ⟨c5, rfl, s5, g5⟩
    go_wp2_with fail
    go_ret2
    exact ⟨a4, c5, rfl, s5, b4.trans (g5.mono (by omega))⟩
  · have HV := Lib.hid (qvalid_walk t m l N a c B now w2 false hN (.inr ⟨hR, rfl⟩) h2 hB2)
    clear hR R2 N2 hN
    obtain ⟨c0, c1, c2⟩ := C2
    go_wp2_with fail
    refine HV.out.mono ?_
    rintro e w3 ⟨rfl, g3⟩
    go_wp2_with fail
    go_ret2
    exact ⟨none, 0, rfl, .inl rfl, gtrans hal g3⟩
theorem held5b {w1 w3 w4 : World} {b g o : Nat} {v0 v1 c0 c1 c2 : Value} (h : w3.cell? ⟨b, 0, none⟩ = some v0 ∧ w3.cell? ⟨b, 1, none⟩ = some v1 ∧ w3.cell? ⟨g, o, none⟩ = some c0 ∧ w3.cell? ⟨g, o + 1, none⟩ = some c1 ∧ w3.cell? ⟨g, o + 2, none⟩ = some c2 ∧ Below w1.heap.size w1 w3) (hb : Below w3.heap.size w3 w4) :
    w4.cell? ⟨b, 0, none⟩ = some v0 ∧ w4.cell? ⟨b, 1, none⟩ = some v1 ∧ w4.cell? ⟨g, o, none⟩ = some c0 ∧ w4.cell? ⟨g, o + 1, none⟩ = some c1 ∧ w4.cell? ⟨g, o + 2, none⟩ = some c2 ∧ Below w1.heap.size w1 w4 := by
  obtain ⟨h0, h1, h2, h3, h4, h5⟩ := h
  exact ⟨(hb.cell (cell_lt h0)).trans h0, (hb.cell (cell_lt h1)).trans h1, (hb.cell (cell_lt h2)).trans h2, (hb.cell (cell_lt h3)).trans h3, (hb.cell (cell_lt h4)).trans h4, gtrans h5 hb⟩
theorem ac_three (a b c : Int) : ∀ v ∈ ([.int .i64 a, .int .i64 b, .int .i64 c] : List Value), v.oneCell' = true := fun v hv => by simp at hv; rcases hv with rfl | rfl | rfl <;> rfl
set_option maxRecDepth 100000 in
set_option maxHeartbeats 4000000 in
theorem rtrim_walk (t m now : Int) (l : List Ac) (N : Nat) (a : Option Addr) (c B : Nat) (w : World) (D : List Ac) (E : Int) (hN : l.length = N) (hT : TrIs t m now l D E) (h : Sl w B a (acCells l)) (hB : B ≤ w.heap.size) :
    Calls Try.prog 43 #[.agg #[.int .i64 t, .int .i64 m], .slice a N c, .int .i64 now] w (TrPost w D E) := by
  obtain ⟨i0, hi, hz0, hz1, hz2⟩ := info_parts info_ac
  have hal := balloc w (.cells #[.int .i64 t, .int .i64 m] 60)
  have R1 := Whole.new w 60 #[.int .i64 t, .int .i64 m]
  have h1 := h.below hal hB
  have hB1 := Nat.le_trans hB hal.size
  have c0 := R1.cell 0
  have c1 := R1.cell 1
  simp only [List.getElem?_toArray, List.getElem?_cons_zero, List.getElem?_cons_succ] at c0 c1
  have HNe := Lib.hid hN
  rcases hT with ⟨hR, hD, rfl⟩ | ⟨hR, rfl, rfl⟩
  · have HV := Lib.hid (rright_walk t m l N a c B now _ true hN (.inl ⟨hR, rfl⟩) h1 hB1)
    have hN64 : N ≤ 64 := by have := hR.2.2.1; omega
    have HR := Lib.hid hR
    have HD := Lib.hid hD
    clear hR hN h hD
    go_enter Try.func43, Try.ntmps43
    go_wp2_with fail
    refine HV.out.mono ?_
    rintro e w3 ⟨rfl, g3⟩
    have b3 := gtrans hal g3
    have h3 := h1.below g3 hB1
    have R3 := R1.keep g3
    have hz3 := g3.size
    have hr3 := R3.lt
    have hB3 := Nat.le_trans hB1 hz3
    clear HV c0 c1 R1 hal g3 h1
    have HR3 := Lib.hid R3
    go_wp2_with fail
    go_loopw [8, 9] (fun O I wr => ∃ (k : Nat) (a3 : Option Addr) (c3 n3 : Nat), k ≤ N ∧ n3 ≤ k ∧ I = .int .i64 k ∧ O = .slice a3 n3 c3 ∧ Hid (n3 = (keepQ t m now (l.take k)).length) ∧ wr.ownsRow w3.heap.size 102 3 (.slice a3 n3 c3) n3 (acCells (keepQ t m now (l.take k))) ∧ Below w3.heap.size w3 wr) (fun _ I _ => N - (intOf I).toNat)
    case atStart => exact ⟨0, none, 0, 0, by omega, by omega, rfl, rfl, Lib.hid rfl, World.ownsRow_nil _ _ _ _, Below.refl _ _⟩
    case round =>
      obtain ⟨k, a3, c3, n3, hk, hn3, rfl, rfl, HL, hown, hb⟩ := hrel
      have hbz := hb.size
      by_cases hlt : k < N
      · have hlt2 : (k : Int) < (N : Int) := by omega
        have hk0 : 0 ≤ (k : Int) := by omega
        have hil : k < l.length := by rw [HNe.out]; exact hlt
        obtain ⟨b1, o1, rfl, hb1, hc⟩ := (h3.below hb hB3).ac (by omega)
        obtain ⟨r0, r1, r2⟩ := hc k hil
        have htk := Lib.hid (take_get l ac0 k hil)
        obtain ⟨x, hx⟩ : ∃ x, l.getD k ac0 = x := ⟨_, rfl⟩
        rw [hx] at r0 r1 r2
        have hok := rightQ_ok HR.out x (by rw [← hx]; exact getD_mem l ac0 k hil)
        have HXe := Lib.hid hx
        have HAV := Lib.hid (fun w => rhas_walk t m x now w HR.out.1 hok.1 hok.2 HR.out.2.1.2)
        have hb1z : b1 < wr.heap.size := by omega
        have hle := (availQ_le (t := t) (m := m) (a := x) (now := now) HR.out.1.1 hok.1.1 (by have := HR.out.1.2.2; omega) hok.2.2).2
        have c0 := (HR3.out.keep hb).cell 0
        have c1 := (HR3.out.keep hb).cell 1
        simp only [List.getElem?_toArray, List.getElem?_cons_zero, List.getElem?_cons_succ] at c0 c1
        have hS0 : wr.drew.cell? ⟨w.heap.size, 0, none⟩ = some (.int .i64 t) ∧ wr.drew.cell? ⟨w.heap.size, 1, none⟩ = some (.int .i64 m) ∧ wr.drew.cell? ⟨b1, o1 + k * 3, none⟩ = some (.int .i64 x.o) ∧ wr.drew.cell? ⟨b1, o1 + k * 3 + 1, none⟩ = some (.int .i64 x.l) ∧ wr.drew.cell? ⟨b1, o1 + k * 3 + 2, none⟩ = some (.int .i64 x.s) ∧ Below wr.heap.size wr wr.drew := ⟨c0, c1, r0, r1, r2, (Below.refl _ _).drew⟩
        have HFu : FullQ t m now x ∨ ¬ FullQ t m now x := Classical.em _
        unfold FullQ at HFu
        generalize hav : availQ t m x now = av at *
        have HAv := Lib.hid hav
        clear hav hx hc hok
        obtain ⟨wo, rfl⟩ : ∃ wo : World, wo = wr := ⟨_, rfl⟩
        go_wp2_with fail
        go_region_held3 (fun w' => w'.cell? ⟨w.heap.size, 0, none⟩ = some (.int .i64 t) ∧ w'.cell? ⟨w.heap.size, 1, none⟩ = some (.int .i64 m) ∧ w'.cell? ⟨b1, o1 + k * 3, none⟩ = some (.int .i64 x.o) ∧ w'.cell? ⟨b1, o1 + k * 3 + 1, none⟩ = some (.int .i64 x.l) ∧ w'.cell? ⟨b1, o1 + k * 3 + 2, none⟩ = some (.int .i64 x.s) ∧ Below wo.heap.size wo w')
          (with_reducible assumption)
          (first | (go_at_call 69; refine (HAV.out _).mono ?_; rintro e w5 ⟨rfl, g5⟩; have y := held5b (by with_reducible assumption) g5))
        obtain ⟨_, _, e2, e3, e4, e5⟩ := y
        have own5 := own_keep hown e5
        have b5 := hb.trans (e5.mono hbz)
        have hz5 := e5.size
        clear hS0 hown
        rcases HFu with hf | hf
        · have hlt5 : ¬ av < m := by omega
          have HKn := Lib.hid (keepQ_snoc_no (l := l.take k) (show FullQ t m now x by unfold FullQ; rw [HAv.out]; exact hf))
          clear hf
          go_wp2_with fail
          go_roundw
          case rel => exact ⟨k + 1, a3, c3, n3, by omega, by omega, by go_num, rfl, Lib.hid (by rw [htk.out, HXe.out, HKn.out]; exact HL.out), by rw [htk.out, HXe.out, HKn.out]; exact own5, b5⟩
          case measure => simp [intOf]; omega
        · have hlt5 : av < m := by omega
          have HKy := Lib.hid (keepQ_snoc_yes (l := l.take k) (show ¬ FullQ t m now x by unfold FullQ; rw [HAv.out]; exact hf))
          clear hf
          have hb5z : w3.heap.size ≤ w5.heap.size := by omega
          have hb1z5 : b1 < w5.heap.size := by omega
          have HO6 := Lib.hid (own5.alloc (.cells #[.int .i64 x.o, .int .i64 x.l, .int .i64 x.s] 102))
          have HB6 := Lib.hid (b5.alloc hb5z (.cells #[.int .i64 x.o, .int .i64 x.l, .int .i64 x.s] 102))
          clear own5 b5
          go_wp2_with (at_builtin; refine wp_app rfl _ _ 61 rfl w3.heap.size 102 i0 (.agg #[.int .i64 0, .int .i64 0, .int .i64 0]) 3 24 Try.underlying61 hi hz0 hz1 hz2 rfl (by decide) _ _ _ rfl HO6.out _ _ _ rfl [.int .i64 x.o, .int .i64 x.l, .int .i64 x.s] _ w3 rfl (sl_fresh _ [.int .i64 x.o, .int .i64 x.l, .int .i64 x.s] 102) (fun h => by cases h) (ac_three _ _ _) ?c1 ?c2 ?c3 HB6.out ?_)
          case c1 => unfold maxLen; omega
          case c2 => omega
          case c3 => simp; omega
          intro a7 c7 w7 own7 b7
          clear e2 e3 e4
          go_wp2_with fail
          go_roundw
          case rel => exact ⟨k + 1, a7, c7, n3 + 1, by omega, by omega, by go_num, rfl, Lib.hid (by rw [htk.out, HXe.out, HKy.out, List.length_append, ← HL.out]; rfl), by rw [htk.out, HXe.out, HKy.out, acCells_snoc]; exact own7, b7⟩
          case measure => simp [intOf]; omega
      · have hlt2 : ¬ (k : Int) < (N : Int) := by omega
        have htk : l.take k = l := List.take_of_length_le (by rw [HNe.out]; omega)
        go_wp2_with fail
        go_ret2
        rw [HL.out, htk] at hown
        exact ⟨a3, c3, by rw [HL.out, htk, HD.out]; rfl, by rw [HD.out]; exact ownN_sl hown, gtrans b3 hb⟩
  · have HV := Lib.hid (rright_walk t m l N a c B now _ false hN (.inr ⟨hR, rfl⟩) h1 hB1)
    clear hR hN h
    go_enter Try.func43, Try.ntmps43
    go_wp2_with fail
    refine HV.out.mono ?_
    rintro e w3 ⟨rfl, g3⟩
    go_wp2_with fail
    go_ret2
    exact ⟨none, 0, rfl, .inl rfl, gtrans hal g3⟩
end Go.Proofs.Ytbhbilmpkgcmeaa

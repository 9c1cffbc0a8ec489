/- The walk of headgatelaw24.does (written by gen/mldoes.py). -/
import Derived.Test.YtkechaniaidieaaMlFew
namespace Go.Proofs.Ytkechaniaidieaa
open Go.RowKit Vm
set_option linter.unusedVariables false
set_option linter.unusedSimpArgs false

/-- What a deed does. -/
def DoesIs (s : Int) (L : List Pk) (x : De) (y : Pk) (ok : Bool) (s' : Int) (L' : List Pk) : Prop :=
  ((x.k = 0 ∨ x.k = 1 ∨ x.k = 2) ∧ ∃ E, SendIs s L x.d x.f x.T E s' L' ∧ y = pk0 ∧ ok = false) ∨
  ((x.k = 3 ∨ x.k = 4) ∧ ∃ E, TakeIs L x.n y E L' ∧ s' = s ∧ ok = (E == 0)) ∨
  ((x.k ≠ 0 ∧ x.k ≠ 1 ∧ x.k ≠ 2 ∧ x.k ≠ 3 ∧ x.k ≠ 4) ∧ ∃ E, TwiceIs s L x.n E s' L' ∧ y = pk0 ∧ ok = false)
theorem doesIs_ex (s : Int) (L : List Pk) (x : De) : ∃ y ok s' L', DoesIs s L x y ok s' L' := by
  by_cases h1 : x.k = 0 ∨ x.k = 1 ∨ x.k = 2
  · obtain ⟨E, s', L', h⟩ := sendIs_ex s L x.d x.f x.T
    exact ⟨pk0, false, s', L', .inl ⟨h1, E, h, rfl, rfl⟩⟩
  · by_cases h2 : x.k = 3 ∨ x.k = 4
    · obtain ⟨y, E, L', h⟩ := takeIs_ex L x.n
      exact ⟨y, E == 0, s, L', .inr (.inl ⟨h2, E, h, rfl, rfl⟩)⟩
    · obtain ⟨E, s', L', h⟩ := twiceIs_ex s L x.n
      exact ⟨pk0, false, s', L', .inr (.inr ⟨by omega, E, h, rfl, rfl⟩)⟩
def DPost (w : World) (g : Nat) (a : Option Addr) (y : Pk) (ok : Bool) (s' : Int) (L' : List Pk) (e : Ending) (w' : World) : Prop :=
  e = .returned (.tuple #[pkV y, .bool ok]) ∧ ∃ a' c', MA w' g s' L' a' c' ∧ Mv w w' g a ∧ Ab w a a' ∧ Below g w w'
theorem res_does (tmps : Array Value) (r : Nat) (c0 c1 c2 c3 v : Value) (w : World) (h4 : tmps.getD 4 undef = .pointer (some ⟨r, 0, none⟩)) (h5 : tmps.getD 5 undef = v) (r0 : w.cell? ⟨r, 0, none⟩ = some c0) (r1 : w.cell? ⟨r, 1, none⟩ = some c1) (r2 : w.cell? ⟨r, 2, none⟩ = some c2) (r3 : w.cell? ⟨r, 3, none⟩ = some c3) :
    (results Try.f20 tmps).run Try.prog w = .ok (.tuple #[.agg #[c0, c1, c2, c3], v]) w := by
  rw [results_cell_tmp rfl, h4, h5]
  go_simp
/-- Behind four stores into a box that lies behind the mail. -/
theorem does_fin {w w5 w6 : World} {g r : Nat} {s' : Int} {L' : List Pk} {a a5 : Option Addr} {c5 : Nat} (hgr : g < r) (har : ∀ y, a5 = some y → y.block ≠ r) (hrw : w.heap.size ≤ r) (M5 : MA w5 g s' L' a5 c5) (mv : Mv w w5 g a) (ab : Ab w a a5) (b5 : Below g w w5)
    (b6 : Below r w5 w6) (hk6 : ∀ k, k ≠ r → w6.heap[k]? = w5.heap[k]?) : ∃ a' c', MA w6 g s' L' a' c' ∧ Mv w w6 g a ∧ Ab w a a' ∧ Below g w w6 := by
  have hsz := b6.size
  refine ⟨a5, c5, ⟨(hk6 g (by omega)).trans M5.1, ownN_ne M5.2 (fun q hq => hk6 q ?_)⟩, ⟨Nat.le_trans mv.1 hsz, fun k hk h1 h2 => by rw [hk6 k (by omega)]; exact mv.2 k hk h1 h2⟩, ab, b5.trans (b6.mono (by omega))⟩
  rcases M5.2.2 with ⟨h1, _⟩ | ⟨g', cap, cur, h1, _⟩
  · rw [h1] at hq; cases hq
  · injection h1 with h1 _ _
    subst h1
    injection hq with hq
    have := har _ rfl
    simp only at this
    have hq2 : g' = q := hq
    omega
set_option maxRecDepth 100000 in
set_option maxHeartbeats 8000000 in
theorem does_send0 (g : Nat) (s : Int) (L : List Pk) (a : Option Addr) (c : Nat) (x : De) (w : World) (E s' : Int) (L' : List Pk) (hS : SendIs s L x.d x.f x.T E s' L') (hs : 0 ≤ s ∧ s ≤ 100000000) (hL : L.length ≤ 256) (hT : x.T.length ≤ 300) (h : MA w g s L a c) (ht : Sl w w.heap.size x.a (stCells x.T)) (hap : 0 < x.T.length → Apart x.a g a) :
    Calls Try.prog 20 #[.pointer (some ⟨g, 0, none⟩), .agg #[.int .i64 0, .int .i64 x.n, .int .i64 x.d, .int .i64 x.f, .slice x.a x.T.length x.c]] w (DPost w g a pk0 false s' L') := by
  have hal1 := balloc w (.cells #[.int .i64 0, .int .i64 x.n, .int .i64 x.d, .int .i64 x.f, .slice x.a x.T.length x.c] 32)
  have X1 := Whole.new w 32 #[.int .i64 0, .int .i64 x.n, .int .i64 x.d, .int .i64 x.f, .slice x.a x.T.length x.c]
  have hal2 := balloc (w.alloc (.cells #[.int .i64 0, .int .i64 x.n, .int .i64 x.d, .int .i64 x.f, .slice x.a x.T.length x.c] 32)) (.cells #[.int .i64 0, .int .i64 0, .int .i64 0, .string { data := #[] }] 37)
  have R2 := Whole.new (w.alloc (.cells #[.int .i64 0, .int .i64 x.n, .int .i64 x.d, .int .i64 x.f, .slice x.a x.T.length x.c] 32)) 37 #[.int .i64 0, .int .i64 0, .int .i64 0, .string { data := #[] }]
  have X2 := X1.keep hal2
  have hal := gtrans hal1 hal2
  have hz1 : (w.alloc (.cells #[.int .i64 0, .int .i64 x.n, .int .i64 x.d, .int .i64 x.f, .slice x.a x.T.length x.c] 32)).heap.size = w.heap.size + 1 := by simp
  rw [hz1] at R2
  have hgw := h.1.lt
  have hrl := h.rowlt
  go_enter Try.func20, Try.ntmps20
  go_upto_region 1 with fail
  obtain ⟨w2, hw2⟩ : ∃ w2, w2 = (w.alloc (.cells #[.int .i64 0, .int .i64 x.n, .int .i64 x.d, .int .i64 x.f, .slice x.a x.T.length x.c] 32)).alloc (.cells #[.int .i64 0, .int .i64 0, .int .i64 0, .string { data := #[] }] 37) := ⟨_, rfl⟩
  rw [← hw2] at X2 R2 hal ⊢
  clear hw2 hal1 hal2 X1 hz1
  have M2 := h.keep hal
  have T2 := (ht.below hal (Nat.le_refl _)).grow hal.size
  have hz2 := hal.size
  have x0 := X2.cell 0
  have x1 := X2.cell 1
  have x2 := X2.cell 2
  have x3 := X2.cell 3
  have x4 := X2.cell 4
  have hxl := X2.lt
  simp only [List.getElem?_toArray, List.getElem?_cons_zero, List.getElem?_cons_succ] at x0 x1 x2 x3 x4
  have HR2 := Lib.hid R2
  have S := Lib.hid (msend_walk s L x.d x.f x.T x.T.length x.a x.c g a c w2 E s' L' rfl (by omega) (by omega) hL hS M2 T2 hap)
  unfold MPost at S
  clear hS h ht M2 T2 R2
  go_wp2_with fail
  refine S.out.mono ?_
  rintro e w5 ⟨rfl, a5, c5, M5, mv5, ab5, b5⟩
  have har : ∀ y, a5 = some y → y.block ≠ w.heap.size + 1 := fun y hy => by
    rcases ab5 y hy with ⟨z, hz, h1⟩ | h1
    · have := hrl z hz; omega
    · have := HR2.out.lt; omega
  have R5 : Whole w5 (w.heap.size + 1) 37 #[.int .i64 0, .int .i64 0, .int .i64 0, .string { data := #[] }] := (mv5.2 _ HR2.out.lt (by omega) (fun z hz => by have := hrl z hz; omega)).trans HR2.out
  have mvA := (Mv.below hal).trans mv5 (Ab.refl _ _)
  have abA : Ab w a a5 := fun x' hx' => by
    rcases ab5 x' hx' with h | h
    · exact .inl h
    · exact .inr (Nat.le_trans hal.size h)
  have bA := (hal.mono (Nat.le_of_lt hgw)).trans b5
  clear x0 x1 x2 x3 x4 mv5 ab5 b5 hal
  obtain ⟨⟨r0, r1, r2, r3⟩, ⟨f0, f1, f2, f3⟩, hrl5⟩ := R5.four
  obtain ⟨R6, b6, hk6⟩ := st4 R5 (.int .i64 0) (.int .i64 0) (.int .i64 0) (.string { data := #[] })
  obtain ⟨⟨q0, q1, q2, q3⟩, _, _⟩ := R6.four
  have HK := Lib.hid hk6
  have HB6 := Lib.hid b6
  clear hk6 b6
  go_wp2_with fail
  refine bodyPost_ret (res_does _ _ _ _ _ _ _ _ rfl rfl q0 q1 q2 q3) rfl ?_
  exact ⟨rfl, does_fin (by omega) har (by omega) M5 mvA abA bA HB6.out HK.out⟩
set_option maxRecDepth 100000 in
set_option maxHeartbeats 8000000 in
theorem does_send1 (g : Nat) (s : Int) (L : List Pk) (a : Option Addr) (c : Nat) (x : De) (w : World) (E s' : Int) (L' : List Pk) (hS : SendIs s L x.d x.f x.T E s' L') (hs : 0 ≤ s ∧ s ≤ 100000000) (hL : L.length ≤ 256) (hT : x.T.length ≤ 300) (h : MA w g s L a c) (ht : Sl w w.heap.size x.a (stCells x.T)) (hap : 0 < x.T.length → Apart x.a g a) :
    Calls Try.prog 20 #[.pointer (some ⟨g, 0, none⟩), .agg #[.int .i64 1, .int .i64 x.n, .int .i64 x.d, .int .i64 x.f, .slice x.a x.T.length x.c]] w (DPost w g a pk0 false s' L') := by
  have hal1 := balloc w (.cells #[.int .i64 1, .int .i64 x.n, .int .i64 x.d, .int .i64 x.f, .slice x.a x.T.length x.c] 32)
  have X1 := Whole.new w 32 #[.int .i64 1, .int .i64 x.n, .int .i64 x.d, .int .i64 x.f, .slice x.a x.T.length x.c]
  have hal2 := balloc (w.alloc (.cells #[.int .i64 1, .int .i64 x.n, .int .i64 x.d, .int .i64 x.f, .slice x.a x.T.length x.c] 32)) (.cells #[.int .i64 0, .int .i64 0, .int .i64 0, .string { data := #[] }] 37)
  have R2 := Whole.new (w.alloc (.cells #[.int .i64 1, .int .i64 x.n, .int .i64 x.d, .int .i64 x.f, .slice x.a x.T.length x.c] 32)) 37 #[.int .i64 0, .int .i64 0, .int .i64 0, .string { data := #[] }]
  have X2 := X1.keep hal2
  have hal := gtrans hal1 hal2
  have hz1 : (w.alloc (.cells #[.int .i64 1, .int .i64 x.n, .int .i64 x.d, .int .i64 x.f, .slice x.a x.T.length x.c] 32)).heap.size = w.heap.size + 1 := by simp
  rw [hz1] at R2
  have hgw := h.1.lt
  have hrl := h.rowlt
  go_enter Try.func20, Try.ntmps20
  go_upto_region 1 with fail
  obtain ⟨w2, hw2⟩ : ∃ w2, w2 = (w.alloc (.cells #[.int .i64 1, .int .i64 x.n, .int .i64 x.d, .int .i64 x.f, .slice x.a x.T.length x.c] 32)).alloc (.cells #[.int .i64 0, .int .i64 0, .int .i64 0, .string { data := #[] }] 37) := ⟨_, rfl⟩
  rw [← hw2] at X2 R2 hal ⊢
  clear hw2 hal1 hal2 X1 hz1
  have M2 := h.keep hal
  have T2 := (ht.below hal (Nat.le_refl _)).grow hal.size
  have hz2 := hal.size
  have x0 := X2.cell 0
  have x1 := X2.cell 1
  have x2 := X2.cell 2
  have x3 := X2.cell 3
  have x4 := X2.cell 4
  have hxl := X2.lt
  simp only [List.getElem?_toArray, List.getElem?_cons_zero, List.getElem?_cons_succ] at x0 x1 x2 x3 x4
  have HR2 := Lib.hid R2
  have S := Lib.hid (msend_walk s L x.d x.f x.T x.T.length x.a x.c g a c w2 E s' L' rfl (by omega) (by omega) hL hS M2 T2 hap)
  unfold MPost at S
  clear hS h ht M2 T2 R2
  go_wp2_with fail
  refine S.out.mono ?_
  rintro e w5 ⟨rfl, a5, c5, M5, mv5, ab5, b5⟩
  have har : ∀ y, a5 = some y → y.block ≠ w.heap.size + 1 := fun y hy => by
    rcases ab5 y hy with ⟨z, hz, h1⟩ | h1
    · have := hrl z hz; omega
    · have := HR2.out.lt; omega
  have R5 : Whole w5 (w.heap.size + 1) 37 #[.int .i64 0, .int .i64 0, .int .i64 0, .string { data := #[] }] := (mv5.2 _ HR2.out.lt (by omega) (fun z hz => by have := hrl z hz; omega)).trans HR2.out
  have mvA := (Mv.below hal).trans mv5 (Ab.refl _ _)
  have abA : Ab w a a5 := fun x' hx' => by
    rcases ab5 x' hx' with h | h
    · exact .inl h
    · exact .inr (Nat.le_trans hal.size h)
  have bA := (hal.mono (Nat.le_of_lt hgw)).trans b5
  clear x0 x1 x2 x3 x4 mv5 ab5 b5 hal
  obtain ⟨⟨r0, r1, r2, r3⟩, ⟨f0, f1, f2, f3⟩, hrl5⟩ := R5.four
  obtain ⟨R6, b6, hk6⟩ := st4 R5 (.int .i64 0) (.int .i64 0) (.int .i64 0) (.string { data := #[] })
  obtain ⟨⟨q0, q1, q2, q3⟩, _, _⟩ := R6.four
  have HK := Lib.hid hk6
  have HB6 := Lib.hid b6
  clear hk6 b6
  go_wp2_with fail
  refine bodyPost_ret (res_does _ _ _ _ _ _ _ _ rfl rfl q0 q1 q2 q3) rfl ?_
  exact ⟨rfl, does_fin (by omega) har (by omega) M5 mvA abA bA HB6.out HK.out⟩
set_option maxRecDepth 100000 in
set_option maxHeartbeats 8000000 in
theorem does_send2 (g : Nat) (s : Int) (L : List Pk) (a : Option Addr) (c : Nat) (x : De) (w : World) (E s' : Int) (L' : List Pk) (hS : SendIs s L x.d x.f x.T E s' L') (hs : 0 ≤ s ∧ s ≤ 100000000) (hL : L.length ≤ 256) (hT : x.T.length ≤ 300) (h : MA w g s L a c) (ht : Sl w w.heap.size x.a (stCells x.T)) (hap : 0 < x.T.length → Apart x.a g a) :
    Calls Try.prog 20 #[.pointer (some ⟨g, 0, none⟩), .agg #[.int .i64 2, .int .i64 x.n, .int .i64 x.d, .int .i64 x.f, .slice x.a x.T.length x.c]] w (DPost w g a pk0 false s' L') := by
  have hal1 := balloc w (.cells #[.int .i64 2, .int .i64 x.n, .int .i64 x.d, .int .i64 x.f, .slice x.a x.T.length x.c] 32)
  have X1 := Whole.new w 32 #[.int .i64 2, .int .i64 x.n, .int .i64 x.d, .int .i64 x.f, .slice x.a x.T.length x.c]
  have hal2 := balloc (w.alloc (.cells #[.int .i64 2, .int .i64 x.n, .int .i64 x.d, .int .i64 x.f, .slice x.a x.T.length x.c] 32)) (.cells #[.int .i64 0, .int .i64 0, .int .i64 0, .string { data := #[] }] 37)
  have R2 := Whole.new (w.alloc (.cells #[.int .i64 2, .int .i64 x.n, .int .i64 x.d, .int .i64 x.f, .slice x.a x.T.length x.c] 32)) 37 #[.int .i64 0, .int .i64 0, .int .i64 0, .string { data := #[] }]
  have X2 := X1.keep hal2
  have hal := gtrans hal1 hal2
  have hz1 : (w.alloc (.cells #[.int .i64 2, .int .i64 x.n, .int .i64 x.d, .int .i64 x.f, .slice x.a x.T.length x.c] 32)).heap.size = w.heap.size + 1 := by simp
  rw [hz1] at R2
  have hgw := h.1.lt
  have hrl := h.rowlt
  go_enter Try.func20, Try.ntmps20
  go_upto_region 1 with fail
  obtain ⟨w2, hw2⟩ : ∃ w2, w2 = (w.alloc (.cells #[.int .i64 2, .int .i64 x.n, .int .i64 x.d, .int .i64 x.f, .slice x.a x.T.length x.c] 32)).alloc (.cells #[.int .i64 0, .int .i64 0, .int .i64 0, .string { data := #[] }] 37) := ⟨_, rfl⟩
  rw [← hw2] at X2 R2 hal ⊢
  clear hw2 hal1 hal2 X1 hz1
  have M2 := h.keep hal
  have T2 := (ht.below hal (Nat.le_refl _)).grow hal.size
  have hz2 := hal.size
  have x0 := X2.cell 0
  have x1 := X2.cell 1
  have x2 := X2.cell 2
  have x3 := X2.cell 3
  have x4 := X2.cell 4
  have hxl := X2.lt
  simp only [List.getElem?_toArray, List.getElem?_cons_zero, List.getElem?_cons_succ] at x0 x1 x2 x3 x4
  have HR2 := Lib.hid R2
  have S := Lib.hid (msend_walk s L x.d x.f x.T x.T.length x.a x.c g a c w2 E s' L' rfl (by omega) (by omega) hL hS M2 T2 hap)
  unfold MPost at S
  clear hS h ht M2 T2 R2
  go_wp2_with fail
  refine S.out.mono ?_
  rintro e w5 ⟨rfl, a5, c5, M5, mv5, ab5, b5⟩
  have har : ∀ y, a5 = some y → y.block ≠ w.heap.size + 1 := fun y hy => by
    rcases ab5 y hy with ⟨z, hz, h1⟩ | h1
    · have := hrl z hz; omega
    · have := HR2.out.lt; omega
  have R5 : Whole w5 (w.heap.size + 1) 37 #[.int .i64 0, .int .i64 0, .int .i64 0, .string { data := #[] }] := (mv5.2 _ HR2.out.lt (by omega) (fun z hz => by have := hrl z hz; omega)).trans HR2.out
  have mvA := (Mv.below hal).trans mv5 (Ab.refl _ _)
  have abA : Ab w a a5 := fun x' hx' => by
    rcases ab5 x' hx' with h | h
    · exact .inl h
    · exact .inr (Nat.le_trans hal.size h)
  have bA := (hal.mono (Nat.le_of_lt hgw)).trans b5
  clear x0 x1 x2 x3 x4 mv5 ab5 b5 hal
  obtain ⟨⟨r0, r1, r2, r3⟩, ⟨f0, f1, f2, f3⟩, hrl5⟩ := R5.four
  obtain ⟨R6, b6, hk6⟩ := st4 R5 (.int .i64 0) (.int .i64 0) (.int .i64 0) (.string { data := #[] })
  obtain ⟨⟨q0, q1, q2, q3⟩, _, _⟩ := R6.four
  have HK := Lib.hid hk6
  have HB6 := Lib.hid b6
  clear hk6 b6
  go_wp2_with fail
  refine bodyPost_ret (res_does _ _ _ _ _ _ _ _ rfl rfl q0 q1 q2 q3) rfl ?_
  exact ⟨rfl, does_fin (by omega) har (by omega) M5 mvA abA bA HB6.out HK.out⟩
set_option maxRecDepth 100000 in
set_option maxHeartbeats 8000000 in
theorem does_take3 (g : Nat) (s : Int) (L : List Pk) (a : Option Addr) (c : Nat) (x : De) (w : World) (y : Pk) (E : Int) (ok : Bool) (L' : List Pk) (hS : TakeIs L x.n y E L') (hok : (E == 0) = ok) (hs : 0 ≤ s ∧ s ≤ 100000000) (hL : L.length ≤ 256) (hT : x.T.length ≤ 300) (h : MA w g s L a c) (ht : Sl w w.heap.size x.a (stCells x.T)) (hap : 0 < x.T.length → Apart x.a g a) :
    Calls Try.prog 20 #[.pointer (some ⟨g, 0, none⟩), .agg #[.int .i64 3, .int .i64 x.n, .int .i64 x.d, .int .i64 x.f, .slice x.a x.T.length x.c]] w (DPost w g a y ok s L') := by
  have hal1 := balloc w (.cells #[.int .i64 3, .int .i64 x.n, .int .i64 x.d, .int .i64 x.f, .slice x.a x.T.length x.c] 32)
  have X1 := Whole.new w 32 #[.int .i64 3, .int .i64 x.n, .int .i64 x.d, .int .i64 x.f, .slice x.a x.T.length x.c]
  have hal2 := balloc (w.alloc (.cells #[.int .i64 3, .int .i64 x.n, .int .i64 x.d, .int .i64 x.f, .slice x.a x.T.length x.c] 32)) (.cells #[.int .i64 0, .int .i64 0, .int .i64 0, .string { data := #[] }] 37)
  have R2 := Whole.new (w.alloc (.cells #[.int .i64 3, .int .i64 x.n, .int .i64 x.d, .int .i64 x.f, .slice x.a x.T.length x.c] 32)) 37 #[.int .i64 0, .int .i64 0, .int .i64 0, .string { data := #[] }]
  have X2 := X1.keep hal2
  have hal := gtrans hal1 hal2
  have hz1 : (w.alloc (.cells #[.int .i64 3, .int .i64 x.n, .int .i64 x.d, .int .i64 x.f, .slice x.a x.T.length x.c] 32)).heap.size = w.heap.size + 1 := by simp
  rw [hz1] at R2
  have hgw := h.1.lt
  have hrl := h.rowlt
  go_enter Try.func20, Try.ntmps20
  go_upto_region 1 with fail
  obtain ⟨w2, hw2⟩ : ∃ w2, w2 = (w.alloc (.cells #[.int .i64 3, .int .i64 x.n, .int .i64 x.d, .int .i64 x.f, .slice x.a x.T.length x.c] 32)).alloc (.cells #[.int .i64 0, .int .i64 0, .int .i64 0, .string { data := #[] }] 37) := ⟨_, rfl⟩
  rw [← hw2] at X2 R2 hal ⊢
  clear hw2 hal1 hal2 X1 hz1
  have M2 := h.keep hal
  have T2 := (ht.below hal (Nat.le_refl _)).grow hal.size
  have hz2 := hal.size
  have x0 := X2.cell 0
  have x1 := X2.cell 1
  have x2 := X2.cell 2
  have x3 := X2.cell 3
  have x4 := X2.cell 4
  have hxl := X2.lt
  simp only [List.getElem?_toArray, List.getElem?_cons_zero, List.getElem?_cons_succ] at x0 x1 x2 x3 x4
  have HR2 := Lib.hid R2
  have S := Lib.hid (mtake_walk g s L a c x.n w2 y E L' hS hL M2)
  unfold TPost at S
  clear hS h ht M2 T2 R2
  go_wp2_with fail
  refine S.out.mono ?_
  rintro e w5 ⟨rfl, a5, c5, M5, mv5, ab5, b5⟩
  unfold pkV
  have har : ∀ y, a5 = some y → y.block ≠ w.heap.size + 1 := fun y hy => by
    rcases ab5 y hy with ⟨z, hz, h1⟩ | h1
    · have := hrl z hz; omega
    · have := HR2.out.lt; omega
  have R5 : Whole w5 (w.heap.size + 1) 37 #[.int .i64 0, .int .i64 0, .int .i64 0, .string { data := #[] }] := (mv5.2 _ HR2.out.lt (by omega) (fun z hz => by have := hrl z hz; omega)).trans HR2.out
  have mvA := (Mv.below hal).trans mv5 (Ab.refl _ _)
  have abA : Ab w a a5 := fun x' hx' => by
    rcases ab5 x' hx' with h | h
    · exact .inl h
    · exact .inr (Nat.le_trans hal.size h)
  have bA := (hal.mono (Nat.le_of_lt hgw)).trans b5
  have hax := balloc w5 (.cells #[.int .i64 y.n, .int .i64 y.d, .int .i64 y.f, .string (str y.x)] 37)
  have P7 := Whole.new w5 37 #[.int .i64 y.n, .int .i64 y.d, .int .i64 y.f, .string (str y.x)]
  have M7 := M5.keep hax
  have R7 := R5.keep hax
  have mvB := mvA.trans (Mv.below (a := a5) hax) abA
  have bB := bA.trans (hax.mono (Nat.le_of_lt M5.1.lt))
  clear x0 x1 x2 x3 x4 mv5 ab5 b5 hal
  go_upto_region 10 with fail
  obtain ⟨w7, hw7⟩ : ∃ w7, w7 = w5.alloc (.cells #[.int .i64 y.n, .int .i64 y.d, .int .i64 y.f, .string (str y.x)] 37) := ⟨_, rfl⟩
  rw [← hw7] at P7 M7 R7 mvB bB ⊢
  clear hw7 hax
  obtain ⟨⟨p0, p1, p2, p3⟩, _, hpl⟩ := P7.four
  obtain ⟨⟨r0, r1, r2, r3⟩, ⟨f0, f1, f2, f3⟩, hrl5⟩ := R7.four
  obtain ⟨R6, b6, hk6⟩ := st4 R7 (.int .i64 y.n) (.int .i64 y.d) (.int .i64 y.f) (.string (str y.x))
  obtain ⟨⟨q0, q1, q2, q3⟩, _, _⟩ := R6.four
  have HK := Lib.hid hk6
  have HB6 := Lib.hid b6
  clear hk6 b6
  go_wp2_with fail
  refine bodyPost_ret (res_does _ _ _ _ _ _ _ _ rfl rfl q0 q1 q2 q3) rfl ?_
  exact ⟨by rw [← hok]; rfl, does_fin (by omega) har (by omega) M7 mvB abA bB HB6.out HK.out⟩
set_option maxRecDepth 100000 in
set_option maxHeartbeats 8000000 in
theorem does_take4 (g : Nat) (s : Int) (L : List Pk) (a : Option Addr) (c : Nat) (x : De) (w : World) (y : Pk) (E : Int) (ok : Bool) (L' : List Pk) (hS : TakeIs L x.n y E L') (hok : (E == 0) = ok) (hs : 0 ≤ s ∧ s ≤ 100000000) (hL : L.length ≤ 256) (hT : x.T.length ≤ 300) (h : MA w g s L a c) (ht : Sl w w.heap.size x.a (stCells x.T)) (hap : 0 < x.T.length → Apart x.a g a) :
    Calls Try.prog 20 #[.pointer (some ⟨g, 0, none⟩), .agg #[.int .i64 4, .int .i64 x.n, .int .i64 x.d, .int .i64 x.f, .slice x.a x.T.length x.c]] w (DPost w g a y ok s L') := by
  have hal1 := balloc w (.cells #[.int .i64 4, .int .i64 x.n, .int .i64 x.d, .int .i64 x.f, .slice x.a x.T.length x.c] 32)
  have X1 := Whole.new w 32 #[.int .i64 4, .int .i64 x.n, .int .i64 x.d, .int .i64 x.f, .slice x.a x.T.length x.c]
  have hal2 := balloc (w.alloc (.cells #[.int .i64 4, .int .i64 x.n, .int .i64 x.d, .int .i64 x.f, .slice x.a x.T.length x.c] 32)) (.cells #[.int .i64 0, .int .i64 0, .int .i64 0, .string { data := #[] }] 37)
  have R2 := Whole.new (w.alloc (.cells #[.int .i64 4, .int .i64 x.n, .int .i64 x.d, .int .i64 x.f, .slice x.a x.T.length x.c] 32)) 37 #[.int .i64 0, .int .i64 0, .int .i64 0, .string { data := #[] }]
  have X2 := X1.keep hal2
  have hal := gtrans hal1 hal2
  have hz1 : (w.alloc (.cells #[.int .i64 4, .int .i64 x.n, .int .i64 x.d, .int .i64 x.f, .slice x.a x.T.length x.c] 32)).heap.size = w.heap.size + 1 := by simp
  rw [hz1] at R2
  have hgw := h.1.lt
  have hrl := h.rowlt
  go_enter Try.func20, Try.ntmps20
  go_upto_region 1 with fail
  obtain ⟨w2, hw2⟩ : ∃ w2, w2 = (w.alloc (.cells #[.int .i64 4, .int .i64 x.n, .int .i64 x.d, .int .i64 x.f, .slice x.a x.T.length x.c] 32)).alloc (.cells #[.int .i64 0, .int .i64 0, .int .i64 0, .string { data := #[] }] 37) := ⟨_, rfl⟩
  rw [← hw2] at X2 R2 hal ⊢
  clear hw2 hal1 hal2 X1 hz1
  have M2 := h.keep hal
  have T2 := (ht.below hal (Nat.le_refl _)).grow hal.size
  have hz2 := hal.size
  have x0 := X2.cell 0
  have x1 := X2.cell 1
  have x2 := X2.cell 2
  have x3 := X2.cell 3
  have x4 := X2.cell 4
  have hxl := X2.lt
  simp only [List.getElem?_toArray, List.getElem?_cons_zero, List.getElem?_cons_succ] at x0 x1 x2 x3 x4
  have HR2 := Lib.hid R2
  have S := Lib.hid (mtake_walk g s L a c x.n w2 y E L' hS hL M2)
  unfold TPost at S
  clear hS h ht M2 T2 R2
  go_wp2_with fail
  refine S.out.mono ?_
  rintro e w5 ⟨rfl, a5, c5, M5, mv5, ab5, b5⟩
  unfold pkV
  have har : ∀ y, a5 = some y → y.block ≠ w.heap.size + 1 := fun y hy => by
    rcases ab5 y hy with ⟨z, hz, h1⟩ | h1
    · have := hrl z hz; omega
    · have := HR2.out.lt; omega
  have R5 : Whole w5 (w.heap.size + 1) 37 #[.int .i64 0, .int .i64 0, .int .i64 0, .string { data := #[] }] := (mv5.2 _ HR2.out.lt (by omega) (fun z hz => by have := hrl z hz; omega)).trans HR2.out
  have mvA := (Mv.below hal).trans mv5 (Ab.refl _ _)
  have abA : Ab w a a5 := fun x' hx' => by
    rcases ab5 x' hx' with h | h
    · exact .inl h
    · exact .inr (Nat.le_trans hal.size h)
  have bA := (hal.mono (Nat.le_of_lt hgw)).trans b5
  have hax := balloc w5 (.cells #[.int .i64 y.n, .int .i64 y.d, .int .i64 y.f, .string (str y.x)] 37)
  have P7 := Whole.new w5 37 #[.int .i64 y.n, .int .i64 y.d, .int .i64 y.f, .string (str y.x)]
  have M7 := M5.keep hax
  have R7 := R5.keep hax
  have mvB := mvA.trans (Mv.below (a := a5) hax) abA
  have bB := bA.trans (hax.mono (Nat.le_of_lt M5.1.lt))
  clear x0 x1 x2 x3 x4 mv5 ab5 b5 hal
  go_upto_region 10 with fail
  obtain ⟨w7, hw7⟩ : ∃ w7, w7 = w5.alloc (.cells #[.int .i64 y.n, .int .i64 y.d, .int .i64 y.f, .string (str y.x)] 37) := ⟨_, rfl⟩
  rw [← hw7] at P7 M7 R7 mvB bB ⊢
  clear hw7 hax
  obtain ⟨⟨p0, p1, p2, p3⟩, _, hpl⟩ := P7.four
  obtain ⟨⟨r0, r1, r2, r3⟩, ⟨f0, f1, f2, f3⟩, hrl5⟩ := R7.four
  obtain ⟨R6, b6, hk6⟩ := st4 R7 (.int .i64 y.n) (.int .i64 y.d) (.int .i64 y.f) (.string (str y.x))
  obtain ⟨⟨q0, q1, q2, q3⟩, _, _⟩ := R6.four
  have HK := Lib.hid hk6
  have HB6 := Lib.hid b6
  clear hk6 b6
  go_wp2_with fail
  refine bodyPost_ret (res_does _ _ _ _ _ _ _ _ rfl rfl q0 q1 q2 q3) rfl ?_
  exact ⟨by rw [← hok]; rfl, does_fin (by omega) har (by omega) M7 mvB abA bB HB6.out HK.out⟩
set_option maxRecDepth 100000 in
set_option maxHeartbeats 8000000 in
theorem does_twice (g : Nat) (s : Int) (L : List Pk) (a : Option Addr) (c : Nat) (x : De) (w : World) (E s' : Int) (L' : List Pk) (k0 : (x.k == 0) = false) (k1 : (x.k == 1) = false) (k2 : (x.k == 2) = false) (k3 : (x.k == 3) = false) (k4 : (x.k == 4) = false) (hS : TwiceIs s L x.n E s' L') (hs : 0 ≤ s ∧ s ≤ 100000000) (hL : L.length ≤ 256) (hT : x.T.length ≤ 300) (h : MA w g s L a c) (ht : Sl w w.heap.size x.a (stCells x.T)) (hap : 0 < x.T.length → Apart x.a g a) :
    Calls Try.prog 20 #[.pointer (some ⟨g, 0, none⟩), .agg #[.int .i64 x.k, .int .i64 x.n, .int .i64 x.d, .int .i64 x.f, .slice x.a x.T.length x.c]] w (DPost w g a pk0 false s' L') := by
  have hal1 := balloc w (.cells #[.int .i64 x.k, .int .i64 x.n, .int .i64 x.d, .int .i64 x.f, .slice x.a x.T.length x.c] 32)
  have X1 := Whole.new w 32 #[.int .i64 x.k, .int .i64 x.n, .int .i64 x.d, .int .i64 x.f, .slice x.a x.T.length x.c]
  have hal2 := balloc (w.alloc (.cells #[.int .i64 x.k, .int .i64 x.n, .int .i64 x.d, .int .i64 x.f, .slice x.a x.T.length x.c] 32)) (.cells #[.int .i64 0, .int .i64 0, .int .i64 0, .string { data := #[] }] 37)
  have R2 := Whole.new (w.alloc (.cells #[.int .i64 x.k, .int .i64 x.n, .int .i64 x.d, .int .i64 x.f, .slice x.a x.T.length x.c] 32)) 37 #[.int .i64 0, .int .i64 0, .int .i64 0, .string { data := #[] }]
  have X2 := X1.keep hal2
  have hal := gtrans hal1 hal2
  have hz1 : (w.alloc (.cells #[.int .i64 x.k, .int .i64 x.n, .int .i64 x.d, .int .i64 x.f, .slice x.a x.T.length x.c] 32)).heap.size = w.heap.size + 1 := by simp
  rw [hz1] at R2
  have hgw := h.1.lt
  have hrl := h.rowlt
  go_enter Try.func20, Try.ntmps20
  go_upto_region 1 with fail
  obtain ⟨w2, hw2⟩ : ∃ w2, w2 = (w.alloc (.cells #[.int .i64 x.k, .int .i64 x.n, .int .i64 x.d, .int .i64 x.f, .slice x.a x.T.length x.c] 32)).alloc (.cells #[.int .i64 0, .int .i64 0, .int .i64 0, .string { data := #[] }] 37) := ⟨_, rfl⟩
  rw [← hw2] at X2 R2 hal ⊢
  clear hw2 hal1 hal2 X1 hz1
  have M2 := h.keep hal
  have T2 := (ht.below hal (Nat.le_refl _)).grow hal.size
  have hz2 := hal.size
  have x0 := X2.cell 0
  have x1 := X2.cell 1
  have x2 := X2.cell 2
  have x3 := X2.cell 3
  have x4 := X2.cell 4
  have hxl := X2.lt
  simp only [List.getElem?_toArray, List.getElem?_cons_zero, List.getElem?_cons_succ] at x0 x1 x2 x3 x4
  have HR2 := Lib.hid R2
  have S := Lib.hid (mtwice_walk g s L a c x.n w2 E s' L' hS (by omega) hL M2)
  unfold MPost at S
  clear hS h ht M2 T2 R2
  go_wp2_with fail
  refine S.out.mono ?_
  rintro e w5 ⟨rfl, a5, c5, M5, mv5, ab5, b5⟩
  have har : ∀ y, a5 = some y → y.block ≠ w.heap.size + 1 := fun y hy => by
    rcases ab5 y hy with ⟨z, hz, h1⟩ | h1
    · have := hrl z hz; omega
    · have := HR2.out.lt; omega
  have R5 : Whole w5 (w.heap.size + 1) 37 #[.int .i64 0, .int .i64 0, .int .i64 0, .string { data := #[] }] := (mv5.2 _ HR2.out.lt (by omega) (fun z hz => by have := hrl z hz; omega)).trans HR2.out
  have mvA := (Mv.below hal).trans mv5 (Ab.refl _ _)
  have abA : Ab w a a5 := fun x' hx' => by
    rcases ab5 x' hx' with h | h
    · exact .inl h
    · exact .inr (Nat.le_trans hal.size h)
  have bA := (hal.mono (Nat.le_of_lt hgw)).trans b5
  clear x0 x1 x2 x3 x4 mv5 ab5 b5 hal
  obtain ⟨⟨r0, r1, r2, r3⟩, ⟨f0, f1, f2, f3⟩, hrl5⟩ := R5.four
  obtain ⟨R6, b6, hk6⟩ := st4 R5 (.int .i64 0) (.int .i64 0) (.int .i64 0) (.string { data := #[] })
  obtain ⟨⟨q0, q1, q2, q3⟩, _, _⟩ := R6.four
  have HK := Lib.hid hk6
  have HB6 := Lib.hid b6
  clear hk6 b6
  go_wp2_with fail
  refine bodyPost_ret (res_does _ _ _ _ _ _ _ _ rfl rfl q0 q1 q2 q3) rfl ?_
  exact ⟨rfl, does_fin (by omega) har (by omega) M5 mvA abA bA HB6.out HK.out⟩
theorem does_walk (g : Nat) (s : Int) (L : List Pk) (a : Option Addr) (c : Nat) (x : De) (w : World) (y : Pk) (ok : Bool) (s' : Int) (L' : List Pk) (hD : DoesIs s L x y ok s' L') (hs : 0 ≤ s ∧ s ≤ 100000000) (hL : L.length ≤ 256) (hT : x.T.length ≤ 300) (h : MA w g s L a c) (ht : Sl w w.heap.size x.a (stCells x.T)) (hap : 0 < x.T.length → Apart x.a g a) :
    Calls Try.prog 20 #[.pointer (some ⟨g, 0, none⟩), .agg #[.int .i64 x.k, .int .i64 x.n, .int .i64 x.d, .int .i64 x.f, .slice x.a x.T.length x.c]] w (DPost w g a y ok s' L') := by
  rcases hD with ⟨hk, E, hS, rfl, rfl⟩ | ⟨hk, E, hS, rfl, hok⟩ | ⟨⟨h0, h1, h2, h3, h4⟩, E, hS, rfl, rfl⟩
  · rcases hk with hk | hk | hk <;> rw [hk]
    · exact does_send0 g s L a c x w E s' L' hS hs hL hT h ht hap
    · exact does_send1 g s L a c x w E s' L' hS hs hL hT h ht hap
    · exact does_send2 g s L a c x w E s' L' hS hs hL hT h ht hap
  · rcases hk with hk | hk <;> rw [hk]
    · exact does_take3 g s' L a c x w y E ok L' hS hok.symm hs hL hT h ht hap
    · exact does_take4 g s' L a c x w y E ok L' hS hok.symm hs hL hT h ht hap
  · exact does_twice g s L a c x w E s' L' (by simp [h0]) (by simp [h1]) (by simp [h2]) (by simp [h3]) (by simp [h4]) hS hs hL hT h ht hap
end Go.Proofs.Ytkechaniaidieaa

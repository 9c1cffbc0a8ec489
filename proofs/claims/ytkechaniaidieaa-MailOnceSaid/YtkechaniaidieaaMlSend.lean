/- The walk of mail.Send. -/
import Derived.Test.YtkechaniaidieaaMl
import Derived.Deep.RegionLaw
import Derived.Deep.AppendLies
import Derived.Deep.Cut
namespace Go.Proofs.Ytkechaniaidieaa
open Go.RowKit Vm
set_option linter.unusedVariables false
set_option linter.unusedSimpArgs false

def sentL (d f : Int) : Int → List (List UInt8) → List Pk
  | _, [] => []
  | s, t :: T => ⟨s + 1, d, f, t⟩ :: sentL d f (s + 1) T
theorem sentL_len (d f : Int) : ∀ (T : List (List UInt8)) (s : Int), (sentL d f s T).length = T.length := by
  intro T
  induction T with
  | nil => intro s; rfl
  | cons t T ih => intro s; simp [sentL, ih]
theorem sentL_snoc (d f : Int) (t : List UInt8) : ∀ (T : List (List UInt8)) (s : Int), sentL d f s (T ++ [t]) = sentL d f s T ++ [⟨s + (T.length : Int) + 1, d, f, t⟩] := by
  intro T
  induction T with
  | nil => intro s; simp [sentL]
  | cons x T ih =>
    intro s
    simp only [List.cons_append, sentL, ih, List.length_cons]
    rw [show s + 1 + (T.length : Int) + 1 = s + ((T.length + 1 : Nat) : Int) + 1 from by omega]
def BadS (d f : Int) (T : List (List UInt8)) : Prop := ¬ PlaceB d ∨ ¬ PlaceB f ∨ LongB T
/-- What sending answers, and what is there behind it. -/
def SendIs (s : Int) (L : List Pk) (d f : Int) (T : List (List UInt8)) (E s' : Int) (L' : List Pk) : Prop :=
  (BadS d f T ∧ E = 1 ∧ s' = s ∧ L' = L) ∨ (¬ BadS d f T ∧ 256 < L.length + T.length ∧ E = 5 ∧ s' = s ∧ L' = L) ∨ (¬ BadS d f T ∧ L.length + T.length ≤ 256 ∧ E = 0 ∧ s' = s + T.length ∧ L' = L ++ sentL d f s T)
theorem sendIs_ex (s : Int) (L : List Pk) (d f : Int) (T : List (List UInt8)) : ∃ E s' L', SendIs s L d f T E s' L' := by
  by_cases h : BadS d f T
  · exact ⟨_, _, _, .inl ⟨h, rfl, rfl, rfl⟩⟩
  · by_cases h2 : 256 < L.length + T.length
    · exact ⟨_, _, _, .inr (.inl ⟨h, h2, rfl, rfl, rfl⟩)⟩
    · exact ⟨_, _, _, .inr (.inr ⟨h, by omega, rfl, rfl, rfl⟩)⟩
/-- Behind a call on mail. -/
def MPost (w : World) (g : Nat) (a : Option Addr) (v : Value) (s' : Int) (L' : List Pk) (e : Ending) (w' : World) : Prop :=
  e = .returned v ∧ ∃ a' c', MA w' g s' L' a' c' ∧ Mv w w' g a ∧ Ab w a a' ∧ Below g w w'
/-- A slice that lies apart from the mail. -/
def Apart (at' : Option Addr) (g : Nat) (a : Option Addr) : Prop := ∀ x, at' = some x → x.block ≠ g ∧ ∀ y, a = some y → y.block ≠ x.block
theorem sl_mv {w w' : World} {g : Nat} {a at' : Option Addr} {xs : List Value} (h : Sl w w.heap.size at' xs) (hm : Mv w w' g a) (hp : Apart at' g a) : Sl w' w'.heap.size at' xs := by
  rcases h with h | ⟨b, off, e, hlt, hc⟩
  · exact .inl h
  · obtain ⟨h1, h2⟩ := hp _ e
    simp only at h1 h2
    have hz := hm.1
    refine .inr ⟨b, off, e, by omega, fun j u hu => ?_⟩
    rw [← hc j u hu]
    exact World.cell?_of_block (a := ⟨b, off + j, none⟩) (hm.2 b hlt h1 h2)
theorem apart_ab {w : World} {g : Nat} {a a' at' : Option Addr} (hp : Apart at' g a) (ha : Ab w a a') (hlt : ∀ x, at' = some x → x.block < w.heap.size) : Apart at' g a' := fun x hx =>
  ⟨(hp x hx).1, fun y hy he => by
    rcases ha y hy with ⟨z, hz, h1⟩ | h1
    · exact (hp x hx).2 z hz (h1.trans he)
    · have := hlt x hx; omega⟩
theorem sl_block_lt {w : World} {B : Nat} {a : Option Addr} {T : List (List UInt8)} (h : Sl w B a (stCells T)) (h0 : 0 < T.length) : ∀ x, a = some x → x.block < B := by
  obtain ⟨b, o, rfl, hb, _⟩ := h.st h0
  intro x hx
  injection hx with hx
  subst hx; exact hb
theorem ownN_far0 {w : World} {base n size : Nat} {e : TypeId} {v : Value} {xs : List Value} (h : w.ownsRow base e size v n xs) (b i : Nat) (u : Value) (hb : b < base) : (w.setCell ⟨b, i, none⟩ u).ownsRow base e size v n xs := by
  obtain ⟨hl, hr⟩ := h
  rcases hr with h0 | ⟨g, cap, cur, hv, hg, hh, r⟩
  · exact ⟨hl, .inl h0⟩
  · exact ⟨hl, .inr ⟨g, cap, cur, hv, hg, (Below.heap_setCell w ⟨b, i, none⟩ u g (show g ≠ b by omega)).trans hh, r⟩⟩
theorem mv_set {w w' : World} {g : Nat} {a : Option Addr} (h : Mv w w' g a) (i : Nat) (u : Value) : Mv w (w'.setCell ⟨g, i, none⟩ u) g a := by
  have hz : (w'.setCell ⟨g, i, none⟩ u).heap.size = w'.heap.size := by simp
  exact ⟨by rw [hz]; exact h.1, fun k hk hg hx => (Below.heap_setCell w' ⟨g, i, none⟩ u k hg).trans (h.2 k hk hg hx)⟩
theorem s3_alloc {w : World} {g : Nat} {v0 v1 : Value} (o : Obj) (h0 : w.cell? ⟨g, 0, none⟩ = some v0) (h1 : w.cell? ⟨g, 1, none⟩ = some v1) (f1 : w.frozen? ⟨g, 1, none⟩ = false) (hg : g < w.heap.size) :
    (w.alloc o).drew.cell? ⟨g, 0, none⟩ = some v0 ∧ (w.alloc o).drew.cell? ⟨g, 1, none⟩ = some v1 ∧ (w.alloc o).drew.frozen? ⟨g, 1, none⟩ = false :=
  ⟨((balloc w o).cell (p := ⟨g, 0, none⟩) hg).trans h0, ((balloc w o).cell (p := ⟨g, 1, none⟩) hg).trans h1, (World.frozen?_alloc_past o g 1 hg).trans f1⟩
theorem send_step {w3 w4 w5 : World} {g n n' cap gg : Nat} {a a3 : Option Addr} {c3 : Nat} {v : Value} {xs xs' : List Value} (o : Obj) (W1 : Whole w4 g 56 #[v, .slice a3 n c3]) (O1 : w4.ownsRow (g + 1) 37 4 (.slice a3 n c3) n xs)
    (mv1 : Mv w3 w4 g a) (ab : Ab w3 a a3) (bb1 : Below g w3 w4) (hgrow : ((w4.alloc o).drew).grownBy w5 (Value.slice a3 n c3).ownBlock) (hown1 : w5.ownsRow (g + 1) 37 4 (.slice (some ⟨gg, 0, none⟩) n' cap) n' xs')
    (hat : (Value.slice a3 n c3).ownBlock = some gg ∨ gg = w4.heap.size + 1) :
    let w6 := w5.setCell ⟨g, 1, none⟩ (.slice (some ⟨gg, 0, none⟩) n' cap)
    Whole w6 g 56 #[v, .slice (some ⟨gg, 0, none⟩) n' cap] ∧ w6.ownsRow (g + 1) 37 4 (.slice (some ⟨gg, 0, none⟩) n' cap) n' xs' ∧ Mv w3 w6 g a ∧ Ab w3 a (some ⟨gg, 0, none⟩) ∧ Below g w3 w6 := by
  intro w6
  have hg4 := W1.lt
  have hzA : ((w4.alloc o).drew).heap.size = w4.heap.size + 1 := by simp
  have ag : (Value.slice a3 n c3).ownBlock ≠ some g := fun hh => by have := (O1.lt _ hh).1; omega
  have W5 : Whole w5 g 56 #[v, .slice a3 n c3] := (hgrow.block g (by rw [hzA]; omega) (Ne.symm ag)).trans (W1.keep ((balloc w4 o).drew))
  have hrow : ∀ k, (Value.slice a3 n c3).ownBlock = some k → ∃ x, a3 = some x ∧ x.block = k := by
    intro k hk
    rcases O1.2 with ⟨h1, _⟩ | ⟨g', cap', cur, h1, _⟩
    · rw [h1] at hk; cases hk
    · injection h1 with h1 _ _
      subst h1
      injection hk with hk
      exact ⟨_, rfl, hk⟩
  have ma : Mv w4 ((w4.alloc o).drew) g a3 := Mv.below ((balloc w4 o).drew)
  have mb : Mv ((w4.alloc o).drew) w5 g a3 := ⟨hgrow.size, fun k hk _ hx => hgrow.block k hk (fun hh => by
    obtain ⟨x, e, h1⟩ := hrow k hh.symm
    exact hx x e h1)⟩
  have m5 := (mv1.trans ma ab).trans mb ab
  refine ⟨W5.set 1 _, ownN_far0 hown1 g 1 _ (Nat.lt_succ_self g), mv_set m5 1 _, fun x' hx' => ?_, ((((bb1.alloc (Nat.le_of_lt hg4) o).drew).grown hgrow (by rw [hzA]; omega) (fun k hk => by have := (O1.lt _ hk).1; omega)).setCell (p := ⟨g, 1, none⟩) (Nat.le_refl _) _)⟩
  injection hx' with hx'
  subst hx'
  rcases hat with h | h
  · obtain ⟨x, e, h1⟩ := hrow gg h
    rcases ab x e with ⟨y, h2, h3⟩ | h2
    · exact .inl ⟨y, h2, h3.trans h1⟩
    · exact .inr (by show w3.heap.size ≤ gg; omega)
  · exact .inr (by show w3.heap.size ≤ gg; have := mv1.1; omega)
theorem send_nil (d f : Int) (v : Value) (w : World) : Calls Try.prog 10 #[.pointer none, .int .i64 d, .int .i64 f, v] w fun e w' => e = .returned (.int .i64 1) ∧ Below w.heap.size w w' := by
  go_enter Try.func10, Try.ntmps10
  go_wp2_with fail
  go_ret
  exact ⟨rfl, Below.refl _ _⟩
set_option maxRecDepth 100000 in
set_option maxHeartbeats 4000000 in
theorem send_bad (s : Int) (L : List Pk) (d f : Int) (T : List (List UInt8)) (N : Nat) (at' : Option Addr) (ct g : Nat) (a : Option Addr) (c : Nat) (w : World) (hN : T.length = N) (hNm : N ≤ 100000) (hb : BadS d f T) (h : MA w g s L a c) (ht : Sl w w.heap.size at' (stCells T)) :
    Calls Try.prog 10 #[.pointer (some ⟨g, 0, none⟩), .int .i64 d, .int .i64 f, .slice at' N ct] w (MPost w g a (.int .i64 1) s L) := by
  have HM := Lib.hid h
  have hgl := h.1.lt
  have fin := Lib.hid (fun (w' : World) (b : Below w.heap.size w w') => (⟨rfl, a, c, HM.out.keep b, Mv.below b, Ab.refl w a, b.mono (Nat.le_of_lt HM.out.1.lt)⟩ : MPost w g a (.int .i64 1) s L (.returned (.int .i64 1)) w'))
  by_cases h1 : PlaceB d
  · have P1 := Lib.hid (fun w => place_walk d w true (.inl ⟨h1, rfl⟩))
    by_cases h2 : PlaceB f
    · have P2 := Lib.hid (fun w => place_walk f w true (.inl ⟨h2, rfl⟩))
      have hl : LongB T := by rcases hb with h | h | h; exact absurd h1 h; exact absurd h2 h; exact h
      have P3 := Lib.hid (fun w' (b : Below w.heap.size w w') => mcont_walk T N at' ct w'.heap.size w' true hN hNm (.inl ⟨hl, rfl⟩) ((ht.below b (Nat.le_refl _)).grow b.size) (Nat.le_refl _))
      clear hb h1 h2 hl h hN ht
      go_enter Try.func10, Try.ntmps10
      go_wp2_with fail
      refine (P1.out _).mono ?_
      rintro e w1 ⟨rfl, g1⟩
      clear P1
      go_wp2_with fail
      refine (P2.out _).mono ?_
      rintro e w2 ⟨rfl, g2⟩
      go_wp2_with fail
      refine (P3.out _ (gtrans g1 g2)).mono ?_
      rintro e w3 ⟨rfl, g3⟩
      go_wp2_with fail
      go_ret
      exact ⟨rfl, (fin.out _ (gtrans (gtrans g1 g2) g3)).2⟩
    · have P2 := Lib.hid (fun w => place_walk f w false (.inr ⟨h2, rfl⟩))
      clear hb h1 h2 h hN ht
      go_enter Try.func10, Try.ntmps10
      go_wp2_with fail
      refine (P1.out _).mono ?_
      rintro e w1 ⟨rfl, g1⟩
      clear P1
      go_wp2_with fail
      refine (P2.out _).mono ?_
      rintro e w2 ⟨rfl, g2⟩
      go_wp2_with fail
      go_ret
      exact ⟨rfl, (fin.out _ (gtrans g1 g2)).2⟩
  · have P1 := Lib.hid (fun w => place_walk d w false (.inr ⟨h1, rfl⟩))
    clear hb h1 h hN ht
    go_enter Try.func10, Try.ntmps10
    go_wp2_with fail
    refine (P1.out _).mono ?_
    rintro e w1 ⟨rfl, g1⟩
    go_wp2_with fail
    go_ret
    exact ⟨rfl, (fin.out _ g1).2⟩
set_option maxRecDepth 100000 in
set_option maxHeartbeats 8000000 in
theorem send_good (s : Int) (L : List Pk) (d f : Int) (T : List (List UInt8)) (N : Nat) (at' : Option Addr) (ct g : Nat) (a : Option Addr) (c : Nat) (w : World) (hN : T.length = N) (hNm : N ≤ 100000) (hs : 0 ≤ s ∧ s ≤ 1000000000) (hL : L.length ≤ 256) (hb : ¬ BadS d f T) (h : MA w g s L a c) (ht : Sl w w.heap.size at' (stCells T)) (hap : 0 < T.length → Apart at' g a)
    (E s' : Int) (L' : List Pk) (hE : (256 < L.length + T.length ∧ E = 5 ∧ s' = s ∧ L' = L) ∨ (L.length + T.length ≤ 256 ∧ E = 0 ∧ s' = s + T.length ∧ L' = L ++ sentL d f s T)) :
    Calls Try.prog 10 #[.pointer (some ⟨g, 0, none⟩), .int .i64 d, .int .i64 f, .slice at' N ct] w (MPost w g a (.int .i64 E) s' L') := by
  obtain ⟨i0, hi, hz0, hz1, hz2⟩ := info_parts info_pk
  have hnb : PlaceB d ∧ PlaceB f ∧ ¬ LongB T := by
    unfold BadS at hb
    exact ⟨Classical.byContradiction fun h => hb (.inl h), Classical.byContradiction fun h => hb (.inr (.inl h)), fun h => hb (.inr (.inr h))⟩
  have P1 := Lib.hid (fun w => place_walk d w true (.inl ⟨hnb.1, rfl⟩))
  have P2 := Lib.hid (fun w => place_walk f w true (.inl ⟨hnb.2.1, rfl⟩))
  have P3 := Lib.hid (fun w' (b : Below w.heap.size w w') => mcont_walk T N at' ct w'.heap.size w' false hN hNm (.inr ⟨hnb.2.2, rfl⟩) ((ht.below b (Nat.le_refl _)).grow b.size) (Nat.le_refl _))
  have HNe := Lib.hid hN
  have HM := Lib.hid h
  have HT := Lib.hid ht
  have HE := Lib.hid hE
  clear hb hnb h ht hE hN
  go_enter Try.func10, Try.ntmps10
  go_wp2_with fail
  refine (P1.out _).mono ?_
  rintro e w1 ⟨rfl, g1⟩
  clear P1
  go_wp2_with fail
  refine (P2.out _).mono ?_
  rintro e w2 ⟨rfl, g2⟩
  clear P2
  go_wp2_with fail
  refine (P3.out _ (gtrans g1 g2)).mono ?_
  rintro e w3 ⟨rfl, g3⟩
  have t3 := gtrans (gtrans g1 g2) g3
  have M3 := HM.out.keep t3
  have T3 := (HT.out.below t3 (Nat.le_refl _)).grow t3.size
  obtain ⟨m0, m1, f0, f1, hg3⟩ := M3.two
  obtain ⟨n, hn⟩ : ∃ n, L.length = n := ⟨_, rfl⟩
  rw [hn] at m1 hL
  have hadd : IntKind.i64.wrap ((n : Int) + (N : Int)) = (n : Int) + (N : Int) := IntWalk.i64_in _ (by omega)
  have hadd2 : wrap64 ((n : Int) + (N : Int)) = (n : Int) + (N : Int) := IntWalk.wrap64_in _ (by omega)
  have HL := Lib.hid hn
  clear hn P3 g1 g2 g3
  rcases HE.out with ⟨h1, rfl, rfl, rfl⟩ | ⟨h1, rfl, hs', hL'⟩
  · have h2 : 256 < (n : Int) + (N : Int) := by have := HL.out; have := HNe.out; omega
    clear h1
    go_wp2_with fail
    go_ret
    exact ⟨rfl, a, c, M3, Mv.below t3, Ab.refl w a, t3.mono (Nat.le_of_lt HM.out.1.lt)⟩
  · have h2 : ¬ 256 < (n : Int) + (N : Int) := by have := HL.out; have := HNe.out; omega
    have hnN : n + N ≤ 256 := by have := HL.out; have := HNe.out; omega
    have HS := Lib.hid (And.intro hs' hL')
    clear h1 hs' hL' m0 m1 f0 f1
    obtain ⟨m0, m1, f0, f1, hg3⟩ := M3.two
    rw [HL.out] at m1
    go_wp2_with fail
    go_loopw [42] (fun J wr => ∃ (k : Nat) (a3 : Option Addr) (c3 : Nat), k ≤ N ∧ J = .int .i64 k ∧ MA wr g (s + k) (L ++ sentL d f s (T.take k)) a3 c3 ∧ Mv w3 wr g a ∧ Ab w3 a a3 ∧ Below g w3 wr) (fun J _ => N - (intOf J).toNat)
    case atStart => exact ⟨0, a, c, by omega, rfl, by simpa [sentL] using M3, ⟨Nat.le_refl _, fun _ _ _ _ => rfl⟩, Ab.refl _ _, Below.refl _ _⟩
    case round =>
      obtain ⟨k, a3, c3, hkN, rfl, Mr, mv, ab, bb⟩ := hrel
      clear m0 m1 f0 f1
      by_cases hlt : k < N
      · have hlt2 : (k : Int) < (N : Int) := by omega
        have hk0 : 0 ≤ (k : Int) := by omega
        have hil : k < T.length := by rw [HNe.out]; exact hlt
        have hwk : IntKind.i64.wrap ((k : Int) + 1) = ((k + 1 : Nat) : Int) := by rw [IntWalk.i64_in _ (by omega)]; omega
        have hws : IntKind.i64.wrap (s + (k : Int) + 1) = s + (k : Int) + 1 := IntWalk.i64_in _ (by omega)
        have hap2 := hap (by omega)
        have hap3 := apart_ab hap2 ab (sl_block_lt T3 (by omega))
        obtain ⟨bt, ot, rfl, hbt, hct⟩ := (sl_mv T3 mv hap2).st (by omega)
        have r0 := hct k hil
        have hbg := (hap2 _ rfl).1
        simp only at hbg
        obtain ⟨t, hte⟩ : ∃ t, T.getD k [] = t := ⟨_, rfl⟩
        rw [hte] at r0
        have htk := Lib.hid (take_get T [] k hil)
        have HTe := Lib.hid hte
        have hlen : (L ++ sentL d f s (T.take k)).length = n + k := by
          have h5 : (T.take k).length = k := by rw [List.length_take]; omega
          rw [List.length_append, sentL_len, HL.out, h5]
        obtain ⟨m0, m1, f0, f1, hgr⟩ := Mr.two
        obtain ⟨Wr, Or⟩ := Mr
        rw [hlen] at m1 Wr Or
        have W1 := Wr.set 0 (.int .i64 (s + (k : Int) + 1))
        have O1 := ownN_far0 Or g 0 (.int .i64 (s + (k : Int) + 1)) (Nat.lt_succ_self g)
        have mv1 := mv_set mv 0 (.int .i64 (s + (k : Int) + 1))
        have bb1 := bb.setCell (p := ⟨g, 0, none⟩) (Nat.le_refl _) (.int .i64 (s + (k : Int) + 1))
        clear hte hct hlen
        go_upto_region 10 with fail
        obtain ⟨w4, hw4⟩ : ∃ w4, w4 = wr.setCell ⟨g, 0, none⟩ (.int .i64 (s + (k : Int) + 1)) := ⟨_, rfl⟩
        rw [← hw4] at W1 O1 mv1 bb1 ⊢
        clear hw4 m0 m1 f0 f1 r0
        have m0 := W1.cell 0
        have m1 := W1.cell 1
        have f1 := W1.frozen 1
        have hg4 := W1.lt
        simp only [List.setIfInBounds_toArray, List.set_cons_zero, List.getElem?_toArray, List.getElem?_cons_zero, List.getElem?_cons_succ] at m0 m1
        have ag : (Value.slice a3 (n + k) c3).ownBlock ≠ some g := fun hh => by have := (O1.lt _ hh).1; omega
        go_wp2_with fail
        go_region_law
          ((refine step_append_lies _ (by rfl) _ _ _ (by rfl) (g + 1) 37 i0 _ 4 40 Try.underlying26 hi hz0 hz1 hz2 rfl (by omega) (.slice a3 (n + k) c3) (n + k) _ (by rfl) ((O1.alloc _).drew)
              ⟨w4.heap.size, 0, none⟩ 1 1 [.int .i64 (s + (k : Int) + 1), .int .i64 d, .int .i64 f, .string (str t)] (by rfl) (by rfl) (World.news_of_block (cs := #[.int .i64 (s + (k : Int) + 1), .int .i64 d, .int .i64 f, .string (str t)]) (t := 37) (fr := (0, 0)) (heap_alloc_new w4 _)) (by simp [Value.oneCell'])
              (by omega) (by unfold maxLen; omega) (by omega) (by simp; omega) (w4.heap.size + 1) (by simp) ?_; intro gg cap w5 hown1 hgrow hat hlt5; have q1 := (hgrow.cell_far ⟨g, 1, none⟩ (by simp; omega) (Ne.symm ag)).trans (s3_alloc _ m0 m1 f1 hg4).2.1; have q2 := (hgrow.frozen_far ⟨g, 1, none⟩ (by simp; omega) (Ne.symm ag)).trans (s3_alloc _ m0 m1 f1 hg4).2.2))
        all_goals
          obtain ⟨W6, O6, mv6, ab6, bb6⟩ := send_step _ W1 O1 mv1 ab bb1 hgrow hown1 hat
          have hlen2 : (L ++ sentL d f s (T.take (k + 1))).length = n + k + 1 := by
            have h5 : (T.take (k + 1)).length = k + 1 := by rw [List.length_take]; omega
            rw [List.length_append, sentL_len, HL.out, h5]; omega
          have hcells : pkCells (L ++ sentL d f s (T.take (k + 1))) = pkCells (L ++ sentL d f s (T.take k)) ++ [.int .i64 (s + (k : Int) + 1), .int .i64 d, .int .i64 f, .string (str t)] := by
            have h5 : (T.take k).length = k := by rw [List.length_take]; omega
            rw [htk.out, sentL_snoc, ← List.append_assoc, pkCells_snoc, h5, HTe.out]
          have HMA := Lib.hid (show MA _ g (s + ((k + 1 : Nat) : Int)) (L ++ sentL d f s (T.take (k + 1))) (some ⟨gg, 0, none⟩) cap from by
            unfold MA
            rw [hlen2, hcells, show s + ((k + 1 : Nat) : Int) = s + (k : Int) + 1 from by omega]
            exact ⟨W6, O6⟩)
          clear hlen2 hcells W6 O6 m0 m1 f1 q1 q2
          go_wp2_with fail
          go_roundw
          case rel => exact ⟨k + 1, some ⟨gg, 0, none⟩, cap, by omega, by go_num, HMA.out, mv6, ab6, bb6⟩
          case measure => simp [intOf]; omega
      · have hlt2 : ¬ (k : Int) < (N : Int) := by omega
        have htk : T.take k = T := List.take_of_length_le (by rw [HNe.out]; omega)
        go_wp2_with fail
        go_ret
        rw [htk] at Mr
        obtain ⟨hs', hL'⟩ := HS.out
        refine ⟨rfl, a3, c3, ?_, (Mv.below t3).trans mv (Ab.refl _ _), fun x' hx => ?_, (t3.mono (Nat.le_of_lt HM.out.1.lt)).trans bb⟩
        · rw [hs', hL', HNe.out, show (N : Int) = (k : Int) from by omega]; exact Mr
        · rcases ab x' hx with h | h
          · exact .inl h
          · exact .inr (Nat.le_trans t3.size h)
theorem msend_walk (s : Int) (L : List Pk) (d f : Int) (T : List (List UInt8)) (N : Nat) (at' : Option Addr) (ct g : Nat) (a : Option Addr) (c : Nat) (w : World) (E s' : Int) (L' : List Pk) (hN : T.length = N) (hNm : N ≤ 100000) (hs : 0 ≤ s ∧ s ≤ 1000000000) (hL : L.length ≤ 256) (hE : SendIs s L d f T E s' L') (h : MA w g s L a c) (ht : Sl w w.heap.size at' (stCells T)) (hap : 0 < T.length → Apart at' g a) :
    Calls Try.prog 10 #[.pointer (some ⟨g, 0, none⟩), .int .i64 d, .int .i64 f, .slice at' N ct] w (MPost w g a (.int .i64 E) s' L') := by
  rcases hE with ⟨hb, rfl, rfl, rfl⟩ | ⟨hb, h1, h2, h3, h4⟩ | ⟨hb, h1⟩
  · exact send_bad s' L' d f T N at' ct g a c w hN hNm hb h ht
  · exact send_good s L d f T N at' ct g a c w hN hNm hs hL hb h ht hap E s' L' (.inl ⟨h1, h2, h3, h4⟩)
  · exact send_good s L d f T N at' ct g a c w hN hNm hs hL hb h ht hap E s' L' (.inr h1)
end Go.Proofs.Ytkechaniaidieaa

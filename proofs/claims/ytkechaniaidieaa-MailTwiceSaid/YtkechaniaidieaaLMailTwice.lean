/- The walk of the statement MailTwice of layer 24 (written by gen/mailtwice.py). -/
import Derived.Test.YtkechaniaidieaaMlDoes
import Derived.Test.YtkechaniaidieaaAwake24
import Derived.Deep.RegionHeld3
namespace Go.Proofs.Ytkechaniaidieaa
open Go.RowKit Vm
set_option linter.unusedVariables false
set_option linter.unusedSimpArgs false

/-- Rows of unlike types own unlike blocks. -/
theorem own_ne {w : World} {b1 b2 s1 s2 n1 n2 : Nat} {e1 e2 : TypeId} {v1 v2 : Value} {x1 x2 : List Value} (h1 : w.ownsRow b1 e1 s1 v1 n1 x1) (h2 : w.ownsRow b2 e2 s2 v2 n2 x2) (hne : e1 ≠ e2) : ∀ k, v1.ownBlock = some k → v2.ownBlock ≠ some k := by
  intro k hk1 hk2
  rcases h1.2 with ⟨rfl, _⟩ | ⟨g1, c1, cur1, rfl, _, hh1, _⟩
  · cases hk1
  · rcases h2.2 with ⟨rfl, _⟩ | ⟨g2, c2, cur2, rfl, _, hh2, _⟩
    · cases hk2
    · injection hk1 with hk1
      injection hk2 with hk2
      have : g1 = g2 := hk1.trans hk2.symm
      subst this
      rw [hh1] at hh2
      injection hh2 with hh2
      injection hh2 with _ h3 _
      exact hne h3
theorem MA.rowown {w : World} {g : Nat} {s : Int} {L : List Pk} {a : Option Addr} {c : Nat} (h : MA w g s L a c) : ∀ y, a = some y → (Value.slice a L.length c).ownBlock = some y.block ∧ g + 1 ≤ y.block := by
  intro y hy
  subst hy
  rcases h.2.2 with ⟨h1, _⟩ | ⟨g', cap, cur, h1, h2, _⟩
  · cases h1
  · injection h1 with h1 _ _
    injection h1 with h1
    subst h1
    exact ⟨rfl, h2⟩
theorem own_mv {w w' : World} {base n size g : Nat} {e : TypeId} {v : Value} {xs : List Value} {a : Option Addr} (h : w.ownsRow base e size v n xs) (mv : Mv w w' g a) (hg : g < base) (ha : ∀ k y, v.ownBlock = some k → a = some y → y.block ≠ k) : w'.ownsRow base e size v n xs :=
  ownN_ne h (fun k hk => mv.2 k (h.lt k hk).2 (by have := (h.lt k hk).1; omega) (fun y hy => ha k y hk hy))
theorem sentL_mem {d f : Int} : ∀ (T : List (List UInt8)) (s : Int) (y : Pk), y ∈ sentL d f s T → s < y.n ∧ y.n ≤ s + T.length ∧ y.d = d ∧ y.f = f ∧ y.x ∈ T := by
  intro T
  induction T with
  | nil => intro s y h; cases h
  | cons t T ih =>
    intro s y h
    rcases List.mem_cons.1 h with rfl | h
    · exact ⟨by show s < s + 1; omega, by show s + 1 ≤ s + ((t :: T).length : Int); rw [List.length_cons]; omega, rfl, rfl, List.mem_cons_self ..⟩
    · obtain ⟨h1, h2, h3, h4, h5⟩ := ih _ _ h
      simp only [List.length_cons]
      exact ⟨by omega, by omega, h3, h4, List.mem_cons_of_mem _ h5⟩
def PkOk (s : Int) (y : Pk) : Prop := y.n ≤ s ∧ PlaceB y.d ∧ PlaceB y.f ∧ y.x.length ≤ 131072
def InvM (s : Int) (L : List Pk) (i : Nat) : Prop := 0 ≤ s ∧ s ≤ 300 * (i : Int) ∧ L.length ≤ 256 ∧ ∀ y ∈ L, PkOk s y
theorem not_bad {d f : Int} {T : List (List UInt8)} (h : ¬ BadS d f T) : PlaceB d ∧ PlaceB f ∧ ∀ t ∈ T, t.length ≤ 131072 := by
  unfold BadS at h
  refine ⟨Classical.byContradiction fun hh => h (.inl hh), Classical.byContradiction fun hh => h (.inr (.inl hh)), fun t ht => ?_⟩
  apply Classical.byContradiction
  intro hh
  exact h (.inr (.inr ⟨t, ht, by omega⟩))
theorem invM_send {s s' E d f : Int} {L L' : List Pk} {i : Nat} {T : List (List UInt8)} (h : InvM s L i) (hS : SendIs s L d f T E s' L') (hT : T.length ≤ 300) : InvM s' L' (i + 1) := by
  obtain ⟨h0, h1, h2, h3⟩ := h
  rcases hS with ⟨_, _, rfl, rfl⟩ | ⟨_, _, _, rfl, rfl⟩ | ⟨hb, hl, _, rfl, rfl⟩
  · exact ⟨h0, by omega, h2, h3⟩
  · exact ⟨h0, by omega, h2, h3⟩
  · obtain ⟨hd, hf, ht⟩ := not_bad hb
    refine ⟨by omega, by omega, by rw [List.length_append, sentL_len]; exact hl, fun y hy => ?_⟩
    rcases List.mem_append.1 hy with hy | hy
    · obtain ⟨h4, h5⟩ := h3 y hy
      exact ⟨by omega, h5⟩
    · obtain ⟨_, h4, h5, h6, h7⟩ := sentL_mem T s y hy
      exact ⟨h4, by rw [h5]; exact hd, by rw [h6]; exact hf, ht _ h7⟩
theorem delL_mem {L : List Pk} {k : Nat} {y : Pk} (h : y ∈ delL L k) : y ∈ L := by
  unfold delL at h
  rcases List.mem_append.1 h with h | h
  · exact List.mem_of_mem_take h
  · exact List.mem_of_mem_drop h
theorem invM_step {s s' : Int} {L L' : List Pk} {i : Nat} {x : De} {y : Pk} {ok : Bool} (h : InvM s L i) (hD : DoesIs s L x y ok s' L') (hT : x.T.length ≤ 300) : InvM s' L' (i + 1) := by
  rcases hD with ⟨_, E, hS, _⟩ | ⟨_, E, hS, rfl, _⟩ | ⟨_, E, hS, _⟩
  · exact invM_send h hS hT
  · obtain ⟨h0, h1, h2, h3⟩ := h
    rcases hS with ⟨_, _, _, rfl⟩ | ⟨k, _, hk, _, _, rfl⟩
    · exact ⟨h0, by omega, h2, h3⟩
    · exact ⟨h0, by omega, by rw [delL_len _ _ hk]; omega, fun y hy => h3 y (delL_mem hy)⟩
  · rcases hS with ⟨_, _, rfl, rfl⟩ | ⟨k, _, _, hS⟩
    · obtain ⟨h0, h1, h2, h3⟩ := h
      exact ⟨h0, by omega, h2, h3⟩
    · exact invM_send h hS (by simp)
theorem fewL_ok {w : World} {l : List De} (hi : ∀ x ∈ l, DeI w x) : ∀ x ∈ fewL l, DeI w x ∧ x.T.length ≤ 300 := by
  intro x hx
  unfold fewL at hx
  obtain ⟨y, hy, rfl⟩ := List.mem_map.1 hx
  exact cutD_ok (hi y (List.mem_of_mem_take hy))
theorem fewL_len (l : List De) : (fewL l).length ≤ 80 := by unfold fewL; rw [List.length_map, List.length_take]; omega
theorem held9 {w1 w3 w4 : World} {bp bq gw o : Nat} {v1 v2 v3 v4 v5 v6 v7 v8 : Value} (h : w3.cell? ⟨bp, 1, none⟩ = some v1 ∧ w3.cell? ⟨bp, 2, none⟩ = some v2 ∧ w3.cell? ⟨bp, 3, none⟩ = some v3 ∧ w3.cell? ⟨bq, 0, none⟩ = some v4 ∧ w3.cell? ⟨bq, 1, none⟩ = some v5 ∧ w3.cell? ⟨bq, 2, none⟩ = some v6 ∧ w3.cell? ⟨bq, 3, none⟩ = some v7 ∧ w3.cell? ⟨gw, o, none⟩ = some v8 ∧ Below w1.heap.size w1 w3) (hb : Below w3.heap.size w3 w4) :
    w4.cell? ⟨bp, 1, none⟩ = some v1 ∧ w4.cell? ⟨bp, 2, none⟩ = some v2 ∧ w4.cell? ⟨bp, 3, none⟩ = some v3 ∧ w4.cell? ⟨bq, 0, none⟩ = some v4 ∧ w4.cell? ⟨bq, 1, none⟩ = some v5 ∧ w4.cell? ⟨bq, 2, none⟩ = some v6 ∧ w4.cell? ⟨bq, 3, none⟩ = some v7 ∧ w4.cell? ⟨gw, o, none⟩ = some v8 ∧ Below w1.heap.size w1 w4 := by
  obtain ⟨h1, h2, h3, h4, h5, h6, h7, h8, h9⟩ := h
  exact ⟨(hb.cell (cell_lt h1)).trans h1, (hb.cell (cell_lt h2)).trans h2, (hb.cell (cell_lt h3)).trans h3, (hb.cell (cell_lt h4)).trans h4, (hb.cell (cell_lt h5)).trans h5, (hb.cell (cell_lt h6)).trans h6, (hb.cell (cell_lt h7)).trans h7, (hb.cell (cell_lt h8)).trans h8, gtrans h9 hb⟩
theorem held9b {w1 w3 : World} {P1 P2 P3 P4 P5 P6 P7 P8 : Prop} (h : P1 ∧ P2 ∧ P3 ∧ P4 ∧ P5 ∧ P6 ∧ P7 ∧ P8 ∧ Below w1.heap.size w1 w3) : Below w1.heap.size w1 w3 := h.2.2.2.2.2.2.2.2
theorem de_apart {w : World} {x : De} {g : Nat} {a : Option Addr} (h : Sl w g x.a (stCells x.T)) (ha : ∀ y, a = some y → g + 1 ≤ y.block) : 0 < x.T.length → Apart x.a g a := by
  intro h0 z hz
  have := sl_block_lt h h0 z hz
  exact ⟨by omega, fun y hy => by have := ha y hy; omega⟩
set_option maxRecDepth 100000 in
set_option maxHeartbeats 16000000 in
theorem mailTwice_law (l : List De) (a : Option Addr) (c : Nat) (p : Int) (w : World) (hl : Sl w w.heap.size a (deCells l)) (hi : ∀ r ∈ l, DeI w r) (hc : (a = none → c = 0) ∧ l.length ≤ c ∧ c ≤ maxLen) (hp : (Lit.int .i64 p).wf = true) :
    Calls Try.prog 6 #[.slice a l.length c, .int .i64 p] w fun e w' => e = .returned (.bool true) ∧ Below w.heap.size w w' := by
  obtain ⟨N0, hN0⟩ : ∃ N, l.length = N := ⟨_, rfl⟩
  rw [hN0] at hc ⊢
  have N1 := Lib.hid (mnew_walk w)
  obtain ⟨F, hF⟩ : ∃ F, F = fewL l := ⟨_, rfl⟩
  have HFi := Lib.hid (show ∀ x ∈ F, DeI w x ∧ x.T.length ≤ 300 from by rw [hF]; exact fewL_ok hi)
  have hF80 : F.length ≤ 80 := by rw [hF]; exact fewL_len l
  have KF := Lib.hid (fun (w1 : World) (b : Below w.heap.size w w1) => few_walk l a c N0 w1 hN0 ((hl.below b (Nat.le_refl _)).grow b.size) (fun x hx => ⟨(hi x hx).1, ((hi x hx).2.1.below b (Nat.le_refl _)).grow b.size, (hi x hx).2.2⟩) hc)
  unfold FewPost at KF
  rw [← hF] at KF
  clear hi hl hc hN0 hF
  go_enter Try.func6, Try.ntmps6
  go_wp2_with fail
  refine N1.out.mono ?_
  rintro e w1 ⟨rfl, M1, b1⟩
  have hg1 := M1.1.lt
  go_wp2_with fail
  refine (KF.out _ b1).mono ?_
  rintro e w2 ⟨aF, cF, rfl, OF, b2⟩
  have M2 := Lib.hid (M1.keep b2)
  have B2 := Lib.hid (gtrans b1 b2)
  have HOF := Lib.hid OF
  obtain ⟨m, hm⟩ : ∃ m, F.length = m := ⟨_, rfl⟩
  rw [hm] at hF80
  simp only [hm]
  have HM := Lib.hid hm
  clear N1 KF M1 b2 OF hm
  go_wp2_with fail
  go_loopw [6] (fun J wr => ∃ (i : Nat) (s : Int) (L : List Pk) (a3 : Option Addr) (c3 : Nat), i ≤ m ∧ J = .int .i64 i ∧ Hid (InvM s L i) ∧ MA wr w.heap.size s L a3 c3 ∧ wr.ownsRow w1.heap.size 32 5 (.slice aF F.length cF) F.length (deCells F) ∧ Below w.heap.size w wr) (fun J _ => m - (intOf J).toNat)
  case atStart => exact ⟨0, 0, [], none, 0, by omega, rfl, Lib.hid ⟨by omega, by omega, by simp, fun y hy => (by cases hy)⟩, M2.out, HOF.out, B2.out⟩
  case round =>
    obtain ⟨i, s, L, a3, c3, him, rfl, HI, Mr, OFr, hb⟩ := hrel
    have hbz := hb.size
    by_cases hlt : i < m
    · have hlt2 : (i : Int) < (m : Int) := by omega
      have hi0 : 0 ≤ (i : Int) := by omega
      have hil : i < F.length := by rw [HM.out]; exact hlt
      have hwi : IntKind.i64.wrap ((i : Int) + 1) = ((i + 1 : Nat) : Int) := by rw [IntWalk.i64_in _ (by omega)]; omega
      obtain ⟨b2, o2, rfl, hb2, hct⟩ := (ownN_sl OFr).de (by omega)
      obtain ⟨r0, r1, r2, r3, r4⟩ := hct i hil
      have hxm := HFi.out _ (getD_mem F de0 i hil)
      obtain ⟨x, hx⟩ : ∃ x, F.getD i de0 = x := ⟨_, rfl⟩
      rw [hx] at r0 r1 r2 r3 r4 hxm
      obtain ⟨y, ok, s', L', hD⟩ := doesIs_ex s L x
      have tx := hxm.1.2.1.below hb (Nat.le_refl _)
      have hro := Mr.rowown
      have K := Lib.hid (does_walk w.heap.size s L a3 c3 x wr y ok s' L' hD ⟨HI.out.1, by have := HI.out.2.1; omega⟩ HI.out.2.2.1 hxm.2 Mr (tx.grow hbz) (de_apart tx (fun y hy => (hro y hy).2)))
      unfold DPost at K
      have HI2 := Lib.hid (invM_step HI.out hD hxm.2)
      have HO := Lib.hid OFr
      have HMr := Lib.hid Mr
      clear hct hx hxm hD tx OFr Mr
      go_wp2_with fail
      refine K.out.mono ?_
      rintro e w5 ⟨rfl, a5, c5, M5, mv5, ab5, b5⟩
      have OF5 := own_mv HO.out mv5 hg1 (fun k y hk hy hh => own_ne HO.out HMr.out.2 (by decide) k hk (by rw [(hro y hy).1, hh]))
      have b6 := hb.trans b5
      clear r0 r1 r2 r3 r4
      go_wp2_with fail
      go_roundw
      case rel => exact ⟨i + 1, s', L', a5, c5, by omega, by go_num, HI2, M5, OF5, b6⟩
      case measure => simp [intOf]; omega
    · have hlt2 : ¬ (i : Int) < (m : Int) := by omega
      obtain ⟨wo, rfl⟩ : ∃ wo : World, wo = wr := ⟨_, rfl⟩
      obtain ⟨hs0, hs1, hL, hpk⟩ := HI.out
      have HPK := Lib.hid hpk
      obtain ⟨n, hn⟩ : ∃ n, L.length = n := ⟨_, rfl⟩
      have HN := Lib.hid hn
      have KL := Lib.hid (mlist_walk w.heap.size s L a3 c3 wo hL Mr)
      obtain ⟨E, s', L', hT⟩ := twiceIs_ex s L p
      have KT := Lib.hid (fun w5 h => mtwice_walk w.heap.size s L a3 c3 p w5 E s' L' hT ⟨hs0, by omega⟩ hL h)
      unfold MPost at KT
      have HT := Lib.hid hT
      have HMr := Lib.hid Mr
      have hrl := Mr.rowlt
      have hgw := Mr.1.lt
      have hL'256 : L'.length ≤ 256 := by
        rcases hT with ⟨_, _, _, rfl⟩ | ⟨k, _, _, hS⟩
        · exact hL
        · rcases hS with ⟨_, _, _, rfl⟩ | ⟨_, _, _, _, rfl⟩ | ⟨_, h2, _, _, rfl⟩
          · exact hL
          · exact hL
          · rw [List.length_append, sentL_len]; exact h2
      clear hpk hT Mr OFr
      go_wp2_with fail
      refine KL.out.mono ?_
      rintro e w4 ⟨aw, cw, rfl, OW, b4⟩
      have M4 := HMr.out.keep b4
      have B4 := hb.trans (b4.mono hbz)
      go_wp2_with fail
      refine (KT.out _ M4).mono ?_
      rintro e w5 ⟨rfl, a5, c5, M5, mv5, ab5, b5⟩
      have OW5 := own_mv OW mv5 hgw (fun k y hk hy hh => by have := (OW.lt k hk).1; have := hrl y hy; omega)
      have B5 := B4.trans b5
      have KN := Lib.hid (mlist_walk w.heap.size s' L' a5 c5 w5 hL'256 M5)
      clear KL KT OW M4
      go_wp2_with fail
      refine KN.out.mono ?_
      rintro e w6 ⟨an, cn, rfl, ON, b6⟩
      have OW6 := own_keep OW5 b6
      have B6 := B5.trans (b6.mono B5.size)
      clear KN OW5
      rw [HN.out] at OW6
      rcases HT.out with ⟨hpn, rfl, rfl, rfl⟩ | ⟨k, rfl, hk, hS⟩
      · have hpn2 : p < 0 ∨ (0 ≤ p ∧ (n : Int) ≤ p) := by rw [HN.out] at hpn; omega
        have S := Lib.hid (same_pk L' n aw an cw cn w6.heap.size w6 HN.out (by omega) (ownN_sl OW6) (by rw [HN.out] at ON; exact ownN_sl ON) (Nat.le_refl _))
        clear hpn ON OW6
        rw [HN.out]
        rcases hpn2 with h1 | ⟨h1, h2⟩
        all_goals
          first | (have h3 : ¬ p < 0 := by omega) | skip
          go_wp2_with fail
          refine S.out.mono ?_
          rintro e w7 ⟨rfl, b7⟩
          go_wp2_with fail
          refine (awake24_walk _).mono ?_
          rintro e w8 ⟨rfl, b8⟩
          go_wp2_with fail
          go_ret
          exact ⟨rfl, gtrans (gtrans B6 b7) b8⟩
      · have hkn : k < n := by rw [← HN.out]; exact hk
        have hk1 : ¬ (k : Int) < 0 := by omega
        have hk2 : ¬ (n : Int) ≤ (k : Int) := by omega
        obtain ⟨x, hx⟩ : ∃ x, L.getD k pk0 = x := ⟨_, rfl⟩
        have hxo := HPK.out _ (getD_mem L pk0 k hk)
        rw [hx] at hS hxo
        have HX := Lib.hid hx
        have hnb : ¬ BadS x.d x.f [x.x] := by
          rintro (h | h | ⟨t, ht, h⟩)
          · exact h hxo.2.1
          · exact h hxo.2.2.1
          · rw [List.mem_singleton.1 ht] at h; have := hxo.2.2.2; omega
        rcases hS with ⟨hb', _⟩ | ⟨_, h1, rfl, rfl, rfl⟩ | ⟨_, h1, rfl, rfl, rfl⟩
        · exact absurd hb' hnb
        · have hn256 : n = 256 := by rw [HN.out] at h1; simp at h1; omega
          have S := Lib.hid (same_pk L' n aw an cw cn w6.heap.size w6 HN.out (by omega) (ownN_sl OW6) (by rw [HN.out] at ON; exact ownN_sl ON) (Nat.le_refl _))
          have hn3 : ((n : Int) == 256) = true := by rw [hn256]; rfl
          clear ON OW6 hx hxo hnb hk h1 hn256
          rw [HN.out]
          go_wp2_with fail
          refine S.out.mono ?_
          rintro e w7 ⟨rfl, b7⟩
          go_wp2_with fail
          refine (awake24_walk _).mono ?_
          rintro e w8 ⟨rfl, b8⟩
          go_wp2_with fail
          go_ret
          exact ⟨rfl, gtrans (gtrans B6 b7) b8⟩
        · have hn255 : n < 256 := by rw [HN.out] at h1; simp at h1; omega
          have hn3 : ((n : Int) == 256) = false := by simp; omega
          obtain ⟨Q, hQ⟩ : ∃ Q, Q = L ++ sentL x.d x.f s [x.x] := ⟨_, rfl⟩
          rw [← hQ] at ON ⊢
          have hQe : Q = L ++ [⟨s + 1, x.d, x.f, x.x⟩] := by rw [hQ]; rfl
          have hQl : Q.length = n + 1 := by rw [hQe, List.length_append, HN.out]; rfl
          have hQn : Q.getD n pk0 = ⟨s + 1, x.d, x.f, x.x⟩ := by rw [hQe, ← HN.out]; simp [List.getD]
          have hQt : Q.take n = L := by rw [hQe, ← HN.out]; simp
          rw [hQl] at ON ⊢
          have hn0 : 0 < n := by omega
          obtain ⟨z, hz⟩ : ∃ z, (L.getD (n - 1) pk0).n = z := ⟨_, rfl⟩
          have hzs : z < s + 1 := by
            have := (HPK.out _ (getD_mem L pk0 (n - 1) (by rw [HN.out]; omega))).1
            rw [hz] at this; omega
          have hdz : decide (z < s + 1) = true := decide_eq_true hzs
          obtain ⟨gw, rfl, _, hgwl, _, hcw⟩ := ownN_at OW6 hn0
          obtain ⟨gn, rfl, _, hgnl, _, hcn⟩ := ownN_at ON (by omega)
          have hncn : n + 1 ≤ cn := (ownN_cap ON).2
          have aw := pkCells_at L k (by rw [HN.out]; exact hkn)
          rw [HX.out] at aw
          have p0 := hcw _ _ aw.1
          have p1 := hcw _ _ aw.2.1
          have p2 := hcw _ _ aw.2.2.1
          have p3 := hcw _ _ aw.2.2.2
          have az := pkCells_at L (n - 1) (by rw [HN.out]; omega)
          rw [hz] at az
          have z0 := hcw _ _ az.1
          have an := pkCells_at Q n (by rw [hQl]; omega)
          rw [hQn] at an
          have q0 := hcn _ _ an.1
          have q1 := hcn _ _ an.2.1
          have q2 := hcn _ _ an.2.2.1
          have q3 := hcn _ _ an.2.2.2
          simp only at q0 q1 q2 q3
          have sW : Sl w6 w6.heap.size (some ⟨gw, 0, none⟩) (pkCells L) := ownN_sl OW6
          have sN : Sl w6 w6.heap.size (some ⟨gn, 0, none⟩) (pkCells L) := by
            have := pk_pre (ownN_sl ON) n
            rw [hQt] at this; exact this
          have hi1 : (k : Int) < (n : Int) := by omega
          have hi2 : 0 ≤ (k : Int) := by omega
          have hi3 : (n : Int) < (n : Int) + 1 := by omega
          have hi4 : 0 ≤ (n : Int) := by omega
          have hi5 : ((n - 1 : Nat) : Int) < (n : Int) := by omega
          have hi6 : 0 ≤ ((n - 1 : Nat) : Int) := by omega
          have hi7 : (n : Int) ≤ (cn : Int) := by omega
          obtain ⟨hw1, hw2, hw3, hw4⟩ : (IntKind.i64.wrap (n : Int) = (n : Int)) ∧ (wrap64 (n : Int) = (n : Int)) ∧ (IntKind.i64.wrap ((n : Int) + 1) = (n : Int) + 1) ∧ (IntKind.i64.wrap ((n : Int) - 1) = ((n - 1 : Nat) : Int)) := ⟨(IntWalk.i64_in _ (by omega)), (IntWalk.wrap64_in _ (by omega)), (IntWalk.i64_in _ (by omega)), (by rw [IntWalk.i64_in _ (by omega)]; omega)⟩
          have HNl := Lib.hid HN.out
          have HB6 := Lib.hid B6
          have HsW := Lib.hid sW
          have HsN := Lib.hid sN
          have Hi5 := Lib.hid hi5
          have Hi6 := Lib.hid hi6
          have Hw1 := Lib.hid hw1
          have Hw2 := Lib.hid hw2
          have Hw3 := Lib.hid hw3
          have Hw4 := Lib.hid hw4
          have Hz0 := Lib.hid z0
          have Hdz := Lib.hid hdz
          clear hcw hcn aw az an hQ hQe hQl hQn hQt hz OW6 ON hx hxo hnb hk h1 sW sN z0 hzs B5 B4 hb M5 mv5 ab5 b5 b6 b4 HMr hi5 hi6 hw1 hw2 hw3 hw4 hdz hL'256 hn hrl hL hs1
          go_upto_region 16 with fail
          have sW := HsW.out
          have sN := HsN.out
          have z0 := Hz0.out
          have hal7 := balloc w6 (.cells #[.int .i64 x.n, .int .i64 x.d, .int .i64 x.f, .string (str x.x)] 37)
          have P7 := Whole.new w6 37 #[.int .i64 x.n, .int .i64 x.d, .int .i64 x.f, .string (str x.x)]
          have hz7 : (w6.alloc (.cells #[.int .i64 x.n, .int .i64 x.d, .int .i64 x.f, .string (str x.x)] 37)).heap.size = w6.heap.size + 1 := by simp
          have hal8 := balloc (w6.alloc (.cells #[.int .i64 x.n, .int .i64 x.d, .int .i64 x.f, .string (str x.x)] 37)) (.cells #[.int .i64 (s + 1), .int .i64 x.d, .int .i64 x.f, .string (str x.x)] 37)
          have Q8 := Whole.new (w6.alloc (.cells #[.int .i64 x.n, .int .i64 x.d, .int .i64 x.f, .string (str x.x)] 37)) 37 #[.int .i64 (s + 1), .int .i64 x.d, .int .i64 x.f, .string (str x.x)]
          rw [hz7] at Q8
          have P8 := P7.keep hal8
          have t8 := gtrans hal7 hal8
          have z8 := (t8.cell (p := ⟨gw, (n - 1) * 4, none⟩) hgwl).trans z0
          have sW8 := (sW.below t8 (Nat.le_refl _)).grow t8.size
          have sN8 := (sN.below t8 (Nat.le_refl _)).grow t8.size
          have hi5 := Hi5.out
          have hi6 := Hi6.out
          have hw4 := Hw4.out
          have hw3 := Hw3.out
          have hdz := Hdz.out
          clear hal7 hal8 P7 sW sN z0
          obtain ⟨w8, hw8⟩ : ∃ w8, w8 = (w6.alloc (.cells #[.int .i64 x.n, .int .i64 x.d, .int .i64 x.f, .string (str x.x)] 37)).alloc (.cells #[.int .i64 (s + 1), .int .i64 x.d, .int .i64 x.f, .string (str x.x)] 37) := ⟨_, rfl⟩
          rw [← hw8] at Q8 P8 t8 z8 sW8 sN8 ⊢
          clear hw8 p0 p1 p2 p3 q0 q1 q2 q3
          have S1 := Lib.hid (fun (w9 : World) (h : Below w8.heap.size w8 w9) => same_pk L n (some ⟨gn, 0, none⟩) (some ⟨gw, 0, none⟩) cn cw w9.heap.size w9 HNl.out (by omega) ((sN8.below h (Nat.le_refl _)).grow h.size) ((sW8.below h (Nat.le_refl _)).grow h.size) (Nat.le_refl _))
          have e := bytes_eq (str x.x)
          obtain ⟨⟨p0, p1, p2, p3⟩, _, hpl⟩ := P8.four
          obtain ⟨⟨q0, q1, q2, q3⟩, _, hql⟩ := Q8.four
          have hS0 : w8.drew.cell? ⟨w6.heap.size, 1, none⟩ = some (.int .i64 x.d) ∧ w8.drew.cell? ⟨w6.heap.size, 2, none⟩ = some (.int .i64 x.f) ∧ w8.drew.cell? ⟨w6.heap.size, 3, none⟩ = some (.string (str x.x)) ∧ w8.drew.cell? ⟨w6.heap.size + 1, 0, none⟩ = some (.int .i64 (s + 1)) ∧ w8.drew.cell? ⟨w6.heap.size + 1, 1, none⟩ = some (.int .i64 x.d) ∧ w8.drew.cell? ⟨w6.heap.size + 1, 2, none⟩ = some (.int .i64 x.f) ∧ w8.drew.cell? ⟨w6.heap.size + 1, 3, none⟩ = some (.string (str x.x)) ∧ w8.drew.cell? ⟨gw, (n - 1) * 4, none⟩ = some (.int .i64 z) ∧ Below w8.heap.size w8 w8.drew := ⟨p1, p2, p3, q0, q1, q2, q3, z8, (Below.refl _ _).drew⟩
          clear sW8 sN8
          go_wp2_with fail
          go_region_held3 (fun w' => w'.cell? ⟨w6.heap.size, 1, none⟩ = some (.int .i64 x.d) ∧ w'.cell? ⟨w6.heap.size, 2, none⟩ = some (.int .i64 x.f) ∧ w'.cell? ⟨w6.heap.size, 3, none⟩ = some (.string (str x.x)) ∧ w'.cell? ⟨w6.heap.size + 1, 0, none⟩ = some (.int .i64 (s + 1)) ∧ w'.cell? ⟨w6.heap.size + 1, 1, none⟩ = some (.int .i64 x.d) ∧ w'.cell? ⟨w6.heap.size + 1, 2, none⟩ = some (.int .i64 x.f) ∧ w'.cell? ⟨w6.heap.size + 1, 3, none⟩ = some (.string (str x.x)) ∧ w'.cell? ⟨gw, (n - 1) * 4, none⟩ = some (.int .i64 z) ∧ Below w8.heap.size w8 w')
            (with_reducible assumption)
            (first
              | (go_at_call 17; refine (S1.out _ (held9b (by with_reducible assumption))).mono ?_; rintro e w9 ⟨rfl, g9⟩; have y := held9 (by with_reducible assumption) g9)
              | (go_at_call 19; refine (awake24_walk _).mono ?_; rintro e w9 ⟨rfl, g9⟩; have y := held9 (by with_reducible assumption) g9))
          have y9 := held9b y
          have B9 := HB6.out.trans ((gtrans t8 y9).mono HB6.out.size)
          go_wp2_with fail
          go_ret
          exact ⟨rfl, B9⟩
end Go.Proofs.Ytkechaniaidieaa

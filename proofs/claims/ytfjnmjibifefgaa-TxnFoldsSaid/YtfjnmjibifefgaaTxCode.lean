/- The walks of Encode, Decode of txn and of headgateref12, headgateref12.May. -/
import Derived.Test.YtfjnmjibifefgaaTxSmall
import Derived.Test.YtfjnmjibifefgaaNt
import Derived.Test.YtfjnmjibifefgaaWhole
import Derived.Test.YtfjnmjibifefgaaApp
import Derived.Test.YtfjnmjibifefgaaPutAll
import Derived.Test.YtfjnmjibifefgaaRefAll
import Derived.Test.YtfjnmjibifefgaaTakeAll
import Derived.Test.YtfjnmjibifefgaaRefTakeAll
namespace Go.Proofs.Ytfjnmjibifefgaa
open Go.RowKit Vm
set_option linter.unusedVariables false

def decF (s : List UInt8) : Option Nt := match takeN 3 s with
  | some ([k, p, m], []) => if MayN k p m then some ⟨k, p, m⟩ else none
  | _ => none
def DecIs (s : List UInt8) (X : Nt) (E : Int) : Prop := (decF s = some X ∧ E = 0) ∨ (decF s = none ∧ X = nt0 ∧ E = 2)
theorem decIs_ex (s : List UInt8) : ∃ X E, DecIs s X E := by
  cases h : decF s with
  | some x => exact ⟨x, 0, .inl ⟨h, rfl⟩⟩
  | none => exact ⟨nt0, 2, .inr ⟨h, rfl, rfl⟩⟩
theorem decF_some {s : List UInt8} {X : Nt} (h : decF s = some X) : MayN X.k X.p X.m ∧ s = putN [X.k, X.p, X.m] := by
  unfold decF at h
  split at h
  · next k p m h3 =>
    split at h
    · next hm =>
      injection h with h
      subst h
      refine ⟨hm, ?_⟩
      rw [takeN] at h3
      split at h3
      · cases h3
      · next v1 s1 h1 =>
        split at h3
        · cases h3
        · next vs r h2 =>
          injection h3 with h3
          injection h3 with h3 h4
          injection h3 with h5 h6
          subst h5 h6 h4
          rw [takeN] at h2
          split at h2
          · cases h2
          · next v2 s2 h7 =>
            split at h2
            · cases h2
            · next vs2 r2 h8 =>
              injection h2 with h2
              injection h2 with h2 h9
              injection h2 with h10 h11
              subst h10 h11 h9
              rw [takeN] at h8
              split at h8
              · cases h8
              · next v3 s3 h12 =>
                rw [takeN] at h8
                injection h8 with h8
                injection h8 with h8 h13
                injection h8 with h14 _
                subst h14 h13
                rw [(takeL_some h1).2, (takeL_some h7).2, (takeL_some h12).2]
                simp [putN]
    · cases h
  · cases h
theorem may_i64 {k p m : Int} (h : MayN k p m) : ∀ x ∈ [k, p, m], I64 x := by
  unfold MayN at h
  intro x hx
  simp at hx
  unfold I64
  rcases hx with rfl | rfl | rfl <;> omega
theorem decF_put {k p m : Int} (h : MayN k p m) : decF (putN [k, p, m]) = some ⟨k, p, m⟩ := by
  have := takeN_put [k, p, m] (may_i64 h) []
  rw [List.append_nil] at this
  unfold decF
  rw [show 3 = [k, p, m].length from rfl, this]
  simp [h]
def EncIs (k p m : Int) (s : ByteArray) (E : Int) : Prop := (MayN k p m ∧ s = str (putN [k, p, m]) ∧ E = 0) ∨ (¬ MayN k p m ∧ s = ⟨#[]⟩ ∧ E = 1)
theorem encIs_ex (k p m : Int) : ∃ s E, EncIs k p m s E := by
  by_cases h : MayN k p m
  · exact ⟨_, _, .inl ⟨h, rfl, rfl⟩⟩
  · exact ⟨_, _, .inr ⟨h, rfl, rfl⟩⟩
theorem box3 (w : World) (k p m : Int) : (w.alloc (.cells #[.int .i64 k, .int .i64 p, .int .i64 m] 50)).cell? ⟨w.heap.size, 0, none⟩ = some (.int .i64 k) ∧ (w.alloc (.cells #[.int .i64 k, .int .i64 p, .int .i64 m] 50)).cell? ⟨w.heap.size, 1, none⟩ = some (.int .i64 p) ∧ (w.alloc (.cells #[.int .i64 k, .int .i64 p, .int .i64 m] 50)).cell? ⟨w.heap.size, 2, none⟩ = some (.int .i64 m) := by
  refine ⟨?_, ?_, ?_⟩ <;> rw [World.cell?_alloc_at _ _ _ _ rfl] <;> rfl
set_option maxRecDepth 100000 in
set_option maxHeartbeats 2000000 in
theorem rmay12_walk (k p m : Int) (b : Bool) (w : World) (h : (MayN k p m ∧ b = true) ∨ (¬ MayN k p m ∧ b = false)) :
    Calls Try.prog 56 #[.agg #[.int .i64 k, .int .i64 p, .int .i64 m]] w fun e w' => e = .returned (.bool b) ∧ Below w.heap.size w w' := by
  have hal := balloc w (.cells #[.int .i64 k, .int .i64 p, .int .i64 m] 50)
  have hc : (p < 1 ∧ b = false) ∨ (¬ p < 1 ∧ 8 < p ∧ b = false) ∨ (¬ p < 1 ∧ ¬ 8 < p ∧ k < 1 ∧ b = false) ∨ (¬ p < 1 ∧ ¬ 8 < p ∧ ¬ k < 1 ∧ 5 < k ∧ b = false) ∨ (¬ p < 1 ∧ ¬ 8 < p ∧ ¬ k < 1 ∧ ¬ 5 < k ∧ ((k = 2 ∧ m < 1 ∧ b = false) ∨ (k = 2 ∧ 1 ≤ m ∧ m < 8192 ∧ b = true) ∨ (k = 2 ∧ 1 ≤ m ∧ ¬ m < 8192 ∧ b = false) ∨ (¬ k = 2 ∧ m = 0 ∧ b = true) ∨ (¬ k = 2 ∧ ¬ m = 0 ∧ b = false))) := by
    rcases h with ⟨h, rfl⟩ | ⟨h, rfl⟩ <;> unfold MayN at h <;> simp <;> omega
  clear h
  rcases hc with ⟨h1, rfl⟩ | ⟨h1, h2, rfl⟩ | ⟨h1, h2, h3, rfl⟩ | ⟨h1, h2, h3, h4, rfl⟩ | ⟨h1, h2, h3, h4, h5⟩
  any_goals
    go_enter Try.func56, Try.ntmps56
    go_wp2_with fail
    go_ret
    exact ⟨rfl, hal⟩
  rcases h5 with ⟨rfl, h6, rfl⟩ | ⟨rfl, h6, h7, rfl⟩ | ⟨rfl, h6, h7, rfl⟩ | ⟨h6, rfl, rfl⟩ | ⟨h6, h7, rfl⟩
  · have d1 : decide (1 ≤ m) = false := decide_eq_false (by omega)
    go_enter Try.func56, Try.ntmps56
    go_wp2_with fail
    go_ret
    exact ⟨rfl, hal⟩
  · have d1 : decide (1 ≤ m) = true := decide_eq_true (by omega)
    have d2 : decide (m < 8192) = true := decide_eq_true (by omega)
    go_enter Try.func56, Try.ntmps56
    go_wp2_with fail
    go_ret
    exact ⟨rfl, hal⟩
  · have d1 : decide (1 ≤ m) = true := decide_eq_true (by omega)
    have d2 : decide (m < 8192) = false := decide_eq_false (by omega)
    go_enter Try.func56, Try.ntmps56
    go_wp2_with fail
    go_ret
    exact ⟨rfl, hal⟩
  · have d1 : (k == 2) = false := beq_eq_false_iff_ne.2 h6
    go_enter Try.func56, Try.ntmps56
    go_wp2_with fail
    go_ret
    exact ⟨rfl, hal⟩
  · have d1 : (k == 2) = false := beq_eq_false_iff_ne.2 h6
    have d2 : (m == 0) = false := beq_eq_false_iff_ne.2 h7
    go_enter Try.func56, Try.ntmps56
    go_wp2_with fail
    go_ret
    exact ⟨rfl, hal⟩
set_option maxRecDepth 100000 in
set_option maxHeartbeats 2000000 in
theorem tenc_walk (k p m : Int) (s : ByteArray) (E : Int) (w : World) (h : EncIs k p m s E) :
    Calls Try.prog 29 #[.agg #[.int .i64 k, .int .i64 p, .int .i64 m]] w fun e w' => e = .returned (.tuple #[.string s, .int .i64 E]) ∧ Below w.heap.size w w' := by
  have hal := balloc w (.cells #[.int .i64 k, .int .i64 p, .int .i64 m] 50)
  obtain ⟨q0, q1, q2⟩ := box3 w k p m
  have hzz : w.heap.size < (w.alloc (.cells #[.int .i64 k, .int .i64 p, .int .i64 m] 50)).heap.size := by simp
  have HC := Lib.hid (fun w => tcheck_walk k p m E w (by rcases h with ⟨h, _, rfl⟩ | ⟨h, _, rfl⟩; exact .inl ⟨h, rfl⟩; exact .inr ⟨h, rfl⟩))
  rcases h with ⟨h, rfl, rfl⟩ | ⟨h, rfl, rfl⟩
  · have HM := Lib.hid (may_i64 h)
    clear h
    go_enter Try.func29, Try.ntmps29
    go_wp2_with fail
    refine (HC.out _).mono ?_
    rintro e w1 ⟨rfl, g1⟩
    have q0 := (g1.cell (p := ⟨w.heap.size, 0, none⟩) hzz).trans q0
    have q1 := (g1.cell (p := ⟨w.heap.size, 1, none⟩) hzz).trans q1
    have q2 := (g1.cell (p := ⟨w.heap.size, 2, none⟩) hzz).trans q2
    have b1 := gtrans hal g1
    clear hal g1
    go_wp2_with fail
    refine (put_all_walk _ 3 _ _ [k, p, m] _ rfl (by omega) (sl_fresh _ (i64s [k, p, m]) 3) (Nat.le_refl _) HM.out).mono ?_
    rintro e w2 ⟨rfl, g2⟩
    go_wp2_with fail
    go_ret2
    exact ⟨rfl, gtrans (gtrans b1 (balloc _ _)) g2⟩
  · clear h
    go_enter Try.func29, Try.ntmps29
    go_wp2_with fail
    refine (HC.out _).mono ?_
    rintro e w1 ⟨rfl, g1⟩
    go_wp2_with fail
    go_ret2
    exact ⟨rfl, gtrans hal g1⟩
set_option maxRecDepth 100000 in
set_option maxHeartbeats 2000000 in
theorem renc12_walk (k p m : Int) (s : ByteArray) (E : Int) (w : World) (h : EncIs k p m s E) :
    Calls Try.prog 30 #[.agg #[.int .i64 k, .int .i64 p, .int .i64 m]] w fun e w' => e = .returned (.tuple #[.string s, .int .i64 E]) ∧ Below w.heap.size w w' := by
  have hal := balloc w (.cells #[.int .i64 k, .int .i64 p, .int .i64 m] 50)
  obtain ⟨q0, q1, q2⟩ := box3 w k p m
  have hzz : w.heap.size < (w.alloc (.cells #[.int .i64 k, .int .i64 p, .int .i64 m] 50)).heap.size := by simp
  rcases h with ⟨h, rfl, rfl⟩ | ⟨h, rfl, rfl⟩
  · have HM := Lib.hid (may_i64 h)
    have HC := Lib.hid (fun w => rmay12_walk k p m true w (.inl ⟨h, rfl⟩))
    clear h
    go_enter Try.func30, Try.ntmps30
    go_wp2_with fail
    refine (HC.out _).mono ?_
    rintro e w1 ⟨rfl, g1⟩
    have q0 := (g1.cell (p := ⟨w.heap.size, 0, none⟩) hzz).trans q0
    have q1 := (g1.cell (p := ⟨w.heap.size, 1, none⟩) hzz).trans q1
    have q2 := (g1.cell (p := ⟨w.heap.size, 2, none⟩) hzz).trans q2
    have b1 := gtrans hal g1
    clear hal g1
    go_wp2_with fail
    refine (ref_all_walk _ 3 _ _ [k, p, m] _ rfl (by omega) (sl_fresh _ (i64s [k, p, m]) 3) (Nat.le_refl _) HM.out).mono ?_
    rintro e w2 ⟨rfl, g2⟩
    go_wp2_with fail
    go_ret2
    exact ⟨rfl, gtrans (gtrans b1 (balloc _ _)) g2⟩
  · have HC := Lib.hid (fun w => rmay12_walk k p m false w (.inr ⟨h, rfl⟩))
    clear h
    go_enter Try.func30, Try.ntmps30
    go_wp2_with fail
    refine (HC.out _).mono ?_
    rintro e w1 ⟨rfl, g1⟩
    go_wp2_with fail
    go_ret2
    exact ⟨rfl, gtrans hal g1⟩
end Go.Proofs.Ytfjnmjibifefgaa

/- The walk of headgatelaw02.Turned. -/
import Derived.Test.YteckddlcecleaaaInfo
import Derived.Test.YteckddlcecleaaaCrc
import Derived.Test.YteckddlcecleaaaTurnedMath
import Derived.BigRegion
import Derived.IntWalk
namespace Go.Proofs.Yteckddlcecleaaa
open Go.RowKit Vm Cm
set_option linter.unusedVariables false

theorem xor8 (a b : Nat) (ha : a < 256) (hb : b < 256) : bits .xor .u8 (a : Int) (b : Int) = ((a ^^^ b : Nat) : Int) := by
  have hx : a ^^^ b < 2 ^ 8 := Nat.xor_lt_two_pow (by omega) (by omega)
  have h1 : (BitVec.ofInt 8 (a : Int)).toNat = a := by
    rw [BitVec.ofInt_natCast, BitVec.toNat_ofNat]; exact Nat.mod_eq_of_lt (by omega)
  have h2 : (BitVec.ofInt 8 (b : Int)).toNat = b := by
    rw [BitVec.ofInt_natCast, BitVec.toNat_ofNat]; exact Nat.mod_eq_of_lt (by omega)
  show IntKind.u8.wrap ((BitVec.ofInt 8 (a : Int) ^^^ BitVec.ofInt 8 (b : Int)).toNat : Int) = _
  rw [BitVec.toNat_xor, h1, h2, IntKind.wrap_u8]
  omega
/-- The bytes of a block of the call's own. -/
def BytesAt (w : World) (g : Nat) (l : List UInt8) : Prop :=
  ∀ j (h : j < l.length), w.cell? ⟨g, j, none⟩ = some (.int .u8 (l[j].toNat : Int)) ∧ w.frozen? ⟨g, j, none⟩ = false

theorem BytesAt.start (w : World) (s : ByteArray) (cap : Nat) (T : TypeId) :
    BytesAt (w.alloc (.cells (bytesRow s cap) T ((bytesRow s cap).size, (bytesRow s cap).size + 1))) w.heap.size s.data.toList := by
  intro j hj
  have hj2 : j < s.data.size := by simpa using hj
  refine ⟨?_, ?_⟩
  · rw [World.cell?_alloc_mark]
    have hj3 : j < s.size := hj2
    simp [bytesRow, Array.getElem?_append, hj3]
  · rw [World.frozen?_alloc_mark]
    have hz : s.data.size ≤ (bytesRow s cap).size := by simp [bytesRow]
    have : ¬ (bytesRow s cap).size ≤ j := by omega
    simp [this]
theorem BytesAt.set {w : World} {g : Nat} {l : List UInt8} (h : BytesAt w g l) (k : Nat) (hk : k < l.length) (x : UInt8) :
    BytesAt (w.setCell ⟨g, k, none⟩ (.int .u8 (x.toNat : Int))) g (l.set k x) := by
  intro j hj
  rw [List.length_set] at hj
  obtain ⟨h1, h2⟩ := h j hj
  refine ⟨?_, by rw [World.frozen?_setCell]; exact h2⟩
  by_cases e : k = j
  · subst e
    rw [World.cell?_setCell_same (h := h1)]; simp
  · have hne : (⟨g, k, none⟩ : Addr) ≠ ⟨g, j, none⟩ := by simp
    rw [World.cell?_setCell_other (h := hne), h1]
    simp [e]

/-- What Turned answers: a text as long, other than s by so many bits from a place on. -/
def TurnedPost (s : ByteArray) (at' : Nat) (w : World) (e : Ending) (w' : World) : Prop :=
  ∃ (b : List UInt8) (X : Nat), e = .returned (.string (str b)) ∧ b.length = s.size ∧ X < 4294967296 ∧ num b = num s.data.toList ^^^ (X * 2 ^ at') ∧ Below w.heap.size w w'
set_option maxRecDepth 100000 in
set_option maxHeartbeats 2000000 in
theorem turned_walk (s : ByteArray) (at' M : Nat) (w : World) (hs : s.size ≤ 140737488355328) (ha : at' < 8 * s.size) (hM : M < 4294967296) :
    Calls Try.prog 15 #[.string s, .int .i64 at', .int .u32 M] w (TurnedPost s at' w) := by
  have hconv := fun w => run_bytes_of_string (P := Try.prog) w 9 66 5 s Try.underlying9 Try.underlying66 Try.underlying5
  go_enter Try.func15, Try.ntmps15
  go_wp2
  go_loopw [8] (fun i wr => ∃ (k X : Nat) (b : List UInt8), k ≤ 32 ∧ i = .int .i64 k ∧ b.length = s.size ∧ X < 2 ^ k ∧ Hid (num b = num s.data.toList ^^^ (X * 2 ^ at')) ∧ BytesAt wr w.heap.size b ∧ Below w.heap.size w wr) (fun i _ => 32 - (intOf i).toNat)
  case atStart => exact ⟨0, 0, s.data.toList, by omega, rfl, by simp, by omega, Lib.hid (by simp), BytesAt.start _ _ _ _, ((Below.refl _ _).alloc (Nat.le_refl _) _).drew⟩
  case round =>
    obtain ⟨k, X, b, hk, rfl, hbl, hX, HN, hby, hb⟩ := hrel
    by_cases hg : k < 32 ∧ at' + k < 8 * s.size
    · obtain ⟨g1, g2⟩ := hg
      have g3 : (at' : Int) + (k : Int) < 8 * (s.size : Int) := by omega
      obtain ⟨q, j, hqj, hj8⟩ : ∃ q j, at' + k = 8 * q + j ∧ j < 8 := ⟨(at' + k) / 8, (at' + k) % 8, by omega, by omega⟩
      have hq : q < b.length := by omega
      obtain ⟨c1, c2⟩ := hby q hq
      have hqs : (q : Int) < (s.size : Int) := by omega
      have hdiv : ((at' : Int) + (k : Int)) / 8 = (q : Int) := by omega
      have hmod : ((at' : Int) + (k : Int)) % 8 = (j : Int) := by omega
      have hz := hb.size
      by_cases hbit : (bits BinOp.and IntKind.u32 ((M : Int) / 2 ^ k) 1 == 1) = true
      · go_wp2_with fail
        go_region
        go_wp2
        have hx8 : (UInt8.ofNat (2 ^ j)).toNat = 2 ^ j := by
          have : 2 ^ j ≤ 2 ^ 7 := Nat.pow_le_pow_right (by omega) (by omega)
          simp; omega
        have hp8 : (2 : Int) ^ j % 256 = ((2 ^ j : Nat) : Int) := by
          have : 2 ^ j ≤ 2 ^ 7 := Nat.pow_le_pow_right (by omega) (by omega)
          have e : ((2 ^ j : Nat) : Int) = (2 : Int) ^ j := by simp
          rw [← e]
          omega
        have hv : bits BinOp.xor IntKind.u8 (b[q].toNat : Int) (2 ^ j % 256) = ((b[q] ^^^ UInt8.ofNat (2 ^ j)).toNat : Int) := by
          rw [hp8, xor8 _ _ b[q].toNat_lt (by rw [← hx8]; exact UInt8.toNat_lt _), UInt8.toNat_xor, hx8]
        obtain ⟨m1, m2⟩ := turn_more hX HN.out
        have hset := num_set b q (UInt8.ofNat (2 ^ j)) hq
        rw [hx8, show (2 : Nat) ^ j * 256 ^ q = 2 ^ (at' + k) from by rw [hqj, Nat.pow_add, Nat.pow_mul, Nat.mul_comm], m1] at hset
        go_roundw
        case rel => exact ⟨k + 1, X ^^^ 2 ^ k, b.set q (b[q] ^^^ UInt8.ofNat (2 ^ j)), by omega, by go_num, by simpa using hbl, m2, Lib.hid hset, by rw [hv]; exact hby.set q hq _, (hb.setCell (Nat.le_refl _) _).drew⟩
        case measure => simp [intOf]; omega
      · have hbit2 : (bits BinOp.and IntKind.u32 ((M : Int) / 2 ^ k) 1 == 1) = false := by simpa using hbit
        clear hbit hdiv hmod c1 c2
        go_wp2
        go_roundw
        case rel => exact ⟨k + 1, X, b, by omega, by go_num, hbl, by rw [Nat.pow_succ]; omega, HN, hby, hb⟩
        case measure => simp [intOf]; omega
    · have hback := run_convert_bytes_back (P := Try.prog) wr 66 9 5 ⟨w.heap.size, 0, none⟩ (grownCap w s.size 0 5) b Try.underlying66 Try.underlying5 Try.underlying9 (fun j hj => by rw [add_at]; simpa using (hby j hj).1)
      rw [hbl] at hback
      have hXX : X < 4294967296 := Nat.lt_of_lt_of_le hX (by have : 2 ^ k ≤ 2 ^ 32 := Nat.pow_le_pow_right (by omega) hk; omega)
      by_cases hk2 : k < 32
      · have g3 : ¬ (at' : Int) + (k : Int) < 8 * (s.size : Int) := by omega
        clear hg
        go_wp2
        go_ret
        exact ⟨b, X, rfl, hbl, hXX, HN.out, hb⟩
      · clear hg
        go_wp2
        go_ret
        exact ⟨b, X, rfl, hbl, hXX, HN.out, hb⟩
end Go.Proofs.Yteckddlcecleaaa

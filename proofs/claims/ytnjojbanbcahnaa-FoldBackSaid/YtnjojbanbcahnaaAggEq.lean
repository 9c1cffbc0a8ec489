/- '==' of what numbers came to, of classes: equal values are equal. -/
import Derived.Test.YtnjojbanbcahnaaFoldAdd
import Derived.ChangeKeysEq
namespace Go.Proofs.Ytnjojbanbcahnaa
open Go.RowKit Vm Fo
set_option linter.unusedVariables false
set_option linter.unusedSimpArgs false

theorem info_int : (Try.prog.info? 3).isSome = true := by kernel_rfl
theorem cells_int : Try.prog.cellsOf 3 = 1 := by kernel_rfl
theorem plain_int : Try.prog.plainKey 3 = true := by kernel_rfl
theorem part_int {xs : Array Value} {off : Nat} {v : Value} (w : World) (hx : xs[off]? = some v) : (part 3 xs off).run Try.prog w = .ok v w := run_part_plain w plain_int hx
theorem items_eq (d : Nat) (xs : Array Value) (w : World) (is : List Nat) (h : ∀ i ∈ is, ∃ n : Int, xs[i]? = some (.int .i64 n)) :
    (Op.eqItems (d + 1) 3 1 xs xs is).run Try.prog w = .ok true w := by
  induction is with
  | nil => simp [Op.eqItems]
  | cons i is ih =>
    obtain ⟨n, hn⟩ := h i (by simp)
    have hp := part_int (xs := xs) (off := i * 1) w (by rw [Nat.mul_one]; exact hn)
    have he := run_equalIn_int w d 3 .i64 .i64 n n Try.underlying3
    rw [beq_self_eq_true] at he
    simp only [Op.eqItems, Sem.run_bind, hp, Result.andThen_ok, he, Bool.not_true, Bool.false_eq_true, if_false]
    exact ih (fun j hj => h j (by simp [hj]))
theorem arr_eq (d : Nat) (a0 a1 a2 a3 : Int) (w : World) :
    (Op.equalIn (d + 1 + 1) 51 (.agg #[.int .i64 a0, .int .i64 a1, .int .i64 a2, .int .i64 a3]) (.agg #[.int .i64 a0, .int .i64 a1, .int .i64 a2, .int .i64 a3])).run Try.prog w = .ok true w := by
  obtain ⟨i, hi⟩ := Option.isSome_iff_exists.1 info_int
  rw [run_equalIn_array w (d + 1) _ _ Try.underlying51 hi, cells_int]
  refine items_eq d _ w _ fun j hj => ?_
  have : j < 4 := List.mem_range.1 hj
  match j, this with
  | 0, _ => exact ⟨a0, rfl⟩
  | 1, _ => exact ⟨a1, rfl⟩
  | 2, _ => exact ⟨a2, rfl⟩
  | 3, _ => exact ⟨a3, rfl⟩
theorem hist_eq (a0 a1 a2 a3 : Int) (w : World) :
    (binOp .eql 51 (.agg #[.int .i64 a0, .int .i64 a1, .int .i64 a2, .int .i64 a3]) (.agg #[.int .i64 a0, .int .i64 a1, .int .i64 a2, .int .i64 a3])).run Try.prog w = .ok (.bool true) w := by
  rw [run_eql_struct, arr_eq 9998]; rfl
theorem part_arr (a0 a1 a2 a3 a4 a5 a6 a7 a8 a9 : Int) (w : World) :
    (part 51 #[.int .i64 a0, .int .i64 a1, .int .i64 a2, .int .i64 a3, .int .i64 a4, .int .i64 a5, .int .i64 a6, .int .i64 a7, .int .i64 a8, .int .i64 a9] 4).run Try.prog w = .ok (.agg #[.int .i64 a4, .int .i64 a5, .int .i64 a6, .int .i64 a7]) w := by
  kernel_rfl
theorem agg_eq (a : Ag) (w : World) : (binOp .eql 53 (av a) (av a)).run Try.prog w = .ok (.bool true) w := by
  obtain ⟨a0, a1, a2, a3, a4, a5, a6, a7, a8, a9⟩ := a
  have hp := part_arr a0 a1 a2 a3 a4 a5 a6 a7 a8 a9
  have ha := arr_eq 9997 a4 a5 a6 a7
  rw [run_eql_struct]
  go_simp
end Go.Proofs.Ytnjojbanbcahnaa

/- For the laws: a group behind so many deeds. -/
import Derived.Test.YtocmhmfaehnliaaGrDoes
import Derived.Test.YtocmhmfaehnliaaGdOpen
namespace Go.Proofs.Ytocmhmfaehnliaa
open Go.RowKit Vm As
set_option linter.unusedVariables false
set_option linter.unusedSimpArgs false

def runG (G : Gr) (l : List Gd) : Nat → Gr
  | 0 => G
  | k + 1 => doesG (runG G l k) (l.getD k gd0)
theorem runG_ok {G : Gr} {l : List Gd} (h : GOk G 0) : ∀ k, GOk (runG G l k) k
  | 0 => h
  | k + 1 => doesY_ok (runG_ok h k)
theorem hasI_cnt {L : List Mb} {id : Int} : hasI L id = true ↔ cnt (idsL L) id ≠ 0 := by
  unfold hasI cnt idsL
  rw [List.any_eq_true]
  constructor
  · rintro ⟨m, hm, he⟩
    have : id ∈ L.map Mb.i := by
      have he : m.i = id := by simpa using he
      exact he ▸ List.mem_map_of_mem hm
    have := List.count_pos_iff.2 this
    omega
  · intro h
    obtain ⟨m, hm, he⟩ := List.mem_map.1 (List.count_pos_iff.1 (Nat.pos_of_ne_zero h))
    exact ⟨m, hm, by simpa using he⟩
theorem Sl.gd5 {w : World} {B : Nat} {a : Option Addr} {l : List Gd} (h : Sl w B a (gdCells l)) {k : Nat} (hk : k < l.length) : ∃ b off, a = some ⟨b, off, none⟩ ∧ b < B ∧ w.cell? ⟨b, off + k * 5, none⟩ = some (.int .i64 (l.getD k gd0).k) ∧ w.cell? ⟨b, off + k * 5 + 1, none⟩ = some (.int .i64 (l.getD k gd0).a) ∧ w.cell? ⟨b, off + k * 5 + 2, none⟩ = some (.int .i64 (l.getD k gd0).b) ∧ w.cell? ⟨b, off + k * 5 + 3, none⟩ = some (.int .i64 (l.getD k gd0).p) ∧ w.cell? ⟨b, off + k * 5 + 4, none⟩ = some (.bool (l.getD k gd0).n) := by
  obtain ⟨b, off, e, hb, hc⟩ := h.gd (by omega)
  obtain ⟨h0, h1, h2, h3, h4⟩ := hc k hk
  exact ⟨b, off, e, hb, h0, h1, h2, h3, h4⟩
end Go.Proofs.Ytocmhmfaehnliaa

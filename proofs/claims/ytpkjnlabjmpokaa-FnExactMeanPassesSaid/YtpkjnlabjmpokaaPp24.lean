/-
  Contract: what the model takes for rows. Conditions: at most 2^20 numbers together.
-/
import Derived.Test.YtpkjnlabjmpokaaPp19
import Derived.Test.YtpkjnlabjmpokaaPp12
import Derived.IntWalk
import Derived.RangeFuncBox
import Derived.Maps.AppendAt

namespace Go.Proofs.Ytpkjnlabjmpokaa.AreSC
open Go.RowKit SeesC IntsC ExactC OrdMath InC OrderC ListsC ListsEC ListsFC LLC QueM PassM RowsM AreM

theorem take_snocI {r : List Int} {k : Nat} {x : Int} (h : k < r.length ∧ r.getD k 0 = x) : r.take (k + 1) = r.take k ++ [x] := by
  obtain ⟨h1, rfl⟩ := h
  rw [List.take_succ_eq_append_getElem h1]; simp [h1]

/-- The numbers of a row that is not empty. -/
theorem row_cells {W : World} {u : Option Addr} {m c : Nat} {r : List Int} (h : Sees W (.slice u m c) m (vals r)) (hm : 0 < m) :
    ∃ b o, u = some ⟨b, o, none⟩ ∧ ∀ q, q < m → W.cell? ⟨b, o + q, none⟩ = some (.int .i64 (r.getD q 0)) := by
  obtain ⟨b, o, cap, he, _, hl, _, hc⟩ := sees_cells h hm
  cases he
  exact ⟨b, o, rfl, fun q hq => hc q (by omega)⟩

end Go.Proofs.Ytpkjnlabjmpokaa.AreSC

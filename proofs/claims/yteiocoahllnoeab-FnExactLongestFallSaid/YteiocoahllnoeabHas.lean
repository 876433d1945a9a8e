/-
  Contracts: the program's places of a pattern, and whether a list contains it. Conditions: lists of at most 7 different numbers, patterns that are orders.
-/
import Derived.Test.YteiocoahllnoeabPlaces
namespace Go.Proofs.Yteiocoahllnoeab.HasC
open Go.RowKit SeesC IntsC ExactC OrdMath InC OrderC PatMath ShapeC ListsC ListsEC ListsFC PlacesC

/-- A call of a function of the program's own enters it. -/
theorem run_enter {P : Program} {f : FuncId} {fn : Func} {c : Code} (hf : P.funcs[f]? = some fn) (hname : (fn.name == "runtime.NumGoroutine") = false) (hb : fn.body = some c) (args : Array Value) (w : World) : Sem.run P (callFunc f args) w = .ok (.enter f args) w := by
  have h1 : fn.name ≠ "runtime.NumGoroutine" := by simpa using hname
  simp [callFunc, hf, h1, hb]

theorem sees_at {w : World} {b o n cap : Nat} {zs : List Int} (h : Sees w (.slice (some ⟨b, o, none⟩) n cap) n (vals zs)) {j : Nat} (hj : j < n) {x : Int} (hx : zs.getD j 0 = x) : w.cell? ⟨b, o + j, none⟩ = some (.int .i64 x) := by
  have hl : zs.length = n := by simpa using h.1
  obtain ⟨_, a, c, e, _, hc⟩ := h
  cases e
  obtain ⟨b', o', e, hcell⟩ := hc (by omega)
  cases e
  exact hcell j _ (by rw [← hx]; simp [show j < zs.length by omega])

theorem nat_at {q : List Nat} {i p : Nat} (hi : i < q.length) (hp : q.getD i 0 = p) : (nat q).getD i 0 = (p : Int) := by
  have e1 : q[i] = p := by rw [← hp]; simp [hi]
  show (List.map _ q).getD i 0 = _
  simp [hi, e1]

theorem nat_len (q : List Nat) : (nat q).length = q.length := by
  show (List.map _ q).length = _
  rw [List.length_map]

theorem cell_new (W : World) (v : Value) (t : TypeId) : (W.alloc (.cells #[v] t)).cell? ⟨W.heap.size, 0, none⟩ = some v := by
  have := cell_one_new W v t 0 v rfl
  have e0 : (⟨W.heap.size, 0, none⟩ : Addr).add 0 = ⟨W.heap.size, 0, none⟩ := by unfold Addr.add; split <;> simp_all
  rwa [e0] at this

/-- The value of owned lists. -/
theorem lists_value {w : World} {base n : Nat} {v : Value} {L : List (List Value)} (h : Lists w base n v L) : ∃ a c, v = .slice a L.length c := by
  obtain ⟨gs, _, h2, _, _, _⟩ := h
  rcases h2.2 with ⟨rfl, h0⟩ | ⟨g, cap, cur, rfl, _⟩
  · rw [h0]; exact ⟨none, 0, rfl⟩
  · exact ⟨_, _, rfl⟩

theorem places_many {zs pat : List Int} (hn : zs.length ≤ 7) (hp : Ord pat) : (placesOf zs pat).length ≤ 823543 :=
  Nat.le_trans (List.length_filter_le _ _) (ch_823543 hn hp.2.1)

end Go.Proofs.Yteiocoahllnoeab.HasC

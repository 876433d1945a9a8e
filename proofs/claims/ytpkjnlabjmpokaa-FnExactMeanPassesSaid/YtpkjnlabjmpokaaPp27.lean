/-
  Contract: the model puts a list to its place among sorted lists. Conditions: at most 1000 lists of one length.
-/
import Derived.Test.YtpkjnlabjmpokaaPp12
import Derived.Test.YtpkjnlabjmpokaaPp17
import Derived.IntWalk
import Derived.BigQuiet
import Derived.Deep.QuietTactic
import Derived.Maps.AppendAt

namespace Go.Proofs.Ytpkjnlabjmpokaa.PutC
open Go.RowKit SeesC IntsC ExactC CmpC ListsC ListsBC ListsCC IterC

theorem infoL : (Try.prog.info? 22).map (fun i => (i.zero, i.size, i.bytes)) = some (some (.slice none 0 0), 1, 24) := by kernel_rfl

/-- An order has come to its place. -/
def PutTo (w : World) (base n : Nat) (L : List (List Int)) (o : List Int) (e : Ending) (w' : World) : Prop :=
  ∃ g c k : Nat, e = .returned (.slice (some ⟨g, 0, none⟩) (L.length + 1) c) ∧ k ≤ L.length ∧ (∀ j, j < k → cmpL (L.getD j []) o < 0) ∧ (k < L.length → ¬ cmpL (L.getD k []) o < 0) ∧
    Lists w' base n (.slice (some ⟨g, 0, none⟩) (L.length + 1) c) ((L.take k ++ [o] ++ L.drop k).map vals) ∧ Below w.heap.size w w'

theorem sl_one (n : Nat) (gs : List (Nat × Nat)) : ∀ u ∈ gs.map (sl n), u.oneCell' = true := by
  intro u hu
  rw [List.mem_map] at hu
  obtain ⟨p, _, rfl⟩ := hu
  rfl

theorem ins_getD {α : Type} (A : List α) (k : Nat) (hk : k ≤ A.length) (x d : α) (i : Nat) : (A.take k ++ [x] ++ A.drop k).getD i d = if i < k then A.getD i d else if i = k then x else A.getD (i - 1) d := by
  have hl : (A.take k).length = k := by rw [List.length_take]; omega
  rw [List.append_assoc]
  by_cases h1 : i < k
  · rw [if_pos h1, List.getD_eq_getElem?_getD, List.getElem?_append_left (by omega), List.getElem?_take_of_lt h1, List.getD_eq_getElem?_getD]
  · rw [if_neg h1, List.getD_eq_getElem?_getD, List.getElem?_append_right (by omega), hl]
    by_cases h2 : i = k
    · subst h2; simp
    · rw [if_neg h2]
      obtain ⟨m, hm⟩ : ∃ m, i - k = m + 1 := ⟨i - k - 1, by omega⟩
      rw [hm]
      simp only [List.singleton_append, List.getElem?_cons_succ, List.getElem?_drop]
      rw [List.getD_eq_getElem?_getD, show k + m = i - 1 by omega]

theorem own_heap {w w' : World} (h : w'.heap = w.heap) {base size n : Nat} {ty : TypeId} {v : Value} {xs : List Value} (ho : w.ownsRow base ty size v n xs) : w'.ownsRow base ty size v n xs := by
  unfold World.ownsRow at ho ⊢
  rw [h]; exact ho

theorem below_heap {w w' a : World} {B : Nat} (h : Below B a w) (h1 : w'.os = w.os) (h2 : w'.tape = w.tape) (h3 : w'.output = w.output) (h4 : w'.heap = w.heap) : Below B a w' := by
  exact ⟨h1.trans h.os, h2.trans h.tape, h3.trans h.output, by rw [h4]; exact h.size, fun q hq => by rw [h4]; exact h.block q hq⟩

theorem below_grown {X X0 X' a : World} {B : Nat} {row : Option Nat} (hg : X.grownBy X' row) (hb : Below B a X0) (hs : B ≤ X0.heap.size) (h1 : X.os = X0.os) (h2 : X.tape = X0.tape) (h3 : X.output = X0.output) (h4 : X.heap = X0.heap) (hr : ∀ k, row = some k → B ≤ k) : Below B a X' :=
  (below_heap hb h1 h2 h3 h4).grown hg (by rw [h4]; exact hs) hr

theorem cell_heap {w w' : World} (h : w'.heap = w.heap) {a : Addr} {u : Value} (hc : w.cell? a = some u) : w'.cell? a = some u := by
  unfold World.cell? at hc ⊢
  rw [h]; exact hc

theorem add_at (g k j : Nat) : (⟨g, k, none⟩ : Addr).add j = ⟨g, k + j, none⟩ := by unfold Addr.add; split <;> simp_all

theorem lists_put {X : World} {base n g c k : Nat} {gs : List (Nat × Nat)} {p : Nat × Nat} {L : List (List Int)} {o : List Int} (hg : gs.length = L.length) (hk : k ≤ L.length)
    (ho : X.ownsRow base 22 1 (.slice (some ⟨g, 0, none⟩) (L.length + 1) c) (L.length + 1) ((gs.take k ++ [p] ++ gs.drop k).map (sl n)))
    (hin : ∀ i, i < L.length → X.ownsRow base 3 1 (sl n (gs.getD i (0, 0))) n ((L.map vals).getD i [])) (hu : X.ownsRow base 3 1 (sl n p) n (vals o))
    (hnd : (gs.map (·.1)).Nodup) (hq : ∀ q ∈ gs, q.1 ≠ p.1) (hgq : ∀ q ∈ gs, q.1 ≠ g) (hgp : p.1 ≠ g) :
    Lists X base n (.slice (some ⟨g, 0, none⟩) (L.length + 1) c) ((L.take k ++ [o] ++ L.drop k).map vals) := by
  have e : (L.take k ++ [o] ++ L.drop k).map vals = (L.map vals).take k ++ [vals o] ++ (L.map vals).drop k := by simp [List.map_take, List.map_drop]
  have hperm : (gs.take k ++ [p] ++ gs.drop k).Perm (p :: gs) := by
    rw [List.append_assoc]
    refine List.perm_middle.trans ?_
    show (p :: (gs.take k ++ gs.drop k)).Perm (p :: gs)
    rw [List.take_append_drop]
  have hlen : ((L.take k ++ [o] ++ L.drop k).map vals).length = L.length + 1 := by simp; omega
  refine ⟨gs.take k ++ [p] ++ gs.drop k, by simp; omega, ?_, fun i hi => ?_, ?_, fun q hqm => ?_⟩
  · rw [hlen]; exact ho
  · rw [hlen] at hi
    rw [e, ins_getD gs k (by omega), ins_getD (L.map vals) k (by simp; omega)]
    by_cases h1 : i < k
    · rw [if_pos h1, if_pos h1]; exact hin i (by omega)
    · rw [if_neg h1, if_neg h1]
      by_cases h2 : i = k
      · rw [if_pos h2, if_pos h2]; exact hu
      · rw [if_neg h2, if_neg h2]; exact hin (i - 1) (by omega)
  · have := (hperm.map (·.1)).nodup_iff.2 (by
      simp only [List.map_cons, List.nodup_cons]
      refine ⟨fun hm => ?_, hnd⟩
      obtain ⟨q, hq1, hq2⟩ := List.mem_map.1 hm
      exact hq q hq1 hq2)
    exact this
  · have := hperm.mem_iff.1 hqm
    intro e2
    have e3 : g = q.1 := by simpa [Value.ownBlock] using e2
    rcases List.mem_cons.1 this with rfl | h
    · exact hgp e3.symm
    · exact hgq q h e3.symm

end Go.Proofs.Ytpkjnlabjmpokaa.PutC

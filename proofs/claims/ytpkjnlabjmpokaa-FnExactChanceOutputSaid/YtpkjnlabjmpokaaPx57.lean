/-
  Contract: the program's sweep. Conditions: an order.
-/
import Derived.Test.YtpkjnlabjmpokaaPx54
import Derived.Test.YtpkjnlabjmpokaaPx3
import Derived.Maps.AppendAt
import Derived.ArgAppend
import Derived.WalkSmall

namespace Go.Proofs.Ytpkjnlabjmpokaa.SweepIC
open Go.RowKit SeesC WordsC IntsC ExactC NumC IterC OrdMath WordMath OrdFacts InC OrderC AtC EndsM SweepM StackM CutStC

theorem sweep_sent {zs : List Int} {y : Int} (h : ∀ z ∈ zs, z < y) : (swTo (zs ++ [y]) (zs.length + 1)).1 = sweepL zs := by
  unfold swTo
  rw [List.take_of_length_le (by simp), List.foldl_append]
  obtain ⟨o, s, hr⟩ : ∃ o s, zs.foldl swF ([], []) = (o, s) := ⟨_, _, rfl⟩
  rw [hr]
  have hs : ∀ z ∈ s, z < y := by
    intro z hz
    have hp := sw_perm zs [] []
    rw [hr] at hp
    have h9 : z ∈ o ++ s := List.mem_append.2 (.inr hz)
    have := hp.mem_iff.1 h9
    exact h z (by simpa using this)
  show o ++ popd s y = _
  rw [popd_all hs]
  unfold sweepL
  rw [hr]

theorem drop_popd {st : List Int} {x : Int} {k : Nat} (h : st.take k = belw st x) : (st.drop k).reverse = popd st x := by
  have h1 := parts st x
  rw [← h] at h1
  have h2 : st.take k ++ (popd st x).reverse = st.take k ++ st.drop k := by rw [h1, List.take_append_drop]
  have h3 := List.append_cancel_left h2
  rw [← h3, List.reverse_reverse]

theorem setL_drop (st : List Int) (k : Nat) (hk : k ≤ st.length) : setL (vals st) k (vals (st.drop k).reverse) = vals (st.take k ++ (st.drop k).reverse) := by
  rw [setL_is _ _ _ (by simp; omega)]
  have e : (vals st).drop (k + (vals (st.drop k).reverse).length) = [] := List.drop_of_length_le (by simp; omega)
  rw [e, List.append_nil]
  unfold vals
  rw [← List.map_take, List.map_append]

theorem rev_set (st : List Int) (x : Int) (k m g c o' B : Nat) (w : World) (hst : st.length = m) (hkm : k ≤ m) (ho : k < m → o' = k) (htk : st.take k = belw st x) (hown : w.ownsRow B 3 1 (.slice (some ⟨g, 0, none⟩) m c) m (vals st)) :
    w.grownBy (w.setCells g o' (((st.drop k).take (m - k)).reverse.map (Value.int .i64))) (some g) ∧ (∀ j u, (vals (popd st x))[j]? = some u → (w.setCells g o' (((st.drop k).take (m - k)).reverse.map (Value.int .i64))).cell? ((⟨g, o', none⟩ : Addr).add j) = some u) := by
  have e0 : (st.drop k).take (m - k) = st.drop k := List.take_of_length_le (by simp; omega)
  have e1 := drop_popd htk
  rw [e0]
  by_cases h : k < m
  · obtain rfl := ho h
    have h1 := own_setCells (vals (st.drop o').reverse) w o' _ hown
    rw [setL_drop st o' (by omega)] at h1
    refine ⟨h1.2, fun j u hu => ?_⟩
    have h2 := h1.1.cells (g := g) rfl (o' + j) u (by
      have e9 : (st.take o').length = o' := by rw [List.length_take]; omega
      rw [show vals (st.take o' ++ (st.drop o').reverse) = vals (st.take o') ++ vals (st.drop o').reverse by simp, List.getElem?_append_right (by rw [vals_len, e9]; omega), vals_len, e9, Nat.add_sub_cancel_left, e1]
      exact hu)
    have e10 : ((⟨g, 0, none⟩ : Addr).add (o' + j)) = ((⟨g, o', none⟩ : Addr).add j) := by
      unfold Addr.add
      by_cases h0 : o' + j = 0
      · obtain ⟨rfl, rfl⟩ : o' = 0 ∧ j = 0 := by omega
        rfl
      · rw [if_neg h0]
        by_cases hj : j = 0
        · subst hj; rw [if_pos rfl]; simp
        · rw [if_neg hj]; simp
    rw [e10] at h2
    exact h2
  · have hk : k = m := by omega
    have e2 : st.drop k = [] := List.drop_of_length_le (by omega)
    rw [e2] at e1
    rw [e2, ← e1]
    exact ⟨⟨rfl, rfl, rfl, Nat.le_refl _, fun _ _ _ => rfl⟩, fun j u hu => by simp at hu⟩

end Go.Proofs.Ytpkjnlabjmpokaa.SweepIC

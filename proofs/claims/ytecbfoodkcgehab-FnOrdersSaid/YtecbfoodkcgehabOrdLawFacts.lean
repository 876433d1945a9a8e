/-
  The law on orders: what the answers are for one list, for one rank, for one text. Conditions: none. Plain facts: nothing of the program.
-/
import Derived.Test.YtecbfoodkcgehabOrdC
import Derived.IntWalk
namespace Go.Proofs.Ytecbfoodkcgehab.OrdLawFacts
open Go.RowKit SeesC IntsC ExactC OrdMath OrderC NumC TextC OrdFacts OrdC

theorem wf_small {n : Int} (h1 : -100000 ≤ n) (h2 : n ≤ 100000) : (Lit.int .i64 n).wf = true := by
  have e1 : IntKind.i64.min = -9223372036854775808 := rfl
  have e2 : IntKind.i64.max = 9223372036854775807 := rfl
  simp [Lit.wf, e1, e2]
  omega

theorem fact_le : ∀ {n : Nat}, n ≤ 7 → fact n ≤ 5040 := by
  intro n hn
  have : n = 0 ∨ n = 1 ∨ n = 2 ∨ n = 3 ∨ n = 4 ∨ n = 5 ∨ n = 6 ∨ n = 7 := by omega
  rcases this with rfl | rfl | rfl | rfl | rfl | rfl | rfl | rfl <;> decide

/-- What the second calls answer. -/
def Rest (zs iv bk ot : List Int) (rk mn : Int) : Prop :=
  ∃ (fw m1 m2 tt : Int), inverseAns iv = (zs, true) ∧ composeAns zs iv = (iota zs.length, true) ∧ backAns bk = (zs, true) ∧ otherAns ot = (zs, true) ∧ invsAns bk = (fw, true) ∧ atAns (zs.length : Nat) rk = (zs, true) ∧
    IntKind.i64.wrap (fw + mn) = tt ∧ IntKind.i64.wrap ((zs.length : Int) - 1) = m1 ∧ IntKind.i64.wrap ((zs.length : Int) * m1) = m2 ∧ m2.tdiv 2 = tt ∧ IntKind.i64.wrap tt = tt ∧ (Lit.int .i64 ((zs.length : Nat) : Int)).wf = true ∧ (Lit.int .i64 rk).wf = true

theorem facts_of (zs : List Int) (hz : zs.length ≤ 8) :
    ∃ (r : Bool) (iv bk ot : List Int) (rk mn : Int) (tx : ByteArray), isOrd zs = r ∧ inverseAns zs = (iv, r) ∧ backAns zs = (bk, r) ∧ otherAns zs = (ot, r) ∧ rankAns zs = (rk, r) ∧ invsAns zs = (mn, r) ∧ textAns zs = (tx, r) ∧
      iv.length ≤ 8 ∧ bk.length ≤ 8 ∧ ot.length ≤ 8 ∧ (r = true → Rest zs iv bk ot rk mn) := by
  by_cases h : Ord zs
  · refine ⟨true, invOf zs zs.length, zs.reverse, other zs, _, _, _, by simp [isOrd, h], by unfold inverseAns; rw [if_pos h], by unfold backAns; rw [if_pos h], by unfold otherAns; rw [if_pos h]; rfl, by unfold rankAns; rw [if_pos h], by unfold invsAns; rw [if_pos h], by unfold textAns; rw [if_pos h], by rw [invOf_len]; exact hz, by simpa using hz, by simpa [other] using hz, fun _ => ?_⟩
    have h7 := h.2.1
    have hr := at_of_rank h
    have hf := fact_le h7
    have hm := few_many h
    have ht := tri_is zs.length h7
    have htl : tri zs.length ≤ 21 := by
      have : ∀ n, n ≤ 7 → tri n ≤ 21 := by
        intro n hn
        have : n = 0 ∨ n = 1 ∨ n = 2 ∨ n = 3 ∨ n = 4 ∨ n = 5 ∨ n = 6 ∨ n = 7 := by omega
        rcases this with rfl | rfl | rfl | rfl | rfl | rfl | rfl | rfl <;> decide
      exact this _ h7
    have hmul : (0 : Int) ≤ (zs.length : Int) * ((zs.length : Int) - 1) ∧ (zs.length : Int) * ((zs.length : Int) - 1) ≤ 49 := by
      have h1 := h.1
      generalize zs.length = n at h1 h7
      have : n = 1 ∨ n = 2 ∨ n = 3 ∨ n = 4 ∨ n = 5 ∨ n = 6 ∨ n = 7 := by omega
      rcases this with rfl | rfl | rfl | rfl | rfl | rfl | rfl <;> decide
    refine ⟨_, (zs.length : Int) - 1, (zs.length : Int) * ((zs.length : Int) - 1), (tri zs.length : Nat), ?_, ?_, ?_, ?_, by unfold invsAns; rw [if_pos (ord_reverse h)], ?_, ?_, ?_, ?_, ?_, ?_, wf_small (by omega) (by omega), wf_small (by omega) (by omega)⟩
    · unfold inverseAns; rw [if_pos (ord_inverse h), inverse_inverse h]
    · unfold composeAns; rw [if_pos ⟨h, ord_inverse h, (invOf_len zs zs.length).symm⟩, compose_inverse h]
    · unfold backAns; rw [if_pos (ord_reverse h), List.reverse_reverse]
    · show otherAns (other zs) = _
      unfold otherAns; rw [if_pos (ord_other h)]; exact congrArg (·, true) (other_other zs)
    · unfold atAns
      rw [if_pos ⟨by have := h.1; omega, by omega, by omega, by rw [Int.toNat_natCast]; exact Int.ofNat_lt.2 hr.1⟩]
      rw [Int.toNat_natCast, Int.toNat_natCast, hr.2]
    · rw [IntWalk.i64_in _ (by omega)]; omega
    · exact IntWalk.i64_in _ (by omega)
    · exact IntWalk.i64_in _ (by omega)
    · exact ht.symm
    · exact IntWalk.i64_in _ (by omega)
  · exact ⟨false, [], [], [], 0, 0, ByteArray.empty, by simp [isOrd, h], by unfold inverseAns; rw [if_neg h], by unfold backAns; rw [if_neg h], by unfold otherAns; rw [if_neg h], by unfold rankAns; rw [if_neg h], by unfold invsAns; rw [if_neg h], by unfold textAns; rw [if_neg h], by simp, by simp, by simp, fun h => by cases h⟩

theorem facts_at (n k : Int) : ∃ (b : Bool) (l : List Int), atAns n k = (l, b) ∧ l.length ≤ 1000 ∧ (b = true → rankAns l = (k, true)) := by
  unfold atAns
  by_cases h : 1 ≤ n ∧ n ≤ 7 ∧ 0 ≤ k ∧ k < (fact n.toNat : Int)
  · rw [if_pos h]
    refine ⟨true, _, rfl, by rw [atRun_len]; omega, fun _ => ?_⟩
    have hr := rank_of_at (n := n.toNat) (k := k.toNat) (by omega) (by omega) (by omega)
    unfold rankAns
    rw [if_pos hr.1, hr.2]
    simp; omega
  · rw [if_neg h]
    exact ⟨false, [], rfl, by simp, fun h => by cases h⟩

theorem facts_parse (s : ByteArray) (hs : s.size ≤ 1000) : ∃ (b : Bool) (l : List Int), parseAns s = (l, b) ∧ l.length ≤ 1000 ∧ (b = true → textAns l = (s, true)) := by
  unfold parseAns
  by_cases h : s.size ≤ 7 ∧ Ord (raw s)
  · rw [if_pos h]
    refine ⟨true, _, rfl, by rw [raw_len]; exact hs, fun _ => ?_⟩
    unfold textAns
    rw [if_pos h.2, text_of_raw h.2]
  · rw [if_neg h]
    exact ⟨false, [], rfl, by simp, fun h => by cases h⟩

end Go.Proofs.Ytecbfoodkcgehab.OrdLawFacts

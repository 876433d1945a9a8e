/-
  The mathematics of FnEndsCounts, what its law compares. Conditions: none. Plain facts.
-/
import Derived.Test.YtpkjnlabjmpokabDoorPx44
import Derived.Test.YtpkjnlabjmpokabDoorPx37
import Derived.Test.YtpkjnlabjmpokabDoorPx39
import Derived.Test.YtpkjnlabjmpokabDoorPx34
import Derived.Test.YtpkjnlabjmpokabDoorPx38

namespace Go.Proofs.YtpkjnlabjmpokabDoor.ECFacts3
open NumC OrdMath OrdFacts WordMath EndM ERunM EPlC ToC WordFacts RunC EFacts EFacts2 ECFacts ECFacts2 ECNum AllO SwfM EndsM OutsMath EOSpC EOCtC EPcM ECanC EToC EToPC Sort4C EQuC Rank4C WordsC WordsOfC
set_option linter.unusedVariables false

theorem wf8 {t : Int} (h0 : 0 ≤ t) (h8 : t ≤ 8) : (Lit.int .i64 t).wf = true := by
  have e1 : IntKind.i64.min = -9223372036854775808 := rfl
  have e2 : IntKind.i64.max = 9223372036854775807 := rfl
  simp [Lit.wf, e1, e2]
  omega

theorem ob_one {zs : List Int} {ok : Bool} (h : isOrd zs = ok) : ∃ only : Nat, obAns zs = ((only : Int), ok) ∧ only ≤ 5040 ∧ (ok = true → only = ((allO zs.length).filter (cnt8 zs true)).length) := by
  unfold obAns
  cases ok with
  | true =>
    have ho : Ord zs := of_decide_eq_true h
    rw [if_pos ho]
    refine ⟨_, rfl, ?_, fun _ => rfl⟩
    have h7 := ho.2.1
    have := fact_7 h7
    have h2 := List.length_filter_le (cnt8 zs true) (allO zs.length)
    rw [allO_len] at h2
    omega
  | false =>
    have ho : ¬ Ord zs := of_decide_eq_false h
    rw [if_neg ho]
    exact ⟨0, rfl, by omega, fun h => by cases h⟩

theorem ce_two (n : Int) : ∃ (many : Nat) (two : Bool), ceAns n = ((many : Int), two) ∧ many ≤ 5040 ∧ (two = true → 1 ≤ n ∧ n ≤ 7 ∧ many = ((allO n.toNat).filter (eCan (iota n.toNat))).length) := by
  unfold ceAns
  split
  · rename_i h
    refine ⟨_, true, rfl, ?_, fun _ => ⟨h.1, h.2, rfl⟩⟩
    have h7 : n.toNat ≤ 7 := by omega
    have := fact_7 h7
    have h2 := List.length_filter_le (eCan (iota n.toNat)) (allO n.toNat)
    rw [allO_len] at h2
    omega
  · exact ⟨0, false, rfl, by omega, fun h => by cases h⟩

theorem cp_three (n : Int) : ∃ (plain : Nat) (three : Bool), cpAns n = ((plain : Int), three) ∧ (three = true → plain = cp (2 * n.toNat) n.toNat 0) := by
  unfold cpAns
  split
  · exact ⟨_, true, rfl, fun _ => rfl⟩
  · exact ⟨0, false, rfl, fun h => by cases h⟩

theorem many_plain {n m : Int} {many plain : Nat} {two three : Bool} (h1 : two = true → 1 ≤ n ∧ n ≤ 7 ∧ many = ((allO n.toNat).filter (eCan (iota n.toNat))).length) (h2 : three = true → plain = cp (2 * m.toNat) m.toNat 0) (ht : two = true) (hh : three = true) (hnm : n = m) : many ≤ plain := by
  obtain ⟨a, b, c⟩ := h1 ht
  rw [c, h2 hh, ← hnm]
  exact ce_le (by omega)

theorem can_four (xs : List Int) : ∃ (can four plainly : Bool), canAns xs = (can, four) ∧ isOrd xs = four ∧ (four = true → sortableAns xs = (plainly, true)) ∧ (four = true → plainly = true → can = true) := by
  unfold canAns sortableAns isOrd
  by_cases ho : Ord xs
  · rw [if_pos ho, if_pos ho]
    refine ⟨_, true, _, rfl, decide_eq_true ho, fun _ => rfl, fun _ h => ?_⟩
    rw [ECFacts2.optAns_isSome] at h ⊢
    exact can_sort ho.2.2.2 h
  · rw [if_neg ho]
    exact ⟨false, false, false, rfl, decide_eq_false ho, (fun h => by cases h), fun h => by cases h⟩

theorem qu_five (k : Int) : ∃ (q : ByteArray) (five : Bool), queueAns k = (q, five) ∧ q.size ≤ 14 ∧ (∀ zs : List Int, Ord zs → five = true → k = (zs.length : Int) → runEAns zs q = (zs, true)) := by
  unfold queueAns
  split
  · rename_i h
    refine ⟨_, true, rfl, ?_, fun zs ho _ hk => ?_⟩
    · rw [txt_size, queue_len (by omega)]
      omega
    · have e : k.toNat = zs.length := by omega
      rw [e]
      exact queue_run ho
  · exact ⟨ByteArray.empty, false, rfl, by decide, fun zs ho h => by cases h⟩

theorem all_facts {zs : List Int} {R : List (List Int)} {only : Nat} (ho : Ord zs) (hR : Outs8 zs R) (h : only = ((allO zs.length).filter (cnt8 zs true)).length) :
    wordsAns (zs.length : Int) = (allW zs.length, true) ∧ (allW zs.length).length + only = R.length ∧ (∀ (n : Int) (many : Nat), many = ((allO n.toNat).filter (eCan (iota n.toNat))).length → n = (zs.length : Int) → many = R.length) ∧
    (∀ y ∈ R, y.length = zs.length ∧ ∃ tw, endsAns zs y = (tw, true)) := by
  unfold Outs8 at hR
  rw [if_pos ho] at hR
  subst hR
  refine ⟨words_ans ho.1 ho.2.1, by rw [h]; exact words_only ho, fun n many hm hn => ?_, fun y hy => ?_⟩
  · have e : n.toNat = zs.length := by omega
    rw [hm, e]
    exact (outs_many ho).symm
  · have h2 := List.mem_filter.1 hy
    have h3 := (mem_allO ho.1 ho.2.1).1 h2.1
    refine ⟨h3.2, (optAns (eRes zs y)).1, ?_⟩
    unfold endsAns
    rw [if_pos ⟨ho, h3.1, h3.2.symm⟩]
    have h4 : (optAns (eRes zs y)).2 = true := h2.2
    rw [← h4]

end Go.Proofs.YtpkjnlabjmpokabDoor.ECFacts3

/-
  Contracts and plain facts that the laws' texts lean on. Conditions: as each states.
-/
import Derived.Test.YtnhhnffolmgceaaGreatPv44
import Derived.Test.YtnhhnffolmgceaaGreatPv34
import Derived.Test.YtnhhnffolmgceaaGreatPv42
import Derived.Test.YtnhhnffolmgceaaGreatPv37
import Derived.Test.YtnhhnffolmgceaaGreatPv10
import Derived.Test.YtnhhnffolmgceaaGreatPv13
import Derived.Test.YtnhhnffolmgceaaGreatPv33
import Derived.Test.YtnhhnffolmgceaaGreatPv45
import Derived.Test.YtnhhnffolmgceaaGreatPv46
import Derived.Test.YtnhhnffolmgceaaGreatPv15
import Derived.ChangeKeysEq
import Derived.DeepKeys

section
namespace Go.Proofs.YtnhhnffolmgceaaGreat.Pub7C
open Go.RowKit SeesC IntsC ExactC OrdMath InC OrderC BesM ListsC FewShC CntShC GoSC CanSC
set_option linter.unusedVariables false

theorem few7 {zs : List Int} (h : Ord zs) : fewest zs ≤ 7 := by have := fewest_le h.1; have := h.2.1; omega

end Go.Proofs.YtnhhnffolmgceaaGreat.Pub7C

end

section
namespace Go.Proofs.YtnhhnffolmgceaaGreat.ChChanceStacksIC
open Go.RowKit SeesC IntsC ExactC OrdMath AllO ListsC Arr2C ChM ChQ UsedC MeanOC ChanceOC OrdersIterC CollOC KnownC BesM Pub7C
set_option linter.unusedVariables false

def toldChanceStacks (zs : List Int) : Nat := fewest zs
def tellChanceStacks (k : Int) (zs : List Int) : Bool := ((toldChanceStacks zs : Nat) : Int) == k
def ansChanceStacks (n k : Int) : Nat × Nat × Bool := if 1 ≤ k ∧ k ≤ 4 then chAns n (fun m => meanL (allO m) (isT (tellChanceStacks k))) else (0, 0, false)

end Go.Proofs.YtnhhnffolmgceaaGreat.ChChanceStacksIC

end

section
namespace Go.Proofs.YtnhhnffolmgceaaGreat.Ch9G
open OrdMath OrdFacts AllO BesM ChM ChQ EndsM WordMath WordC WordsC WordFacts RunC ToC SwfM Ch9F Rank4C ChChanceOutputIC ChChanceDepthIC ChMeanDepthIC ChMeanKeptIC ChChanceStacksIC ChChanceSortsIC
set_option linter.unusedVariables false

theorem ch_le {n : Int} {q : Nat → Nat × Nat} {a b : Nat} {ok : Bool} (h : chAns n q = (a, b, ok)) : (ok = decide (1 ≤ n ∧ n ≤ 6)) ∧ (ok = true → (a, b) = q n.toNat) := by
  unfold chAns at h
  split at h
  · rename_i hn
    cases h
    exact ⟨(decide_eq_true hn).symm, fun _ => rfl⟩
  · rename_i hn
    cases h
    exact ⟨(decide_eq_false hn).symm, fun h => by cases h⟩

/-- What the law says of an order and its chance. -/
theorem out_facts {zs : List Int} {a b : Nat} {ok : Bool} (h : ansChanceOutput zs = (a, b, ok)) (hok : ok = true) : Ord zs ∧ wordsAns (zs.length : Int) = (allW zs.length, true) ∧ ∃ fw : Nat, fewestAns zs = ((fw : Int), true) ∧ fw ≤ 7 ∧ (decide ((0 : Int) < (a : Int)) != ((fw : Int) == 1)) = false ∧ (0 < a → a = 1 ∧ b = (allW zs.length).length) := by
  subst hok
  unfold ansChanceOutput at h
  split at h
  · rename_i ho
    have h1 := ch_le h
    have h16 := of_decide_eq_true h1.1.symm
    have hq := h1.2 rfl
    rw [Int.toNat_natCast] at hq
    have hn1 : 1 ≤ zs.length := ho.1
    have hn6 : zs.length ≤ 6 := by omega
    have hmem : zs ∈ allO zs.length := (mem_allO hn1 (by omega)).2 ⟨ho, rfl⟩
    have hf := few_srt hn1 hn6 hmem
    have e : (a, b) = cutF (if srt zs = true then 1 else 0) (allW zs.length).length := by
      rw [hq]
      unfold meanL
      rw [sumT_isT]
      have h3 : ((allW zs.length).filter (tellChanceOutput zs)).length = if srt zs = true then 1 else 0 := one_word ho
      rw [h3]
    have hw1 := all_pos hn1 (by omega : zs.length ≤ 7)
    refine ⟨ho, words_ans hn1 (by omega), fewest zs, by unfold fewestAns; rw [if_pos ho], ?_, ?_, ?_⟩
    · have : ∀ n < 7, 1 ≤ n → (allO n).all (fun zs => Nat.ble (fewest zs) 7) = true := by decide +kernel
      exact Nat.le_of_ble_eq_true (List.all_eq_true.1 (this zs.length (by omega) hn1) zs hmem)
    · cases hs : srt zs with
      | true =>
        rw [hs, if_pos rfl, cut_one] at e
        rw [hs] at hf
        cases e
        have h5 : fewest zs = 1 := by simpa using hf
        rw [h5]
        rfl
      | false =>
        rw [hs, if_neg (by simp), cut_zero hw1] at e
        rw [hs] at hf
        cases e
        have h5 : ((fewest zs : Int) == 1) = false := by
          rw [beq_eq_false_iff_ne] at hf ⊢
          omega
        rw [h5]
        rfl
    · intro ha
      cases hs : srt zs with
      | true =>
        rw [hs, if_pos rfl, cut_one] at e
        cases e
        exact ⟨rfl, rfl⟩
      | false =>
        rw [hs, if_neg (by simp), cut_zero hw1] at e
        cases e
        omega
  · cases h

def depthF (n k : Nat) : Nat × Nat := meanL (allW n) (isT (tellChanceDepth (k : Int)))
def depthOk (n k : Nat) : Bool := (!(Nat.ble n k) || (depthF n k == (1, 1))) && (!(Nat.blt 1 k) || Nat.ble ((depthF n (k - 1)).1 * (depthF n k).2) ((depthF n k).1 * (depthF n (k - 1)).2))

theorem depth_kernel : ∀ n < 7, (List.range 7).all (fun k => n == 0 || k == 0 || depthOk n k) = true := by decide +kernel

theorem depth_facts {n k : Nat} (hn1 : 1 ≤ n) (hn6 : n ≤ 6) (hk1 : 1 ≤ k) (hk6 : k ≤ 6) : (n ≤ k → depthF n k = (1, 1)) ∧ (1 < k → (depthF n (k - 1)).1 * (depthF n k).2 ≤ (depthF n k).1 * (depthF n (k - 1)).2) := by
  have h := List.all_eq_true.1 (depth_kernel n (by omega)) k (List.mem_range.2 (by omega))
  have e1 : (n == 0) = false := by rw [beq_eq_false_iff_ne]; omega
  have e2 : (k == 0) = false := by rw [beq_eq_false_iff_ne]; omega
  rw [e1, e2, Bool.false_or, Bool.false_or] at h
  unfold depthOk at h
  rw [Bool.and_eq_true, Bool.or_eq_true, Bool.or_eq_true] at h
  refine ⟨fun hnk => ?_, fun hk => ?_⟩
  · rcases h.1 with h | h
    · rw [Nat.ble_eq_true_of_le hnk] at h; cases h
    · exact eq_of_beq h
  · rcases h.2 with h | h
    · have : Nat.blt 1 k = true := by rw [Nat.blt_eq]; exact hk
      rw [this] at h; cases h
    · exact Nat.le_of_ble_eq_true h

theorem mean_kernel : ∀ n < 7, (n == 0 || (Nat.ble (meanL (allW n) tellMeanDepth).2 (meanL (allW n) tellMeanDepth).1 && Nat.ble (meanL (allW n) tellMeanDepth).1 (n * (meanL (allW n) tellMeanDepth).2) && Nat.ble (meanL (allW n) tellMeanKept).1 (n * (meanL (allW n) tellMeanKept).2))) = true := by decide +kernel

theorem mean_facts {n : Nat} (hn1 : 1 ≤ n) (hn6 : n ≤ 6) : (meanL (allW n) tellMeanDepth).2 ≤ (meanL (allW n) tellMeanDepth).1 ∧ (meanL (allW n) tellMeanDepth).1 ≤ n * (meanL (allW n) tellMeanDepth).2 ∧ (meanL (allW n) tellMeanKept).1 ≤ n * (meanL (allW n) tellMeanKept).2 := by
  have h := mean_kernel n (by omega)
  have e1 : (n == 0) = false := by rw [beq_eq_false_iff_ne]; omega
  rw [e1, Bool.false_or, Bool.and_eq_true, Bool.and_eq_true] at h
  exact ⟨Nat.le_of_ble_eq_true h.1.1, Nat.le_of_ble_eq_true h.1.2, Nat.le_of_ble_eq_true h.2⟩

/-- The chance that one stack is enough is the chance that some word sorts. -/
theorem stacks_sorts {m : Nat} (h1 : 1 ≤ m) (h6 : m ≤ 6) : meanL (allO m) (isT (tellChanceStacks 1)) = meanL (allO m) (isT tellChanceSorts) := by
  unfold meanL
  congr 1
  rw [sumT_isT, sumT_isT]
  congr 1
  refine List.filter_congr (fun zs hz => ?_)
  have h := few_srt h1 h6 hz
  unfold tellChanceStacks toldChanceStacks tellChanceSorts
  unfold srt at h
  rw [← h]
  by_cases hf : fewest zs = 1
  · rw [hf]; rfl
  · have e1 : (fewest zs == 1) = false := by rw [beq_eq_false_iff_ne]; exact hf
    rw [e1, beq_eq_false_iff_ne]
    omega

end Go.Proofs.YtnhhnffolmgceaaGreat.Ch9G

end

section
namespace Go.Proofs.YtnhhnffolmgceaaGreat.Ch9H
open Go OrdMath AllO ChM ChQ EndsM CollWC Ch9F Ch9G ChChanceOutputIC ChChanceDepthIC ChMeanDepthIC ChMeanKeptIC ChChanceStacksIC ChChanceSortsIC
set_option linter.unusedVariables false

theorem mean_bd {α : Type} {L : List α} {tell : α → Nat} {a b : Nat} (h1 : 1 ≤ L.length) (h2 : L.length ≤ 1000) (ht : ∀ x ∈ L, tell x ≤ 1000) (h : (a, b) = meanL L tell) : a ≤ 1048576 ∧ 1 ≤ b ∧ b ≤ 1048576 := by
  unfold meanL at h
  have h3 := cutF_le (sumT tell L) L.length
  have h4 := cutF_pos (a := sumT tell L) h1
  have h5 := sumT_le ht
  have e1 : a = (cutF (sumT tell L) L.length).1 := by rw [← h]
  have e2 : b = (cutF (sumT tell L) L.length).2 := by rw [← h]
  have h6 : 1000 * L.length ≤ 1000 * 1000 := Nat.mul_le_mul_left _ h2
  omega

theorem isT_1k {α : Type} (p : α → Bool) (L : List α) : ∀ x ∈ L, isT p x ≤ 1000 := fun x _ => Nat.le_trans (isT_le p x) (by omega)

theorem eqA2s (a b : Int) (W : World) : (Op.equalIn 10000 25 (.agg #[.int .i64 a, .int .i64 b]) (.agg #[.int .i64 a, .int .i64 b])).run Tryz.prog W = .ok true W := by
  have hp : Tryz.prog.plainKey 3 = true := by kernel_rfl
  have hc : Tryz.prog.cellsOf 3 = 1 := by kernel_rfl
  obtain ⟨i, hi⟩ : ∃ i, Tryz.prog.info? 3 = some i := info_of_underlying Tryz.underlying3
  have p0 := run_part_plain (P := Tryz.prog) (w := W) hp (xs := #[.int .i64 a, .int .i64 b]) (off := 0) (v := .int .i64 a) rfl
  have p1 := run_part_plain (P := Tryz.prog) (w := W) hp (xs := #[.int .i64 a, .int .i64 b]) (off := 1) (v := .int .i64 b) rfl
  have e0 := fun (x y : Int) => run_equalIn_int (P := Tryz.prog) (w := W) 9998 3 .i64 .i64 x y Tryz.underlying3
  have h2 := run_equalIn_array (P := Tryz.prog) W 9999 (#[.int .i64 a, .int .i64 b]) (#[.int .i64 a, .int .i64 b]) Tryz.underlying25 hi
  rw [hc] at h2
  refine h2.trans ?_
  show (Op.eqItems 9999 3 1 _ _ [0, 1]).run _ _ = _
  simp only [Op.eqItems, Nat.mul_one, Sem.run_bind, p0, p1, e0, Result.andThen_ok, beq_self_eq_true, Bool.not_true, Bool.false_eq_true, if_false, Sem.run_pure]

theorem wf7 {t : Int} (h0 : -1 ≤ t) (h8 : t ≤ 8) : (Lit.int .i64 t).wf = true := by
  have e1 : IntKind.i64.min = -9223372036854775808 := rfl
  have e2 : IntKind.i64.max = 9223372036854775807 := rfl
  simp [Lit.wf, e1, e2]
  omega

theorem ch_there {n : Int} {T : Bool} {q : Nat → Nat × Nat} (hT : decide (1 ≤ n ∧ n ≤ 6) = T) : ∃ a b, chAns n q = (a, b, T) := by
  unfold chAns
  split
  · rename_i h
    rw [← hT, decide_eq_true h]
    exact ⟨_, _, rfl⟩
  · rename_i h
    rw [← hT, decide_eq_false h]
    exact ⟨_, _, rfl⟩

theorem there_nat {n : Int} (hT : decide (1 ≤ n ∧ n ≤ 6) = true) : ∃ m : Nat, n = (m : Int) ∧ 1 ≤ m ∧ m ≤ 6 := by
  have h := of_decide_eq_true hT
  exact ⟨n.toNat, by omega, by omega, by omega⟩

theorem ans_depth {m k : Nat} (h1 : 1 ≤ m) (h6 : m ≤ 6) (hk1 : 1 ≤ k) (hk6 : k ≤ 6) : ansChanceDepth (m : Int) (k : Int) = ((depthF m k).1, (depthF m k).2, true) := by
  unfold ansChanceDepth
  rw [if_pos ⟨by omega, by omega⟩, ch_in (q := fun m => meanL (allW m) (isT (tellChanceDepth (k : Int)))) rfl h1 h6]
  rfl

theorem depth_bd {m k : Nat} (h1 : 1 ≤ m) (h6 : m ≤ 6) : (depthF m k).1 ≤ 1048576 ∧ 1 ≤ (depthF m k).2 ∧ (depthF m k).2 ≤ 1048576 :=
  mean_bd (allW_1k h1 h6).1 (allW_1k h1 h6).2 (isT_1k _ _) rfl

/-- What the law says of depths. -/
theorem deep_facts {n k : Int} {a b : Nat} {fine T : Bool} (h : ansChanceDepth n k = (a, b, fine)) (hT : decide (1 ≤ n ∧ n ≤ 6) = T) : (fine = true → T = true) ∧
    (fine = true → ∃ m j : Nat, n = (m : Int) ∧ k = (j : Int) ∧ 1 ≤ m ∧ m ≤ 6 ∧ 1 ≤ j ∧ j ≤ 6 ∧ (a ≤ 1048576 ∧ 1 ≤ b ∧ b ≤ 1048576) ∧ (m ≤ j → a = 1 ∧ b = 1) ∧
      (1 < j → ∃ a8 b8, ansChanceDepth (m : Int) ((j - 1 : Nat) : Int) = (a8, b8, true) ∧ a8 ≤ 1048576 ∧ (1 ≤ b8 ∧ b8 ≤ 1048576) ∧ ¬ (a * b8 < a8 * b))) := by
  have hf : fine = true → (1 ≤ k ∧ k ≤ 6) ∧ 1 ≤ n ∧ n ≤ 6 := by
    intro hfi
    subst hfi
    unfold ansChanceDepth at h
    split at h
    · rename_i hk
      exact ⟨hk, of_decide_eq_true (ch_le h).1.symm⟩
    · cases h
  refine ⟨fun hfi => by rw [← hT]; exact decide_eq_true (hf hfi).2, fun hfi => ?_⟩
  obtain ⟨hk, hn⟩ := hf hfi
  obtain ⟨m, rfl⟩ : ∃ m : Nat, n = (m : Int) := ⟨n.toNat, by omega⟩
  obtain ⟨j, rfl⟩ : ∃ j : Nat, k = (j : Int) := ⟨k.toNat, by omega⟩
  have h1 : 1 ≤ m := by omega
  have h6 : m ≤ 6 := by omega
  have hj1 : 1 ≤ j := by omega
  have hj6 : j ≤ 6 := by omega
  rw [ans_depth h1 h6 hj1 hj6] at h
  cases h
  have hd := depth_facts h1 h6 hj1 hj6
  refine ⟨m, j, rfl, rfl, h1, h6, hj1, hj6, depth_bd h1 h6, fun hmj => by rw [hd.1 hmj]; exact ⟨rfl, rfl⟩, fun hj => ?_⟩
  have hb := depth_bd (k := j - 1) h1 h6
  exact ⟨_, _, ans_depth h1 h6 (by omega) (by omega), hb.1, hb.2, Nat.not_lt.2 (hd.2 hj)⟩

/-- What the law says of means. -/
theorem mean_law {m : Nat} {a b c d : Nat} (h1 : 1 ≤ m) (h6 : m ≤ 6) (hM : chAns (m : Int) (fun m => meanL (allW m) tellMeanDepth) = (a, b, true)) (hK : chAns (m : Int) (fun m => meanL (allW m) tellMeanKept) = (c, d, true)) :
    a ≤ 1048576 ∧ 1 ≤ b ∧ b ≤ 1048576 ∧ c ≤ 1048576 ∧ 1 ≤ d ∧ d ≤ 1048576 ∧ ¬ (a * 1 < 1 * b) ∧ ¬ (m * b < a * 1) ∧ ¬ (m * d < c * 1) := by
  rw [ch_in (q := fun m => meanL (allW m) tellMeanDepth) rfl h1 h6] at hM
  rw [ch_in (q := fun m => meanL (allW m) tellMeanKept) rfl h1 h6] at hK
  have e1 := mean_bd (a := (meanL (allW m) tellMeanDepth).1) (b := (meanL (allW m) tellMeanDepth).2) (allW_1k h1 h6).1 (allW_1k h1 h6).2 (ChMeanDepthIC.depth_le h1 h6) rfl
  have e2 := mean_bd (a := (meanL (allW m) tellMeanKept).1) (b := (meanL (allW m) tellMeanKept).2) (allW_1k h1 h6).1 (allW_1k h1 h6).2 (ChMeanKeptIC.depth_le h1 h6) rfl
  have hf := mean_facts h1 h6
  cases hM
  cases hK
  exact ⟨e1.1, e1.2.1, e1.2.2, e2.1, e2.2.1, e2.2.2, by omega, by omega, by omega⟩

/-- What the law says of one stack. -/
theorem stack_facts {m q : Int} {a b : Nat} {four : Bool} (h : ansChanceStacks m q = (a, b, four)) (h4 : four = true) (hq : q = 1) : chAns m (fun m => meanL (allO m) (isT tellChanceSorts)) = (a, b, true) := by
  subst h4
  subst hq
  unfold ansChanceStacks at h
  rw [if_pos ⟨by omega, by omega⟩] at h
  have h16 := of_decide_eq_true (ch_le h).1.symm
  obtain ⟨n, rfl⟩ : ∃ n : Nat, m = (n : Int) := ⟨m.toNat, by omega⟩
  rw [ch_in (q := fun m => meanL (allO m) (isT (tellChanceStacks 1))) rfl (by omega) (by omega), stacks_sorts (by omega) (by omega)] at h
  rw [ch_in (q := fun m => meanL (allO m) (isT tellChanceSorts)) rfl (by omega) (by omega)]
  exact h

end Go.Proofs.YtnhhnffolmgceaaGreat.Ch9H

end

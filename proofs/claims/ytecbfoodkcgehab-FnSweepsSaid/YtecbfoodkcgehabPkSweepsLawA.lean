/-
  Contracts and plain facts that the law's text leans on, part 1 of 4. Conditions: as each states.
-/
import Derived.Test.YtecbfoodkcgehabRows
import Derived.WalkKit
import Derived.Test.YtecbfoodkcgehabSees
import Derived.OpenShut
import Derived.SliceStrings
import Derived.ChangeOld
import Derived.Test.YtecbfoodkcgehabOrder
import Derived.IntWalk
import Derived.Test.YtecbfoodkcgehabExact
import Derived.Test.YtecbfoodkcgehabOrdFacts
import Derived.OwnWalkIn
import Derived.ArgAppend
import Derived.Laws.AppendOwn
import Derived.Test.YtecbfoodkcgehabWords
import Derived.Test.YtecbfoodkcgehabOrd
import Derived.BigQuiet
import Derived.Test.YtecbfoodkcgehabWord
import Derived.RowKit

/-
  How the seat's program may be entered: facts of its heading that every row asks for, each proved once. Conditions: none.
-/
namespace Go.Proofs.Ytecbfoodkcgehab.SeatC
open Go

def codes : List Nat :=
   [104, 97, 114, 110, 101, 115, 115, 32, 52, 97, 49, 102, 54, 49, 99, 57, 52, 97, 100, 53, 53, 48, 100, 48, 101, 100, 54, 54, 52, 54, 102, 54, 54, 51, 56, 53, 102, 57, 55, 101,
    50, 51, 52, 54, 57, 100, 101, 50, 102, 101, 55, 55, 55, 50, 48, 48, 57, 48, 49, 53, 48, 102, 49, 48, 100, 53, 100, 53, 100, 51, 54, 54, 32, 99, 117, 116, 32, 97, 116, 32,
    108, 111, 111, 112, 46, 101, 120, 97, 109, 112, 108, 101, 47, 103, 48, 49, 50, 56, 54, 47, 108, 97, 119, 115, 46, 70, 110, 65, 118, 111, 105, 100, 105, 110, 103, 32, 108, 111, 111, 112,
    46, 101, 120, 97, 109, 112, 108, 101, 47, 103, 48, 49, 50, 56, 54, 47, 108, 97, 119, 115, 46, 70, 110, 81, 117, 101, 117, 101, 115, 32, 108, 111, 111, 112, 46, 101, 120, 97, 109, 112,
    108, 101, 47, 103, 48, 49, 50, 56, 54, 47, 108, 97, 119, 115, 46, 70, 110, 69, 120, 97, 99, 116, 76, 111, 110, 103, 101, 115, 116, 82, 105, 115, 101, 32, 108, 111, 111, 112, 46, 101,
    120, 97, 109, 112, 108, 101, 47, 103, 48, 49, 50, 56, 54, 47, 108, 97, 119, 115, 46, 70, 110, 69, 120, 97, 99, 116, 76, 111, 110, 103, 101, 115, 116, 70, 97, 108, 108, 32, 108, 111,
    111, 112, 46, 101, 120, 97, 109, 112, 108, 101, 47, 103, 48, 49, 50, 56, 54, 47, 108, 97, 119, 115, 46, 70, 110, 69, 120, 97, 99, 116, 67, 111, 117, 110, 116, 81, 117, 101, 117, 101,
    87, 97, 121, 115, 32, 108, 111, 111, 112, 46, 101, 120, 97, 109, 112, 108, 101, 47, 103, 48, 49, 50, 56, 54, 47, 108, 97, 119, 115, 46, 70, 110, 69, 120, 97, 99, 116, 77, 101, 114,
    103, 101, 80, 97, 115, 115, 32, 108, 111, 111, 112, 46, 101, 120, 97, 109, 112, 108, 101, 47, 103, 48, 49, 50, 56, 54, 47, 108, 97, 119, 115, 46, 70, 110, 69, 120, 97, 99, 116, 67,
    111, 117, 110, 116, 80, 97, 115, 115, 101, 115, 32, 108, 111, 111, 112, 46, 101, 120, 97, 109, 112, 108, 101, 47, 103, 48, 49, 50, 56, 54, 47, 108, 97, 119, 115, 46, 70, 110, 79, 114,
    100, 101, 114, 115, 32, 108, 111, 111, 112, 46, 101, 120, 97, 109, 112, 108, 101, 47, 103, 48, 49, 50, 56, 54, 47, 108, 97, 119, 115, 46, 70, 110, 69, 120, 97, 99, 116, 79, 114, 100,
    101, 114, 84, 101, 120, 116, 32, 108, 111, 111, 112, 46, 101, 120, 97, 109, 112, 108, 101, 47, 103, 48, 49, 50, 56, 54, 47, 108, 97, 119, 115, 46, 70, 110, 69, 120, 97, 99, 116, 80,
    97, 114, 115, 101, 79, 114, 100, 101, 114, 32, 108, 111, 111, 112, 46, 101, 120, 97, 109, 112, 108, 101, 47, 103, 48, 49, 50, 56, 54, 47, 108, 97, 119, 115, 46, 70, 110, 69, 120, 97,
    99, 116, 67, 111, 117, 110, 116, 83, 119, 101, 101, 112, 115, 32, 108, 111, 111, 112, 46, 101, 120, 97, 109, 112, 108, 101, 47, 103, 48, 49, 50, 56, 54, 47, 108, 97, 119, 115, 46, 70,
    110, 83, 119, 101, 101, 112, 115]
def heads : List (List Nat) :=
   [[99, 117, 116],
    [97, 116],
    [108, 111, 111, 112, 46, 101, 120, 97, 109, 112, 108, 101, 47, 103, 48, 49, 50, 56, 54, 47, 108, 97, 119, 115, 46, 70, 110, 65, 118, 111, 105, 100, 105, 110, 103],
    [108, 111, 111, 112, 46, 101, 120, 97, 109, 112, 108, 101, 47, 103, 48, 49, 50, 56, 54, 47, 108, 97, 119, 115, 46, 70, 110, 81, 117, 101, 117, 101, 115],
    [108, 111, 111, 112, 46, 101, 120, 97, 109, 112, 108, 101, 47, 103, 48, 49, 50, 56, 54, 47, 108, 97, 119, 115, 46, 70, 110, 69, 120, 97, 99, 116, 76, 111, 110, 103, 101, 115, 116, 82,
    105, 115, 101],
    [108, 111, 111, 112, 46, 101, 120, 97, 109, 112, 108, 101, 47, 103, 48, 49, 50, 56, 54, 47, 108, 97, 119, 115, 46, 70, 110, 69, 120, 97, 99, 116, 76, 111, 110, 103, 101, 115, 116, 70,
    97, 108, 108],
    [108, 111, 111, 112, 46, 101, 120, 97, 109, 112, 108, 101, 47, 103, 48, 49, 50, 56, 54, 47, 108, 97, 119, 115, 46, 70, 110, 69, 120, 97, 99, 116, 67, 111, 117, 110, 116, 81, 117, 101,
    117, 101, 87, 97, 121, 115],
    [108, 111, 111, 112, 46, 101, 120, 97, 109, 112, 108, 101, 47, 103, 48, 49, 50, 56, 54, 47, 108, 97, 119, 115, 46, 70, 110, 69, 120, 97, 99, 116, 77, 101, 114, 103, 101, 80, 97, 115,
    115],
    [108, 111, 111, 112, 46, 101, 120, 97, 109, 112, 108, 101, 47, 103, 48, 49, 50, 56, 54, 47, 108, 97, 119, 115, 46, 70, 110, 69, 120, 97, 99, 116, 67, 111, 117, 110, 116, 80, 97, 115,
    115, 101, 115],
    [108, 111, 111, 112, 46, 101, 120, 97, 109, 112, 108, 101, 47, 103, 48, 49, 50, 56, 54, 47, 108, 97, 119, 115, 46, 70, 110, 79, 114, 100, 101, 114, 115],
    [108, 111, 111, 112, 46, 101, 120, 97, 109, 112, 108, 101, 47, 103, 48, 49, 50, 56, 54, 47, 108, 97, 119, 115, 46, 70, 110, 69, 120, 97, 99, 116, 79, 114, 100, 101, 114, 84, 101, 120,
    116],
    [108, 111, 111, 112, 46, 101, 120, 97, 109, 112, 108, 101, 47, 103, 48, 49, 50, 56, 54, 47, 108, 97, 119, 115, 46, 70, 110, 69, 120, 97, 99, 116, 80, 97, 114, 115, 101, 79, 114, 100,
    101, 114],
    [108, 111, 111, 112, 46, 101, 120, 97, 109, 112, 108, 101, 47, 103, 48, 49, 50, 56, 54, 47, 108, 97, 119, 115, 46, 70, 110, 69, 120, 97, 99, 116, 67, 111, 117, 110, 116, 83, 119, 101,
    101, 112, 115],
    [108, 111, 111, 112, 46, 101, 120, 97, 109, 112, 108, 101, 47, 103, 48, 49, 50, 56, 54, 47, 108, 97, 119, 115, 46, 70, 110, 83, 119, 101, 101, 112, 115]]
theorem io : Try.prog.initOrder = String.ofList (codes.map Char.ofNat) := by kernel_rfl
theorem iol : Try.prog.initOrder.toList = codes.map Char.ofNat := by rw [io, String.toList_ofList]
theorem hws : behindMainWord (wordsSigns (codes.map Char.ofNat)) = heads.map (fun l => l.map Char.ofNat) := by kernel_rfl

theorem make_cut (P : Program) (rest : List (List Char)) (h : behindMainWord (wordsSigns P.initOrder.toList) = "cut".toList :: rest) : P.make = some .cut := by
  unfold Program.make
  rw [h]
  have e1 : ("cut".toList == "gc".toList) = false := by decide +kernel
  have e2 : ("cut".toList == "spec".toList) = false := by decide +kernel
  have e3 : ("cut".toList == "cut".toList) = true := by decide +kernel
  simp only [e1, e2, e3, Bool.or_false, Bool.false_eq_true, if_false, Bool.true_or, if_true]

theorem strip_cut (rest : List (List Char)) : stripLifts liftWords ("cut".toList :: rest) = ([], "cut".toList :: rest) := by
  have : ∀ ls : List String, (∀ o ∈ ls, ("cut".toList == o.toList) = false) → stripLifts ls ("cut".toList :: rest) = ([], "cut".toList :: rest) := by
    intro ls
    induction ls with
    | nil => intro _; rfl
    | cons o os ih =>
      intro h
      unfold stripLifts
      rw [if_neg (by rw [h o (by simp)]; simp)]
      exact ih (fun o h2 => h o (by simp [h2]))
  exact this _ (by decide +kernel)

theorem lifts_cut (P : Program) (rest : List (List Char)) (h : behindMainWord (wordsSigns P.initOrder.toList) = "cut".toList :: rest) : P.liftsFinal = false := by
  unfold Program.liftsFinal Program.headLifts
  rw [h, strip_cut]
  simp

theorem enter_cut (P : Program) (rest : List (List Char)) (h : behindMainWord (wordsSigns P.initOrder.toList) = "cut".toList :: rest) (h1 : P.laysLater = false) (h2 : P.bearsReflect = false) (h3 : P.doorFits [] = true) : P.mayEnter = true := by
  unfold Program.mayEnter
  rw [h]
  simp only
  rw [strip_cut]
  simp only [h1, h2, h3, List.contains_nil, List.head?_cons, beq_self_eq_true, Bool.not_false, Bool.or_true, Bool.and_true]

theorem door : Try.prog.doorFits [] = true := by kernel_rfl
theorem lays : Try.prog.laysLater = false := by kernel_rfl
theorem bears : Try.prog.bearsReflect = false := by kernel_rfl
theorem head : behindMainWord (wordsSigns Try.prog.initOrder.toList) = "cut".toList :: (heads.drop 1).map (fun l => l.map Char.ofNat) := by rw [iol, hws]; kernel_rfl
theorem mke : Try.prog.make = some .cut := make_cut _ _ head
theorem lif : Try.prog.liftsFinal = false := lifts_cut _ _ head
theorem may : Try.prog.mayEnter = true := enter_cut _ _ head lays bears door

end Go.Proofs.Ytecbfoodkcgehab.SeatC

/-
  An argument that is a slice of texts or of integers, opened for a walk that only reads it. Conditions: none. Plain facts on the form: nothing of the program.
-/
namespace Go.Proofs.Ytecbfoodkcgehab.OpenC
open Go.ChangeShapes Go.WideShapes Go.ChangeAt Go.RowKit SeesC

theorem addr_spot {w : World} {x : Addr} {u : Value} (h : w.cell? (x.add 0) = some u) : ∃ b o, x = ⟨b, o, none⟩ := by
  obtain ⟨b, o, spot⟩ := x
  have hspot : spot = none := by simpa [Addr.add] using World.cell?_spot h
  subst hspot
  exact ⟨b, o, rfl⟩

theorem add_none (b o j : Nat) : (⟨b, o, none⟩ : Addr).add j = ⟨b, o + j, none⟩ := by unfold Addr.add; split <;> simp_all

theorem sees_strings {H : Type} {enc : TypeId × Value → H} {P : Program} {W : World} {t e : TypeId} {v : Value} {d : DataW H} {ps : List MemPlace} (ht : P.underlying t = some (.slice e)) (he : P.underlying e = some .string) (hc : P.cellsOf e = 1)
    {base : Nat} {r : Reach} (hok : Value.okWide P W r base t v) (h : DataW.Trod enc P W 0 (fun _ => true) true t v d ps) :
    ∃ (n : Nat) (ss : List ByteArray), Sees W v n (ss.map Value.string) ∧ n ≤ maxLen ∧ ∀ s ∈ ss, s.size ≤ maxLen := by
  obtain ⟨a0, len0, cap0, rfl⟩ := okWide_slice ht hok
  obtain ⟨fuel, hf⟩ := h
  rcases open_strings ht he hc hf with ⟨hcs, _⟩ | ⟨x, l, c, ss, hcs, _, hl, hm, hz, _, hcell, hss⟩
  · simp [Value.cells] at hcs
    obtain ⟨rfl, rfl, rfl⟩ := hcs
    exact ⟨0, [], Sees.nil _ _ _, by unfold maxLen; omega, by simp⟩
  · simp [Value.cells] at hcs
    obtain ⟨rfl, rfl, rfl⟩ := hcs
    have hz' : ss.length = cap0 := by simpa using hz
    refine ⟨len0, ss.take len0, ⟨by simp; omega, some x, cap0, rfl, hl, fun hn => ?_⟩, Nat.le_trans hl hm, fun s hs => hss s (List.mem_of_mem_take hs)⟩
    obtain ⟨b, o, rfl⟩ := addr_spot (hcell 0 (by omega))
    refine ⟨b, o, rfl, fun j u hu => ?_⟩
    rw [List.getElem?_map, List.getElem?_take] at hu
    split at hu
    · rename_i hj
      have hj2 : j < ss.length := by omega
      rw [List.getElem?_eq_getElem hj2] at hu
      simp at hu
      have := hcell j hj2
      rw [add_none] at this
      rw [this, ← hu]
      simp [hj2]
    · simp at hu

theorem sees_ints {H : Type} {enc : TypeId × Value → H} {P : Program} {W : World} {t e : TypeId} {k : IntKind} {v : Value} {d : DataW H} {ps : List MemPlace} (ht : P.underlying t = some (.slice e)) (he : P.underlying e = some (.int k)) (hc : P.cellsOf e = 1)
    {base : Nat} {r : Reach} (hok : Value.okWide P W r base t v) (h : DataW.Trod enc P W 0 (fun _ => true) true t v d ps) :
    ∃ (n : Nat) (zs : List Int), Sees W v n (zs.map (Value.int k)) ∧ n ≤ maxLen ∧ ∀ z ∈ zs, (Lit.int k z).wf = true := by
  obtain ⟨a0, len0, cap0, rfl⟩ := okWide_slice ht hok
  obtain ⟨fuel, hf⟩ := h
  rcases open_ints ht he hc hf with ⟨hcs, _⟩ | ⟨x, l, c, ss, hcs, _, hl, hm, hz, _, hcell, hss⟩
  · simp [Value.cells] at hcs
    obtain ⟨rfl, rfl, rfl⟩ := hcs
    exact ⟨0, [], Sees.nil _ _ _, by unfold maxLen; omega, by simp⟩
  · simp [Value.cells] at hcs
    obtain ⟨rfl, rfl, rfl⟩ := hcs
    have hz' : ss.length = cap0 := by simpa using hz
    refine ⟨len0, ss.take len0, ⟨by simp; omega, some x, cap0, rfl, hl, fun hn => ?_⟩, Nat.le_trans hl hm, fun s hs => hss s (List.mem_of_mem_take hs)⟩
    obtain ⟨b, o, rfl⟩ := addr_spot (hcell 0 (by omega))
    refine ⟨b, o, rfl, fun j u hu => ?_⟩
    rw [List.getElem?_map, List.getElem?_take] at hu
    split at hu
    · rename_i hj
      have hj2 : j < ss.length := by omega
      rw [List.getElem?_eq_getElem hj2] at hu
      simp at hu
      have := hcell j hj2
      rw [add_none] at this
      rw [this, ← hu]
      simp [hj2]
    · simp at hu

end Go.Proofs.Ytecbfoodkcgehab.OpenC

/-
  Contracts: how many orders there are of so many numbers, how many numbers behind a place are less, the rank of an order and its inversions. Conditions: at most 7 numbers where orders are counted; lists of at most 2^20 numbers.
-/
namespace Go.Proofs.Ytecbfoodkcgehab.RankC
open Go.RowKit SeesC IntsC ExactC OrdMath OrderC 

set_option maxRecDepth 100000 in
theorem l2Ways_any (n : Nat) (W : World) (hn : n ≤ 7) :
    Calls Try.prog 146 #[.int .i64 n] W fun e w' => e = .returned (.int .i64 (fact n : Nat)) ∧ W = w' := by
  go_enter Try.func146, Try.ntmps146
  go_wp2
  go_loop [3, 4] (fun cv fv => ∃ (f q : Nat), 2 ≤ f ∧ (f = 2 ∨ f ≤ n + 1) ∧ fv = .int .i64 f ∧ cv = .int .i64 q ∧ Hid (q = fact (f - 1))) (fun _ f => (n + 1 - intOf f).toNat)
  case atStart => exact ⟨2, 1, Nat.le_refl _, .inl rfl, rfl, rfl, Go.Lib.hid rfl⟩
  case round =>
    obtain ⟨f, q, h2, hf, rfl, rfl, HQ⟩ := hrel
    by_cases hlt : f ≤ n
    · have HN : Hid (q * f = fact (f + 1 - 1)) := Go.Lib.hid (by
        obtain ⟨j, rfl⟩ : ∃ j, f = j + 1 := ⟨f - 1, by omega⟩
        rw [HQ.out]; simp [fact, Nat.mul_comm])
      obtain ⟨r, hr⟩ : ∃ r, q * f = r := ⟨_, rfl⟩
      have hr7 : r ≤ 5040 := by rw [← hr, HN.out]; exact fact_7 (by omega)
      have hp : (q : Int) * (f : Int) = (r : Int) := by rw [← hr]; simp
      have hlti : (f : Int) ≤ (n : Int) := by omega
      rw [hr] at HN
      clear hr
      go_wp2
      go_round
      case rel => exact ⟨f + 1, r, by omega, by omega, by go_num, rfl, HN⟩
      case measure => simp [intOf]; omega
    · have HR : Hid (q = fact n) := Go.Lib.hid (by
        rw [HQ.out]
        by_cases h0 : n = 0
        · subst h0; have : f = 2 := by omega
          subst this; rfl
        · by_cases h1 : f = 2
          · subst h1; have : n = 1 := by omega
            subst this; rfl
          · have : f - 1 = n := by omega
            rw [this])
      go_wp2
      go_ret
      exact ⟨by rw [← HR.out]; rfl, rfl⟩

set_option maxRecDepth 100000 in
theorem countOrders_any (n : Nat) (W : World) (hn : n ≤ 7) :
    Calls Try.prog 149 #[.int .i64 n] W fun e w' => e = .returned (.int .i64 (fact n : Nat)) ∧ W = w' := by
  go_enter Try.func149, Try.ntmps149
  go_wp2
  go_loop [3, 4] (fun cv fv => ∃ (f q : Nat), 2 ≤ f ∧ (f = 2 ∨ f ≤ n + 1) ∧ fv = .int .i64 f ∧ cv = .int .i64 q ∧ Hid (q = fact (f - 1))) (fun _ f => (n + 1 - intOf f).toNat)
  case atStart => exact ⟨2, 1, Nat.le_refl _, .inl rfl, rfl, rfl, Go.Lib.hid rfl⟩
  case round =>
    obtain ⟨f, q, h2, hf, rfl, rfl, HQ⟩ := hrel
    by_cases hlt : f ≤ n
    · have HN : Hid (q * f = fact (f + 1 - 1)) := Go.Lib.hid (by
        obtain ⟨j, rfl⟩ : ∃ j, f = j + 1 := ⟨f - 1, by omega⟩
        rw [HQ.out]; simp [fact, Nat.mul_comm])
      obtain ⟨r, hr⟩ : ∃ r, q * f = r := ⟨_, rfl⟩
      have hr7 : r ≤ 5040 := by rw [← hr, HN.out]; exact fact_7 (by omega)
      have hp : (q : Int) * (f : Int) = (r : Int) := by rw [← hr]; simp
      have hlti : (f : Int) ≤ (n : Int) := by omega
      rw [hr] at HN
      clear hr
      go_wp2
      go_round
      case rel => exact ⟨f + 1, r, by omega, by omega, by go_num, rfl, HN⟩
      case measure => simp [intOf]; omega
    · have HR : Hid (q = fact n) := Go.Lib.hid (by
        rw [HQ.out]
        by_cases h0 : n = 0
        · subst h0; have : f = 2 := by omega
          subst this; rfl
        · by_cases h1 : f = 2
          · subst h1; have : n = 1 := by omega
            subst this; rfl
          · have : f - 1 = n := by omega
            rw [this])
      go_wp2
      go_ret
      exact ⟨by rw [← HR.out]; rfl, rfl⟩

set_option maxRecDepth 100000 in
set_option maxHeartbeats 1000000 in
theorem lessBehind_any (zs : List Int) (i : Nat) (W : World) (v : Value) (n : Nat) (hz : zs.length ≤ 1048576) (hi : i < zs.length) (hv : Sees W v n (vals zs)) :
    Calls Try.prog 140 #[v, .int .i64 i] W fun e w' => e = .returned (.int .i64 (lessAt zs i : Nat)) ∧ Drawn W w' := by
  have hl : zs.length = n := by simpa using hv.1
  obtain ⟨b, o, cap, rfl, hcap, _, hbl, hcell⟩ := sees_cells hv (by omega)
  have HC := Go.Lib.hid hcell
  clear hv hcell
  have hck0 : W.cell? ⟨b, o + i, none⟩ = some (.int .i64 (zs.getD i 0)) := HC.out i hi
  obtain ⟨z, hz⟩ : ∃ z, zs.getD i 0 = z := ⟨_, rfl⟩
  have HL : Hid (lessAt zs i = cl z (zs.drop (i + 1))) := Go.Lib.hid (by rw [← hz]; rfl)
  rw [hz] at hck0
  have hin : (i : Int) < (n : Int) := by omega
  by_cases hlast : i + 1 = n
  · have HR : Hid (lessAt zs i = 0) := Go.Lib.hid (by rw [HL.out, List.drop_of_length_le (by omega)]; rfl)
    have hn0 : n - (i + 1) = 0 := by omega
    by_cases hc : cap = i + 1
    all_goals
      go_enter Try.func140, Try.ntmps140
      go_wp2
      go_loop [5, 13] (fun cv jv => cv = .int .i64 0 ∧ jv = .int .i64 0) (fun _ _ => 0)
      case atStart => exact ⟨rfl, rfl⟩
      case round =>
        obtain ⟨rfl, rfl⟩ := hrel
        go_wp2
        go_ret
        exact ⟨by rw [HR.out]; rfl, Drawn.refl _⟩
  · have hc : ¬ cap = i + 1 := by omega
    go_enter Try.func140, Try.ntmps140
    go_wp2
    go_loopw [5, 13] (fun cv jv wr => ∃ (j q : Nat), j ≤ n - (i + 1) ∧ jv = .int .i64 j ∧ cv = .int .i64 q ∧ q ≤ j ∧ Hid (q = cl z ((zs.drop (i + 1)).take j)) ∧ Drawn W wr) (fun _ j _ => n - (intOf j).toNat)
    case atStart => exact ⟨0, 0, Nat.zero_le _, rfl, rfl, Nat.le_refl _, Go.Lib.hid (by simp [cl]), Drawn.refl _⟩
    case round =>
      obtain ⟨j, q, hj, rfl, rfl, hq, HQ, HD⟩ := hrel
      by_cases hlt : j < n - (i + 1)
      · have hck : wr.cell? ⟨b, o + (i + 1) + j, none⟩ = some (.int .i64 (zs.getD (i + 1 + j) 0)) := by
          have := HC.out (i + 1 + j) (by omega)
          rw [HD.cell, ← this]; congr 2; omega
        have hck1 : wr.cell? ⟨b, o + i, none⟩ = some (.int .i64 z) := (HD.cell _).trans hck0
        have hdl : j < (zs.drop (i + 1)).length := by rw [List.length_drop]; omega
        have hgd : (zs.drop (i + 1))[j] = zs.getD (i + 1 + j) 0 := by rw [List.getElem_drop]; simp [show i + 1 + j < zs.length by omega]
        obtain ⟨x, hx⟩ : ∃ x, zs.getD (i + 1 + j) 0 = x := ⟨_, rfl⟩
        have HN : Hid (cl z ((zs.drop (i + 1)).take (j + 1)) = q + (if x < z then 1 else 0)) := Go.Lib.hid (by rw [cl_next hdl, hgd, hx, HQ.out])
        rw [hx] at hck
        have hlti : (j : Int) < ((n - (i + 1) : Nat) : Int) := by omega
        have hj2 : j < n := by omega
        clear hx hgd hdl
        by_cases hxz : x < z
        · rw [if_pos hxz] at HN
          go_wp2
          go_roundw
          case rel => exact ⟨j + 1, q + 1, by omega, by go_num, by go_num, by omega, Go.Lib.hid HN.out.symm, HD⟩
          case measure => simp [intOf]; omega
        · rw [if_neg hxz] at HN
          go_wp2
          go_roundw
          case rel => exact ⟨j + 1, q, by omega, by go_num, rfl, by omega, Go.Lib.hid (by rw [HN.out]; rfl), HD⟩
          case measure => simp [intOf]; omega
      · have HR : Hid (q = lessAt zs i) := Go.Lib.hid (by rw [HQ.out, HL.out, List.take_of_length_le (by rw [List.length_drop]; omega)])
        have hlti : ¬ (j : Int) < ((n - (i + 1) : Nat) : Int) := by omega
        go_wp2
        go_ret
        exact ⟨by rw [← HR.out]; rfl, HD⟩

set_option maxRecDepth 100000 in
set_option maxHeartbeats 1000000 in
theorem implRank (zs : List Int) (r' : Int) (b : Bool) (h : rankAns zs = (r', b)) (hz : zs.length ≤ 1048576) (W : World) (v : Value) (n : Nat) (hv : Sees W v n (vals zs)) :
    Calls Try.prog 70 #[v] W fun e w' => e = .returned (.tuple #[.int .i64 r', .bool b]) ∧ Below W.heap.size W w' := by
  have hn : n ≤ 1048576 := by have := hv.1; simp at this; omega
  obtain ⟨i0, hi, hz0, hz1, hz2⟩ := info_parts infoI
  obtain ⟨r, hr⟩ : ∃ r, isOrd zs = r := ⟨_, rfl⟩
  have CO := Go.Lib.hid (fun W' (hs : Sees W' v n (vals zs)) => implOrder_any W' v n zs r hs hn hr)
  have HV := Go.Lib.hid hv
  unfold rankAns at h
  cases r with
  | false =>
    rw [if_neg (by unfold isOrd at hr; exact of_decide_eq_false hr)] at h
    cases h
    clear hv hr
    go_enter Try.func70, Try.ntmps70
    go_wp2_with fail
    refine (CO.out _ HV.out).mono ?_
    rintro e w1 ⟨rfl, hd⟩
    have HB : Hid (Below W.heap.size W w1) := Go.Lib.hid hd
    go_wp2_with fail
    go_ret2
    exact ⟨rfl, HB.out⟩
  | true =>
    have hord : Ord zs := by unfold isOrd at hr; exact of_decide_eq_true hr
    rw [if_pos hord] at h
    cases h
    have hl : zs.length = n := by simpa using hv.1
    have hn1 : 1 ≤ n := by have := hord.1; omega
    have hn7 : n ≤ 7 := by have := hord.2.1; omega
    obtain ⟨b, o, cap, rfl, hcap, _, hbl, hcell⟩ := sees_cells hv (by omega)
    have HC := Go.Lib.hid hcell
    clear hv hr hcell
    go_enter Try.func70, Try.ntmps70
    go_wp2_with fail
    refine (CO.out _ HV.out).mono ?_
    rintro e w1 ⟨rfl, hd⟩
    have HB : Hid (Below W.heap.size W w1) := Go.Lib.hid hd
    clear hd
    go_wp2_with fail
    go_loopw [4, 11] (fun rv iv wr => ∃ (k q : Nat), k ≤ n ∧ iv = .int .i64 k ∧ rv = .int .i64 q ∧ q ≤ 30240 ∧ Hid (q = rankH zs k) ∧ Below W.heap.size W wr) (fun _ i _ => n - (intOf i).toNat)
    case atStart => exact ⟨0, 0, Nat.zero_le _, rfl, rfl, Nat.zero_le _, Go.Lib.hid rfl, HB.out⟩
    case round =>
      obtain ⟨k, q, hk, rfl, rfl, hq, HQ, hb⟩ := hrel
      by_cases hlt : k < n
      · have CL := Go.Lib.hid (lessBehind_any zs k wr _ n hz (by omega) (HV.out.grow hb))
        obtain ⟨l, hl0⟩ : ∃ l, lessAt zs k = l := ⟨_, rfl⟩
        have hl6 : l ≤ 7 := by rw [← hl0]; have := lessAt_le zs k; omega
        have HN : Hid (rankH zs (k + 1) = q * (n - k) + l) := Go.Lib.hid (by rw [← hl0, HQ.out, ← hl]; rfl)
        have hN := rankH_le zs (by omega) (k + 1) (by omega)
        obtain ⟨p, hp⟩ : ∃ p, q * (n - k) = p := ⟨_, rfl⟩
        have hpi : (q : Int) * ((n : Int) - (k : Int)) = (p : Int) := by rw [← hp, Int.natCast_mul, Int.natCast_sub (by omega)]
        rw [HN.out, hp] at hN
        rw [hp] at HN
        rw [hl0] at CL
        have hlti : (k : Int) < (n : Int) := by omega
        have HBB := Go.Lib.hid hb
        clear hp hl0 hb HB CO
        go_wp2_with fail
        refine CL.out.mono ?_
        rintro e w2 ⟨rfl, hd⟩
        go_wp2_with fail
        go_roundw
        case rel => exact ⟨k + 1, p + l, by omega, by go_num, by go_num, by omega, Go.Lib.hid HN.out.symm, HBB.out.trans (hd.below _)⟩
        case measure => simp [intOf] <;> omega
      · have HR : Hid (q = rankS zs zs.length) := Go.Lib.hid (by rw [HQ.out, ← rank_end]; congr 1; omega)
        have HBB := Go.Lib.hid hb
        clear hb
        go_wp2
        go_ret2
        exact ⟨by rw [← HR.out]; rfl, HBB.out⟩

set_option maxRecDepth 100000 in
set_option maxHeartbeats 1000000 in
theorem implInvs (zs : List Int) (r' : Int) (b : Bool) (h : invsAns zs = (r', b)) (hz : zs.length ≤ 1048576) (W : World) (v : Value) (n : Nat) (hv : Sees W v n (vals zs)) :
    Calls Try.prog 72 #[v] W fun e w' => e = .returned (.tuple #[.int .i64 r', .bool b]) ∧ Below W.heap.size W w' := by
  have hn : n ≤ 1048576 := by have := hv.1; simp at this; omega
  obtain ⟨i0, hi, hz0, hz1, hz2⟩ := info_parts infoI
  obtain ⟨r, hr⟩ : ∃ r, isOrd zs = r := ⟨_, rfl⟩
  have CO := Go.Lib.hid (fun W' (hs : Sees W' v n (vals zs)) => implOrder_any W' v n zs r hs hn hr)
  have HV := Go.Lib.hid hv
  unfold invsAns at h
  cases r with
  | false =>
    rw [if_neg (by unfold isOrd at hr; exact of_decide_eq_false hr)] at h
    cases h
    clear hv hr
    go_enter Try.func72, Try.ntmps72
    go_wp2_with fail
    refine (CO.out _ HV.out).mono ?_
    rintro e w1 ⟨rfl, hd⟩
    have HB : Hid (Below W.heap.size W w1) := Go.Lib.hid hd
    go_wp2_with fail
    go_ret2
    exact ⟨rfl, HB.out⟩
  | true =>
    have hord : Ord zs := by unfold isOrd at hr; exact of_decide_eq_true hr
    rw [if_pos hord] at h
    cases h
    have hl : zs.length = n := by simpa using hv.1
    have hn1 : 1 ≤ n := by have := hord.1; omega
    have hn7 : n ≤ 7 := by have := hord.2.1; omega
    obtain ⟨b, o, cap, rfl, hcap, _, hbl, hcell⟩ := sees_cells hv (by omega)
    have HC := Go.Lib.hid hcell
    clear hv hr hcell
    go_enter Try.func72, Try.ntmps72
    go_wp2_with fail
    refine (CO.out _ HV.out).mono ?_
    rintro e w1 ⟨rfl, hd⟩
    have HB : Hid (Below W.heap.size W w1) := Go.Lib.hid hd
    clear hd
    go_wp2_with fail
    go_loopw [4, 11] (fun rv iv wr => ∃ (k q : Nat), k ≤ n ∧ iv = .int .i64 k ∧ rv = .int .i64 q ∧ q ≤ 49 ∧ Hid (q = invTo zs k) ∧ Below W.heap.size W wr) (fun _ i _ => n - (intOf i).toNat)
    case atStart => exact ⟨0, 0, Nat.zero_le _, rfl, rfl, Nat.zero_le _, Go.Lib.hid rfl, HB.out⟩
    case round =>
      obtain ⟨k, q, hk, rfl, rfl, hq, HQ, hb⟩ := hrel
      by_cases hlt : k < n
      · have CL := Go.Lib.hid (lessBehind_any zs k wr _ n hz (by omega) (HV.out.grow hb))
        obtain ⟨l, hl0⟩ : ∃ l, lessAt zs k = l := ⟨_, rfl⟩
        have hl6 : l ≤ 7 := by rw [← hl0]; have := lessAt_le zs k; omega
        have HN : Hid (invTo zs (k + 1) = q + l) := Go.Lib.hid (by rw [← hl0, HQ.out]; rfl)
        have hN := invTo_le zs (by omega) (k + 1) (by omega)
        rw [HN.out] at hN
        rw [hl0] at CL
        have hlti : (k : Int) < (n : Int) := by omega
        have HBB := Go.Lib.hid hb
        clear hl0 hb HB CO
        go_wp2_with fail
        refine CL.out.mono ?_
        rintro e w2 ⟨rfl, hd⟩
        go_wp2_with fail
        go_roundw
        case rel => exact ⟨k + 1, q + l, by omega, by go_num, by go_num, by omega, Go.Lib.hid HN.out.symm, HBB.out.trans (hd.below _)⟩
        case measure => simp [intOf] <;> omega
      · have HR : Hid (q = invTo zs zs.length) := Go.Lib.hid (by rw [HQ.out]; congr 1; omega)
        have HBB := Go.Lib.hid hb
        clear hb
        go_wp2
        go_ret2
        exact ⟨by rw [← HR.out]; rfl, HBB.out⟩

set_option maxRecDepth 100000 in
set_option maxHeartbeats 2000000 in
theorem l2Rank_any (zs : List Int) (hord : Ord zs) (W : World) (v : Value) (n : Nat) (hv : Sees W v n (vals zs)) :
    Calls Try.prog 141 #[v] W fun e w' => e = .returned (.int .i64 (rankS zs zs.length : Nat)) ∧ Drawn W w' := by
  have hl : zs.length = n := by simpa using hv.1
  have hn1 : 1 ≤ n := by have := hord.1; omega
  have hn7 : n ≤ 7 := by have := hord.2.1; omega
  obtain ⟨b, o, cap, rfl, hcap, _, hbl, hcell⟩ := sees_cells hv (by omega)
  have HC := Go.Lib.hid hcell
  clear hv hcell
  go_enter Try.func141, Try.ntmps141
  go_wp2
  go_loopw [3, 4] (fun rv iv wr => ∃ (k q : Nat), k ≤ n ∧ iv = .int .i64 k ∧ rv = .int .i64 q ∧ q ≤ 30240 ∧ Hid (q = rankS zs k) ∧ Drawn W wr) (fun _ i _ => n - (intOf i).toNat)
  case atStart => exact ⟨0, 0, Nat.zero_le _, rfl, rfl, Nat.zero_le _, Go.Lib.hid rfl, Drawn.refl _⟩
  case round =>
    obtain ⟨i, q, hi, rfl, rfl, hq, HQ, HD⟩ := hrel
    by_cases hlt : i < n
    · have hck0 := HC.out i (by omega)
      obtain ⟨z, hz⟩ : ∃ z, zs.getD i 0 = z := ⟨_, rfl⟩
      have HL : Hid (lessAt zs i = cl z (zs.drop (i + 1))) := Go.Lib.hid (by rw [← hz]; rfl)
      rw [hz] at hck0
      have hin : (i : Int) < (n : Int) := by omega
      clear hz
      go_wp2
      go_loopw [5, 6] (fun lv kv w2 => ∃ (j l : Nat), j ≤ n - (i + 1) ∧ kv = .int .i64 ((i + 1 + j : Nat) : Int) ∧ lv = .int .i64 l ∧ l ≤ j ∧ Hid (l = cl z ((zs.drop (i + 1)).take j)) ∧ Drawn W w2) (fun _ k _ => n - (intOf k).toNat)
      case atStart => exact ⟨0, 0, Nat.zero_le _, by go_num, rfl, Nat.le_refl _, Go.Lib.hid (by simp [cl]), HD⟩
      case round =>
        obtain ⟨j, l, hj, rfl, rfl, hlj, HLL, HD2⟩ := hrel
        clear HD
        by_cases hlt2 : j < n - (i + 1)
        · obtain ⟨kk, hkk⟩ : ∃ kk, i + 1 + j = kk := ⟨_, rfl⟩
          have hck : wr.cell? ⟨b, o + kk, none⟩ = some (.int .i64 (zs.getD kk 0)) := (HD2.cell _).trans (HC.out kk (by omega))
          have hck1 : wr.cell? ⟨b, o + i, none⟩ = some (.int .i64 z) := (HD2.cell _).trans hck0
          have hdl : j < (zs.drop (i + 1)).length := by rw [List.length_drop]; omega
          have hgd : (zs.drop (i + 1))[j] = zs.getD kk 0 := by rw [List.getElem_drop, ← hkk]; simp [show i + 1 + j < zs.length by omega]
          obtain ⟨x, hx⟩ : ∃ x, zs.getD kk 0 = x := ⟨_, rfl⟩
          have HN : Hid (cl z ((zs.drop (i + 1)).take (j + 1)) = l + (if x < z then 1 else 0)) := Go.Lib.hid (by rw [cl_next hdl, hgd, hx, HLL.out])
          rw [hx] at hck
          rw [hkk]
          have hki : (kk : Int) < (n : Int) := by omega
          have HK := Go.Lib.hid hkk
          clear hx hgd hdl hkk
          by_cases hxz : x < z
          · rw [if_pos hxz] at HN
            go_wp2
            go_quiet (fail)
            go_wp2
            go_roundw
            case rel => exact ⟨j + 1, l + 1, by omega, by rw [← Nat.add_assoc, HK.out]; go_num, by go_num, by omega, Go.Lib.hid HN.out.symm, HD2.next _⟩
            case measure => simp [intOf]; omega
          · rw [if_neg hxz] at HN
            go_wp2
            go_quiet (fail)
            go_wp2
            go_roundw
            case rel => exact ⟨j + 1, l, by omega, by rw [← Nat.add_assoc, HK.out]; go_num, rfl, by omega, Go.Lib.hid (by rw [HN.out]; rfl), HD2.next _⟩
            case measure => simp [intOf]; omega
        · have HR : Hid (lessAt zs i = l) := Go.Lib.hid (by rw [HLL.out, HL.out, List.take_of_length_le (by rw [List.length_drop]; omega)])
          have hkn : i + 1 + j = n := by omega
          rw [hkn]
          have CW := fun w3 => l2Ways_any (n - 1 - i) w3 (by omega)
          have hci : ((n - 1 - i : Nat) : Int) = (n : Int) - 1 - (i : Int) := by omega
          obtain ⟨f, hf⟩ : ∃ f, fact (n - 1 - i) = f := ⟨_, rfl⟩
          obtain ⟨p, hp⟩ : ∃ p, l * f = p := ⟨_, rfl⟩
          have HN : Hid (q + p = rankS zs (i + 1)) := Go.Lib.hid (by
            rw [HQ.out, ← hp, ← hf, ← hl]; show _ = rankS zs i + lessAt zs i * _; rw [HR.out])
          have hN := rankS_le zs (by omega) (i + 1) (by omega)
          rw [← HN.out] at hN
          have hpi : (l : Int) * (f : Int) = (p : Int) := by rw [← hp]; simp
          rw [hci, hf] at CW
          have HCW := Go.Lib.hid CW
          have hq2 : q + p ≤ 30240 := by omega
          clear CW hci hf hp hkn hck0
          go_wp2_with fail
          refine (HCW.out _).mono ?_
          rintro e w3 ⟨rfl, rfl⟩
          go_wp2_with fail
          go_roundw
          case rel => exact ⟨i + 1, q + p, by omega, by go_num, by go_num, hq2, HN, HD2⟩
          case measure => simp [intOf]; omega
    · have HR : Hid (q = rankS zs zs.length) := Go.Lib.hid (by rw [HQ.out]; congr 1; omega)
      go_wp2
      go_ret
      exact ⟨by rw [← HR.out]; rfl, HD⟩

set_option maxRecDepth 100000 in
set_option maxHeartbeats 1000000 in
theorem specRank (zs : List Int) (r' : Int) (b : Bool) (h : rankAns zs = (r', b)) (hz : zs.length ≤ 1048576) (W : World) (v : Value) (n : Nat) (hv : Sees W v n (vals zs)) :
    Calls Try.prog 71 #[v] W fun e w' => e = .returned (.tuple #[.int .i64 r', .bool b]) ∧ Below W.heap.size W w' := by
  have hn : n ≤ 1048576 := by have := hv.1; simp at this; omega
  obtain ⟨i0, hi, hz0, hz1, hz2⟩ := info_parts infoI
  obtain ⟨r, hr⟩ : ∃ r, isOrd zs = r := ⟨_, rfl⟩
  have CO := Go.Lib.hid (fun W' (hs : Sees W' v n (vals zs)) => l2Order_any W' v n zs r hs hn hr)
  have HV := Go.Lib.hid hv
  unfold rankAns at h
  cases r with
  | false =>
    rw [if_neg (by unfold isOrd at hr; exact of_decide_eq_false hr)] at h
    cases h
    clear hv hr
    go_enter Try.func71, Try.ntmps71
    go_wp2_with fail
    refine (CO.out _ HV.out).mono ?_
    rintro e w1 ⟨rfl, hd⟩
    have HB : Hid (Below W.heap.size W w1) := Go.Lib.hid (hd.below _)
    go_wp2_with fail
    go_ret2
    exact ⟨rfl, HB.out⟩
  | true =>
    have hord : Ord zs := by unfold isOrd at hr; exact of_decide_eq_true hr
    rw [if_pos hord] at h
    cases h
    have hl : zs.length = n := by simpa using hv.1
    have hn1 : 1 ≤ n := by have := hord.1; omega
    have hn7 : n ≤ 7 := by have := hord.2.1; omega
    obtain ⟨b, o, cap, rfl, hcap, _, hbl, hcell⟩ := sees_cells hv (by omega)
    have HC := Go.Lib.hid hcell
    clear hv hr hcell
    go_enter Try.func71, Try.ntmps71
    go_wp2_with fail
    refine (CO.out _ HV.out).mono ?_
    rintro e w1 ⟨rfl, hd⟩
    have HB : Hid (Below W.heap.size W w1) := Go.Lib.hid (hd.below _)
    clear hd
    go_wp2_with fail
    refine (l2Rank_any zs hord w1 _ n (HV.out.grow HB.out)).mono ?_
    rintro e w2 ⟨rfl, hd⟩
    go_wp2_with fail
    go_ret2
    exact ⟨by rw [hl]; rfl, HB.out.trans (hd.below _)⟩

set_option maxRecDepth 100000 in
set_option maxHeartbeats 1000000 in
theorem specInvs (zs : List Int) (r' : Int) (b : Bool) (h : invsAns zs = (r', b)) (hz : zs.length ≤ 1048576) (W : World) (v : Value) (n : Nat) (hv : Sees W v n (vals zs)) :
    Calls Try.prog 73 #[v] W fun e w' => e = .returned (.tuple #[.int .i64 r', .bool b]) ∧ Below W.heap.size W w' := by
  have hn : n ≤ 1048576 := by have := hv.1; simp at this; omega
  obtain ⟨i0, hi, hz0, hz1, hz2⟩ := info_parts infoI
  obtain ⟨r, hr⟩ : ∃ r, isOrd zs = r := ⟨_, rfl⟩
  have CO := Go.Lib.hid (fun W' (hs : Sees W' v n (vals zs)) => l2Order_any W' v n zs r hs hn hr)
  have HV := Go.Lib.hid hv
  unfold invsAns at h
  cases r with
  | false =>
    rw [if_neg (by unfold isOrd at hr; exact of_decide_eq_false hr)] at h
    cases h
    clear hv hr
    go_enter Try.func73, Try.ntmps73
    go_wp2_with fail
    refine (CO.out _ HV.out).mono ?_
    rintro e w1 ⟨rfl, hd⟩
    have HB : Hid (Below W.heap.size W w1) := Go.Lib.hid (hd.below _)
    go_wp2_with fail
    go_ret2
    exact ⟨rfl, HB.out⟩
  | true =>
    have hord : Ord zs := by unfold isOrd at hr; exact of_decide_eq_true hr
    rw [if_pos hord] at h
    cases h
    have hl : zs.length = n := by simpa using hv.1
    have hn1 : 1 ≤ n := by have := hord.1; omega
    have hn7 : n ≤ 7 := by have := hord.2.1; omega
    obtain ⟨b, o, cap, rfl, hcap, _, hbl, hcell⟩ := sees_cells hv (by omega)
    have HC := Go.Lib.hid hcell
    clear hv hr hcell
    go_enter Try.func73, Try.ntmps73
    go_wp2_with fail
    refine (CO.out _ HV.out).mono ?_
    rintro e w1 ⟨rfl, hd⟩
    have HB : Hid (Below W.heap.size W w1) := Go.Lib.hid (hd.below _)
    clear hd
    go_wp2_with fail
    go_loopw [4, 5] (fun mv iv wr => ∃ (i q : Nat), i ≤ n ∧ iv = .int .i64 i ∧ mv = .int .i64 q ∧ q ≤ 49 ∧ Hid (q = invTo zs i) ∧ Below W.heap.size W wr) (fun _ i _ => n - (intOf i).toNat)
    case atStart => exact ⟨0, 0, Nat.zero_le _, rfl, rfl, Nat.zero_le _, Go.Lib.hid rfl, HB.out⟩
    case round =>
      obtain ⟨i, q, hi, rfl, rfl, hq, HQ, HD⟩ := hrel
      by_cases hlt : i < n
      · have hck0 := HC.out i (by omega)
        obtain ⟨z, hz⟩ : ∃ z, zs.getD i 0 = z := ⟨_, rfl⟩
        have HL : Hid (lessAt zs i = cl z (zs.drop (i + 1))) := Go.Lib.hid (by rw [← hz]; rfl)
        rw [hz] at hck0
        have hin : (i : Int) < (n : Int) := by omega
        clear hz
        go_wp2
        go_loopw [4, 6] (fun mv kv w2 => ∃ (j l : Nat), j ≤ n - (i + 1) ∧ kv = .int .i64 ((i + 1 + j : Nat) : Int) ∧ mv = .int .i64 ((q + l : Nat) : Int) ∧ l ≤ j ∧ Hid (l = cl z ((zs.drop (i + 1)).take j)) ∧ Below W.heap.size W w2) (fun _ k _ => n - (intOf k).toNat)
        case atStart => exact ⟨0, 0, Nat.zero_le _, by go_num, rfl, Nat.le_refl _, Go.Lib.hid (by simp [cl]), HD⟩
        case round =>
          obtain ⟨j, l, hj, rfl, rfl, hlj, HLL, HD2⟩ := hrel
          clear HD
          by_cases hlt2 : j < n - (i + 1)
          · obtain ⟨kk, hkk⟩ : ∃ kk, i + 1 + j = kk := ⟨_, rfl⟩
            have hck : wr.cell? ⟨b, o + kk, none⟩ = some (.int .i64 (zs.getD kk 0)) := (HD2.cell (p := ⟨b, o + kk, none⟩) hbl).trans (HC.out kk (by omega))
            have hck1 : wr.cell? ⟨b, o + i, none⟩ = some (.int .i64 z) := (HD2.cell (p := ⟨b, o + i, none⟩) hbl).trans hck0
            have hdl : j < (zs.drop (i + 1)).length := by rw [List.length_drop]; omega
            have hgd : (zs.drop (i + 1))[j] = zs.getD kk 0 := by rw [List.getElem_drop, ← hkk]; simp [show i + 1 + j < zs.length by omega]
            obtain ⟨x, hx⟩ : ∃ x, zs.getD kk 0 = x := ⟨_, rfl⟩
            have HN : Hid (cl z ((zs.drop (i + 1)).take (j + 1)) = l + (if x < z then 1 else 0)) := Go.Lib.hid (by rw [cl_next hdl, hgd, hx, HLL.out])
            rw [hx] at hck
            rw [hkk]
            obtain ⟨ql, hql⟩ : ∃ ql, q + l = ql := ⟨_, rfl⟩
            rw [hql]
            have hql2 : ql ≤ 60 := by omega
            have hki : (kk : Int) < (n : Int) := by omega
            have HK := Go.Lib.hid (And.intro hkk hql)
            clear hx hgd hdl hkk hql
            by_cases hxz : x < z
            · rw [if_pos hxz] at HN
              go_wp2
              go_quiet (fail)
              go_wp2
              go_roundw
              case rel => exact ⟨j + 1, l + 1, by omega, by rw [← Nat.add_assoc, HK.out.1]; go_num, by rw [← Nat.add_assoc, HK.out.2]; go_num, by omega, Go.Lib.hid HN.out.symm, below_drewN HD2⟩
              case measure => simp [intOf]; omega
            · rw [if_neg hxz] at HN
              go_wp2
              go_quiet (fail)
              go_wp2
              go_roundw
              case rel => exact ⟨j + 1, l, by omega, by rw [← Nat.add_assoc, HK.out.1]; go_num, by rw [HK.out.2], by omega, Go.Lib.hid (by rw [HN.out]; rfl), below_drewN HD2⟩
              case measure => simp [intOf]; omega
          · have HR : Hid (lessAt zs i = l) := Go.Lib.hid (by rw [HLL.out, HL.out, List.take_of_length_le (by rw [List.length_drop]; omega)])
            have hkn : i + 1 + j = n := by omega
            rw [hkn]
            have HN : Hid (q + l = invTo zs (i + 1)) := Go.Lib.hid (by rw [HQ.out]; show _ = invTo zs i + lessAt zs i; rw [HR.out])
            have hN := invTo_le zs (by omega) (i + 1) (by omega)
            rw [← HN.out] at hN
            have hq2 : q + l ≤ 49 := by omega
            clear hkn hck0
            go_wp2_with fail
            go_roundw
            case rel => exact ⟨i + 1, q + l, by omega, by go_num, rfl, hq2, HN, HD2⟩
            case measure => simp [intOf]; omega
      · have HR : Hid (q = invTo zs zs.length) := Go.Lib.hid (by rw [HQ.out]; congr 1; omega)
        go_wp2
        go_ret2
        exact ⟨by rw [← HR.out]; rfl, HD⟩

end Go.Proofs.Ytecbfoodkcgehab.RankC

/-
  Contracts: cmp.Compare at int, slices.Compare at lists of ints. Conditions: lists of at most 2^20 numbers.
-/
namespace Go.Proofs.Ytecbfoodkcgehab.CmpC
open Go.RowKit SeesC IntsC ExactC

/-- Lists told apart at the first place where they differ. -/
def cmpL : List Int → List Int → Int
  | [], [] => 0
  | [], _ :: _ => -1
  | _ :: _, [] => 1
  | x :: xs, y :: ys => if x < y then -1 else if y < x then 1 else cmpL xs ys

set_option maxRecDepth 100000 in
theorem cmpNaN_any (x : Int) (W : World) : Calls Try.prog 211 #[.int .i64 x] W fun e w' => e = .returned (.bool false) ∧ W = w' := by
  go_enter Try.func211, Try.ntmps211
  go_wp2
  go_ret
  exact ⟨rfl, rfl⟩

set_option maxRecDepth 100000 in
theorem cmpInt_any (x y : Int) (W : World) (r : Int) (h : (if x < y then (-1 : Int) else if y < x then 1 else 0) = r) :
    Calls Try.prog 197 #[.int .i64 x, .int .i64 y] W fun e w' => e = .returned (.int .i64 r) ∧ W = w' := by
  have C1 := Go.Lib.hid (cmpNaN_any x W)
  have C2 := Go.Lib.hid (cmpNaN_any y W)
  by_cases h1 : x < y
  · have HR : Hid (r = -1) := Go.Lib.hid (by rw [← h, if_pos h1])
    clear h
    go_enter Try.func197, Try.ntmps197
    go_wp2_with fail
    refine (C1.out).mono ?_
    rintro e _ ⟨rfl, rfl⟩
    go_wp2_with fail
    refine (C2.out).mono ?_
    rintro e _ ⟨rfl, rfl⟩
    go_wp2_with fail
    go_ret
    exact ⟨by rw [HR.out]; rfl, rfl⟩
  · by_cases h2 : y < x
    · have HR : Hid (r = 1) := Go.Lib.hid (by rw [← h, if_neg h1, if_pos h2])
      clear h
      go_enter Try.func197, Try.ntmps197
      go_wp2_with fail
      refine (C1.out).mono ?_
      rintro e _ ⟨rfl, rfl⟩
      go_wp2_with fail
      refine (C2.out).mono ?_
      rintro e _ ⟨rfl, rfl⟩
      go_wp2_with fail
      go_ret
      exact ⟨by rw [HR.out]; rfl, rfl⟩
    · have HR : Hid (r = 0) := Go.Lib.hid (by rw [← h, if_neg h1, if_neg h2])
      clear h
      go_enter Try.func197, Try.ntmps197
      go_wp2_with fail
      refine (C1.out).mono ?_
      rintro e _ ⟨rfl, rfl⟩
      go_wp2_with fail
      refine (C2.out).mono ?_
      rintro e _ ⟨rfl, rfl⟩
      go_wp2_with fail
      go_ret
      exact ⟨by rw [HR.out]; rfl, rfl⟩

theorem cmpL_drop {xs ys : List Int} {k : Nat} (h1 : k < xs.length) (h2 : k < ys.length) : cmpL (xs.drop k) (ys.drop k) = if xs.getD k 0 < ys.getD k 0 then -1 else if ys.getD k 0 < xs.getD k 0 then 1 else cmpL (xs.drop (k + 1)) (ys.drop (k + 1)) := by
  rw [List.drop_eq_getElem_cons h1, List.drop_eq_getElem_cons h2]
  have e1 : xs.getD k 0 = xs[k] := by simp [h1]
  have e2 : ys.getD k 0 = ys[k] := by simp [h2]
  rw [e1, e2]
  rfl

set_option maxRecDepth 100000 in
set_option maxHeartbeats 1000000 in
theorem compare_any (xs ys : List Int) (hl : xs.length = ys.length) (W : World) (v : Value) (n : Nat) (hv : Sees W v n (vals xs)) (u : Value) (hu : Sees W u n (vals ys)) (hn1 : 1 ≤ n) (hn : n ≤ 1048576) (r : Int) (h : cmpL xs ys = r) :
    Calls Try.prog 167 #[v, u] W fun e w' => e = .returned (.int .i64 r) ∧ Drawn W w' := by
  have hln : xs.length = n := by simpa using hv.1
  obtain ⟨b, o, cap, rfl, _, _, hbl, hcell⟩ := sees_cells hv (by omega)
  obtain ⟨b2, o2, cap2, rfl, _, _, hbl2, hcell2⟩ := sees_cells hu (by omega)
  have HA := Go.Lib.hid hcell
  have HB := Go.Lib.hid hcell2
  have H0 : Hid (cmpL (xs.drop 0) (ys.drop 0) = r) := Go.Lib.hid (by simpa using h)
  clear hv hu h hcell hcell2
  go_enter Try.func167, Try.ntmps167
  go_wp2
  go_loopw [11] (fun i wr => ∃ k : Nat, k ≤ n ∧ i = .int .i64 k ∧ Hid (cmpL (xs.drop k) (ys.drop k) = r) ∧ Drawn W wr) (fun i _ => n - (intOf i).toNat)
  case atStart => exact ⟨0, Nat.zero_le _, rfl, H0, Drawn.refl _⟩
  case round =>
    obtain ⟨k, hk, rfl, HC, HD⟩ := hrel
    clear H0
    by_cases hlt : k < n
    · have hck : wr.cell? ⟨b, o + k, none⟩ = some (.int .i64 (xs.getD k 0)) := (HD.cell _).trans (HA.out k (by omega))
      have hck2 : wr.cell? ⟨b2, o2 + k, none⟩ = some (.int .i64 (ys.getD k 0)) := (HD.cell _).trans (HB.out k (by omega))
      have hstep := cmpL_drop (xs := xs) (ys := ys) (k := k) (by omega) (by omega)
      rw [HC.out] at hstep
      obtain ⟨x, hx⟩ : ∃ x, xs.getD k 0 = x := ⟨_, rfl⟩
      obtain ⟨y, hy⟩ : ∃ y, ys.getD k 0 = y := ⟨_, rfl⟩
      rw [hx, hy] at hstep
      rw [hx] at hck
      rw [hy] at hck2
      have hlti : (k : Int) < (n : Int) := by omega
      clear hx hy
      by_cases h1 : x < y
      · have HR : Hid (r = -1) := Go.Lib.hid (by rw [hstep, if_pos h1])
        have C1 := Go.Lib.hid (fun W => cmpInt_any x y W (-1) (by rw [if_pos h1]))
        clear hstep h1
        go_wp2_with fail
        refine (C1.out _).mono ?_
        rintro e w2 ⟨rfl, rfl⟩
        go_wp2_with fail
        go_ret
        exact ⟨by rw [HR.out]; rfl, HD⟩
      · by_cases h2 : y < x
        · have HR : Hid (r = 1) := Go.Lib.hid (by rw [hstep, if_neg h1, if_pos h2])
          have C1 := Go.Lib.hid (fun W => cmpInt_any x y W 1 (by rw [if_neg h1, if_pos h2]))
          clear hstep h1 h2
          go_wp2_with fail
          refine (C1.out _).mono ?_
          rintro e w2 ⟨rfl, rfl⟩
          go_wp2_with fail
          go_ret
          exact ⟨by rw [HR.out]; rfl, HD⟩
        · have HR : Hid (cmpL (xs.drop (k + 1)) (ys.drop (k + 1)) = r) := Go.Lib.hid (by rw [hstep, if_neg h1, if_neg h2])
          have C1 := Go.Lib.hid (fun W => cmpInt_any x y W 0 (by rw [if_neg h1, if_neg h2]))
          clear hstep h1 h2
          go_wp2_with fail
          refine (C1.out _).mono ?_
          rintro e w2 ⟨rfl, rfl⟩
          go_wp2_with fail
          go_roundw
          case rel => exact ⟨k + 1, by omega, by go_num, HR, HD⟩
          case measure => simp [intOf]; omega
    · have HR : Hid (r = 0) := Go.Lib.hid (by rw [← HC.out, List.drop_of_length_le (by omega), List.drop_of_length_le (by omega)]; rfl)
      go_wp2
      go_ret
      exact ⟨by rw [HR.out]; rfl, HD⟩
end Go.Proofs.Ytecbfoodkcgehab.CmpC

/-
  Lists of lists of one length that are owned: each list in memory of its own. The laws' comparison, marks, and the sight of the marks. Conditions: lists of at most 2^20 lists of at most 100 numbers.
-/
namespace Go.Proofs.Ytecbfoodkcgehab.ListsC
open Go.RowKit SeesC IntsC ExactC CmpC

/-- A list's own value. -/
def sl (n : Nat) (p : Nat × Nat) : Value := .slice (some ⟨p.1, 0, none⟩) n p.2

/-- Lists of n values each, owned, in rows that are told apart. -/
def Lists (w : World) (base n : Nat) (v : Value) (L : List (List Value)) : Prop :=
  ∃ gs : List (Nat × Nat), gs.length = L.length ∧ w.ownsRow base 29 1 v L.length (gs.map (sl n)) ∧
    (∀ i, i < L.length → w.ownsRow base 3 1 (sl n (gs.getD i (0, 0))) n (L.getD i [])) ∧
    (gs.map (·.1)).Nodup ∧ (∀ p ∈ gs, v.ownBlock ≠ some p.1)

theorem Lists.kept {w w' : World} {base n : Nat} {v : Value} {L : List (List Value)} (h : Lists w base n v L) (hb : Below w.heap.size w w') : Lists w' base n v L := by
  obtain ⟨gs, h1, h2, h3, h4, h5⟩ := h
  exact ⟨gs, h1, kept_call h2 hb, fun i hi => kept_call (h3 i hi) hb, h4, h5⟩

theorem Lists.lower {w : World} {base base' n : Nat} {v : Value} {L : List (List Value)} (h : Lists w base n v L) (hle : base' ≤ base) : Lists w base' n v L := by
  obtain ⟨gs, h1, h2, h3, h4, h5⟩ := h
  exact ⟨gs, h1, own_lower h2 hle, fun i hi => own_lower (h3 i hi) hle, h4, h5⟩

/-- What is there when a list of lists is read. -/
def Looks (w : World) (n : Nat) (v : Value) (L : List (List Value)) : Prop :=
  ∃ gs : List (Nat × Nat), gs.length = L.length ∧ Sees w v L.length (gs.map (sl n)) ∧ (∀ i, i < L.length → Sees w (sl n (gs.getD i (0, 0))) n (L.getD i []))

theorem Lists.looks {w : World} {base n : Nat} {v : Value} {L : List (List Value)} (h : Lists w base n v L) : Looks w n v L := by
  obtain ⟨gs, h1, h2, h3, _, _⟩ := h
  exact ⟨gs, h1, Sees.owns h2, fun i hi => Sees.owns (h3 i hi)⟩

set_option maxRecDepth 100000 in
theorem rLists_same (w : World) (v u : Value) (n : Nat) (L : List (List Int)) (hv : Looks w n v (L.map vals)) (hu : Looks w n u (L.map vals)) (hn : n ≤ 1000) (hN : L.length ≤ 1048576) :
    Calls Try.prog 95 #[v, u] w fun e w' => e = .returned (.bool true) ∧ Drawn w w' := by
  obtain ⟨gs, hg, ⟨_, a, cap, rfl, _, hc⟩, hi⟩ := hv
  obtain ⟨gs2, hg2, ⟨_, a2, cap2, rfl, _, hc2⟩, hi2⟩ := hu
  obtain ⟨N, hLN⟩ : ∃ N, (L.map vals).length = N := ⟨_, rfl⟩
  rw [hLN] at hc hi hc2 hi2 hg hg2 ⊢
  have HNL : Hid (N = L.length) := Go.Lib.hid (by rw [← hLN]; simp)
  have hNm : N ≤ 1048576 := by have := HNL.out; omega
  clear hLN hN
  have HI := Go.Lib.hid hi
  have HI2 := Go.Lib.hid hi2
  clear hi hi2
  go_enter Try.func95, Try.ntmps95
  go_wp2
  go_loopw [5] (fun i wr => ∃ k : Nat, k ≤ N ∧ i = .int .i64 k ∧ Drawn w wr) (fun i _ => N - (intOf i).toNat)
  case atStart => exact ⟨0, Nat.zero_le _, rfl, Drawn.refl _⟩
  case round =>
    obtain ⟨k, hk, rfl, HD⟩ := hrel
    by_cases hlt : k < N
    · obtain ⟨b, o, rfl, hcell⟩ := hc (by omega)
      obtain ⟨b2, o2, rfl, hcell2⟩ := hc2 (by omega)
      obtain ⟨p, hp⟩ : ∃ p, gs.getD k (0, 0) = p := ⟨_, rfl⟩
      obtain ⟨p2, hp2⟩ : ∃ p, gs2.getD k (0, 0) = p := ⟨_, rfl⟩
      obtain ⟨xs, hxs⟩ : ∃ xs, L.getD k [] = xs := ⟨_, rfl⟩
      have hex : (L.map vals).getD k [] = vals xs := by rw [← hxs]; simp [show k < L.length by have := HNL.out; omega]
      have hck : wr.cell? ⟨b, o + k, none⟩ = some (sl n p) := (HD.cell _).trans (hcell k _ (by rw [← hp]; simp [show k < gs.length by omega]))
      have hck2 : wr.cell? ⟨b2, o2 + k, none⟩ = some (sl n p2) := (HD.cell _).trans (hcell2 k _ (by rw [← hp2]; simp [show k < gs2.length by omega]))
      have hs1 := HI.out k hlt
      have hs2 := HI2.out k hlt
      rw [hp, hex] at hs1
      rw [hp2, hex] at hs2
      have CR := Go.Lib.hid (fun W (h : Drawn w W) => rInts_same W (sl n p) (sl n p2) n xs (h.sees hs1) (h.sees hs2) (by unfold maxLen; omega))
      have HDH := Go.Lib.hid HD
      have hlti : (k : Int) < (N : Int) := by omega
      clear hp hp2 hxs hs1 hs2 hex hcell hcell2 hc hc2
      unfold sl at hck hck2 CR
      go_wp2
      go_quiet ((go_at_call 66; exact quiet_drawn (CR.out _ (HDH.out.next _))))
      go_wp2
      go_roundw
      case rel => exact ⟨k + 1, by omega, by go_num, HD.next _⟩
      case measure => simp [intOf]; omega
    · go_wp2
      go_ret
      exact ⟨rfl, HD⟩

/-- The marks of N lists of n, from a number on. -/
def marks (k0 n N : Nat) : List (List Value) := (List.range N).map fun i => imarks (k0 + n * i) n

theorem marks_len (k0 n N : Nat) : (marks k0 n N).length = N := by simp [marks]
theorem marks_at (k0 n N i : Nat) (h : i < N) : (marks k0 n N).getD i [] = imarks (k0 + n * i) n := by simp [marks, h]

theorem own_block_lt {w : World} {base n : Nat} {e : TypeId} {v : Value} {xs : List Value} (h : w.ownsRow base e 1 v n xs) {q : Nat} (hq : v.ownBlock = some q) : base ≤ q ∧ q < w.heap.size := h.lt q hq

theorem nodup_ne {gs : List (Nat × Nat)} (h : (gs.map (·.1)).Nodup) {i j : Nat} (hi : i < gs.length) (hj : j < gs.length) (hne : i ≠ j) : (gs.getD i (0, 0)).1 ≠ (gs.getD j (0, 0)).1 := by
  intro e
  have h1 : (gs.map (·.1))[i]'(by simpa using hi) = (gs.map (·.1))[j]'(by simpa using hj) := by
    simp [hi, hj] at e ⊢
    exact e
  exact hne ((List.getElem_inj h).1 h1)

theorem mem_getD {gs : List (Nat × Nat)} {i : Nat} (hi : i < gs.length) : gs.getD i (0, 0) ∈ gs := by simp [hi]

end Go.Proofs.Ytecbfoodkcgehab.ListsC

/-
  Contract: no list, no mark. Conditions: none.
-/
namespace Go.Proofs.Ytecbfoodkcgehab.ListsDC
open Go.RowKit SeesC IntsC ExactC ListsC

end Go.Proofs.Ytecbfoodkcgehab.ListsDC

/-
  Lists of lists as answers, and what the walks of their exact laws carry from call to call. Conditions: lists of at most 2^20 lists.
-/
namespace Go.Proofs.Ytecbfoodkcgehab.ListsEC
open Go.RowKit SeesC IntsC ExactC ListsC ListsDC

/-- Lists of lists that have a property are returned, in memory of the call's own, and a truth value. -/
def LLTo (w : World) (e : Ending) (w' : World) (n : Nat) (b : Bool) (Q : List (List Int) → Prop) : Prop :=
  ∃ v R, e = .returned (.tuple #[v, .bool b]) ∧ Q R ∧ Lists w' w.heap.size n v (R.map vals) ∧ Below w.heap.size w w'

theorem lists_nil {w : World} {base n m : Nat} {v : Value} (h : Lists w base n v []) : Lists w base m v [] := by
  obtain ⟨gs, h1, h2, h3, h4, h5⟩ := h
  have hg : gs = [] := List.eq_nil_of_length_eq_zero h1
  subst hg
  exact ⟨[], rfl, h2, fun i hi => absurd hi (by simp), by simp, fun p hp => by simp at hp⟩

theorem lists_far {w w' : World} {row : Option Nat} {base n : Nat} {v : Value} {L : List (List Value)} (h : Lists w base n v L) (hg : w.grownBy w' row) (hq : ∀ q, row = some q → q < base) : Lists w' base n v L := by
  obtain ⟨gs, h1, h2, h3, h4, h5⟩ := h
  exact ⟨gs, h1, own_mark h2 hg (fun a ha e => by have h6 := own_block_lt h2 ha; have := hq a e; omega), fun i hi => own_mark (h3 i hi) hg (fun a ha e => by have h6 := own_block_lt (h3 i hi) ha; have := hq a e; omega), h4, h5⟩

/-- Lists that lie below a bound. -/
def Under (w : World) (B base n : Nat) (v : Value) (L : List (List Value)) : Prop :=
  ∃ gs : List (Nat × Nat), gs.length = L.length ∧ w.ownsRow base 29 1 v L.length (gs.map (sl n)) ∧
    (∀ i, i < L.length → w.ownsRow base 3 1 (sl n (gs.getD i (0, 0))) n (L.getD i [])) ∧
    (gs.map (·.1)).Nodup ∧ (∀ p ∈ gs, v.ownBlock ≠ some p.1) ∧ (∀ q, v.ownBlock = some q → q < B) ∧ (∀ i, i < L.length → (gs.getD i (0, 0)).1 < B)

theorem Under.lists {w : World} {B base n : Nat} {v : Value} {L : List (List Value)} (h : Under w B base n v L) : Lists w base n v L := by
  obtain ⟨gs, h1, h2, h3, h4, h5, _, _⟩ := h
  exact ⟨gs, h1, h2, h3, h4, h5⟩

theorem under_of {w : World} {base n : Nat} {v : Value} {L : List (List Value)} (h : Lists w base n v L) : Under w w.heap.size base n v L := by
  obtain ⟨gs, h1, h2, h3, h4, h5⟩ := h
  exact ⟨gs, h1, h2, h3, h4, h5, fun q hq => (own_block_lt h2 hq).2, fun i hi => (own_block_lt (h3 i hi) rfl).2⟩

theorem Under.kept {w w' : World} {B base n : Nat} {v : Value} {L : List (List Value)} (h : Under w B base n v L) (hb : Below w.heap.size w w') : Under w' B base n v L := by
  obtain ⟨gs, h1, h2, h3, h4, h5, h6, h7⟩ := h
  exact ⟨gs, h1, kept_call h2 hb, fun i hi => kept_call (h3 i hi) hb, h4, h5, h6, h7⟩

theorem under_far {w w' : World} {row : Option Nat} {B base n : Nat} {v : Value} {L : List (List Value)} (h : Under w B base n v L) (hg : w.grownBy w' row) (hq : ∀ q, row = some q → B ≤ q) : Under w' B base n v L := by
  obtain ⟨gs, h1, h2, h3, h4, h5, h6, h7⟩ := h
  refine ⟨gs, h1, own_mark h2 hg (fun a ha e => by have := h6 a ha; have := hq a e; omega), fun i hi => own_mark (h3 i hi) hg (fun a ha e => ?_), h4, h5, h6, h7⟩
  have h8 := h7 i hi
  have h9 := hq a e
  have h10 : (gs.getD i (0, 0)).1 = a := Option.some.inj ha
  omega

/-- A world in which all below a bound is as it was, as one that has grown elsewhere. -/
theorem own_below {w w' : World} {D base n : Nat} {ty : TypeId} {v : Value} {xs : List Value} (h : w.ownsRow base ty 1 v n xs) (hb : Below D w w') (hlt : ∀ q, v.ownBlock = some q → q < D) : w'.ownsRow base ty 1 v n xs := by
  obtain ⟨h1, h2⟩ := h
  refine ⟨h1, ?_⟩
  rcases h2 with h | ⟨g, cap, cur, hv, hg, hrest⟩
  · exact .inl h
  · have hgd : g < D := hlt g (by rw [hv]; rfl)
    have he := hb.block g hgd
    exact .inr ⟨g, cap, cur, hv, hg, by rw [he]; exact hrest⟩

theorem under_below {w w' : World} {D B base n : Nat} {v : Value} {L : List (List Value)} (h : Under w B base n v L) (hb : Below D w w') (hD : B ≤ D) : Under w' B base n v L := by
  obtain ⟨gs, h1, h2, h3, h4, h5, h6, h7⟩ := h
  refine ⟨gs, h1, own_below h2 hb (fun q hq => Nat.lt_of_lt_of_le (h6 q hq) hD), fun i hi => own_below (h3 i hi) hb (fun q hq => ?_), h4, h5, h6, h7⟩
  have h10 : (gs.getD i (0, 0)).1 = q := Option.some.inj hq
  have := h7 i hi
  omega

end Go.Proofs.Ytecbfoodkcgehab.ListsEC

/-
  One list more behind owned lists. Conditions: none. Plain facts on worlds.
-/
namespace Go.Proofs.Ytecbfoodkcgehab.ListsFC
open Go.RowKit SeesC IntsC ExactC ListsC ListsEC

theorem own_types {w : World} {b1 b2 n1 n2 a : Nat} {t1 t2 : TypeId} {v1 v2 : Value} {xs ys : List Value} (h1 : w.ownsRow b1 t1 1 v1 n1 xs) (h2 : w.ownsRow b2 t2 1 v2 n2 ys) (ht : t1 ≠ t2) (e1 : v1.ownBlock = some a) (e2 : v2.ownBlock = some a) : False := by
  rcases h1.2 with ⟨rfl, _⟩ | ⟨g1, c1, cu1, rfl, _, hb1, _⟩
  · cases e1
  · rcases h2.2 with ⟨rfl, _⟩ | ⟨g2, c2, cu2, rfl, _, hb2, _⟩
    · cases e2
    · have x1 : g1 = a := Option.some.inj e1
      have x2 : g2 = a := Option.some.inj e2
      subst x1
      subst x2
      rw [hb1] at hb2
      cases hb2
      exact ht rfl

theorem infoL : (Try.prog.info? 29).map (fun i => (i.zero, i.size, i.bytes)) = some (some (.slice none 0 0), 1, 24) := by kernel_rfl

theorem lists_snoc {X X' : World} {base n N : Nat} {v v5 : Value} {gs : List (Nat × Nat)} {p : Nat × Nat} {L : List (List Value)} {q : List Value}
    (hN : L.length = N) (hg : gs.length = N) (hout : X.ownsRow base 29 1 v N (gs.map (sl n)))
    (hin : ∀ i, i < N → X.ownsRow base 3 1 (sl n (gs.getD i (0, 0))) n (L.getD i [])) (hnd : (gs.map (·.1)).Nodup)
    (hp : X.ownsRow base 3 1 (sl n p) n q) (hfresh : ∀ i, i < N → (gs.getD i (0, 0)).1 ≠ p.1)
    (ho5 : X'.ownsRow base 29 1 v5 (N + 1) (gs.map (sl n) ++ [sl n p])) (hgrow : X.grownBy X' v.ownBlock) : Lists X' base n v5 (L ++ [q]) := by
  have hall : ∀ i, i < N + 1 → X'.ownsRow base 3 1 (sl n ((gs ++ [p]).getD i (0, 0))) n ((L ++ [q]).getD i []) := by
    intro i hi
    by_cases h : i < N
    · have e1 : (gs ++ [p]).getD i (0, 0) = gs.getD i (0, 0) := by rw [List.getD_eq_getElem?_getD, List.getElem?_append_left (by omega), ← List.getD_eq_getElem?_getD]
      have e2 : (L ++ [q]).getD i [] = L.getD i [] := by rw [List.getD_eq_getElem?_getD, List.getElem?_append_left (by omega), ← List.getD_eq_getElem?_getD]
      rw [e1, e2]
      exact own_mark (hin i h) hgrow (fun a ha e => own_types hout (hin i h) (by decide) e ha)
    · have hi2 : i = N := by omega
      subst hi2
      have e1 : (gs ++ [p]).getD i (0, 0) = p := by rw [List.getD_eq_getElem?_getD, List.getElem?_append_right (by omega), hg]; simp
      have e2 : (L ++ [q]).getD i [] = q := by rw [List.getD_eq_getElem?_getD, List.getElem?_append_right (by omega), hN]; simp
      rw [e1, e2]
      exact own_mark hp hgrow (fun a ha e => own_types hout hp (by decide) e ha)
  refine ⟨gs ++ [p], by simp [hg, hN], ?_, ?_, ?_, ?_⟩
  · rw [List.length_append, hN, List.map_append]; exact ho5
  · intro i hi
    rw [List.length_append, hN] at hi
    exact hall i hi
  · rw [List.map_append, List.nodup_append]
    refine ⟨hnd, by simp, ?_⟩
    intro a ha b hb e
    simp at hb
    subst hb
    obtain ⟨r, hr, rfl⟩ := List.mem_map.1 ha
    obtain ⟨i, hi, hir⟩ := List.mem_iff_getElem.1 hr
    have h1 := hfresh i (by omega)
    have h2 : gs.getD i (0, 0) = r := by rw [← hir]; simp [hi]
    rw [h2] at h1
    exact h1 e
  · intro r hr e
    obtain ⟨i, hi, hir⟩ := List.mem_iff_getElem.1 hr
    have hi2 : i < N + 1 := by rw [List.length_append, hg] at hi; simpa using hi
    have h1 := hall i hi2
    have h2 : (gs ++ [p]).getD i (0, 0) = r := by rw [← hir, List.getD_eq_getElem?_getD, List.getElem?_eq_getElem hi]; rfl
    rw [h2] at h1
    exact own_types ho5 h1 (by decide) e rfl

/-- One empty list, in a list. -/
theorem lists_start (W : World) : Lists ((W.alloc (.cells #[] 3)).alloc (.cells #[.slice (some ⟨W.heap.size, 0, none⟩) 0 0] 29)) W.heap.size 0 (.slice (some ⟨W.heap.size + 1, 0, none⟩) 1 1) [[]] ∧
    Below W.heap.size W ((W.alloc (.cells #[] 3)).alloc (.cells #[.slice (some ⟨W.heap.size, 0, none⟩) 0 0] 29)) := by
  have h1 := World.ownsRow_made (base := W.heap.size) (e := 3) (size := 1) W #[] 0 (Nat.le_refl _) (by unfold maxLen; omega) rfl
  have h2 := World.ownsRow_lit (base := W.heap.size) (e := 29) (size := 1) (W.alloc (.cells #[] 3)) #[.slice (some ⟨W.heap.size, 0, none⟩) 0 0] 1 (by simp) (by unfold maxLen; omega) (by simp)
  rw [World.size_alloc] at h2
  refine ⟨⟨[(W.heap.size, 0)], rfl, h2, ?_, by simp, ?_⟩, ((Below.refl _ _).alloc (Nat.le_refl _) _).alloc (by simp) _⟩
  · intro i hi
    have : i = 0 := by simp at hi; exact hi
    subst this
    exact h1.alloc _
  · intro p hp
    simp at hp
    subst hp
    simp [Value.ownBlock]

end Go.Proofs.Ytecbfoodkcgehab.ListsFC

/-
  The mathematics of patterns: shapes, lists of places, what is contained. Conditions: none. Plain facts on lists: nothing of the program.
-/
namespace Go.Proofs.Ytecbfoodkcgehab.PatMath
open OrdMath OrdFacts

/-! ### Shapes -/
def shp (zs : List Int) : List Int := zs.map (fun z => 1 + (cl z zs : Int))

theorem shp_len (zs : List Int) : (shp zs).length = zs.length := by simp [shp]

theorem cl_le_of_le {a b : Int} (h : a ≤ b) : ∀ l : List Int, cl a l ≤ cl b l
  | [] => Nat.le_refl _
  | x :: l => by
    have ih := cl_le_of_le h l
    rw [cl_cons, cl_cons]
    by_cases h1 : x < a
    · rw [if_pos h1, if_pos (by omega)]; omega
    · rw [if_neg h1]; omega

theorem cl_lt_of_lt {a b : Int} (h : a < b) : ∀ {l : List Int}, a ∈ l → cl a l < cl b l
  | [], hm => by simp at hm
  | x :: l, hm => by
    rw [cl_cons, cl_cons]
    have hle := cl_le_of_le (Int.le_of_lt h) l
    by_cases e : a = x
    · subst e
      rw [if_neg (by omega), if_pos h]; omega
    · have ih := cl_lt_of_lt h (l := l) (by simpa [e] using hm)
      by_cases h1 : x < a
      · rw [if_pos h1, if_pos (by omega)]; omega
      · rw [if_neg h1]; omega

theorem cl_iff {a b : Int} {l : List Int} (ha : a ∈ l) : cl a l < cl b l ↔ a < b := by
  constructor
  · intro h
    by_cases h1 : a < b
    · exact h1
    · have := cl_le_of_le (a := b) (b := a) (by omega) l; omega
  · intro h; exact cl_lt_of_lt h ha

theorem cl_lt_len {a : Int} : ∀ {l : List Int}, a ∈ l → cl a l < l.length
  | [], hm => by simp at hm
  | x :: l, hm => by
    rw [cl_cons]
    have hle := cl_le a l
    by_cases e : a = x
    · subst e; simp; omega
    · have ih := cl_lt_len (l := l) (by simpa [e] using hm)
      simp only [List.length_cons]
      split <;> omega

theorem getD_mem {zs : List Int} {i : Nat} (h : i < zs.length) : zs.getD i 0 ∈ zs := by
  have : zs.getD i 0 = zs[i] := by simp [h]
  rw [this]; exact List.getElem_mem h

theorem shp_at {zs : List Int} {i : Nat} (h : i < zs.length) : (shp zs).getD i 0 = 1 + (cl (zs.getD i 0) zs : Int) := by
  simp [shp, h]

/-- Two lists of one length in which numbers stand alike. -/
def Alike (xs ys : List Int) : Prop := xs.length = ys.length ∧ ∀ i j, i < xs.length → j < xs.length → (xs.getD i 0 < xs.getD j 0 ↔ ys.getD i 0 < ys.getD j 0)

theorem Alike.symm {xs ys : List Int} (h : Alike xs ys) : Alike ys xs := ⟨h.1.symm, fun i j hi hj => (h.2 i j (by rw [h.1]; exact hi) (by rw [h.1]; exact hj)).symm⟩

theorem Alike.trans {xs ys zs : List Int} (h : Alike xs ys) (k : Alike ys zs) : Alike xs zs := ⟨h.1.trans k.1, fun i j hi hj => (h.2 i j hi hj).trans (k.2 i j (by rw [← h.1]; exact hi) (by rw [← h.1]; exact hj))⟩

theorem list_idx (l : List Int) : (List.range l.length).map (fun i => l.getD i 0) = l := by
  apply List.ext_getElem
  · simp
  · intro i h1 h2; simp [h2]

theorem cl_idx (x : Int) (l : List Int) : cl x l = (List.range l.length).countP (fun i => decide (l.getD i 0 < x)) := by
  have h : cl x ((List.range l.length).map (fun i => l.getD i 0)) = (List.range l.length).countP (fun i => decide (l.getD i 0 < x)) := by
    unfold cl
    rw [List.countP_map]
    rfl
  rw [list_idx] at h
  exact h

theorem alike_shp {xs ys : List Int} (h : Alike xs ys) : shp xs = shp ys := by
  apply List.ext_getElem
  · rw [shp_len, shp_len]; exact h.1
  · intro i h1 h2
    rw [shp_len] at h1 h2
    have e1 := shp_at h1
    have e2 := shp_at h2
    have g1 : (shp xs).getD i 0 = (shp xs)[i]'(by rw [shp_len]; exact h1) := by simp [shp_len, h1]
    have g2 : (shp ys).getD i 0 = (shp ys)[i]'(by rw [shp_len]; exact h2) := by simp [shp_len, h2]
    rw [g1] at e1
    rw [g2] at e2
    rw [e1, e2, cl_idx, cl_idx, h.1]
    congr 2
    apply List.countP_congr
    intro j hj
    rw [List.mem_range] at hj
    have := h.2 j i (by rw [h.1]; exact hj) h1
    simp only [decide_eq_true_eq]
    exact this

theorem alike_shp_self (zs : List Int) : Alike (shp zs) zs := ⟨shp_len zs, fun i j hi hj => by
  rw [shp_len] at hi hj
  rw [shp_at hi, shp_at hj]
  have := cl_iff (a := zs.getD i 0) (b := zs.getD j 0) (l := zs) (getD_mem hi)
  omega⟩

theorem shp_ordfix {zs : List Int} (h : Ord zs) : shp zs = zs := by
  have hp := ord_perm h
  have : ∀ z ∈ zs, 1 + (cl z zs : Int) = z := by
    intro z hz
    have hb := h.2.2.1 z hz
    rw [cl_perm hp]
    have h1 := sorted_cl (iota zs.length) (z - 1).toNat (iota_sorted _) (by rw [iota_len]; omega)
    have h2 : (iota zs.length).getD (z - 1).toNat 0 = z := by
      have h3 := iota_at zs.length (z - 1).toNat (by omega)
      have h4 : (iota zs.length).getD (z - 1).toNat 0 = (iota zs.length)[(z - 1).toNat]'(by rw [iota_len]; omega) := by
        rw [List.getD_eq_getElem?_getD, List.getElem?_eq_getElem (by rw [iota_len]; omega)]; rfl
      rw [h4, h3]
      omega
    rw [h2] at h1
    omega
  unfold shp
  rw [List.map_congr_left this, List.map_id']

theorem shp_iff {xs p : List Int} (hp : Ord p) : shp xs = p ↔ Alike xs p := by
  constructor
  · intro h; rw [← h]; exact (alike_shp_self xs).symm
  · intro h; rw [alike_shp h, shp_ordfix hp]

theorem shp_nodup {zs : List Int} : (shp zs).Nodup ↔ zs.Nodup := by
  unfold shp List.Nodup
  rw [List.pairwise_map]
  constructor
  · intro h
    exact h.imp (fun hne e => hne (by rw [e]))
  · intro h
    refine List.Pairwise.imp_of_mem ?_ h
    intro a b ha hb hne e
    have h1 := cl_iff (a := a) (b := b) (l := zs) ha
    have h2 := cl_iff (a := b) (b := a) (l := zs) hb
    omega

theorem shp_ord {zs : List Int} (h1 : 1 ≤ zs.length) (h7 : zs.length ≤ 7) : Ord (shp zs) ↔ zs.Nodup := by
  constructor
  · intro h; exact shp_nodup.1 h.2.2.2
  · intro h
    refine ⟨by rw [shp_len]; exact h1, by rw [shp_len]; exact h7, ?_, shp_nodup.2 h⟩
    intro z hz
    unfold shp at hz
    rw [List.mem_map] at hz
    obtain ⟨x, hx, rfl⟩ := hz
    have := cl_lt_len hx
    rw [shp_len]
    omega

def shapeAns (zs : List Int) : List Int × Bool := if 1 ≤ zs.length ∧ zs.length ≤ 7 ∧ zs.Nodup then (shp zs, true) else ([], false)

theorem shape_len {zs xs : List Int} {b : Bool} (h : shapeAns zs = (xs, b)) : xs.length ≤ 1048576 := by
  unfold shapeAns at h; split at h
  · rename_i ho; cases h; rw [shp_len]; omega
  · cases h; simp

/-! ### Places -/
def behind (b : List Nat) : Nat := match b.getLast? with | none => 0 | some p => p + 1

theorem behind_snoc (b : List Nat) (p : Nat) : behind (b ++ [p]) = p + 1 := by simp [behind]

def nexts (n r : Nat) (b : List Nat) : List (List Nat) := (List.range' (behind b) (n - r - behind b)).map (fun p => b ++ [p])

/-- Level by level. -/
def lev (n c : Nat) (f : List Nat → Bool) : Nat → List (List Nat)
  | 0 => [[]]
  | l + 1 => (lev n c f l).flatMap (fun b => (nexts n (c - 1 - l) b).filter f)

/-- One behind the other. -/
def dfs (n : Nat) (f : List Nat → Bool) : Nat → List Nat → List (List Nat)
  | 0, b => [b]
  | r + 1, b => ((nexts n r b).filter f).flatMap (dfs n f r)

theorem lev_len {n c : Nat} {f : List Nat → Bool} : ∀ l, ∀ q ∈ lev n c f l, q.length = l
  | 0, q, h => by simp [lev] at h; simp [h]
  | l + 1, q, h => by
    unfold lev at h
    rw [List.mem_flatMap] at h
    obtain ⟨b, hb, hq⟩ := h
    have ih := lev_len l b hb
    have hq := (List.mem_filter.1 hq).1
    unfold nexts at hq
    rw [List.mem_map] at hq
    obtain ⟨p, _, rfl⟩ := hq
    simp [ih]

theorem lev_dfs (n c : Nat) (f : List Nat → Bool) : ∀ l, l ≤ c → (lev n c f l).flatMap (dfs n f (c - l)) = dfs n f c []
  | 0, _ => by simp [lev]
  | l + 1, h => by
    have ih := lev_dfs n c f l (by omega)
    rw [← ih]
    have e : c - l = (c - (l + 1)) + 1 := by omega
    have e2 : c - 1 - l = c - (l + 1) := by omega
    rw [e]
    show ((lev n c f l).flatMap (fun b => (nexts n (c - 1 - l) b).filter f)).flatMap _ = _
    rw [List.flatMap_assoc, e2]
    rfl

theorem flat_single {α : Type} (l : List α) : l.flatMap (fun b => [b]) = l := by
  induction l with
  | nil => rfl
  | cons a l ih => simp [ih]

theorem lev_all_dfs (n c : Nat) (f : List Nat → Bool) : lev n c f c = dfs n f c [] := by
  have h := lev_dfs n c f c (Nat.le_refl _)
  rw [Nat.sub_self] at h
  have e : (dfs n f 0 : List Nat → List (List Nat)) = (fun b => [b]) := by funext b; rfl
  rw [e, flat_single] at h
  exact h

/-- All lists of places that go on from some. -/
def ch (n : Nat) : Nat → List Nat → List (List Nat)
  | 0, b => [b]
  | r + 1, b => (List.range' (behind b) (n - behind b)).flatMap (fun p => ch n r (b ++ [p]))

theorem ch_pre {n : Nat} : ∀ r b, ∀ q ∈ ch n r b, q.length = b.length + r ∧ q.take b.length = b
  | 0, b, q, h => by simp [ch] at h; subst h; simp
  | r + 1, b, q, h => by
    unfold ch at h
    rw [List.mem_flatMap] at h
    obtain ⟨p, _, hq⟩ := h
    have ih := ch_pre r (b ++ [p]) q hq
    rw [List.length_append] at ih
    refine ⟨by have := ih.1; simp at this; omega, ?_⟩
    have h1 : (q.take (b.length + 1)).take b.length = b := by
      have := ih.2
      simp only [List.length_cons, List.length_nil, Nat.zero_add] at this
      rw [this]; simp
    rwa [List.take_take, Nat.min_eq_left (by omega)] at h1

theorem ch_nil {n : Nat} : ∀ r b, n < behind b + r → 1 ≤ r → ch n r b = []
  | 0, _, _, h => by omega
  | r + 1, b, h, _ => by
    unfold ch
    rw [List.flatMap_eq_nil_iff]
    intro p hp
    rw [List.mem_range'_1] at hp
    by_cases hr : r = 0
    · omega
    · exact ch_nil r (b ++ [p]) (by rw [behind_snoc]; omega) (by omega)

/-- Ascending, below n. -/
def Asc (n : Nat) (q : List Nat) : Prop := q.Pairwise (· < ·) ∧ ∀ p ∈ q, p < n

theorem behind_gt : ∀ {b : List Nat}, b.Pairwise (· < ·) → ∀ p ∈ b, p < behind b := by
  intro b hb p hp
  unfold behind
  cases h : b.getLast? with
  | none => rw [List.getLast?_eq_none_iff] at h; subst h; simp at hp
  | some x =>
    rw [List.getLast?_eq_some_iff] at h
    obtain ⟨ys, rfl⟩ := h
    rw [List.pairwise_append] at hb
    rw [List.mem_append, List.mem_singleton] at hp
    rcases hp with hp | rfl
    · have := hb.2.2 p hp x (by simp); show p < x + 1; omega
    · show p < p + 1; omega

theorem ch_asc {n : Nat} : ∀ r b, Asc n b → ∀ q ∈ ch n r b, Asc n q
  | 0, b, hb, q, h => by simp [ch] at h; subst h; exact hb
  | r + 1, b, hb, q, h => by
    unfold ch at h
    rw [List.mem_flatMap] at h
    obtain ⟨p, hp, hq⟩ := h
    rw [List.mem_range'_1] at hp
    refine ch_asc r (b ++ [p]) ⟨?_, ?_⟩ q hq
    · rw [List.pairwise_append]
      refine ⟨hb.1, by simp, ?_⟩
      intro a ha x hx
      rw [List.mem_singleton] at hx
      subst hx
      have := behind_gt hb.1 a ha
      omega
    · intro x hx
      rw [List.mem_append, List.mem_singleton] at hx
      rcases hx with hx | rfl
      · exact hb.2 x hx
      · omega

def okb (f : List Nat → Bool) (r : Nat) (q : List Nat) : Bool := (List.range r).all (fun i => f (q.take (q.length - i)))

theorem okb_next (f : List Nat → Bool) (r : Nat) (q : List Nat) : okb f (r + 1) q = (okb f r q && f (q.take (q.length - r))) := by
  unfold okb; rw [List.range_succ, List.all_append]; simp

theorem nexts_flat (f : List Nat → Bool) (g : List Nat → List (List Nat)) (b : List Nat) : ∀ l : List Nat, ((l.map (fun p => b ++ [p])).filter f).flatMap g = l.flatMap (fun p => if f (b ++ [p]) = true then g (b ++ [p]) else [])
  | [] => rfl
  | p :: l => by
    have ih := nexts_flat f g b l
    rw [List.map_cons, List.filter_cons, List.flatMap_cons, ← ih]
    split <;> simp

theorem filter_flat {α β : Type} (f : β → Bool) (g : α → List β) : ∀ l : List α, (l.flatMap g).filter f = l.flatMap (fun a => (g a).filter f)
  | [] => rfl
  | a :: l => by rw [List.flatMap_cons, List.filter_append, filter_flat f g l, List.flatMap_cons]

theorem flat_congr {α β : Type} {f g : α → List β} : ∀ {l : List α}, (∀ a ∈ l, f a = g a) → l.flatMap f = l.flatMap g
  | [], _ => rfl
  | a :: l, h => by rw [List.flatMap_cons, List.flatMap_cons, h a (by simp), flat_congr (fun x hx => h x (by simp [hx]))]

theorem dfs_filter (n : Nat) (f : List Nat → Bool) : ∀ r b, dfs n f r b = (ch n r b).filter (okb f r)
  | 0, b => by
    show [b] = [b].filter (okb f 0)
    rw [List.filter_cons, if_pos (show okb f 0 b = true from rfl), List.filter_nil]
  | r + 1, b => by
    unfold dfs nexts ch
    rw [nexts_flat, filter_flat]
    have hsplit : List.range' (behind b) (n - behind b) = List.range' (behind b) (n - r - behind b) ++ List.range' (behind b + (n - r - behind b)) (n - behind b - (n - r - behind b)) := by
      have := (List.range'_append_1 (s := behind b) (m := n - r - behind b) (n := n - behind b - (n - r - behind b)))
      rw [this]; congr 1; omega
    rw [hsplit, List.flatMap_append]
    have h2 : (List.range' (behind b + (n - r - behind b)) (n - behind b - (n - r - behind b))).flatMap (fun a => (ch n r (b ++ [a])).filter (okb f (r + 1))) = [] := by
      rw [List.flatMap_eq_nil_iff]
      intro p hp
      rw [List.mem_range'_1] at hp
      rw [ch_nil r (b ++ [p]) (by rw [behind_snoc]; omega) (by omega)]
      rfl
    rw [h2, List.append_nil]
    apply flat_congr
    intro p _
    rw [dfs_filter n f r (b ++ [p])]
    have hq : ∀ q ∈ ch n r (b ++ [p]), okb f (r + 1) q = (okb f r q && f (b ++ [p])) := by
      intro q hq
      have h3 := ch_pre r (b ++ [p]) q hq
      rw [okb_next]
      have e : q.length - r = (b ++ [p]).length := by rw [h3.1]; omega
      rw [e, h3.2]
    by_cases hf : f (b ++ [p]) = true
    · rw [if_pos hf]
      apply List.filter_congr
      intro q hq'
      rw [hq q hq', hf, Bool.and_true]
    · rw [if_neg hf]
      symm
      rw [List.filter_eq_nil_iff]
      intro q hq'
      rw [hq q hq']
      simp [hf]

theorem lev_filter (n c : Nat) (f : List Nat → Bool) : lev n c f c = (ch n c []).filter (okb f c) := by rw [lev_all_dfs, dfs_filter]

theorem lev_all (n c : Nat) : lev n c (fun _ => true) c = ch n c [] := by
  rw [lev_filter, List.filter_eq_self]
  intro q _
  simp [okb]

theorem nexts_len (n r : Nat) (b : List Nat) : (nexts n r b).length ≤ n := by unfold nexts; simp; omega

theorem flat_len {α β : Type} {g : α → List β} {m : Nat} : ∀ {l : List α}, (∀ a ∈ l, (g a).length ≤ m) → (l.flatMap g).length ≤ l.length * m
  | [], _ => by simp
  | a :: l, h => by
    rw [List.flatMap_cons, List.length_append, List.length_cons, Nat.add_mul]
    have h1 := h a (by simp)
    have h2 := flat_len (g := g) (m := m) (l := l) (fun x hx => h x (by simp [hx]))
    omega

theorem lev_many {n c : Nat} {f : List Nat → Bool} (hn : n ≤ 7) : ∀ l, (lev n c f l).length ≤ 7 ^ l
  | 0 => by simp [lev]
  | l + 1 => by
    have ih := lev_many (c := c) (f := f) hn l
    unfold lev
    have h1 := flat_len (g := fun b => (nexts n (c - 1 - l) b).filter f) (m := 7) (l := lev n c f l) (fun b _ => by
      have h1 := List.length_filter_le f (nexts n (c - 1 - l) b)
      have h2 := nexts_len n (c - 1 - l) b
      omega)
    rw [Nat.pow_succ]
    omega

theorem seven_pow {l : Nat} (h : l ≤ 7) : 7 ^ l ≤ 823543 := by
  have : l = 0 ∨ l = 1 ∨ l = 2 ∨ l = 3 ∨ l = 4 ∨ l = 5 ∨ l = 6 ∨ l = 7 := by omega
  rcases this with rfl | rfl | rfl | rfl | rfl | rfl | rfl | rfl <;> decide

theorem lev_823543 {n c l : Nat} {f : List Nat → Bool} (hn : n ≤ 7) (hl : l ≤ 7) : (lev n c f l).length ≤ 823543 := Nat.le_trans (lev_many hn l) (seven_pow hl)

theorem ch_823543 {n c : Nat} (hn : n ≤ 7) (hc : c ≤ 7) : (ch n c []).length ≤ 823543 := by rw [← lev_all]; exact lev_823543 hn hc

/-! ### Patterns -/
def pick (zs : List Int) (q : List Nat) : List Int := q.map (fun p => zs.getD p 0)

theorem pick_len (zs : List Int) (q : List Nat) : (pick zs q).length = q.length := by simp [pick]

theorem pick_at {zs : List Int} {q : List Nat} {i : Nat} (h : i < q.length) : (pick zs q).getD i 0 = zs.getD (q.getD i 0) 0 := by
  simp [pick, h]

/-- The last place fits. -/
def fits (zs pat : List Int) (q : List Nat) : Bool := (List.range (q.length - 1)).all (fun i => decide (decide (zs.getD (q.getD i 0) 0 < zs.getD (q.getD (q.length - 1) 0) 0) = decide (pat.getD i 0 < pat.getD (q.length - 1) 0)))

theorem fits_iff {zs pat : List Int} {q : List Nat} : fits zs pat q = true ↔ ∀ i, i < q.length - 1 → (zs.getD (q.getD i 0) 0 < zs.getD (q.getD (q.length - 1) 0) 0 ↔ pat.getD i 0 < pat.getD (q.length - 1) 0) := by
  unfold fits
  simp only [List.all_eq_true, List.mem_range, decide_eq_true_eq, decide_eq_decide]

theorem okb_iff {f : List Nat → Bool} {q : List Nat} : okb f q.length q = true ↔ ∀ j, j < q.length → f (q.take (j + 1)) = true := by
  unfold okb
  simp only [List.all_eq_true, List.mem_range]
  constructor
  · intro h j hj
    have := h (q.length - 1 - j) (by omega)
    have e : q.length - (q.length - 1 - j) = j + 1 := by omega
    rwa [e] at this
  · intro h i hi
    have := h (q.length - 1 - i) (by omega)
    have e : q.length - 1 - i + 1 = q.length - i := by omega
    rwa [e] at this

theorem getD_take {α : Type} {d : α} {q : List α} {i m : Nat} (h : i < m) : (q.take m).getD i d = q.getD i d := by
  simp [List.getD, h]

theorem getD_ne {zs : List Int} (h : zs.Nodup) {i j : Nat} (hi : i < zs.length) (hj : j < zs.length) (hne : i ≠ j) : zs.getD i 0 ≠ zs.getD j 0 := by
  have e1 : zs.getD i 0 = zs[i] := by simp [hi]
  have e2 : zs.getD j 0 = zs[j] := by simp [hj]
  rw [e1, e2]
  intro e
  exact hne ((List.getElem_inj h).1 e)

theorem asc_at {n : Nat} {q : List Nat} (h : Asc n q) {i j : Nat} (hij : i < j) (hj : j < q.length) : q.getD i 0 < q.getD j 0 ∧ q.getD j 0 < n := by
  have e1 : q.getD i 0 = q[i] := by simp [show i < q.length by omega]
  have e2 : q.getD j 0 = q[j] := by simp [hj]
  rw [e1, e2]
  exact ⟨List.pairwise_iff_getElem.1 h.1 i j (by omega) hj hij, h.2 _ (List.getElem_mem hj)⟩

theorem fits_alike {zs pat : List Int} {q : List Nat} (hz : zs.Nodup) (hp : pat.Nodup) (hl : q.length = pat.length) (ha : Asc zs.length q) : okb (fits zs pat) q.length q = true ↔ Alike (pick zs q) pat := by
  rw [okb_iff]
  have hstep : ∀ j, j < q.length → (fits zs pat (q.take (j + 1)) = true ↔ ∀ i, i < j → ((pick zs q).getD i 0 < (pick zs q).getD j 0 ↔ pat.getD i 0 < pat.getD j 0)) := by
    intro j hj
    rw [fits_iff]
    have e : (q.take (j + 1)).length - 1 = j := by rw [List.length_take]; omega
    rw [e]
    constructor
    · intro h i hi
      have := h i hi
      rw [getD_take (show i < j + 1 by omega), getD_take (show j < j + 1 by omega)] at this
      rw [pick_at (show i < q.length by omega), pick_at hj]
      exact this
    · intro h i hi
      rw [getD_take (show i < j + 1 by omega), getD_take (show j < j + 1 by omega)]
      have := h i hi
      rw [pick_at (show i < q.length by omega), pick_at hj] at this
      exact this
  constructor
  · intro h
    refine ⟨by rw [pick_len]; exact hl, ?_⟩
    rw [pick_len]
    intro i j hi hj
    by_cases hij : i < j
    · exact (hstep j hj).1 (h j hj) i hij
    · by_cases e : i = j
      · subst e; omega
      · have hji : j < i := by omega
        have h1 := (hstep i hi).1 (h i hi) j hji
        have h2 := asc_at ha hji hi
        have h3 := getD_ne hz (i := q.getD j 0) (j := q.getD i 0) (by omega) (by omega) (by omega)
        have h4 := getD_ne hp (i := j) (j := i) (by omega) (by omega) (by omega)
        rw [pick_at hi, pick_at hj] at h1 ⊢
        omega
  · intro h j hj
    rw [hstep j hj]
    intro i hi
    exact h.2 i j (by rw [pick_len]; omega) (by rw [pick_len]; exact hj)

/-- All places at which a pattern is in a list. -/
def placesOf (zs pat : List Int) : List (List Nat) := (ch zs.length pat.length []).filter (fun q => decide (shp (pick zs q) = pat))

theorem asc_nil (n : Nat) : Asc n [] := ⟨List.Pairwise.nil, fun _ h => by simp at h⟩

theorem lev_places {zs pat : List Int} (hz : zs.Nodup) (hp : Ord pat) : lev zs.length pat.length (fits zs pat) pat.length = placesOf zs pat := by
  rw [lev_filter]
  unfold placesOf
  apply List.filter_congr
  intro q hq
  have h1 := ch_pre _ _ q hq
  have h2 := ch_asc _ _ (asc_nil _) q hq
  have hl : q.length = pat.length := by simpa using h1.1
  have h3 := fits_alike hz hp.2.2.2 hl h2
  rw [hl] at h3
  rw [Bool.eq_iff_iff, h3, decide_eq_true_eq, shp_iff hp]

def has (zs pat : List Int) : Bool := decide (0 < (placesOf zs pat).length)

theorem has_iff {zs pat : List Int} : has zs pat = true ↔ ∃ q ∈ ch zs.length pat.length [], shp (pick zs q) = pat := by
  unfold has placesOf
  rw [decide_eq_true_eq, List.length_pos_iff_exists_mem]
  simp only [List.mem_filter, decide_eq_true_eq]

/-- The search for a pattern, place by place. -/
def goes (f : List Nat → Bool) (n : Nat) : Nat → List Nat → Bool
  | 0, b => f b
  | r + 1, b => f b && (List.range' (behind b) (n - behind b)).any (fun p => goes f n r (b ++ [p]))

theorem goes_iff (f : List Nat → Bool) (n : Nat) : ∀ r b, goes f n r b = true ↔ (f b = true ∧ ∃ q ∈ ch n r b, okb f r q = true)
  | 0, b => by simp [goes, ch, okb]
  | r + 1, b => by
    unfold goes ch
    rw [Bool.and_eq_true, List.any_eq_true]
    constructor
    · rintro ⟨h1, p, hp, hg⟩
      rw [goes_iff f n r (b ++ [p])] at hg
      obtain ⟨h2, q, hq, hk⟩ := hg
      refine ⟨h1, q, List.mem_flatMap.2 ⟨p, hp, hq⟩, ?_⟩
      have h3 := ch_pre r (b ++ [p]) q hq
      have e : q.length - r = (b ++ [p]).length := by rw [h3.1]; omega
      rw [okb_next, e, h3.2, hk, h2]
      rfl
    · rintro ⟨h1, q, hq, hk⟩
      obtain ⟨p, hp, hq⟩ := List.mem_flatMap.1 hq
      have h3 := ch_pre r (b ++ [p]) q hq
      have e : q.length - r = (b ++ [p]).length := by rw [h3.1]; omega
      rw [okb_next, e, h3.2, Bool.and_eq_true] at hk
      exact ⟨h1, p, hp, (goes_iff f n r (b ++ [p])).2 ⟨hk.2, q, hq, hk.1⟩⟩

theorem alike_take {xs ys : List Int} (h : Alike xs ys) (m : Nat) : Alike (xs.take m) (ys.take m) := by
  refine ⟨by rw [List.length_take, List.length_take, h.1], fun i j hi hj => ?_⟩
  rw [List.length_take] at hi hj
  rw [getD_take (by omega), getD_take (by omega), getD_take (by omega), getD_take (by omega)]
  exact h.2 i j (by omega) (by omega)

theorem pick_take (zs : List Int) (q : List Nat) (m : Nat) : pick zs (q.take m) = (pick zs q).take m := by simp [pick]

/-- The values so far have the shape of the pattern so far. -/
def sofar (zs pat : List Int) (b : List Nat) : Bool := decide (shp (pick zs b) = shp (pat.take b.length))

theorem goes_has {zs pat : List Int} (hp : Ord pat) : goes (sofar zs pat) zs.length pat.length [] = has zs pat := by
  rw [Bool.eq_iff_iff, goes_iff, has_iff]
  have h0 : sofar zs pat [] = true := by simp [sofar, pick, shp]
  constructor
  · rintro ⟨_, q, hq, hk⟩
    refine ⟨q, hq, ?_⟩
    have h1 := ch_pre _ _ q hq
    have hl : q.length = pat.length := by simpa using h1.1
    rw [← hl, okb_iff] at hk
    have := hk (q.length - 1) (by have := hp.1; omega)
    rw [show q.length - 1 + 1 = q.length by have := hp.1; omega, List.take_length] at this
    unfold sofar at this
    rw [decide_eq_true_eq, hl, List.take_length, shp_ordfix hp] at this
    exact this
  · rintro ⟨q, hq, he⟩
    refine ⟨h0, q, hq, ?_⟩
    have h1 := ch_pre _ _ q hq
    have hl : q.length = pat.length := by simpa using h1.1
    rw [← hl, okb_iff]
    intro j hj
    unfold sofar
    rw [decide_eq_true_eq, List.length_take, Nat.min_eq_left (by omega), pick_take]
    exact alike_shp (alike_take ((shp_iff hp).1 he) _)

theorem pick_alike {xs ys : List Int} (h : Alike xs ys) {q : List Nat} (hq : ∀ p ∈ q, p < xs.length) : Alike (pick xs q) (pick ys q) := by
  refine ⟨by rw [pick_len, pick_len], fun i j hi hj => ?_⟩
  rw [pick_len] at hi hj
  rw [pick_at hi, pick_at hj, pick_at hi, pick_at hj]
  have m1 : q.getD i 0 ∈ q := by have e : q.getD i 0 = q[i] := by simp [hi]
                                 rw [e]; exact List.getElem_mem hi
  have m2 : q.getD j 0 ∈ q := by have e : q.getD j 0 = q[j] := by simp [hj]
                                 rw [e]; exact List.getElem_mem hj
  exact h.2 _ _ (hq _ m1) (hq _ m2)

theorem places_alike {xs ys : List Int} (h : Alike xs ys) (pat : List Int) : placesOf xs pat = placesOf ys pat := by
  unfold placesOf
  rw [h.1]
  apply List.filter_congr
  intro q hq
  have h2 := ch_asc _ _ (asc_nil _) q hq
  rw [alike_shp (pick_alike h (q := q) (fun p hp => by rw [h.1]; exact h2.2 p hp))]

theorem has_shape (zs pat : List Int) : has (shp zs) pat = has zs pat := by
  unfold has; rw [places_alike (alike_shp_self zs)]

/-! ### The answers -/
def containsAns (zs pat : List Int) : Bool × Bool := if Ord zs ∧ Ord pat then (has zs pat, true) else (false, false)
def countAns (zs pat : List Int) : Int × Bool := if Ord zs ∧ Ord pat then (((placesOf zs pat).length : Nat), true) else (0, false)
def nat (q : List Nat) : List Int := q.map (fun (p : Nat) => (p : Int))
def firstAns (zs pat : List Int) : List Int × Bool := if Ord zs ∧ Ord pat ∧ has zs pat = true then (nat ((placesOf zs pat).headD []), true) else ([], false)
/-- An order with a last number. -/
def ins (zs : List Int) (k : Int) : List Int := zs.map (fun z => if k ≤ z then z + 1 else z) ++ [k]
theorem ins_len (zs : List Int) (k : Int) : (ins zs k).length = zs.length + 1 := by simp [ins]
def insAns (zs : List Int) (k : Int) : List Int × Bool := if Ord zs ∧ zs.length ≠ 7 ∧ 1 ≤ k ∧ k ≤ (zs.length : Int) + 1 then (ins zs k, true) else ([], false)
theorem insAns_len {zs xs : List Int} {k : Int} {b : Bool} (h : insAns zs k = (xs, b)) : xs.length ≤ 1048576 := by
  unfold insAns at h; split at h
  · rename_i ho; cases h; rw [ins_len]; have := ho.1.2.1; omega
  · cases h; simp
theorem places_len {zs pat : List Int} {q : List Nat} (h : q ∈ placesOf zs pat) : q.length = pat.length := by
  have := (ch_pre _ _ q (List.mem_filter.1 h).1).1; simpa using this
theorem first_len {zs pat xs : List Int} {b : Bool} (h : firstAns zs pat = (xs, b)) : xs.length ≤ 1048576 := by
  unfold firstAns at h; split at h
  · rename_i ho
    cases h
    have h1 : (placesOf zs pat) ≠ [] := by
      have := ho.2.2; unfold has at this; rw [decide_eq_true_eq] at this
      intro e; rw [e] at this; simp at this
    obtain ⟨q, t, e⟩ := List.exists_cons_of_ne_nil h1
    have h2 := places_len (zs := zs) (pat := pat) (q := q) (by rw [e]; simp)
    have := ho.2.1.2.1
    simp [nat, e]; omega
  · cases h; simp

end Go.Proofs.Ytecbfoodkcgehab.PatMath

/-
  An append to a slice of the call's own writes into that slice's row or into a new one: which of the two is told. Conditions: as for the kit's own law of append. Nothing of the program.
-/
namespace Go.Proofs.Ytecbfoodkcgehab.AppendTwoC

variable {P : Program} (w : World)

/-- The row of the longer slice is the old one, or lies behind all that was there. -/
def NewRow (w : World) (v v' : Value) : Prop := v'.ownBlock = v.ownBlock ∨ ∀ k, v'.ownBlock = some k → w.heap.size ≤ k

theorem run_append_two (base : Nat) (t ty e : TypeId) (i : TypeInfo) (z : Value) (size bytes : Nat) (ht : P.underlying t = some (.slice e)) (hi : P.info? e = some i) (hz : i.zero = some z)
    (hsize : i.size = size) (hby : i.bytes = bytes) (hzs : z.cells.size = size) (hsz : 0 < size)
    (v : Value) (n : Nat) (xs : List Value) (hown : w.ownsRow base e size v n xs)
    (a : Addr) (m c : Nat) (news : List Value) (hl : news.length = m * size) (hnews : ∀ j u, news[j]? = some u → w.cell? (a.add j) = some u) (h1 : ∀ u ∈ news, u.oneCell' = true)
    (h63 : n + m ≤ maxLen) (hbytes : (n + m) * bytes ≤ 140737488355328) (hbase : base ≤ w.heap.size) :
    ∃ v' w', (Builtin.append_ #[t, t] ty #[v, .slice (some a) m c]).run P w = .ok v' w' ∧ w'.ownsRow base e size v' (n + m) (xs ++ news) ∧ w.grownBy w' v.ownBlock ∧ NewRow w v v' := by
  obtain ⟨v', w', hr, r1, r2, _⟩ := run_append_own (P := P) w base t ty e i z size bytes ht hi hz hsize hby hzs hsz v n xs hown a m c news hl hnews h1 h63 hbytes hbase
  refine ⟨v', w', hr, r1, r2, ?_⟩
  rcases hown.2 with ⟨rfl, rfl⟩ | ⟨g, cap, cur, rfl, hbg, hg, hnc, hcm, hcs, htake⟩
  · have hx : xs = [] := List.eq_nil_of_length_eq_zero (by simpa using hown.1)
    subst hx
    obtain ⟨v2, w2, hr2, s1, _, _⟩ := run_append_own (P := P) w w.heap.size t ty e i z size bytes ht hi hz hsize hby hzs hsz (.slice none 0 0) 0 [] (World.ownsRow_nil w _ e size) a m c news hl hnews h1 h63 hbytes (Nat.le_refl _)
    rw [hr] at hr2
    cases hr2
    exact .inr fun k hk => (s1.lt k hk).1
  · by_cases hroom : n + m ≤ cap
    · subst hsize
      have hfit : n * i.size + news.length ≤ cur.size := by rw [hl, hcs, ← Nat.add_mul]; exact Nat.mul_le_mul_right _ hroom
      have hr2 := run_append_room (P := P) w t ty e i ht hi g n cap cur hg a m c news hl hnews h1 hroom hfit
      rw [hr] at hr2
      cases hr2
      exact .inl rfl
    · have holds : ∀ j u, xs[j]? = some u → w.cell? ((⟨g, 0, none⟩ : Addr).add j) = some u := hown.cells (g := g) rfl
      obtain ⟨v2, w2, hr2, s1, _⟩ := run_append_arg_grows (P := P) w t ty e i z size bytes ht hi hz hsize hby hzs hsz ⟨g, 0, none⟩ n cap xs hown.1 holds a m c news hl hnews (by omega) h63 hbytes
      rw [hr] at hr2
      cases hr2
      exact .inr fun k hk => (s1.lt k hk).1

theorem wpListIn_append_two {F : Fence} {n : Nat} {ops : Array Oper} {rest : List Oper} {o : Oper} {a : Act} {Q : Exit → Act → World → Prop}
    (hg : o.guard = none) (s x : Operand) (t : TypeId) (hop : o.op = Op.call { callee := Callee.builtin Builtin.append, args := #[s, x], argTypes := #[t, t] })
    (base : Nat) (e : TypeId) (i : TypeInfo) (z : Value) (size bytes : Nat) (h1 : P.underlying t = some (.slice e)) (h2 : P.info? e = some i) (h3 : i.zero = some z) (h4 : i.size = size) (h5 : i.bytes = bytes) (h6 : z.cells.size = size) (h7 : 0 < size)
    (v : Value) (k : Nat) (xs : List Value) (hs : a.eval s = v) (hown : w.ownsRow base e size v k xs) (ad : Addr) (m c : Nat) (news : List Value) (hx : a.eval x = .slice (some ad) m c) (hn : news.length = m * size)
    (hc : ∀ j u, news[j]? = some u → w.cell? (ad.add j) = some u) (h1c : ∀ u ∈ news, u.oneCell' = true) (b1 : k + m ≤ maxLen) (b2 : (k + m) * bytes ≤ 140737488355328) (b3 : base ≤ w.heap.size)
    (hK : ∀ v' w', w'.ownsRow base e size v' (k + m) (xs ++ news) → w.grownBy w' v.ownBlock → NewRow w v v' → wpListIn F n P ops Q rest (a.put o.dst v') w') :
    wpListIn F n P ops Q (o :: rest) a w := by
  refine wpListIn_plain hg fun K hK' => ?_
  obtain ⟨v', w', hrun, r1, r2, r3⟩ := run_append_two (P := P) w base t o.type e i z size bytes h1 h2 h3 h4 h5 h6 h7 v k xs hown ad m c news hn hc h1c b1 b2 b3
  unfold Oper.wpIn
  refine ⟨?_, ?_⟩
  · simp [Oper.about, hop, resolve, Target.leads, Sem.run_pure]
  · rw [Oper.semAt_plain F _ _ (by rw [hop]; intro c hc'; cases hc')]
    simp [execOp, hop, resolve, invoke, builtin, hs, hx, hrun, Result.andThen]
    exact hK' _ _ (hK v' w' r1 r2 r3)

end Go.Proofs.Ytecbfoodkcgehab.AppendTwoC

/-
  Owned lists behind owned lists. Conditions: none. Plain facts on worlds.
-/
namespace Go.Proofs.Ytecbfoodkcgehab.ListsGC
open Go.RowKit SeesC IntsC ExactC ListsC ListsEC ListsFC

theorem getD_left {α : Type} {d : α} {A B : List α} {i : Nat} (h : i < A.length) : (A ++ B).getD i d = A.getD i d := by
  rw [List.getD_eq_getElem?_getD, List.getElem?_append_left h, ← List.getD_eq_getElem?_getD]

theorem getD_right {α : Type} {d : α} {A B : List α} {i : Nat} (h : A.length ≤ i) : (A ++ B).getD i d = B.getD (i - A.length) d := by
  rw [List.getD_eq_getElem?_getD, List.getElem?_append_right h, ← List.getD_eq_getElem?_getD]

theorem mem_at {gs : List (Nat × Nat)} {r : Nat × Nat} (h : r ∈ gs) : ∃ i, i < gs.length ∧ gs.getD i (0, 0) = r := by
  obtain ⟨i, hi, hir⟩ := List.mem_iff_getElem.1 h
  exact ⟨i, hi, by rw [← hir]; simp [hi]⟩

theorem lists_cat {X X' : World} {base n N M : Nat} {v v5 : Value} {gs hs : List (Nat × Nat)} {L K : List (List Value)}
    (hN : L.length = N) (hg : gs.length = N) (hM : K.length = M) (hh : hs.length = M) (hout : X.ownsRow base 29 1 v N (gs.map (sl n)))
    (hin : ∀ i, i < N → X.ownsRow base 3 1 (sl n (gs.getD i (0, 0))) n (L.getD i [])) (hnd : (gs.map (·.1)).Nodup)
    (hin2 : ∀ i, i < M → X.ownsRow base 3 1 (sl n (hs.getD i (0, 0))) n (K.getD i [])) (hnd2 : (hs.map (·.1)).Nodup)
    (hfresh : ∀ i j, i < N → j < M → (gs.getD i (0, 0)).1 ≠ (hs.getD j (0, 0)).1)
    (ho5 : X'.ownsRow base 29 1 v5 (N + M) (gs.map (sl n) ++ hs.map (sl n))) (hgrow : X.grownBy X' v.ownBlock) : Lists X' base n v5 (L ++ K) := by
  have hall : ∀ i, i < N + M → X'.ownsRow base 3 1 (sl n ((gs ++ hs).getD i (0, 0))) n ((L ++ K).getD i []) := by
    intro i hi
    by_cases h : i < N
    · rw [getD_left (by omega), getD_left (by omega)]
      exact own_mark (hin i h) hgrow (fun a ha e => own_types hout (hin i h) (by decide) e ha)
    · rw [getD_right (by omega), getD_right (by omega), hg, hN]
      exact own_mark (hin2 _ (by omega)) hgrow (fun a ha e => own_types hout (hin2 (i - N) (by omega)) (by decide) e ha)
  refine ⟨gs ++ hs, by simp [hg, hN, hM, hh], ?_, ?_, ?_, ?_⟩
  · rw [List.length_append, hN, hM, List.map_append]; exact ho5
  · intro i hi
    rw [List.length_append, hN, hM] at hi
    exact hall i hi
  · rw [List.map_append, List.nodup_append]
    refine ⟨hnd, hnd2, ?_⟩
    intro a ha b hb e
    obtain ⟨r, hr, rfl⟩ := List.mem_map.1 ha
    obtain ⟨s, hs1, rfl⟩ := List.mem_map.1 hb
    obtain ⟨i, hi, hir⟩ := mem_at hr
    obtain ⟨j, hj, hjs⟩ := mem_at hs1
    have h1 := hfresh i j (by omega) (by omega)
    rw [hir, hjs] at h1
    exact h1 e
  · intro r hr e
    obtain ⟨i, hi, hir⟩ := mem_at hr
    have h1 := hall i (by rw [List.length_append] at hi; omega)
    rw [hir] at h1
    exact own_types ho5 h1 (by decide) e rfl

/-- One owned list, in a list. -/
theorem lists_one {W : World} {base n c g : Nat} {q : List Value} (hb : base ≤ W.heap.size) (hq : W.ownsRow base 3 1 (.slice (some ⟨g, 0, none⟩) n c) n q) :
    Lists (W.alloc (.cells #[.slice (some ⟨g, 0, none⟩) n c] 29)) base n (.slice (some ⟨W.heap.size, 0, none⟩) 1 1) [q] := by
  have h2 := World.ownsRow_lit (base := base) (e := 29) (size := 1) W #[.slice (some ⟨g, 0, none⟩) n c] 1 hb (by unfold maxLen; omega) (by simp)
  have hlt := own_block_lt hq (q := g) rfl
  refine ⟨[(g, c)], rfl, h2, ?_, by simp, ?_⟩
  · intro i hi
    have : i = 0 := by simp at hi; exact hi
    subst this
    exact hq.alloc _
  · intro p hp e
    simp at hp
    subst hp
    have : W.heap.size = g := by simpa [Value.ownBlock] using e
    omega

theorem lists_empty {W : World} {base n : Nat} (hb : base ≤ W.heap.size) : Lists (W.alloc (.cells #[] 29)) base n (.slice (some ⟨W.heap.size, 0, none⟩) 0 0) [] :=
  ⟨[], rfl, World.ownsRow_made (base := base) (e := 29) (size := 1) W #[] 0 hb (by unfold maxLen; omega) rfl, fun i hi => absurd hi (by simp), by simp, fun p hp => by simp at hp⟩

end Go.Proofs.Ytecbfoodkcgehab.ListsGC

/-
  Owned lists whose rows are told: one more list behind them. Conditions: none. Plain facts on worlds.
-/
namespace Go.Proofs.Ytecbfoodkcgehab.WithC
open Go.RowKit SeesC IntsC ExactC ListsC ListsEC ListsFC ListsGC

/-- Owned lists, their rows told. -/
def With (w : World) (base n : Nat) (v : Value) (L : List (List Value)) (gs : List (Nat × Nat)) : Prop :=
  gs.length = L.length ∧ w.ownsRow base 29 1 v L.length (gs.map (sl n)) ∧ (∀ i, i < L.length → w.ownsRow base 3 1 (sl n (gs.getD i (0, 0))) n (L.getD i [])) ∧ (gs.map (·.1)).Nodup

theorem With.lists {w : World} {base n : Nat} {v : Value} {L : List (List Value)} {gs : List (Nat × Nat)} (h : With w base n v L gs) : Lists w base n v L := by
  obtain ⟨h1, h2, h3, h4⟩ := h
  refine ⟨gs, h1, h2, h3, h4, fun p hp e => ?_⟩
  obtain ⟨i, hi, hir⟩ := mem_at hp
  have h5 := h3 i (by omega)
  rw [hir] at h5
  exact own_types h2 h5 (by decide) e rfl

theorem Lists.with {w : World} {base n : Nat} {v : Value} {L : List (List Value)} (h : Lists w base n v L) : ∃ gs, With w base n v L gs := by
  obtain ⟨gs, h1, h2, h3, h4, _⟩ := h
  exact ⟨gs, h1, h2, h3, h4⟩

theorem With.kept {w w' : World} {base n : Nat} {v : Value} {L : List (List Value)} {gs : List (Nat × Nat)} (h : With w base n v L gs) (hb : Below w.heap.size w w') : With w' base n v L gs := by
  obtain ⟨h1, h2, h3, h4⟩ := h
  exact ⟨h1, kept_call h2 hb, fun i hi => kept_call (h3 i hi) hb, h4⟩

theorem with_snoc {X X' : World} {base n : Nat} {v v5 : Value} {gs : List (Nat × Nat)} {p : Nat × Nat} {L : List (List Value)} {q : List Value}
    (h : With X base n v L gs) (hp : X.ownsRow base 3 1 (sl n p) n q) (hfresh : ∀ r ∈ gs, r.1 ≠ p.1)
    (ho5 : X'.ownsRow base 29 1 v5 (L.length + 1) (gs.map (sl n) ++ [sl n p])) (hgrow : X.grownBy X' v.ownBlock) : With X' base n v5 (L ++ [q]) (gs ++ [p]) := by
  obtain ⟨h1, h2, h3, h4⟩ := h
  refine ⟨by simp [h1], by rw [List.length_append, List.map_append]; exact ho5, ?_, ?_⟩
  · intro i hi
    rw [List.length_append] at hi
    by_cases h : i < L.length
    · rw [getD_left (by omega), getD_left h]
      exact own_mark (h3 i h) hgrow (fun a ha e => own_types h2 (h3 i h) (by decide) e ha)
    · have hi2 : i = L.length := by simp at hi; omega
      subst hi2
      rw [getD_right (by omega), getD_right (Nat.le_refl _), h1, Nat.sub_self]
      exact own_mark hp hgrow (fun a ha e => own_types h2 hp (by decide) e ha)
  · rw [List.map_append, List.nodup_append]
    refine ⟨h4, by simp, ?_⟩
    intro a ha b hb e
    simp at hb
    subst hb
    obtain ⟨r, hr, rfl⟩ := List.mem_map.1 ha
    exact hfresh r hr e

theorem with_mark {w w' : World} {row : Option Nat} {base n : Nat} {v : Value} {L : List (List Value)} {gs : List (Nat × Nat)} (h : With w base n v L gs) (hg : w.grownBy w' row) (hv : ∀ a, row = some a → v.ownBlock ≠ some a) (hin : ∀ a, row = some a → ∀ i, i < L.length → (gs.getD i (0, 0)).1 ≠ a) : With w' base n v L gs := by
  obtain ⟨h1, h2, h3, h4⟩ := h
  exact ⟨h1, own_mark h2 hg (fun a ha e => hv a e ha), fun i hi => own_mark (h3 i hi) hg (fun a ha e => hin a e i hi (Option.some.inj ha)), h4⟩

theorem filter_next {α : Type} (f : α → Bool) {l : List α} {i : Nat} (h : i < l.length) : (l.take (i + 1)).filter f = (l.take i).filter f ++ (if f l[i] = true then [l[i]] else []) := by
  rw [List.take_succ_eq_append_getElem h, List.filter_append]
  simp [List.filter_cons]

end Go.Proofs.Ytecbfoodkcgehab.WithC

/-
  Contracts: the model and the program invert an order. Conditions: the list can be read and has at most 2^20 numbers.
-/
namespace Go.Proofs.Ytecbfoodkcgehab.InverseC
open Go.RowKit SeesC IntsC ExactC OrdMath OrderC 

theorem inv_next {zs : List Int} {k m : Nat} (hm : zs.getD k 0 = (m : Int) + 1) : vals (invOf zs (k + 1)) = (vals (invOf zs k)).set m (.int .i64 ((k : Int) + 1)) := by
  have e : (zs.getD k 0 - 1).toNat = m := by omega
  show List.map _ ((invOf zs k).set _ _) = _
  rw [e, List.map_set]

theorem made_zero (zs : List Int) : (madeCells (Value.int .i64 0).cells (zs.length * 1)).toList = vals (invOf zs 0) := by
  rw [made_int]; simp [invOf]

set_option maxRecDepth 100000 in
set_option maxHeartbeats 1000000 in
theorem l2Inverse_any (zs : List Int) (hord : Ord zs) (W : World) (v : Value) (n : Nat) (hv : Sees W v n (vals zs)) :
    Calls Try.prog 138 #[v] W fun e w' => ∃ u, e = .returned u ∧ w'.ownsRow W.heap.size 3 1 u (invOf zs zs.length).length (vals (invOf zs zs.length)) ∧ Below W.heap.size W w' := by
  obtain ⟨i0, hi, hz0, hz1, hz2⟩ := info_parts infoI
  have hl : zs.length = n := by simpa using hv.1
  have hn1 : 1 ≤ n := by have := hord.1; omega
  have hn7 : n ≤ 7 := by have := hord.2.1; omega
  obtain ⟨b, o, cap, rfl, hcap, _, hbl, hcell⟩ := sees_cells hv (by omega)
  have HC := Go.Lib.hid hcell
  have hgb : W.heap.size ≤ W.heap.size := Nat.le_refl _
  clear hv hcell
  go_enter Try.func138, Try.ntmps138
  go_wp2_with (at_make; refine wpList_make_full _ rfl _ _ 29 rfl W.heap.size 3 i0 (.int .i64 0) 1 Try.underlying29 hi hz0 hz1 .i64 .i64 n n n rfl rfl rfl rfl (by rw [hz2]; omega) (by unfold maxLen; omega) (Nat.le_refl _) ?_; intro w2 hown1 hgrow1; clear hi hz0 hz1 hz2)
  have hz := made_zero zs
  rw [hl] at hz
  rw [hz] at hown1
  have hb1 : Below W.heap.size W w2 := (Below.refl _ _).grown hgrow1 (Nat.le_refl _) (fun k hk => by cases hk)
  clear hz hgrow1
  go_loopw [4] (fun iv wr => ∃ (k : Nat), k ≤ n ∧ iv = .int .i64 k ∧ wr.ownsRow W.heap.size 3 1 (.slice (some ⟨W.heap.size, 0, none⟩) n n) n (vals (invOf zs k)) ∧ Below W.heap.size W wr) (fun i _ => n - (intOf i).toNat)
  case atStart => exact ⟨0, Nat.zero_le _, rfl, hown1, hb1⟩
  case round =>
    obtain ⟨k, hk, rfl, hown, hb⟩ := hrel
    clear hown1 hb1
    by_cases hlt : k < n
    · have hck : wr.cell? ⟨b, o + k, none⟩ = some (.int .i64 (zs.getD k 0)) := (hb.cell (p := ⟨b, o + k, none⟩) hbl).trans (HC.out k (by omega))
      obtain ⟨m, hm, hm2⟩ := hord.getD (k := k) (by omega)
      have hst := hown.stored m (.int .i64 ((k : Int) + 1))
      rw [← inv_next hm] at hst
      have hdc := hown.cellAt m (by omega)
      have hf := hown.frozenAt m
      obtain ⟨u, hu⟩ : ∃ u, wr.cell? ⟨W.heap.size, m, none⟩ = some u := ⟨_, hdc.trans (List.getElem?_eq_getElem (by rw [vals_len, invOf_len]; omega))⟩
      have HS := Go.Lib.hid (And.intro hst.1 (hb.setCell (p := ⟨W.heap.size, m, none⟩) hgb (.int .i64 ((k : Int) + 1))))
      rw [hm] at hck
      have hlti : (k : Int) < (n : Int) := by omega
      have hmi : (m : Int) < (n : Int) := by omega
      have hm0 : (0 : Int) ≤ (m : Int) := by omega
      clear hm hm2 hst hdc hb hown
      go_wp2
      go_roundw
      case rel => exact ⟨k + 1, by omega, by go_num, HS.out.1, HS.out.2⟩
      case measure => simp [intOf] <;> omega
    · have hkn : k = n := by omega
      subst hkn
      have H3 := Go.Lib.hid (And.intro hown hb)
      have hl2 : (invOf zs zs.length).length = k := by rw [invOf_len, hl]
      clear hown hb
      go_wp2
      go_ret
      exact ⟨_, rfl, by rw [hl2]; rw [hl]; exact H3.out.1, H3.out.2⟩

set_option maxRecDepth 100000 in
set_option maxHeartbeats 1000000 in
theorem specInverse (zs : List Int) (xs : List Int) (b : Bool) (h : inverseAns zs = (xs, b)) (hz : zs.length ≤ 1048576) (W : World) (v : Value) (n : Nat) (hv : Sees W v n (vals zs)) :
    Calls Try.prog 65 #[v] W fun e w' => ListTo W e w' xs b := by
  have hn : n ≤ 1048576 := by have := hv.1; simp at this; omega
  obtain ⟨i0, hi, hz0, hz1, hz2⟩ := info_parts infoI
  obtain ⟨r, hr⟩ : ∃ r, isOrd zs = r := ⟨_, rfl⟩
  have CO := Go.Lib.hid (fun W' (hs : Sees W' v n (vals zs)) => l2Order_any W' v n zs r hs hn hr)
  have HV := Go.Lib.hid hv
  unfold inverseAns at h
  cases r with
  | false =>
    rw [if_neg (by unfold isOrd at hr; exact of_decide_eq_false hr)] at h
    cases h
    clear hv hr
    go_enter Try.func65, Try.ntmps65
    go_wp2_with fail
    refine (CO.out _ HV.out).mono ?_
    rintro e w1 ⟨rfl, hd⟩
    have HB : Hid (Below W.heap.size W w1) := Go.Lib.hid (hd.below _)
    go_wp2_with fail
    go_ret2
    exact listTo_below HB.out (listTo_none _ _)
  | true =>
    have hord : Ord zs := by unfold isOrd at hr; exact of_decide_eq_true hr
    rw [if_pos hord] at h
    cases h
    have hl : zs.length = n := by simpa using hv.1
    have hn1 : 1 ≤ n := by have := hord.1; omega
    have hn7 : n ≤ 7 := by have := hord.2.1; omega
    obtain ⟨b, o, cap, rfl, hcap, _, hbl, hcell⟩ := sees_cells hv (by omega)
    have HC := Go.Lib.hid hcell
    clear hv hr hcell
    go_enter Try.func65, Try.ntmps65
    go_wp2_with fail
    refine (CO.out _ HV.out).mono ?_
    rintro e w1 ⟨rfl, hd⟩
    have HB : Hid (Below W.heap.size W w1) := Go.Lib.hid (hd.below _)
    clear hd
    go_wp2_with fail
    refine (l2Inverse_any zs hord w1 _ n (HV.out.grow HB.out)).mono ?_
    rintro e w2 ⟨u, rfl, ho, hb⟩
    have H := Go.Lib.hid (And.intro ho hb)
    clear ho hb
    go_wp2_with fail
    go_ret2
    exact listTo_below HB.out ⟨_, rfl, H.out.1, H.out.2⟩

set_option maxRecDepth 100000 in
set_option maxHeartbeats 1000000 in
theorem implInverse (zs : List Int) (xs : List Int) (b : Bool) (h : inverseAns zs = (xs, b)) (hz : zs.length ≤ 1048576) (W : World) (v : Value) (n : Nat) (hv : Sees W v n (vals zs)) :
    Calls Try.prog 64 #[v] W fun e w' => ListTo W e w' xs b := by
  have hn : n ≤ 1048576 := by have := hv.1; simp at this; omega
  obtain ⟨i0, hi, hz0, hz1, hz2⟩ := info_parts infoI
  obtain ⟨r, hr⟩ : ∃ r, isOrd zs = r := ⟨_, rfl⟩
  have CO := Go.Lib.hid (fun W' (hs : Sees W' v n (vals zs)) => implOrder_any W' v n zs r hs hn hr)
  have HV := Go.Lib.hid hv
  unfold inverseAns at h
  cases r with
  | false =>
    rw [if_neg (by unfold isOrd at hr; exact of_decide_eq_false hr)] at h
    cases h
    clear hv hr
    go_enter Try.func64, Try.ntmps64
    go_wp2_with fail
    refine (CO.out _ HV.out).mono ?_
    rintro e w1 ⟨rfl, hd⟩
    have HB : Hid (Below W.heap.size W w1) := Go.Lib.hid hd
    go_wp2_with fail
    go_ret2
    exact listTo_below HB.out (listTo_none _ _)
  | true =>
    have hord : Ord zs := by unfold isOrd at hr; exact of_decide_eq_true hr
    rw [if_pos hord] at h
    cases h
    have hl : zs.length = n := by simpa using hv.1
    have hn1 : 1 ≤ n := by have := hord.1; omega
    have hn7 : n ≤ 7 := by have := hord.2.1; omega
    obtain ⟨b, o, cap, rfl, hcap, _, hbl, hcell⟩ := sees_cells hv (by omega)
    have HC := Go.Lib.hid hcell
    clear hv hr hcell
    go_enter Try.func64, Try.ntmps64
    go_wp2_with fail
    refine (CO.out _ HV.out).mono ?_
    rintro e w1 ⟨rfl, hd⟩
    have HB : Hid (Below W.heap.size W w1) := Go.Lib.hid hd
    clear hd
    go_wp2_with (at_make; refine wpList_make_full _ rfl _ _ 29 rfl W.heap.size 3 i0 (.int .i64 0) 1 Try.underlying29 hi hz0 hz1 .i64 .i64 n n n rfl rfl rfl rfl (by rw [hz2]; omega) (by unfold maxLen; omega) (HB.out.size) ?_; intro w2 hown1 hgrow1; clear hi hz0 hz1 hz2)
    have hgb : W.heap.size ≤ w1.heap.size := HB.out.size
    have hz := made_zero zs
    rw [hl] at hz
    rw [hz] at hown1
    have hb1 : Below W.heap.size W w2 := HB.out.grown hgrow1 HB.out.size (fun k hk => by cases hk)
    clear hz hgrow1
    go_loopw [16] (fun iv wr => ∃ (k : Nat), k ≤ n ∧ iv = .int .i64 k ∧ wr.ownsRow W.heap.size 3 1 (.slice (some ⟨w1.heap.size, 0, none⟩) n n) n (vals (invOf zs k)) ∧ Below W.heap.size W wr) (fun i _ => n - (intOf i).toNat)
    case atStart => exact ⟨0, Nat.zero_le _, rfl, hown1, hb1⟩
    case round =>
      obtain ⟨k, hk, rfl, hown, hb⟩ := hrel
      clear hown1 hb1
      by_cases hlt : k < n
      · have hck : wr.cell? ⟨b, o + k, none⟩ = some (.int .i64 (zs.getD k 0)) := (hb.cell (p := ⟨b, o + k, none⟩) hbl).trans (HC.out k (by omega))
        obtain ⟨m, hm, hm2⟩ := hord.getD (k := k) (by omega)
        have hst := hown.stored m (.int .i64 ((k : Int) + 1))
        rw [← inv_next hm] at hst
        have hdc := hown.cellAt m (by omega)
        have hf := hown.frozenAt m
        obtain ⟨u, hu⟩ : ∃ u, wr.cell? ⟨w1.heap.size, m, none⟩ = some u := ⟨_, hdc.trans (List.getElem?_eq_getElem (by rw [vals_len, invOf_len]; omega))⟩
        have HS := Go.Lib.hid (And.intro hst.1 (hb.setCell (p := ⟨w1.heap.size, m, none⟩) hgb (.int .i64 ((k : Int) + 1))))
        rw [hm] at hck
        have hlti : (k : Int) < (n : Int) := by omega
        have hmi : (m : Int) < (n : Int) := by omega
        have hm0 : (0 : Int) ≤ (m : Int) := by omega
        clear hm hm2 hst hdc hb hown
        go_wp2
        go_roundw
        case rel => exact ⟨k + 1, by omega, by go_num, HS.out.1, HS.out.2⟩
        case measure => simp [intOf] <;> omega
      · have hkn : k = n := by omega
        subst hkn
        have H3 := Go.Lib.hid (And.intro hown hb)
        have hl2 : (invOf zs zs.length).length = k := by rw [invOf_len, hl]
        clear hown hb
        go_wp2
        go_ret2
        exact ⟨_, rfl, by rw [hl2]; rw [hl]; exact H3.out.1, H3.out.2⟩

end Go.Proofs.Ytecbfoodkcgehab.InverseC

/-
  Contracts: the program lists all words for so many numbers; WordsOf of the model and of the program. Conditions: none.
-/
namespace Go.Proofs.Ytecbfoodkcgehab.WordsOfC
open Go.RowKit SeesC IntsC ExactC NumC IterC WordMath InC WordC WordsC

set_option maxRecDepth 100000 in
set_option maxHeartbeats 2000000 in
theorem appendWords_any : ∀ (r p d : Nat) (so : ByteArray) (W : World) (B g0 c0 k : Nat) (ws : List ByteArray), 2 * p + d = r → r ≤ 14 → so.size + r ≤ 14 → k + 2 ^ r ≤ 1048576 → B ≤ W.heap.size →
    W.ownsRow B 9 1 (.slice (some ⟨g0, 0, none⟩) k c0) k (ws.map Value.string) →
    Calls Try.prog 207 #[.slice (some ⟨g0, 0, none⟩) k c0, .string so, .int .i64 p, .int .i64 d] W fun e w' => ∃ g c, e = .returned (.slice (some ⟨g, 0, none⟩) (k + (wordsFrom r d so).length) c) ∧ w'.ownsRow B 9 1 (.slice (some ⟨g, 0, none⟩) (k + (wordsFrom r d so).length) c) (k + (wordsFrom r d so).length) ((ws ++ wordsFrom r d so).map Value.string) ∧ Below B W w' := by
  obtain ⟨i0, hi, hz0, hz1, hz2⟩ := info_parts infoS
  intro r
  induction r with
  | zero =>
    intro p d so W B g0 c0 k ws hpd hr hsz hk hB hown
    obtain rfl : p = 0 := by omega
    obtain rfl : d = 0 := by omega
    go_enter Try.func207, Try.ntmps207
    go_wp2_with (at_builtin; refine wpList_append_own _ rfl _ _ 132 rfl B 9 i0 (.string ByteArray.empty) 1 16 Try.underlying132 hi hz0 hz1 hz2 rfl (by decide) (.slice (some ⟨g0, 0, none⟩) k c0) k (ws.map Value.string) rfl (hown.alloc _) ⟨W.heap.size, 0, none⟩ 1 1 [.string so] rfl rfl (cell_one_new _ _ _) (fun x hx => by simp at hx; subst hx; rfl) (by unfold maxLen; omega) (by omega) (by simp; omega) ?_; intro v' w3 hown' hgrow3 hnil3)
    obtain ⟨g5, c5, rfl⟩ := own_form hown' (fun e => by have := (hnil3.1 e).1; cases this)
    have hb5 : Below B W w3 := ((Below.refl B W).alloc hB _).grown hgrow3 (by simp; omega) (fun q hq => (hown.lt q hq).1)
    have H5 := Go.Lib.hid (And.intro hown' hb5)
    clear hown' hgrow3 hnil3 hb5 hown
    go_wp2
    go_ret
    exact ⟨g5, c5, rfl, by have := H5.out.1; simpa [wordsFrom] using this, H5.out.2⟩
  | succ r ih =>
    intro p d so W B g0 c0 k ws hpd hr hsz hk hB hown
    have hk2 : k + 2 ^ r + 2 ^ r ≤ 1048576 := by rw [Nat.pow_succ] at hk; omega
    have hl1 := wordsFrom_len r (d + 1) (so ++ sI)
    have hsI : (so ++ sI).size = so.size + 1 := by rw [ByteArray.size_append]; rfl
    have hsO : (so ++ sO).size = so.size + 1 := by rw [ByteArray.size_append]; rfl
    have hs13 : so.size ≤ 13 := by omega
    have IHI := Go.Lib.hid (fun (hp : 0 < p) W' g c (ho : W'.ownsRow B 9 1 (.slice (some ⟨g, 0, none⟩) k c) k (ws.map Value.string)) (hb : B ≤ W'.heap.size) => ih (p - 1) (d + 1) (so ++ sI) W' B g c k ws (by omega) (by omega) (by omega) (by have := Nat.two_pow_pos r; omega) hb ho)
    have IHO := Go.Lib.hid (fun (hd : 0 < d) W' g c k' ws' (hk' : k' + 2 ^ r ≤ 1048576) (ho : W'.ownsRow B 9 1 (.slice (some ⟨g, 0, none⟩) k' c) k' (ws'.map Value.string)) (hb : B ≤ W'.heap.size) => ih p (d - 1) (so ++ sO) W' B g c k' ws' (by omega) (by omega) (by omega) hk' hb ho)
    obtain ⟨LI, hLI⟩ : ∃ LI, wordsFrom r (d + 1) (so ++ sI) = LI := ⟨_, rfl⟩
    obtain ⟨LO, hLO⟩ : ∃ LO, wordsFrom r (d - 1) (so ++ sO) = LO := ⟨_, rfl⟩
    rw [hLI] at IHI hl1
    rw [hLO] at IHO
    have HW : Hid (wordsFrom (r + 1) d so = (if d < r + 1 then LI else []) ++ (if 0 < d then LO else [])) := Go.Lib.hid (by rw [← hLI, ← hLO]; rfl)
    have hcI : ((d + 1 : Nat) : Int) = (d : Int) + 1 := by simp
    have HO := Go.Lib.hid hown
    have HK := Go.Lib.hid (And.intro hk hk2)
    have HL1 := Go.Lib.hid hl1
    by_cases hp : 0 < p
    · have hpi : (0 : Int) < (p : Int) := by omega
      have hp0 : ((p : Int) == 0) = false := by rw [beq_eq_false_iff_ne]; omega
      have hcp : ((p - 1 : Nat) : Int) = (p : Int) - 1 := by omega
      have hp7 : p ≤ 7 := by omega
      have hd14 : d ≤ 14 := by omega
      rw [if_pos (show d < r + 1 by omega)] at HW
      rw [hcI, hcp] at IHI
      by_cases hO : 0 < d
      · have hOi : (0 : Int) < (d : Int) := by omega
        have hcO : ((d - 1 : Nat) : Int) = (d : Int) - 1 := by omega
        rw [if_pos hO] at HW
        rw [hcO] at IHO
        have HP := Go.Lib.hid (And.intro hp hO)
        clear ih hown hLI hLO hsI hsO hcI hcO hcp hp hO hk hk2 hpd hl1
        go_enter Try.func207, Try.ntmps207
        go_wp2_with fail
        refine (IHI.out HP.out.1 _ _ _ HO.out hB).mono ?_
        rintro e w1 ⟨g1, c1, rfl, o1, b1⟩
        have H1 := Go.Lib.hid (And.intro o1 b1)
        have HB1 := Go.Lib.hid (Nat.le_trans hB b1.size)
        clear o1 b1
        go_wp2_with fail
        refine (IHO.out HP.out.2 _ _ _ _ (ws ++ LI) (by have := HK.out.2; have := HL1.out; omega) H1.out.1 HB1.out).mono ?_
        rintro e w4 ⟨g4, c4, rfl, o4, b4⟩
        have hll : k + (wordsFrom (r + 1) d so).length = k + LI.length + LO.length := by rw [HW.out, List.length_append, Nat.add_assoc]
        have H4 := Go.Lib.hid (And.intro o4 (H1.out.2.trans b4))
        clear o4 b4
        go_wp2
        go_ret
        exact ⟨g4, c4, by rw [hll]; rfl, by rw [hll, HW.out, ← List.append_assoc]; exact H4.out.1, H4.out.2⟩
      · have hOi : ¬ (0 : Int) < (d : Int) := by omega
        rw [if_neg hO, List.append_nil] at HW
        have HP := Go.Lib.hid hp
        clear ih hown hLI hLO hsI hsO hcI hcp hp hO hk hk2 hpd hl1
        go_enter Try.func207, Try.ntmps207
        go_wp2_with fail
        refine (IHI.out HP.out _ _ _ HO.out hB).mono ?_
        rintro e w1 ⟨g1, c1, rfl, o1, b1⟩
        have H1 := Go.Lib.hid (And.intro o1 b1)
        have hll : k + (wordsFrom (r + 1) d so).length = k + LI.length := by rw [HW.out]
        clear o1 b1
        go_wp2
        go_ret
        exact ⟨g1, c1, by rw [hll]; rfl, by rw [hll, HW.out]; exact H1.out.1, H1.out.2⟩
    · obtain rfl : p = 0 := by omega
      have hO : 0 < d := by omega
      have hOi : (0 : Int) < (d : Int) := by omega
      have hd0 : ((d : Int) == 0) = false := by rw [beq_eq_false_iff_ne]; omega
      have hcO : ((d - 1 : Nat) : Int) = (d : Int) - 1 := by omega
      have hd14 : d ≤ 14 := by omega
      rw [if_neg (show ¬ d < r + 1 by omega), if_pos hO, List.nil_append] at HW
      rw [hcO] at IHO
      have HP := Go.Lib.hid hO
      clear ih hown hLI hLO hsI hsO hcI hcO hp hO hk hk2 hpd hl1
      go_enter Try.func207, Try.ntmps207
      go_wp2_with fail
      refine (IHO.out HP.out _ _ _ _ ws (by have := HK.out.2; have := Nat.two_pow_pos r; omega) HO.out hB).mono ?_
      rintro e w1 ⟨g1, c1, rfl, o1, b1⟩
      have H1 := Go.Lib.hid (And.intro o1 b1)
      have hll : k + (wordsFrom (r + 1) d so).length = k + LO.length := by rw [HW.out]
      clear o1 b1
      go_wp2
      go_ret
      exact ⟨g1, c1, by rw [hll]; rfl, by rw [hll, HW.out]; exact H1.out.1, H1.out.2⟩

set_option maxRecDepth 100000 in
theorem implWords (n : Int) (xs : List ByteArray) (b : Bool) (h : wordsAns n = (xs, b)) (hw : (Lit.int .i64 n).wf = true) (W : World) :
    Calls Try.prog 191 #[.int .i64 n] W fun e w' => TextsTo W e w' xs b := by
  unfold wordsAns at h
  by_cases h1 : n < 1
  · rw [if_neg (by omega)] at h
    cases h
    go_enter Try.func191, Try.ntmps191
    go_wp2
    go_ret2
    exact textsTo_none _ _
  · by_cases h7 : 7 < n
    · rw [if_neg (by omega)] at h
      cases h
      go_enter Try.func191, Try.ntmps191
      go_wp2
      go_ret2
      exact textsTo_none _ _
    · rw [if_pos (by omega)] at h
      cases h
      obtain ⟨m, rfl⟩ : ∃ m : Nat, n = (m : Int) := ⟨n.toNat, by omega⟩
      rw [Int.toNat_natCast]
      have hm7 : m ≤ 7 := by omega
      have ho0 : (W.alloc (.cells #[] 9)).ownsRow W.heap.size 9 1 (.slice (some ⟨W.heap.size, 0, none⟩) 0 0) 0 (([] : List ByteArray).map Value.string) := World.ownsRow_made (base := W.heap.size) (e := 9) (size := 1) W #[] 0 (Nat.le_refl _) (by unfold maxLen; omega) rfl
      have hpw : 0 + 2 ^ (2 * m) ≤ 1048576 := by
        have h2 : 2 ^ (2 * m) ≤ 2 ^ 14 := Nat.pow_le_pow_right (by omega) (by omega)
        have h3 : (2 : Nat) ^ 14 = 16384 := by decide
        omega
      have CA := Go.Lib.hid (appendWords_any (2 * m) m 0 ByteArray.empty _ W.heap.size W.heap.size 0 0 [] (by omega) (by omega) (by simp; omega) hpw (by simp) ho0)
      have HB0 := Go.Lib.hid ((Below.refl W.heap.size W).alloc (Nat.le_refl _) (.cells #[] 9))
      clear ho0 hw hpw
      go_enter Try.func191, Try.ntmps191
      go_wp2_with fail
      refine CA.out.mono ?_
      rintro e w2 ⟨g, c, rfl, ho, hb⟩
      rw [Nat.zero_add, List.nil_append] at ho
      have H := Go.Lib.hid (And.intro ho (HB0.out.trans hb))
      clear ho hb
      go_wp2_with fail
      go_ret2
      exact ⟨_, rfl, H.out.1, H.out.2⟩

end Go.Proofs.Ytecbfoodkcgehab.WordsOfC

/-
  Contracts: the model's comparisons of lists of one length. Conditions: lists of at most 2^20 numbers.
-/
namespace Go.Proofs.Ytecbfoodkcgehab.ListsBC
open Go.RowKit SeesC IntsC ExactC CmpC ListsC

theorem cmpL_same : ∀ xs : List Int, cmpL xs xs = 0
  | [] => rfl
  | x :: xs => by simp [cmpL, cmpL_same xs]

theorem cmpL_eq : ∀ (xs ys : List Int), cmpL xs ys = 0 → xs = ys
  | [], [], _ => rfl
  | [], _ :: _, h => by simp [cmpL] at h
  | _ :: _, [], h => by simp [cmpL] at h
  | x :: xs, y :: ys, h => by
    unfold cmpL at h
    split at h
    · cases h
    · split at h
      · cases h
      · have : x = y := by omega
        rw [this, cmpL_eq xs ys h]

theorem cmpL_lt_trans : ∀ (xs ys zs : List Int), cmpL xs ys < 0 → cmpL ys zs < 0 → cmpL xs zs < 0
  | [], [], _, h, _ => by simp [cmpL] at h
  | [], _ :: _, [], _, h => by simp [cmpL] at h
  | [], _ :: _, _ :: _, _, _ => by simp [cmpL]
  | _ :: _, [], _, h, _ => by simp [cmpL] at h
  | _ :: _, _ :: _, [], _, h => by simp [cmpL] at h
  | x :: xs, y :: ys, z :: zs, h1, h2 => by
    have ih := cmpL_lt_trans xs ys zs
    unfold cmpL at h1 h2 ⊢
    split at h1 <;> split at h2
    · rw [if_pos (by omega)]; decide
    · split at h2
      · omega
      · rw [if_pos (by omega)]; decide
    · split at h1
      · omega
      · rw [if_pos (by omega)]; decide
    · split at h1
      · omega
      · split at h2
        · omega
        · rw [if_neg (by omega), if_neg (by omega)]; exact ih h1 h2

theorem cmpL_neg : ∀ (xs ys : List Int), cmpL ys xs = - cmpL xs ys
  | [], [] => rfl
  | [], _ :: _ => rfl
  | _ :: _, [] => rfl
  | x :: xs, y :: ys => by
    unfold cmpL
    by_cases h1 : x < y
    · rw [if_neg (by omega), if_pos h1, if_pos h1]; rfl
    · by_cases h2 : y < x
      · rw [if_pos h2, if_neg h1, if_pos h2]
      · rw [if_neg h2, if_neg h1, if_neg h1, if_neg h2]; exact cmpL_neg xs ys

set_option maxRecDepth 100000 in
set_option maxHeartbeats 1000000 in
theorem l2Before_any (xs ys : List Int) (hl : xs.length = ys.length) (W : World) (v : Value) (n : Nat) (hv : Sees W v n (vals xs)) (u : Value) (hu : Sees W u n (vals ys)) (hn1 : 1 ≤ n) (hn : n ≤ 1048576) (r : Bool) (h : decide (cmpL xs ys < 0) = r) :
    Calls Try.prog 108 #[v, u] W fun e w' => e = .returned (.bool r) ∧ Drawn W w' := by
  have hln : xs.length = n := by simpa using hv.1
  obtain ⟨b, o, cap, rfl, _, _, hbl, hcell⟩ := sees_cells hv (by omega)
  obtain ⟨b2, o2, cap2, rfl, _, _, hbl2, hcell2⟩ := sees_cells hu (by omega)
  have HA := Go.Lib.hid hcell
  have HB := Go.Lib.hid hcell2
  have H0 : Hid (decide (cmpL (xs.drop 0) (ys.drop 0) < 0) = r) := Go.Lib.hid (by simpa using h)
  clear hv hu h hcell hcell2
  go_enter Try.func108, Try.ntmps108
  go_wp2
  go_loopw [5] (fun i wr => ∃ k : Nat, k ≤ n ∧ i = .int .i64 k ∧ Hid (decide (cmpL (xs.drop k) (ys.drop k) < 0) = r) ∧ Drawn W wr) (fun i _ => n - (intOf i).toNat)
  case atStart => exact ⟨0, Nat.zero_le _, rfl, H0, Drawn.refl _⟩
  case round =>
    obtain ⟨k, hk, rfl, HC, HD⟩ := hrel
    clear H0
    by_cases hlt : k < n
    · have hck : wr.cell? ⟨b, o + k, none⟩ = some (.int .i64 (xs.getD k 0)) := (HD.cell _).trans (HA.out k (by omega))
      have hck2 : wr.cell? ⟨b2, o2 + k, none⟩ = some (.int .i64 (ys.getD k 0)) := (HD.cell _).trans (HB.out k (by omega))
      have hstep := cmpL_drop (xs := xs) (ys := ys) (k := k) (by omega) (by omega)
      have hc0 := HC.out
      rw [hstep] at hc0
      obtain ⟨x, hx⟩ : ∃ x, xs.getD k 0 = x := ⟨_, rfl⟩
      obtain ⟨y, hy⟩ : ∃ y, ys.getD k 0 = y := ⟨_, rfl⟩
      rw [hx, hy] at hc0
      rw [hx] at hck
      rw [hy] at hck2
      have hlti : (k : Int) < (n : Int) := by omega
      clear hx hy hstep
      by_cases he : x = y
      · subst he
        have HR : Hid (decide (cmpL (xs.drop (k + 1)) (ys.drop (k + 1)) < 0) = r) := Go.Lib.hid (by rw [if_neg (by omega), if_neg (by omega)] at hc0; exact hc0)
        clear hc0
        go_wp2
        go_quiet (fail)
        go_wp2
        go_roundw
        case rel => exact ⟨k + 1, by omega, by go_num, HR, HD.next _⟩
        case measure => simp [intOf]; omega
      · have hbne : (x == y) = false := by rw [beq_eq_false_iff_ne]; exact he
        have hbne2 : (x != y) = true := by simp [bne, hbne]
        have HR : Hid (decide (x < y) = r) := Go.Lib.hid (by
          rw [← hc0]
          by_cases h1 : x < y
          · rw [if_pos h1]; simp [h1]
          · rw [if_neg h1, if_pos (by omega)]; simp [h1])
        clear hc0
        go_wp2
        go_quiet (fail)
        have hckq : (wr.drewN nq).cell? ⟨b, o + k, none⟩ = some (.int .i64 x) := hck
        have hckq2 : (wr.drewN nq).cell? ⟨b2, o2 + k, none⟩ = some (.int .i64 y) := hck2
        have HDQ := Go.Lib.hid (HD.next nq)
        obtain ⟨wq, hwq⟩ : ∃ wq, wr.drewN nq = wq := ⟨_, rfl⟩
        rw [hwq] at hckq hckq2 HDQ ⊢
        clear hwq hck hck2 HD
        go_wp2
        go_quiet (fail)
        go_wp2
        go_ret
        exact ⟨by rw [← HR.out]; rfl, HDQ.out.next _⟩
    · have HR : Hid (r = false) := Go.Lib.hid (by rw [← HC.out, List.drop_of_length_le (by omega), List.drop_of_length_le (by omega)]; rfl)
      go_wp2
      go_ret
      exact ⟨by rw [HR.out]; rfl, HD⟩

end Go.Proofs.Ytecbfoodkcgehab.ListsBC

/-
  The mathematics of sorted lists of lists. Conditions: none. Plain facts.
-/
namespace Go.Proofs.Ytecbfoodkcgehab.OutsMath
open CmpC ListsBC

def Sorted (R : List (List Int)) : Prop := R.Pairwise (fun a b => cmpL a b < 0)

theorem sorted_put {L : List (List Int)} {o : List Int} {k : Nat} (hs : Sorted L) (ho : o ∉ L) (hk : k ≤ L.length) (h1 : ∀ j, j < k → cmpL (L.getD j []) o < 0) (h2 : k < L.length → ¬ cmpL (L.getD k []) o < 0) : Sorted (L.take k ++ [o] ++ L.drop k) := by
  have hd : ∀ b ∈ L.drop k, cmpL o b < 0 := by
    by_cases hlt : k < L.length
    · have e1 : L.getD k [] = L[k] := by simp [hlt]
      have h3 := h2 hlt
      rw [e1] at h3
      have h4 : cmpL o L[k] < 0 := by
        have h5 := cmpL_neg L[k] o
        have h6 : cmpL L[k] o ≠ 0 := fun e => ho (by rw [← cmpL_eq _ _ e]; exact List.getElem_mem hlt)
        omega
      have h7 : (L.drop k).Pairwise (fun a b => cmpL a b < 0) := List.Pairwise.sublist (List.drop_sublist k L) hs
      rw [List.drop_eq_getElem_cons hlt] at h7 ⊢
      rw [List.pairwise_cons] at h7
      intro b hb
      rcases List.mem_cons.1 hb with rfl | hb
      · exact h4
      · exact cmpL_lt_trans _ _ _ h4 (h7.1 b hb)
    · intro b hb; rw [List.drop_of_length_le (by omega)] at hb; simp at hb
  have ht : ∀ a ∈ L.take k, cmpL a o < 0 := by
    intro a ha
    obtain ⟨j, hj, e⟩ := List.mem_iff_getElem.1 ha
    have hj2 : j < k := by simp at hj; omega
    have := h1 j hj2
    rw [List.getElem_take] at e
    have e2 : L.getD j [] = a := by rw [← e]; simp [show j < L.length by omega]
    rw [e2] at this; exact this
  unfold Sorted
  rw [List.append_assoc, List.pairwise_append]
  refine ⟨List.Pairwise.sublist (List.take_sublist k L) hs, ?_, ?_⟩
  · show (o :: L.drop k).Pairwise _
    rw [List.pairwise_cons]
    exact ⟨hd, List.Pairwise.sublist (List.drop_sublist k L) hs⟩
  · intro a ha b hb
    rcases List.mem_append.1 hb with hb | hb
    · have : b = o := by simpa using hb
      subst this
      exact ht a ha
    · exact cmpL_lt_trans _ _ _ (ht a ha) (hd b hb)

theorem perm_put {L : List (List Int)} {o : List Int} {k : Nat} : (L.take k ++ [o] ++ L.drop k).Perm (L ++ [o]) := by
  rw [List.append_assoc]
  refine List.perm_middle.trans ?_
  show (o :: (L.take k ++ L.drop k)).Perm _
  rw [List.take_append_drop]
  exact (List.perm_append_comm (l₁ := [o]) (l₂ := L))

theorem sorted_unique : ∀ (R S : List (List Int)), Sorted R → Sorted S → R.Perm S → R = S
  | [], S, _, _, h => by rw [List.nil_perm] at h; exact h.symm
  | a :: R, [], _, _, h => by have := h.length_eq; simp at this
  | a :: R, b :: S, h1, h2, h => by
    unfold Sorted at h1 h2
    rw [List.pairwise_cons] at h1 h2
    have hab : a = b := by
      rcases List.mem_cons.1 (h.mem_iff.1 (List.mem_cons_self (a := a) (l := R))) with e | e
      · exact e
      · rcases List.mem_cons.1 (h.mem_iff.2 (List.mem_cons_self (a := b) (l := S))) with e2 | e2
        · exact e2.symm
        · have h3 := h1.1 b e2
          have h4 := h2.1 a e
          have := cmpL_neg a b
          omega
    subst hab
    rw [sorted_unique R S h1.2 h2.2 h.cons_inv]

end Go.Proofs.Ytecbfoodkcgehab.OutsMath

/-
  All orders of as many numbers, in ascending order. Conditions: none. Plain facts.
-/
namespace Go.Proofs.Ytecbfoodkcgehab.AllO
open OrdMath OrdFacts PatMath CmpC ListsBC OutsMath

def allO (n : Nat) : List (List Int) := (List.range (fact n)).map (fun k => atRun n (iota n) k)

theorem allO_len (n : Nat) : (allO n).length = fact n := by simp [allO]

theorem allO_take {m k : Nat} (hk : k < fact m) : (allO m).take (k + 1) = (allO m).take k ++ [atRun m (iota m) k] := by
  rw [List.take_succ_eq_append_getElem (by rw [allO_len]; exact hk)]
  congr 1
  simp [allO]

theorem mem_allO {n : Nat} {zs : List Int} (h1 : 1 ≤ n) (h7 : n ≤ 7) : zs ∈ allO n ↔ (Ord zs ∧ zs.length = n) := by
  unfold allO
  rw [List.mem_map]
  constructor
  · rintro ⟨k, hk, rfl⟩
    rw [List.mem_range] at hk
    exact ⟨(rank_of_at h1 h7 hk).1, atRun_len n (iota n) k⟩
  · rintro ⟨h, hl⟩
    have h2 := at_of_rank h
    rw [hl] at h2
    exact ⟨_, List.mem_range.2 h2.1, h2.2⟩

theorem allO_ranks (n : Nat) : (allO n).Pairwise (fun a b => rankR a < rankR b) := by
  unfold allO
  rw [List.pairwise_map, List.pairwise_iff_getElem]
  intro i j hi hj hij
  have hi2 : i < fact n := by simpa using hi
  have hj2 : j < fact n := by simpa using hj
  rw [List.getElem_range, List.getElem_range, (rank_at n (iota n) i (iota_len n) (iota_sorted n) hi2).2, (rank_at n (iota n) j (iota_len n) (iota_sorted n) hj2).2]
  exact hij

theorem rank_mono : ∀ (a b left : List Int), left.Pairwise (· < ·) → a.Perm left → b.Perm left → cmpL a b < 0 → rankR a < rankR b
  | [], b, left, _, ha, hb, h => by
    have : left = [] := by simpa using ha.symm
    subst this
    have : b = [] := by simpa using hb
    subst this
    exact absurd h (by simp [cmpL])
  | x :: a, [], left, _, ha, hb, _ => by
    have : left = [] := by simpa using hb.symm
    subst this
    exact absurd ha (by simp)
  | x :: a, y :: b, left, hp, ha, hb, h => by
    have hca : cl x a = cl x left := by rw [← cl_perm ha, cl_self]
    have hcb : cl y b = cl y left := by rw [← cl_perm hb, cl_self]
    have hlen : a.length = b.length := by have := ha.length_eq; have := hb.length_eq; simp at *; omega
    show cl x a * fact a.length + rankR a < cl y b * fact b.length + rankR b
    rw [hca, hcb, ← hlen]
    have hra := rankR_lt a
    unfold cmpL at h
    by_cases hxy : x < y
    · have hc : cl x left < cl y left := cl_lt_of_lt hxy (ha.mem_iff.1 (by simp))
      have h1 : (cl x left + 1) * fact a.length ≤ cl y left * fact a.length := Nat.mul_le_mul_right _ hc
      rw [Nat.add_mul] at h1
      omega
    · rw [if_neg hxy] at h
      by_cases hyx : y < x
      · rw [if_pos hyx] at h
        exact absurd h (by decide)
      · rw [if_neg hyx] at h
        have e : x = y := by omega
        subst e
        have h1 := sorted_at left x hp (ha.mem_iff.1 (by simp))
        have he := erase_perm h1.2
        rw [h1.1] at he
        have pa : a.Perm (left.eraseIdx (cl x left)) := (ha.trans he.symm).cons_inv
        have pb : b.Perm (left.eraseIdx (cl x left)) := (hb.trans he.symm).cons_inv
        have ih := rank_mono a b _ (hp.sublist (List.eraseIdx_sublist left _)) pa pb h
        omega

theorem allO_sorted {n : Nat} (h1 : 1 ≤ n) (h7 : n ≤ 7) : Sorted (allO n) := by
  unfold Sorted
  refine List.Pairwise.imp_of_mem ?_ (allO_ranks n)
  intro a b ha hb hr
  have ha2 := (mem_allO h1 h7).1 ha
  have hb2 := (mem_allO h1 h7).1 hb
  have pa : a.Perm (iota n) := by have := ord_perm ha2.1; rw [ha2.2] at this; exact this
  have pb : b.Perm (iota n) := by have := ord_perm hb2.1; rw [hb2.2] at this; exact this
  by_cases h : cmpL a b < 0
  · exact h
  · exfalso
    by_cases h0 : cmpL a b = 0
    · have := cmpL_eq a b h0
      rw [this] at hr
      omega
    · have h2 := cmpL_neg a b
      have := rank_mono b a (iota n) (iota_sorted n) pb pa (by omega)
      omega

end Go.Proofs.Ytecbfoodkcgehab.AllO

/-
  Contract: whether a list is the sorted order, as the laws ask it. Conditions: lists of at most 2^20 numbers.
-/
namespace Go.Proofs.Ytecbfoodkcgehab.RSortedC
open Go.RowKit SeesC IntsC ExactC OrdMath

theorem wf_mid {n : Int} (h0 : -100000 ≤ n) (h1 : n ≤ 100000) : (Lit.int .i64 n).wf = true := by
  have e1 : IntKind.i64.min = -9223372036854775808 := rfl
  have e2 : IntKind.i64.max = 9223372036854775807 := rfl
  simp [Lit.wf, e1, e2]
  omega

theorem iota_get {n k : Nat} (h : k < n) : (iota n).getD k 0 = (k : Int) + 1 := by
  have := iota_at n k h
  rw [List.getD_eq_getElem?_getD, List.getElem?_eq_getElem (by rw [iota_len]; exact h), Option.getD_some, this]

set_option maxRecDepth 100000 in
theorem rSorted_any (xs : List Int) (r : Bool) (W : World) (v : Value) (n : Nat) (hv : Sees W v n (vals xs)) (hn : n ≤ 1048576) (hr : decide (xs = iota xs.length) = r) :
    Calls Try.prog 85 #[v] W fun e w' => e = .returned (.bool r) ∧ Drawn W w' := by
  obtain ⟨hlen, a, cap, rfl, hcap, hc⟩ := hv
  simp at hlen
  have HR := Go.Lib.hid hr
  have HLN := Go.Lib.hid hlen
  clear hr
  go_enter Try.func85, Try.ntmps85
  go_wp2
  go_loopw [3] (fun i wr => ∃ k : Nat, k ≤ n ∧ i = .int .i64 k ∧ Drawn W wr ∧ Hid (∀ j, j < k → xs.getD j 0 = (j : Int) + 1)) (fun i _ => n - (intOf i).toNat)
  case atStart => exact ⟨0, Nat.zero_le _, rfl, Drawn.refl _, Go.Lib.hid (fun j hj => by omega)⟩
  case round =>
    obtain ⟨k, hk, rfl, HD, HA⟩ := hrel
    by_cases hlt : k < n
    · obtain ⟨b, o, rfl, hcell⟩ := hc (by omega)
      have hk2 : k < xs.length := by omega
      obtain ⟨x, hx⟩ : ∃ x, xs.getD k 0 = x := ⟨_, rfl⟩
      have hck : wr.cell? ⟨b, o + k, none⟩ = some (.int .i64 x) := (HD.cell _).trans (hcell k _ (by rw [← hx]; simp [hk2]))
      have hlti : (k : Int) < (n : Int) := by omega
      have HX := Go.Lib.hid hx
      clear hcell hc hx
      by_cases he : x = (k : Int) + 1
      · subst he
        have HN : Hid (∀ j, j < k + 1 → xs.getD j 0 = (j : Int) + 1) := Go.Lib.hid (fun j hj => by
          by_cases e : j = k
          · rw [e]; exact HX.out
          · exact HA.out j (by omega))
        go_wp2
        (try go_quiet (fail))
        (try go_wp2)
        go_roundw
        case rel => exact ⟨k + 1, by omega, by go_num, by first | exact HD | exact HD.next _, HN⟩
        case measure => simp [intOf]; omega
      · have hne : (x != (k : Int) + 1) = true := by rw [bne_iff_ne]; exact he
        have hne2 : (x == (k : Int) + 1) = false := by rw [beq_eq_false_iff_ne]; exact he
        have hrf : r = false := by
          rw [← HR.out, decide_eq_false_iff_not]
          intro e
          apply he
          rw [← HX.out, e]
          exact iota_get (by omega)
        subst hrf
        go_wp2
        (try go_quiet (fail))
        (try go_wp2)
        go_ret
        exact ⟨rfl, by first | exact HD | exact HD.next _⟩
    · have hkn : k = n := by omega
      have hrt : r = true := by
        rw [← HR.out, decide_eq_true_iff]
        apply List.ext_getElem
        · rw [iota_len]
        · intro j h1 h2
          have h3 := HA.out j (by have := HLN.out; omega)
          have e1 : xs[j] = xs.getD j 0 := by simp [h1]
          rw [e1, h3, iota_at _ _ h1]
      subst hrt
      have hlti : ¬ (k : Int) < (n : Int) := by omega
      go_wp2
      go_ret
      exact ⟨rfl, HD⟩

end Go.Proofs.Ytecbfoodkcgehab.RSortedC

/-
  Contracts: the model and the program mirror a word. Conditions: texts of at most 2^20 bytes.
-/
namespace Go.Proofs.Ytecbfoodkcgehab.MirrorC
open Go.RowKit SeesC IntsC ExactC NumC IterC WordMath InC WordC

def mirrorAns (s : ByteArray) : ByteArray × Bool := if Word s then (txt (mirList s), true) else (ByteArray.empty, false)

theorem mir_I {s : ByteArray} {k : Nat} (h : byt s k = 73) : mir (byt s k) = 79 := by rw [h]; rfl
theorem mir_O {s : ByteArray} {k : Nat} (h : byt s k = 79) : mir (byt s k) = 73 := by rw [h]; rfl

theorem bput_back {L Z : List UInt8} {m : Nat} {z : UInt8} (hl : L.length = Z.length) (hm : m < L.length) (h : L[m] = z) : (bvals (Z.take (m + 1) ++ L.drop (m + 1))).set m (.int .u8 (z.toNat : Int)) = bvals (Z.take m ++ L.drop m) := by
  unfold bvals
  rw [← List.map_set (f := fun c : UInt8 => Value.int .u8 (c.toNat : Int)), List.set_append_left _ _ (by simp; omega), List.take_succ_eq_append_getElem (by omega), List.set_append_right _ _ (by simp; omega)]
  have e3 : m - (Z.take m).length = 0 := by simp; omega
  rw [e3, List.set_cons_zero, List.append_assoc, ← h]
  have e4 : [L[m]] ++ List.drop (m + 1) L = List.drop m L := by rw [List.drop_eq_getElem_cons hm]; rfl
  rw [e4]

end Go.Proofs.Ytecbfoodkcgehab.MirrorC

/-
  The mathematics of mirrored words: a mirrored word is a word, as deep, and mirrored again it is the word. Conditions: none. Plain facts: nothing of the program.
-/
namespace Go.Proofs.Ytecbfoodkcgehab.MirFacts
open WordMath WordC NumC MirrorC

theorem word_byte {w : ByteArray} (hw : Word w) {k : Nat} (hk : k < w.size) : byt w k = 73 ∨ byt w k = 79 := by
  obtain ⟨d, _, _, _, h⟩ := hw.at hk
  rcases h with ⟨h, _⟩ | ⟨h, _⟩
  · exact .inl h
  · exact .inr h

theorem byt_mir {w : ByteArray} {k : Nat} (hk : k < w.size) : byt (txt (mirList w)) (w.size - 1 - k) = mir (byt w k) := by
  have hl := mirList_len w
  have h1 := mirList_at w k hk
  unfold byt
  rw [txt_list, List.getD_eq_getElem?_getD, List.getElem?_eq_getElem (by omega), Option.getD_some]
  exact h1

theorem held_mir {w : ByteArray} (hw : Word w) : ∀ k, k ≤ w.size → heldTo (txt (mirList w)) k = heldTo w (w.size - k) := by
  intro k
  induction k with
  | zero => intro _; rw [Nat.sub_zero, hw.2.2]; rfl
  | succ k ih =>
    intro hk
    have ih' := ih (by omega)
    obtain ⟨d, hd, hd1, hd2, hc⟩ := hw.at (k := w.size - (k + 1)) (by omega)
    have e1 : w.size - (k + 1) + 1 = w.size - k := by omega
    rw [e1] at hc
    have hb := byt_mir (w := w) (k := w.size - (k + 1)) (by omega)
    have e2 : w.size - 1 - (w.size - (k + 1)) = k := by omega
    rw [e2] at hb
    rw [hd]
    rcases hc with ⟨hI, hn, _⟩ | ⟨hO, hd0, hn⟩
    · rw [hn] at ih'
      rw [mir_I hI] at hb
      rw [held_O ih' hb (by omega)]; simp
    · rw [hn] at ih'
      rw [mir_O hO] at hb
      rw [held_I ih' hb]
      congr 1; omega

theorem mir_size (w : ByteArray) : (txt (mirList w)).size = w.size := by rw [txt_size, mirList_len]

theorem mir_word {w : ByteArray} (hw : Word w) : Word (txt (mirList w)) := by
  have hs := mir_size w
  refine ⟨by rw [hs]; exact hw.1, by rw [hs]; exact hw.2.1, ?_⟩
  rw [hs, held_mir hw w.size (Nat.le_refl _), Nat.sub_self]; rfl

theorem depth_bound {w : ByteArray} {D : Nat} : ∀ k, depthTo w k ≤ D ↔ ∀ j, j ≤ k → (heldTo w j).getD 0 ≤ D
  | 0 => by
    constructor
    · intro _ j hj
      have : j = 0 := by omega
      subst this
      show 0 ≤ D
      omega
    · intro _; exact Nat.zero_le _
  | k + 1 => by
    show max (depthTo w k) ((heldTo w (k + 1)).getD 0) ≤ D ↔ _
    rw [Nat.max_le, depth_bound k]
    constructor
    · rintro ⟨h1, h2⟩ j hj
      by_cases e : j = k + 1
      · subst e; exact h2
      · exact h1 j (by omega)
    · intro h; exact ⟨fun j hj => h j (by omega), h (k + 1) (Nat.le_refl _)⟩

theorem mir_depth {w : ByteArray} (hw : Word w) : depthTo (txt (mirList w)) (txt (mirList w)).size = depthTo w w.size := by
  have hs := mir_size w
  rw [hs]
  apply Nat.le_antisymm
  · rw [depth_bound]
    intro j hj
    rw [held_mir hw j hj]
    exact (depth_bound (w := w) (D := depthTo w w.size) w.size).1 (Nat.le_refl _) _ (by omega)
  · rw [depth_bound]
    intro j hj
    have h1 := held_mir hw (w.size - j) (by omega)
    have e : w.size - (w.size - j) = j := by omega
    rw [e] at h1
    rw [← h1]
    exact (depth_bound (w := txt (mirList w)) (D := depthTo (txt (mirList w)) w.size) w.size).1 (Nat.le_refl _) _ (by omega)

theorem mir_mir {w : ByteArray} (hw : Word w) : txt (mirList (txt (mirList w))) = w := by
  have hs := mir_size w
  have e : mirList (txt (mirList w)) = w.data.toList := by
    unfold mirList
    rw [txt_list, ← List.map_reverse, List.reverse_reverse, List.map_map]
    conv => rhs; rw [← List.map_id w.data.toList]
    apply List.map_congr_left
    intro c hc
    obtain ⟨k, hk, e⟩ := List.mem_iff_getElem.1 hc
    have hk2 : k < w.size := by rw [Array.length_toList] at hk; exact hk
    have hb := word_byte hw hk2
    have e2 : byt w k = c := by
      unfold byt
      rw [List.getD_eq_getElem?_getD, List.getElem?_eq_getElem hk, Option.getD_some, e]
    rw [e2] at hb
    rcases hb with rfl | rfl
    · rfl
    · rfl
  rw [e]
  unfold txt
  cases w; simp

/-- What the second calls answer. -/
theorem mir_facts {w : ByteArray} (hw : Word w) : mirrorAns (txt (mirList w)) = (w, true) ∧ depthAns (txt (mirList w)) = depthAns w := by
  have h := mir_word hw
  refine ⟨by unfold mirrorAns; rw [if_pos h, mir_mir hw], ?_⟩
  unfold depthAns
  rw [if_pos h, if_pos hw, mir_depth hw]

end Go.Proofs.Ytecbfoodkcgehab.MirFacts

/-
  Contract: the model tells two lists that are not the same. Conditions: lists of one length, of at most 2^20 numbers.
-/
namespace Go.Proofs.Ytecbfoodkcgehab.ListsCC
open Go.RowKit SeesC IntsC ExactC CmpC ListsC

theorem take_all {xs ys : List Int} (hl : xs.length = ys.length) (h : xs.take xs.length = ys.take xs.length) : xs = ys := by
  rw [List.take_length, List.take_of_length_le (by omega)] at h; exact h

set_option maxRecDepth 100000 in
set_option maxHeartbeats 1000000 in
theorem l1Same_not (xs ys : List Int) (hl : xs.length = ys.length) (hne : xs ≠ ys) (W : World) (v : Value) (n : Nat) (hv : Sees W v n (vals xs)) (u : Value) (hu : Sees W u n (vals ys)) (hn1 : 1 ≤ n) (hn : n ≤ 1048576) :
    Calls Try.prog 156 #[v, u] W fun e w' => e = .returned (.bool false) ∧ Drawn W w' := by
  have hln : xs.length = n := by simpa using hv.1
  obtain ⟨b, o, cap, rfl, _, _, hbl, hcell⟩ := sees_cells hv (by omega)
  obtain ⟨b2, o2, cap2, rfl, _, _, hbl2, hcell2⟩ := sees_cells hu (by omega)
  have HA := Go.Lib.hid hcell
  have HB := Go.Lib.hid hcell2
  clear hv hu hcell hcell2
  go_enter Try.func156, Try.ntmps156
  go_wp2
  go_loopw [5] (fun i wr => ∃ k : Nat, k ≤ n ∧ i = .int .i64 k ∧ Hid (xs.take k = ys.take k) ∧ Drawn W wr) (fun i _ => n - (intOf i).toNat)
  case atStart => exact ⟨0, Nat.zero_le _, rfl, Go.Lib.hid rfl, Drawn.refl _⟩
  case round =>
    obtain ⟨k, hk, rfl, HC, HD⟩ := hrel
    by_cases hlt : k < n
    · have hck : wr.cell? ⟨b, o + k, none⟩ = some (.int .i64 (xs.getD k 0)) := (HD.cell _).trans (HA.out k (by omega))
      have hck2 : wr.cell? ⟨b2, o2 + k, none⟩ = some (.int .i64 (ys.getD k 0)) := (HD.cell _).trans (HB.out k (by omega))
      obtain ⟨x, hx⟩ : ∃ x, xs.getD k 0 = x := ⟨_, rfl⟩
      obtain ⟨y, hy⟩ : ∃ y, ys.getD k 0 = y := ⟨_, rfl⟩
      rw [hx] at hck
      rw [hy] at hck2
      have hlti : (k : Int) < (n : Int) := by omega
      by_cases he : x = y
      · subst he
        have HR : Hid (xs.take (k + 1) = ys.take (k + 1)) := Go.Lib.hid (by
          rw [List.take_succ_eq_append_getElem (by omega), List.take_succ_eq_append_getElem (by omega), HC.out]
          have e1 : xs[k]'(by omega) = x := by rw [← hx]; simp [show k < xs.length by omega]
          have e2 : ys[k]'(by omega) = x := by rw [← hy]; simp [show k < ys.length by omega]
          rw [e1, e2])
        clear hx hy
        go_wp2
        go_quiet (fail)
        go_wp2
        go_roundw
        case rel => exact ⟨k + 1, by omega, by go_num, HR, HD.next _⟩
        case measure => simp [intOf]; omega
      · have hbne : (x == y) = false := by rw [beq_eq_false_iff_ne]; exact he
        have hbne2 : (x != y) = true := by simp [bne, hbne]
        clear hx hy
        go_wp2
        go_quiet (fail)
        go_wp2
        go_ret
        exact ⟨rfl, HD.next _⟩
    · exact absurd (take_all hl (by have := HC.out; rw [show k = xs.length by omega] at this; exact this)) hne

end Go.Proofs.Ytecbfoodkcgehab.ListsCC

/-
  Numbers that are well formed. Conditions: none.
-/
namespace Go.Proofs.Ytecbfoodkcgehab.OrdC0
theorem wf_big {n : Int} (h1 : -9000000000 ≤ n) (h2 : n ≤ 9000000000) : (Lit.int .i64 n).wf = true := by
  have e1 : IntKind.i64.min = -9223372036854775808 := rfl
  have e2 : IntKind.i64.max = 9223372036854775807 := rfl
  simp [Lit.wf, e1, e2]
  omega
theorem wf_small {n : Int} (h1 : -100000 ≤ n) (h2 : n ≤ 100000) : (Lit.int .i64 n).wf = true := wf_big (by omega) (by omega)
end Go.Proofs.Ytecbfoodkcgehab.OrdC0

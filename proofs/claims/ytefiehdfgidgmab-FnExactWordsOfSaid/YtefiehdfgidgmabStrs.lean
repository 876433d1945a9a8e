/-
  Contracts of the laws' own helpers on lists of texts: how much room is left, and whether two lists are alike. Conditions: the lists can be read, and what is left is at most 2^20.
-/
import Derived.Test.YtefiehdfgidgmabSees
import Derived.Test.YtefiehdfgidgmabStrsMath
import Derived.Deep.QuietTactic
import Derived.BigQuiet
import Derived.Lib.Hide
import Derived.LoopTactic
import Derived.Outline
import Derived.OwnWalk
namespace Go.Proofs.Ytefiehdfgidgmab.StrsC
open Go.RowKit SeesC StrsMath

/-- Two lists that are alike are told to be so. -/
theorem eqStringS_same (w : World) (v u : Value) (n : Nat) (ss : List ByteArray) (hv : Sees w v n (ss.map Value.string)) (hu : Sees w u n (ss.map Value.string)) (hn : n ≤ maxLen) :
    Calls Try.prog 38 #[v, u] w fun e w' => e = .returned (.bool true) ∧ Drawn w w' := by
  obtain ⟨hlen, a, cap, rfl, hcap, hc⟩ := hv
  obtain ⟨_, a2, cap2, rfl, _, hc2⟩ := hu
  simp at hlen
  unfold maxLen at hn
  go_enter Try.func38, Try.ntmps38
  go_wp2
  go_loopw [5] (fun i wr => ∃ k : Nat, k ≤ n ∧ i = .int .i64 k ∧ Drawn w wr) (fun i _ => n - (intOf i).toNat)
  case atStart => exact ⟨0, Nat.zero_le _, rfl, Drawn.refl _⟩
  case round =>
    obtain ⟨k, hk, rfl, HD⟩ := hrel
    by_cases hlt : k < n
    · obtain ⟨b, o, rfl, hcell⟩ := hc (by omega)
      obtain ⟨b2, o2, rfl, hcell2⟩ := hc2 (by omega)
      have hk2 : k < ss.length := by omega
      have hck : wr.cell? ⟨b, o + k, none⟩ = some (.string ss[k]) := (HD.cell _).trans (hcell k (.string ss[k]) (by simp [hk2]))
      have hck2 : wr.cell? ⟨b2, o2 + k, none⟩ = some (.string ss[k]) := (HD.cell _).trans (hcell2 k (.string ss[k]) (by simp [hk2]))
      have hlti : (k : Int) < (n : Int) := by omega
      clear hcell hcell2 hc hc2
      go_wp2
      go_quiet (fail)
      go_wp2
      go_roundw
      case rel => exact ⟨k + 1, by omega, by go_num, HD.next _⟩
      case measure => simp [intOf]; omega
    · go_wp2
      go_ret
      exact ⟨rfl, HD⟩

theorem infoS : (Try.prog.info? 9).map (fun i => (i.zero, i.size, i.bytes)) = some (some (.string ByteArray.empty), 1, 16) := by kernel_rfl

theorem set_next {α : Type} (L : List α) (z : α) (n k : Nat) (h : k < L.length) (hn : L.length = n) : (L.take k ++ List.replicate (n - k) z).set k L[k] = L.take (k + 1) ++ List.replicate (n - (k + 1)) z := by
  rw [List.set_append_right _ _ (by simp; omega)]
  have e1 : k - (L.take k).length = 0 := by simp; omega
  have e2 : n - k = (n - (k + 1)) + 1 := by omega
  rw [e1, e2, List.replicate_succ, List.set_cons_zero, List.take_succ_eq_append_getElem h, List.append_assoc]
  rfl

theorem made_string (n : Nat) : (madeCells (Value.string ByteArray.empty).cells (n * 1)).toList = List.replicate n (.string ByteArray.empty) := by
  apply List.ext_getElem
  · simp [madeCells]
  · intro i h1 h2; simp [madeCells, Value.cells, Nat.mod_one]

/-- A list is copied into memory of the call's own. -/
def Copied (w : World) (e : Ending) (w' : World) (n : Nat) (xs : List Value) : Prop :=
  ∃ g cap, e = .returned (.slice (some ⟨g, 0, none⟩) n cap) ∧ w.heap.size ≤ g ∧ w'.ownsRow w.heap.size 9 1 (.slice (some ⟨g, 0, none⟩) n cap) n xs ∧ Below w.heap.size w w'

end Go.Proofs.Ytefiehdfgidgmab.StrsC

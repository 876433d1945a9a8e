/-
  Contract: the model's row that ends with a number. Conditions: there is one.
-/
import Derived.Test.YtmnggcnipjdimaaTakeI
import Derived.IntWalk
namespace Go.Proofs.Ytmnggcnipjdimaa.EndRowC
open Go.RowKit SeesC IntsC ExactC OrdMath ListsC ListsEC ListsFC LLC RagMarkC RagResC RRC QueM PassM RowsM RRVC AreM OutM

set_option maxRecDepth 100000 in
set_option maxHeartbeats 8000000 in
theorem l5Row_any (U : List (List Int)) (x : Int) (W : World) (base : Nat) (v : Value) (hv : Rag W base v U) (hN7 : U.length ≤ 7) (hr7 : tot U ≤ 7) (k : Nat) (hk : k < U.length) (hx : 0 < (U.getD k []).length ∧ last (U.getD k []) = x) :
    Calls Try.prog 105 #[v, .int .i64 x] W fun e w' => e = .returned (.int .i64 (rowEnd U x)) ∧ Drawn W w' := by
  obtain ⟨gs, H⟩ := rag_rr hv
  obtain ⟨N, hN⟩ : ∃ N, U.length = N := ⟨_, rfl⟩
  obtain ⟨g, c, rfl⟩ := rr_slice H hN (by omega)
  have HV := Go.Lib.hid (And.intro H (And.intro hN (And.intro hr7 (And.intro hx hk))))
  clear H hv hk hx hr7
  rw [hN] at hN7
  clear hN
  go_enter Try.func105, Try.ntmps105
  go_wp2
  go_loopw [5] (fun iv wr => ∃ i : Nat, i < N ∧ iv = .int .i64 i ∧ Hid (Drawn W wr ∧ ∀ q, q < i → ¬ (0 < (U.getD q []).length ∧ last (U.getD q []) = x))) (fun i _ => N - (intOf i).toNat)
  case atStart => exact ⟨0, by have := HV.out; omega, rfl, Go.Lib.hid ⟨⟨0, rfl⟩, fun q hq => by omega⟩⟩
  case round =>
    obtain ⟨i, hiN, rfl, HX⟩ := hrel
    have hUl : U.length = N := HV.out.2.1
    obtain ⟨⟨p1, p2⟩, hp⟩ : ∃ p, gs.getD i (0, 0) = p := ⟨_, rfl⟩
    obtain ⟨m, hm⟩ : ∃ m, (U.getD i []).length = m := ⟨_, rfl⟩
    have hhd := (HX.out.1.cell ⟨g, i, none⟩).trans (HV.out.1.head HV.out.2.1 hiN)
    rw [hp, hm] at hhd
    simp only at hhd
    have hm7 : m ≤ 7 := by have h1 := tot_row (L := U) (i := i) (by omega); have := HV.out.2.2.1; omega
    have hii : (i : Int) < (N : Int) := by omega
    cases m with
    | zero =>
      have H2 := Go.Lib.hid (show ∀ q, q < i + 1 → ¬ (0 < (U.getD q []).length ∧ last (U.getD q []) = x) from fun q hq => by
        by_cases e : q = i
        · rw [e, hm]; omega
        · exact HX.out.2 q (by omega))
      have HNX : i + 1 < N := by
        have h1 := HV.out.2.2.2
        by_cases h2 : k < i + 1
        · exact absurd h1.1 (H2.out k h2)
        · omega
      have HD := Go.Lib.hid HX.out.1
      clear hp hm hUl HX
      go_wp2_with fail
      go_roundw
      case rel => exact ⟨i + 1, HNX, by go_num, Go.Lib.hid ⟨HD.out, H2.out⟩⟩
      case measure => simp [intOf] <;> omega
    | succ m =>
      have hck := HV.out.1.num (i := i) (j := m) (by omega) (by omega)
      have hl2 : (U.getD i []).getD m 0 = last (U.getD i []) := by unfold last; rw [hm]; rfl
      rw [hp, hl2] at hck
      obtain ⟨y, hy⟩ : ∃ y, last (U.getD i []) = y := ⟨_, rfl⟩
      rw [hy] at hck
      simp only at hck
      have hck := (HX.out.1.cell _).trans hck
      have hmi : (m : Int) < (m : Int) + 1 := by omega
      by_cases hxy : y = x
      · subst hxy
        have HR := Go.Lib.hid (rowEnd_is U y i (by omega) HX.out.2 ⟨by omega, hy⟩)
        have HD := Go.Lib.hid HX.out.1
        clear hp hm hUl HX hl2 hy
        go_wp2_with fail
        go_ret
        refine ⟨?_, HD.out⟩
        rw [HR.out]
        rfl
      · have H2 := Go.Lib.hid (show ∀ q, q < i + 1 → ¬ (0 < (U.getD q []).length ∧ last (U.getD q []) = x) from fun q hq => by
          by_cases e : q = i
          · rw [e, hy]; exact fun h => hxy h.2
          · exact HX.out.2 q (by omega))
        have HNX : i + 1 < N := by
          have h1 := HV.out.2.2.2
          by_cases h2 : k < i + 1
          · exact absurd h1.1 (H2.out k h2)
          · omega
        have HD := Go.Lib.hid HX.out.1
        have hxyd : (y == x) = false := beq_eq_false_iff_ne.2 hxy
        clear hp hm hUl HX hl2 hy
        go_wp2_with fail
        go_roundw
        case rel => exact ⟨i + 1, HNX, by go_num, Go.Lib.hid ⟨HD.out, H2.out⟩⟩
        case measure => simp [intOf] <;> omega
end Go.Proofs.Ytmnggcnipjdimaa.EndRowC

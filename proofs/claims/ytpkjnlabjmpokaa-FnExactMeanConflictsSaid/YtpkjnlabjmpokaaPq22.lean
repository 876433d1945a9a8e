/-
  Contracts and plain facts that the laws' texts lean on. Conditions: as each states.
-/
import Derived.Test.YtpkjnlabjmpokaaPq13
import Derived.Test.YtpkjnlabjmpokaaPq11

namespace Go.Proofs.Ytpkjnlabjmpokaa.ConfC
open Go.RowKit SeesC IntsC ExactC OrdMath BesM
set_option linter.unusedVariables false

theorem any_step {zs : List Int} {k : Nat} {x z : Int} (hk : k < zs.length) (hz : zs.getD k 0 = z) : (zs.drop k).any (fun y => decide (y < x)) = (decide (z < x) || (zs.drop (k + 1)).any (fun y => decide (y < x))) := by
  have e : zs[k] = z := by rw [← hz]; simp [hk]
  rw [List.drop_eq_getElem_cons hk, e]
  rfl

set_option maxRecDepth 100000 in
set_option maxHeartbeats 2000000 in
theorem l7Conflict_any (zs : List Int) (i j : Nat) (r : Bool) (h : conf zs i j = r) (W : World) (v : Value) (n : Nat) (hv : Sees W v n (vals zs)) (hi : i < n) (hj : j < n) (hn : n ≤ 1048576) :
    Calls Try.prog 129 #[v, .int .i64 (i : Int), .int .i64 (j : Int)] W fun e w' => e = .returned (.bool r) ∧ Drawn W w' := by
  have hln : zs.length = n := by simpa using hv.1
  obtain ⟨b, o, cap, rfl, _, _, hbl, hcell⟩ := sees_cells hv (by omega)
  have HA := Go.Lib.hid hcell
  have hci := hcell i (by omega)
  have hcj := hcell j (by omega)
  obtain ⟨x, hx⟩ : ∃ x, zs.getD i 0 = x := ⟨_, rfl⟩
  obtain ⟨y, hy⟩ : ∃ y, zs.getD j 0 = y := ⟨_, rfl⟩
  unfold conf at h
  rw [hx, hy] at h
  rw [hx] at hci
  rw [hy] at hcj
  have HL := Go.Lib.hid hln
  have HX := Go.Lib.hid (And.intro hx hci)
  clear hv hcell hln hx hy
  by_cases hyx : y < x
  · have HR : Hid (r = false) := Go.Lib.hid (by rw [← h, decide_eq_true hyx]; rfl)
    clear h
    go_enter Try.func129, Try.ntmps129
    go_wp2
    go_quiet (fail)
    go_wp2
    go_ret
    rw [HR.out]
    exact ⟨rfl, ⟨_, rfl⟩⟩
  · have HR : Hid ((zs.drop (j + 1)).any (fun z => decide (z < x)) = r) := Go.Lib.hid (by rw [← h, decide_eq_false hyx]; rfl)
    clear h
    go_enter Try.func129, Try.ntmps129
    go_wp2
    go_quiet (fail)
    rename_i nq
    obtain ⟨wd, hwd⟩ : ∃ wd, W.drewN nq = wd := ⟨_, rfl⟩
    have HD0 : Hid (Drawn W wd) := Go.Lib.hid ⟨nq, hwd.symm⟩
    rw [hwd]
    clear hwd
    go_wp2
    go_loopw [7] (fun kv wr => ∃ k : Nat, k ≤ n ∧ kv = .int .i64 (k : Int) ∧ Hid ((zs.drop k).any (fun z => decide (z < x)) = r) ∧ Drawn W wr) (fun kv _ => n - (intOf kv).toNat)
    case atStart => exact ⟨j + 1, by omega, by go_num, HR, HD0.out⟩
    case round =>
      obtain ⟨k, hk, rfl, HC, HD⟩ := hrel
      clear HR HD0
      by_cases hlt : k < n
      · have hck : wr.cell? ⟨b, o + k, none⟩ = some (.int .i64 (zs.getD k 0)) := (HD.cell _).trans (HA.out k (by have := HL.out; omega))
        have hci2 : wr.cell? ⟨b, o + i, none⟩ = some (.int .i64 x) := (HD.cell _).trans HX.out.2
        obtain ⟨z, hz⟩ : ∃ z, zs.getD k 0 = z := ⟨_, rfl⟩
        have hst := any_step (x := x) (by have := HL.out; omega) hz
        rw [HC.out] at hst
        rw [hz] at hck
        have hlti : (k : Int) < (n : Int) := by omega
        clear hz hci hcj
        by_cases hzx : z < x
        · have HF : Hid (r = true) := Go.Lib.hid (by rw [hst, decide_eq_true hzx]; rfl)
          clear hst
          go_wp2
          go_quiet (fail)
          go_wp2
          go_ret
          rw [HF.out]
          exact ⟨rfl, HD.next _⟩
        · have HN : Hid ((zs.drop (k + 1)).any (fun z => decide (z < x)) = r) := Go.Lib.hid (by rw [hst, decide_eq_false hzx]; rfl)
          clear hst
          go_wp2
          go_quiet (fail)
          go_wp2
          go_roundw
          case rel => exact ⟨k + 1, by omega, by go_num, HN, HD.next _⟩
          case measure => simp [intOf]; omega
      · have hkn : k = n := by omega
        have HF : Hid (r = false) := Go.Lib.hid (by
          have h1 := HC.out
          rw [List.drop_of_length_le (by have := HL.out; omega)] at h1
          rw [← h1]; rfl)
        have hlti : ¬ (k : Int) < (n : Int) := by omega
        clear hkn hci hcj
        go_wp2
        go_ret
        rw [HF.out]
        exact ⟨rfl, HD⟩

end Go.Proofs.Ytpkjnlabjmpokaa.ConfC

namespace Go.Proofs.Ytpkjnlabjmpokaa.BdMeanConflicts
open OrdMath AllO BesM

theorem kernel : ∀ n < 7, 1 ≤ n → (allO n).all (fun zs => Nat.ble ((confs zs).length) 15) = true := by decide +kernel

theorem bound {n : Nat} (h1 : 1 ≤ n) (h6 : n ≤ 6) {zs : List Int} (hz : zs ∈ allO n) : ((confs zs).length) ≤ 1000 := by
  have h := List.all_eq_true.1 (kernel n (by omega) h1) zs hz
  exact Nat.le_trans (Nat.le_of_ble_eq_true h) (by omega)

end Go.Proofs.Ytpkjnlabjmpokaa.BdMeanConflicts

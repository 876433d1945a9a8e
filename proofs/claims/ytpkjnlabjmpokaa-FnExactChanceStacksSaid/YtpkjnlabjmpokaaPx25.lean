/-
  Contracts and plain facts that the laws' texts lean on. Conditions: as each states.
-/
import Derived.Test.YtpkjnlabjmpokaaPx15
import Derived.Test.YtpkjnlabjmpokaaPx12

namespace Go.Proofs.Ytpkjnlabjmpokaa.ConfC
open Go.RowKit SeesC IntsC ExactC OrdMath BesM
set_option linter.unusedVariables false

theorem any_step {zs : List Int} {k : Nat} {x z : Int} (hk : k < zs.length) (hz : zs.getD k 0 = z) : (zs.drop k).any (fun y => decide (y < x)) = (decide (z < x) || (zs.drop (k + 1)).any (fun y => decide (y < x))) := by
  have e : zs[k] = z := by rw [← hz]; simp [hk]
  rw [List.drop_eq_getElem_cons hk, e]
  rfl

set_option maxRecDepth 100000 in
set_option maxHeartbeats 2000000 in
theorem l7Conflict_any (zs : List Int) (i j : Nat) (r : Bool) (h : conf zs i j = r) (W : World) (v : Value) (n : Nat) (hv : Sees W v n (vals zs)) (hi : i < n) (hj : j < n) (hn : n ≤ 1048576) :
    Calls Try.prog 129 #[v, .int .i64 (i : Int), .int .i64 (j : Int)] W fun e w' => e = .returned (.bool r) ∧ Drawn W w' := by
  have hln : zs.length = n := by simpa using hv.1
  obtain ⟨b, o, cap, rfl, _, _, hbl, hcell⟩ := sees_cells hv (by omega)
  have HA := Go.Lib.hid hcell
  have hci := hcell i (by omega)
  have hcj := hcell j (by omega)
  obtain ⟨x, hx⟩ : ∃ x, zs.getD i 0 = x := ⟨_, rfl⟩
  obtain ⟨y, hy⟩ : ∃ y, zs.getD j 0 = y := ⟨_, rfl⟩
  unfold conf at h
  rw [hx, hy] at h
  rw [hx] at hci
  rw [hy] at hcj
  have HL := Go.Lib.hid hln
  have HX := Go.Lib.hid (And.intro hx hci)
  clear hv hcell hln hx hy
  by_cases hyx : y < x
  · have HR : Hid (r = false) := Go.Lib.hid (by rw [← h, decide_eq_true hyx]; rfl)
    clear h
    go_enter Try.func129, Try.ntmps129
    go_wp2
    go_quiet (fail)
    go_wp2
    go_ret
    rw [HR.out]
    exact ⟨rfl, ⟨_, rfl⟩⟩
  · have HR : Hid ((zs.drop (j + 1)).any (fun z => decide (z < x)) = r) := Go.Lib.hid (by rw [← h, decide_eq_false hyx]; rfl)
    clear h
    go_enter Try.func129, Try.ntmps129
    go_wp2
    go_quiet (fail)
    rename_i nq
    obtain ⟨wd, hwd⟩ : ∃ wd, W.drewN nq = wd := ⟨_, rfl⟩
    have HD0 : Hid (Drawn W wd) := Go.Lib.hid ⟨nq, hwd.symm⟩
    rw [hwd]
    clear hwd
    go_wp2
    go_loopw [7] (fun kv wr => ∃ k : Nat, k ≤ n ∧ kv = .int .i64 (k : Int) ∧ Hid ((zs.drop k).any (fun z => decide (z < x)) = r) ∧ Drawn W wr) (fun kv _ => n - (intOf kv).toNat)
    case atStart => exact ⟨j + 1, by omega, by go_num, HR, HD0.out⟩
    case round =>
      obtain ⟨k, hk, rfl, HC, HD⟩ := hrel
      clear HR HD0
      by_cases hlt : k < n
      · have hck : wr.cell? ⟨b, o + k, none⟩ = some (.int .i64 (zs.getD k 0)) := (HD.cell _).trans (HA.out k (by have := HL.out; omega))
        have hci2 : wr.cell? ⟨b, o + i, none⟩ = some (.int .i64 x) := (HD.cell _).trans HX.out.2
        obtain ⟨z, hz⟩ : ∃ z, zs.getD k 0 = z := ⟨_, rfl⟩
        have hst := any_step (x := x) (by have := HL.out; omega) hz
        rw [HC.out] at hst
        rw [hz] at hck
        have hlti : (k : Int) < (n : Int) := by omega
        clear hz hci hcj
        by_cases hzx : z < x
        · have HF : Hid (r = true) := Go.Lib.hid (by rw [hst, decide_eq_true hzx]; rfl)
          clear hst
          go_wp2
          go_quiet (fail)
          go_wp2
          go_ret
          rw [HF.out]
          exact ⟨rfl, HD.next _⟩
        · have HN : Hid ((zs.drop (k + 1)).any (fun z => decide (z < x)) = r) := Go.Lib.hid (by rw [hst, decide_eq_false hzx]; rfl)
          clear hst
          go_wp2
          go_quiet (fail)
          go_wp2
          go_roundw
          case rel => exact ⟨k + 1, by omega, by go_num, HN, HD.next _⟩
          case measure => simp [intOf]; omega
      · have hkn : k = n := by omega
        have HF : Hid (r = false) := Go.Lib.hid (by
          have h1 := HC.out
          rw [List.drop_of_length_le (by have := HL.out; omega)] at h1
          rw [← h1]; rfl)
        have hlti : ¬ (k : Int) < (n : Int) := by omega
        clear hkn hci hcj
        go_wp2
        go_ret
        rw [HF.out]
        exact ⟨rfl, HD⟩

end Go.Proofs.Ytpkjnlabjmpokaa.ConfC

namespace Go.Proofs.Ytpkjnlabjmpokaa.FitsC
open Go.RowKit SeesC IntsC ExactC OrdMath BesM ConfC ListsC
set_option linter.unusedVariables false

set_option maxRecDepth 100000 in
set_option maxHeartbeats 4000000 in
theorem l7Fits_any (zs so : List Int) (r : Bool) (h : fitsB zs so = r) (W : World) (v : Value) (n : Nat) (hv : Sees W v n (vals zs)) (u : Value) (m : Nat) (hu : Sees W u m (vals so)) (hmn : m ≤ n) (hn : n ≤ 1048576) :
    Calls Try.prog 143 #[v, u] W fun e w' => e = .returned (.bool r) ∧ Drawn W w' := by
  have hln : zs.length = n := by simpa using hv.1
  have hlm : so.length = m := by simpa using hu.1
  have HV := Go.Lib.hid hv
  have HU := Go.Lib.hid hu
  have HL := Go.Lib.hid (And.intro hln (And.intro hlm h))
  obtain ⟨_, ad, cap, rfl, _, _⟩ := hv
  obtain ⟨_, ad', cap', rfl, _, _⟩ := hu
  clear hln hlm h
  go_enter Try.func143, Try.ntmps143
  go_wp2
  go_loopw [5] (fun jv wr => ∃ j : Nat, j ≤ m ∧ jv = .int .i64 (j : Int) ∧ Hid (∀ q, q < j → ∀ i, i < q → so.getD i 0 = so.getD q 0 → conf zs i q = false) ∧ Drawn W wr) (fun jv _ => m - (intOf jv).toNat)
  case atStart => exact ⟨0, Nat.zero_le _, rfl, Go.Lib.hid (fun q hq => by omega), Drawn.refl _⟩
  case round =>
    obtain ⟨j, hjm, rfl, HQ, HD⟩ := hrel
    have HDH := Go.Lib.hid HD
    by_cases hlt : j < m
    · obtain ⟨b, o, capx, e1, _, _, hbl, hcell⟩ := sees_cells HU.out (by omega)
      cases e1
      have HC := Go.Lib.hid hcell
      obtain ⟨y, hy⟩ : ∃ y, so.getD j 0 = y := ⟨_, rfl⟩
      have hcj := hcell j (by have := HL.out.2.1; omega)
      rw [hy] at hcj
      have HJ := Go.Lib.hid (And.intro hy hcj)
      have hji : (j : Int) < (m : Int) := by omega
      clear hcell hy hcj HD
      obtain ⟨wo, rfl⟩ : ∃ wo, wo = wr := ⟨_, rfl⟩
      go_wp2
      go_loopw [6] (fun iv wr => ∃ i : Nat, i ≤ j ∧ iv = .int .i64 (i : Int) ∧ Hid (∀ q, q < i → so.getD q 0 = y → conf zs q j = false) ∧ Drawn W wr) (fun iv _ => j - (intOf iv).toNat)
      case atStart => exact ⟨0, Nat.zero_le _, rfl, Go.Lib.hid (fun q hq => by omega), HDH.out⟩
      case round =>
        obtain ⟨i, hij, rfl, HI, HD⟩ := hrel
        have HDI := Go.Lib.hid HD
        by_cases hlti : i < j
        · obtain ⟨x, hx⟩ : ∃ x, so.getD i 0 = x := ⟨_, rfl⟩
          have hci : wr.cell? ⟨b, o + i, none⟩ = some (.int .i64 x) := by rw [← hx]; exact (HD.cell _).trans (HC.out i (by have := HL.out.2.1; omega))
          have hcj : wr.cell? ⟨b, o + j, none⟩ = some (.int .i64 y) := (HD.cell _).trans HJ.out.2
          obtain ⟨c, hc⟩ : ∃ c, conf zs i j = c := ⟨_, rfl⟩
          have CC := Go.Lib.hid (fun X (hX : Drawn W X) => l7Conflict_any zs i j c hc X (.slice ad n cap) n (hX.sees HV.out) (by omega) (by omega) hn)
          have HX := Go.Lib.hid (And.intro hx hc)
          have hijl : (i : Int) < (j : Int) := by omega
          clear hx hc HD
          by_cases hxy : x = y
          · subst hxy
            cases c with
            | true =>
              have HF : Hid (r = false) := Go.Lib.hid (by
                rw [← HL.out.2.2]
                unfold fitsB
                refine decide_eq_false (fun h1 => ?_)
                have h2 := h1 j (by have := HL.out.2.1; omega) i hlti (by rw [HX.out.1, HJ.out.1])
                rw [HX.out.2] at h2
                cases h2)
              go_wp2
              go_quiet ((go_at_call 129; exact quiet_drawn (CC.out _ (HDI.out.next _))))
              go_wp2
              go_ret
              rw [HF.out]
              exact ⟨rfl, HDI.out.next _⟩
            | false =>
              have HN : Hid (∀ q, q < i + 1 → so.getD q 0 = x → conf zs q j = false) := Go.Lib.hid (fun q hq he => by
                by_cases h1 : q = i
                · rw [h1]; exact HX.out.2
                · exact HI.out q (by omega) he)
              go_wp2
              go_quiet ((go_at_call 129; exact quiet_drawn (CC.out _ (HDI.out.next _))))
              go_wp2
              go_roundw
              case rel => exact ⟨i + 1, by omega, by go_num, HN, HDI.out.next _⟩
              case measure => simp [intOf]; omega
          · have e1 : (x == y) = false := by rw [beq_eq_false_iff_ne]; exact hxy
            have HN : Hid (∀ q, q < i + 1 → so.getD q 0 = y → conf zs q j = false) := Go.Lib.hid (fun q hq he => by
                by_cases h1 : q = i
                · subst h1; exact absurd (HX.out.1.symm.trans he) hxy
                · exact HI.out q (by omega) he)
            clear hxy
            go_wp2
            go_quiet ((go_at_call 129; exact quiet_drawn (CC.out _ (HDI.out.next _))))
            go_wp2
            go_roundw
            case rel => exact ⟨i + 1, by omega, by go_num, HN, HDI.out.next _⟩
            case measure => simp [intOf]; omega
        · have hij2 : i = j := by omega
          subst hij2
          have HN : Hid (∀ q, q < i + 1 → ∀ p, p < q → so.getD p 0 = so.getD q 0 → conf zs p q = false) := Go.Lib.hid (fun q hq p hp he => by
            by_cases h1 : q = i
            · subst h1; exact HI.out p hp (by rw [he, HJ.out.1])
            · exact HQ.out q (by omega) p hp he)
          go_wp2
          go_roundw
          case rel => exact ⟨i + 1, by omega, by go_num, HN, HDI.out⟩
          case measure => simp [intOf]; omega
    · have hjm2 : j = m := by omega
      have HF : Hid (r = true) := Go.Lib.hid (by
        rw [← HL.out.2.2]
        unfold fitsB
        refine decide_eq_true (fun q hq => HQ.out q (by have := HL.out.2.1; omega))) 
      have hji : ¬ (j : Int) < (m : Int) := by omega
      clear hjm2
      go_wp2
      go_ret
      rw [HF.out]
      exact ⟨rfl, HDH.out⟩

end Go.Proofs.Ytpkjnlabjmpokaa.FitsC

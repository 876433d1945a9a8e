/-
  Contract: the model tells whether the places of a sharing fit. Conditions: no more places than the list has numbers, at most 2^20.
-/
import Derived.Test.YtekihdnkkeggjaaConf
import Derived.Test.YtekihdnkkeggjaaLists
namespace Go.Proofs.Ytekihdnkkeggjaa.FitsC
open Go.RowKit SeesC IntsC ExactC OrdMath BesM ConfC ListsC
set_option linter.unusedVariables false

set_option maxRecDepth 100000 in
set_option maxHeartbeats 4000000 in
theorem l7Fits_any (zs so : List Int) (r : Bool) (h : fitsB zs so = r) (W : World) (v : Value) (n : Nat) (hv : Sees W v n (vals zs)) (u : Value) (m : Nat) (hu : Sees W u m (vals so)) (hmn : m ≤ n) (hn : n ≤ 1048576) :
    Calls Try.prog 61 #[v, u] W fun e w' => e = .returned (.bool r) ∧ Drawn W w' := by
  have hln : zs.length = n := by simpa using hv.1
  have hlm : so.length = m := by simpa using hu.1
  have HV := Go.Lib.hid hv
  have HU := Go.Lib.hid hu
  have HL := Go.Lib.hid (And.intro hln (And.intro hlm h))
  obtain ⟨_, ad, cap, rfl, _, _⟩ := hv
  obtain ⟨_, ad', cap', rfl, _, _⟩ := hu
  clear hln hlm h
  go_enter Try.func61, Try.ntmps61
  go_wp2
  go_loopw [5] (fun jv wr => ∃ j : Nat, j ≤ m ∧ jv = .int .i64 (j : Int) ∧ Hid (∀ q, q < j → ∀ i, i < q → so.getD i 0 = so.getD q 0 → conf zs i q = false) ∧ Drawn W wr) (fun jv _ => m - (intOf jv).toNat)
  case atStart => exact ⟨0, Nat.zero_le _, rfl, Go.Lib.hid (fun q hq => by omega), Drawn.refl _⟩
  case round =>
    obtain ⟨j, hjm, rfl, HQ, HD⟩ := hrel
    have HDH := Go.Lib.hid HD
    by_cases hlt : j < m
    · obtain ⟨b, o, capx, e1, _, _, hbl, hcell⟩ := sees_cells HU.out (by omega)
      cases e1
      have HC := Go.Lib.hid hcell
      obtain ⟨y, hy⟩ : ∃ y, so.getD j 0 = y := ⟨_, rfl⟩
      have hcj := hcell j (by have := HL.out.2.1; omega)
      rw [hy] at hcj
      have HJ := Go.Lib.hid (And.intro hy hcj)
      have hji : (j : Int) < (m : Int) := by omega
      clear hcell hy hcj HD
      obtain ⟨wo, rfl⟩ : ∃ wo, wo = wr := ⟨_, rfl⟩
      go_wp2
      go_loopw [6] (fun iv wr => ∃ i : Nat, i ≤ j ∧ iv = .int .i64 (i : Int) ∧ Hid (∀ q, q < i → so.getD q 0 = y → conf zs q j = false) ∧ Drawn W wr) (fun iv _ => j - (intOf iv).toNat)
      case atStart => exact ⟨0, Nat.zero_le _, rfl, Go.Lib.hid (fun q hq => by omega), HDH.out⟩
      case round =>
        obtain ⟨i, hij, rfl, HI, HD⟩ := hrel
        have HDI := Go.Lib.hid HD
        by_cases hlti : i < j
        · obtain ⟨x, hx⟩ : ∃ x, so.getD i 0 = x := ⟨_, rfl⟩
          have hci : wr.cell? ⟨b, o + i, none⟩ = some (.int .i64 x) := by rw [← hx]; exact (HD.cell _).trans (HC.out i (by have := HL.out.2.1; omega))
          have hcj : wr.cell? ⟨b, o + j, none⟩ = some (.int .i64 y) := (HD.cell _).trans HJ.out.2
          obtain ⟨c, hc⟩ : ∃ c, conf zs i j = c := ⟨_, rfl⟩
          have CC := Go.Lib.hid (fun X (hX : Drawn W X) => l7Conflict_any zs i j c hc X (.slice ad n cap) n (hX.sees HV.out) (by omega) (by omega) hn)
          have HX := Go.Lib.hid (And.intro hx hc)
          have hijl : (i : Int) < (j : Int) := by omega
          clear hx hc HD
          by_cases hxy : x = y
          · subst hxy
            cases c with
            | true =>
              have HF : Hid (r = false) := Go.Lib.hid (by
                rw [← HL.out.2.2]
                unfold fitsB
                refine decide_eq_false (fun h1 => ?_)
                have h2 := h1 j (by have := HL.out.2.1; omega) i hlti (by rw [HX.out.1, HJ.out.1])
                rw [HX.out.2] at h2
                cases h2)
              go_wp2
              go_quiet ((go_at_call 89; exact quiet_drawn (CC.out _ (HDI.out.next _))))
              go_wp2
              go_ret
              rw [HF.out]
              exact ⟨rfl, HDI.out.next _⟩
            | false =>
              have HN : Hid (∀ q, q < i + 1 → so.getD q 0 = x → conf zs q j = false) := Go.Lib.hid (fun q hq he => by
                by_cases h1 : q = i
                · rw [h1]; exact HX.out.2
                · exact HI.out q (by omega) he)
              go_wp2
              go_quiet ((go_at_call 89; exact quiet_drawn (CC.out _ (HDI.out.next _))))
              go_wp2
              go_roundw
              case rel => exact ⟨i + 1, by omega, by go_num, HN, HDI.out.next _⟩
              case measure => simp [intOf]; omega
          · have e1 : (x == y) = false := by rw [beq_eq_false_iff_ne]; exact hxy
            have HN : Hid (∀ q, q < i + 1 → so.getD q 0 = y → conf zs q j = false) := Go.Lib.hid (fun q hq he => by
                by_cases h1 : q = i
                · subst h1; exact absurd (HX.out.1.symm.trans he) hxy
                · exact HI.out q (by omega) he)
            clear hxy
            go_wp2
            go_quiet ((go_at_call 89; exact quiet_drawn (CC.out _ (HDI.out.next _))))
            go_wp2
            go_roundw
            case rel => exact ⟨i + 1, by omega, by go_num, HN, HDI.out.next _⟩
            case measure => simp [intOf]; omega
        · have hij2 : i = j := by omega
          subst hij2
          have HN : Hid (∀ q, q < i + 1 → ∀ p, p < q → so.getD p 0 = so.getD q 0 → conf zs p q = false) := Go.Lib.hid (fun q hq p hp he => by
            by_cases h1 : q = i
            · subst h1; exact HI.out p hp (by rw [he, HJ.out.1])
            · exact HQ.out q (by omega) p hp he)
          go_wp2
          go_roundw
          case rel => exact ⟨i + 1, by omega, by go_num, HN, HDI.out⟩
          case measure => simp [intOf]; omega
    · have hjm2 : j = m := by omega
      have HF : Hid (r = true) := Go.Lib.hid (by
        rw [← HL.out.2.2]
        unfold fitsB
        refine decide_eq_true (fun q hq => HQ.out q (by have := HL.out.2.1; omega))) 
      have hji : ¬ (j : Int) < (m : Int) := by omega
      clear hjm2
      go_wp2
      go_ret
      rw [HF.out]
      exact ⟨rfl, HDH.out⟩

end Go.Proofs.Ytekihdnkkeggjaa.FitsC

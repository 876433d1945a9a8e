/-
  The answers that FnEnds compares, and what holds of them. Conditions: none. Plain facts.
-/
import Derived.Test.YteiocoahllnoeaaDoorEFacts2
import Derived.Test.YteiocoahllnoeaaDoorEBot
namespace Go.Proofs.YteiocoahllnoeaaDoor.EFacts3
open NumC OrdMath WordMath EndM ERunM EPlC EStkC EToC EBotC ToC WordFacts RunC EFacts EFacts2
set_option linter.unusedVariables false

theorem runE_mem {zs : List Int} {w : ByteArray} (hl : w.size = 2 * zs.length) (hw : EWord w) : ∀ k, k ≤ w.size → ((runE zs w k).1 ++ (runE zs w k).2.1).Perm (zs.take (runE zs w k).2.2)
  | 0, _ => List.Perm.refl _
  | k + 1, hk => by
    have ih := runE_mem (zs := zs) hl hw k (by omega)
    obtain ⟨d, hd, h2, h3, hc⟩ := EWord.at hw (k := k) (by omega)
    have hlen := runE_len (zs := zs) k d hd
    obtain ⟨o, s, x, hr⟩ : ∃ o s x, runE zs w k = (o, s, x) := ⟨_, _, _, rfl⟩
    rw [hr] at hlen ih
    simp only at hlen
    have ih' : (o ++ s).Perm (zs.take x) := ih
    rcases hc with ⟨hI, hI2, _⟩ | ⟨hT, h0, _⟩ | ⟨hB, h0, _⟩
    · rw [runE_I hr hI]
      have hlen2 := runE_len (zs := zs) (k + 1) (d + 1) hI2
      have hfin := outE_len (zs := zs) hw
      have hx : x < zs.length := by omega
      have e : zs.getD x 0 = zs[x] := by simp [hx]
      show (o ++ (s ++ [zs.getD x 0])).Perm (zs.take (x + 1))
      rw [List.take_succ_eq_append_getElem hx, e, ← List.append_assoc]
      exact ih'.append_right _
    · rw [runE_T hr hT]
      obtain ⟨a, p, hap, hlast, hdrop⟩ := split_last (l := s) (by omega)
      show ((o ++ [s.getLast?.getD 0]) ++ s.dropLast).Perm (zs.take x)
      rw [hlast, hdrop]
      rw [hap] at ih'
      refine List.Perm.trans ?_ ih'
      rw [List.append_assoc]
      exact List.Perm.append_left o (List.perm_append_comm (l₁ := [p]) (l₂ := a))
    · rw [runE_B hr hB]
      cases s with
      | nil => exact absurd hlen.1 (by simp; omega)
      | cons a t =>
        show ((o ++ [a]) ++ t).Perm (zs.take x)
        rw [List.append_assoc]
        exact ih'

theorem ord_outE {zs : List Int} {w : ByteArray} (ho : Ord zs) (hl : w.size = 2 * zs.length) (hw : EWord w) : Ord (outE zs w) := by
  have h := runE_mem (zs := zs) hl hw w.size (Nat.le_refl _)
  have hrl := runE_len (zs := zs) w.size 0 hw.2.2
  have hs : (runE zs w w.size).2.1 = [] := List.eq_nil_of_length_eq_zero hrl.1
  rw [hs, List.append_nil, List.take_of_length_le (by omega)] at h
  have hlen : (outE zs w).length = zs.length := h.length_eq
  refine ⟨by rw [hlen]; exact ho.1, by rw [hlen]; exact ho.2.1, fun z hz => by rw [hlen]; exact ho.2.2.1 z (h.mem_iff.1 hz), (h.nodup_iff).2 ho.2.2.2⟩

theorem fe_run (zs : List Int) (wo : ByteArray) (hz : zs.length ≤ 8) : ∃ out ok, runEAns zs wo = (out, ok) ∧ out.length ≤ 1048576 ∧ (ok = true → ∃ own p, endsAns zs out = (own, true) ∧ plAns wo = (p, true) ∧ runEAns zs p = (out, true) ∧ own.size = wo.size ∧ p.size ≤ 1048576) := by
  obtain ⟨out, ok, h⟩ : ∃ out ok, runEAns zs wo = (out, ok) := ⟨_, _, rfl⟩
  refine ⟨out, ok, h, runEAns_len h, fun hok => ?_⟩
  subst hok
  unfold runEAns at h
  split at h
  · rename_i hc
    obtain ⟨ho, hw, hl⟩ := hc
    obtain ⟨h1, _⟩ := Prod.mk.inj h
    subst h1
    have h2 := ord_outE ho hl hw
    have h3 := outE_len (zs := zs) hw
    obtain ⟨l, h4⟩ := ends_found ho.2.2.2 hw hl
    have h5 := ends_to ho (by omega) h4
    refine ⟨txt l, plB wo, ?_, ?_, ?_, by omega, by rw [plB_size]; have := hw.2.1; omega⟩
    · unfold endsAns
      rw [if_pos ⟨ho, h2, by omega⟩, h4]
      rfl
    · unfold plAns
      rw [if_pos (by unfold isEW; exact decide_eq_true hw)]
      rfl
    · unfold runEAns
      rw [if_pos ⟨ho, plain_word hw, by rw [plB_size]; exact hl⟩, plain_out hw]
  · obtain ⟨_, h1⟩ := Prod.mk.inj h
    cases h1

theorem fe_word (x : ByteArray) (hx : x.size ≤ 60) : ∃ pl one dp st, plAns x = (pl, one) ∧ isEW x = one ∧ edAns x = (dp, one) ∧ stkAns x = (st, one) ∧ pl.size ≤ 60 ∧ st.size ≤ 60 ∧ (one = true → depthAns st = (dp, true) ∧ plAns pl = (pl, true)) := by
  by_cases h : isEW x = true
  · have hw : EWord x := of_decide_eq_true h
    have hs := (eword_iff x).1 hw
    refine ⟨plB x, true, (depthTo (stkB x) (stkB x).size : Nat), stkB x, by unfold plAns; rw [if_pos h]; rfl, h, by unfold edAns; rw [if_pos h], by unfold stkAns; rw [if_pos h], by rw [plB_size]; exact hx, by rw [stkB_size]; exact hx, fun _ => ⟨?_, ?_⟩⟩
    · unfold depthAns
      rw [if_pos hs.2]
    · unfold plAns
      rw [if_pos (by unfold isEW; exact decide_eq_true (plain_word hw))]
      have := plain_again hw
      unfold plB at this ⊢
      rw [this]
  · have hf : isEW x = false := by simpa using h
    refine ⟨ByteArray.empty, false, 0, ByteArray.empty, by unfold plAns; rw [if_neg h], hf, by unfold edAns; rw [if_neg h], by unfold stkAns; rw [if_neg h], by decide, by decide, fun e => by cases e⟩

theorem fe_to (xa xb : List Int) : ∃ tw four bo t6 six, endsAns xa xb = (tw, four) ∧ botAns xa xb = (bo, four) ∧ toAns xa xb = (t6, six) ∧ tw.size ≤ 14 ∧ (six = true → four = true) ∧ (four = true → runEAns xa tw = (xb, true) ∧ plAns tw = (tw, true) ∧ six = (bo == 0)) := by
  by_cases h : Ord xa ∧ Ord xb ∧ xa.length = xb.length
  · obtain ⟨ho, hb, hlen⟩ := h
    have hte := to_ends (zs := xa) (ts := xb) ho.2.2.2
    have e1 : endsAns xa xb = optAns (eRes xa xb) := by unfold endsAns; rw [if_pos ⟨ho, hb, hlen⟩]
    have e2 : toAns xa xb = optAns (toRes xa xb) := by unfold toAns; rw [if_pos ⟨ho, hb, hlen⟩]
    have e3 : botAns xa xb = ((((endsAns xa xb).1.data.toList.count 66 : Nat) : Int), (endsAns xa xb).2) := rfl
    cases h4 : eRes xa xb with
    | none =>
      rw [h4] at e1
      have h5 : toRes xa xb = none := by
        cases h6 : toRes xa xb with
        | none => rfl
        | some l => obtain ⟨k, h7, _⟩ := hte.1 l h6; rw [h4] at h7; cases h7
      rw [h5] at e2
      exact ⟨_, _, _, _, _, e1, by rw [e3, e1]; rfl, e2, by decide, fun e => e, fun e => by cases e⟩
    | some l =>
      rw [h4] at e1
      have h5 := ends_to ho hlen h4
      have hsz : (txt l).size ≤ 14 := h5.1.2.1
      have hcount : (txt l).data.toList.count 66 = 0 ↔ (66 : UInt8) ∉ l := by rw [txt_list]; exact List.count_eq_zero
      cases h6 : toRes xa xb with
      | none =>
        rw [h6] at e2
        refine ⟨_, _, _, _, _, e1, by rw [e3, e1]; rfl, e2, hsz, fun e => (by cases e), fun _ => ⟨?_, ?_, ?_⟩⟩
        · unfold runEAns
          rw [if_pos ⟨ho, h5.1, h5.2.1⟩, h5.2.2.1]
        · unfold plAns
          rw [if_pos (by unfold isEW; exact decide_eq_true h5.1)]
          have := plain_same h5.2.2.2 h5.1
          unfold plB at this
          rw [this]
        · have hm : (66 : UInt8) ∈ l := by
            by_cases hm : (66 : UInt8) ∈ l
            · exact hm
            · obtain ⟨k, h7⟩ := hte.2 l h4 hm; rw [h6] at h7; cases h7
          have hc : (txt l).data.toList.count 66 ≠ 0 := fun e => hcount.1 e hm
          symm
          rw [beq_eq_false_iff_ne]
          intro e
          exact hc (by simpa [optAns] using e)
      | some l2 =>
        rw [h6] at e2
        refine ⟨_, _, _, _, _, e1, by rw [e3, e1]; rfl, e2, hsz, fun e => rfl, fun _ => ⟨?_, ?_, ?_⟩⟩
        · unfold runEAns
          rw [if_pos ⟨ho, h5.1, h5.2.1⟩, h5.2.2.1]
        · unfold plAns
          rw [if_pos (by unfold isEW; exact decide_eq_true h5.1)]
          have := plain_same h5.2.2.2 h5.1
          unfold plB at this
          rw [this]
        · obtain ⟨k, h7, h8⟩ := hte.1 l2 h6
          rw [h4] at h7
          cases h7
          have hc := hcount.2 h8
          symm
          rw [beq_iff_eq]
          show (((txt l).data.toList.count 66 : Nat) : Int) = 0
          rw [hc]
          rfl
  · have e1 : endsAns xa xb = (ByteArray.empty, false) := by unfold endsAns; rw [if_neg h]
    have e2 : toAns xa xb = (ByteArray.empty, false) := by unfold toAns; rw [if_neg h]
    exact ⟨_, _, _, _, _, e1, by unfold botAns; rw [e1], e2, by decide, fun e => e, fun e => by cases e⟩

end Go.Proofs.YteiocoahllnoeaaDoor.EFacts3

/-
  Contract: the model splits a text at a byte into memory of the call's own. Conditions: the text has at most 2^20 bytes.
-/
import Derived.Test.YtjebehekhjbijaaDoorSees
import Derived.Test.YtjebehekhjbijaaDoorSplitMath
import Derived.Lib.Hide
import Derived.LoopTactic
import Derived.OwnWalk
import Derived.Maps.AppendAt
import Derived.RangeFuncBox
import Derived.Outline
namespace Go.Proofs.YtjebehekhjbijaaDoor.SplitC
open Go.RowKit SeesC SplitMath

theorem infoS : (Tryd.prog.info? 9).map (fun i => (i.zero, i.size, i.bytes)) = some (some (.string ByteArray.empty), 1, 16) := by kernel_rfl

/-- A list of texts lies in memory of the call's own. -/
def Made (w : World) (e : Ending) (w' : World) (xs : List ByteArray) : Prop :=
  ∃ g cap, e = .returned (.slice (some ⟨g, 0, none⟩) xs.length cap) ∧ w.heap.size ≤ g ∧ w'.ownsRow w.heap.size 9 1 (.slice (some ⟨g, 0, none⟩) xs.length cap) xs.length (xs.map Value.string) ∧ Below w.heap.size w w'

set_option maxHeartbeats 1000000 in
theorem l1Split_any (s : ByteArray) (c : UInt8) (w : World) (hs : s.size ≤ 1048576) :
    Calls Tryd.prog 36 #[.string s, .int .u8 (c.toNat : Int)] w fun e w' => Made w e w' (split s c) := by
  obtain ⟨i0, hi, hz0, hz1, hz2⟩ := info_parts infoS
  go_enter Tryd.func36, Tryd.ntmps36
  go_wp2
  go_loopw [5, 6, 7] (fun ov fv iv wr => ∃ (k f : Nat) (ps : List ByteArray) (g cap : Nat), k ≤ s.size ∧ f ≤ k ∧ ps.length ≤ k ∧ iv = .int .i64 k ∧ fv = .int .i64 f ∧ ov = .slice (some ⟨g, 0, none⟩) ps.length cap ∧ w.heap.size ≤ g ∧ wr.ownsRow w.heap.size 9 1 (.slice (some ⟨g, 0, none⟩) ps.length cap) ps.length (ps.map Value.string) ∧ Below w.heap.size w wr ∧ Hid (partsTo s c k = (ps, f))) (fun _ _ i _ => s.size - (intOf i).toNat)
  case atStart => exact ⟨0, 0, [], w.heap.size, 0, Nat.zero_le _, Nat.le_refl _, Nat.le_refl _, rfl, rfl, rfl, Nat.le_refl _, World.ownsRow_made _ _ _ (Nat.le_refl _) (by unfold maxLen; omega) rfl, (Below.refl _ _).alloc (Nat.le_refl _) _, Go.Lib.hid rfl⟩
  case round =>
    obtain ⟨k, f, ps, g, cap, hk, hf, hpl, rfl, rfl, rfl, hg, hown, hb, HP⟩ := hrel
    by_cases hlt : k < s.size
    · by_cases he : s[k] = c
      · have HP2 : Hid (partsTo s c (k + 1) = (ps ++ [s.extract f k], k + 1)) := Go.Lib.hid (by rw [parts_hit hlt he, HP.out])
        subst he
        go_wp2_with (at_builtin; refine wpList_append_own _ rfl _ _ 44 rfl w.heap.size 9 i0 (.string ByteArray.empty) 1 16 Tryd.underlying44 hi hz0 hz1 hz2 rfl (by decide) _ _ _ rfl (hown.alloc _) ⟨wr.heap.size, 0, none⟩ 1 1 [.string (s.extract f k)] rfl rfl (cell_one_new _ _ _) (fun x hx => by simp at hx; subst hx; rfl) (by unfold maxLen; omega) (by omega) (by have := hb.size; simp; omega) ?_; intro v' w3 hown' hgrow3 hnil3)
        obtain ⟨g', cap', rfl⟩ := ownsRow_succ hown'
        have e1 : (ps ++ [s.extract f k]).length = ps.length + 1 := by simp
        have e2 : (ps ++ [s.extract f k]).map Value.string = ps.map Value.string ++ [.string (s.extract f k)] := by simp
        have hg' : w.heap.size ≤ g' := (hown'.lt g' rfl).1
        have hb' : Below w.heap.size w w3 := (hb.alloc hb.size _).grown hgrow3 (by have := hb.size; simp; omega) (fun q hq => (hown.lt q hq).1)
        have H3 := Go.Lib.hid (And.intro (e1.symm ▸ e2.symm ▸ hown') (And.intro hg' hb'))
        clear hown' hgrow3 hnil3 hown hb e1 e2
        go_wp2
        go_roundw
        case rel => exact ⟨k + 1, k + 1, ps ++ [s.extract f k], g', cap', by omega, by omega, by simp; omega, by go_num, by go_num, by simp, H3.out.2.1, H3.out.1, H3.out.2.2, HP2⟩
        case measure => simp [intOf]; omega
      · have HP2 : Hid (partsTo s c (k + 1) = (ps, f)) := Go.Lib.hid (by rw [parts_miss hlt he, HP.out])
        have hne : ((s[k].toNat : Int) == (c.toNat : Int)) = false := by
          rw [beq_eq_false_iff_ne]; intro e; exact he (UInt8.toNat_inj.1 (by omega))
        have H3 := Go.Lib.hid (And.intro hown hb)
        clear he hown hb
        go_wp2
        go_roundw
        case rel => exact ⟨k + 1, f, ps, g, cap, by omega, by omega, by omega, by go_num, rfl, rfl, hg, H3.out.1, H3.out.2, HP2⟩
        case measure => simp [intOf]; omega
    · have hkn : k = s.size := by omega
      have HS : Hid (split s c = ps ++ [s.extract f s.size]) := Go.Lib.hid (by unfold split; rw [← hkn, HP.out, hkn])
      go_wp2_with (at_builtin; refine wpList_append_own _ rfl _ _ 44 rfl w.heap.size 9 i0 (.string ByteArray.empty) 1 16 Tryd.underlying44 hi hz0 hz1 hz2 rfl (by decide) _ _ _ rfl (hown.alloc _) ⟨wr.heap.size, 0, none⟩ 1 1 [.string (s.extract f s.size)] rfl rfl (cell_one_new _ _ _) (fun x hx => by simp at hx; subst hx; rfl) (by unfold maxLen; omega) (by omega) (by have := hb.size; simp; omega) ?_; intro v' w3 hown' hgrow3 hnil3)
      obtain ⟨g', cap', rfl⟩ := ownsRow_succ hown'
      have e1 : (ps ++ [s.extract f s.size]).length = ps.length + 1 := by simp
      have e2 : (ps ++ [s.extract f s.size]).map Value.string = ps.map Value.string ++ [.string (s.extract f s.size)] := by simp
      have hg' : w.heap.size ≤ g' := (hown'.lt g' rfl).1
      have hb' : Below w.heap.size w w3 := (hb.alloc hb.size _).grown hgrow3 (by have := hb.size; simp; omega) (fun q hq => (hown.lt q hq).1)
      have H3 := Go.Lib.hid (And.intro (e1.symm ▸ e2.symm ▸ hown') (And.intro hg' hb'))
      clear hown' hgrow3 hnil3 hown hb e1 e2
      go_wp2
      go_ret
      rw [HS.out]
      exact ⟨g', cap', by simp, H3.out.2.1, H3.out.1, H3.out.2.2⟩

end Go.Proofs.YtjebehekhjbijaaDoor.SplitC

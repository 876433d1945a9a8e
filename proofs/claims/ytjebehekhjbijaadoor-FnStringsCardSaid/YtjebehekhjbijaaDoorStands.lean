/-
  Contract: the model's search for a byte in a text tells whether it is there. Conditions: the text is no longer than any text can be.
-/
import Derived.Test.YtjebehekhjbijaaDoorSees
import Derived.Test.YtjebehekhjbijaaDoorJoinMath
import Derived.Lib.Hide
import Derived.LoopTactic
namespace Go.Proofs.YtjebehekhjbijaaDoor.StandsC
open Go.RowKit SeesC JoinMath

theorem has_take (s : ByteArray) (c : UInt8) (k : Nat) (h : k < s.size) : (s.data.toList.take (k + 1)).contains c = ((s.data.toList.take k).contains c || (s[k] == c)) := by
  have e : s.data.toList.take (k + 1) = s.data.toList.take k ++ [s[k]] := by
    rw [List.take_succ_eq_append_getElem (by simpa using h)]; rfl
  rw [e, Bool.eq_iff_iff]
  simp only [List.contains_eq_mem, decide_eq_true_eq, List.mem_append, List.mem_singleton, Bool.or_eq_true, beq_iff_eq]
  exact or_congr Iff.rfl eq_comm

theorem l1Stands_of (s : ByteArray) (c : UInt8) (b : Bool) (w : World) (hs : s.size ≤ maxLen) (h : hasB s c = b) :
    Calls Tryd.prog 33 #[.string s, .int .u8 (c.toNat : Int)] w fun e w' => e = .returned (.bool b) ∧ w = w' := by
  unfold maxLen at hs
  have HH := Go.Lib.hid h
  clear h
  go_enter Tryd.func33, Tryd.ntmps33
  go_wp2
  go_loop [5] (fun i => ∃ k : Nat, k ≤ s.size ∧ i = .int .i64 k ∧ Hid ((s.data.toList.take k).contains c = false)) (fun i => s.size - (intOf i).toNat)
  case atStart => exact ⟨0, Nat.zero_le _, rfl, Go.Lib.hid (by simp)⟩
  case round =>
    obtain ⟨k, hk, rfl, hno⟩ := hrel
    by_cases hlt : k < s.size
    · by_cases he : s[k] = c
      · have hb : Hid (b = true) := Go.Lib.hid (by
          rw [← HH.out]; unfold hasB; rw [List.contains_eq_mem, decide_eq_true_eq, ← he]
          exact (by simp : s.data[k] ∈ s.data.toList))
        subst he
        go_wp2
        go_ret
        exact ⟨by rw [hb.out]; rfl, rfl⟩
      · have hne : ((s[k].toNat : Int) == (c.toNat : Int)) = false := by
          rw [beq_eq_false_iff_ne]; intro e; exact he (UInt8.toNat_inj.1 (by omega))
        have hn2 : Hid ((s.data.toList.take (k + 1)).contains c = false) := Go.Lib.hid (by rw [has_take s c k hlt, hno.out]; simpa using he)
        clear he
        go_wp2
        go_round
        case rel => exact ⟨k + 1, by omega, by go_num, hn2⟩
        case measure => simp [intOf]; omega
    · have hb : Hid (b = false) := Go.Lib.hid (by
        rw [← HH.out]; unfold hasB; have := hno.out; rwa [List.take_of_length_le (by simp; omega)] at this)
      go_wp2
      go_ret
      exact ⟨by rw [hb.out]; rfl, rfl⟩

end Go.Proofs.YtjebehekhjbijaaDoor.StandsC

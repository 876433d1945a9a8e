/-
  Contracts: StackWord, IsEndsWord, EndsDepth of the model and of the program. Conditions: texts of at most 2^20 bytes; of the program: unicode/utf8's tables lie.
-/
import Derived.Test.YtpkjnlabjmpokabDoorPx25
import Derived.Test.YtpkjnlabjmpokabDoorPx11
import Derived.Test.YtpkjnlabjmpokabDoorPx14

namespace Go.Proofs.YtpkjnlabjmpokabDoor.EStkC
open Go.Shelf Go.RowKit SeesC IntsC ExactC NumC IterC WordMath InC WordC RunC EndM EWdC EMapC LaidC

def stkAns (s : ByteArray) : ByteArray × Bool := if isEW s = true then (stkB s, true) else (ByteArray.empty, false)

set_option maxRecDepth 100000 in
set_option maxHeartbeats 1000000 in
/-- The program's mapping. -/
theorem map_pays (w : World) : MapAtRunes Tryd.prog 78 #[] mapR w := by
  intro W x hx _
  show Calls Tryd.prog 78 #[.int .i32 (x : Int)] W _
  unfold mapR
  by_cases hT : (x : Int) = 84
  · rw [if_pos (.inl hT)]
    have h1 : ((x : Int) == 84) = true := by rw [beq_iff_eq]; exact hT
    go_enter Tryd.func78, Tryd.ntmps78
    go_wp2
    go_ret
    exact ⟨rfl, 0, rfl⟩
  · have h1 : ((x : Int) == 84) = false := by rw [beq_eq_false_iff_ne]; exact hT
    by_cases hB : (x : Int) = 66
    · rw [if_pos (.inr hB)]
      have h2 : ((x : Int) == 66) = true := by rw [beq_iff_eq]; exact hB
      go_enter Tryd.func78, Tryd.ntmps78
      go_wp2
      go_ret
      exact ⟨rfl, 0, rfl⟩
    · have h2 : ((x : Int) == 66) = false := by rw [beq_eq_false_iff_ne]; exact hB
      rw [if_neg (by rintro (h | h); exact hT h; exact hB h)]
      go_enter Tryd.func78, Tryd.ntmps78
      go_wp2
      go_ret
      exact ⟨rfl, 0, rfl⟩

set_option maxRecDepth 100000 in
theorem isWord_long (s : ByteArray) (h : 14 < s.size) (W : World) :
    Calls Tryd.prog 79 #[.string s] W fun e w' => e = .returned (.bool false) ∧ Below W.heap.size W w' := by
  have CD : Hid (∀ X, Calls Tryd.prog 88 #[.string s] X fun e w' => e = .returned (.tuple #[.int .i64 0, .bool false]) ∧ w' = X) := Go.Lib.hid (by
    intro X
    have h0i : ((s.size : Int) == 0) = false := by rw [beq_eq_false_iff_ne]; omega
    have h14i : (14 : Int) < (s.size : Int) := by omega
    go_enter Tryd.func88, Tryd.ntmps88
    go_wp2
    go_ret2
    exact ⟨rfl, rfl⟩)
  clear h
  go_enter Tryd.func79, Tryd.ntmps79
  go_wp2_with fail
  refine (CD.out _).mono ?_
  rintro e w1 ⟨rfl, rfl⟩
  go_wp2_with fail
  go_ret
  exact ⟨rfl, Below.refl _ _⟩

theorem isWord_every (s : ByteArray) (b : Bool) (h : isWord s = b) (W : World) :
    Calls Tryd.prog 79 #[.string s] W fun e w' => e = .returned (.bool b) ∧ Below W.heap.size W w' := by
  by_cases hs : s.size ≤ 1048576
  · exact (implIsWord s b h hs W).mono fun _ _ h => ⟨h.1, h.2⟩
  · have : b = false := by rw [← h]; exact word_size (.inr (by omega))
    subst this
    exact isWord_long s (by omega) W

set_option maxRecDepth 100000 in
set_option maxHeartbeats 1000000 in
theorem implEStk (s : ByteArray) (r : ByteArray) (b : Bool) (h : stkAns s = (r, b)) (hs : s.size ≤ 1048576) (W : World) (hT : Tab W) :
    Calls Tryd.prog 68 #[.string s] W fun e w' => e = .returned (.tuple #[.string r, .bool b]) ∧ Below W.heap.size W w' := by
  unfold stkAns at h
  have CC := Go.Lib.hid (fun X => Tryd.strings_ContainsRune_ascii s 79 X (by omega) (by omega))
  by_cases h79 : (79 : UInt8) ∈ s.data.toList
  · rw [if_neg (by rw [ew_no h79]; simp)] at h
    cases h
    have e : decide (0 ≤ Go.Lib.indexByte s.data.toList (79 : Int).toNat.toUInt8) = true := by rw [decide_eq_true_iff]; exact (index_no _ _).2 h79
    rw [e] at CC
    clear e h79
    go_enter Tryd.func68, Tryd.ntmps68
    go_wp2_with fail
    refine (CC.out _).mono ?_
    rintro e w1 ⟨rfl, rfl⟩
    go_wp2_with fail
    go_ret2
    exact ⟨rfl, Below.refl _ _⟩
  · have e : decide (0 ≤ Go.Lib.indexByte s.data.toList (79 : Int).toNat.toUInt8) = false := by rw [decide_eq_false_iff_not]; exact fun h => h79 ((index_no _ _).1 h)
    rw [e] at CC
    obtain ⟨hw, hm⟩ := map_word h79
    obtain ⟨q, hq⟩ : ∃ q, isEW s = q := ⟨_, rfl⟩
    rw [hq] at hw hm h
    have CM := Go.Lib.hid (Tryd.strings_Map_runes 78 #[] (enters_of Tryd.func78 (by kernel_rfl) rfl) mapR s W (by omega) (map_pays W) (fun x hx => by unfold mapR; split <;> omega) hT)
    obtain ⟨M, hM⟩ : ∃ M, mapB s = M := ⟨_, rfl⟩
    have hM2 : (⟨(Go.Lib.mapD mapR s.data.toList).toArray⟩ : ByteArray) = M := hM
    rw [hM2] at CM
    rw [hM] at hw hm
    have CI := Go.Lib.hid (fun X => isWord_every M q hw X)
    have HR : Hid (q = true → r = M ∧ b = true) := Go.Lib.hid (by
      intro e
      subst e
      rw [if_pos rfl] at h
      obtain ⟨h1, h2⟩ := Prod.mk.inj h
      exact ⟨by rw [hm rfl, h1], h2.symm⟩)
    have HR2 : Hid (q = false → r = ByteArray.empty ∧ b = false) := Go.Lib.hid (by
      intro e
      subst e
      rw [if_neg (by simp)] at h
      obtain ⟨h1, h2⟩ := Prod.mk.inj h
      exact ⟨h1.symm, h2.symm⟩)
    clear e h79 hw hm hq h hM hM2 hT
    go_enter Tryd.func68, Tryd.ntmps68
    go_wp2_with fail
    refine (CC.out _).mono ?_
    rintro e w1 ⟨rfl, rfl⟩
    go_wp2_with fail
    refine (CM.out).mono ?_
    rintro e w2 ⟨rfl, hb2⟩
    have HB2 := Go.Lib.hid hb2
    clear hb2 CM
    go_wp2_with fail
    refine (CI.out _).mono ?_
    rintro e w3 ⟨rfl, hb3⟩
    have HB3 := Go.Lib.hid (HB2.out.trans (hb3.mono HB2.out.size))
    clear hb3 CI
    cases q with
    | false =>
      obtain ⟨rfl, rfl⟩ := HR2.out rfl
      go_wp2_with fail
      go_ret2
      exact ⟨rfl, HB3.out⟩
    | true =>
      obtain ⟨rfl, rfl⟩ := HR.out rfl
      go_wp2_with fail
      go_ret2
      exact ⟨rfl, HB3.out⟩

theorem stk_flag (s : ByteArray) : (stkAns s).2 = isEW s := by
  unfold stkAns
  cases h : isEW s <;> rfl

set_option maxRecDepth 100000 in
theorem implEIs (s : ByteArray) (b : Bool) (h : isEW s = b) (hs : s.size ≤ 1048576) (W : World) (hT : Tab W) :
    Calls Tryd.prog 46 #[.string s] W fun e w' => e = .returned (.bool b) ∧ Below W.heap.size W w' := by
  have CA := Go.Lib.hid (implEStk s (stkAns s).1 (stkAns s).2 rfl hs W hT)
  obtain ⟨x, hx⟩ : ∃ x, (stkAns s).1 = x := ⟨_, rfl⟩
  rw [hx, stk_flag, h] at CA
  clear h hx hT
  go_enter Tryd.func46, Tryd.ntmps46
  go_wp2_with fail
  refine CA.out.mono ?_
  rintro e w1 ⟨rfl, hb⟩
  have HB := Go.Lib.hid hb
  clear hb
  go_wp2_with fail
  go_ret
  exact ⟨rfl, HB.out⟩

def edAns (s : ByteArray) : Int × Bool := if isEW s = true then ((depthTo (stkB s) (stkB s).size : Nat), true) else (0, false)

end Go.Proofs.YtpkjnlabjmpokabDoor.EStkC

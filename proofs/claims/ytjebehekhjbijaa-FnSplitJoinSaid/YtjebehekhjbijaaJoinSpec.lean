/-
  Contract: the model's JoinStrings at a list that can be read. Conditions: the list has at most 2^20 texts of at most 2^20 bytes.
-/
import Derived.Test.YtjebehekhjbijaaStrs
import Derived.Test.YtjebehekhjbijaaStands
namespace Go.Proofs.Ytjebehekhjbijaa.JoinSpecC
open Go.RowKit SeesC StrsMath JoinMath StandsC

/-- What JoinStrings answers. -/
def joinRes (ss : List ByteArray) (sep : ByteArray) (c : UInt8) : Value :=
  if joinOk ss c = true then .tuple #[.string (joinB ss sep), .bool true] else .tuple #[.string ByteArray.empty, .bool false]

theorem joinRes_no {ss : List ByteArray} {sep : ByteArray} {c : UInt8} (h : joinOk ss c = false) : joinRes ss sep c = .tuple #[.string ByteArray.empty, .bool false] := by
  unfold joinRes; rw [if_neg (by rw [h]; simp)]

theorem joinRes_yes {ss : List ByteArray} {sep : ByteArray} {c : UInt8} (h : joinOk ss c = true) : joinRes ss sep c = .tuple #[.string (joinB ss sep), .bool true] := by
  unfold joinRes; rw [if_pos h]

theorem ret_tup2 {a b : Value} {t : Value} (h : t = .tuple #[a, b]) : Ending.returned (.tuple #[a, b]) = .returned t := by rw [h]

theorem joinB_next {ss : List ByteArray} {sep : ByteArray} {k : Nat} (hk : k < ss.length) (h0 : 0 < k) : joinB (ss.take k) sep ++ sep ++ ss[k] = joinB (ss.take (k + 1)) sep := by
  rw [List.take_succ_eq_append_getElem hk]
  cases ss with
  | nil => simp at hk
  | cons s ss =>
    cases k with
    | zero => omega
    | succ k =>
      rw [List.take_succ_cons]
      exact (joinB_snoc s _ _ sep).symm

theorem joinB_first {ss : List ByteArray} {sep : ByteArray} (hk : 0 < ss.length) : ss[0] = joinB (ss.take 1) sep := by
  cases ss with
  | nil => simp at hk
  | cons s ss => simp [joinB_one]

theorem specJoin_sep (w : World) (v : Value) (n : Nat) (xs : List Value) (sep : ByteArray) (hv : Sees w v n xs) (h : sep.size ≠ 1) :
    Calls Try.prog 13 #[v, .string sep] w fun e w' => e = .returned (.tuple #[.string ByteArray.empty, .bool false]) ∧ w = w' := by
  obtain ⟨hlen, a, cap, rfl, hcap, hc⟩ := hv
  have hne : ((sep.size : Int) == 1) = false := by rw [beq_eq_false_iff_ne]; omega
  clear hc
  go_enter Try.func13, Try.ntmps13
  go_wp2
  go_ret2
  exact ⟨rfl, rfl⟩

theorem specJoin_none (w : World) (a : Option Addr) (cap : Nat) (sep : ByteArray) (h : sep.size = 1) :
    Calls Try.prog 13 #[.slice a 0 cap, .string sep] w fun e w' => e = .returned (.tuple #[.string ByteArray.empty, .bool false]) ∧ w = w' := by
  go_enter Try.func13, Try.ntmps13
  go_wp2
  go_ret2
  exact ⟨rfl, rfl⟩

set_option maxHeartbeats 1000000 in
theorem specJoin_main (w : World) (v : Value) (n : Nat) (ss : List ByteArray) (sep : ByteArray) (hv : Sees w v n (ss.map Value.string)) (hs : ∀ s ∈ ss, s.size ≤ 1048576) (hn0 : 0 < n) (hn : n ≤ 1048576) (h : sep.size = 1) :
    Calls Try.prog 13 #[v, .string sep] w fun e w' => e = .returned (joinRes ss sep sep[0]) ∧ Drawn w w' := by
  obtain ⟨hlen, a, cap, rfl, hcap, hc⟩ := hv
  obtain ⟨b, o, rfl, hcell⟩ := hc hn0
  clear hc
  simp at hlen
  have hz : ((n : Int) == 0) = false := by rw [beq_eq_false_iff_ne]; omega
  go_enter Try.func13, Try.ntmps13
  go_wp2
  go_loopw [6, 7] (fun ov i wr => ∃ (k : Nat) (r : ByteArray), k ≤ n ∧ i = .int .i64 k ∧ ov = .string r ∧ r.size ≤ 4000 ∧ Hid (r = joinB (ss.take k) sep) ∧ Hid (∀ s ∈ ss.take k, hasB s sep[0] = false) ∧ Drawn w wr) (fun _ i _ => n - (intOf i).toNat)
  case atStart => exact ⟨0, ByteArray.empty, Nat.zero_le _, rfl, rfl, by decide, Go.Lib.hid rfl, Go.Lib.hid (by simp), Drawn.refl _⟩
  case round =>
    obtain ⟨k, r, hk, rfl, rfl, hr, HR, HN, HD⟩ := hrel
    by_cases hlt : k < n
    · have hk2 : k < ss.length := by omega
      have hck : wr.cell? ⟨b, o + k, none⟩ = some (.string ss[k]) := (HD.cell _).trans (hcell k (.string ss[k]) (by simp [hk2]))
      have hsk := hs ss[k] (List.getElem_mem hk2)
      have hskm : ss[k].size ≤ maxLen := by unfold maxLen; omega
      clear hcell hs
      by_cases hh : hasB ss[k] sep[0] = true
      · have HF : Hid (joinRes ss sep sep[0] = .tuple #[.string ByteArray.empty, .bool false]) := Go.Lib.hid (joinRes_no (joinOk_not_has hk2 hh))
        have cc := fun W => l1Stands_of ss[k] sep[0] true W hskm hh
        clear hh hskm
        go_wp2
        go_quiet ((go_at_call 33; exact quiet_same (cc _)))
        go_wp2
        go_ret2
        exact ⟨by rw [HF.out]; rfl, HD.next _⟩
      · have hh' : hasB ss[k] sep[0] = false := by simpa using hh
        have cc := fun W => l1Stands_of ss[k] sep[0] false W hskm hh'
        have HN2 : Hid (∀ s ∈ ss.take (k + 1), hasB s sep[0] = false) := Go.Lib.hid (by
          intro s hsm
          rw [List.take_succ_eq_append_getElem hk2, List.mem_append, List.mem_singleton] at hsm
          rcases hsm with hsm | rfl
          · exact HN.out s hsm
          · exact hh')
        clear hh hh' hskm
        by_cases hk0 : k = 0
        · subst hk0
          have HE : Hid (r ++ ss[0] = joinB (ss.take (0 + 1)) sep) := Go.Lib.hid (by
            rw [HR.out, ← joinB_first hk2]; apply ba_ext; simp [joinB, Lib.join])
          have hck0 : wr.cell? ⟨b, o, none⟩ = some (.string ss[0]) := by simpa using hck
          have hr0 : r.size ≤ 0 := by rw [HR.out]; exact Nat.le_refl 0
          by_cases hsz : r.size + ss[0].size ≤ 4000
          · clear HR HN
            go_wp2
            go_quiet ((go_at_call 33; exact quiet_same (cc _)))
            go_wp2
            go_roundw
            case rel => exact ⟨0 + 1, _, by omega, by go_num, rfl, by simp; omega, HE, HN2, HD.next _⟩
            case measure => simp [intOf]; omega
          · have HF : Hid (joinRes ss sep sep[0] = .tuple #[.string ByteArray.empty, .bool false]) := Go.Lib.hid (joinRes_no (joinOk_not_long (by
              have := total_mem (List.getElem_mem hk2); omega)))
            clear HR HN
            go_wp2
            go_quiet ((go_at_call 33; exact quiet_same (cc _)))
            go_wp2
            go_ret2
            exact ⟨by rw [HF.out]; rfl, HD.next _⟩
        · have hkp : 0 < k := by omega
          have HE : Hid (r ++ sep ++ ss[k] = joinB (ss.take (k + 1)) sep) := Go.Lib.hid (by rw [HR.out]; exact joinB_next hk2 hkp)
          by_cases hsz : r.size + sep.size + ss[k].size ≤ 4000
          · clear HR HN
            go_wp2
            go_quiet ((go_at_call 33; exact quiet_same (cc _)))
            go_wp2
            go_roundw
            case rel => exact ⟨k + 1, _, by omega, by go_num, rfl, by simp; omega, HE, HN2, HD.next _⟩
            case measure => simp [intOf]; omega
          · have HF : Hid (joinRes ss sep sep[0] = .tuple #[.string ByteArray.empty, .bool false]) := Go.Lib.hid (joinRes_no (joinOk_not_long (by
              have e1 := joinB_size sep (ss.take (k + 1)) (by intro e; have h9 : (ss.take (k + 1)).length = 0 := by rw [e]; rfl
                                                              rw [List.length_take] at h9; omega)
              have e2 := total_take_le ss (k + 1)
              have e3 : (ss.take (k + 1)).length = k + 1 := by simp; omega
              have e4 : (joinB (ss.take (k + 1)) sep).size = r.size + sep.size + ss[k].size := by rw [← HE.out]; simp
              have e5 : (((k + 1 : Nat) : Int) - 1) * (sep.size : Int) = (k : Int) := by rw [h]; omega
              rw [e4, e3, e5] at e1
              rw [h] at hsz e1
              omega)))
            clear HR HN
            go_wp2
            go_quiet ((go_at_call 33; exact quiet_same (cc _)))
            go_wp2
            go_ret2
            exact ⟨by rw [HF.out]; rfl, HD.next _⟩
    · have hkn : k = n := by omega
      subst hkn
      have HT : Hid (r = joinB ss sep) := Go.Lib.hid (by rw [HR.out, List.take_of_length_le (by omega)])
      have HF : Hid (joinRes ss sep sep[0] = .tuple #[.string r, .bool true]) := Go.Lib.hid (by
        rw [HT.out]
        apply joinRes_yes
        rw [joinOk_iff]
        refine ⟨by intro e; subst e; simp at hlen; omega, ?_, ?_⟩
        · have := HN.out; rwa [List.take_of_length_le (by omega)] at this
        · have h1 := joinB_size sep ss (by intro e; subst e; simp at hlen; omega)
          rw [← HT.out, h] at h1
          omega)
      clear HT
      go_wp2
      go_ret2
      exact ⟨by rw [HF.out]; rfl, HD⟩

end Go.Proofs.Ytjebehekhjbijaa.JoinSpecC

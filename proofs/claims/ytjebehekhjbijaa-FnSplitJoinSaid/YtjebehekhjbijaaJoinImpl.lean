/-
  Contracts: the program's JoinStrings and what it calls, at a list that can be read. Conditions: the list has at most 2^20 texts of at most 2^20 bytes.
-/
import Derived.Test.YtjebehekhjbijaaJoinSpec
import Derived.Test.YtjebehekhjbijaaShelf
import Derived.Deep.LoopGhost
import Derived.WalkMore
namespace Go.Proofs.Ytjebehekhjbijaa.JoinImplC
open Go.RowKit SeesC StrsMath JoinMath StandsC JoinSpecC

theorem joinFits_yes (w : World) (v : Value) (n : Nat) (ss : List ByteArray) (hv : Sees w v n (ss.map Value.string)) (hs : ∀ s ∈ ss, s.size ≤ 1048576) (hn0 : 0 < n) (hn : n ≤ 1048576) (h : total ss + ((ss.length : Int) - 1) ≤ 4000) :
    Calls Try.prog 30 #[v] w fun e w' => e = .returned (.bool true) ∧ w = w' := by
  obtain ⟨hlen, a, cap, rfl, hcap, hc⟩ := hv
  obtain ⟨b, o, rfl, hcell⟩ := hc hn0
  clear hc
  simp at hlen
  go_enter Try.func30, Try.ntmps30
  go_wp2
  go_loop [3, 12] (fun r i => ∃ k : Nat, k ≤ n ∧ i = .int .i64 k ∧ r = .int .i64 (4000 - ((n : Int) - 1) - total (ss.take k))) (fun _ i => n - (intOf i).toNat)
  case atStart => exact ⟨0, Nat.zero_le _, rfl, by simp [total]⟩
  case round =>
    obtain ⟨k, hk, rfl, rfl⟩ := hrel
    by_cases hlt : k < n
    · have hk2 : k < ss.length := by omega
      have hck : w.cell? ⟨b, o + k, none⟩ = some (.string ss[k]) := hcell k (.string ss[k]) (by simp [hk2])
      have hsk := hs ss[k] (List.getElem_mem hk2)
      have htk := total_take ss k hk2
      have htl := total_take_le ss (k + 1)
      have ht0 := total_nonneg (ss.take k)
      have hle : (ss[k].size : Int) ≤ 4000 - ((n : Int) - 1) - total (ss.take k) := by omega
      have H : Hid (total (ss.take (k + 1)) = total (ss.take k) + (ss[k].size : Int)) := Go.Lib.hid htk
      clear htk htl hcell hs h
      go_wp2
      go_round
      case rel => exact ⟨k + 1, by omega, by go_num, by rw [H.out]; go_num⟩
      case measure => simp [intOf]; omega
    · go_wp2
      go_ret
      exact ⟨rfl, rfl⟩

theorem joinFits_no (w : World) (v : Value) (n : Nat) (ss : List ByteArray) (hv : Sees w v n (ss.map Value.string)) (hs : ∀ s ∈ ss, s.size ≤ 1048576) (hn0 : 0 < n) (hn : n ≤ 1048576) (h : 4000 < total ss + ((ss.length : Int) - 1)) :
    Calls Try.prog 30 #[v] w fun e w' => e = .returned (.bool false) ∧ w = w' := by
  obtain ⟨hlen, a, cap, rfl, hcap, hc⟩ := hv
  obtain ⟨b, o, rfl, hcell⟩ := hc hn0
  clear hc
  simp at hlen
  go_enter Try.func30, Try.ntmps30
  go_wp2
  go_loop [3, 12] (fun r i => ∃ k : Nat, k ≤ n ∧ i = .int .i64 k ∧ (0 < k → 0 ≤ 4000 - ((n : Int) - 1) - total (ss.take k)) ∧ r = .int .i64 (4000 - ((n : Int) - 1) - total (ss.take k))) (fun _ i => n - (intOf i).toNat)
  case atStart => exact ⟨0, Nat.zero_le _, rfl, fun h => by omega, by simp [total]⟩
  case round =>
    obtain ⟨k, hk, rfl, hp, rfl⟩ := hrel
    by_cases hlt : k < n
    · have hk2 : k < ss.length := by omega
      have hck : w.cell? ⟨b, o + k, none⟩ = some (.string ss[k]) := hcell k (.string ss[k]) (by simp [hk2])
      have hsk := hs ss[k] (List.getElem_mem hk2)
      have htk := total_take ss k hk2
      have ht0 := total_nonneg (ss.take k)
      have hb0 : -1048576 ≤ 4000 - ((n : Int) - 1) - total (ss.take k) := by
        by_cases hz : 0 < k
        · have := hp hz; omega
        · have : k = 0 := by omega
          subst this
          simp [total]; omega
      have H : Hid (total (ss.take (k + 1)) = total (ss.take k) + (ss[k].size : Int)) := Go.Lib.hid htk
      clear htk hcell hs h hp
      by_cases hle : (ss[k].size : Int) ≤ 4000 - ((n : Int) - 1) - total (ss.take k)
      · go_wp2
        go_round
        case rel => exact ⟨k + 1, by omega, by go_num, fun _ => by rw [H.out]; omega, by rw [H.out]; go_num⟩
        case measure => simp [intOf]; omega
      · go_wp2
        go_ret
        exact ⟨rfl, rfl⟩
    · exfalso
      have hkn : k = n := by omega
      subst hkn
      have := hp hn0
      rw [List.take_of_length_le (by omega)] at this
      omega

set_option maxHeartbeats 1000000 in
theorem anyHasByte_of (w : World) (v : Value) (n : Nat) (ss : List ByteArray) (c : UInt8) (bb : Bool) (hv : Sees w v n (ss.map Value.string)) (hs : ∀ s ∈ ss, s.size ≤ 1048576) (hn0 : 0 < n) (hn : n ≤ 1048576) (h : (ss.any fun s => hasB s c) = bb) :
    Calls Try.prog 31 #[v, .int .u8 (c.toNat : Int)] w fun e w' => e = .returned (.bool bb) ∧ w = w' := by
  obtain ⟨hlen, a, cap, rfl, hcap, hc⟩ := hv
  obtain ⟨b, o, rfl, hcell⟩ := hc hn0
  clear hc
  simp at hlen
  have HB := Go.Lib.hid h
  clear h
  go_enter Try.func31, Try.ntmps31
  go_wp2
  go_step3
  go_wp2
  go_step3
  go_wp2
  go_loopg [5, 11] n (fun g s5 s11 wx => ∃ k : Nat, k + g = n ∧ s11 = .int .i64 k ∧ s5 = .bool false ∧ Hid (∀ s ∈ ss.take k, hasB s c = false) ∧ w = wx)
  case atStart => exact ⟨0, by omega, rfl, rfl, Go.Lib.hid (by simp), rfl⟩
  case round =>
    obtain ⟨k, hkg, rfl, rfl, HN, rfl⟩ := hrel
    cases gk with
    | zero =>
      have hkz : ¬ ((k : Int) < (n : Int)) := by omega
      have HF : Hid (bb = false) := Go.Lib.hid (by
        rw [← HB.out, List.any_eq_false]
        intro s hsm
        have := HN.out
        rw [List.take_of_length_le (by omega)] at this
        rw [this s hsm]; simp)
      go_wp2
      first | rw [Exit.noGoto_ret] | skip
      go_ret
      exact ⟨by rw [HF.out]; rfl, rfl⟩
    | succ g =>
      have hkz : (k : Int) < (n : Int) := by omega
      have hk2 : k < ss.length := by omega
      have hck : w.cell? ⟨b, o + k, none⟩ = some (.string ss[k]) := hcell k (.string ss[k]) (by simp [hk2])
      have hsk := hs ss[k] (List.getElem_mem hk2)
      have HM : Hid (ss[k] ∈ ss) := Go.Lib.hid (List.getElem_mem hk2)
      have HT : Hid (ss.take (k + 1) = ss.take k ++ [ss[k]]) := Go.Lib.hid (List.take_succ_eq_append_getElem hk2)
      obtain ⟨p, hp⟩ : ∃ p, ss[k] = p := ⟨_, rfl⟩
      rw [hp] at hck hsk HM HT
      clear hcell hs hp
      go_wp2
      go_loopg [5, 17] p.size (fun g2 t5 t17 wy => ∃ j : Nat, j + g2 = p.size ∧ t17 = .int .i64 j ∧ t5 = .bool false ∧ Hid ((p.data.toList.take j).contains c = false) ∧ w = wy)
      case atStart => exact ⟨0, by omega, rfl, rfl, Go.Lib.hid (by simp), rfl⟩
      case round =>
        obtain ⟨j, hjg, rfl, rfl, HJ, rfl⟩ := hrel
        cases gk with
        | zero =>
          have hjz : ¬ ((j : Int) < (p.size : Int)) := by omega
          have HN2 : Hid (∀ s ∈ ss.take (k + 1), hasB s c = false) := Go.Lib.hid (by
            rw [HT.out]
            intro s hsm
            rcases List.mem_append.1 hsm with hsm | hsm
            · exact HN.out s hsm
            · rw [List.mem_singleton] at hsm
              subst hsm
              have := HJ.out
              rw [List.take_of_length_le (by simp; omega)] at this
              exact this)
          go_wp2
          go_roundg g
          case measure => omega
          case rel => exact ⟨k + 1, by omega, by go_num, rfl, HN2, rfl⟩
        | succ g2 =>
          have hjz : (j : Int) < (p.size : Int) := by omega
          have hjn : j < p.size := by omega
          by_cases he : p[j] = c
          · have HF : Hid (bb = true) := Go.Lib.hid (by
              rw [← HB.out, List.any_eq_true]
              refine ⟨p, HM.out, ?_⟩
              unfold hasB; rw [List.contains_eq_mem, decide_eq_true_eq, ← he]
              exact (by simp : p.data[j] ∈ p.data.toList))
            subst he
            go_wp2
            first | rw [Exit.noGoto_ret] | skip
            go_ret
            exact ⟨by rw [HF.out]; rfl, rfl⟩
          · have hne : ((p[j].toNat : Int) == (c.toNat : Int)) = false := by
              rw [beq_eq_false_iff_ne]; intro e; exact he (UInt8.toNat_inj.1 (by omega))
            have hn2 : Hid ((p.data.toList.take (j + 1)).contains c = false) := Go.Lib.hid (by rw [has_take p c j hjn, HJ.out]; simpa using he)
            clear he
            go_wp2
            go_roundg g2
            case measure => omega
            case rel => exact ⟨j + 1, by omega, by go_num, rfl, hn2, rfl⟩

theorem implJoin_none (w : World) (a : Option Addr) (cap : Nat) (sep : ByteArray) :
    Calls Try.prog 12 #[.slice a 0 cap, .string sep] w fun e w' => e = .returned (.tuple #[.string ByteArray.empty, .bool false]) ∧ w = w' := by
  go_enter Try.func12, Try.ntmps12
  go_wp2
  go_ret2
  exact ⟨rfl, rfl⟩

theorem implJoin_sep (w : World) (v : Value) (n : Nat) (xs : List Value) (sep : ByteArray) (hv : Sees w v n xs) (hn0 : 0 < n) (h : sep.size ≠ 1) :
    Calls Try.prog 12 #[v, .string sep] w fun e w' => e = .returned (.tuple #[.string ByteArray.empty, .bool false]) ∧ w = w' := by
  obtain ⟨hlen, a, cap, rfl, hcap, hc⟩ := hv
  have hne : ((sep.size : Int) == 1) = false := by rw [beq_eq_false_iff_ne]; omega
  have hz : ((n : Int) == 0) = false := by rw [beq_eq_false_iff_ne]; omega
  clear hc
  go_enter Try.func12, Try.ntmps12
  go_wp2
  go_ret2
  exact ⟨rfl, rfl⟩

set_option maxHeartbeats 1000000 in
theorem implJoin_main (w : World) (v : Value) (n : Nat) (ss : List ByteArray) (sep : ByteArray) (hv : Sees w v n (ss.map Value.string)) (hs : ∀ s ∈ ss, s.size ≤ 1048576) (hn0 : 0 < n) (hn : n ≤ 1048576) (h : sep.size = 1) :
    Calls Try.prog 12 #[v, .string sep] w fun e w' => e = .returned (joinRes ss sep sep[0]) ∧ Below w.heap.size w w' := by
  have hz : ((n : Int) == 0) = false := by rw [beq_eq_false_iff_ne]; omega
  have hl : ss.length = n := by have := hv.1; simpa using this
  by_cases hfit : total ss + ((ss.length : Int) - 1) ≤ 4000
  · have cf := joinFits_yes w v n ss hv hs hn0 hn hfit
    cases hany : (ss.any fun s => hasB s sep[0])
    · have ca := anyHasByte_of w v n ss sep[0] false hv hs hn0 hn hany
      have hok : joinOk ss sep[0] = true := (joinOk_iff _ _).2 ⟨by intro e; subst e; simp at hl; omega, by
        intro s hsm
        have := List.any_eq_false.1 hany s hsm
        simpa using this, hfit⟩
      have HF : Hid (joinRes ss sep sep[0] = .tuple #[.string (joinB ss sep), .bool true]) := Go.Lib.hid (joinRes_yes hok)
      have hjs : (Lib.join (ss.map (·.data.toList)) sep.data.toList).length ≤ 140737488355328 := by
        have e1 := joinB_size sep ss (by intro e; subst e; simp at hl; omega)
        have e2 : (joinB ss sep).size = (Lib.join (ss.map (·.data.toList)) sep.data.toList).length := by
          show (Lib.join (ss.map (·.data.toList)) sep.data.toList).toArray.size = _; simp
        rw [e2, h] at e1
        omega
      have hlt := hv.lt hn0
      obtain ⟨_, a, cap, rfl, hcap, hc⟩ := hv
      obtain ⟨b, o, rfl, hcell⟩ := hc hn0
      have cj := Try.strings_Join b o cap ss sep w (fun j x hx => hcell j (.string x) (by rw [List.getElem?_map, hx]; rfl)) (hlt b rfl) (by omega) (by omega) hjs
      rw [hl] at cj
      clear hc hcell hlt hjs hok hany hs hfit hl
      go_enter Try.func12, Try.ntmps12
      go_wp2_with (first
        | (go_at_call 30; refine cf.mono ?_; rintro e w' ⟨rfl, rfl⟩)
        | (go_at_call 31; refine ca.mono ?_; rintro e w' ⟨rfl, rfl⟩)
        | (go_at_call 32; refine cj.mono ?_; rintro e w' ⟨rfl, hb⟩))
      go_ret2
      exact ⟨by rw [HF.out]; rfl, hb⟩
    · have ca := anyHasByte_of w v n ss sep[0] true hv hs hn0 hn hany
      have HF : Hid (joinRes ss sep sep[0] = .tuple #[.string ByteArray.empty, .bool false]) := Go.Lib.hid (joinRes_no (by
        obtain ⟨s, hsm, hsb⟩ := List.any_eq_true.1 hany
        obtain ⟨k, hk, rfl⟩ := List.getElem_of_mem hsm
        exact joinOk_not_has hk hsb))
      obtain ⟨_, a, cap, rfl, hcap, hc⟩ := hv
      clear hc hany hs hfit hl
      go_enter Try.func12, Try.ntmps12
      go_wp2_with (first
        | (go_at_call 30; refine cf.mono ?_; rintro e w' ⟨rfl, rfl⟩)
        | (go_at_call 31; refine ca.mono ?_; rintro e w' ⟨rfl, rfl⟩))
      go_ret2
      exact ⟨by rw [HF.out]; rfl, Below.refl _ _⟩
  · have cf := joinFits_no w v n ss hv hs hn0 hn (by omega)
    have HF : Hid (joinRes ss sep sep[0] = .tuple #[.string ByteArray.empty, .bool false]) := Go.Lib.hid (joinRes_no (joinOk_not_long (by omega)))
    obtain ⟨_, a, cap, rfl, hcap, hc⟩ := hv
    clear hc hs hfit hl
    go_enter Try.func12, Try.ntmps12
    go_wp2_with (first
      | (go_at_call 30; refine cf.mono ?_; rintro e w' ⟨rfl, rfl⟩))
    go_ret2
    exact ⟨by rw [HF.out]; rfl, Below.refl _ _⟩

/-- What JoinStrings answers, at whatever list and separator. -/
def joinAns (ss : List ByteArray) (sep : ByteArray) : ByteArray × Bool :=
  if h : sep.size = 1 ∧ ss ≠ [] then (if joinOk ss (sep[0]'(by omega)) = true then (joinB ss sep, true) else (ByteArray.empty, false)) else (ByteArray.empty, false)

theorem joinAns_bad {ss : List ByteArray} {sep : ByteArray} (h : ¬ (sep.size = 1 ∧ ss ≠ [])) : joinAns ss sep = (ByteArray.empty, false) := by
  unfold joinAns; rw [dif_neg h]

theorem joinAns_main {ss : List ByteArray} {sep : ByteArray} (h : sep.size = 1) (h2 : ss ≠ []) : joinRes ss sep (sep[0]'(by omega)) = .tuple #[.string (joinAns ss sep).1, .bool (joinAns ss sep).2] := by
  unfold joinAns joinRes; rw [dif_pos ⟨h, h2⟩]; split <;> rfl

theorem specJoin_ans (w : World) (v : Value) (n : Nat) (ss : List ByteArray) (sep r : ByteArray) (b : Bool) (hv : Sees w v n (ss.map Value.string)) (hs : ∀ s ∈ ss, s.size ≤ 1048576) (hn : n ≤ 1048576) (h : joinAns ss sep = (r, b)) :
    Calls Try.prog 13 #[v, .string sep] w fun e w' => e = .returned (.tuple #[.string r, .bool b]) ∧ Drawn w w' := by
  have hl : ss.length = n := by have := hv.1; simpa using this
  by_cases h1 : sep.size = 1
  · by_cases h2 : ss = []
    · rw [joinAns_bad (by simp [h2])] at h
      cases h
      subst h2
      obtain ⟨hlen, a, cap, rfl, hcap, hc⟩ := hv
      simp at hlen
      subst hlen
      exact (specJoin_none w a cap sep h1).mono fun e w' ⟨he, hw⟩ => ⟨he, hw ▸ Drawn.refl _⟩
    · have hm := specJoin_main w v n ss sep hv hs (by have := List.length_pos_iff.2 h2; omega) hn h1
      rw [joinAns_main h1 h2, h] at hm
      exact hm
  · rw [joinAns_bad (by simp [h1])] at h
    cases h
    exact (specJoin_sep w v n _ sep hv h1).mono fun e w' ⟨he, hw⟩ => ⟨he, hw ▸ Drawn.refl _⟩

theorem implJoin_ans (w : World) (v : Value) (n : Nat) (ss : List ByteArray) (sep r : ByteArray) (b : Bool) (hv : Sees w v n (ss.map Value.string)) (hs : ∀ s ∈ ss, s.size ≤ 1048576) (hn : n ≤ 1048576) (h : joinAns ss sep = (r, b)) :
    Calls Try.prog 12 #[v, .string sep] w fun e w' => e = .returned (.tuple #[.string r, .bool b]) ∧ Below w.heap.size w w' := by
  have hl : ss.length = n := by have := hv.1; simpa using this
  by_cases h2 : ss = []
  · rw [joinAns_bad (by simp [h2])] at h
    cases h
    subst h2
    obtain ⟨hlen, a, cap, rfl, hcap, hc⟩ := hv
    simp at hlen
    subst hlen
    exact (implJoin_none w a cap sep).mono fun e w' ⟨he, hw⟩ => ⟨he, hw ▸ Below.refl _ _⟩
  · have hp : 0 < n := by have := List.length_pos_iff.2 h2; omega
    by_cases h1 : sep.size = 1
    · have hm := implJoin_main w v n ss sep hv hs hp hn h1
      rw [joinAns_main h1 h2, h] at hm
      exact hm
    · rw [joinAns_bad (by simp [h1])] at h
      cases h
      exact (implJoin_sep w v n _ sep hv hp h1).mono fun e w' ⟨he, hw⟩ => ⟨he, hw ▸ Below.refl _ _⟩

end Go.Proofs.Ytjebehekhjbijaa.JoinImplC

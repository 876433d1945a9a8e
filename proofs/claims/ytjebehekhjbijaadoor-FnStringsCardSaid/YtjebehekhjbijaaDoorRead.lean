/-
  Contract: the model reads a number as the library's numerals say. Conditions: the text is no longer than any text can be.
-/
import Derived.Test.YtjebehekhjbijaaDoorFmt
import Derived.Test.YtjebehekhjbijaaDoorReadMath
import Derived.LoopTactic
namespace Go.Proofs.YtjebehekhjbijaaDoor.ReadC
open Go.RowKit SeesC NumC FmtC ReadMath

theorem size_list (s : ByteArray) : s.data.toList.length = s.size := by rw [Array.length_toList]; rfl

theorem ret_int2 {a : Int} {b : Bool} {p : Int × Bool} (h : p = (a, b)) : Ending.returned (.tuple #[.int .i64 p.1, .bool p.2]) = .returned (.tuple #[.int .i64 a, .bool b]) := by rw [h]

theorem str_ne {x s : ByteArray} (h : ¬ x = s) : (x.toList == s.toList) = false ∧ (!x.toList == s.toList) = true := by
  have e : (x.toList == s.toList) = false := by
    rw [beq_eq_false_iff_ne]
    intro e
    rw [Lib.toList_data, Lib.toList_data] at e
    apply h
    cases x; cases s
    congr
    exact Array.toList_inj.1 e
  exact ⟨e, by rw [e]; rfl⟩

theorem has_dig (t : ByteArray) (k : Nat) (h : k < t.size) : (t.data.toList.take (k + 1)) = t.data.toList.take k ++ [t[k]] := by
  rw [List.take_succ_eq_append_getElem (by simpa using h)]; rfl

theorem tail_of (s : ByteArray) (h1 : 1 < s.size) (hc : (s[0]'(by omega)).toNat = 45) : (s.extract 1 s.size).data.toList = tl s.data.toList := by
  have e : (s.extract 1 s.size).data.toList = s.data.toList.drop 1 := by
    rw [ByteArray.data_extract, Array.toList_extract]
    simp only [List.extract]
    rw [List.take_of_length_le (by rw [List.length_drop, size_list]; exact Nat.le_refl _)]
  rw [e]
  have hl : s.data.toList.length = s.size := size_list s
  cases hd : s.data.toList with
  | nil => rw [hd] at hl; simp at hl; omega
  | cons c r =>
    cases r with
    | nil => rw [hd] at hl; simp at hl; omega
    | cons d r =>
      have hc0 : c.toNat = 45 := by
        have : s.data.toList[0]? = some (s[0]'(by omega)) := by
          rw [List.getElem?_eq_getElem (by omega)]; rfl
        rw [hd] at this
        simp at this
        rw [this]; exact hc
      show _ = if c.toNat = 45 then d :: r else c :: d :: r
      rw [if_pos hc0]; rfl

theorem tail_not (s : ByteArray) (h : ∀ h1 : 1 < s.size, (s[0]'(by omega)).toNat ≠ 45) : tl s.data.toList = s.data.toList := by
  cases hd : s.data.toList with
  | nil => rfl
  | cons c r =>
    cases r with
    | nil => rfl
    | cons d r =>
      have hl : s.data.toList.length = s.size := size_list s
      have h1 : 1 < s.size := by rw [hd] at hl; simp at hl; omega
      have hc0 : c.toNat ≠ 45 := by
        have : s.data.toList[0]? = some (s[0]'(by omega)) := by
          rw [List.getElem?_eq_getElem (by omega)]; rfl
        rw [hd] at this
        simp at this
        rw [this]; exact h h1
      show (if c.toNat = 45 then d :: r else c :: d :: r) = _
      rw [if_neg hc0]

set_option maxHeartbeats 1000000 in
theorem l1Read_neg (s : ByteArray) (w : World) (n : Int) (b : Bool) (hs : s.size ≤ 1048576) (h1 : 1 < s.size) (hc : (s[0]'(by omega)).toNat = 45) (h : readAns s.data.toList = (n, b)) :
    Calls Tryd.prog 29 #[.string s] w fun e w' => e = .returned (.tuple #[.int .i64 n, .bool b]) ∧ Drawn w w' := by
  have HH := Go.Lib.hid h
  have h45 : (((s[0]'(by omega)).toNat : Int) == 45) = true := by rw [hc]; rfl
  obtain ⟨t, ht⟩ : ∃ t, s.extract 1 s.size = t := ⟨_, rfl⟩
  have HT : Hid (t.data.toList = tl s.data.toList) := Go.Lib.hid (by rw [← ht]; exact tail_of s h1 hc)
  have HTS : Hid (t.size + 1 = s.size) := Go.Lib.hid (by rw [← ht, ByteArray.size_extract]; omega)
  clear h hc
  have HTL : Hid (t.data.toList = tl s.data.toList) := HT
  have htl : t.size ≤ s.size := by have := HTS.out; omega
  by_cases hlen : 1 ≤ t.size ∧ t.size ≤ 6
  · have ci := fun W => l1In_of (t.size : Int) 1 6 W true (by simp; omega)
    have CI := Go.Lib.hid ci
    obtain ⟨hl1, hl6⟩ := hlen
    clear ci
    go_enter Tryd.func29, Tryd.ntmps29
    go_wp2_with (go_at_call 24; refine (CI.out _).mono ?_; rintro e w' ⟨rfl, rfl⟩)
    go_loop [5, 6] (fun nv iv => ∃ k : Nat, k ≤ t.size ∧ iv = .int .i64 k ∧ nv = .int .i64 ((dv 0 (t.data.toList.take k) : Nat) : Int) ∧ Hid ((t.data.toList.take k).all isDig = true)) (fun _ i => t.size - (intOf i).toNat)
    case atStart => exact ⟨0, Nat.zero_le _, rfl, rfl, Go.Lib.hid rfl⟩
    case round =>
      obtain ⟨k, hk, rfl, rfl, HA⟩ := hrel
      obtain ⟨acc, hacc⟩ : ∃ acc : Nat, dv 0 (t.data.toList.take k) = acc := ⟨_, rfl⟩
      have hbd : acc ≤ 999999 := by
        have h1 := dv_lt _ HA.out
        have h2 : (10 : Nat) ^ (t.data.toList.take k).length ≤ 10 ^ 6 := Nat.pow_le_pow_right (by decide) (by simp; omega)
        rw [hacc] at h1; omega
      rw [hacc]
      have HAC := Go.Lib.hid hacc
      clear hacc
      by_cases hlt : k < t.size
      · have hb255 : (t[k].toNat : Int) ≤ 255 := by have := t[k].toNat_lt; omega
        by_cases hd : 48 ≤ t[k].toNat ∧ t[k].toNat ≤ 57
        · obtain ⟨hd1, hd2⟩ := hd
          have hbk : acc ≤ 99999 := by
            have h1 := dv_lt _ HA.out
            have h2 : (10 : Nat) ^ (t.data.toList.take k).length ≤ 10 ^ 5 := Nat.pow_le_pow_right (by decide) (by simp; omega)
            rw [HAC.out] at h1; omega
          have hn1 : (48 : Int) ≤ (t[k].toNat : Int) := by omega
          have hn2 : (t[k].toNat : Int) ≤ 57 := by omega
          have HN : Hid (((dv 0 (t.data.toList.take (k + 1)) : Nat) : Int) = 10 * (acc : Int) + ((t[k].toNat : Int) - 48)) := Go.Lib.hid (by
            rw [has_dig t k hlt, dv_snoc, HAC.out]; omega)
          have HA2 : Hid ((t.data.toList.take (k + 1)).all isDig = true) := Go.Lib.hid (by
            rw [has_dig t k hlt, List.all_append, HA.out]; simp [isDig]; omega)
          clear hd1 hd2
          go_wp2
          go_round
          case rel => exact ⟨k + 1, by omega, by go_num, by rw [HN.out], HA2⟩
          case measure => simp [intOf]; omega
        · have HF : Hid (readAns s.data.toList = (0, false)) := Go.Lib.hid (readAns_bad (by
            rw [← HTL.out]
            rintro ⟨_, _, h3⟩
            rw [List.all_eq_true] at h3
            have := h3 t[k] (by simp : t.data[k] ∈ t.data.toList)
            exact hd (by simpa [isDig] using this)))
          by_cases hlo : (t[k].toNat : Int) < 48
          · clear hd
            go_wp2
            go_ret2
            exact ⟨ret_int2 (p := (0, false)) (by rw [← HF.out]; exact HH.out), Drawn.refl _⟩
          · have hhi : (57 : Int) < (t[k].toNat : Int) := by omega
            clear hd
            go_wp2
            go_ret2
            exact ⟨ret_int2 (p := (0, false)) (by rw [← HF.out]; exact HH.out), Drawn.refl _⟩
      · have hkn : k = t.size := by omega
        have HG : Hid (readAns s.data.toList = if Lib.itoa (spelt s.data.toList) = s.data.toList then (spelt s.data.toList, true) else (0, false)) := Go.Lib.hid (readAns_good (by
          have e : t.data.toList.take k = t.data.toList := List.take_of_length_le (by rw [size_list]; omega)
          have := HA.out
          rw [e] at this
          rw [← HTL.out]
          refine ⟨by rw [size_list]; omega, by rw [size_list]; omega, this⟩))
        have HSP : Hid (spelt s.data.toList = -(acc : Int)) := Go.Lib.hid (by
          have e : t.data.toList.take k = t.data.toList := List.take_of_length_le (by rw [size_list]; omega)
          have h1 := HAC.out
          rw [e] at h1
          unfold spelt
          rw [← HTL.out, size_list, size_list, h1]
          rw [if_pos (by have := HTS.out; omega)])
        have CN : Hid (∀ W, Calls Tryd.prog 25 #[.int .i64 (-(acc : Int))] W fun e w' => e = .returned (.string (txt (Lib.itoa (spelt s.data.toList)))) ∧ Drawn W w') := Go.Lib.hid (fun W => by
          rw [HSP.out]; exact l1Num_int _ W (by omega) (by omega))
        obtain ⟨x, hx⟩ : ∃ x, txt (Lib.itoa (spelt s.data.toList)) = x := ⟨_, rfl⟩
        rw [hx] at CN
        by_cases hxs : x = s
        · have HF : Hid (readAns s.data.toList = (-(acc : Int), true)) := Go.Lib.hid (by
            have hsl : x.data.toList = Lib.itoa (spelt s.data.toList) := by rw [← hx, txt_list]
            rw [hxs] at hsl
            rw [HG.out, if_pos hsl.symm, HSP.out])
          have hsz : (t.size : Int) < (s.size : Int) := by have := HTS.out; omega
          subst hxs
          clear hx hkn
          go_wp2_with (go_at_call 25; refine (CN.out _).mono ?_; rintro e w' ⟨rfl, HW⟩)
          go_ret2
          exact ⟨ret_int2 (p := (-(acc : Int), true)) (by rw [← HF.out]; exact HH.out), HW⟩
        · have HF : Hid (readAns s.data.toList = (0, false)) := Go.Lib.hid (by
            rw [HG.out, if_neg]
            intro e
            apply hxs
            rw [← hx, e]
            cases s; simp [txt])
          have hsz : (t.size : Int) < (s.size : Int) := by have := HTS.out; omega
          obtain ⟨hxs1, hxs2⟩ := str_ne hxs
          clear hx hkn
          go_wp2_with (go_at_call 25; refine (CN.out _).mono ?_; rintro e w' ⟨rfl, HW⟩)
          go_ret2
          exact ⟨ret_int2 (p := (0, false)) (by rw [← HF.out]; exact HH.out), HW⟩
  · have ci := fun W => l1In_of (t.size : Int) 1 6 W false (by simp; omega)
    have CI := Go.Lib.hid ci
    have HF : Hid (readAns s.data.toList = (0, false)) := Go.Lib.hid (readAns_bad (by rw [← HTL.out, size_list]; omega))
    clear ci hlen
    go_enter Tryd.func29, Tryd.ntmps29
    go_wp2_with (go_at_call 24; refine (CI.out _).mono ?_; rintro e w' ⟨rfl, rfl⟩)
    go_ret2
    exact ⟨ret_int2 (p := (0, false)) (by rw [← HF.out]; exact HH.out), Drawn.refl _⟩

set_option maxHeartbeats 1000000 in
theorem l1Read_short (s : ByteArray) (w : World) (n : Int) (b : Bool) (hs : s.size ≤ 1048576) (h1 : s.size ≤ 1) (h : readAns s.data.toList = (n, b)) :
    Calls Tryd.prog 29 #[.string s] w fun e w' => e = .returned (.tuple #[.int .i64 n, .bool b]) ∧ Drawn w w' := by
  have HH := Go.Lib.hid h
  have HT : Hid (s.data.toList = tl s.data.toList) := Go.Lib.hid (tail_not s (fun h => by omega)).symm
  have HTS : Hid (s.size = s.size) := Go.Lib.hid rfl
  clear h
  have HTL : Hid (s.data.toList = tl s.data.toList) := HT
  have htl : s.size ≤ s.size := by have := HTS.out; omega
  by_cases hlen : 1 ≤ s.size ∧ s.size ≤ 6
  · have ci := fun W => l1In_of (s.size : Int) 1 6 W true (by simp; omega)
    have CI := Go.Lib.hid ci
    obtain ⟨hl1, hl6⟩ := hlen
    clear ci
    go_enter Tryd.func29, Tryd.ntmps29
    go_wp2_with (go_at_call 24; refine (CI.out _).mono ?_; rintro e w' ⟨rfl, rfl⟩)
    go_loop [5, 6] (fun nv iv => ∃ k : Nat, k ≤ s.size ∧ iv = .int .i64 k ∧ nv = .int .i64 ((dv 0 (s.data.toList.take k) : Nat) : Int) ∧ Hid ((s.data.toList.take k).all isDig = true)) (fun _ i => s.size - (intOf i).toNat)
    case atStart => exact ⟨0, Nat.zero_le _, rfl, rfl, Go.Lib.hid rfl⟩
    case round =>
      obtain ⟨k, hk, rfl, rfl, HA⟩ := hrel
      obtain ⟨acc, hacc⟩ : ∃ acc : Nat, dv 0 (s.data.toList.take k) = acc := ⟨_, rfl⟩
      have hbd : acc ≤ 999999 := by
        have h1 := dv_lt _ HA.out
        have h2 : (10 : Nat) ^ (s.data.toList.take k).length ≤ 10 ^ 6 := Nat.pow_le_pow_right (by decide) (by simp; omega)
        rw [hacc] at h1; omega
      rw [hacc]
      have HAC := Go.Lib.hid hacc
      clear hacc
      by_cases hlt : k < s.size
      · have hb255 : (s[k].toNat : Int) ≤ 255 := by have := s[k].toNat_lt; omega
        by_cases hd : 48 ≤ s[k].toNat ∧ s[k].toNat ≤ 57
        · obtain ⟨hd1, hd2⟩ := hd
          have hbk : acc ≤ 99999 := by
            have h1 := dv_lt _ HA.out
            have h2 : (10 : Nat) ^ (s.data.toList.take k).length ≤ 10 ^ 5 := Nat.pow_le_pow_right (by decide) (by simp; omega)
            rw [HAC.out] at h1; omega
          have hn1 : (48 : Int) ≤ (s[k].toNat : Int) := by omega
          have hn2 : (s[k].toNat : Int) ≤ 57 := by omega
          have HN : Hid (((dv 0 (s.data.toList.take (k + 1)) : Nat) : Int) = 10 * (acc : Int) + ((s[k].toNat : Int) - 48)) := Go.Lib.hid (by
            rw [has_dig s k hlt, dv_snoc, HAC.out]; omega)
          have HA2 : Hid ((s.data.toList.take (k + 1)).all isDig = true) := Go.Lib.hid (by
            rw [has_dig s k hlt, List.all_append, HA.out]; simp [isDig]; omega)
          clear hd1 hd2
          go_wp2
          go_round
          case rel => exact ⟨k + 1, by omega, by go_num, by rw [HN.out], HA2⟩
          case measure => simp [intOf]; omega
        · have HF : Hid (readAns s.data.toList = (0, false)) := Go.Lib.hid (readAns_bad (by
            rw [← HTL.out]
            rintro ⟨_, _, h3⟩
            rw [List.all_eq_true] at h3
            have := h3 s[k] (by simp : s.data[k] ∈ s.data.toList)
            exact hd (by simpa [isDig] using this)))
          by_cases hlo : (s[k].toNat : Int) < 48
          · clear hd
            go_wp2
            go_ret2
            exact ⟨ret_int2 (p := (0, false)) (by rw [← HF.out]; exact HH.out), Drawn.refl _⟩
          · have hhi : (57 : Int) < (s[k].toNat : Int) := by omega
            clear hd
            go_wp2
            go_ret2
            exact ⟨ret_int2 (p := (0, false)) (by rw [← HF.out]; exact HH.out), Drawn.refl _⟩
      · have hkn : k = s.size := by omega
        have HG : Hid (readAns s.data.toList = if Lib.itoa (spelt s.data.toList) = s.data.toList then (spelt s.data.toList, true) else (0, false)) := Go.Lib.hid (readAns_good (by
          have e : s.data.toList.take k = s.data.toList := List.take_of_length_le (by rw [size_list]; omega)
          have := HA.out
          rw [e] at this
          rw [← HTL.out]
          refine ⟨by rw [size_list]; omega, by rw [size_list]; omega, this⟩))
        have HSP : Hid (spelt s.data.toList = (acc : Int)) := Go.Lib.hid (by
          have e : s.data.toList.take k = s.data.toList := List.take_of_length_le (by rw [size_list]; omega)
          have h1 := HAC.out
          rw [e] at h1
          unfold spelt
          rw [← HTL.out, size_list, h1]
          rw [if_neg (by have := HTS.out; omega)])
        have CN : Hid (∀ W, Calls Tryd.prog 25 #[.int .i64 ((acc : Int))] W fun e w' => e = .returned (.string (txt (Lib.itoa (spelt s.data.toList)))) ∧ Drawn W w') := Go.Lib.hid (fun W => by
          rw [HSP.out]; exact l1Num_int _ W (by omega) (by omega))
        obtain ⟨x, hx⟩ : ∃ x, txt (Lib.itoa (spelt s.data.toList)) = x := ⟨_, rfl⟩
        rw [hx] at CN
        by_cases hxs : x = s
        · have HF : Hid (readAns s.data.toList = ((acc : Int), true)) := Go.Lib.hid (by
            have hsl : x.data.toList = Lib.itoa (spelt s.data.toList) := by rw [← hx, txt_list]
            rw [hxs] at hsl
            rw [HG.out, if_pos hsl.symm, HSP.out])
          subst hxs
          clear hx hkn
          go_wp2_with (go_at_call 25; refine (CN.out _).mono ?_; rintro e w' ⟨rfl, HW⟩)
          go_ret2
          exact ⟨ret_int2 (p := ((acc : Int), true)) (by rw [← HF.out]; exact HH.out), HW⟩
        · have HF : Hid (readAns s.data.toList = (0, false)) := Go.Lib.hid (by
            rw [HG.out, if_neg]
            intro e
            apply hxs
            rw [← hx, e]
            cases s; simp [txt])
          obtain ⟨hxs1, hxs2⟩ := str_ne hxs
          clear hx hkn
          go_wp2_with (go_at_call 25; refine (CN.out _).mono ?_; rintro e w' ⟨rfl, HW⟩)
          go_ret2
          exact ⟨ret_int2 (p := (0, false)) (by rw [← HF.out]; exact HH.out), HW⟩
  · have ci := fun W => l1In_of (s.size : Int) 1 6 W false (by simp; omega)
    have CI := Go.Lib.hid ci
    have HF : Hid (readAns s.data.toList = (0, false)) := Go.Lib.hid (readAns_bad (by rw [← HTL.out, size_list]; omega))
    clear ci hlen
    go_enter Tryd.func29, Tryd.ntmps29
    go_wp2_with (go_at_call 24; refine (CI.out _).mono ?_; rintro e w' ⟨rfl, rfl⟩)
    go_ret2
    exact ⟨ret_int2 (p := (0, false)) (by rw [← HF.out]; exact HH.out), Drawn.refl _⟩

set_option maxHeartbeats 1000000 in
theorem l1Read_long (s : ByteArray) (w : World) (n : Int) (b : Bool) (hs : s.size ≤ 1048576) (h1 : 1 < s.size) (hc : (s[0]'(by omega)).toNat ≠ 45) (h : readAns s.data.toList = (n, b)) :
    Calls Tryd.prog 29 #[.string s] w fun e w' => e = .returned (.tuple #[.int .i64 n, .bool b]) ∧ Drawn w w' := by
  have HH := Go.Lib.hid h
  have h45 : (((s[0]'(by omega)).toNat : Int) == 45) = false := by rw [beq_eq_false_iff_ne]; omega
  have HT : Hid (s.data.toList = tl s.data.toList) := Go.Lib.hid (tail_not s (fun _ => hc)).symm
  have HTS : Hid (s.size = s.size) := Go.Lib.hid rfl
  clear h hc
  have HTL : Hid (s.data.toList = tl s.data.toList) := HT
  have htl : s.size ≤ s.size := by have := HTS.out; omega
  by_cases hlen : 1 ≤ s.size ∧ s.size ≤ 6
  · have ci := fun W => l1In_of (s.size : Int) 1 6 W true (by simp; omega)
    have CI := Go.Lib.hid ci
    obtain ⟨hl1, hl6⟩ := hlen
    clear ci
    go_enter Tryd.func29, Tryd.ntmps29
    go_wp2_with (go_at_call 24; refine (CI.out _).mono ?_; rintro e w' ⟨rfl, rfl⟩)
    go_loop [5, 6] (fun nv iv => ∃ k : Nat, k ≤ s.size ∧ iv = .int .i64 k ∧ nv = .int .i64 ((dv 0 (s.data.toList.take k) : Nat) : Int) ∧ Hid ((s.data.toList.take k).all isDig = true)) (fun _ i => s.size - (intOf i).toNat)
    case atStart => exact ⟨0, Nat.zero_le _, rfl, rfl, Go.Lib.hid rfl⟩
    case round =>
      obtain ⟨k, hk, rfl, rfl, HA⟩ := hrel
      obtain ⟨acc, hacc⟩ : ∃ acc : Nat, dv 0 (s.data.toList.take k) = acc := ⟨_, rfl⟩
      have hbd : acc ≤ 999999 := by
        have h1 := dv_lt _ HA.out
        have h2 : (10 : Nat) ^ (s.data.toList.take k).length ≤ 10 ^ 6 := Nat.pow_le_pow_right (by decide) (by simp; omega)
        rw [hacc] at h1; omega
      rw [hacc]
      have HAC := Go.Lib.hid hacc
      clear hacc
      by_cases hlt : k < s.size
      · have hb255 : (s[k].toNat : Int) ≤ 255 := by have := s[k].toNat_lt; omega
        by_cases hd : 48 ≤ s[k].toNat ∧ s[k].toNat ≤ 57
        · obtain ⟨hd1, hd2⟩ := hd
          have hbk : acc ≤ 99999 := by
            have h1 := dv_lt _ HA.out
            have h2 : (10 : Nat) ^ (s.data.toList.take k).length ≤ 10 ^ 5 := Nat.pow_le_pow_right (by decide) (by simp; omega)
            rw [HAC.out] at h1; omega
          have hn1 : (48 : Int) ≤ (s[k].toNat : Int) := by omega
          have hn2 : (s[k].toNat : Int) ≤ 57 := by omega
          have HN : Hid (((dv 0 (s.data.toList.take (k + 1)) : Nat) : Int) = 10 * (acc : Int) + ((s[k].toNat : Int) - 48)) := Go.Lib.hid (by
            rw [has_dig s k hlt, dv_snoc, HAC.out]; omega)
          have HA2 : Hid ((s.data.toList.take (k + 1)).all isDig = true) := Go.Lib.hid (by
            rw [has_dig s k hlt, List.all_append, HA.out]; simp [isDig]; omega)
          clear hd1 hd2
          go_wp2
          go_round
          case rel => exact ⟨k + 1, by omega, by go_num, by rw [HN.out], HA2⟩
          case measure => simp [intOf]; omega
        · have HF : Hid (readAns s.data.toList = (0, false)) := Go.Lib.hid (readAns_bad (by
            rw [← HTL.out]
            rintro ⟨_, _, h3⟩
            rw [List.all_eq_true] at h3
            have := h3 s[k] (by simp : s.data[k] ∈ s.data.toList)
            exact hd (by simpa [isDig] using this)))
          by_cases hlo : (s[k].toNat : Int) < 48
          · clear hd
            go_wp2
            go_ret2
            exact ⟨ret_int2 (p := (0, false)) (by rw [← HF.out]; exact HH.out), Drawn.refl _⟩
          · have hhi : (57 : Int) < (s[k].toNat : Int) := by omega
            clear hd
            go_wp2
            go_ret2
            exact ⟨ret_int2 (p := (0, false)) (by rw [← HF.out]; exact HH.out), Drawn.refl _⟩
      · have hkn : k = s.size := by omega
        have HG : Hid (readAns s.data.toList = if Lib.itoa (spelt s.data.toList) = s.data.toList then (spelt s.data.toList, true) else (0, false)) := Go.Lib.hid (readAns_good (by
          have e : s.data.toList.take k = s.data.toList := List.take_of_length_le (by rw [size_list]; omega)
          have := HA.out
          rw [e] at this
          rw [← HTL.out]
          refine ⟨by rw [size_list]; omega, by rw [size_list]; omega, this⟩))
        have HSP : Hid (spelt s.data.toList = (acc : Int)) := Go.Lib.hid (by
          have e : s.data.toList.take k = s.data.toList := List.take_of_length_le (by rw [size_list]; omega)
          have h1 := HAC.out
          rw [e] at h1
          unfold spelt
          rw [← HTL.out, size_list, h1]
          rw [if_neg (by have := HTS.out; omega)])
        have CN : Hid (∀ W, Calls Tryd.prog 25 #[.int .i64 ((acc : Int))] W fun e w' => e = .returned (.string (txt (Lib.itoa (spelt s.data.toList)))) ∧ Drawn W w') := Go.Lib.hid (fun W => by
          rw [HSP.out]; exact l1Num_int _ W (by omega) (by omega))
        obtain ⟨x, hx⟩ : ∃ x, txt (Lib.itoa (spelt s.data.toList)) = x := ⟨_, rfl⟩
        rw [hx] at CN
        by_cases hxs : x = s
        · have HF : Hid (readAns s.data.toList = ((acc : Int), true)) := Go.Lib.hid (by
            have hsl : x.data.toList = Lib.itoa (spelt s.data.toList) := by rw [← hx, txt_list]
            rw [hxs] at hsl
            rw [HG.out, if_pos hsl.symm, HSP.out])
          subst hxs
          clear hx hkn
          go_wp2_with (go_at_call 25; refine (CN.out _).mono ?_; rintro e w' ⟨rfl, HW⟩)
          go_ret2
          exact ⟨ret_int2 (p := ((acc : Int), true)) (by rw [← HF.out]; exact HH.out), HW⟩
        · have HF : Hid (readAns s.data.toList = (0, false)) := Go.Lib.hid (by
            rw [HG.out, if_neg]
            intro e
            apply hxs
            rw [← hx, e]
            cases s; simp [txt])
          obtain ⟨hxs1, hxs2⟩ := str_ne hxs
          clear hx hkn
          go_wp2_with (go_at_call 25; refine (CN.out _).mono ?_; rintro e w' ⟨rfl, HW⟩)
          go_ret2
          exact ⟨ret_int2 (p := (0, false)) (by rw [← HF.out]; exact HH.out), HW⟩
  · have ci := fun W => l1In_of (s.size : Int) 1 6 W false (by simp; omega)
    have CI := Go.Lib.hid ci
    have HF : Hid (readAns s.data.toList = (0, false)) := Go.Lib.hid (readAns_bad (by rw [← HTL.out, size_list]; omega))
    clear ci hlen
    go_enter Tryd.func29, Tryd.ntmps29
    go_wp2_with (go_at_call 24; refine (CI.out _).mono ?_; rintro e w' ⟨rfl, rfl⟩)
    go_ret2
    exact ⟨ret_int2 (p := (0, false)) (by rw [← HF.out]; exact HH.out), Drawn.refl _⟩

theorem specParse_any (s : ByteArray) (w : World) (n : Int) (b : Bool) (hs : s.size ≤ 1048576) (h : readAns s.data.toList = (n, b)) :
    Calls Tryd.prog 14 #[.string s] w fun e w' => e = .returned (.tuple #[.int .i64 n, .bool b]) ∧ Drawn w w' := by
  have c : Calls Tryd.prog 29 #[.string s] w fun e w' => e = .returned (.tuple #[.int .i64 n, .bool b]) ∧ Drawn w w' := by
    by_cases h1 : 1 < s.size
    · by_cases hc : (s[0]'(by omega)).toNat = 45
      · exact l1Read_neg s w n b hs h1 hc h
      · exact l1Read_long s w n b hs h1 hc h
    · exact l1Read_short s w n b hs (by omega) h
  clear h
  go_enter Tryd.func14, Tryd.ntmps14
  go_wp2_with (go_at_call 29; refine c.mono ?_; rintro e w' ⟨rfl, HW⟩)
  go_ret2
  exact ⟨rfl, HW⟩

end Go.Proofs.YtjebehekhjbijaaDoor.ReadC

/-
  Contracts: the model's and the program's AppendChecksum. Conditions: the text has at most 2^20 bytes; the library's table lies as its text lays it (the card ties it).
-/
import Derived.Test.YtjebehekhjbijaaDoorFmt
import Derived.Test.YtjebehekhjbijaaDoorSum
import Derived.Test.YtjebehekhjbijaaDoorStands
import Derived.Lib.IndexAny
namespace Go.Proofs.YtjebehekhjbijaaDoor.SealC
open Go.RowKit SeesC NumC FmtC LaidC SumMath SumC JoinMath StandsC

/-- The digits of a text's checksum. -/
def digs (s : ByteArray) : ByteArray := txt (Lib.itoa (chk s.data.toList))

/-- A text with its checksum. -/
def sealB (s : ByteArray) : ByteArray := s ++ ({ data := #[35] } : ByteArray) ++ digs s

theorem itoa_len (n : Int) (h0 : 0 ≤ n) (h1 : n ≤ 999999) : (Lib.itoa n).length ≤ 1000000 := by
  unfold Lib.itoa
  rw [if_neg (by omega)]
  have := digits_len n.toNat
  omega

theorem digs_size (s : ByteArray) : (digs s).size ≤ 1000000 := by
  unfold digs
  rw [txt_size]
  have := chk_bd s.data.toList
  exact itoa_len _ (by omega) (by omega)

theorem sealB_size (s : ByteArray) : (sealB s).size = s.size + 1 + (digs s).size := by
  unfold sealB
  rw [ByteArray.size_append, ByteArray.size_append]
  rfl

/-- What AppendChecksum answers. -/
def appendAns (s : ByteArray) : ByteArray × Bool := if s.size ≤ 4000 ∧ hasB s 35 = false ∧ (sealB s).size ≤ 4000 then (sealB s, true) else (ByteArray.empty, false)

theorem l1Seal_any (s : ByteArray) (w : World) (hs : s.size ≤ 1048576) :
    Calls Tryd.prog 34 #[.string s] w fun e w' => e = .returned (.string (sealB s)) ∧ Drawn w w' := by
  have cs := fun W => l1Sum_any s W (by unfold maxLen; omega)
  have hb := chk_bd s.data.toList
  have hd := digs_size s
  obtain ⟨z, hz⟩ : ∃ z, chk s.data.toList = z := ⟨_, rfl⟩
  rw [hz] at cs hb
  have cn := fun W => l1Num_int z W (by omega) (by omega)
  have hdz : digs s = txt (Lib.itoa z) := by unfold digs; rw [hz]
  rw [← hdz] at cn
  obtain ⟨d, hdd⟩ : ∃ d, digs s = d := ⟨_, rfl⟩
  rw [hdd] at cn hd
  have HS : Hid (s ++ ({ data := #[35] } : ByteArray) ++ d = sealB s) := Go.Lib.hid (by unfold sealB; rw [hdd])
  have CS := Go.Lib.hid cs
  have CN := Go.Lib.hid cn
  clear hz hdz hdd cs cn
  go_enter Tryd.func34, Tryd.ntmps34
  go_wp2_with (first
    | (go_at_call 42; refine (CS.out _).mono ?_; rintro e w' ⟨rfl, rfl⟩)
    | (go_at_call 25; refine (CN.out _).mono ?_; rintro e w' ⟨rfl, HW⟩))
  go_ret
  exact ⟨by rw [← HS.out]; rfl, HW⟩

theorem specAppend_any (s : ByteArray) (w : World) (r : ByteArray) (b : Bool) (hs : s.size ≤ 1048576) (h : appendAns s = (r, b)) :
    Calls Tryd.prog 17 #[.string s] w fun e w' => e = .returned (.tuple #[.string r, .bool b]) ∧ Drawn w w' := by
  unfold appendAns at h
  by_cases h1 : s.size ≤ 4000
  · by_cases h2 : hasB s 35 = true
    · rw [if_neg (by rw [h2]; simp)] at h
      cases h
      have CH := Go.Lib.hid (fun W => l1Stands_of s 35 true W (by unfold maxLen; omega) h2)
      clear h2
      go_enter Tryd.func17, Tryd.ntmps17
      go_wp2_with (go_at_call 33; refine (CH.out _).mono ?_; rintro e w' ⟨rfl, rfl⟩)
      go_ret2
      exact ⟨rfl, Drawn.refl _⟩
    · have h2' : hasB s 35 = false := by simpa using h2
      have CH := Go.Lib.hid (fun W => l1Stands_of s 35 false W (by unfold maxLen; omega) h2')
      have CQ := Go.Lib.hid (fun W => l1Seal_any s W hs)
      obtain ⟨q, hq⟩ : ∃ q, sealB s = q := ⟨_, rfl⟩
      rw [hq] at CQ h
      by_cases h3 : q.size ≤ 4000
      · rw [if_pos ⟨h1, h2', h3⟩] at h
        cases h
        clear h2 h2' hq
        go_enter Tryd.func17, Tryd.ntmps17
        go_wp2_with (go_at_call 33; refine (CH.out _).mono ?_; rintro e w' ⟨rfl, rfl⟩)
        refine (CQ.out _).mono ?_
        rintro e W1 ⟨rfl, H1⟩
        go_wp2_with fail
        refine (CQ.out _).mono ?_
        rintro e W2 ⟨rfl, H2⟩
        go_wp2_with fail
        go_ret2
        exact ⟨rfl, H1.trans H2⟩
      · rw [if_neg (by omega)] at h
        cases h
        clear h2 h2' hq
        go_enter Tryd.func17, Tryd.ntmps17
        go_wp2_with (go_at_call 33; refine (CH.out _).mono ?_; rintro e w' ⟨rfl, rfl⟩)
        refine (CQ.out _).mono ?_
        rintro e W1 ⟨rfl, H1⟩
        go_wp2_with fail
        go_ret2
        exact ⟨rfl, H1⟩
  · rw [if_neg (by omega)] at h
    cases h
    go_enter Tryd.func17, Tryd.ntmps17
    go_wp2_with fail
    go_ret2
    exact ⟨rfl, Drawn.refl _⟩

theorem implAppend_any (s : ByteArray) (w : World) (r : ByteArray) (b : Bool) (hs : s.size ≤ 1048576) (hT : Tab w) (h : appendAns s = (r, b)) :
    Calls Tryd.prog 16 #[.string s] w fun e w' => e = .returned (.tuple #[.string r, .bool b]) ∧ Below w.heap.size w w' := by
  unfold appendAns at h
  by_cases h1 : s.size ≤ 4000
  · have cc := implChecksum_short s w h1
    have hb := chk_bd s.data.toList
    have ct := Tryd.strings_Contains_one s 35 w
    rw [← Lib.contains_iff_indexByte] at ct
    by_cases h2 : hasB s 35 = true
    · rw [if_neg (by rw [h2]; simp)] at h
      cases h
      rw [show s.data.toList.contains 35 = true from h2] at ct
      clear h2 hT
      go_enter Tryd.func16, Tryd.ntmps16
      go_wp2_with (first
        | (go_at_call 31; refine cc.mono ?_; rintro e w' ⟨rfl, rfl⟩)
        | (go_at_call 32; refine ct.mono ?_; rintro e w' ⟨rfl, hw⟩; rw [hw]))
      go_ret2
      exact ⟨rfl, Below.refl _ _⟩
    · have h2' : hasB s 35 = false := by simpa using h2
      rw [show s.data.toList.contains 35 = false from h2'] at ct
      have hsz := sealB_size s
      have hd := digs_size s
      obtain ⟨z, hz⟩ : ∃ z, chk s.data.toList = z := ⟨_, rfl⟩
      rw [hz] at cc hb
      have hans : fmtAns z = (digs s, true) := by unfold fmtAns digs; rw [if_neg (by omega), hz]
      have cf := implFmt_any z w (digs s) true (by
        have e1 : IntKind.i64.min = -9223372036854775808 := rfl
        have e2 : IntKind.i64.max = 9223372036854775807 := rfl
        simp [Lit.wf, e1, e2]; omega) hT hans
      obtain ⟨d, hdd⟩ : ∃ d, digs s = d := ⟨_, rfl⟩
      rw [hdd] at cf hd hsz
      have HS : Hid (s ++ ({ data := #[35] } : ByteArray) ++ d = sealB s) := Go.Lib.hid (by unfold sealB; rw [hdd])
      by_cases h3 : s.size + 1 + d.size ≤ 4000
      · rw [if_pos ⟨h1, h2', by omega⟩] at h
        cases h
        clear h2 h2' hT hz hdd hans hsz
        go_enter Tryd.func16, Tryd.ntmps16
        go_wp2_with (first
          | (go_at_call 31; refine cc.mono ?_; rintro e w' ⟨rfl, rfl⟩)
          | (go_at_call 32; refine ct.mono ?_; rintro e w' ⟨rfl, hw⟩; rw [hw])
          | (go_at_call 10; refine cf.mono ?_; rintro e w' ⟨rfl, HW⟩))
        go_ret2
        exact ⟨by rw [← HS.out]; rfl, HW⟩
      · rw [if_neg (by omega)] at h
        cases h
        clear h2 h2' hT hz hdd hans hsz
        go_enter Tryd.func16, Tryd.ntmps16
        go_wp2_with (first
          | (go_at_call 31; refine cc.mono ?_; rintro e w' ⟨rfl, rfl⟩)
          | (go_at_call 32; refine ct.mono ?_; rintro e w' ⟨rfl, hw⟩; rw [hw])
          | (go_at_call 10; refine cf.mono ?_; rintro e w' ⟨rfl, HW⟩))
        go_ret2
        exact ⟨rfl, HW⟩
  · rw [if_neg (by omega)] at h
    cases h
    have cc := implChecksum_long s w (by unfold maxLen; omega) (by omega)
    clear hT
    go_enter Tryd.func16, Tryd.ntmps16
    go_wp2_with (go_at_call 31; refine cc.mono ?_; rintro e w' ⟨rfl, rfl⟩)
    go_ret2
    exact ⟨rfl, Below.refl _ _⟩

end Go.Proofs.YtjebehekhjbijaaDoor.SealC

/-
  Contracts: the model's and the program's VerifyChecksum. Conditions: the text has at most 2^20 bytes; the library's table lies as its text lays it (the card ties it).
-/
import Derived.Test.YtjebehekhjbijaaDoorSeal
import Derived.Test.YtjebehekhjbijaaDoorSplit
import Derived.Test.YtjebehekhjbijaaDoorPre
import Derived.Test.YtjebehekhjbijaaDoorRead
import Derived.BigQuiet
import Derived.Outline
namespace Go.Proofs.YtjebehekhjbijaaDoor.VerifyC
open Go.RowKit SeesC NumC FmtC LaidC SumMath SumC JoinMath StandsC SealC SplitMath SplitC PreC ReadC

/-- What VerifyChecksum answers. -/
def verifyAns (s : ByteArray) : ByteArray × Bool := if s.size ≤ 4000 ∧ sealB (pre s 35) = s then (pre s 35, true) else (ByteArray.empty, false)

theorem specVerify_any (s : ByteArray) (w : World) (r : ByteArray) (b : Bool) (hs : s.size ≤ 1048576) (h : verifyAns s = (r, b)) :
    Calls Tryd.prog 20 #[.string s] w fun e w' => e = .returned (.tuple #[.string r, .bool b]) ∧ Below w.heap.size w w' := by
  unfold verifyAns at h
  by_cases h1 : s.size ≤ 4000
  · have cs := l1Split_any s 35 w hs
    have hp := pre_size s 35
    have CQ := Go.Lib.hid (fun W => l1Seal_any (pre s 35) W (by omega))
    have HH := Go.Lib.hid (split_head s 35)
    have HL := Go.Lib.hid (split_pos s 35)
    obtain ⟨q, hq⟩ : ∃ q, sealB (pre s 35) = q := ⟨_, rfl⟩
    rw [hq] at CQ h
    obtain ⟨t, ht⟩ : ∃ t, pre s 35 = t := ⟨_, rfl⟩
    rw [ht] at CQ h HH hp
    have e35 : ((35 : UInt8).toNat : Int) = 35 := rfl
    rw [e35] at cs
    by_cases h2 : q = s
    · rw [if_pos ⟨h1, h2⟩] at h
      cases h
      subst h2
      clear hq ht e35
      go_enter Tryd.func20, Tryd.ntmps20
      go_wp2_with fail
      refine cs.mono ?_
      rintro e W1 ⟨g, cap, rfl, hg, ho, hb⟩
      have hc := ho.cellAt 0 (by have := HL.out; omega)
      rw [List.getElem?_map, HH.out] at hc
      have hc0 : W1.cell? ⟨g, 0, none⟩ = some (.string r) := hc
      have hl := HL.out
      have HB := Go.Lib.hid hb
      clear ho hb hc cs
      go_wp2_with fail
      refine (CQ.out _).mono ?_
      rintro e W2 ⟨rfl, H2⟩
      go_wp2_with fail
      go_ret2
      exact ⟨rfl, HB.out.trans (H2.below _)⟩
    · rw [if_neg (by rintro ⟨_, e⟩; exact h2 e)] at h
      cases h
      obtain ⟨hx1, hx2⟩ := str_ne h2
      clear hq ht e35 h2
      go_enter Tryd.func20, Tryd.ntmps20
      go_wp2_with fail
      refine cs.mono ?_
      rintro e W1 ⟨g, cap, rfl, hg, ho, hb⟩
      have hc := ho.cellAt 0 (by have := HL.out; omega)
      rw [List.getElem?_map, HH.out] at hc
      have hc0 : W1.cell? ⟨g, 0, none⟩ = some (.string t) := hc
      have hl := HL.out
      have HB := Go.Lib.hid hb
      clear ho hb hc cs
      go_wp2_with fail
      refine (CQ.out _).mono ?_
      rintro e W2 ⟨rfl, H2⟩
      go_wp2_with fail
      go_ret2
      exact ⟨rfl, HB.out.trans (H2.below _)⟩
  · rw [if_neg (by omega)] at h
    cases h
    go_enter Tryd.func20, Tryd.ntmps20
    go_wp2_with fail
    go_ret2
    exact ⟨rfl, Below.refl _ _⟩

/-- What a cut gives: the first part, and two things more. -/
def CutTo (t : ByteArray) (w : World) (e : Ending) (w' : World) : Prop := (∃ x y, e = .returned (.tuple #[.string t, .string x, .bool y])) ∧ Drawn w w'

theorem stringsliteCut_any (s : ByteArray) (c : UInt8) (w : World) (hs : s.size ≤ 1048576) :
    Calls Tryd.prog 43 #[.string s, .string ⟨#[c]⟩] w fun e w' => CutTo (pre s c) w e w' := by
  have ci := Tryd.stringslite_Index_one s c w
  rcases index_cases s c with ⟨hi, hp, _⟩ | ⟨o, hi, ho, hp, _⟩
  · rw [hi] at ci
    have HP := Go.Lib.hid hp
    clear hp hi
    go_enter Tryd.func43, Tryd.ntmps43
    go_wp2_with (go_at_call 50; refine ci.mono ?_; rintro e w' ⟨rfl, hw⟩; rw [hw])
    go_ret3
    exact ⟨⟨_, _, by rw [HP.out]; rfl⟩, Drawn.refl _⟩
  · rw [hi] at ci
    have HP := Go.Lib.hid hp
    clear hp hi
    go_enter Tryd.func43, Tryd.ntmps43
    go_wp2_with (go_at_call 50; refine ci.mono ?_; rintro e w' ⟨rfl, hw⟩; rw [hw])
    go_quiet (fail)
    go_wp2
    go_ret3
    exact ⟨⟨_, _, by rw [HP.out]; rfl⟩, (Drawn.refl _).next _⟩

theorem stringsCut_any (s : ByteArray) (c : UInt8) (w : World) (hs : s.size ≤ 1048576) :
    Calls Tryd.prog 35 #[.string s, .string ⟨#[c]⟩] w fun e w' => CutTo (pre s c) w e w' := by
  have cc := stringsliteCut_any s c w hs
  obtain ⟨t, ht⟩ : ∃ t, pre s c = t := ⟨_, rfl⟩
  rw [ht] at cc ⊢
  clear ht
  go_enter Tryd.func35, Tryd.ntmps35
  go_wp2_with (go_at_call 43; refine cc.mono ?_; rintro e w' ⟨⟨x, y, rfl⟩, HW⟩)
  go_ret3
  exact ⟨⟨_, _, rfl⟩, HW⟩

theorem implVerify_any (s : ByteArray) (w : World) (r : ByteArray) (b : Bool) (hs : s.size ≤ 1048576) (hT : Tab w) (h : verifyAns s = (r, b)) :
    Calls Tryd.prog 18 #[.string s] w fun e w' => e = .returned (.tuple #[.string r, .bool b]) ∧ Below w.heap.size w w' := by
  have cc := stringsCut_any s 35 w hs
  have hp := pre_size s 35
  have hh := pre_has s 35
  obtain ⟨⟨q, ok⟩, hans⟩ : ∃ xb, appendAns (pre s 35) = xb := ⟨_, rfl⟩
  have CA := Go.Lib.hid (fun W (ht : Tab W) => implAppend_any (pre s 35) W q ok (by omega) ht hans)
  have HT := Go.Lib.hid hT
  unfold appendAns at hans
  unfold verifyAns at h
  have hss := sealB_size (pre s 35)
  by_cases hok : (sealB (pre s 35)).size ≤ 4000
  · rw [if_pos ⟨by omega, hh, hok⟩] at hans
    cases hans
    by_cases h2 : sealB (pre s 35) = s
    · rw [if_pos ⟨by rw [h2] at hok; exact hok, h2⟩] at h
      cases h
      rw [h2] at CA
      obtain ⟨t, ht⟩ : ∃ t, pre s 35 = t := ⟨_, rfl⟩
      rw [ht] at CA cc ⊢
      clear h2 hok hh hT hss ht hp
      go_enter Tryd.func18, Tryd.ntmps18
      go_wp2_with fail
      refine cc.mono ?_
      rintro e W1 ⟨⟨x, y, rfl⟩, H1⟩
      have C1 := CA.out W1 (HT.out.grow (H1.below _))
      clear cc
      go_wp2_with (go_at_call 16; refine C1.mono ?_; rintro e W2 ⟨rfl, H2⟩)
      go_ret2
      exact ⟨rfl, (H1.below _).trans (by rw [← H1.heap]; exact H2)⟩
    · rw [if_neg (by rintro ⟨_, e⟩; exact h2 e)] at h
      cases h
      obtain ⟨z, hz⟩ : ∃ z, sealB (pre s 35) = z := ⟨_, rfl⟩
      rw [hz] at CA h2
      obtain ⟨hx1, hx2⟩ := str_ne h2
      obtain ⟨t, ht⟩ : ∃ t, pre s 35 = t := ⟨_, rfl⟩
      rw [ht] at CA cc
      clear h2 hok hh hT hss ht hp hz
      go_enter Tryd.func18, Tryd.ntmps18
      go_wp2_with fail
      refine cc.mono ?_
      rintro e W1 ⟨⟨x, y, rfl⟩, H1⟩
      have C1 := CA.out W1 (HT.out.grow (H1.below _))
      clear cc
      go_wp2_with (go_at_call 16; refine C1.mono ?_; rintro e W2 ⟨rfl, H2⟩)
      go_ret2
      exact ⟨rfl, (H1.below _).trans (by rw [← H1.heap]; exact H2)⟩
  · rw [if_neg (by rintro ⟨_, _, e⟩; exact hok e)] at hans
    cases hans
    rw [if_neg (by rintro ⟨h1, e⟩; rw [e] at hok; exact hok h1)] at h
    cases h
    obtain ⟨t, ht⟩ : ∃ t, pre s 35 = t := ⟨_, rfl⟩
    rw [ht] at CA cc
    clear hok hh hT hss ht hp
    go_enter Tryd.func18, Tryd.ntmps18
    go_wp2_with fail
    refine cc.mono ?_
    rintro e W1 ⟨⟨x, y, rfl⟩, H1⟩
    have C1 := CA.out W1 (HT.out.grow (H1.below _))
    clear cc
    go_wp2_with (go_at_call 16; refine C1.mono ?_; rintro e W2 ⟨rfl, H2⟩)
    go_ret2
    exact ⟨rfl, (H1.below _).trans (by rw [← H1.heap]; exact H2)⟩

end Go.Proofs.YtjebehekhjbijaaDoor.VerifyC

/-
  Contracts: the model's FormatInt and the program's. Conditions: the library's table of powers of ten lies as its text lays it (the card ties it).
-/
import Derived.Test.YtjebehekhjbijaaDoorNum
import Derived.Test.YtjebehekhjbijaaDoorShelf
import Derived.Test.YtjebehekhjbijaaDoorLaid
namespace Go.Proofs.YtjebehekhjbijaaDoor.FmtC
open Go.RowKit SeesC NumC LaidC

theorem below_growN (w : World) (k : Nat) (os : Array Obj) : Below w.heap.size w (Go.Sort.grow (w.drewN k) os) :=
  ⟨rfl, rfl, rfl, by simp [Go.Sort.grow], fun q hq => by simp [Go.Sort.grow, Array.getElem?_append, hq]⟩

/-- What FormatInt answers. -/
def fmtAns (n : Int) : ByteArray × Bool := if n < -999999 ∨ 999999 < n then (ByteArray.empty, false) else (txt (Lib.itoa n), true)

theorem l1In_of (n a b : Int) (w : World) (r : Bool) (h : decide (a ≤ n ∧ n ≤ b) = r) :
    Calls Tryd.prog 24 #[.int .i64 n, .int .i64 a, .int .i64 b] w fun e w' => e = .returned (.bool r) ∧ w = w' := by
  by_cases h1 : a ≤ n
  · by_cases h2 : n ≤ b
    · have hr : Hid (r = true) := Go.Lib.hid (by rw [← h]; simp [h1, h2])
      clear h
      go_enter Tryd.func24, Tryd.ntmps24
      go_wp2
      go_ret
      exact ⟨by rw [hr.out]; rfl, rfl⟩
    · have hr : Hid (r = false) := Go.Lib.hid (by rw [← h]; simp [h2])
      clear h
      go_enter Tryd.func24, Tryd.ntmps24
      go_wp2
      go_ret
      exact ⟨by rw [hr.out]; rfl, rfl⟩
  · have hr : Hid (r = false) := Go.Lib.hid (by rw [← h]; simp [h1])
    have h1' : n < a := by omega
    clear h h1
    go_enter Tryd.func24, Tryd.ntmps24
    go_wp2
    go_ret
    exact ⟨by rw [hr.out]; rfl, rfl⟩

theorem specFmt_any (n : Int) (w : World) (s : ByteArray) (b : Bool) (h : fmtAns n = (s, b)) :
    Calls Tryd.prog 11 #[.int .i64 n] w fun e w' => e = .returned (.tuple #[.string s, .bool b]) ∧ Drawn w w' := by
  unfold fmtAns at h
  by_cases hr : n < -999999 ∨ 999999 < n
  · rw [if_pos hr] at h
    cases h
    have ci := fun W => l1In_of n (-999999) 999999 W false (by simp; omega)
    clear hr
    go_enter Tryd.func11, Tryd.ntmps11
    go_wp2_with (go_at_call 24; refine (ci _).mono ?_; rintro e w' ⟨rfl, rfl⟩)
    go_ret2
    exact ⟨rfl, Drawn.refl _⟩
  · rw [if_neg hr] at h
    cases h
    have ci := fun W => l1In_of n (-999999) 999999 W true (by simp; omega)
    have cn := fun W => l1Num_int n W (by omega) (by omega)
    obtain ⟨t, ht⟩ : ∃ t, txt (Lib.itoa n) = t := ⟨_, rfl⟩
    rw [ht] at cn ⊢
    clear hr ht
    go_enter Tryd.func11, Tryd.ntmps11
    go_wp2_with (first
      | (go_at_call 24; refine (ci _).mono ?_; rintro e w' ⟨rfl, rfl⟩)
      | (go_at_call 25; refine (cn _).mono ?_; rintro e w' ⟨rfl, HW⟩))
    go_ret2
    exact ⟨rfl, HW⟩

theorem implFmt_any (n : Int) (w : World) (s : ByteArray) (b : Bool) (hwf : (Lit.int .i64 n).wf = true) (ht : Tab w) (h : fmtAns n = (s, b)) :
    Calls Tryd.prog 10 #[.int .i64 n] w fun e w' => e = .returned (.tuple #[.string s, .bool b]) ∧ Below w.heap.size w w' := by
  unfold fmtAns at h
  have hb : -9223372036854775808 ≤ n ∧ n ≤ 9223372036854775807 := by
    have e1 : IntKind.i64.min = -9223372036854775808 := rfl
    have e2 : IntKind.i64.max = 9223372036854775807 := rfl
    simpa [Lit.wf, e1, e2] using hwf
  by_cases hr : n < -999999 ∨ 999999 < n
  · rw [if_pos hr] at h
    cases h
    rcases hr with hr | hr
    · go_enter Tryd.func10, Tryd.ntmps10
      go_wp2
      go_ret2
      exact ⟨rfl, Below.refl _ _⟩
    · have h2 : ¬ n < -999999 := by omega
      go_enter Tryd.func10, Tryd.ntmps10
      go_wp2
      go_ret2
      exact ⟨rfl, Below.refl _ _⟩
  · rw [if_neg hr] at h
    cases h
    have cn := Tryd.strconv_Itoa n hb.1 hb.2 w ht
    have h1 : -999999 ≤ n := by omega
    have h2 : n ≤ 999999 := by omega
    have e : (⟨(Lib.itoa n).toArray⟩ : ByteArray) = txt (Lib.itoa n) := rfl
    rw [e] at cn
    obtain ⟨t, htt⟩ : ∃ t, txt (Lib.itoa n) = t := ⟨_, rfl⟩
    rw [htt] at cn ⊢
    clear hr htt e ht hb hwf
    go_enter Tryd.func10, Tryd.ntmps10
    go_wp2_with (go_at_call 23; refine cn.mono ?_; rintro e w' ⟨rfl, HK⟩)
    go_ret2
    exact ⟨rfl, by obtain ⟨k, os, rfl⟩ := HK; exact below_growN _ _ _⟩

end Go.Proofs.YtjebehekhjbijaaDoor.FmtC

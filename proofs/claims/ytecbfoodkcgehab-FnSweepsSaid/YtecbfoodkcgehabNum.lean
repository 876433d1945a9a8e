/-
  Contract: the model writes a number as the decimal numeral that the library writes. Conditions: the number is between -999999 and 999999.
-/
import Derived.Test.YtecbfoodkcgehabSees
import Derived.Lib.ItoaNum
import Derived.Lib.Hide
import Derived.IntWalk
import Derived.BigQuiet
import Derived.Outline
namespace Go.Proofs.Ytecbfoodkcgehab.NumC
open Go.RowKit SeesC

/-- A list of bytes as a text. -/
def txt (l : List UInt8) : ByteArray := ⟨l.toArray⟩

theorem txt_list (l : List UInt8) : (txt l).data.toList = l := by simp [txt]
theorem txt_append (a b : List UInt8) : txt a ++ txt b = txt (a ++ b) := by
  unfold txt
  have : ∀ x y : ByteArray, x.data = y.data → x = y := fun x y h => by cases x; cases y; cases h; rfl
  apply this
  simp

theorem digits_len : ∀ u : Nat, (Lib.decDigits u).length ≤ u + 1 := by
  intro u
  induction u using Nat.strongRecOn with
  | _ u ih =>
    by_cases h : u < 10
    · rw [Lib.decDigits_one h]; simp
    · rw [Lib.decDigits, dif_neg h]
      have := ih (u / 10) (by omega)
      rw [List.length_append]
      simp only [List.length_cons, List.length_nil]
      omega

theorem txt_size (l : List UInt8) : (txt l).size = l.length := by show l.toArray.size = _; simp

/-- The digit of the table. -/
theorem digit_at : ∀ d : Fin 10, (ByteArray.extract { data := #[48, 49, 50, 51, 52, 53, 54, 55, 56, 57] } d.val (d.val + 1)) = txt [UInt8.ofNat (48 + d.val)] := by decide +kernel

set_option maxRecDepth 100000 in
theorem slice_digit (u : Nat) (h : u < 10) (W : World) : (Instr.slice 9 (Value.string { data := #[48, 49, 50, 51, 52, 53, 54, 55, 56, 57] }) (some (Value.int IntKind.i64 (u : Int))) (some (Value.int IntKind.i64 ((u : Int) + 1))) none).run Try.prog W = .ok (.string (txt [UInt8.ofNat (48 + u)])) W := by
  have hu : u = 0 ∨ u = 1 ∨ u = 2 ∨ u = 3 ∨ u = 4 ∨ u = 5 ∨ u = 6 ∨ u = 7 ∨ u = 8 ∨ u = 9 := by omega
  rcases hu with rfl | rfl | rfl | rfl | rfl | rfl | rfl | rfl | rfl | rfl
  all_goals first | kernel_rfl | rfl

set_option maxRecDepth 100000 in
theorem l1Num_small (u : Nat) (w : World) (h : u < 10) :
    Calls Try.prog 187 #[.int .i64 u] w fun e w' => e = .returned (.string (txt (Lib.decDigits u))) ∧ Drawn w w' := by
  have hs := fun W => slice_digit u h W
  obtain ⟨dg, hdg⟩ : ∃ dg, txt [UInt8.ofNat (48 + u)] = dg := ⟨_, rfl⟩
  rw [hdg] at hs
  have HD : Hid (dg = txt (Lib.decDigits u)) := Go.Lib.hid (by rw [← hdg, Lib.decDigits_one h])
  have hi : (u : Int) < 10 := by omega
  clear hdg
  go_enter Try.func187, Try.ntmps187
  go_wp2
  go_ret
  exact ⟨by rw [← HD.out]; rfl, Drawn.refl _⟩

set_option maxRecDepth 100000 in
theorem l1Num_nat (k : Nat) : ∀ (u : Nat) (w : World), u < 10 ^ k → u ≤ 999999 →
    Calls Try.prog 187 #[.int .i64 u] w fun e w' => e = .returned (.string (txt (Lib.decDigits u))) ∧ Drawn w w' := by
  induction k with
  | zero => intro u w h _; exact l1Num_small u w (by omega)
  | succ k ih =>
    intro u w h hm
    by_cases h10 : u < 10
    · exact l1Num_small u w h10
    · have h1 : u / 10 < 10 ^ k := by rw [Nat.pow_succ] at h; omega
      obtain ⟨pre, hpre⟩ : ∃ pre, txt (Lib.decDigits (u / 10)) = pre := ⟨_, rfl⟩
      obtain ⟨dg, hdg⟩ : ∃ dg, txt [UInt8.ofNat (48 + u % 10)] = dg := ⟨_, rfl⟩
      have HC : Hid (∀ W, Calls Try.prog 187 #[.int .i64 ((u : Int) / 10)] W fun e w' => e = .returned (.string pre) ∧ Drawn W w') := Go.Lib.hid (fun W => by have := ih (u / 10) W h1 (by omega); rw [hpre] at this; exact this)
      have hi : ¬ (u : Int) < 10 := by omega
      have HD : Hid (pre ++ dg = txt (Lib.decDigits u)) := Go.Lib.hid (by rw [← hpre, ← hdg, txt_append]; congr 1; conv => rhs; rw [Lib.decDigits, dif_neg h10])
      have hs : ∀ W, (Instr.slice 9 (Value.string { data := #[48, 49, 50, 51, 52, 53, 54, 55, 56, 57] }) (some (Value.int IntKind.i64 ((u : Int) % 10))) (some (Value.int IntKind.i64 ((u : Int) % 10 + 1))) none).run Try.prog W = .ok (.string dg) W := fun W => by
        have := slice_digit (u % 10) (by omega) W
        rw [hdg] at this
        exact this
      have q1 : IntKind.i64.wrap ((u : Int) / 10) = (u : Int) / 10 := IntWalk.i64_in _ (by omega)
      have q2 : (u : Int).tmod 10 = (u : Int) % 10 := Int.tmod_eq_emod_of_nonneg (by omega)
      have q3 : IntKind.i64.wrap ((u : Int) % 10 + 1) = (u : Int) % 10 + 1 := IntWalk.i64_in _ (by omega)
      have q4 : IntKind.i64.wrap ((u : Int) % 10) = (u : Int) % 10 := IntWalk.i64_in _ (by omega)
      have hs1 : pre.size ≤ 1000000 := by rw [← hpre, txt_size]; have := digits_len (u / 10); omega
      have hs2 : dg.size ≤ 1 := by rw [← hdg, txt_size]; simp
      clear hpre hdg
      clear h1 ih h
      go_enter Try.func187, Try.ntmps187
      go_wp2_with fail
      go_quiet ((go_at_call 187; exact quiet_drawn (HC.out _)))
      clear q1 q2 q3 q4 hs
      go_wp2
      go_ret
      exact ⟨by rw [← HD.out]; rfl, (Drawn.refl _).next _⟩

set_option maxRecDepth 100000 in
theorem l1Num_neg (k : Nat) : ∀ (m : Nat) (w : World), 1 ≤ m → m < 10 ^ k → m ≤ 999999 →
    Calls Try.prog 187 #[.int .i64 (-(m : Int))] w fun e w' => e = .returned (.string (txt (45 :: Lib.decDigits m))) ∧ Drawn w w' := by
  induction k with
  | zero => intro m w h1 h _; exact absurd h (by simp; omega)
  | succ k ih =>
    intro m w h1 h hm
    by_cases h10 : m < 10
    · obtain ⟨pre, hpre⟩ : ∃ pre, txt (Lib.decDigits m) = pre := ⟨_, rfl⟩
      have HC : Hid (∀ W, Calls Try.prog 187 #[.int .i64 (m : Int)] W fun e w' => e = .returned (.string pre) ∧ Drawn W w') := Go.Lib.hid (fun W => by have := l1Num_small m W h10; rw [hpre] at this; exact this)
      have HD : Hid (({ data := #[45] } : ByteArray) ++ pre = txt (45 :: Lib.decDigits m)) := Go.Lib.hid (by rw [← hpre]; exact txt_append [45] (Lib.decDigits m))
      have hs1 : pre.size ≤ 1000000 := by rw [← hpre, txt_size]; have := digits_len m; omega
      have hi : -10 < -(m : Int) := by omega
      have hi2 : -(m : Int) < 0 := by omega
      clear hpre ih h
      go_enter Try.func187, Try.ntmps187
      go_wp2_with (go_at_call 187; refine (HC.out _).mono ?_; rintro e w' ⟨rfl, HW⟩)
      go_ret
      exact ⟨by rw [← HD.out]; rfl, HW⟩
    · obtain ⟨pre, hpre⟩ : ∃ pre, txt (45 :: Lib.decDigits (m / 10)) = pre := ⟨_, rfl⟩
      obtain ⟨dg, hdg⟩ : ∃ dg, txt [UInt8.ofNat (48 + m % 10)] = dg := ⟨_, rfl⟩
      have HC : Hid (∀ W, Calls Try.prog 187 #[.int .i64 (-((m : Int) / 10))] W fun e w' => e = .returned (.string pre) ∧ Drawn W w') := Go.Lib.hid (fun W => by
        have := ih (m / 10) W (by omega) (by rw [Nat.pow_succ] at h; omega) (by omega); rw [hpre] at this; exact this)
      have HC2 : Hid (∀ W, Calls Try.prog 187 #[.int .i64 ((m : Int) % 10)] W fun e w' => e = .returned (.string dg) ∧ Drawn W w') := Go.Lib.hid (fun W => by
        have := l1Num_small (m % 10) W (by omega)
        rw [Lib.decDigits_one (by omega), hdg] at this; exact this)
      have HD : Hid (pre ++ dg = txt (45 :: Lib.decDigits m)) := Go.Lib.hid (by rw [← hpre, ← hdg, txt_append]; congr 1; rw [show Lib.decDigits m = Lib.decDigits (m / 10) ++ [UInt8.ofNat (48 + m % 10)] by (conv => lhs; rw [Lib.decDigits, dif_neg h10])]; rfl)
      have hs1 : pre.size ≤ 1000001 := by rw [← hpre, txt_size]; have := digits_len (m / 10); simp; omega
      have hs2 : dg.size ≤ 1 := by rw [← hdg, txt_size]; simp
      have q1 : (-(m : Int)).tdiv 10 = -((m : Int) / 10) := by rw [Int.neg_tdiv, Int.tdiv_eq_ediv_of_nonneg (by omega)]
      have q2 : (-(m : Int)).tmod 10 = -((m : Int) % 10) := by rw [Int.neg_tmod, Int.tmod_eq_emod_of_nonneg (by omega)]
      have hi : -(m : Int) ≤ -10 := by omega
      have hi2 : -(m : Int) < 0 := by omega
      clear hpre hdg ih h
      go_enter Try.func187, Try.ntmps187
      go_wp2_with fail
      refine (HC.out _).mono ?_
      rintro e W1 ⟨rfl, H1⟩
      go_wp2_with fail
      refine (HC2.out _).mono ?_
      rintro e W2 ⟨rfl, H2⟩
      go_wp2_with fail
      go_ret
      exact ⟨by rw [← HD.out]; rfl, H1.trans H2⟩

theorem l1Num_int (n : Int) (w : World) (h0 : -999999 ≤ n) (h1 : n ≤ 999999) :
    Calls Try.prog 187 #[.int .i64 n] w fun e w' => e = .returned (.string (txt (Lib.itoa n))) ∧ Drawn w w' := by
  by_cases h : n < 0
  · have e : n = -((n.natAbs : Nat) : Int) := by omega
    have := l1Num_neg 6 n.natAbs w (by omega) (by omega) (by omega)
    rw [← e] at this
    unfold Lib.itoa
    rw [if_pos h]
    exact this
  · have e : n = ((n.toNat : Nat) : Int) := by omega
    have := l1Num_nat 6 n.toNat w (by omega) (by omega)
    rw [← e] at this
    unfold Lib.itoa
    rw [if_neg h]
    exact this

end Go.Proofs.Ytecbfoodkcgehab.NumC

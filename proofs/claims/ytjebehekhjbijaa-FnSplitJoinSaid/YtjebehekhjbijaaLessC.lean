/-
  Contracts: the model's and the program's LessString. Conditions: none.
-/
import Derived.Test.YtjebehekhjbijaaSees
import Derived.WalkLawsBesides
import Derived.Lib.Hide
namespace Go.Proofs.Ytjebehekhjbijaa.LessC
open Go.RowKit SeesC

/-- One text is less than another. -/
def lt (a b : ByteArray) : Bool := Op.bytesLess a.toList b.toList

theorem bytesLess_not : ∀ (x y : List UInt8), Op.bytesLess x y = true → Op.bytesLess y x = false := by
  intro x
  induction x with
  | nil => intro y h; cases y <;> simp_all [Op.bytesLess]
  | cons a x ih =>
    intro y h
    cases y with
    | nil => simp [Op.bytesLess] at h
    | cons b y =>
      simp only [Op.bytesLess] at h ⊢
      simp only [Bool.or_eq_true, decide_eq_true_eq, Bool.and_eq_true, beq_iff_eq] at h
      rw [← Bool.not_eq_true]
      simp only [Bool.or_eq_true, decide_eq_true_eq, Bool.and_eq_true, beq_iff_eq]
      rintro (h2 | ⟨h2, h3⟩)
      · rcases h with h | ⟨h, _⟩
        · rw [UInt8.lt_iff_toNat_lt] at h h2; omega
        · subst h; rw [UInt8.lt_iff_toNat_lt] at h2; omega
      · rcases h with h | ⟨h, h4⟩
        · subst h2; rw [UInt8.lt_iff_toNat_lt] at h; omega
        · rw [ih y h4] at h3; cases h3

theorem implLess_of (a b : ByteArray) (r : Bool) (w : World) (h : lt a b = r) :
    Calls Try.prog 15 #[.string a, .string b] w fun e w' => e = .returned (.bool r) ∧ w = w' := by
  have H := Go.Lib.hid h
  clear h
  go_enter Try.func15, Try.ntmps15
  go_wp2
  go_ret
  exact ⟨by rw [← H.out]; rfl, rfl⟩

theorem specLess_of (a b : ByteArray) (r : Bool) (w : World) (h : lt a b = r) :
    Calls Try.prog 16 #[.string a, .string b] w fun e w' => e = .returned (.bool r) ∧ w = w' := by
  have H := Go.Lib.hid h
  clear h
  go_enter Try.func16, Try.ntmps16
  go_wp2
  go_ret
  exact ⟨by rw [← H.out]; rfl, rfl⟩

end Go.Proofs.Ytjebehekhjbijaa.LessC

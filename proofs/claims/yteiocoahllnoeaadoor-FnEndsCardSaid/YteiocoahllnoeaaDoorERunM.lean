/-
  The mathematics of what comes out by an ends word. Conditions: none. Plain facts on texts and lists: nothing of the program.
-/
import Derived.Test.YteiocoahllnoeaaDoorEWM
import Derived.Test.YteiocoahllnoeaaDoorOrd
namespace Go.Proofs.YteiocoahllnoeaaDoor.ERunM
open WordMath EndM OrdMath

/-- In an ends word each sign is a push or a pop of what is there. -/
theorem EWord.at {w : ByteArray} (h : EWord w) {k : Nat} (hk : k < w.size) : ∃ d, eTo w k = some d ∧ d ≤ w.size - k ∧ d ≤ k ∧ ((byt w k = 73 ∧ eTo w (k + 1) = some (d + 1) ∧ d + 1 ≤ w.size - (k + 1)) ∨ (byt w k = 84 ∧ 0 < d ∧ eTo w (k + 1) = some (d - 1)) ∨ (byt w k = 66 ∧ 0 < d ∧ eTo w (k + 1) = some (d - 1))) := by
  obtain ⟨h79, hw⟩ := (eword_iff w).1 h
  obtain ⟨d, h1, h2, h3, h4⟩ := hw.at (by rw [stkB_size]; exact hk)
  rw [stkB_size] at h2 h4
  rw [stkB_byt w k hk] at h4
  have hc := h79 k hk
  refine ⟨d, by rw [eto_held k (by omega) (fun j hj => h79 j (by omega))]; exact h1, h2, h3, ?_⟩
  have e1 := eto_held (w := w) (k + 1) (by omega) (fun j hj => h79 j (by omega))
  rcases h4 with ⟨h5, h6, h7⟩ | ⟨h5, h6, h7⟩
  · exact .inl ⟨(stk_I _).1 h5, by rw [e1]; exact h6, h7⟩
  · rcases (stk_O hc).1 h5 with h8 | h8
    · exact .inr (.inl ⟨h8, h6, by rw [e1]; exact h7⟩)
    · exact .inr (.inr ⟨h8, h6, by rw [e1]; exact h7⟩)

/-- What has come out, what is there, and how many have been pushed, behind the first signs. -/
def runE (zs : List Int) (w : ByteArray) : Nat → List Int × List Int × Nat
  | 0 => ([], [], 0)
  | k + 1 => let r := runE zs w k
    if byt w k = 73 then (r.1, r.2.1 ++ [zs.getD r.2.2 0], r.2.2 + 1)
    else if byt w k = 84 then (r.1 ++ [r.2.1.getLast?.getD 0], r.2.1.dropLast, r.2.2)
    else (r.1 ++ [r.2.1.head?.getD 0], r.2.1.tail, r.2.2)

theorem runE_I {zs o s : List Int} {x : Nat} {w : ByteArray} {k : Nat} (h : runE zs w k = (o, s, x)) (hc : byt w k = 73) : runE zs w (k + 1) = (o, s ++ [zs.getD x 0], x + 1) := by
  simp [runE, h, hc]

theorem runE_T {zs o s : List Int} {x : Nat} {w : ByteArray} {k : Nat} (h : runE zs w k = (o, s, x)) (hc : byt w k = 84) : runE zs w (k + 1) = (o ++ [s.getLast?.getD 0], s.dropLast, x) := by
  simp [runE, h, hc]

theorem runE_B {zs o s : List Int} {x : Nat} {w : ByteArray} {k : Nat} (h : runE zs w k = (o, s, x)) (hc : byt w k = 66) : runE zs w (k + 1) = (o ++ [s.head?.getD 0], s.tail, x) := by
  simp [runE, h, hc]

theorem runE_len {zs : List Int} {w : ByteArray} : ∀ (k d : Nat), eTo w k = some d → (runE zs w k).2.1.length = d ∧ (runE zs w k).1.length + d = (runE zs w k).2.2 ∧ (runE zs w k).1.length + (runE zs w k).2.2 = k
  | 0, d, h => by cases h; exact ⟨rfl, rfl, rfl⟩
  | k + 1, e, h => by
    obtain ⟨d, hd, hc⟩ := eto_cases h
    have ih := runE_len (zs := zs) k d hd
    obtain ⟨o, s, x, hr⟩ : ∃ o s x, runE zs w k = (o, s, x) := ⟨_, _, _, rfl⟩
    rw [hr] at ih
    simp only at ih
    rcases hc with ⟨h1, rfl⟩ | ⟨h1, h2, rfl⟩
    · rw [runE_I hr h1]; simp; omega
    · rcases h1 with h1 | h1
      · rw [runE_T hr h1]; simp; omega
      · rw [runE_B hr h1]; simp; omega

def outE (zs : List Int) (w : ByteArray) : List Int := (runE zs w w.size).1

theorem outE_len {zs : List Int} {w : ByteArray} (h : EWord w) : 2 * (outE zs w).length = w.size := by
  have h1 := runE_len (zs := zs) w.size 0 h.2.2
  unfold outE
  omega

def runEAns (zs : List Int) (w : ByteArray) : List Int × Bool := if Ord zs ∧ EWord w ∧ w.size = 2 * zs.length then (outE zs w, true) else ([], false)

theorem runEAns_len {zs : List Int} {w : ByteArray} {xs : List Int} {b : Bool} (h : runEAns zs w = (xs, b)) : xs.length ≤ 1048576 := by
  unfold runEAns at h
  split at h
  · rename_i h1
    cases h
    have := outE_len (zs := zs) h1.2.1
    have := h1.2.1.2.1
    omega
  · cases h; simp

end Go.Proofs.YteiocoahllnoeaaDoor.ERunM

/-
  Contracts and plain facts that the laws' texts lean on. Conditions: as each states.
-/
import Derived.Test.YtpkjnlabjmpokaaPx12
import Derived.BigQuiet
import Derived.IntWalk
import Derived.RangeFuncRecord

namespace Go.Proofs.Ytpkjnlabjmpokaa.EqA2LC
open Go.RowKit SeesC IntsC ExactC
set_option linter.unusedVariables false

theorem two_cells (w : World) (x y : Value) (t : TypeId) : (w.alloc (.cells #[x, y] t)).cell? ⟨w.heap.size, 0, none⟩ = some x ∧ (w.alloc (.cells #[x, y] t)).cell? ⟨w.heap.size, 1, none⟩ = some y := by
  have hn := World.alloc_heap_new w (.cells #[x, y] t)
  constructor <;> (unfold World.cell?; simp only [hn]; rfl)

set_option maxRecDepth 100000 in
set_option maxHeartbeats 2000000 in
theorem eqIntA2_same (w : World) (a b : Int) :
    Calls Try.prog 19 #[.agg #[.int .i64 a, .int .i64 b], .agg #[.int .i64 a, .int .i64 b]] w fun e w' => e = .returned (.bool true) ∧ Below w.heap.size w w' := by
  have hA1 := two_cells w (.int .i64 a) (.int .i64 b) 23
  have hb1 : Below w.heap.size w (w.alloc (.cells #[.int .i64 a, .int .i64 b] 23)) := (Below.refl _ _).alloc (Nat.le_refl _) _
  have hb2 := hb1.alloc hb1.size (.cells #[.int .i64 a, .int .i64 b] 23)
  have hbb := (Below.refl (w.alloc (.cells #[.int .i64 a, .int .i64 b] 23)).heap.size (w.alloc (.cells #[.int .i64 a, .int .i64 b] 23))).alloc (Nat.le_refl _) (.cells #[.int .i64 a, .int .i64 b] 23)
  have hA2 := two_cells (w.alloc (.cells #[.int .i64 a, .int .i64 b] 23)) (.int .i64 a) (.int .i64 b) 23
  rw [World.size_alloc] at hA2 hbb
  have a0 := (hbb.cell (p := ⟨w.heap.size, 0, none⟩) (by simp)).trans hA1.1
  have a1 := (hbb.cell (p := ⟨w.heap.size, 1, none⟩) (by simp)).trans hA1.2
  have HA := Go.Lib.hid (And.intro a0 (And.intro a1 (And.intro hA2.1 (And.intro hA2.2 hb2))))
  clear hA1 hA2 hb1 hb2 hbb a0 a1
  go_enter Try.func19, Try.ntmps19
  go_wp2_with fail
  obtain ⟨w2, hw2⟩ : ∃ w2, (w.alloc (.cells #[.int .i64 a, .int .i64 b] 23)).alloc (.cells #[.int .i64 a, .int .i64 b] 23) = w2 := ⟨_, rfl⟩
  rw [hw2] at HA ⊢
  clear hw2
  go_loopw [5] (fun i wr => ∃ k : Nat, k ≤ 2 ∧ i = .int .i64 k ∧ Hid (Drawn w2 wr)) (fun i _ => 2 - (intOf i).toNat)
  case atStart => exact ⟨0, by omega, rfl, Go.Lib.hid (Drawn.refl _)⟩
  case round =>
    obtain ⟨k, hk, rfl, HD⟩ := hrel
    by_cases hlt : k < 2
    · obtain ⟨x, hx⟩ : ∃ x : Int, ∀ g, (g = w.heap.size ∨ g = w.heap.size + 1) → wr.cell? ⟨g, k, none⟩ = some (.int .i64 x) := by
        match k, hlt with
        | 0, _ => exact ⟨a, by rintro g (rfl | rfl); exact (HD.out.cell _).trans HA.out.1; exact (HD.out.cell _).trans HA.out.2.2.1⟩
        | 1, _ => exact ⟨b, by rintro g (rfl | rfl); exact (HD.out.cell _).trans HA.out.2.1; exact (HD.out.cell _).trans HA.out.2.2.2.1⟩
      have hck := hx _ (.inl rfl)
      have hck2 := hx _ (.inr rfl)
      have hlti : (k : Int) < 2 := by omega
      clear hx
      go_wp2
      go_quiet (fail)
      go_wp2
      go_roundw
      case rel => exact ⟨k + 1, by omega, by go_num, Go.Lib.hid (HD.out.next _)⟩
      case measure => simp [intOf]; omega
    · go_wp2
      go_ret
      exact ⟨rfl, HA.out.2.2.2.2.trans (HD.out.below _)⟩

end Go.Proofs.Ytpkjnlabjmpokaa.EqA2LC

namespace Go.Proofs.Ytpkjnlabjmpokaa.UsedC
open Go.RowKit SeesC IntsC ExactC ListsC

theorem below_heap {w w' a : World} {B : Nat} (h : Below B a w) (h1 : w'.os = w.os) (h2 : w'.tape = w.tape) (h3 : w'.output = w.output) (h4 : w'.heap = w.heap) : Below B a w' :=
  ⟨h1.trans h.os, h2.trans h.tape, h3.trans h.output, by rw [h4]; exact h.size, fun q hq => by rw [h4]; exact h.block q hq⟩

theorem own_heap {w w' : World} (h : w'.heap = w.heap) {base size n : Nat} {ty : TypeId} {v : Value} {xs : List Value} (ho : w.ownsRow base ty size v n xs) : w'.ownsRow base ty size v n xs := by
  unfold World.ownsRow at ho ⊢
  rw [h]
  exact ho

theorem new_cell (w : World) (v : Value) (t : TypeId) : (w.alloc (.cells #[v] t)).cell? ⟨w.heap.size, 0, none⟩ = some v := by
  have hn := World.alloc_heap_new w (.cells #[v] t)
  unfold World.cell?; simp only [hn]; rfl

theorem looks_grow {w w' : World} {n : Nat} {v : Value} {L : List (List Value)} (h : Looks w n v L) (hb : Below w.heap.size w w') : Looks w' n v L := by
  obtain ⟨gs, h1, h2, h3⟩ := h
  exact ⟨gs, h1, h2.grow hb, fun i hi => (h3 i hi).grow hb⟩

end Go.Proofs.Ytpkjnlabjmpokaa.UsedC

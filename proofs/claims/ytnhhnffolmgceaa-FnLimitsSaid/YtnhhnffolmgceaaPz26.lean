/-
  Contracts and plain facts that the laws' texts lean on. Conditions: as each states.
-/
import Derived.Test.YtnhhnffolmgceaaPz19
import Derived.Test.YtnhhnffolmgceaaPz23
import Derived.BigQuiet
import Derived.IntWalk
import Derived.Deep.QuietTactic

section
namespace Go.Proofs.Ytnhhnffolmgceaa.CutStC
open Go.RowKit SeesC IntsC ExactC NumC IterC OrdMath WordMath OrdFacts InC OrderC AtC EndsM SweepM StackM

theorem take_snoc {st : List Int} {k : Nat} {p : Int} (hk : k < st.length) (h : st.getD k 0 = p) : st.take (k + 1) = st.take k ++ [p] := by
  rw [List.take_succ_eq_append_getElem hk, ← h]
  simp [hk]

set_option maxRecDepth 100000 in
set_option maxHeartbeats 2000000 in
theorem cutStack_any (st : List Int) (x : Int) (m g c B : Nat) (W : World) (hst : st.length = m) (hm : m ≤ 8) (hown : W.ownsRow B 3 1 (.slice (some ⟨g, 0, none⟩) m c) m (vals st)) :
    Calls Try.prog 112 #[.slice (some ⟨g, 0, none⟩) m c, .int .i64 x] W fun e w' => ∃ k o' c', k ≤ m ∧ (k < m → o' = k) ∧ st.take k = belw st x ∧ e = .returned (.tuple #[.slice (some ⟨g, 0, none⟩) k k, .slice (some ⟨g, o', none⟩) (m - k) c']) ∧ ∃ q, w' = W.drewN q := by
  have hmc : m ≤ c := by
    rcases hown.2 with ⟨h0, _⟩ | ⟨g', cap', cur, h0, _, _, h1, _⟩
    · cases h0
    · cases h0; exact h1
  have HC := Go.Lib.hid (fun (j : Nat) (hj : j < m) => (show W.cell? ⟨g, j, none⟩ = some (.int .i64 (st.getD j 0)) by rw [hown.cellAt j (by omega)]; simp [show j < st.length by omega]))
  have HST := Go.Lib.hid hst
  clear hown
  go_enter Try.func112, Try.ntmps112
  go_wp2
  go_loopw [6] (fun cv wr => ∃ (k : Nat), cv = .int .i64 k ∧ k ≤ m ∧ Hid (wr = W) ∧ Hid (belw (st.take k) x = belw st x)) (fun cv _ => (intOf cv).toNat)
  case atStart => exact ⟨m, rfl, Nat.le_refl _, Go.Lib.hid (by first | rfl | trivial), Go.Lib.hid (by rw [List.take_of_length_le (by omega)])⟩
  case round =>
    obtain ⟨k, rfl, hkm, HW, HB⟩ := hrel
    have hw := HW.out
    subst hw
    by_cases hk0 : k = 0
    · subst hk0
      have HE : Hid (st.take 0 = belw st x) := Go.Lib.hid (by rw [← HB.out]; rfl)
      go_wp2_with fail
      go_quiet (fail)
      go_wp2_with fail
      go_ret2
      exact ⟨0, 0, _, Nat.zero_le _, fun _ => rfl, HE.out, rfl, _, rfl⟩
    · obtain ⟨j, rfl⟩ : ∃ j, k = j + 1 := ⟨k - 1, by omega⟩
      obtain ⟨p, hp⟩ : ∃ p, st.getD j 0 = p := ⟨_, rfl⟩
      have hck := HC.out j (by omega)
      rw [hp] at hck
      have HT := Go.Lib.hid (take_snoc (st := st) (k := j) (p := p) (by omega) hp)
      have q1 : IntKind.i64.wrap ((j : Int) + 1 - 1) = (j : Int) := by rw [IntWalk.i64_in _ (by omega)]; omega
      have hjm : (j : Int) < (m : Int) := by omega
      clear hp
      by_cases hpx : p < x
      · have hpd : decide (p < x) = true := decide_eq_true hpx
        have HN : Hid (belw (st.take j) x = belw st x) := Go.Lib.hid (by rw [← HB.out, HT.out, belw_less hpx])
        go_wp2
        go_roundw
        case rel => exact ⟨j, rfl, by omega, Go.Lib.hid (by first | rfl | trivial), HN⟩
        case measure => simp [intOf]
      · have hpd : decide (p < x) = false := decide_eq_false hpx
        have HE : Hid (st.take (j + 1) = belw st x) := Go.Lib.hid (by rw [← HB.out, HT.out, belw_not hpx])
        by_cases hcj : c = j + 1
        · subst hcj
          go_wp2_with fail
          go_quiet (fail)
          go_wp2_with fail
          go_ret2
          exact ⟨j + 1, 0, 0, hkm, fun h => by omega, HE.out, by rw [show m - (j + 1) = 0 by omega]; rfl, _, rfl⟩
        · have hcj2 : j + 1 < c := by omega
          go_wp2_with fail
          go_quiet (fail)
          go_wp2_with fail
          go_ret2
          exact ⟨j + 1, j + 1, _, hkm, fun _ => rfl, HE.out, rfl, _, rfl⟩

end Go.Proofs.Ytnhhnffolmgceaa.CutStC

end

section
namespace Go.Proofs.Ytnhhnffolmgceaa.CutSt2C
open Go.RowKit SeesC IntsC ExactC NumC IterC OrdMath WordMath OrdFacts InC OrderC AtC EndsM SweepM StackM CutStC

set_option maxRecDepth 100000 in
set_option maxHeartbeats 2000000 in
theorem cutStack2_any (st : List Int) (x : Int) (m g c cq B : Nat) (hmc : m ≤ cq) (W : World) (hst : st.length = m) (hm : m ≤ 8) (hown : W.ownsRow B 3 1 (.slice (some ⟨g, 0, none⟩) m c) m (vals st)) :
    Calls Try.prog 112 #[.slice (some ⟨g, 0, none⟩) m cq, .int .i64 x] W fun e w' => ∃ k o' c', k ≤ m ∧ (k < m → o' = k) ∧ st.take k = belw st x ∧ e = .returned (.tuple #[.slice (some ⟨g, 0, none⟩) k k, .slice (some ⟨g, o', none⟩) (m - k) c']) ∧ ∃ q, w' = W.drewN q := by
  have HC := Go.Lib.hid (fun (j : Nat) (hj : j < m) => (show W.cell? ⟨g, j, none⟩ = some (.int .i64 (st.getD j 0)) by rw [hown.cellAt j (by omega)]; simp [show j < st.length by omega]))
  have HST := Go.Lib.hid hst
  clear hown
  go_enter Try.func112, Try.ntmps112
  go_wp2
  go_loopw [6] (fun cv wr => ∃ (k : Nat), cv = .int .i64 k ∧ k ≤ m ∧ Hid (wr = W) ∧ Hid (belw (st.take k) x = belw st x)) (fun cv _ => (intOf cv).toNat)
  case atStart => exact ⟨m, rfl, Nat.le_refl _, Go.Lib.hid (by first | rfl | trivial), Go.Lib.hid (by rw [List.take_of_length_le (by omega)])⟩
  case round =>
    obtain ⟨k, rfl, hkm, HW, HB⟩ := hrel
    have hw := HW.out
    subst hw
    by_cases hk0 : k = 0
    · subst hk0
      have HE : Hid (st.take 0 = belw st x) := Go.Lib.hid (by rw [← HB.out]; rfl)
      go_wp2_with fail
      go_quiet (fail)
      go_wp2_with fail
      go_ret2
      exact ⟨0, 0, _, Nat.zero_le _, fun _ => rfl, HE.out, rfl, _, rfl⟩
    · obtain ⟨j, rfl⟩ : ∃ j, k = j + 1 := ⟨k - 1, by omega⟩
      obtain ⟨p, hp⟩ : ∃ p, st.getD j 0 = p := ⟨_, rfl⟩
      have hck := HC.out j (by omega)
      rw [hp] at hck
      have HT := Go.Lib.hid (take_snoc (st := st) (k := j) (p := p) (by omega) hp)
      have q1 : IntKind.i64.wrap ((j : Int) + 1 - 1) = (j : Int) := by rw [IntWalk.i64_in _ (by omega)]; omega
      have hjm : (j : Int) < (m : Int) := by omega
      clear hp
      by_cases hpx : p < x
      · have hpd : decide (p < x) = true := decide_eq_true hpx
        have HN : Hid (belw (st.take j) x = belw st x) := Go.Lib.hid (by rw [← HB.out, HT.out, belw_less hpx])
        go_wp2
        go_roundw
        case rel => exact ⟨j, rfl, by omega, Go.Lib.hid (by first | rfl | trivial), HN⟩
        case measure => simp [intOf]
      · have hpd : decide (p < x) = false := decide_eq_false hpx
        have HE : Hid (st.take (j + 1) = belw st x) := Go.Lib.hid (by rw [← HB.out, HT.out, belw_not hpx])
        by_cases hcj : cq = j + 1
        · subst hcj
          go_wp2_with fail
          go_quiet (fail)
          go_wp2_with fail
          go_ret2
          exact ⟨j + 1, 0, 0, hkm, fun h => by omega, HE.out, by rw [show m - (j + 1) = 0 by omega]; rfl, _, rfl⟩
        · have hcj2 : j + 1 < cq := by omega
          go_wp2_with fail
          go_quiet (fail)
          go_wp2_with fail
          go_ret2
          exact ⟨j + 1, j + 1, _, hkm, fun _ => rfl, HE.out, rfl, _, rfl⟩

end Go.Proofs.Ytnhhnffolmgceaa.CutSt2C

end

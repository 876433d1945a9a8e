/-
  Contracts and plain facts that the laws' texts lean on. Conditions: as each states.
-/
import Derived.Test.YtnhhnffolmgceabGreatPw26
import Derived.Deep.RegionHeld3
import Derived.Test.YtnhhnffolmgceabGreatPw9

section
namespace Go.Proofs.YtnhhnffolmgceabGreat.PairsC
open Go.RowKit SeesC IntsC ExactC OrdMath BesM ListsC ConfIC
set_option linter.unusedVariables false

theorem below_heap {w w' a : World} {B : Nat} (h : Below B a w) (h1 : w'.os = w.os) (h2 : w'.tape = w.tape) (h3 : w'.output = w.output) (h4 : w'.heap = w.heap) : Below B a w' :=
  ⟨h1.trans h.os, h2.trans h.tape, h3.trans h.output, by rw [h4]; exact h.size, fun q hq => by rw [h4]; exact h.block q hq⟩

theorem kept2 {w w' : World} {B : Nat} {ty : TypeId} {s : Nat} {v : Value} {n : Nat} {xs : List Value} (h : w.ownsRow B ty s v n xs) (hb : Below w.heap.size w w') : w'.ownsRow B ty s v n xs :=
  h.kept (grown_of_below hb none) (by cases hv : v.ownBlock <;> simp)

theorem two_cells (w : World) (x y : Value) (t : TypeId) : (w.alloc (.cells #[x, y] t)).cell? ⟨w.heap.size, 0, none⟩ = some x ∧ (w.alloc (.cells #[x, y] t)).cell? ⟨w.heap.size, 1, none⟩ = some y := by
  have hn := World.alloc_heap_new w (.cells #[x, y] t)
  constructor <;> (unfold World.cell?; simp only [hn]; rfl)

theorem pair_at {w : World} {B g c N i : Nat} {xs : List Value} (h : w.ownsRow B 26 2 (.slice (some ⟨g, 0, none⟩) N c) N xs) (hi : i < N * 2) : w.cell? ⟨g, i, none⟩ = some (xs.getD i undef) := by
  have hl := h.1
  have h2 := h.cells (g := g) rfl i (xs.getD i undef) (by simp [show i < xs.length by omega])
  have ea : ∀ j, ((⟨g, 0, none⟩ : Addr).add j) = ⟨g, j, none⟩ := by intro j; cases j <;> simp [Addr.add]
  rw [ea] at h2
  exact h2

theorem vals_getD {zs : List Int} {i : Nat} (h : i < zs.length) : (vals zs).getD i undef = .int .i64 (zs.getD i 0) := by simp [h]

/-- The list has been marked. -/
def PMarked (B : Nat) (v : Value) (N k : Nat) (w : World) (e : Ending) (w' : World) : Prop :=
  e = .returned (.int .i64 ((k + N * 2 : Nat) : Int)) ∧ w'.ownsRow B 26 2 v N (imarks k (N * 2)) ∧ w.grownBy w' v.ownBlock

def flatP (C : List (Nat × Nat)) : List Int := C.flatMap fun p => [(p.1 : Int), (p.2 : Int)]

theorem prv_vals : ∀ C : List (Nat × Nat), prv C = vals (flatP C)
  | [] => rfl
  | p :: C => by
    have e1 : prv (p :: C) = .int .i64 (p.1 : Int) :: .int .i64 (p.2 : Int) :: prv C := rfl
    have e2 : flatP (p :: C) = (p.1 : Int) :: (p.2 : Int) :: flatP C := rfl
    rw [e1, e2, prv_vals C]
    rfl

theorem own_mark2 {w w' : World} {row : Option Nat} {B : Nat} {ty : TypeId} {s : Nat} {v : Value} {n : Nat} {xs : List Value} (h : w.ownsRow B ty s v n xs) (hg : w.grownBy w' row) (hne : ∀ a, v.ownBlock = some a → row ≠ some a) : w'.ownsRow B ty s v n xs :=
  h.kept hg (by
    cases hv : v.ownBlock with
    | none => simp
    | some a => exact .inr (fun e => hne a hv e.symm))

end Go.Proofs.YtnhhnffolmgceabGreat.PairsC

end

section
namespace Go.Proofs.YtnhhnffolmgceabGreat.ConfSC
open Go.RowKit SeesC IntsC ExactC OrdMath OrderC BesM ListsC SameC AppendTwoC MinMaxC ConfC ConfIC
set_option linter.unusedVariables false

set_option maxRecDepth 100000 in
set_option maxHeartbeats 4000000 in
theorem l7Conflicts_any (zs : List Int) (hord : Ord zs) (W : World) (v : Value) (n : Nat) (hv : Sees W v n (vals zs)) :
    Calls Tryz.prog 55 #[v] W fun e w' => ∃ g c N, e = .returned (.slice (some ⟨g, 0, none⟩) N c) ∧ CfW zs W (confs zs) N g c w' := by
  obtain ⟨i0, hi, hz0, hz1, hz2⟩ := info_parts infoA2
  have hl : zs.length = n := by simpa using hv.1
  have hn7 : n ≤ 7 := by have := hord.2.1; omega
  have hn1 : 1 ≤ n := by have := hord.1; omega
  obtain ⟨b, o, cap, rfl, hcap, _, hbl, hcell⟩ := sees_cells hv (by omega)
  have HC := Go.Lib.hid hcell
  have HV := Go.Lib.hid hv
  have HL := Go.Lib.hid (And.intro hl hord)
  have H0 : Hid (CfW zs W (allC zs 0) 0 W.heap.size 0 (W.alloc (.cells #[] 26))) := Go.Lib.hid ⟨rfl, World.ownsRow_made _ _ _ (Nat.le_refl _) (by unfold maxLen; omega) rfl, (Below.refl _ _).alloc (Nat.le_refl _) _⟩
  have HLEN : Hid (∀ i, i ≤ n → (allC zs i).length ≤ 49) := Go.Lib.hid (fun i hi => by
    have h1 := allC_len zs i
    have h2 : i * zs.length ≤ 7 * 7 := Nat.mul_le_mul (by omega) (by omega)
    omega)
  clear hcell hl hv hord
  go_enter Tryz.func55, Tryz.ntmps55
  go_wp2
  go_loopw [3, 4] (fun lv iv wr => ∃ (i N g c : Nat), i ≤ n ∧ iv = .int .i64 (i : Int) ∧ lv = .slice (some ⟨g, 0, none⟩) N c ∧ Hid (CfW zs W (allC zs i) N g c wr)) (fun _ iv _ => n - (intOf iv).toNat)
  case atStart => exact ⟨0, 0, W.heap.size, 0, Nat.zero_le _, rfl, rfl, H0⟩
  case round =>
    obtain ⟨i, N0, g0, c0, hin, rfl, rfl, HX⟩ := hrel
    clear H0
    obtain ⟨wo, rfl⟩ : ∃ wo, wo = wr := ⟨_, rfl⟩
    by_cases hlt : i < n
    · skip
      have hlti : (i : Int) < (n : Int) := by omega
      have HA0 : Hid (CfW zs W (allC zs i ++ rowC zs i (i + 1)) N0 g0 c0 wo) := Go.Lib.hid (by rw [rowC_small zs i (i + 1) (Nat.le_refl _), List.append_nil]; exact HX.out)
      go_wp2
      go_loopw [3, 5] (fun lv jv wr => ∃ (j N g c : Nat), i + 1 ≤ j ∧ j ≤ n ∧ jv = .int .i64 (j : Int) ∧ lv = .slice (some ⟨g, 0, none⟩) N c ∧ Hid (CfW zs W (allC zs i ++ rowC zs i j) N g c wr)) (fun _ jv _ => n - (intOf jv).toNat)
      case atStart => exact ⟨i + 1, N0, g0, c0, Nat.le_refl _, by omega, by go_num, rfl, HA0⟩
      case round =>
        obtain ⟨j, N, g, c, hij, hjn, rfl, rfl, HY⟩ := hrel
        clear HA0
        obtain ⟨wx, rfl⟩ : ∃ wx, wx = wr := ⟨_, rfl⟩
        by_cases hjl : j < n
        · obtain ⟨c1, hc1⟩ : ∃ c1, conf zs i j = c1 := ⟨_, rfl⟩
          have CM := Go.Lib.hid (l7Conflict_any zs i j c1 hc1 wx _ n (HV.out.grow HY.out.2.2) hlt hjl (by omega))
          have HCM := Go.Lib.hid hc1
          have hjli : (j : Int) < (n : Int) := by omega
          have hN49 : N ≤ 98 := by
            have h1 := HY.out.1
            rw [List.length_append] at h1
            have h2 := HLEN.out i (by omega)
            have h3 := rowC_len zs i j
            omega
          clear hc1
          go_wp2_with fail
          refine (CM.out).mono ?_
          rintro e wq ⟨rfl, hdq⟩
          have HY2 : Hid (CfW zs W (allC zs i ++ rowC zs i j) N g c wq) := Go.Lib.hid ⟨HY.out.1, HY.out.2.1.kept (grown_of_below (hdq.below _) none) (by simp [Value.ownBlock]), HY.out.2.2.trans (hdq.below _)⟩
          clear hdq CM
          cases c1 with
          | true =>
            have hst : allC zs i ++ rowC zs i (j + 1) = (allC zs i ++ rowC zs i j) ++ [(i, j)] := by
              have e : rowC zs i (j + 1) = rowC zs i j ++ [(i, j)] := by
                show (if i < j ∧ conf zs i j = true then _ else _) = _
                rw [if_pos ⟨by omega, HCM.out⟩]
              rw [e, List.append_assoc]
            have HST := Go.Lib.hid hst
            have hsz := HY2.out.2.2.size
            clear hst
            go_wp2_with (at_builtin; refine wpList_append_two _ rfl _ _ 60 rfl W.heap.size 26 i0 (.agg #[.int .i64 0, .int .i64 0]) 2 16 Tryz.underlying60 hi hz0 hz1 hz2 rfl (by decide) (.slice (some ⟨g, 0, none⟩) N c) N (prv (allC zs i ++ rowC zs i j)) rfl (World.ownsRow.alloc HY2.out.2.1 _) ⟨wq.heap.size, 0, none⟩ 1 1 [.int .i64 (i : Int), .int .i64 (j : Int)] rfl rfl (two_new _ _ _ _) (fun u hu => by simp at hu; rcases hu with rfl | rfl <;> rfl) (by unfold maxLen; omega) (by omega) (by simp; omega) ?_; intro v4 w4 hown4 hgrow4 _; obtain ⟨g4, c4, rfl⟩ := ownsRow_succ hown4; have H4 := Go.Lib.hid (And.intro hown4 hgrow4); clear hown4 hgrow4)
            have HN : Hid (CfW zs W (allC zs i ++ rowC zs i (j + 1)) (N + 1) g4 c4 w4) := Go.Lib.hid (by
              refine ⟨by rw [HST.out, List.length_append, HY2.out.1]; rfl, ?_, ?_⟩
              · rw [HST.out, prv_append]; exact H4.out.1
              · have h1 : Below W.heap.size W (wq.alloc (.cells #[.int .i64 (i : Int), .int .i64 (j : Int)] 26)) := HY2.out.2.2.alloc HY2.out.2.2.size _
                exact h1.grown H4.out.2 h1.size (fun q hq => (HY2.out.2.1.lt q hq).1))
            go_roundw
            case rel => exact ⟨j + 1, N + 1, g4, c4, by omega, by omega, by go_num, rfl, HN⟩
            case measure => simp [intOf]; omega
          | false =>
            have HN : Hid (CfW zs W (allC zs i ++ rowC zs i (j + 1)) N g c wq) := Go.Lib.hid (by
              have e : rowC zs i (j + 1) = rowC zs i j := by
                show (if i < j ∧ conf zs i j = true then _ else _) = _
                rw [if_neg (by rw [HCM.out]; simp)]
              rw [e]; exact HY2.out)
            go_wp2_with fail
            go_roundw
            case rel => exact ⟨j + 1, N, g, c, by omega, by omega, by go_num, rfl, HN⟩
            case measure => simp [intOf]; omega
        · have hjn2 : j = n := by omega
          have HN : Hid (CfW zs W (allC zs (i + 1)) N g c wx) := Go.Lib.hid (by
            have h1 := HY.out
            rw [hjn2] at h1
            show CfW zs W (allC zs i ++ rowC zs i zs.length) N g c wx
            rw [HL.out.1]; exact h1)
          have hjli : ¬ (j : Int) < (n : Int) := by omega
          clear hjn2
          go_wp2
          go_roundw
          case rel => exact ⟨i + 1, N, g, c, by omega, by go_num, rfl, HN⟩
          case measure => simp [intOf]; omega
    · have hin2 : i = n := by omega
      have HF : Hid (CfW zs W (confs zs) N0 g0 c0 wo) := Go.Lib.hid (by
        have h1 := HX.out
        rw [hin2] at h1
        unfold confs; rw [HL.out.1]; exact h1)
      have hlti : ¬ (i : Int) < (n : Int) := by omega
      clear hin2
      go_wp2
      go_ret
      exact ⟨g0, c0, N0, rfl, HF.out⟩

/-- Pairs of numbers and a truth value are returned, the pairs in memory of the call's own. -/
def PairsTo (w : World) (e : Ending) (w' : World) (C : List (Nat × Nat)) (b : Bool) : Prop :=
  ∃ v, e = .returned (.tuple #[v, .bool b]) ∧ w'.ownsRow w.heap.size 26 2 v C.length (prv C) ∧ Below w.heap.size w w'

theorem pairsTo_none {w w1 : World} (hb : Below w.heap.size w w1) (b : Bool) : PairsTo w (.returned (.tuple #[.slice (some ⟨w1.heap.size, 0, none⟩) 0 0, .bool b])) (w1.alloc (.cells #[] 26)) [] b :=
  ⟨_, rfl, World.ownsRow_made _ _ _ hb.size (by unfold maxLen; omega) rfl, hb.alloc hb.size _⟩

def confsAns (zs : List Int) : List (Nat × Nat) × Bool := if Ord zs then (confs zs, true) else ([], false)

theorem confsAns_len {zs : List Int} {C : List (Nat × Nat)} {b : Bool} (h : confsAns zs = (C, b)) : C.length ≤ 49 := by
  unfold confsAns at h
  split at h
  · rename_i ho; cases h; exact confs_len ho.2.1
  · cases h; simp

end Go.Proofs.YtnhhnffolmgceabGreat.ConfSC

end

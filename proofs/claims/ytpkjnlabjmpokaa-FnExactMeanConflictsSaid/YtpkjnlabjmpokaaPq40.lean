/-
  Contract: the program's conflictsOf: all pairs of places in conflict. Conditions: an order.
-/
import Derived.Test.YtpkjnlabjmpokaaPq21
import Derived.Test.YtpkjnlabjmpokaaPq11
import Derived.Test.YtpkjnlabjmpokaaPq32
import Derived.Test.YtpkjnlabjmpokaaPq4
import Derived.Test.YtpkjnlabjmpokaaPq3

namespace Go.Proofs.Ytpkjnlabjmpokaa.ConfIC
open Go.RowKit SeesC IntsC ExactC OrdMath BesM ListsC SameC AppendTwoC MinMaxC
set_option linter.unusedVariables false

theorem infoA2 : (Try.prog.info? 23).map (fun i => (i.zero, i.size, i.bytes)) = some (some (.agg #[.int .i64 0, .int .i64 0]), 2, 16) := by kernel_rfl

/-- Pairs, cell by cell. -/
def prv (C : List (Nat × Nat)) : List Value := C.flatMap fun p => [.int .i64 (p.1 : Int), .int .i64 (p.2 : Int)]

theorem prv_append (A B : List (Nat × Nat)) : prv (A ++ B) = prv A ++ prv B := by unfold prv; exact List.flatMap_append

theorem prv_len (C : List (Nat × Nat)) : (prv C).length = 2 * C.length := by
  induction C with
  | nil => rfl
  | cons p C ih =>
    have e : prv (p :: C) = [.int .i64 (p.1 : Int), .int .i64 (p.2 : Int)] ++ prv C := by unfold prv; rfl
    rw [e, List.length_append, ih]; simp; omega

theorem rowC_small (zs : List Int) (i : Nat) : ∀ j, j ≤ i + 1 → rowC zs i j = []
  | 0, _ => rfl
  | j + 1, h => by
    unfold rowC
    rw [if_neg (by rintro ⟨h1, _⟩; omega)]
    exact rowC_small zs i j (by omega)

theorem two_new (w : World) (x y : Value) (t : TypeId) : ∀ (j : Nat) (u : Value), [x, y][j]? = some u → (w.alloc (.cells #[x, y] t)).cell? ((⟨w.heap.size, 0, none⟩ : Addr).add j) = some u := by
  intro j u hu
  have hn := World.alloc_heap_new w (.cells #[x, y] t)
  have hj : j = 0 ∨ j = 1 := by
    have := (List.getElem?_eq_some_iff.1 hu).1
    simp at this; omega
  rcases hj with rfl | rfl <;> cases hu <;> (show World.cell? _ ⟨w.heap.size, _, none⟩ = _; unfold World.cell?; simp only [hn]; rfl)

/-- The rows that are there behind some rounds. -/
def CfW (zs : List Int) (W : World) (L : List (Nat × Nat)) (N g c : Nat) (wr : World) : Prop :=
  L.length = N ∧ wr.ownsRow W.heap.size 23 2 (.slice (some ⟨g, 0, none⟩) N c) N (prv L) ∧ Below W.heap.size W wr

set_option maxRecDepth 100000 in
set_option maxHeartbeats 4000000 in
theorem conflicts_any (zs : List Int) (hord : Ord zs) (W : World) (v : Value) (n : Nat) (hv : Sees W v n (vals zs)) :
    Calls Try.prog 99 #[v] W fun e w' => ∃ g c N, e = .returned (.slice (some ⟨g, 0, none⟩) N c) ∧ CfW zs W (confs zs) N g c w' := by
  obtain ⟨i0, hi, hz0, hz1, hz2⟩ := info_parts infoA2
  have hl : zs.length = n := by simpa using hv.1
  have hn7 : n ≤ 7 := by have := hord.2.1; omega
  have hn1 : 1 ≤ n := by have := hord.1; omega
  obtain ⟨b, o, cap, rfl, hcap, _, hbl, hcell⟩ := sees_cells hv (by omega)
  have HC := Go.Lib.hid hcell
  have HL := Go.Lib.hid (And.intro hl hord)
  have H0 : Hid (CfW zs W (allC zs 0) 0 W.heap.size 0 (W.alloc (.cells #[] 23))) := Go.Lib.hid ⟨rfl, World.ownsRow_made _ _ _ (Nat.le_refl _) (by unfold maxLen; omega) rfl, (Below.refl _ _).alloc (Nat.le_refl _) _⟩
  have HLEN : Hid (∀ i, i ≤ n → (allC zs i).length ≤ 49) := Go.Lib.hid (fun i hi => by
    have h1 := allC_len zs i
    have h2 : i * zs.length ≤ 7 * 7 := Nat.mul_le_mul (by omega) (by omega)
    omega)
  clear hcell hl hv hord
  go_enter Try.func99, Try.ntmps99
  go_wp2
  go_loopw [3, 10] (fun lv iv wr => ∃ (i N g c : Nat), i ≤ n ∧ iv = .int .i64 (i : Int) ∧ lv = .slice (some ⟨g, 0, none⟩) N c ∧ Hid (CfW zs W (allC zs i) N g c wr)) (fun _ iv _ => n - (intOf iv).toNat)
  case atStart => exact ⟨0, 0, W.heap.size, 0, Nat.zero_le _, rfl, rfl, H0⟩
  case round =>
    obtain ⟨i, N0, g0, c0, hin, rfl, rfl, HX⟩ := hrel
    clear H0
    obtain ⟨wo, rfl⟩ : ∃ wo, wo = wr := ⟨_, rfl⟩
    by_cases hlt : i < n
    · have hck := (HX.out.2.2.cell (p := ⟨b, o + i, none⟩) hbl).trans (HC.out i (by have := HL.out.1; omega))
      obtain ⟨x, hx⟩ : ∃ x, zs.getD i 0 = x := ⟨_, rfl⟩
      rw [hx] at hck
      have HXX := Go.Lib.hid hx
      have hlti : (i : Int) < (n : Int) := by omega
      have HA0 : Hid (CfW zs W (allC zs i ++ rowC zs i (i + 1)) N0 g0 c0 wo) := Go.Lib.hid (by rw [rowC_small zs i (i + 1) (Nat.le_refl _), List.append_nil]; exact HX.out)
      clear hx
      go_wp2
      go_loopw [3, 6] (fun lv jv wr => ∃ (j N g c : Nat), i + 1 ≤ j ∧ j ≤ n ∧ jv = .int .i64 (j : Int) ∧ lv = .slice (some ⟨g, 0, none⟩) N c ∧ Hid (CfW zs W (allC zs i ++ rowC zs i j) N g c wr)) (fun _ jv _ => n - (intOf jv).toNat)
      case atStart => exact ⟨i + 1, N0, g0, c0, Nat.le_refl _, by omega, by go_num, rfl, HA0⟩
      case round =>
        obtain ⟨j, N, g, c, hij, hjn, rfl, rfl, HY⟩ := hrel
        clear HA0
        obtain ⟨wx, rfl⟩ : ∃ wx, wx = wr := ⟨_, rfl⟩
        by_cases hjl : j < n
        · have hckj := (HY.out.2.2.cell (p := ⟨b, o + j, none⟩) hbl).trans (HC.out j (by have := HL.out.1; omega))
          obtain ⟨y, hy⟩ : ∃ y, zs.getD j 0 = y := ⟨_, rfl⟩
          rw [hy] at hckj
          have hcm := conf_min HL.out.2 (i := i) (j := j) (by omega) (by have := HL.out.1; omega)
          obtain ⟨mn, hmn⟩ : ∃ mn, Go.Lib.minOf (zs.drop j) = mn := ⟨_, rfl⟩
          rw [HXX.out, hy, hmn] at hcm
          have hdl : (zs.drop j).length = n - j := by rw [List.length_drop, HL.out.1]
          have cmn := Try.slices_Min_int b (o + j) (n - j) (cap - j) (zs.drop j) wx (by omega) (by omega) (by omega) (fun k hk => by
            have h1 := (HY.out.2.2.cell (p := ⟨b, o + (j + k), none⟩) hbl).trans (HC.out (j + k) (by have := HL.out.1; omega))
            have e : (zs.drop j).getD k 0 = zs.getD (j + k) 0 := by simp
            rw [e, Nat.add_assoc]; exact h1)
          rw [List.take_of_length_le (by omega), hmn] at cmn
          have CM := Go.Lib.hid cmn
          have HCM := Go.Lib.hid hcm
          have hjli : (j : Int) < (n : Int) := by omega
          have hN49 : N ≤ 98 := by
            have h1 := HY.out.1
            rw [List.length_append] at h1
            have h2 := HLEN.out i (by omega)
            have h3 := rowC_len zs i j
            omega
          have HNO : conf zs i j = false → Hid (CfW zs W (allC zs i ++ rowC zs i (j + 1)) N g c wx) := fun h => Go.Lib.hid (by
            have e : rowC zs i (j + 1) = rowC zs i j := by
              show (if i < j ∧ conf zs i j = true then _ else _) = _
              rw [if_neg (by rw [h]; simp)]
            rw [e]; exact HY.out)
          have HNOH := Go.Lib.hid HNO
          clear cmn hcm hmn hdl hy HNO
          by_cases hxy : x < y
          · go_wp2_with fail
            refine (CM.out).mono ?_
            rintro e wq ⟨rfl, hwq⟩
            obtain rfl : wq = wx := hwq
            by_cases hmx : mn < x
            · have hst : allC zs i ++ rowC zs i (j + 1) = (allC zs i ++ rowC zs i j) ++ [(i, j)] := by
                have e : rowC zs i (j + 1) = rowC zs i j ++ [(i, j)] := by
                  show (if i < j ∧ conf zs i j = true then _ else _) = _
                  rw [if_pos ⟨by omega, by rw [HCM.out, decide_eq_true hxy, decide_eq_true hmx]; rfl⟩]
                rw [e, List.append_assoc]
              have HST := Go.Lib.hid hst
              have hsz := HY.out.2.2.size
              clear hst
              go_wp2_with (at_builtin; refine wpList_append_two _ rfl _ _ 76 rfl W.heap.size 23 i0 (.agg #[.int .i64 0, .int .i64 0]) 2 16 Try.underlying76 hi hz0 hz1 hz2 rfl (by decide) (.slice (some ⟨g, 0, none⟩) N c) N (prv (allC zs i ++ rowC zs i j)) rfl (World.ownsRow.alloc HY.out.2.1 _) ⟨wq.heap.size, 0, none⟩ 1 1 [.int .i64 (i : Int), .int .i64 (j : Int)] rfl rfl (two_new _ _ _ _) (fun u hu => by simp at hu; rcases hu with rfl | rfl <;> rfl) (by unfold maxLen; omega) (by omega) (by simp; omega) ?_; intro v4 w4 hown4 hgrow4 _; obtain ⟨g4, c4, rfl⟩ := ownsRow_succ hown4; have H4 := Go.Lib.hid (And.intro hown4 hgrow4); clear hown4 hgrow4)
              have HN : Hid (CfW zs W (allC zs i ++ rowC zs i (j + 1)) (N + 1) g4 c4 w4) := Go.Lib.hid (by
                refine ⟨by rw [HST.out, List.length_append, HY.out.1]; rfl, ?_, ?_⟩
                · rw [HST.out, prv_append]; exact H4.out.1
                · have h1 : Below W.heap.size W (wq.alloc (.cells #[.int .i64 (i : Int), .int .i64 (j : Int)] 23)) := HY.out.2.2.alloc HY.out.2.2.size _
                  exact h1.grown H4.out.2 h1.size (fun q hq => (HY.out.2.1.lt q hq).1))
              go_roundw
              case rel => exact ⟨j + 1, N + 1, g4, c4, by omega, by omega, by go_num, rfl, HN⟩
              case measure => simp [intOf]; omega
            · have HN := HNOH.out (by rw [HCM.out, decide_eq_false hmx, Bool.and_false])
              go_wp2_with fail
              go_roundw
              case rel => exact ⟨j + 1, N, g, c, by omega, by omega, by go_num, rfl, HN⟩
              case measure => simp [intOf]; omega
          · have HN := HNOH.out (by rw [HCM.out, decide_eq_false hxy]; rfl)
            go_wp2_with fail
            go_roundw
            case rel => exact ⟨j + 1, N, g, c, by omega, by omega, by go_num, rfl, HN⟩
            case measure => simp [intOf]; omega
        · have hjn2 : j = n := by omega
          have HN : Hid (CfW zs W (allC zs (i + 1)) N g c wx) := Go.Lib.hid (by
            have h1 := HY.out
            rw [hjn2] at h1
            show CfW zs W (allC zs i ++ rowC zs i zs.length) N g c wx
            rw [HL.out.1]; exact h1)
          have hjli : ¬ (j : Int) < (n : Int) := by omega
          clear hjn2
          go_wp2
          go_roundw
          case rel => exact ⟨i + 1, N, g, c, by omega, by go_num, rfl, HN⟩
          case measure => simp [intOf]; omega
    · have hin2 : i = n := by omega
      have HF : Hid (CfW zs W (confs zs) N0 g0 c0 wo) := Go.Lib.hid (by
        have h1 := HX.out
        rw [hin2] at h1
        unfold confs; rw [HL.out.1]; exact h1)
      have hlti : ¬ (i : Int) < (n : Int) := by omega
      clear hin2
      go_wp2
      go_ret
      exact ⟨g0, c0, N0, rfl, HF.out⟩

end Go.Proofs.Ytpkjnlabjmpokaa.ConfIC

/-
  Contracts and plain facts that the laws' texts lean on. Conditions: as each states.
-/
import Derived.Test.YtnhhnffolmgceabGreatPw5
import Derived.Test.YtnhhnffolmgceabGreatPw9
import Derived.Test.YtnhhnffolmgceabGreatPw23
import Derived.Test.YtnhhnffolmgceabGreatPw0
import Derived.Test.YtnhhnffolmgceabGreatPw8
import Derived.Maps.Views
import Derived.Maps.OwnSet

section
namespace Go.Proofs.YtnhhnffolmgceabGreat.ConfIC
open Go.RowKit SeesC IntsC ExactC OrdMath BesM ListsC SameC AppendTwoC MinMaxC
set_option linter.unusedVariables false

theorem infoA2 : (Tryz.prog.info? 26).map (fun i => (i.zero, i.size, i.bytes)) = some (some (.agg #[.int .i64 0, .int .i64 0]), 2, 16) := by kernel_rfl

/-- Pairs, cell by cell. -/
def prv (C : List (Nat × Nat)) : List Value := C.flatMap fun p => [.int .i64 (p.1 : Int), .int .i64 (p.2 : Int)]

theorem prv_append (A B : List (Nat × Nat)) : prv (A ++ B) = prv A ++ prv B := by unfold prv; exact List.flatMap_append

theorem prv_len (C : List (Nat × Nat)) : (prv C).length = 2 * C.length := by
  induction C with
  | nil => rfl
  | cons p C ih =>
    have e : prv (p :: C) = [.int .i64 (p.1 : Int), .int .i64 (p.2 : Int)] ++ prv C := by unfold prv; rfl
    rw [e, List.length_append, ih]; simp; omega

theorem rowC_small (zs : List Int) (i : Nat) : ∀ j, j ≤ i + 1 → rowC zs i j = []
  | 0, _ => rfl
  | j + 1, h => by
    unfold rowC
    rw [if_neg (by rintro ⟨h1, _⟩; omega)]
    exact rowC_small zs i j (by omega)

theorem two_new (w : World) (x y : Value) (t : TypeId) : ∀ (j : Nat) (u : Value), [x, y][j]? = some u → (w.alloc (.cells #[x, y] t)).cell? ((⟨w.heap.size, 0, none⟩ : Addr).add j) = some u := by
  intro j u hu
  have hn := World.alloc_heap_new w (.cells #[x, y] t)
  have hj : j = 0 ∨ j = 1 := by
    have := (List.getElem?_eq_some_iff.1 hu).1
    simp at this; omega
  rcases hj with rfl | rfl <;> cases hu <;> (show World.cell? _ ⟨w.heap.size, _, none⟩ = _; unfold World.cell?; simp only [hn]; rfl)

/-- The rows that are there behind some rounds. -/
def CfW (zs : List Int) (W : World) (L : List (Nat × Nat)) (N g c : Nat) (wr : World) : Prop :=
  L.length = N ∧ wr.ownsRow W.heap.size 26 2 (.slice (some ⟨g, 0, none⟩) N c) N (prv L) ∧ Below W.heap.size W wr

set_option maxRecDepth 100000 in
set_option maxHeartbeats 4000000 in
theorem conflicts_any (zs : List Int) (hord : Ord zs) (W : World) (v : Value) (n : Nat) (hv : Sees W v n (vals zs)) :
    Calls Tryz.prog 54 #[v] W fun e w' => ∃ g c N, e = .returned (.slice (some ⟨g, 0, none⟩) N c) ∧ CfW zs W (confs zs) N g c w' := by
  obtain ⟨i0, hi, hz0, hz1, hz2⟩ := info_parts infoA2
  have hl : zs.length = n := by simpa using hv.1
  have hn7 : n ≤ 7 := by have := hord.2.1; omega
  have hn1 : 1 ≤ n := by have := hord.1; omega
  obtain ⟨b, o, cap, rfl, hcap, _, hbl, hcell⟩ := sees_cells hv (by omega)
  have HC := Go.Lib.hid hcell
  have HL := Go.Lib.hid (And.intro hl hord)
  have H0 : Hid (CfW zs W (allC zs 0) 0 W.heap.size 0 (W.alloc (.cells #[] 26))) := Go.Lib.hid ⟨rfl, World.ownsRow_made _ _ _ (Nat.le_refl _) (by unfold maxLen; omega) rfl, (Below.refl _ _).alloc (Nat.le_refl _) _⟩
  have HLEN : Hid (∀ i, i ≤ n → (allC zs i).length ≤ 49) := Go.Lib.hid (fun i hi => by
    have h1 := allC_len zs i
    have h2 : i * zs.length ≤ 7 * 7 := Nat.mul_le_mul (by omega) (by omega)
    omega)
  clear hcell hl hv hord
  go_enter Tryz.func54, Tryz.ntmps54
  go_wp2
  go_loopw [3, 10] (fun lv iv wr => ∃ (i N g c : Nat), i ≤ n ∧ iv = .int .i64 (i : Int) ∧ lv = .slice (some ⟨g, 0, none⟩) N c ∧ Hid (CfW zs W (allC zs i) N g c wr)) (fun _ iv _ => n - (intOf iv).toNat)
  case atStart => exact ⟨0, 0, W.heap.size, 0, Nat.zero_le _, rfl, rfl, H0⟩
  case round =>
    obtain ⟨i, N0, g0, c0, hin, rfl, rfl, HX⟩ := hrel
    clear H0
    obtain ⟨wo, rfl⟩ : ∃ wo, wo = wr := ⟨_, rfl⟩
    by_cases hlt : i < n
    · have hck := (HX.out.2.2.cell (p := ⟨b, o + i, none⟩) hbl).trans (HC.out i (by have := HL.out.1; omega))
      obtain ⟨x, hx⟩ : ∃ x, zs.getD i 0 = x := ⟨_, rfl⟩
      rw [hx] at hck
      have HXX := Go.Lib.hid hx
      have hlti : (i : Int) < (n : Int) := by omega
      have HA0 : Hid (CfW zs W (allC zs i ++ rowC zs i (i + 1)) N0 g0 c0 wo) := Go.Lib.hid (by rw [rowC_small zs i (i + 1) (Nat.le_refl _), List.append_nil]; exact HX.out)
      clear hx
      go_wp2
      go_loopw [3, 6] (fun lv jv wr => ∃ (j N g c : Nat), i + 1 ≤ j ∧ j ≤ n ∧ jv = .int .i64 (j : Int) ∧ lv = .slice (some ⟨g, 0, none⟩) N c ∧ Hid (CfW zs W (allC zs i ++ rowC zs i j) N g c wr)) (fun _ jv _ => n - (intOf jv).toNat)
      case atStart => exact ⟨i + 1, N0, g0, c0, Nat.le_refl _, by omega, by go_num, rfl, HA0⟩
      case round =>
        obtain ⟨j, N, g, c, hij, hjn, rfl, rfl, HY⟩ := hrel
        clear HA0
        obtain ⟨wx, rfl⟩ : ∃ wx, wx = wr := ⟨_, rfl⟩
        by_cases hjl : j < n
        · have hckj := (HY.out.2.2.cell (p := ⟨b, o + j, none⟩) hbl).trans (HC.out j (by have := HL.out.1; omega))
          obtain ⟨y, hy⟩ : ∃ y, zs.getD j 0 = y := ⟨_, rfl⟩
          rw [hy] at hckj
          have hcm := conf_min HL.out.2 (i := i) (j := j) (by omega) (by have := HL.out.1; omega)
          obtain ⟨mn, hmn⟩ : ∃ mn, Go.Lib.minOf (zs.drop j) = mn := ⟨_, rfl⟩
          rw [HXX.out, hy, hmn] at hcm
          have hdl : (zs.drop j).length = n - j := by rw [List.length_drop, HL.out.1]
          have cmn := Tryz.slices_Min_int b (o + j) (n - j) (cap - j) (zs.drop j) wx (by omega) (by omega) (by omega) (fun k hk => by
            have h1 := (HY.out.2.2.cell (p := ⟨b, o + (j + k), none⟩) hbl).trans (HC.out (j + k) (by have := HL.out.1; omega))
            have e : (zs.drop j).getD k 0 = zs.getD (j + k) 0 := by simp
            rw [e, Nat.add_assoc]; exact h1)
          rw [List.take_of_length_le (by omega), hmn] at cmn
          have CM := Go.Lib.hid cmn
          have HCM := Go.Lib.hid hcm
          have hjli : (j : Int) < (n : Int) := by omega
          have hN49 : N ≤ 98 := by
            have h1 := HY.out.1
            rw [List.length_append] at h1
            have h2 := HLEN.out i (by omega)
            have h3 := rowC_len zs i j
            omega
          have HNO : conf zs i j = false → Hid (CfW zs W (allC zs i ++ rowC zs i (j + 1)) N g c wx) := fun h => Go.Lib.hid (by
            have e : rowC zs i (j + 1) = rowC zs i j := by
              show (if i < j ∧ conf zs i j = true then _ else _) = _
              rw [if_neg (by rw [h]; simp)]
            rw [e]; exact HY.out)
          have HNOH := Go.Lib.hid HNO
          clear cmn hcm hmn hdl hy HNO
          by_cases hxy : x < y
          · go_wp2_with fail
            refine (CM.out).mono ?_
            rintro e wq ⟨rfl, hwq⟩
            obtain rfl : wq = wx := hwq
            by_cases hmx : mn < x
            · have hst : allC zs i ++ rowC zs i (j + 1) = (allC zs i ++ rowC zs i j) ++ [(i, j)] := by
                have e : rowC zs i (j + 1) = rowC zs i j ++ [(i, j)] := by
                  show (if i < j ∧ conf zs i j = true then _ else _) = _
                  rw [if_pos ⟨by omega, by rw [HCM.out, decide_eq_true hxy, decide_eq_true hmx]; rfl⟩]
                rw [e, List.append_assoc]
              have HST := Go.Lib.hid hst
              have hsz := HY.out.2.2.size
              clear hst
              go_wp2_with (at_builtin; refine wpList_append_two _ rfl _ _ 60 rfl W.heap.size 26 i0 (.agg #[.int .i64 0, .int .i64 0]) 2 16 Tryz.underlying60 hi hz0 hz1 hz2 rfl (by decide) (.slice (some ⟨g, 0, none⟩) N c) N (prv (allC zs i ++ rowC zs i j)) rfl (World.ownsRow.alloc HY.out.2.1 _) ⟨wq.heap.size, 0, none⟩ 1 1 [.int .i64 (i : Int), .int .i64 (j : Int)] rfl rfl (two_new _ _ _ _) (fun u hu => by simp at hu; rcases hu with rfl | rfl <;> rfl) (by unfold maxLen; omega) (by omega) (by simp; omega) ?_; intro v4 w4 hown4 hgrow4 _; obtain ⟨g4, c4, rfl⟩ := ownsRow_succ hown4; have H4 := Go.Lib.hid (And.intro hown4 hgrow4); clear hown4 hgrow4)
              have HN : Hid (CfW zs W (allC zs i ++ rowC zs i (j + 1)) (N + 1) g4 c4 w4) := Go.Lib.hid (by
                refine ⟨by rw [HST.out, List.length_append, HY.out.1]; rfl, ?_, ?_⟩
                · rw [HST.out, prv_append]; exact H4.out.1
                · have h1 : Below W.heap.size W (wq.alloc (.cells #[.int .i64 (i : Int), .int .i64 (j : Int)] 26)) := HY.out.2.2.alloc HY.out.2.2.size _
                  exact h1.grown H4.out.2 h1.size (fun q hq => (HY.out.2.1.lt q hq).1))
              go_roundw
              case rel => exact ⟨j + 1, N + 1, g4, c4, by omega, by omega, by go_num, rfl, HN⟩
              case measure => simp [intOf]; omega
            · have HN := HNOH.out (by rw [HCM.out, decide_eq_false hmx, Bool.and_false])
              go_wp2_with fail
              go_roundw
              case rel => exact ⟨j + 1, N, g, c, by omega, by omega, by go_num, rfl, HN⟩
              case measure => simp [intOf]; omega
          · have HN := HNOH.out (by rw [HCM.out, decide_eq_false hxy]; rfl)
            go_wp2_with fail
            go_roundw
            case rel => exact ⟨j + 1, N, g, c, by omega, by omega, by go_num, rfl, HN⟩
            case measure => simp [intOf]; omega
        · have hjn2 : j = n := by omega
          have HN : Hid (CfW zs W (allC zs (i + 1)) N g c wx) := Go.Lib.hid (by
            have h1 := HY.out
            rw [hjn2] at h1
            show CfW zs W (allC zs i ++ rowC zs i zs.length) N g c wx
            rw [HL.out.1]; exact h1)
          have hjli : ¬ (j : Int) < (n : Int) := by omega
          clear hjn2
          go_wp2
          go_roundw
          case rel => exact ⟨i + 1, N, g, c, by omega, by go_num, rfl, HN⟩
          case measure => simp [intOf]; omega
    · have hin2 : i = n := by omega
      have HF : Hid (CfW zs W (confs zs) N0 g0 c0 wo) := Go.Lib.hid (by
        have h1 := HX.out
        rw [hin2] at h1
        unfold confs; rw [HL.out.1]; exact h1)
      have hlti : ¬ (i : Int) < (n : Int) := by omega
      clear hin2
      go_wp2
      go_ret
      exact ⟨g0, c0, N0, rfl, HF.out⟩

end Go.Proofs.YtnhhnffolmgceabGreat.ConfIC

end

section
namespace Go.Proofs.YtnhhnffolmgceabGreat.UseC
open Go Go.Maps Go.RowKit SeesC IntsC ExactC OrdMath BesM ListsC ConfIC
set_option linter.unusedVariables false

/-- A map that tells which numbers are of a list. -/
def UseMap (w : World) (b : Nat) (U : List Int) : Prop :=
  ∃ (n : Nat) (D : DataW Value), w.ownsMap Tryz.prog 3 (plainElem Tryz.prog 4) b n D ∧ n ≤ U.length ∧ IsMap D ∧ ∀ x : Int, (Lit.int .i64 x).wf = true → D.atKey (.int .i64 x) (.lit (.bool false)) = .lit (.bool (U.contains x))

theorem keyedI : Keyed Tryz.prog 3 := int_keyed Tryz.underlying3

theorem useMap_new (w : World) : UseMap (w.alloc (.map #[] 0)) w.heap.size [] := by
  refine ⟨0, .map [], World.ownsMap_made _ _ _ _, Nat.le_refl _, isMap_empty, fun x _ => ?_⟩
  rfl

theorem UseMap.kept {w w' : World} {b : Nat} {U : List Int} {row : Option Nat} (h : UseMap w b U) (hg : w.grownBy w' row) (hne : some b ≠ row) : UseMap w' b U := by
  obtain ⟨n, D, h1, h2, h3, h4⟩ := h
  exact ⟨n, D, h1.kept hg hne, h2, h3, h4⟩

theorem UseMap.lt {w : World} {b : Nat} {U : List Int} (h : UseMap w b U) : b < w.heap.size := by
  obtain ⟨n, D, h1, _⟩ := h
  exact h1.lt

theorem zeroB (w : World) : (zeroValue 4).run Tryz.prog w = .ok (.bool false) w := by kernel_rfl

theorem small_wf {x : Int} (h : 0 ≤ x ∧ x < 100) : (Lit.int .i64 x).wf = true := by
  have e1 : IntKind.i64.min = -9223372036854775808 := rfl
  have e2 : IntKind.i64.max = 9223372036854775807 := rfl
  simp [Lit.wf, e1, e2]
  omega

set_option maxRecDepth 100000 in
theorem UseMap.look {w : World} {b : Nat} {U : List Int} (h : UseMap w b U) {x : Int} (hx : 0 ≤ x ∧ x < 100) : (Instr.lookup 109 (.map (some b)) (.int .i64 x) false).run Tryz.prog w = .ok (.bool (U.contains x)) w := by
  obtain ⟨n, D, h1, _, _, h4⟩ := h
  have hw := small_wf hx
  obtain ⟨v, ps, hrun, hv⟩ := h1.lookup keyedI Tryz.underlying109 (zeroB w) (plainElem_bool Tryz.underlying4 false) (keyOf_int_mk Tryz.underlying3 hw)
  rw [h4 x hw] at hv
  rw [hrun]
  have hu := Tryz.underlying4
  unfold plainElem at hv
  rw [hu] at hv
  split at hv
  · rename_i y _ _
    cases hv; rfl
  · rename_i h; cases h
  · rename_i h; cases h
  · cases hv

theorem inUse_next {C : List (Nat × Nat)} {so : List Int} {i : Nat} {p : Nat × Nat} (hi : i < C.length) (hp : C.getD i (0, 0) = p) : inUse (C.take (i + 1)) so = inUse (C.take i) so ++ (if p.2 = so.length then [so.getD p.1 0] else []) := by
  have e : C[i] = p := by rw [← hp]; simp [hi]
  unfold inUse
  rw [List.take_succ_eq_append_getElem hi, e, List.filter_append, List.map_append]
  congr 1
  by_cases h : p.2 = so.length
  · rw [if_pos h]
    have : (p.2 == so.length) = true := by rw [beq_iff_eq]; exact h
    simp only [List.filter_cons, this, if_true, List.filter_nil, List.map_cons, List.map_nil]
  · rw [if_neg h]
    have : (p.2 == so.length) = false := by rw [beq_eq_false_iff_ne]; exact h
    simp only [List.filter_cons, this, Bool.false_eq_true, if_false, List.filter_nil, List.map_nil]

theorem UseMap.put {w' : World} {b n : Nat} {D : DataW Value} {U : List Int} {x : Int} (hw : (Lit.int .i64 x).wf = true) (h2 : n ≤ U.length) (h3 : IsMap D) (h4 : ∀ x : Int, (Lit.int .i64 x).wf = true → D.atKey (.int .i64 x) (.lit (.bool false)) = .lit (.bool (U.contains x)))
    (h : w'.ownsMap Tryz.prog 3 (plainElem Tryz.prog 4) b (n + 1) (D.put (.int .i64 x) (.lit (.bool true)))) : UseMap w' b (U ++ [x]) := by
  refine ⟨n + 1, _, h, by simp; omega, IsMap.put h3 _ _, fun y hy => ?_⟩
  · by_cases e : y = x
    · subst e
      rw [atKey_put_same h3 (by trivial)]
      simp
    · rw [atKey_put_other (by intro h; cases h; exact e rfl), h4 y hy]
      have : (U ++ [x]).contains y = U.contains y := by simp [e]
      rw [this]

set_option maxRecDepth 100000 in
set_option maxHeartbeats 4000000 in
theorem inUse_any (C : List (Nat × Nat)) (hC : ∀ p ∈ C, p.1 < p.2) (so : List Int) (hs : ∀ x ∈ so, 0 ≤ x ∧ x < 100) (W : World) (g c N : Nat) (hN : C.length = N) (hN2 : N ≤ 98) (hcap : N ≤ c) (hg : g < W.heap.size) (hcell : ∀ i, i < N → W.cell? ⟨g, i * 2, none⟩ = some (.int .i64 ((C.getD i (0, 0)).1 : Int)) ∧ W.cell? ⟨g, i * 2 + 1, none⟩ = some (.int .i64 ((C.getD i (0, 0)).2 : Int)))
    (u : Value) (m : Nat) (hu : Sees W u m (vals so)) (hm : m ≤ 7) :
    Calls Tryz.prog 108 #[.slice (some ⟨g, 0, none⟩) N c, u] W fun e w' => ∃ b, e = .returned (.map (some b)) ∧ UseMap w' b (inUse C so) ∧ W.heap.size ≤ b ∧ Below W.heap.size W w' := by
  have hl : so.length = m := by simpa using hu.1
  have HU := Go.Lib.hid hu
  have HC := Go.Lib.hid hcell
  have HL := Go.Lib.hid (And.intro hl (And.intro hN (And.intro hC hs)))
  have H0 : Hid (UseMap (W.alloc (.map #[] 0)) W.heap.size (inUse (C.take 0) so) ∧ Below W.heap.size W (W.alloc (.map #[] 0))) := Go.Lib.hid ⟨useMap_new W, (Below.refl _ _).alloc (Nat.le_refl _) _⟩
  obtain ⟨_, ad, cap, rfl, hcp, _⟩ := hu
  have hmm := @run_makeMap Tryz.prog
  clear hl hN hC hs hcell
  go_enter Tryz.func108, Tryz.ntmps108
  go_wp2
  go_loopw [11] (fun iv wr => ∃ (i : Nat), i ≤ N ∧ iv = .int .i64 (i : Int) ∧ Hid (UseMap wr W.heap.size (inUse (C.take i) so) ∧ Below W.heap.size W wr)) (fun iv _ => N - (intOf iv).toNat)
  case atStart => exact ⟨0, Nat.zero_le _, rfl, H0⟩
  case round =>
    obtain ⟨i, hiN, rfl, HX⟩ := hrel
    clear H0
    obtain ⟨wo, rfl⟩ : ∃ wo, wo = wr := ⟨_, rfl⟩
    by_cases hlt : i < N
    · obtain ⟨⟨p1, p2⟩, hp⟩ : ∃ p, C.getD i (0, 0) = p := ⟨_, rfl⟩
      have hc0 := (HX.out.2.cell (p := ⟨g, i * 2, none⟩) hg).trans (HC.out i hlt).1
      have hc1 := (HX.out.2.cell (p := ⟨g, i * 2 + 1, none⟩) hg).trans (HC.out i hlt).2
      rw [hp] at hc0 hc1
      simp only at hc0 hc1
      have hlti : (i : Int) < (N : Int) := by omega
      have hU := HX.out.1
      have hnx := inUse_next (so := so) (by have := HL.out.2.1; omega) hp
      rw [HL.out.1] at hnx
      simp only at hnx
      have hpm : p1 < p2 := HL.out.2.2.1 (p1, p2) (by rw [← hp]; have := HL.out.2.1; simp [show i < C.length by omega])
      have HB : Hid (Below W.heap.size W (wo.alloc (.cells #[.int .i64 (p1 : Int), .int .i64 (p2 : Int)] 26))) := Go.Lib.hid (HX.out.2.alloc HX.out.2.size _)
      clear hp
      by_cases he : p2 = m
      · subst he
        rw [if_pos rfl] at hnx
        obtain ⟨b2, o2, cap2, e2, _, _, hbl2, hcell2⟩ := sees_cells HU.out (by omega)
        cases e2
        obtain ⟨x, hx⟩ : ∃ x, so.getD p1 0 = x := ⟨_, rfl⟩
        have hcx : (wo.alloc (.cells #[.int .i64 (p1 : Int), .int .i64 (p2 : Int)] 26)).cell? ⟨b2, o2 + p1, none⟩ = some (.int .i64 x) := by
          rw [← hx]; exact (HB.out.cell (p := ⟨b2, o2 + p1, none⟩) hbl2).trans (hcell2 p1 (by have := HL.out.1; omega))
        have hxw := small_wf (HL.out.2.2.2 x (by rw [← hx]; have := HL.out.1; simp [show p1 < so.length by omega]))
        rw [hx] at hnx
        obtain ⟨n, D, h1, h2, h3, h4⟩ := hU
        have hkey : keyOf Tryz.prog 3 (.int .i64 x) = some (.int .i64 x) := keyOf_int_mk Tryz.underlying3 hxw
        have hn98 : n ≤ 98 := by
          have h5 : (inUse (C.take i) so).length ≤ i := by
            unfold inUse
            rw [List.length_map]
            refine Nat.le_trans (List.length_filter_le _ _) ?_
            rw [List.length_take]; omega
          omega
        have hmap := h1.alloc (.cells #[.int .i64 (p1 : Int), .int .i64 (p2 : Int)] 26)
        have HM := Go.Lib.hid (And.intro hnx (And.intro hxw (And.intro h2 (And.intro h3 h4))))
        clear hnx hx hcell2 h1 h2 h3 h4 hxw
        go_wp2_with (at_mapUpdate; refine wpList_mapUpdate_own _ rfl _ _ _ 109 rfl 3 4 keyedI Tryz.underlying109 (plainElem Tryz.prog 4) W.heap.size n D rfl hmap (by unfold maxLen; omega) _ _ (.int .i64 x) rfl rfl hkey (.lit (.bool true)) [] (plainElem_bool Tryz.underlying4 true) ?_; intro w3 hown3 hgrow3)
        have HN : Hid (UseMap w3 W.heap.size (inUse (C.take (i + 1)) so) ∧ Below W.heap.size W w3) := Go.Lib.hid ⟨by
          rw [HM.out.1]; exact UseMap.put HM.out.2.1 HM.out.2.2.1 HM.out.2.2.2.1 HM.out.2.2.2.2 hown3, HB.out.grown hgrow3 HB.out.size (fun q hq => by cases hq; exact Nat.le_refl _)⟩
        go_roundw
        case rel => exact ⟨i + 1, by omega, by go_num, HN⟩
        case measure => simp [intOf]; omega
      · rw [if_neg he, List.append_nil] at hnx
        have e1 : ((p2 : Int) == (m : Int)) = false := by rw [beq_eq_false_iff_ne]; omega
        have e1n : (p2 == m) = false := by rw [beq_eq_false_iff_ne]; exact he
        have HN : Hid (UseMap (wo.alloc (.cells #[.int .i64 (p1 : Int), .int .i64 (p2 : Int)] 26)) W.heap.size (inUse (C.take (i + 1)) so) ∧ Below W.heap.size W (wo.alloc (.cells #[.int .i64 (p1 : Int), .int .i64 (p2 : Int)] 26))) := Go.Lib.hid ⟨by
          rw [hnx]; exact hU.kept (World.grownBy_alloc wo _ none) (by simp), HB.out⟩
        clear hnx hU he
        go_wp2_with fail
        go_roundw
        case rel => exact ⟨i + 1, by omega, by go_num, HN⟩
        case measure => simp [intOf]; omega
    · have hiN2 : i = N := by omega
      have HF : Hid (UseMap wo W.heap.size (inUse C so) ∧ Below W.heap.size W wo) := Go.Lib.hid (by
        have h1 := HX.out
        rw [List.take_of_length_le (by have := HL.out.2.1; omega)] at h1
        exact h1)
      have hlti : ¬ (i : Int) < (N : Int) := by omega
      clear hiN2
      go_wp2_with fail
      go_ret
      exact ⟨W.heap.size, rfl, HF.out.1, Nat.le_refl _, HF.out.2⟩

end Go.Proofs.YtnhhnffolmgceabGreat.UseC

end
